/-
  A runtime: Parked.
-/
import Derived.Test.YtgjpbekmkhanhaaGreatQkb62e0d9c
import Derived.Test.YtgjpbekmkhanhaaGreatCli
import Derived.Sort.OwnSortedInts
namespace Go.Proofs.YtgjpbekmkhanhaaGreat
open Go.RowKit QI
set_option maxRecDepth 100000
set_option linter.unusedSimpArgs false

section
variable {P : Program} {w w' : World} {ops : Array Oper} {rest : List Oper} {o : Oper} {a : Act} {Q : Exit → Act → World → Prop}
theorem wpList_append_run (hg : o.guard = none) (t : TypeId) (m x : Operand) (hop : o.op = Op.call { callee := Callee.builtin Builtin.append, args := #[m, x], argTypes := #[t, t] }) (mv key v : Value) (hm : a.eval m = mv) (hx : a.eval x = key) (hrun : (Builtin.append_ #[t, t] o.type #[mv, key]).run P w = .ok v w')
    (hK : wpList P ops Q rest (a.put o.dst v) w') : wpList P ops Q (o :: rest) a w := by
  refine wpList_plain hg fun K' hK' => ?_
  unfold Oper.wp
  simp [execOp, hop, resolve, invoke, builtin, hm, hx, hrun, Result.andThen]
  exact hK' _ _ hK
end

theorem left_heap {w w' : World} {b r : Nat} (hb : w'.heap[b]? = w.heap[b]?) (hr : w'.heap[r]? = w.heap[r]?) : w'.rangeLeft b r = w.rangeLeft b r := by
  unfold World.rangeLeft
  rw [hb, hr]

theorem ranges_heap {w w' : World} {kt : TypeId} {b r n : Nat} {D : DataW Value} {left : Lit → Bool} {cnt : Nat} (h : w.ranges Tryz.prog kt hold b r n D left cnt) (hb : w'.heap[b]? = w.heap[b]?) (hr : w'.heap[r]? = w.heap[r]?) : w'.ranges Tryz.prog kt hold b r n D left cnt := by
  obtain ⟨es, clock, since, seen, c0, h1, h2, h3, h4, h5, h6⟩ := h
  exact ⟨es, clock, since, seen, c0, hb.trans h1, h2, h3, h4, hr.trans h5, h6⟩

/-- A range over a map of tasks under way: ps have come, qs are to come; r is the iterator's block. -/
structure Ri (w : World) (M r : Nat) (f : Int → Nat) (all ps qs : List Int) : Prop where
  nd : all.Nodup
  ix : ∀ x ∈ all, I6 x
  perm : (ps ++ qs).Perm all
  ex : ∃ D left cnt, w.ranges Tryz.prog 3 hold M r (Maps.size D) D left cnt ∧ (∀ k ∈ all, ∀ z, D.atKey (.int .i64 k) z = .held (.pointer (some ⟨f k, 0, none⟩))) ∧ ∀ k, I6 k → (left (.int .i64 k) = true ↔ k ∈ qs)

section
variable {w w' : World} {M r : Nat} {f : Int → Nat} {all ps qs : List Int}
theorem Ri.lt (h : Ri w M r f all ps qs) : M < w.heap.size ∧ r < w.heap.size := by
  obtain ⟨D, left, cnt, h1, _⟩ := h.ex
  exact ⟨h1.owns.lt, h1.lt⟩
theorem Ri.tb {S : Nat → Prop} (h : Ri w M r f all ps qs) (hb : Tb S w w') (h1 : ¬ S M) (h2 : ¬ S r) : Ri w' M r f all ps qs := by
  have hl := h.lt
  obtain ⟨D, left, cnt, e1, e2⟩ := h.ex
  exact ⟨h.nd, h.ix, h.perm, D, left, cnt, ranges_heap e1 (hb.block M hl.1 h1) (hb.block r hl.2 h2), e2⟩
theorem Mt.range (h : Mt w M all f) (hn : all.Nodup) (hx : ∀ x ∈ all, I6 x) :
    ∃ w', (Instr.range (59 : TypeId) (.map (some M))).run Tryz.prog w = .ok (.pointer (some ⟨w.heap.size, 0, none⟩)) w' ∧ Ri w' M w.heap.size f all [] all ∧ Tb (fun _ => False) w w' ∧ w'.heap.size = w.heap.size + 1 := by
  obtain ⟨D, g1, g2, g3⟩ := h.ex
  obtain ⟨w', hrun, r1, r2, r3⟩ := g1.own.range K3 Tryz.underlying59
  refine ⟨w', hrun, ⟨hn, hx, List.Perm.refl _, D, _, _, r1, fun k hk => ?_, fun k hk => ?_⟩, Tb.of_grown r2 (fun k e => by cases e), r3⟩
  · have h4 := g3 k (hx k hk)
    rw [if_pos hk] at h4
    rcases g1.at K3 (key3 (hx k hk)) with ⟨_, q, _⟩ | ⟨u, q1, q2, _⟩
    · rw [q] at h4; cases h4
    · rw [q2] at h4; cases h4; exact q1
  · rw [has_gt g1 K3 (key3 hk), g3 k hk]
    by_cases hm : k ∈ all <;> simp [hm]
/-- The step of the range. -/
theorem wpList_next_tasks {ops : Array Oper} {rest : List Oper} {o : Oper} {a : Act} {Q : Exit → Act → World → Prop} (h : Ri w M r f all ps qs) (hg : o.guard = none) (it : Operand) (hop : o.op = Op.next it false) (hit : a.eval it = .pointer (some ⟨r, 0, none⟩))
    (hDone : qs = [] → wpList Tryz.prog ops Q rest (a.put o.dst (.tuple #[.bool false])) w)
    (hMore : ∀ (k : Int) (w' : World) (qs' : List Int), I6 k → k ∈ all → Ri w' M r f all (ps ++ [k]) qs' → w'.rangeLeft M r < w.rangeLeft M r →
      Tb (fun k => k = r) w w' → w'.heap.size = w.heap.size → (Instr.entry (.pointer (some ⟨r, 0, none⟩))).run Tryz.prog w' = .ok (.tuple #[.int .i64 k, .pointer (some ⟨f k, 0, none⟩)]) w' → wpList Tryz.prog ops Q rest (a.put o.dst (.tuple #[.bool true, .int .i64 k, .pointer (some ⟨f k, 0, none⟩)])) w') :
    wpList Tryz.prog ops Q (o :: rest) a w := by
  obtain ⟨D, left, cnt, e1, e2, e3⟩ := h.ex
  refine wpList_plain hg fun K' hK' => ?_
  unfold Oper.wp
  rcases e1.next K3 o.type with ⟨h0, hl, hrun⟩ | ⟨key, v, kl, y, w', cnt', hkey, hlk, hv, hat, hrun, hrg, hlt, hgr, hsz, hen⟩
  · simp [execOp, hop, hit, hrun, Result.andThen]
    refine hK' _ _ (hDone ?_)
    cases qs with
    | nil => rfl
    | cons p qs =>
      have hp : p ∈ all := h.perm.mem_iff.1 (by simp)
      have := (e3 p (h.ix _ hp)).2 (by simp)
      rw [hl] at this
      cases this
  · obtain ⟨k, rfl, rfl, hw⟩ := Maps.keyOf_int_inv Tryz.underlying3 hkey
    have hk : I6 k := by
      simp [Lit.wf, IntKind.min, IntKind.max, IntKind.signed, IntKind.bits] at hw
      exact ⟨by omega, by omega⟩
    have hkq := (e3 k hk).1 hlk
    have hin : k ∈ all := h.perm.mem_iff.1 (List.mem_append_right _ hkq)
    have hvu : v = .pointer (some ⟨f k, 0, none⟩) := by
      have h1 : hold v = some (.held v, []) := rfl
      rw [h1] at hv
      cases hv
      have := hat (.nil)
      rw [e2 k hin] at this
      cases this
      rfl
    subst hvu
    have tw : Tb (fun k => k = r) w w' := Tb.of_grown hgr (fun k e => by simpa using e.symm)
    have hnq : qs.Nodup := (List.nodup_append.1 (h.perm.nodup_iff.2 h.nd)).2.1
    have hperm : (ps ++ [k] ++ qs.erase k).Perm all := by
      refine List.Perm.trans ?_ h.perm
      rw [List.append_assoc]
      exact List.Perm.append_left ps (List.perm_cons_erase hkq).symm
    simp [execOp, hop, hit, hrun, Result.andThen]
    refine hK' _ _ (hMore k w' _ hk hin ⟨h.nd, h.ix, hperm, D, _, cnt', hrg, e2, fun k' hk' => ?_⟩ ?_ tw hsz hen)
    · have hsk : (Lit.int .i64 k').sameKey (.int .i64 k) = decide (k' = k) := by
        by_cases e : k' = k
        · subst e
          rw [WideAt.sameKey_self (K3.key (key3 hk))]
          simp
        · rw [Maps.sameKey_ne (by simpa using e)]
          simp [e]
      simp only [hsk, Bool.and_eq_true, Bool.not_eq_true', decide_eq_false_iff_not, hnq.mem_erase_iff, e3 k' hk']
      exact ⟨fun h => ⟨h.2, h.1⟩, fun h => ⟨h.2, h.1⟩⟩
    · rw [hrg.left_eq, e1.left_eq]
      exact hlt
end

theorem own_base {w : World} {base base' n size : Nat} {e : TypeId} {v : Value} {xs : List Value} (h : w.ownsRow base e size v n xs) (hb : base' ≤ base) : w.ownsRow base' e size v n xs := by
  refine ⟨h.1, ?_⟩
  rcases h.2 with hn | ⟨g, cap, cur, e1, hbg, rest⟩
  · exact .inl hn
  · exact .inr ⟨g, cap, cur, e1, Nat.le_trans hb hbg, rest⟩

/-- Sort of a row of one's own. -/
theorem sort_own {w : World} {base n : Nat} {p : Option Addr} {cap : Nat} {xs : List Int} (h : w.ownsRow base 3 1 (.slice p n cap) n (W xs)) (hl : n < 4611686018427387904) :
    Calls Tryz.prog 91 #[.slice p n cap] w fun e w' => e = .returned (.tuple #[]) ∧ w'.ownsRow base 3 1 (.slice p n cap) n (W (xs.mergeSort fun x y => decide (x ≤ y))) ∧ w.grownBy w' (Value.slice p n cap).ownBlock := by
  have hn : xs.length = n := by
    have := h.1
    rw [W_length] at this
    omega
  subst hn
  rcases h.2 with ⟨e, e2⟩ | ⟨g, c, cur, e, hbg, hh, h1, h2, h3, h4⟩
  · obtain rfl : xs = [] := List.eq_nil_of_length_eq_zero (by omega)
    simp only [List.length_nil, Value.slice.injEq] at e
    obtain ⟨rfl, _, rfl⟩ := e
    refine (AnyM.slices_Sort_int_none laysInt none 0 w).mono ?_
    rintro e w' ⟨rfl, rfl⟩
    exact ⟨rfl, by simpa using h, World.grownBy.refl _ _⟩
  · simp only [Value.slice.injEq] at e
    obtain ⟨rfl, _, rfl⟩ := e
    rw [Nat.mul_one] at h4
    refine (AnyM.slices_Sort_int laysInt g 0 cap xs w (holds_of_blockI hh h4) (heap_lt hh) hl).mono ?_
    rintro e w' ⟨rfl, m, os, rfl⟩
    exact ⟨rfl, ownsRow_sortedI (by simp) hbg hh h1 h2 h3, grownBy_sortedI _⟩

theorem mergeSort_perm_eq {l l' : List Int} (h : l.Perm l') (hs : l'.Pairwise (· < ·)) : l.mergeSort (fun x y => decide (x ≤ y)) = l' := by
  have hp : (l.mergeSort (fun x y => decide (x ≤ y))).Perm l' := (List.mergeSort_perm _ _).trans h
  refine hp.eq_of_pairwise (le := fun x y => x ≤ y) (fun a b _ _ h1 h2 => Int.le_antisymm h1 h2) ?_ (hs.imp (fun h => by omega))
  refine (List.pairwise_mergeSort (le := fun x y => decide (x ≤ y)) ?_ ?_ l).imp (fun h => by simpa using h)
  · intro a b c h1 h2
    simp only [decide_eq_true_eq] at *
    omega
  · intro a b
    simp only [Bool.or_eq_true, decide_eq_true_eq]
    omega

/-- Whether a task is parked. -/
def Rs.pk (s : Rs) (k : Int) : Bool := (s.ts[k.toNat]?.map fun t => on t.wk).getD false
def Rs.parked (s : Rs) : List Int := ((List.range s.ts.length).map Int.ofNat).filter s.pk

theorem parked_rises (s : Rs) : s.parked.Pairwise (· < ·) := by
  refine List.Pairwise.filter _ (List.pairwise_map.2 (List.pairwise_lt_range.imp (fun h => ?_)))
  exact Int.ofNat_lt.2 h
theorem lives_parked (s : Rs) : (s.lives.filter s.pk).Perm s.parked := by
  refine (List.perm_ext_iff_of_nodup (lives_nodup.filter _) ((parked_rises s).imp (fun h => by omega))).2 (fun x => ?_)
  simp only [List.mem_filter, Rs.parked, mem_lives, List.mem_map, List.mem_range]
  constructor
  · rintro ⟨⟨i, rfl, h1, h2⟩, h3⟩
    exact ⟨⟨i, h1, rfl⟩, h3⟩
  · rintro ⟨⟨i, h1, rfl⟩, h3⟩
    refine ⟨⟨i, rfl, h1, ?_⟩, h3⟩
    have hi : s.ts[i]? = some s.ts[i] := List.getElem?_eq_getElem h1
    rw [live_goes hi]
    have : on s.ts[i].wk = true := by simpa [Rs.pk, hi] using h3
    simp [Tc.goes, this]

/-- What holds ahead of each round of Parked's loop. -/
structure PkI (w wr : World) (M : Nat) (f : Int → Nat) (all : List Int) (pk : Int → Bool) (ps qs : List Int) (p : Option Addr) (n cap : Nat) : Prop where
  ri : Ri wr M w.heap.size f all ps qs
  own : wr.ownsRow (w.heap.size + 1) 3 1 (.slice p n cap) n (W (ps.filter pk))
  bel : Below w.heap.size w wr
  big : w.heap.size + 1 ≤ wr.heap.size

theorem PkI.n {w wr : World} {M : Nat} {f : Int → Nat} {all : List Int} {pk : Int → Bool} {ps qs : List Int} {p : Option Addr} {n cap : Nat} (h : PkI w wr M f all pk ps qs p n cap) : (ps.filter pk).length = n := by
  have := h.own.1
  rw [W_length] at this
  omega
theorem PkI.few {w wr : World} {M : Nat} {f : Int → Nat} {all : List Int} {pk : Int → Bool} {ps qs : List Int} {p : Option Addr} {n cap : Nat} (h : PkI w wr M f all pk ps qs p n cap) : n ≤ all.length := by
  rw [← h.n]
  have := h.ri.perm.length_eq
  rw [List.length_append] at this
  have := List.length_filter_le pk ps
  omega

set_option maxHeartbeats 1000000 in
theorem parked_any {w : World} {a : Ad} {s : Rs} (h : Rt w a s) : Calls Tryz.prog 53 #[.pointer (some ⟨a.R, 0, none⟩)] w fun e w' => ∃ p cap, e = .returned (.slice p s.parked.length cap) ∧ w'.ownsRow w.heap.size 3 1 (.slice p s.parked.length cap) s.parked.length (W s.parked) ∧ Below w.heap.size w w' := by
  have C := rmade_yes (b := a.R) (h.m.cR 0)
  have c2 : w.cell? ⟨a.R, 2, none⟩ = some (.map (some a.M)) := h.m.cR 2
  have hix : ∀ x ∈ s.lives, I6 x := fun x hx => by
    obtain ⟨i, rfl, hi, _⟩ := mem_lives.1 hx
    have := h.ok.many
    unfold I6
    omega
  obtain ⟨X, hrun, ri, tX, hXs⟩ := h.m.mp.range lives_nodup hix
  have bX : Below w.heap.size w X := tX.below (fun i h => h.elim) (Nat.le_refl _)
  have hT : Hid (∀ k ∈ s.lives, ∃ v, Fv v ∧ on v = s.pk k ∧ ∀ V, Below w.heap.size w V → V.cell? ⟨s.adr k.toNat, 4, none⟩ = some v) := hide (fun k hk => by
    obtain ⟨i, rfl, hi, _⟩ := mem_lives.1 hk
    have hti : s.ts[i]? = some s.ts[i] := List.getElem?_eq_getElem hi
    refine ⟨s.ts[i].wk, (h.ok.fv _ (List.mem_of_getElem? hti)).2, by simp [Rs.pk, hti], fun V hV => ?_⟩
    simp only [Int.toNat_natCast]
    rw [adr_of hti]
    exact (h.m.below hV).cT hti 4)
  have hPk := hide (lives_parked s)
  have hroom := h.ok.room
  have HS : Hid (PkI w X a.M (fun k => s.adr k.toNat) s.lives s.pk [] s.lives none 0 0) := hide ⟨ri, ⟨by simp [W], .inl ⟨rfl, rfl⟩⟩, bX, by omega⟩
  have hris := hide (parked_rises s)
  have hML := hide h.m.mp.lt
  clear ri tX bX hXs h hix
  obtain ⟨r, hr⟩ : ∃ r, Hid (r = a.R) := ⟨_, hide rfl⟩
  obtain ⟨M, hM⟩ : ∃ M, Hid (M = a.M) := ⟨_, hide rfl⟩
  obtain ⟨ad, had⟩ : ∃ ad : Int → Nat, Hid (ad = fun k => s.adr k.toNat) := ⟨_, hide rfl⟩
  have hT2 : Hid (∀ k ∈ s.lives, ∃ v, Fv v ∧ on v = s.pk k ∧ ∀ V, Below w.heap.size w V → V.cell? ⟨ad k, 4, none⟩ = some v) := by rw [had.out]; exact hT
  obtain ⟨I, hI⟩ : ∃ I, Hid (I = w.heap.size) := ⟨_, hide rfl⟩
  rw [← hr.out] at C c2 ⊢
  rw [← hM.out] at c2 hrun HS hML
  rw [← had.out] at HS
  rw [← hI.out] at hrun
  clear hT
  generalize s.lives = all at *
  generalize s.pk = pk at *
  generalize s.parked = out at *
  obtain ⟨t3, ht3⟩ := Option.map_eq_some_iff.1 infoE
  simp only [Prod.mk.injEq] at ht3
  go_enter Tryz.func53, Tryz.ntmps53
  go_wp2_with fail
  refine C.mono ?_
  rintro e w1 ⟨rfl, hw1⟩
  subst w1
  go_wp2_with fail
  go_loopw [3] (fun v wr => ∃ (ps qs : List Int) (p : Option Addr) (n cap : Nat), v = .slice p n cap ∧ Hid (PkI w wr M ad all pk ps qs p n cap)) (fun _ wr => wr.rangeLeft M I)
  case atStart => exact ⟨[], all, none, 0, 0, rfl, HS⟩
  case round =>
    obtain ⟨ps, qs, p, n, cap, rfl, hpk⟩ := hrel
    have HRI : Hid (Ri wr M I ad all ps qs) := hide (by rw [hI.out]; exact hpk.out.ri)
    go_wp2_with (at_next; refine wpList_next_tasks HRI.out rfl (.tmp 13) rfl rfl ?_ ?_)
    · intro hq
      subst hq
      have hfw := hpk.out.few
      have CS := sort_own hpk.out.own (by omega)
      have HF : Hid (∀ w', w'.ownsRow (w.heap.size + 1) 3 1 (.slice p n cap) n (W ((ps.filter pk).mergeSort fun x y => decide (x ≤ y))) → wr.grownBy w' (Value.slice p n cap).ownBlock → n = out.length ∧ w'.ownsRow w.heap.size 3 1 (.slice p n cap) n (W out) ∧ Below w.heap.size w w') := hide (fun w' ho hg => by
        have hp := hpk.out.ri.perm
        rw [List.append_nil] at hp
        have e := mergeSort_perm_eq ((hp.filter pk).trans hPk.out) hris.out
        rw [e] at ho
        have h1 := ho.1
        rw [W_length] at h1
        refine ⟨by omega, own_base ho (by omega), hpk.out.bel.trans ?_⟩
        exact (Tb.of_grown (S := fun k => w.heap.size ≤ k) hg (fun k hk => by have := (hpk.out.own.lt k hk).1; omega)).below (fun _ h => h) hpk.out.bel.size)
      have HCS := hide CS
      clear CS hfw hroom
      go_wp2_with fail
      refine HCS.out.mono ?_
      rintro e w2 ⟨rfl, ho, hg⟩
      obtain ⟨q1, q2, q3⟩ := HF.out w2 ho hg
      have HQ := hide q2
      have HB := hide q3
      have HN := hide q1
      clear ho hg q1 q2 q3 HF HCS
      go_wp2_with fail
      go_ret
      rw [← HN.out]
      exact ⟨p, cap, rfl, HQ.out, HB.out⟩
    · intro k w' qs' hk hin hri hlt htb hsz hen
      obtain ⟨v, hfv, hon, hcell⟩ := hT2.out k hin
      have hbw' : Below w.heap.size w w' := hpk.out.bel.trans (htb.below (fun i e => by rw [e, hI.out]; exact Nat.le_refl _) hpk.out.bel.size)
      have c4 := hcell w' hbw'
      have e1 := neq_func (P := Tryz.prog) (w := w') hfv Tryz.underlying128
      have ow' : w'.ownsRow (w.heap.size + 1) 3 1 (.slice p n cap) n (W (ps.filter pk)) := row_tb hpk.out.own htb (fun g hg e => by have := (hpk.out.own.lt g hg).1; have := hI.out; omega)
      have hri' : Ri w' M w.heap.size ad all (ps ++ [k]) qs' := by rw [← hI.out]; exact hri
      have hfw := hpk.out.few
      rw [hon] at e1
      have HLT := hide hlt
      cases hpkk : pk k
      · have HF : Hid (PkI w w' M ad all pk (ps ++ [k]) qs' p n cap) := hide ⟨hri', by simpa [List.filter_append, hpkk] using ow', hbw', by have := hpk.out.big; omega⟩
        rw [hpkk] at e1
        clear hri hri' ow' hbw' htb hlt hon hcell hfw hroom hsz
        generalize ad k = ak at *
        rcases hfv with rfl | ⟨f1, x1, y1, rfl⟩ <;>
        · go_wp2_with fail
          go_roundw
          case rel => exact ⟨ps ++ [k], qs', p, n, cap, rfl, HF⟩
          case measure => exact HLT.out
      · obtain ⟨Y, hY⟩ : ∃ Y, Hid (Y = w'.alloc (.cells #[.int .i64 k] 3)) := ⟨_, hide rfl⟩
        have bY : Below w'.heap.size w' Y := by rw [hY.out]; exact (Below.refl _ w').alloc (Nat.le_refl _) _
        have hYg : Y.heap[w'.heap.size]? = some (.cells #[.int .i64 k] 3 (0, 0)) := by rw [hY.out]; exact heap_alloc_new w' _
        have owY : Y.ownsRow (w.heap.size + 1) 3 1 (.slice p n cap) n (W (ps.filter pk)) := row_tb (S := fun _ => False) ow' (Tb.of_fresh bY) (fun _ _ h => h)
        have hbig := hpk.out.big
        have hap : ∀ ty, ∃ v' w2, (Builtin.append_ #[(23 : TypeId), (23 : TypeId)] ty #[.slice p n cap, .slice (some ⟨w'.heap.size, 0, none⟩) 1 1]).run Tryz.prog Y = .ok v' w2 ∧ w2.ownsRow (w.heap.size + 1) 3 1 v' (n + 1) (W (ps.filter pk) ++ [.int .i64 k]) ∧ Y.grownBy w2 (Value.slice p n cap).ownBlock := fun ty => by
          obtain ⟨v', w2, q1, q2, q3, _⟩ := run_append_own_at (P := Tryz.prog) Y (w.heap.size + 1) (23 : TypeId) ty 3 t3 ((Value.int .i64) 0) 1 8 Tryz.underlying23 ht3.1 ht3.2.1 ht3.2.2.1 ht3.2.2.2 (by simp [Value.cells]) (by omega) (.slice p n cap) n _ owY ⟨w'.heap.size, 0, none⟩ 1 1 [.int .i64 k] rfl (fun j u hj => by
            cases j with
            | zero => simp at hj; subst hj; rw [Addr.add_lit]; exact cell_of_row Y _ 0 _ _ _ hYg
            | succ j => simp at hj) (by simp [Value.oneCell']) (by unfold maxLen; omega) (by omega) (by have := bY.size; omega)
          exact ⟨v', w2, q1, q2, q3⟩
        obtain ⟨v', w2, q1, q2, q3⟩ := hap (23 : TypeId)
        obtain ⟨p2, cap2, rfl⟩ := row_val q2
        have tw2 : Tb (fun g => (Value.slice p n cap).ownBlock = some g) w' w2 := (Tb.of_fresh (S := fun g => (Value.slice p n cap).ownBlock = some g) bY).trans (Tb.of_grown (S := fun g => (Value.slice p n cap).ownBlock = some g) q3 (fun g e => e)) (fun _ _ e => e)
        have hgn : ∀ g, (Value.slice p n cap).ownBlock = some g → w.heap.size + 1 ≤ g := fun g hg => (ow'.lt g hg).1
        have hnM : ¬ (Value.slice p n cap).ownBlock = some M := fun e => by
          have h1 := hgn _ e
          have h2 := hML.out
          omega
        have HLT2 : Hid (w2.rangeLeft M I < wr.rangeLeft M I) := hide (by
          have hl := hri'.lt
          rw [left_heap (tw2.block M hl.1 hnM) (tw2.block I (by rw [hI.out]; exact hl.2) (fun e => by have := hgn _ e; have := hI.out; omega))]
          exact HLT.out)
        have HF : Hid (PkI w w2 M ad all pk (ps ++ [k]) qs' p2 (n + 1) cap2) := hide ⟨hri'.tb tw2 hnM (fun e => by have := hgn _ e; omega), by simpa [List.filter_append, hpkk, W_append, W] using q2, hbw'.trans (tw2.below (fun i e => by have := hgn i e; omega) hbw'.size), by have := tw2.size; omega⟩
        rw [hpkk] at e1
        have HWs : Hid (w'.heap.size = w'.heap.size) := hide rfl
        obtain ⟨gY, hgY⟩ : ∃ gY, Hid (gY = w'.heap.size) := ⟨_, hide rfl⟩
        rw [← hgY.out] at q1
        have HgY : Hid (w'.heap.size = gY) := hide hgY.out.symm
        clear hri hri' ow' hbw' htb hlt hon hcell hfw hroom hsz tw2 hgn q2 q3 owY hYg bY hap hnM
        generalize ad k = ak at *
        rcases hfv with rfl | ⟨f1, x1, y1, rfl⟩ <;>
        · go_wp2_with (first | (rw [← hY.out, HgY.out]) | (at_builtin; refine wpList_append_run rfl (23 : TypeId) _ _ rfl (.slice p n cap) (.slice (some ⟨gY, 0, none⟩) 1 1) (.slice p2 (n + 1) cap2) (by simp [Act.eval]) (by simp [Act.eval]) q1 ?_))
          go_roundw
          case rel => exact ⟨ps ++ [k], qs', p2, n + 1, cap2, rfl, HF⟩
          case measure => exact HLT2.out

end Go.Proofs.YtgjpbekmkhanhaaGreat

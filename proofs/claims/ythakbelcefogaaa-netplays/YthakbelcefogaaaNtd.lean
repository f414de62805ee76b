/-
  New, List, Copy.
-/
import Derived.Test.YthakbelcefogaaaNtc
import Derived.Test.YthakbelcefogaaaNli
import Derived.Deep.RegionHeld3
namespace Go.Proofs.Ythakbelcefogaaa
open Go.RowKit Go.Maps Go.Sort Go.Shelf
set_option maxRecDepth 100000

theorem built56 (M : Nat) (l : Int) : Try.prog.built (56 : TypeId) [(1, .map (some M)), (2, .int .i64 l)] = some #[.pointer none, .map (some M), .int .i64 l] := by kernel_rfl

set_option maxHeartbeats 1000000 in
theorem netOf_any (w : World) (M : Nat) (l : Int) :
    Calls Try.prog 31 #[.map (some M), .int .i64 l] w fun e w' => e = .returned (.pointer (some ⟨w.heap.size, 0, none⟩)) ∧ w' = w.alloc (.cells (ncs w.heap.size M l) (56 : TypeId)) := by
  go_enter Try.func31, Try.ntmps31
  go_wp2_with (refine wpList_buildTo rfl (56 : TypeId) #[(1, .tmp 6), (2, .tmp 7)] rfl (some 8) rfl #[.pointer none, .map (some M), .int .i64 l] (by simpa [Act.eval] using built56 M l) ?_)
  go_ret
  exact ⟨rfl, rfl⟩

theorem mk54 (W : World) : (Instr.makeMap (54 : TypeId) none).run Try.prog W = .ok (.map (some W.heap.size)) (W.alloc (.map #[] 0)) := run_makeMap _ _

set_option maxHeartbeats 1000000 in
theorem new_any (w : World) : Calls Try.prog 9 #[] w fun e w' => ∃ R M, e = .returned (.pointer (some ⟨R, 0, none⟩)) ∧ w.heap.size ≤ R ∧ w.heap.size ≤ M ∧ Nw w' R M newNt ∧ Below w.heap.size w w' := by
  have m1 := mk54
  go_enter Try.func9, Try.ntmps9
  go_wp2_with fail
  refine (netOf_any _ _ _).mono ?_
  rintro e w2 ⟨rfl, rfl⟩
  go_wp2_with fail
  go_ret
  refine ⟨w.heap.size + 1, w.heap.size, by simp, by omega, Nat.le_refl _, ⟨newNt_ok, ?_, .map [], ?_, rfl, fun k _ => rfl⟩, ((Below.refl _ w).alloc (Nat.le_refl _) _).alloc (by simp) _⟩
  · have := heap_alloc_new (w.alloc (.map #[] 0)) (.cells (ncs (w.alloc (.map #[] 0)).heap.size w.heap.size 0) (56 : TypeId))
    simpa [newNt] using this
  · exact (Mp.of (World.ownsMap_made w Try.prog 3 hold)).heap (Below.heap_alloc _ _ _ (by simp))

/-- The keys of a net's map are its numbers. -/
theorem keys_net {w : World} {M : Nat} {D : DataW Value} {m : List (Int × Pk)} (hD : Mp w 3 M D) (hu : Un m) (hi : ∀ p ∈ m, I6 p.1) (hgt : ∀ k, I6 k → gt D (.int .i64 k) = (lk m k).map Pk.val) : (m.map (·.1)).Perm (intKeys D) := by
  obtain ⟨es, hDe, hpw, _⟩ := hD.own.entries K3
  obtain ⟨es', hDe', hko⟩ := hD.own.keysOf
  obtain rfl : es = es' := by rw [hDe] at hDe'; simpa using hDe'
  have hk : ∀ p ∈ es, ∃ x, p.1 = .int .i64 x := fun p hp => by obtain ⟨v, hv⟩ := hko p hp; obtain ⟨x, _, hx, _⟩ := Maps.keyOf_i64 Try.underlying3 hv; exact ⟨x, hx⟩
  have hperm := perm_intKeys (ss := m.map (·.1)) hpw hk (by show (m.map (·.1)).Nodup; exact List.pairwise_map.2 hu) (fun x => ?_)
  · rw [hDe]
    exact hperm
  · rw [← hDe]
    constructor
    · intro hx
      obtain ⟨p, hp, rfl⟩ := List.mem_map.1 hx
      cases hh : Maps.has D (.int .i64 p.1) with
      | true => rfl
      | false =>
        exfalso
        have h1 := Maps.atKey_of_not_has hh (.nil : DataW Value)
        have h2 : gt D (.int .i64 p.1) = none := by simp [gt, h1]
        rw [hgt _ (hi p hp)] at h2
        cases h3 : lk m p.1 with
        | none => exact lk_none_iff.1 h3 p hp rfl
        | some f => rw [h3] at h2; simp at h2
    · intro hx
      have hx' := hx
      rw [hDe, Maps.has_eq, List.any_eq_true] at hx'
      obtain ⟨p, hp, hs⟩ := hx'
      obtain ⟨y, hy⟩ := hk p hp
      rw [hy] at hs
      obtain rfl : y = x := by simpa [Lit.sameKey] using hs
      obtain ⟨v, hv⟩ := hko p hp
      rw [hy] at hv
      obtain ⟨x', hx1, hx2, hx3⟩ := Maps.keyOf_i64 Try.underlying3 hv
      have hI : I6 y := by
        have : y = x' := by simpa using hx2
        rw [this]
        unfold I6
        simp [Lit.wf, IntKind.min, IntKind.max, IntKind.signed, IntKind.bits] at hx3
        omega
      rcases hD.at K3 hv with ⟨_, _, h3⟩ | ⟨u, _, h3, _⟩
      · rw [hx] at h3; cases h3
      · rw [hgt _ hI] at h3
        cases h4 : lk m y with
        | none => rw [h4] at h3; cases h3
        | some f => exact List.mem_map.2 ⟨_, lk_mem h4, rfl⟩

theorem sorted_eq {l l' : List Int} (h : l.Perm l') (hs : l'.Pairwise (· < ·)) : l.mergeSort (fun x y => decide (x ≤ y)) = l' := by
  have e : l.mergeSort (fun x y => decide (x ≤ y)) = l'.mergeSort (fun x y => decide (x ≤ y)) := mergeSort_of_perm_i h
  rw [e]
  exact List.mergeSort_of_pairwise (hs.imp (fun hab => by simp; omega))

/-- A list of packets as they are answered. -/
structure Tr (w : World) (base : Nat) (v : Value) (ts : List Pt) (l : List (Int × Pk)) : Prop where
  row : w.ownsRow base (31 : TypeId) 4 v l.length (ts.flatMap Pt.cells)
  len : ts.length = l.length
  is : ∀ (i : Nat) (t : Pt) (q : Int × Pk), ts[i]? = some t → l[i]? = some q → t.Is w base q.1 q.2

theorem info31 : ∃ i z, Try.prog.info? (31 : TypeId) = some i ∧ i.zero = some z ∧ i.size = 4 ∧ i.bytes = 48 ∧ z.cells.size = 4 := by
  have h : (Try.prog.info? (31 : TypeId)).map (fun i => i.zero.map fun z => (i.size, i.bytes, z.cells.size)) = some (some (4, 48, 4)) := by kernel_rfl
  obtain ⟨i, hi, hz⟩ := Option.map_eq_some_iff.1 h
  obtain ⟨z, h1, h2⟩ := Option.map_eq_some_iff.1 hz
  simp only [Prod.mk.injEq] at h2
  exact ⟨i, z, hi, h1, h2⟩

theorem Pt.one (t : Pt) : ∀ u ∈ t.cells, u.oneCell' = true := by
  intro u hu
  simp only [Pt.cells, List.mem_cons, List.not_mem_nil, or_false] at hu
  rcases hu with rfl | rfl | rfl | rfl <;> rfl

theorem own_one (w : World) (cs : List Value) (size : Nat) (e : TypeId) (h : cs.length = size) : (w.alloc (.cells cs.toArray e)).ownsRow 0 e size (.slice (some ⟨w.heap.size, 0, none⟩) 1 1) 1 cs :=
  ⟨by omega, .inr ⟨_, 1, _, rfl, Nat.zero_le _, heap_alloc_new w _, Nat.le_refl _, by unfold maxLen; omega, by simp [h], by simp [← h]⟩⟩

section
variable {P : Program} {w w' : World} {ops : Array Oper} {rest : List Oper} {o : Oper} {a : Act} {Q : Exit → Act → World → Prop}
theorem wpList_append_run (hg : o.guard = none) (t : TypeId) (m x : Operand) (hop : o.op = Op.call { callee := Callee.builtin Builtin.append, args := #[m, x], argTypes := #[t, t] }) (mv key v : Value) (hm : a.eval m = mv) (hx : a.eval x = key) (hrun : (Builtin.append_ #[t, t] o.type #[mv, key]).run P w = .ok v w')
    (hK : wpList P ops Q rest (a.put o.dst v) w') : wpList P ops Q (o :: rest) a w := by
  refine wpList_plain hg fun K' hK' => ?_
  unfold Oper.wp
  simp [execOp, hop, resolve, invoke, builtin, hm, hx, hrun, Result.andThen]
  exact hK' _ _ hK
end

/-- One more packet is told: Y is what is there behind the telling. -/
theorem Tr.next {w Y : World} {base : Nat} {v : Value} {ts : List Pt} {l : List (Int × Pk)} {t : Pt} {q : Int × Pk} (h : Tr w base v ts l) (hb : base ≤ w.heap.size) (hY : Below w.heap.size w Y) (ht : t.Is Y w.heap.size q.1 q.2) (hl : l.length < 1000) :
    ∃ v' Z, (∀ ty, (Builtin.append_ #[(34 : TypeId), (34 : TypeId)] ty #[v, .slice (some ⟨Y.heap.size, 0, none⟩) 1 1]).run Try.prog (Y.alloc (.cells t.cells.toArray (31 : TypeId))) = .ok v' Z) ∧ Tr Z base v' (ts ++ [t]) (l ++ [q]) ∧ Below base w Z := by
  obtain ⟨i, z, hi, hz, h1, h2, h3⟩ := info31
  have hYs := hY.size
  have hrow : (Y.alloc (.cells t.cells.toArray (31 : TypeId))).ownsRow base (31 : TypeId) 4 v l.length (ts.flatMap Pt.cells) := row_tb h.row (Tb.of_fresh (S := fun _ => False) (hY.alloc hYs _)) (fun _ _ h => h)
  have hone := own_one Y t.cells 4 (31 : TypeId) rfl
  have hal : (Y.alloc (.cells t.cells.toArray (31 : TypeId))).heap.size = Y.heap.size + 1 := by simp
  obtain ⟨v', Z, hr, ho, hg, hw⟩ := run_append_rows (P := Try.prog) base (34 : TypeId) 0 (31 : TypeId) i z 4 48 Try.underlying34 hi hz h1 h2 h3 (by decide) v _ _ hrow _ 1 t.cells 0 hone t.one (by unfold maxLen; omega) (by omega) (by rw [hal]; omega)
  have hr' : ∀ ty, (Builtin.append_ #[(34 : TypeId), (34 : TypeId)] ty #[v, .slice (some ⟨Y.heap.size, 0, none⟩) 1 1]).run Try.prog (Y.alloc (.cells t.cells.toArray (31 : TypeId))) = .ok v' Z := fun ty => hr
  have hZs := hg.size
  rw [hal] at hZs
  have hbY : Below base w Y := hY.mono hb
  have hZ : Below base w Z := (hbY.alloc (by omega) _).grown hg (by omega) (fun k hk => (h.row.lt k hk).1)
  -- what a body stands on is no row of packets
  have hkeep : ∀ (X : World) (u : Pt) (k : Int) (p : Pk), u.Is X base k p → X.heap.size ≤ Y.heap.size → (∀ g, g < X.heap.size → Y.heap[g]? = X.heap[g]?) → u.Is Z base k p := by
    intro X u k p hu hX hXg
    obtain ⟨g, e1, e2, e3⟩ := hu.new
    have hgX := heap_lt e3
    have e4 : (Y.alloc (.cells t.cells.toArray (31 : TypeId))).heap[g]? = X.heap[g]? := (Below.heap_alloc _ _ _ (by omega)).trans (hXg g hgX)
    refine hu.heap (fun g' e1' _ _ => ?_)
    obtain rfl : g' = g := by rw [e1] at e1'; simpa using e1'.symm
    refine (hg.block g' (by omega) (fun e => ?_)).trans e4
    rcases hrow.2 with ⟨rfl, _⟩ | ⟨g2, c2, cur, rfl, _, hh, _⟩
    · cases e
    · simp only [Value.ownBlock, Option.some.injEq] at e
      rw [← e, e4, e3] at hh
      simp at hh
  refine ⟨v', Z, hr', ⟨?_, ?_, fun j u r hu hr => ?_⟩, hZ⟩
  · rw [List.length_append, List.flatMap_append, List.flatMap_singleton]
    exact ho
  · simp [h.len]
  · rcases Nat.lt_or_ge j l.length with hj | hj
    · rw [List.getElem?_append_left (by rw [h.len]; exact hj)] at hu
      rw [List.getElem?_append_left hj] at hr
      exact hkeep w u _ _ (h.is j u r hu hr) hYs (fun g hg => hY.block g hg)
    · rw [List.getElem?_append_right (by rw [h.len]; exact hj), h.len] at hu
      rw [List.getElem?_append_right hj] at hr
      have h0 : j - l.length = 0 := by
        rcases Nat.eq_zero_or_pos (j - l.length) with h | h
        · exact h
        · rw [List.getElem?_eq_none (by simp; omega)] at hr
          cases hr
      rw [h0] at hu hr
      simp only [List.getElem?_cons_zero, Option.some.injEq] at hu hr
      subst hu hr
      refine hkeep Y t _ _ ⟨ht.no, ht.fr, ht.to, ht.bd, ?_⟩ (Nat.le_refl _) (fun _ _ => rfl)
      obtain ⟨g, e1, e2, e3⟩ := ht.new
      exact ⟨g, e1, by omega, e3⟩

theorem Pt.Is.less {w : World} {base base' : Nat} {t : Pt} {k : Int} {p : Pk} (h : Pt.Is w base t k p) (hb : base' ≤ base) : Pt.Is w base' t k p := by
  obtain ⟨g, h1, h2, h3⟩ := h.new
  exact ⟨h.no, h.fr, h.to, h.bd, g, h1, by omega, h3⟩

theorem Tr.less {w : World} {base base' : Nat} {v : Value} {ts : List Pt} {l : List (Int × Pk)} (h : Tr w base v ts l) (hb : base' ≤ base) : Tr w base' v ts l :=
  ⟨⟨h.row.1, h.row.2.imp id (fun ⟨g, c, cur, e1, e2, e3⟩ => ⟨g, c, cur, e1, by omega, e3⟩)⟩, h.len, fun i t q h1 h2 => (h.is i t q h1 h2).less hb⟩

theorem Nw.at {w : World} {R M : Nat} {n : Nt} (h : Nw w R M n) (i : Nat) (hi : i < n.m.length) : I6 n.m[i].1 ∧ lk n.m n.m[i].1 = some n.m[i].2 ∧ n.m[i].2.Ok := by
  have hm := List.getElem_mem hi
  have h1 := h.ok.num _ hm
  have h2 := h.ok.last
  exact ⟨by unfold I6; omega, mem_lk h.ok.un hm, h.ok.pk _ hm⟩

set_option maxHeartbeats 2000000 in
theorem list_any {w : World} {R M : Nat} {n : Nt} (h : Nw w R M n) :
    Calls Try.prog 14 #[.pointer (some ⟨R, 0, none⟩)] w fun e w' => ∃ v ts, e = .returned v ∧ Tr w' w.heap.size v ts n.m ∧ Below w.heap.size w w' := by
  have hr := made_yes h
  have c1 : w.cell? ⟨R, 1, none⟩ = some (.map (some M)) := h.c 1
  obtain ⟨D, hD, hsz, hgt⟩ := h.map
  have hfew := h.ok.few
  have hI : ∀ p ∈ n.m, I6 p.1 := fun p hp => by have h1 := h.ok.num p hp; have h2 := h.ok.last; unfold I6; omega
  have hperm := keys_net hD h.ok.un hI hgt
  have CK := callsIn_wide.1 (keys_at (some M) w)
  have CS := callsIn_wide.1 (sorted_at M _ D _ w hD.own (by rw [hsz]; unfold maxLen; omega) (by rw [hsz]; omega))
  have HP := hide hperm
  have HU : Hid ((n.m.map (·.1)).Pairwise (· < ·)) := hide (List.pairwise_map.2 h.ok.up)
  obtain ⟨N, hN⟩ : ∃ N, Hid (N = n.m.length) := ⟨_, hide rfl⟩
  have H := hide h
  have hN256 : N ≤ 256 := by rw [hN.out]; exact hfew
  clear hperm hgt hsz hD hI hfew h
  go_enter Try.func14, Try.ntmps14
  go_wp2_with fail
  refine hr.mono ?_
  rintro e w1 ⟨rfl, hw1⟩
  subst w1
  go_wp2_with fail
  refine CK.mono ?_
  rintro e w2 ⟨rfl, rfl⟩
  go_wp2_with fail
  refine CS.mono ?_
  rintro e w3 ⟨v, ss, rfl, hS, hrow, _, hb⟩
  rw [sorted_eq (hS.trans HP.out.symm) HU.out] at hrow
  have hl : ss.length = N := by rw [(hS.trans HP.out.symm).length_eq, List.length_map, hN.out]
  rw [hl] at hrow
  have hb3 : Below w.heap.size w w3 := ((Below.refl _ w).alloc (Nat.le_refl _) _).trans (hb.mono (by simp))
  have hs3 := hb3.size
  obtain ⟨ad, cap, rfl⟩ := row_val hrow
  have hkey : Hid (∀ i (hi : i < n.m.length), ∃ g, ad = some ⟨g, 0, none⟩ ∧ w3.cell? ⟨g, i, none⟩ = some (.int .i64 n.m[i].1)) := hide (fun i hi => by
    rcases hrow.2 with ⟨e1, e2⟩ | ⟨g, c, cur, e1, _⟩
    · have := hN.out; omega
    · simp only [Value.slice.injEq] at e1
      refine ⟨g, e1.1, ?_⟩
      have := hrow.cells (g := g) (by rw [e1.1]; rfl) i (.int .i64 n.m[i].1) (by simp [encZ, hi])
      simpa [Addr.add_mid] using this)
  have hcap : N ≤ cap ∧ cap ≤ 9223372036854775807 := by
    rcases hrow.2 with ⟨h1, h2⟩ | ⟨g, c, cur, h1, _, _, hn, hc, _⟩
    · simp only [Value.slice.injEq] at h1; omega
    · simp only [Value.slice.injEq] at h1; unfold maxLen at hc; omega
  obtain ⟨hcap1, hcap2⟩ := hcap
  have T0 : Tr w3 w3.heap.size (.slice none 0 0) [] [] := ⟨World.ownsRow_nil _ _ _ _, rfl, by simp⟩
  clear hS hrow hb CS CK hl
  go_wp2_with fail
  go_loopw [3, 16] (fun x i wr => ∃ (j : Nat) (ts : List Pt), j ≤ N ∧ i = .int .i64 (j : Int) ∧ Hid (Tr wr w3.heap.size x ts (n.m.take j) ∧ Below w3.heap.size w3 wr))
    (fun _ i _ => N - (intOf i).toNat)
  case atStart => exact ⟨0, [], by omega, rfl, hide ⟨T0, Below.refl _ _⟩⟩
  case round =>
    obtain ⟨j, ts, hj, rfl, hT⟩ := hrel
    have hbw : Below w.heap.size w wr := hb3.trans (hT.out.2.mono hs3)
    have hws := hT.out.2.size
    by_cases hjN : j < N
    · have hjm : j < n.m.length := by rw [← hN.out]; exact hjN
      obtain ⟨g, rfl, hkc⟩ := hkey.out j hjm
      have hNw := H.out.below hbw
      obtain ⟨k1, k2, k3⟩ := hNw.at j hjm
      have kc : wr.cell? ⟨g, j, none⟩ = some (.int .i64 n.m[j].1) := by rw [hT.out.2.cell (cell_lt hkc)]; exact hkc
      obtain ⟨q, hq⟩ : ∃ q, Hid (q = n.m[j]) := ⟨_, hide rfl⟩
      rw [← hq.out] at k1 k2 k3 kc
      obtain ⟨s, hs⟩ : ∃ s, Hid (s = strOfNums q.2.bd) := ⟨_, hide rfl⟩
      have hv : q.2.val = .agg #[.int .i64 q.2.fr, .int .i64 q.2.to, .string s] := by rw [hs.out]; rfl
      have c2 : wr.cell? ⟨R, 1, none⟩ = some (.map (some M)) := hNw.c 1
      have hlook := hNw.look k1 k2
      have CT := told_any (w := wr) (k := q.1) k3
      rw [hv] at hlook CT
      have HN : Hid (∀ (t : Pt) (Y : World), t.Is Y wr.heap.size q.1 q.2 → Below wr.heap.size wr Y → ∃ v' Z, (∀ ty, (Builtin.append_ #[(34 : TypeId), (34 : TypeId)] ty #[u3, .slice (some ⟨Y.heap.size, 0, none⟩) 1 1]).run Try.prog (Y.alloc (.cells #[.int .i64 t.no, .int .i64 t.fr, .int .i64 t.to, .slice t.a t.ln t.cap] (31 : TypeId))) = .ok v' Z) ∧ Hid (Tr Z w3.heap.size v' (ts ++ [t]) (n.m.take (j + 1)) ∧ Below w3.heap.size w3 Z)) := hide (fun t Y ht hY => by
        obtain ⟨v', Z, r1, r2, r3⟩ := hT.out.1.next (q := q) hws hY ht (by rw [List.length_take]; omega)
        refine ⟨v', Z, r1, hide ⟨?_, hT.out.2.trans r3⟩⟩
        rw [List.take_succ_eq_append_getElem hjm, ← hq.out]
        exact r2)
      have hxl : Hid ((n.m.take j).length = j) := hide (by rw [List.length_take]; omega)
      obtain ⟨xa, xc, hx⟩ := row_val hT.out.1.row
      rw [hxl.out] at hx
      subst hx
      have HT := hide hT
      clear hT hNw k1 k2 k3 hv hkc hbw hws hkey
      go_wp2_with fail
      refine CT.mono ?_
      rintro e Y ⟨t, rfl, ht1, ht2⟩
      obtain ⟨v', Z, r1, r2⟩ := HN.out t Y ht1 ht2
      have htv : t.val = .agg #[.int .i64 t.no, .int .i64 t.fr, .int .i64 t.to, .slice t.a t.ln t.cap] := rfl
      rw [htv]
      clear ht1 ht2 htv
      go_wp2_with (at_builtin; refine wpList_append_run rfl (34 : TypeId) (.tmp 20) (.tmp 29) rfl (.slice xa j xc) (.slice (some ⟨Y.heap.size, 0, none⟩) 1 1) v' (by simp [Act.eval]) (by simp [Act.eval]) (r1 _) ?_)
      go_roundw
      case rel => exact ⟨j + 1, ts ++ [t], by omega, by simp, r2⟩
      case measure => simp [intOf]; omega
    · have hjN' : j = N := by omega
      have fin : Hid (∃ ts, Tr wr w.heap.size u3 ts n.m ∧ Below w.heap.size w wr) := hide ⟨ts, by
        have := hT.out.1.less hs3
        rw [List.take_of_length_le (by rw [← hN.out]; omega)] at this
        exact this, hbw⟩
      obtain ⟨xa, xc, hx⟩ := row_val hT.out.1.row
      clear hT hbw hws hkey
      subst hjN'
      go_wp2_with fail
      go_ret
      obtain ⟨ts, f1, f2⟩ := fin.out
      exact ⟨_, ts, rfl, f1, f2⟩

set_option maxHeartbeats 2000000 in
theorem copy_net {w : World} {R M : Nat} {n : Nt} (h : Nw w R M n) :
    Calls Try.prog 23 #[.pointer (some ⟨R, 0, none⟩)] w fun e w' => ∃ R' M', e = .returned (.pointer (some ⟨R', 0, none⟩)) ∧ w.heap.size ≤ R' ∧ w.heap.size ≤ M' ∧ Nw w' R' M' n ∧ Below w.heap.size w w' := by
  have hr := made_yes h
  have c1 : w.cell? ⟨R, 1, none⟩ = some (.map (some M)) := h.c 1
  have c2 : w.cell? ⟨R, 2, none⟩ = some (.int .i64 n.last) := h.c 2
  obtain ⟨D, hD, hsz, hgt⟩ := h.map
  have CC : Calls Try.prog 41 #[.map (some M)] w.drew fun e w' => e = .returned (.map (some w.heap.size)) ∧ Mp w' 3 w.heap.size D ∧ Below w.heap.size w w' ∧ Hid (w'.heap.size = w.heap.size + 1) := by
    obtain ⟨es, clock, hb, F, hs, hDe⟩ := hD.own
    refine (AnyW.maps_Clone laysMapClone M es clock w.drew hb).mono ?_
    rintro e w' ⟨rfl, rfl⟩
    exact ⟨rfl, ⟨es, clock, heap_alloc_new w.drew _, F, hs, hDe⟩, ((Below.refl _ w).drew).alloc (Nat.le_refl _) _, hide (by simp)⟩
  have HO : Hid n.Ok := hide h.ok
  have FIN : Hid (∀ X : World, Mp X 3 w.heap.size D → Below w.heap.size w X → X.heap.size = w.heap.size + 1 → Nw (X.alloc (.cells (ncs X.heap.size w.heap.size n.last) (56 : TypeId))) X.heap.size w.heap.size n ∧ Below w.heap.size w (X.alloc (.cells (ncs X.heap.size w.heap.size n.last) (56 : TypeId)))) := hide (fun X h1 h2 h3 => ⟨⟨h.ok, heap_alloc_new X _, D, h1.heap (Below.heap_alloc _ _ _ (by omega)), hsz, hgt⟩, h2.alloc (by omega) _⟩)
  have HL : Hid (∀ X : World, Below w.heap.size w X → X.cell? ⟨R, 1, none⟩ = some (.map (some M)) ∧ X.cell? ⟨R, 2, none⟩ = some (.int .i64 n.last)) := hide (fun X hX => ⟨(h.below hX).c 1, (h.below hX).c 2⟩)
  clear h hD hsz hgt
  go_enter Try.func23, Try.ntmps23
  go_wp2_with fail
  refine hr.mono ?_
  rintro e w1 ⟨rfl, hw1⟩
  subst w1
  go_wp2_with fail
  go_region_held3 (fun V => V.cell? ⟨R, 1, none⟩ = some (.map (some M)) ∧ V.cell? ⟨R, 2, none⟩ = some (.int .i64 n.last))
    (first | exact ⟨c1, c2⟩ | exact HL.out _ g2 | exact HL.out _ (FIN.out _ g1 g2 g3.out).2)
    (first
      | (go_at_call 41; refine CC.mono ?_; rintro e X ⟨rfl, g1, g2, g3⟩)
      | (go_at_call 31; refine (netOf_any _ _ _).mono ?_; rintro e Y ⟨rfl, rfl⟩))
  go_wp2_with fail
  go_ret
  exact ⟨_, _, rfl, by have := g3.out; omega, Nat.le_refl _, FIN.out X g1 g2 g3.out⟩

end Go.Proofs.Ythakbelcefogaaa

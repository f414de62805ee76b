/-
  NetOrder, its walk.
-/
import Derived.Test.YtgkbjnfkimkmaaaNti
import Derived.Deep.QuietTactic
import Derived.BigQuiet
import Derived.Deep.RegionHeld3
namespace Go.Proofs.Ytgkbjnfkimkmaaa.netOrder
open Go.RowKit Go.Proofs.Ytgkbjnfkimkmaaa
set_option maxRecDepth 100000

theorem wrap_small {x : Int} (h : -9223372036854775808 ≤ x ∧ x ≤ 9223372036854775807) : IntKind.i64.wrap x = x := by
  simp [IntKind.wrap, IntKind.bits, IntKind.signed]
  omega

theorem exec_append {P : Program} {o : Oper} {a : Act} {w w' : World} {t : TypeId} {s x : Operand} {v : Value} (sv xv : Value) (hop : o.op = .call { callee := .builtin .append, args := #[s, x], argTypes := #[t, t] }) (hs : a.eval s = sv) (hx : a.eval x = xv) (hrun : (Builtin.append_ #[t, t] o.type #[sv, xv]).run P w = .ok v w') : (execOp a.eval o).run P w = .ok (.value v) w' := by
  unfold execOp
  simp [hop, resolve, invoke, builtin, hs, hx, hrun, Result.andThen]

/-- An operation of a region that draws its order, by what it comes to. -/
theorem step_run {P : Program} {ops : Array Oper} {o : Oper} {a : Act} {w w' : World} {v : Value} {K : Act → World → Prop} {Q : Exit → Act → World → Prop} {E : Prop} (hg : o.guard = none) (hrun : (execOp a.eval o).run P w = .ok (.value v) w') (hK : K (a.put o.dst v) w') :
    if Region.wanted o (yielded ops a.tmps) = true then Oper.wp P o a w K Q else E := by
  have hw : Region.wanted o (yielded ops a.tmps) = true := by simp [Region.wanted, hg]
  rw [if_pos hw]
  unfold Oper.wp
  rw [hrun]
  exact hK

/-- A step with a number. -/
def Stp.num (t : Stp) (n : Int) : Stp := { t with no := n }

theorem erase_runD {W : World} {b off D cap p : Nat} {l : List Int} (h : Is W (some ⟨b, off, none⟩) (D + (p + 1)) cap l) (hn : D + (p + 1) ≤ 1000) (sa : Addr) (hsa : sa = if cap = p + 1 then (⟨b, off, none⟩ : Addr) else ⟨b, off + (p + 1), none⟩) :
    ∃ a' c' Z, (∀ ty, (Builtin.append_ #[(59 : TypeId), (59 : TypeId)] ty #[.slice (some ⟨b, off, none⟩) p p, .slice (some sa) D (cap - (p + 1))]).run Try.prog W = .ok (.slice a' (D + p) c') Z) ∧ Is Z a' (D + p) c' (l.eraseIdx p) ∧ (∀ ad, a' = some ad → ad.block = b ∨ W.heap.size ≤ ad.block) ∧ Below W.heap.size W Z := by
  have := erase_run h (p := p) (by omega) hn sa hsa
  rw [show D + (p + 1) - 1 = D + p from by omega, show D + (p + 1) - (p + 1) = D from by omega] at this
  exact this

def lenV : Value → Nat
  | .slice _ n _ => n
  | _ => 0

/-- What is left: in memory, on its way. -/
structure Lf (w : World) (R M : Nat) (bss : List (List Int)) (K : Nat) (l : List Int) (la : Option Addr) (ln lc : Nat) (wr : World) : Prop where
  net : An w R M (Od bss l K) wr
  is : Is wr la ln lc l
  far : ∀ ad, la = some ad → ad.block ≠ R ∧ ad.block ≠ M
  up : l.Pairwise (· < ·)
  num : ∀ k ∈ l, 1 ≤ k ∧ k ≤ (K : Int)

theorem Is.heap {w w' : World} {a : Option Addr} {n cap : Nat} {zs : List Int} (h : Is w a n cap zs) (hb : ∀ ad, a = some ad → w'.heap[ad.block]? = w.heap[ad.block]?) : Is w' a n cap zs := by
  refine ⟨h.len, h.le, h.reach, fun hn => ?_⟩
  obtain ⟨b, off, ha, hc⟩ := h.lies hn
  refine ⟨b, off, ha, fun i hi => ?_⟩
  have hq : w'.heap[b]? = w.heap[b]? := hb _ ha
  have hc' := hc i hi
  unfold World.cell? at hc' ⊢
  rw [hq]
  exact hc'

theorem Lf.fresh {w : World} {R M K ln lc : Nat} {bss : List (List Int)} {l : List Int} {la : Option Addr} {W X : World} (h : Lf w R M bss K l la ln lc W) (hb : Below W.heap.size W X) : Lf w R M bss K l la ln lc X :=
  ⟨h.net.fresh hb, h.is.keep hb, h.far, h.up, h.num⟩

/-- One less is left. -/
theorem Lf.less {w : World} {R M K ln lc n' c' : Nat} {bss : List (List Int)} {l : List Int} {la a' : Option Addr} {wr X Z : World} {lb lo p : Nat} (h : Lf w R M bss K l la ln lc wr) (hla : la = some ⟨lb, lo, none⟩) (hX : An w R M (Od bss (l.eraseIdx p) K) X) (hZ : Below X.heap.size X Z) (hi : Is Z a' n' c' (l.eraseIdx p)) (hf : ∀ ad, a' = some ad → ad.block = lb ∨ X.heap.size ≤ ad.block) : Lf w R M bss K (l.eraseIdx p) a' n' c' Z := by
  refine ⟨hX.fresh hZ, hi, fun ad e => ?_, h.up.sublist (List.eraseIdx_sublist ..), fun k hk => h.num k (List.mem_of_mem_eraseIdx hk)⟩
  rcases hf ad e with e1 | e1
  · have := h.far _ hla
    rw [e1]
    exact this
  · have h1 := hX.net.lt
    have h2 := hX.net.mlt
    omega

set_option maxHeartbeats 16000000 in
theorem walk (a0 : Option Addr) (n0 cap0 : Nat) (bss : List (List Int)) (a1 : Option Addr) (n1 cap1 : Nat) (os : List Int) (w : World) (hB : Rl w a0 n0 cap0 bss) (hO : Is w a1 n1 cap1 os) :
    Calls Try.prog 7 #[.slice a0 n0 cap0, .slice a1 n1 cap1] w fun e w' => e = .returned (.bool true) ∧ Below w.heap.size w w' := by
  have hb1 := hB.len
  have hb2 := hB.le
  have hb3 := hB.reach
  have ho1 := hO.len
  have ho2 := hO.le
  have ho3 := hO.reach
  have HB := hide hB
  have HO := hide hO
  clear hB hO hb1 ho1
  go_enter Try.func7, Try.ntmps7
  go_wp2_with fail
  refine (an_new w).mono ?_
  rintro e W1 ⟨R, M, rfl, h1⟩
  have I0 : Hid (An w R M (Od bss (rng 0) ((0 : Nat) : Int)) W1 ∧ W1.ownsRow w.heap.size 3 1 (.slice none 0 0) 0 (I1 (rng 0))) := hide ⟨h1, World.ownsRow_nil _ _ _ _⟩
  clear h1
  go_wp2_with fail
  go_loopw [6, 7] (fun x i wr => ∃ (j : Nat), j ≤ n0 ∧ j ≤ 12 ∧ i = .int .i64 (j : Int) ∧ Hid (An w R M (Od bss (rng j) (j : Int)) wr ∧ wr.ownsRow w.heap.size 3 1 x j (I1 (rng j))))
    (fun _ i _ => 12 - (intOf i).toNat)
  case atStart => exact ⟨0, by omega, by omega, rfl, I0⟩
  case round =>
    obtain ⟨j, hj, hj12, rfl, hA⟩ := hrel
    clear I0
    by_cases hjn : j < n0 ∧ j < 12
    · obtain ⟨hj1, hj2⟩ := hjn
      have hBw := HB.out.keep hA.out.1.bel
      obtain ⟨b, off, rfl, hc⟩ := hBw.lies (by omega)
      obtain ⟨c, m, d, hc1, hBd⟩ := hc j hj1
      have C := an_send (f := (j : Int)) (t := 0) hA.out.1 (show ((j : Nat) : Int) < 9223372036854775807 from by omega) (i6 (by omega)) (i6 (by omega)) hBd
      by_cases hlong : (bss.getD j []).length ≤ 65545
      · obtain ⟨s1, s2⟩ := od_send bss j hj2 hlong
        rw [s1, s2] at C
        have hrow := hA.out.2
        have hoff : ∀ g, u6.ownBlock = some g → g ≠ R ∧ g ≠ M := fun g hg => hA.out.1.net.off hrow (by decide) hg
        have HN : Hid (∀ X, An w R M (Od bss (rng (j + 1)) ((j + 1 : Nat) : Int)) X → Tb (fun k => k = R ∨ k = M) wr X → ∃ v' Z, (∀ ty, (Builtin.append_ #[(59 : TypeId), (59 : TypeId)] ty #[u6, .slice (some ⟨X.heap.size, 0, none⟩) 1 1]).run Try.prog (X.alloc (.cells #[.int .i64 ((j : Int) + 1)] 3)) = .ok v' Z) ∧ Hid (An w R M (Od bss (rng (j + 1)) ((j + 1 : Nat) : Int)) Z ∧ Z.ownsRow w.heap.size 3 1 v' (j + 1) (I1 (rng (j + 1))))) := hide (fun X hX tX => by
          have hrX := row_tb hrow tX (fun g hg e => by have := hoff g hg; omega)
          obtain ⟨v', Z, r1, r2, r3⟩ := ints_next ((j : Int) + 1) hrX hX.bel.size (by omega)
          refine ⟨v', Z, r1, hide ⟨(hX.alloc _).grown r3 (fun g hg => ⟨(hoff g hg).1, (hoff g hg).2, (hrX.lt g hg).1⟩), ?_⟩⟩
          rw [rng_succ]
          exact r2)
        obtain ⟨xa, xc, hx⟩ := row_val hrow
        subst hx
        clear hA hBw hc hBd s1 s2 hrow hoff
        go_wp2_with fail
        refine C.mono ?_
        rintro e X ⟨rfl, hX, tX⟩
        obtain ⟨v', Z, r1, r2⟩ := HN.out X hX tX
        clear hX tX C
        go_wp2_with (at_builtin; refine wpList_append_run rfl (59 : TypeId) (.tmp 45) (.tmp 47) rfl (.slice xa j xc) (.slice (some ⟨X.heap.size, 0, none⟩) 1 1) v' (by simp [Act.eval]) (by simp [Act.eval]) (r1 _) ?_)
        go_roundw
        case rel => exact ⟨j + 1, by omega, by omega, by simp, r2⟩
        case measure => simp [intOf]; omega
      · obtain ⟨s1, s2⟩ := od_long bss (rng j) (j : Int) (j : Int) 0 _ hlong
        rw [s1, s2] at C
        clear hA hBw hc hBd s1 s2
        go_wp2_with fail
        refine C.mono ?_
        rintro e X ⟨rfl, hX, _⟩
        have HX := hide hX.bel
        clear hX C
        go_wp2_with fail
        refine (awake_any _).mono ?_
        rintro e Y ⟨rfl, hY⟩
        have fin : Hid (Below w.heap.size w Y) := hide (HX.out.trans (hY.mono HX.out.size))
        clear hY
        go_wp2_with fail
        go_ret
        exact ⟨rfl, fin.out⟩
    · have hrow := hA.out.2
      have hoff : ∀ g, u6.ownBlock = some g → g ≠ R ∧ g ≠ M := fun g hg => hA.out.1.net.off hrow (by decide) hg
      obtain ⟨xa, xc, hx⟩ := row_val hrow
      subst hx
      have CI := copyInts_any xa j xc (rng j) wr (own_is hrow) (by omega)
      have L0 : Hid (∀ c d (X : World), X.ownsRow wr.heap.size 3 1 (.slice c j d) j (I1 (rng j)) → Below wr.heap.size wr X → Lf w R M bss j (rng j) c j d X) := hide (fun c d X hr hX => by
        have hN := hA.out.1.fresh hX
        refine ⟨hN, own_is hr, fun ad e => ?_, (rng_up j).1, (rng_up j).2⟩
        subst e
        rcases hr.2 with ⟨e1, _⟩ | ⟨g, cap, cur, e1, _⟩
        · cases e1
        · simp only [Value.slice.injEq, Option.some.injEq] at e1
          rw [e1.1]
          exact hN.net.off hr (by decide) (by rw [e1.1]; rfl))
      have hends : (¬ ((j : Int) < (n0 : Int))) ∨ ((j : Int) < (n0 : Int) ∧ ¬ ((j : Int) < 12)) := by
        by_cases h : j < n0
        · exact .inr ⟨by omega, by omega⟩
        · exact .inl (by omega)
      clear hA hrow hoff hjn
      rcases hends with hends | ⟨hends, hends2⟩
      all_goals
        go_wp2_with fail
        refine CI.mono ?_
        rintro e X ⟨c, d, rfl, hr, hX⟩
        have LX := hide (L0.out c d X hr hX)
        clear hr hX CI L0
        go_wp2_with fail
        go_loopw [10, 11] (fun x i wr => ∃ (l : List Int) (la : Option Addr) (ln lc q : Nat), x = .slice la ln lc ∧ i = .int .i64 (q : Int) ∧ q + ln = j ∧ Hid (Lf w R M bss j l la ln lc wr))
          (fun x _ _ => lenV x)
        case atStart => exact ⟨_, _, _, _, 0, rfl, rfl, by omega, LX⟩
        case round =>
          obtain ⟨l, la, ln, lc, q, rfl, rfl, hq, hL⟩ := hrel
          clear LX
          by_cases hl0 : ln = 0
          · subst hl0
            have HX := hide hL.out.net.bel
            clear hL
            go_wp2_with fail
            refine (awake_any _).mono ?_
            rintro e Y ⟨rfl, hY⟩
            have fin : Hid (Below w.heap.size w Y) := hide (HX.out.trans (hY.mono HX.out.size))
            clear hY
            go_wp2_with fail
            go_ret
            exact ⟨rfl, fin.out⟩
          · have hl1 : Hid (l.length = ln) := hide hL.out.is.len
            have hl2 := hL.out.is.le
            have hl3 := hL.out.is.reach
            have hjn0 : j ≤ n0 := hj
            obtain ⟨lb, lo, rfl, hlc⟩ := hL.out.is.lies (by omega)
            have hfar := hL.out.far _ rfl
            -- what is at a place of the list of those that are left
            have AT : Hid (∀ p, p < ln → ∃ κ : Nat, κ < j ∧ wr.cell? ⟨lb, lo + p, none⟩ = some (.int .i64 ((κ : Int) + 1)) ∧ lk (Od bss l j).m ((κ : Int) + 1) = some ⟨κ, 0, bss.getD κ []⟩ ∧ (Od bss l j).drop ((κ : Int) + 1) = Od bss (l.eraseIdx p) j) := hide (fun p hp => by
              have hpl : p < l.length := by rw [hl1.out]; exact hp
              have hg : l.getD p 0 = l[p] := by simp [List.getD, hpl]
              have hm := List.getElem_mem hpl
              have hnum := hL.out.num _ hm
              have e1 : (((l[p] - 1).toNat : Nat) : Int) + 1 = l[p] := by omega
              have e2 : l[p] - 1 = (((l[p] - 1).toNat : Nat) : Int) := by omega
              refine ⟨(l[p] - 1).toNat, by omega, ?_, ?_, ?_⟩
              · rw [e1, ← hg]; exact hlc p hp
              · rw [e1, od_lk bss _ hm, Ob, ← e2]
              · rw [e1]; exact od_drop bss _ hL.out.up p hpl)
            have BD : Hid (∀ κ : Nat, κ < j → ∃ bb bo c m d, a0 = some ⟨bb, bo, none⟩ ∧ Hid (w.cell? ⟨bb, bo + κ, none⟩ = some (.slice c m d) ∧ Bs w c m d (bss.getD κ []))) := hide (fun κ h1 => by
              obtain ⟨bb, bo, e0, hc0⟩ := HB.out.lies (by omega)
              obtain ⟨c, m, d, hc1, hBd⟩ := hc0 κ (by omega)
              exact ⟨bb, bo, c, m, d, e0, hide ⟨hc1, hBd⟩⟩)
            clear hlc
            by_cases hn1 : n1 = 0
            · subst hn1
              clear HO
              obtain ⟨κ, hk1, kc, klk, kdr⟩ := AT.out 0 (by omega)
              have kc' : wr.cell? ⟨lb, lo, none⟩ = some (.int .i64 ((κ : Int) + 1)) := kc
              have C := an_deliver hL.out.net (i6 (by omega) : I6 ((κ : Int) + 1)) klk
              rw [kdr] at C
              obtain ⟨bb, bo, c, m, d, rfl, hbd⟩ := BD.out κ hk1
              clear kc klk kdr
              have hk3 : κ ≤ 12 := by omega
              have hk4 : κ < n0 := by omega
              go_wp2_with fail
              refine C.mono ?_
              rintro e W1 ⟨t, rfl, ht, hA1, t1⟩
              obtain ⟨V, HV⟩ : ∃ V, Hid (V = W1.alloc (.cells #[.int .i64 ((κ : Int) + 1), .int .i64 (κ : Int), .int .i64 0, .slice t.a t.ln t.cap] (31 : TypeId))) := ⟨_, hide rfl⟩
              have hAV : An w R M (Od bss (l.eraseIdx 0) j) V := by rw [HV.out]; exact hA1.alloc _
              have tV : Tb (fun k => k = R ∨ k = M) wr V := by rw [HV.out]; exact t1.alloc _
              have hV0 : V.heap[W1.heap.size]? = some (.cells #[.int .i64 ((κ : Int) + 1), .int .i64 (κ : Int), .int .i64 0, .slice t.a t.ln t.cap] (31 : TypeId) (0, 0)) := by rw [HV.out]; exact heap_alloc_new W1 _
              have x0 := cell_of_row V W1.heap.size 0 _ (31 : TypeId) (0, 0) hV0
              have x1 := cell_of_row V W1.heap.size 1 _ (31 : TypeId) (0, 0) hV0
              have x3 := cell_of_row V W1.heap.size 3 _ (31 : TypeId) (0, 0) hV0
              simp only [List.getElem?_toArray, List.getElem?_cons_succ, List.getElem?_cons_zero] at x0 x1 x3
              have v1 : V.cell? ⟨lb, lo, none⟩ = some (.int .i64 ((κ : Int) + 1)) := tV.cell kc' (fun e => e.elim hfar.1 hfar.2)
              have v2 : V.cell? ⟨bb, bo + κ, none⟩ = some (.slice c m d) := by rw [hAV.bel.cell (cell_lt hbd.out.1)]; exact hbd.out.1
              have hBt : Bs V t.a t.ln t.cap (bss.getD κ []) := by rw [HV.out]; exact ht.bd.alloc _
              have hBc : Bs V c m d (bss.getD κ []) := hbd.out.2.keep hAV.bel
              have CS := fun q => same_true rfl (hBt.keep (below_drewN (Below.refl _ V) q)) (hBc.keep (below_drewN (Below.refl _ V) q))
              have hIs : Hid (Is V (some ⟨lb, lo, none⟩) ln lc l) := hide (Is.heap hL.out.is (fun ad e => by cases e; exact tV.block lb (cell_lt kc') (fun e => e.elim hfar.1 hfar.2)))
              have HAV := hide hAV
              clear hAV tV hV0 hBt hBc ht hA1 t1 C kc'
              go_wp2_with fail
              rw [← HV.out]
              have hself : IntKind.i64.wrap ((κ : Int) + 1 - 1) = (κ : Int) := by rw [wrap_small (by omega)]; omega
              go_quiet (first | (go_at_call 25; exact Calls.quiet_of_same (CS _)))
              go_wp2_with fail
              obtain ⟨X, HX⟩ : ∃ X, Hid (X = V.drewN nq) := ⟨_, hide rfl⟩
              rw [← HX.out]
              have hIX : Is X.drew (some ⟨lb, lo, none⟩) ln lc l := Is.heap hIs.out (fun ad e => by rw [HX.out]; exact (below_drewN (Below.refl _ V) nq).block _ (by cases e; exact World.block_lt_of_cell? V ⟨lb, lo, none⟩ v1))
              have hAX : Hid (An w R M (Od bss (l.eraseIdx 0) j) X.drew) := hide (by rw [HX.out]; exact HAV.out.fresh (below_drewN (Below.refl _ V) nq).drew)
              obtain ⟨D, hD⟩ : ∃ D, ln = D + 1 := ⟨ln - 1, by omega⟩
              subst hD
              have hIX' : Is X.drew (some ⟨lb, lo, none⟩) (D + (0 + 1)) lc l := hIX
              have hzero : (0 : Int) ≤ (D : Int) + 1 := by omega
              have hI1 : (1 : Int) ≤ (lc : Int) := by omega
              by_cases hcn : lc = 1
              · subst hcn
                obtain ⟨a', c', Z, r1, r2, r3, r4⟩ := erase_runD hIX' (by omega) ⟨lb, lo, none⟩ (by simp)
                have hD0 : D = 0 := by omega
                subst hD0
                have r1' : ∀ ty, (Builtin.append_ #[(59 : TypeId), (59 : TypeId)] ty #[.slice (some ⟨lb, lo, none⟩) 0 0, .slice (some ⟨lb, lo, none⟩) 0 0]).run Try.prog X.drew = .ok (.slice a' (0 + 0) c') Z := fun ty => by have := r1 ty; rw [Nat.sub_self] at this; exact this
                refine wp_region_held_drew (S := fun _ => True) (by kernel_rfl) trivial (fun _ => ?_)
                try simp only [List.size_toArray, List.length_cons, List.length_nil, Nat.reduceAdd]
                refine wpAnyH_take (i := 0) (v := (.slice (some ⟨lb, lo, none⟩) (0 + 1) 1)) rfl (by kernel_rfl) (by kernel_rfl) (by kernel_rfl) (fun _ _ _ h => h) (Or.inl ⟨by rfl, ?hy⟩) trivial ?_
                case hy => (intro V' _; go_simp; try first | exact wrap_small (by omega) | (intro hh; exfalso; omega))
                simp only [Act.put, List.getElem_toArray, List.getElem_cons_zero, List.setIfInBounds_toArray, List.set_cons_succ, List.set_cons_zero]
                refine wpAnyH_take (i := 1) (v := (.int .i64 0)) rfl (by kernel_rfl) (by kernel_rfl) (by kernel_rfl) (fun _ _ _ h => h) (Or.inl ⟨by rfl, ?hy⟩) trivial ?_
                case hy => (intro V' _; go_simp; try first | exact wrap_small (by omega) | (intro hh; exfalso; omega))
                simp only [Act.put, List.getElem_toArray, List.getElem_cons_succ, List.getElem_cons_zero, List.setIfInBounds_toArray, List.set_cons_succ, List.set_cons_zero]
                refine wpAnyH_take (i := 2) (v := (.int .i64 0)) rfl (by kernel_rfl) (by kernel_rfl) (by kernel_rfl) (fun _ _ _ h => h) (Or.inl ⟨by rfl, ?hy⟩) trivial ?_
                case hy => (intro V' _; go_simp; try first | exact wrap_small (by omega) | (intro hh; exfalso; omega))
                simp only [Act.put, List.getElem_toArray, List.getElem_cons_succ, List.getElem_cons_zero, List.setIfInBounds_toArray, List.set_cons_succ, List.set_cons_zero]
                refine wpAnyH_take (i := 3) (v := (.slice (some ⟨lb, lo, none⟩) 0 0)) rfl (by kernel_rfl) (by kernel_rfl) (by kernel_rfl) (fun _ _ _ h => h) (Or.inl ⟨by rfl, ?hy⟩) trivial ?_
                case hy => (intro V' _; go_simp; try first | exact wrap_small (by omega) | (intro hh; exfalso; omega))
                simp only [Act.put, List.getElem_toArray, List.getElem_cons_succ, List.getElem_cons_zero, List.setIfInBounds_toArray, List.set_cons_succ, List.set_cons_zero]
                refine wpAnyH_take (i := 4) (v := (.slice (some ⟨lb, lo, none⟩) (0 + 1) 1)) rfl (by kernel_rfl) (by kernel_rfl) (by kernel_rfl) (fun _ _ _ h => h) (Or.inl ⟨by rfl, ?hy⟩) trivial ?_
                case hy => (intro V' _; go_simp; try first | exact wrap_small (by omega) | (intro hh; exfalso; omega))
                simp only [Act.put, List.getElem_toArray, List.getElem_cons_succ, List.getElem_cons_zero, List.setIfInBounds_toArray, List.set_cons_succ, List.set_cons_zero]
                refine wpAnyH_take (i := 5) (v := (.int .i64 0)) rfl (by kernel_rfl) (by kernel_rfl) (by kernel_rfl) (fun _ _ _ h => h) (Or.inl ⟨by rfl, ?hy⟩) trivial ?_
                case hy => (intro V' _; go_simp; try first | exact wrap_small (by omega) | (intro hh; exfalso; omega))
                simp only [Act.put, List.getElem_toArray, List.getElem_cons_succ, List.getElem_cons_zero, List.setIfInBounds_toArray, List.set_cons_succ, List.set_cons_zero]
                refine wpAnyH_take (i := 6) (v := (.int .i64 1)) rfl (by kernel_rfl) (by kernel_rfl) (by kernel_rfl) (fun _ _ _ h => h) (Or.inl ⟨by rfl, ?hy⟩) trivial ?_
                case hy => (intro V' _; go_simp; try first | exact wrap_small (by omega) | (intro hh; exfalso; omega))
                simp only [Act.put, List.getElem_toArray, List.getElem_cons_succ, List.getElem_cons_zero, List.setIfInBounds_toArray, List.set_cons_succ, List.set_cons_zero]
                refine wpAnyH_take (i := 7) (v := (.slice (some ⟨lb, lo, none⟩) 0 0)) rfl (by kernel_rfl) (by kernel_rfl) (by kernel_rfl) (fun _ _ _ h => h) (Or.inl ⟨by rfl, ?hy⟩) trivial ?_
                case hy => (intro V' _; go_simp; try first | exact wrap_small (by omega) | (intro hh; exfalso; omega))
                simp only [Act.put, List.getElem_toArray, List.getElem_cons_succ, List.getElem_cons_zero, List.setIfInBounds_toArray, List.set_cons_succ, List.set_cons_zero]
                refine wpAnyH_ready (rs := [8]) (by kernel_rfl) (by simp) ?_
                refine AllReadyH.cons rfl (fun K hK => ?_) AllReadyH.nil
                refine step_run rfl (exec_append (.slice (some ⟨lb, lo, none⟩) 0 0) (.slice (some ⟨lb, lo, none⟩) 0 0) rfl (by simp [Act.eval]) (by simp [Act.eval]) (r1' _)) ?_
                refine hK.out _ _ trivial (fun _ => ?_)
                clear hK K
                simp only [Act.put, List.getElem_toArray, List.getElem_cons_succ, List.getElem_cons_zero, List.setIfInBounds_toArray, List.set_cons_succ, List.set_cons_zero]
                refine wpAnyH_take (i := 9) (v := (.slice a' (0 + 0) c')) rfl (by kernel_rfl) (by kernel_rfl) (by kernel_rfl) (fun _ _ _ h => h) (Or.inl ⟨by rfl, ?hy⟩) trivial ?_
                case hy => (intro V' _; go_simp; try first | exact wrap_small (by omega) | (intro hh; exfalso; omega))
                simp only [Act.put, List.getElem_toArray, List.getElem_cons_succ, List.getElem_cons_zero, List.setIfInBounds_toArray, List.set_cons_succ, List.set_cons_zero]
                refine wpAnyH_done (by kernel_rfl) ?_ _
                try simp only [Act.put, List.getElem_toArray, List.getElem_cons_succ, List.getElem_cons_zero, List.setIfInBounds_toArray, List.set_cons_succ, List.set_cons_zero]
                have LZ0 := Lf.less hL.out rfl hAX.out r4 r2 r3
                obtain ⟨l2, hl2⟩ : ∃ l2, l2 = l.eraseIdx 0 := ⟨_, rfl⟩
                rw [← hl2] at LZ0 r2
                have LZ := hide LZ0
                clear LZ0 hl2
                have hlZ : Hid (l2.length = 0 + 0) := hide r2.len
                have hle := r2.le
                have hre := r2.reach
                clear r1 r1' r2 r3 r4 hIX hIX' hAX HAV hIs CS x0 x1 x3 v1 v2 HV
                go_wp2_with fail
                refine (an_list LZ.out.net).mono ?_
                rintro e Y ⟨v, ts, rfl, hT, hY, bY⟩
                have LY := hide (LZ.out.fresh bY)
                have hml : (Od bss l2 j).m.length = 0 + 0 := by simp only [Od, List.length_map]; exact hlZ.out
                obtain ⟨va, vc, rfl, hv1, hv2⟩ := hT.val
                rw [hml] at hv1 ⊢
                have NUM : Hid (∀ i, i < 0 + 0 → ∃ g lb' lo' x, va = some ⟨g, 0, none⟩ ∧ a' = some ⟨lb', lo', none⟩ ∧ Y.cell? ⟨g, i * 4, none⟩ = some (.int .i64 x) ∧ Y.cell? ⟨lb', lo' + i, none⟩ = some (.int .i64 x)) := hide (fun i hi => by
                  obtain ⟨g, cap, t, e1, _, _, _, _, _, c1, _⟩ := hT.at i (by rw [hml]; exact hi)
                  simp only [Value.slice.injEq] at e1
                  obtain ⟨lb', lo', e2, c2⟩ := LY.out.is.lies (by omega)
                  refine ⟨g, lb', lo', _, e1.1, e2, c1, ?_⟩
                  rw [c2 i hi]
                  have hil : i < l2.length := by rw [hlZ.out]; exact hi
                  simp [Od, List.getD, List.getElem?_eq_getElem hil])
                clear hT hY bY hml LZ
                go_wp2_with fail
                go_loopw [16] (fun i wr => ∃ k nn : Nat, k ≤ 0 + 0 ∧ i = .int .i64 (k : Int) ∧ Hid (wr = Y.drewN nn)) (fun i _ => 0 + 0 - (intOf i).toNat)
                case atStart => exact ⟨0, 0, Nat.zero_le _, rfl, hide rfl⟩
                case round =>
                  obtain ⟨k, nn, hk, rfl, hwr⟩ := hrel
                  by_cases hkk : k < 0 + 0
                  · exfalso; omega
                  · have hkk' : k = 0 + 0 := by omega
                    have LN : Hid (Lf w R M bss j l2 a' (0 + 0) c' wr) := hide (LY.out.fresh (by rw [hwr.out]; exact below_drewN (Below.refl _ Y) nn))
                    clear hwr NUM LY
                    have hkz : ¬ ((k : Int) < ((0 + 0 : Nat) : Int)) := by omega
                    clear hkk'
                    go_wp2_with fail
                    go_roundw
                    case rel => exact ⟨l2, a', 0 + 0, c', q + 1, by simp, by simp, by omega, LN⟩
                    case measure => simp [lenV] <;> omega
              · obtain ⟨a', c', Z, r1, r2, r3, r4⟩ := erase_runD hIX' (by omega) ⟨lb, lo + 1, none⟩ (by simp [hcn])
                have r1' : ∀ ty, (Builtin.append_ #[(59 : TypeId), (59 : TypeId)] ty #[.slice (some ⟨lb, lo, none⟩) 0 0, .slice (some ⟨lb, lo + 1, none⟩) D (lc - 1)]).run Try.prog X.drew = .ok (.slice a' (D + 0) c') Z := r1
                refine wp_region_held_drew (S := fun _ => True) (by kernel_rfl) trivial (fun _ => ?_)
                try simp only [List.size_toArray, List.length_cons, List.length_nil, Nat.reduceAdd]
                refine wpAnyH_take (i := 0) (v := (.slice (some ⟨lb, lo, none⟩) (D + 1) lc)) rfl (by kernel_rfl) (by kernel_rfl) (by kernel_rfl) (fun _ _ _ h => h) (Or.inl ⟨by rfl, ?hy⟩) trivial ?_
                case hy => (intro V' _; go_simp; try first | exact wrap_small (by omega) | (intro hh; exfalso; omega))
                simp only [Act.put, List.getElem_toArray, List.getElem_cons_zero, List.setIfInBounds_toArray, List.set_cons_succ, List.set_cons_zero]
                refine wpAnyH_take (i := 1) (v := (.int .i64 0)) rfl (by kernel_rfl) (by kernel_rfl) (by kernel_rfl) (fun _ _ _ h => h) (Or.inl ⟨by rfl, ?hy⟩) trivial ?_
                case hy => (intro V' _; go_simp; try first | exact wrap_small (by omega) | (intro hh; exfalso; omega))
                simp only [Act.put, List.getElem_toArray, List.getElem_cons_succ, List.getElem_cons_zero, List.setIfInBounds_toArray, List.set_cons_succ, List.set_cons_zero]
                refine wpAnyH_take (i := 2) (v := (.int .i64 0)) rfl (by kernel_rfl) (by kernel_rfl) (by kernel_rfl) (fun _ _ _ h => h) (Or.inl ⟨by rfl, ?hy⟩) trivial ?_
                case hy => (intro V' _; go_simp; try first | exact wrap_small (by omega) | (intro hh; exfalso; omega))
                simp only [Act.put, List.getElem_toArray, List.getElem_cons_succ, List.getElem_cons_zero, List.setIfInBounds_toArray, List.set_cons_succ, List.set_cons_zero]
                refine wpAnyH_take (i := 3) (v := (.slice (some ⟨lb, lo, none⟩) 0 0)) rfl (by kernel_rfl) (by kernel_rfl) (by kernel_rfl) (fun _ _ _ h => h) (Or.inl ⟨by rfl, ?hy⟩) trivial ?_
                case hy => (intro V' _; go_simp; try first | exact wrap_small (by omega) | (intro hh; exfalso; omega))
                simp only [Act.put, List.getElem_toArray, List.getElem_cons_succ, List.getElem_cons_zero, List.setIfInBounds_toArray, List.set_cons_succ, List.set_cons_zero]
                refine wpAnyH_take (i := 4) (v := (.slice (some ⟨lb, lo, none⟩) (D + 1) lc)) rfl (by kernel_rfl) (by kernel_rfl) (by kernel_rfl) (fun _ _ _ h => h) (Or.inl ⟨by rfl, ?hy⟩) trivial ?_
                case hy => (intro V' _; go_simp; try first | exact wrap_small (by omega) | (intro hh; exfalso; omega))
                simp only [Act.put, List.getElem_toArray, List.getElem_cons_succ, List.getElem_cons_zero, List.setIfInBounds_toArray, List.set_cons_succ, List.set_cons_zero]
                refine wpAnyH_take (i := 5) (v := (.int .i64 0)) rfl (by kernel_rfl) (by kernel_rfl) (by kernel_rfl) (fun _ _ _ h => h) (Or.inl ⟨by rfl, ?hy⟩) trivial ?_
                case hy => (intro V' _; go_simp; try first | exact wrap_small (by omega) | (intro hh; exfalso; omega))
                simp only [Act.put, List.getElem_toArray, List.getElem_cons_succ, List.getElem_cons_zero, List.setIfInBounds_toArray, List.set_cons_succ, List.set_cons_zero]
                refine wpAnyH_take (i := 6) (v := (.int .i64 1)) rfl (by kernel_rfl) (by kernel_rfl) (by kernel_rfl) (fun _ _ _ h => h) (Or.inl ⟨by rfl, ?hy⟩) trivial ?_
                case hy => (intro V' _; go_simp; try first | exact wrap_small (by omega) | (intro hh; exfalso; omega))
                simp only [Act.put, List.getElem_toArray, List.getElem_cons_succ, List.getElem_cons_zero, List.setIfInBounds_toArray, List.set_cons_succ, List.set_cons_zero]
                refine wpAnyH_take (i := 7) (v := (.slice (some ⟨lb, lo + 1, none⟩) D (lc - 1))) rfl (by kernel_rfl) (by kernel_rfl) (by kernel_rfl) (fun _ _ _ h => h) (Or.inl ⟨by rfl, ?hy⟩) trivial ?_
                case hy => (intro V' _; go_simp; try first | exact wrap_small (by omega) | (intro hh; exfalso; omega))
                simp only [Act.put, List.getElem_toArray, List.getElem_cons_succ, List.getElem_cons_zero, List.setIfInBounds_toArray, List.set_cons_succ, List.set_cons_zero]
                refine wpAnyH_ready (rs := [8]) (by kernel_rfl) (by simp) ?_
                refine AllReadyH.cons rfl (fun K hK => ?_) AllReadyH.nil
                refine step_run rfl (exec_append (.slice (some ⟨lb, lo, none⟩) 0 0) (.slice (some ⟨lb, lo + 1, none⟩) D (lc - 1)) rfl (by simp [Act.eval]) (by simp [Act.eval]) (r1' _)) ?_
                refine hK.out _ _ trivial (fun _ => ?_)
                clear hK K
                simp only [Act.put, List.getElem_toArray, List.getElem_cons_succ, List.getElem_cons_zero, List.setIfInBounds_toArray, List.set_cons_succ, List.set_cons_zero]
                refine wpAnyH_take (i := 9) (v := (.slice a' (D + 0) c')) rfl (by kernel_rfl) (by kernel_rfl) (by kernel_rfl) (fun _ _ _ h => h) (Or.inl ⟨by rfl, ?hy⟩) trivial ?_
                case hy => (intro V' _; go_simp; try first | exact wrap_small (by omega) | (intro hh; exfalso; omega))
                simp only [Act.put, List.getElem_toArray, List.getElem_cons_succ, List.getElem_cons_zero, List.setIfInBounds_toArray, List.set_cons_succ, List.set_cons_zero]
                refine wpAnyH_done (by kernel_rfl) ?_ _
                try simp only [Act.put, List.getElem_toArray, List.getElem_cons_succ, List.getElem_cons_zero, List.setIfInBounds_toArray, List.set_cons_succ, List.set_cons_zero]
                have LZ0 := Lf.less hL.out rfl hAX.out r4 r2 r3
                obtain ⟨l2, hl2⟩ : ∃ l2, l2 = l.eraseIdx 0 := ⟨_, rfl⟩
                rw [← hl2] at LZ0 r2
                have LZ := hide LZ0
                clear LZ0 hl2
                have hlZ : Hid (l2.length = D + 0) := hide r2.len
                have hle := r2.le
                have hre := r2.reach
                clear r1 r1' r2 r3 r4 hIX hIX' hAX HAV hIs CS x0 x1 x3 v1 v2 HV
                go_wp2_with fail
                refine (an_list LZ.out.net).mono ?_
                rintro e Y ⟨v, ts, rfl, hT, hY, bY⟩
                have LY := hide (LZ.out.fresh bY)
                have hml : (Od bss l2 j).m.length = D + 0 := by simp only [Od, List.length_map]; exact hlZ.out
                obtain ⟨va, vc, rfl, hv1, hv2⟩ := hT.val
                rw [hml] at hv1 ⊢
                have NUM : Hid (∀ i, i < D + 0 → ∃ g lb' lo' x, va = some ⟨g, 0, none⟩ ∧ a' = some ⟨lb', lo', none⟩ ∧ Y.cell? ⟨g, i * 4, none⟩ = some (.int .i64 x) ∧ Y.cell? ⟨lb', lo' + i, none⟩ = some (.int .i64 x)) := hide (fun i hi => by
                  obtain ⟨g, cap, t, e1, _, _, _, _, _, c1, _⟩ := hT.at i (by rw [hml]; exact hi)
                  simp only [Value.slice.injEq] at e1
                  obtain ⟨lb', lo', e2, c2⟩ := LY.out.is.lies (by omega)
                  refine ⟨g, lb', lo', _, e1.1, e2, c1, ?_⟩
                  rw [c2 i hi]
                  have hil : i < l2.length := by rw [hlZ.out]; exact hi
                  simp [Od, List.getD, List.getElem?_eq_getElem hil])
                clear hT hY bY hml LZ
                go_wp2_with fail
                go_loopw [16] (fun i wr => ∃ k nn : Nat, k ≤ D + 0 ∧ i = .int .i64 (k : Int) ∧ Hid (wr = Y.drewN nn)) (fun i _ => D + 0 - (intOf i).toNat)
                case atStart => exact ⟨0, 0, Nat.zero_le _, rfl, hide rfl⟩
                case round =>
                  obtain ⟨k, nn, hk, rfl, hwr⟩ := hrel
                  by_cases hkk : k < D + 0
                  · obtain ⟨g, lb', lo', x, rfl, rfl, c1, c2⟩ := NUM.out k hkk
                    have d1 : wr.cell? ⟨g, k * 4, none⟩ = some (.int .i64 x) := by rw [hwr.out]; exact c1
                    have d2 : wr.cell? ⟨lb', lo' + k, none⟩ = some (.int .i64 x) := by rw [hwr.out]; exact c2
                    go_wp2_with fail
                    go_quiet (fail)
                    go_wp2_with fail
                    go_roundw
                    case rel => exact ⟨k + 1, nn + nq, by omega, by simp, hide (by rw [hwr.out, World.drewN_drewN])⟩
                    case measure => (try simp [intOf]) <;> omega
                  · have hkk' : k = D + 0 := by omega
                    have LN : Hid (Lf w R M bss j l2 a' (D + 0) c' wr) := hide (LY.out.fresh (by rw [hwr.out]; exact below_drewN (Below.refl _ Y) nn))
                    clear hwr NUM LY
                    have hkz : ¬ ((k : Int) < ((D + 0 : Nat) : Int)) := by omega
                    clear hkk'
                    go_wp2_with fail
                    go_roundw
                    case rel => exact ⟨l2, a', D + 0, c', q + 1, by simp, by simp, by omega, LN⟩
                    case measure => simp [lenV] <;> omega
            · obtain ⟨ob, oo, rfl, hoc⟩ := HO.out.lies (by omega)
              have hoc' : wr.cell? ⟨ob, oo + q % n1, none⟩ = some (.int .i64 (os.getD (q % n1) 0)) := by
                have h0 := hoc (q % n1) (Nat.mod_lt _ (by omega))
                rw [hL.out.net.bel.cell (cell_lt h0)]
                exact h0
              have hqm := Nat.mod_lt q (show 0 < n1 by omega)
              have hn1' : 0 < n1 := by omega
              obtain ⟨qm, hqe⟩ : ∃ qm, Hid (qm = q % n1) := ⟨_, hide rfl⟩
              have htm : Int.tmod (q : Int) (n1 : Int) = (qm : Int) := by rw [hqe.out]; rfl
              rw [← hqe.out] at hoc' hqm
              have hn1z : ((n1 : Int) == 0) = false := by simp; omega
              have CP := pick_any (os.getD qm 0) ln wr (by omega) (by omega)
              clear hoc
              go_wp2_with fail
              refine CP.mono ?_
              rintro e wp ⟨p, hp, rfl, hwp⟩
              subst wp
              clear CP hoc' htm hqm hn1z hqe
              obtain ⟨κ, hk1, kc, klk, kdr⟩ := AT.out p hp
              have kc' : wr.cell? ⟨lb, lo + p, none⟩ = some (.int .i64 ((κ : Int) + 1)) := kc
              have C := an_deliver hL.out.net (i6 (by omega) : I6 ((κ : Int) + 1)) klk
              rw [kdr] at C
              obtain ⟨bb, bo, c, m, d, rfl, hbd⟩ := BD.out κ hk1
              clear kc klk kdr
              have hk3 : κ ≤ 12 := by omega
              have hk4 : κ < n0 := by omega
              go_wp2_with fail
              refine C.mono ?_
              rintro e W1 ⟨t, rfl, ht, hA1, t1⟩
              obtain ⟨V, HV⟩ : ∃ V, Hid (V = W1.alloc (.cells #[.int .i64 ((κ : Int) + 1), .int .i64 (κ : Int), .int .i64 0, .slice t.a t.ln t.cap] (31 : TypeId))) := ⟨_, hide rfl⟩
              have hAV : An w R M (Od bss (l.eraseIdx p) j) V := by rw [HV.out]; exact hA1.alloc _
              have tV : Tb (fun k => k = R ∨ k = M) wr V := by rw [HV.out]; exact t1.alloc _
              have hV0 : V.heap[W1.heap.size]? = some (.cells #[.int .i64 ((κ : Int) + 1), .int .i64 (κ : Int), .int .i64 0, .slice t.a t.ln t.cap] (31 : TypeId) (0, 0)) := by rw [HV.out]; exact heap_alloc_new W1 _
              have x0 := cell_of_row V W1.heap.size 0 _ (31 : TypeId) (0, 0) hV0
              have x1 := cell_of_row V W1.heap.size 1 _ (31 : TypeId) (0, 0) hV0
              have x3 := cell_of_row V W1.heap.size 3 _ (31 : TypeId) (0, 0) hV0
              simp only [List.getElem?_toArray, List.getElem?_cons_succ, List.getElem?_cons_zero] at x0 x1 x3
              have v1 : V.cell? ⟨lb, lo + p, none⟩ = some (.int .i64 ((κ : Int) + 1)) := tV.cell kc' (fun e => e.elim hfar.1 hfar.2)
              have v2 : V.cell? ⟨bb, bo + κ, none⟩ = some (.slice c m d) := by rw [hAV.bel.cell (cell_lt hbd.out.1)]; exact hbd.out.1
              have hBt : Bs V t.a t.ln t.cap (bss.getD κ []) := by rw [HV.out]; exact ht.bd.alloc _
              have hBc : Bs V c m d (bss.getD κ []) := hbd.out.2.keep hAV.bel
              have CS := fun q => same_true rfl (hBt.keep (below_drewN (Below.refl _ V) q)) (hBc.keep (below_drewN (Below.refl _ V) q))
              have hIs : Hid (Is V (some ⟨lb, lo, none⟩) ln lc l) := hide (Is.heap hL.out.is (fun ad e => by cases e; exact tV.block lb (cell_lt kc') (fun e => e.elim hfar.1 hfar.2)))
              have HAV := hide hAV
              clear hAV tV hV0 hBt hBc ht hA1 t1 C kc'
              go_wp2_with fail
              rw [← HV.out]
              have hself : IntKind.i64.wrap ((κ : Int) + 1 - 1) = (κ : Int) := by rw [wrap_small (by omega)]; omega
              go_quiet (first | (go_at_call 25; exact Calls.quiet_of_same (CS _)))
              go_wp2_with fail
              obtain ⟨X, HX⟩ : ∃ X, Hid (X = V.drewN nq) := ⟨_, hide rfl⟩
              rw [← HX.out]
              have hIX : Is X.drew (some ⟨lb, lo, none⟩) ln lc l := Is.heap hIs.out (fun ad e => by rw [HX.out]; exact (below_drewN (Below.refl _ V) nq).block _ (by cases e; exact World.block_lt_of_cell? V ⟨lb, lo + p, none⟩ v1))
              have hAX : Hid (An w R M (Od bss (l.eraseIdx p) j) X.drew) := hide (by rw [HX.out]; exact HAV.out.fresh (below_drewN (Below.refl _ V) nq).drew)
              obtain ⟨D, hD⟩ : ∃ D, ln = D + (p + 1) := ⟨ln - (p + 1), by omega⟩
              subst hD
              have hIX' : Is X.drew (some ⟨lb, lo, none⟩) (D + (p + 1)) lc l := hIX
              have hzero : ((p : Int) : Int) ≤ (D : Int) + ((p : Int) + 1) := by omega
              have hI1 : (((p : Int) + 1) : Int) ≤ (lc : Int) := by omega
              by_cases hcn : lc = (p + 1)
              · subst hcn
                obtain ⟨a', c', Z, r1, r2, r3, r4⟩ := erase_runD hIX' (by omega) ⟨lb, lo, none⟩ (by simp)
                have hD0 : D = 0 := by omega
                subst hD0
                have r1' : ∀ ty, (Builtin.append_ #[(59 : TypeId), (59 : TypeId)] ty #[.slice (some ⟨lb, lo, none⟩) p p, .slice (some ⟨lb, lo, none⟩) 0 0]).run Try.prog X.drew = .ok (.slice a' (0 + p) c') Z := fun ty => by have := r1 ty; rw [Nat.sub_self] at this; exact this
                refine wp_region_held_drew (S := fun _ => True) (by kernel_rfl) trivial (fun _ => ?_)
                try simp only [List.size_toArray, List.length_cons, List.length_nil, Nat.reduceAdd]
                refine wpAnyH_take (i := 0) (v := (.slice (some ⟨lb, lo, none⟩) (0 + (p + 1)) (p + 1))) rfl (by kernel_rfl) (by kernel_rfl) (by kernel_rfl) (fun _ _ _ h => h) (Or.inl ⟨by rfl, ?hy⟩) trivial ?_
                case hy => (intro V' _; go_simp; try first | exact wrap_small (by omega) | (intro hh; exfalso; omega))
                simp only [Act.put, List.getElem_toArray, List.getElem_cons_zero, List.setIfInBounds_toArray, List.set_cons_succ, List.set_cons_zero]
                refine wpAnyH_take (i := 1) (v := (.int .i64 (p : Int))) rfl (by kernel_rfl) (by kernel_rfl) (by kernel_rfl) (fun _ _ _ h => h) (Or.inl ⟨by rfl, ?hy⟩) trivial ?_
                case hy => (intro V' _; go_simp; try first | exact wrap_small (by omega) | (intro hh; exfalso; omega))
                simp only [Act.put, List.getElem_toArray, List.getElem_cons_succ, List.getElem_cons_zero, List.setIfInBounds_toArray, List.set_cons_succ, List.set_cons_zero]
                refine wpAnyH_take (i := 2) (v := (.int .i64 (p : Int))) rfl (by kernel_rfl) (by kernel_rfl) (by kernel_rfl) (fun _ _ _ h => h) (Or.inl ⟨by rfl, ?hy⟩) trivial ?_
                case hy => (intro V' _; go_simp; try first | exact wrap_small (by omega) | (intro hh; exfalso; omega))
                simp only [Act.put, List.getElem_toArray, List.getElem_cons_succ, List.getElem_cons_zero, List.setIfInBounds_toArray, List.set_cons_succ, List.set_cons_zero]
                refine wpAnyH_take (i := 3) (v := (.slice (some ⟨lb, lo, none⟩) p p)) rfl (by kernel_rfl) (by kernel_rfl) (by kernel_rfl) (fun _ _ _ h => h) (Or.inl ⟨by rfl, ?hy⟩) trivial ?_
                case hy => (intro V' _; go_simp; try first | exact wrap_small (by omega) | (intro hh; exfalso; omega))
                simp only [Act.put, List.getElem_toArray, List.getElem_cons_succ, List.getElem_cons_zero, List.setIfInBounds_toArray, List.set_cons_succ, List.set_cons_zero]
                refine wpAnyH_take (i := 4) (v := (.slice (some ⟨lb, lo, none⟩) (0 + (p + 1)) (p + 1))) rfl (by kernel_rfl) (by kernel_rfl) (by kernel_rfl) (fun _ _ _ h => h) (Or.inl ⟨by rfl, ?hy⟩) trivial ?_
                case hy => (intro V' _; go_simp; try first | exact wrap_small (by omega) | (intro hh; exfalso; omega))
                simp only [Act.put, List.getElem_toArray, List.getElem_cons_succ, List.getElem_cons_zero, List.setIfInBounds_toArray, List.set_cons_succ, List.set_cons_zero]
                refine wpAnyH_take (i := 5) (v := (.int .i64 (p : Int))) rfl (by kernel_rfl) (by kernel_rfl) (by kernel_rfl) (fun _ _ _ h => h) (Or.inl ⟨by rfl, ?hy⟩) trivial ?_
                case hy => (intro V' _; go_simp; try first | exact wrap_small (by omega) | (intro hh; exfalso; omega))
                simp only [Act.put, List.getElem_toArray, List.getElem_cons_succ, List.getElem_cons_zero, List.setIfInBounds_toArray, List.set_cons_succ, List.set_cons_zero]
                refine wpAnyH_take (i := 6) (v := (.int .i64 ((p : Int) + 1))) rfl (by kernel_rfl) (by kernel_rfl) (by kernel_rfl) (fun _ _ _ h => h) (Or.inl ⟨by rfl, ?hy⟩) trivial ?_
                case hy => (intro V' _; go_simp; try first | exact wrap_small (by omega) | (intro hh; exfalso; omega))
                simp only [Act.put, List.getElem_toArray, List.getElem_cons_succ, List.getElem_cons_zero, List.setIfInBounds_toArray, List.set_cons_succ, List.set_cons_zero]
                refine wpAnyH_take (i := 7) (v := (.slice (some ⟨lb, lo, none⟩) 0 0)) rfl (by kernel_rfl) (by kernel_rfl) (by kernel_rfl) (fun _ _ _ h => h) (Or.inl ⟨by rfl, ?hy⟩) trivial ?_
                case hy => (intro V' _; go_simp; try first | exact wrap_small (by omega) | (intro hh; exfalso; omega))
                simp only [Act.put, List.getElem_toArray, List.getElem_cons_succ, List.getElem_cons_zero, List.setIfInBounds_toArray, List.set_cons_succ, List.set_cons_zero]
                refine wpAnyH_ready (rs := [8]) (by kernel_rfl) (by simp) ?_
                refine AllReadyH.cons rfl (fun K hK => ?_) AllReadyH.nil
                refine step_run rfl (exec_append (.slice (some ⟨lb, lo, none⟩) p p) (.slice (some ⟨lb, lo, none⟩) 0 0) rfl (by simp [Act.eval]) (by simp [Act.eval]) (r1' _)) ?_
                refine hK.out _ _ trivial (fun _ => ?_)
                clear hK K
                simp only [Act.put, List.getElem_toArray, List.getElem_cons_succ, List.getElem_cons_zero, List.setIfInBounds_toArray, List.set_cons_succ, List.set_cons_zero]
                refine wpAnyH_take (i := 9) (v := (.slice a' (0 + p) c')) rfl (by kernel_rfl) (by kernel_rfl) (by kernel_rfl) (fun _ _ _ h => h) (Or.inl ⟨by rfl, ?hy⟩) trivial ?_
                case hy => (intro V' _; go_simp; try first | exact wrap_small (by omega) | (intro hh; exfalso; omega))
                simp only [Act.put, List.getElem_toArray, List.getElem_cons_succ, List.getElem_cons_zero, List.setIfInBounds_toArray, List.set_cons_succ, List.set_cons_zero]
                refine wpAnyH_done (by kernel_rfl) ?_ _
                try simp only [Act.put, List.getElem_toArray, List.getElem_cons_succ, List.getElem_cons_zero, List.setIfInBounds_toArray, List.set_cons_succ, List.set_cons_zero]
                have LZ0 := Lf.less hL.out rfl hAX.out r4 r2 r3
                obtain ⟨l2, hl2⟩ : ∃ l2, l2 = l.eraseIdx p := ⟨_, rfl⟩
                rw [← hl2] at LZ0 r2
                have LZ := hide LZ0
                clear LZ0 hl2
                have hlZ : Hid (l2.length = 0 + p) := hide r2.len
                have hle := r2.le
                have hre := r2.reach
                clear r1 r1' r2 r3 r4 hIX hIX' hAX HAV hIs CS x0 x1 x3 v1 v2 HV
                go_wp2_with fail
                refine (an_list LZ.out.net).mono ?_
                rintro e Y ⟨v, ts, rfl, hT, hY, bY⟩
                have LY := hide (LZ.out.fresh bY)
                have hml : (Od bss l2 j).m.length = 0 + p := by simp only [Od, List.length_map]; exact hlZ.out
                obtain ⟨va, vc, rfl, hv1, hv2⟩ := hT.val
                rw [hml] at hv1 ⊢
                have NUM : Hid (∀ i, i < 0 + p → ∃ g lb' lo' x, va = some ⟨g, 0, none⟩ ∧ a' = some ⟨lb', lo', none⟩ ∧ Y.cell? ⟨g, i * 4, none⟩ = some (.int .i64 x) ∧ Y.cell? ⟨lb', lo' + i, none⟩ = some (.int .i64 x)) := hide (fun i hi => by
                  obtain ⟨g, cap, t, e1, _, _, _, _, _, c1, _⟩ := hT.at i (by rw [hml]; exact hi)
                  simp only [Value.slice.injEq] at e1
                  obtain ⟨lb', lo', e2, c2⟩ := LY.out.is.lies (by omega)
                  refine ⟨g, lb', lo', _, e1.1, e2, c1, ?_⟩
                  rw [c2 i hi]
                  have hil : i < l2.length := by rw [hlZ.out]; exact hi
                  simp [Od, List.getD, List.getElem?_eq_getElem hil])
                clear hT hY bY hml LZ
                go_wp2_with fail
                go_loopw [16] (fun i wr => ∃ k nn : Nat, k ≤ 0 + p ∧ i = .int .i64 (k : Int) ∧ Hid (wr = Y.drewN nn)) (fun i _ => 0 + p - (intOf i).toNat)
                case atStart => exact ⟨0, 0, Nat.zero_le _, rfl, hide rfl⟩
                case round =>
                  obtain ⟨k, nn, hk, rfl, hwr⟩ := hrel
                  by_cases hkk : k < 0 + p
                  · obtain ⟨g, lb', lo', x, rfl, rfl, c1, c2⟩ := NUM.out k hkk
                    have d1 : wr.cell? ⟨g, k * 4, none⟩ = some (.int .i64 x) := by rw [hwr.out]; exact c1
                    have d2 : wr.cell? ⟨lb', lo' + k, none⟩ = some (.int .i64 x) := by rw [hwr.out]; exact c2
                    go_wp2_with fail
                    go_quiet (fail)
                    go_wp2_with fail
                    go_roundw
                    case rel => exact ⟨k + 1, nn + nq, by omega, by simp, hide (by rw [hwr.out, World.drewN_drewN])⟩
                    case measure => (try simp [intOf]) <;> omega
                  · have hkk' : k = 0 + p := by omega
                    have LN : Hid (Lf w R M bss j l2 a' (0 + p) c' wr) := hide (LY.out.fresh (by rw [hwr.out]; exact below_drewN (Below.refl _ Y) nn))
                    clear hwr NUM LY
                    have hkz : ¬ ((k : Int) < ((0 + p : Nat) : Int)) := by omega
                    clear hkk'
                    go_wp2_with fail
                    go_roundw
                    case rel => exact ⟨l2, a', 0 + p, c', q + 1, by simp, by simp, by omega, LN⟩
                    case measure => simp [lenV] <;> omega
              · obtain ⟨a', c', Z, r1, r2, r3, r4⟩ := erase_runD hIX' (by omega) ⟨lb, lo + (p + 1), none⟩ (by simp [hcn])
                have r1' : ∀ ty, (Builtin.append_ #[(59 : TypeId), (59 : TypeId)] ty #[.slice (some ⟨lb, lo, none⟩) p p, .slice (some ⟨lb, lo + (p + 1), none⟩) D (lc - (p + 1))]).run Try.prog X.drew = .ok (.slice a' (D + p) c') Z := r1
                refine wp_region_held_drew (S := fun _ => True) (by kernel_rfl) trivial (fun _ => ?_)
                try simp only [List.size_toArray, List.length_cons, List.length_nil, Nat.reduceAdd]
                refine wpAnyH_take (i := 0) (v := (.slice (some ⟨lb, lo, none⟩) (D + (p + 1)) lc)) rfl (by kernel_rfl) (by kernel_rfl) (by kernel_rfl) (fun _ _ _ h => h) (Or.inl ⟨by rfl, ?hy⟩) trivial ?_
                case hy => (intro V' _; go_simp; try first | exact wrap_small (by omega) | (intro hh; exfalso; omega))
                simp only [Act.put, List.getElem_toArray, List.getElem_cons_zero, List.setIfInBounds_toArray, List.set_cons_succ, List.set_cons_zero]
                refine wpAnyH_take (i := 1) (v := (.int .i64 (p : Int))) rfl (by kernel_rfl) (by kernel_rfl) (by kernel_rfl) (fun _ _ _ h => h) (Or.inl ⟨by rfl, ?hy⟩) trivial ?_
                case hy => (intro V' _; go_simp; try first | exact wrap_small (by omega) | (intro hh; exfalso; omega))
                simp only [Act.put, List.getElem_toArray, List.getElem_cons_succ, List.getElem_cons_zero, List.setIfInBounds_toArray, List.set_cons_succ, List.set_cons_zero]
                refine wpAnyH_take (i := 2) (v := (.int .i64 (p : Int))) rfl (by kernel_rfl) (by kernel_rfl) (by kernel_rfl) (fun _ _ _ h => h) (Or.inl ⟨by rfl, ?hy⟩) trivial ?_
                case hy => (intro V' _; go_simp; try first | exact wrap_small (by omega) | (intro hh; exfalso; omega))
                simp only [Act.put, List.getElem_toArray, List.getElem_cons_succ, List.getElem_cons_zero, List.setIfInBounds_toArray, List.set_cons_succ, List.set_cons_zero]
                refine wpAnyH_take (i := 3) (v := (.slice (some ⟨lb, lo, none⟩) p p)) rfl (by kernel_rfl) (by kernel_rfl) (by kernel_rfl) (fun _ _ _ h => h) (Or.inl ⟨by rfl, ?hy⟩) trivial ?_
                case hy => (intro V' _; go_simp; try first | exact wrap_small (by omega) | (intro hh; exfalso; omega))
                simp only [Act.put, List.getElem_toArray, List.getElem_cons_succ, List.getElem_cons_zero, List.setIfInBounds_toArray, List.set_cons_succ, List.set_cons_zero]
                refine wpAnyH_take (i := 4) (v := (.slice (some ⟨lb, lo, none⟩) (D + (p + 1)) lc)) rfl (by kernel_rfl) (by kernel_rfl) (by kernel_rfl) (fun _ _ _ h => h) (Or.inl ⟨by rfl, ?hy⟩) trivial ?_
                case hy => (intro V' _; go_simp; try first | exact wrap_small (by omega) | (intro hh; exfalso; omega))
                simp only [Act.put, List.getElem_toArray, List.getElem_cons_succ, List.getElem_cons_zero, List.setIfInBounds_toArray, List.set_cons_succ, List.set_cons_zero]
                refine wpAnyH_take (i := 5) (v := (.int .i64 (p : Int))) rfl (by kernel_rfl) (by kernel_rfl) (by kernel_rfl) (fun _ _ _ h => h) (Or.inl ⟨by rfl, ?hy⟩) trivial ?_
                case hy => (intro V' _; go_simp; try first | exact wrap_small (by omega) | (intro hh; exfalso; omega))
                simp only [Act.put, List.getElem_toArray, List.getElem_cons_succ, List.getElem_cons_zero, List.setIfInBounds_toArray, List.set_cons_succ, List.set_cons_zero]
                refine wpAnyH_take (i := 6) (v := (.int .i64 ((p : Int) + 1))) rfl (by kernel_rfl) (by kernel_rfl) (by kernel_rfl) (fun _ _ _ h => h) (Or.inl ⟨by rfl, ?hy⟩) trivial ?_
                case hy => (intro V' _; go_simp; try first | exact wrap_small (by omega) | (intro hh; exfalso; omega))
                simp only [Act.put, List.getElem_toArray, List.getElem_cons_succ, List.getElem_cons_zero, List.setIfInBounds_toArray, List.set_cons_succ, List.set_cons_zero]
                refine wpAnyH_take (i := 7) (v := (.slice (some ⟨lb, lo + (p + 1), none⟩) D (lc - (p + 1)))) rfl (by kernel_rfl) (by kernel_rfl) (by kernel_rfl) (fun _ _ _ h => h) (Or.inl ⟨by rfl, ?hy⟩) trivial ?_
                case hy => (intro V' _; go_simp; try first | exact wrap_small (by omega) | (intro hh; exfalso; omega))
                simp only [Act.put, List.getElem_toArray, List.getElem_cons_succ, List.getElem_cons_zero, List.setIfInBounds_toArray, List.set_cons_succ, List.set_cons_zero]
                refine wpAnyH_ready (rs := [8]) (by kernel_rfl) (by simp) ?_
                refine AllReadyH.cons rfl (fun K hK => ?_) AllReadyH.nil
                refine step_run rfl (exec_append (.slice (some ⟨lb, lo, none⟩) p p) (.slice (some ⟨lb, lo + (p + 1), none⟩) D (lc - (p + 1))) rfl (by simp [Act.eval]) (by simp [Act.eval]) (r1' _)) ?_
                refine hK.out _ _ trivial (fun _ => ?_)
                clear hK K
                simp only [Act.put, List.getElem_toArray, List.getElem_cons_succ, List.getElem_cons_zero, List.setIfInBounds_toArray, List.set_cons_succ, List.set_cons_zero]
                refine wpAnyH_take (i := 9) (v := (.slice a' (D + p) c')) rfl (by kernel_rfl) (by kernel_rfl) (by kernel_rfl) (fun _ _ _ h => h) (Or.inl ⟨by rfl, ?hy⟩) trivial ?_
                case hy => (intro V' _; go_simp; try first | exact wrap_small (by omega) | (intro hh; exfalso; omega))
                simp only [Act.put, List.getElem_toArray, List.getElem_cons_succ, List.getElem_cons_zero, List.setIfInBounds_toArray, List.set_cons_succ, List.set_cons_zero]
                refine wpAnyH_done (by kernel_rfl) ?_ _
                try simp only [Act.put, List.getElem_toArray, List.getElem_cons_succ, List.getElem_cons_zero, List.setIfInBounds_toArray, List.set_cons_succ, List.set_cons_zero]
                have LZ0 := Lf.less hL.out rfl hAX.out r4 r2 r3
                obtain ⟨l2, hl2⟩ : ∃ l2, l2 = l.eraseIdx p := ⟨_, rfl⟩
                rw [← hl2] at LZ0 r2
                have LZ := hide LZ0
                clear LZ0 hl2
                have hlZ : Hid (l2.length = D + p) := hide r2.len
                have hle := r2.le
                have hre := r2.reach
                clear r1 r1' r2 r3 r4 hIX hIX' hAX HAV hIs CS x0 x1 x3 v1 v2 HV
                go_wp2_with fail
                refine (an_list LZ.out.net).mono ?_
                rintro e Y ⟨v, ts, rfl, hT, hY, bY⟩
                have LY := hide (LZ.out.fresh bY)
                have hml : (Od bss l2 j).m.length = D + p := by simp only [Od, List.length_map]; exact hlZ.out
                obtain ⟨va, vc, rfl, hv1, hv2⟩ := hT.val
                rw [hml] at hv1 ⊢
                have NUM : Hid (∀ i, i < D + p → ∃ g lb' lo' x, va = some ⟨g, 0, none⟩ ∧ a' = some ⟨lb', lo', none⟩ ∧ Y.cell? ⟨g, i * 4, none⟩ = some (.int .i64 x) ∧ Y.cell? ⟨lb', lo' + i, none⟩ = some (.int .i64 x)) := hide (fun i hi => by
                  obtain ⟨g, cap, t, e1, _, _, _, _, _, c1, _⟩ := hT.at i (by rw [hml]; exact hi)
                  simp only [Value.slice.injEq] at e1
                  obtain ⟨lb', lo', e2, c2⟩ := LY.out.is.lies (by omega)
                  refine ⟨g, lb', lo', _, e1.1, e2, c1, ?_⟩
                  rw [c2 i hi]
                  have hil : i < l2.length := by rw [hlZ.out]; exact hi
                  simp [Od, List.getD, List.getElem?_eq_getElem hil])
                clear hT hY bY hml LZ
                go_wp2_with fail
                go_loopw [16] (fun i wr => ∃ k nn : Nat, k ≤ D + p ∧ i = .int .i64 (k : Int) ∧ Hid (wr = Y.drewN nn)) (fun i _ => D + p - (intOf i).toNat)
                case atStart => exact ⟨0, 0, Nat.zero_le _, rfl, hide rfl⟩
                case round =>
                  obtain ⟨k, nn, hk, rfl, hwr⟩ := hrel
                  by_cases hkk : k < D + p
                  · obtain ⟨g, lb', lo', x, rfl, rfl, c1, c2⟩ := NUM.out k hkk
                    have d1 : wr.cell? ⟨g, k * 4, none⟩ = some (.int .i64 x) := by rw [hwr.out]; exact c1
                    have d2 : wr.cell? ⟨lb', lo' + k, none⟩ = some (.int .i64 x) := by rw [hwr.out]; exact c2
                    go_wp2_with fail
                    go_quiet (fail)
                    go_wp2_with fail
                    go_roundw
                    case rel => exact ⟨k + 1, nn + nq, by omega, by simp, hide (by rw [hwr.out, World.drewN_drewN])⟩
                    case measure => (try simp [intOf]) <;> omega
                  · have hkk' : k = D + p := by omega
                    have LN : Hid (Lf w R M bss j l2 a' (D + p) c' wr) := hide (LY.out.fresh (by rw [hwr.out]; exact below_drewN (Below.refl _ Y) nn))
                    clear hwr NUM LY
                    have hkz : ¬ ((k : Int) < ((D + p : Nat) : Int)) := by omega
                    clear hkk'
                    go_wp2_with fail
                    go_roundw
                    case rel => exact ⟨l2, a', D + p, c', q + 1, by simp, by simp, by omega, LN⟩
                    case measure => simp [lenV] <;> omega


end Go.Proofs.Ytgkbjnfkimkmaaa.netOrder

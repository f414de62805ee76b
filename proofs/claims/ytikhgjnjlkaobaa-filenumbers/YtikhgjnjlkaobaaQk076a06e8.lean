/-
  As many files as may be: the law's 'limits', walked.
-/
import Derived.Test.YtikhgjnjlkaobaaQk0ee3a97e
namespace Go.Proofs.Ytikhgjnjlkaobaa
open Go.RowKit Go.Sort
set_option maxRecDepth 100000
set_option maxRecDepth 100000
set_option linter.unusedVariables false
set_option linter.unusedSimpArgs false

/-- A conversion. -/
theorem exec_conv {P : Program} {o : Oper} {a : Act} {w : World} {t u : TypeId} {x : Operand} {r : Value} (v : Value) (hop : o.op = .convert t u x) (hx : a.eval x = v) (hrun : (convert t u v).run P w = .ok r w) : (execOp a.eval o).run P w = .ok (.value r) w := by
  unfold execOp
  simp only [hop, hx, Sem.run_bind, hrun, Result.andThen_ok]
  rfl

theorem row_three (X : World) (x y z : Int) : (X.alloc (.cells #[.int .u8 x, .int .u8 y, .int .u8 z] 5)).ownsRow X.heap.size 5 1 (.slice (some ⟨X.heap.size, 0, none⟩) 3 3) 3 (U [x, y, z]) :=
  ⟨rfl, .inr ⟨X.heap.size, 3, #[.int .u8 x, .int .u8 y, .int .u8 z], rfl, Nat.le_refl _, heap_alloc_new X _, Nat.le_refl _, by unfold maxLen; omega, rfl, rfl⟩⟩


def moreS : ByteArray := ⟨#[109, 111, 114, 101]⟩
def faaS : ByteArray := ⟨#[102, 97, 97]⟩

theorem kyn_len (k : Nat) : (kyn k).length = 3 := rfl

theorem lim_more (r : List Int) : (lim 256).put moreS 0 64 r = (5, lim 256) := by
  obtain ⟨hL, _⟩ := lim_ok 256 (Nat.le_refl _)
  have hl := lim_len hL
  have h0 : (lim 256).find moreS = 0 := by
    unfold Dsk.find
    cases hh : lk (lim 256).std.nm moreS.data.toList with
    | none => rfl
    | some f =>
      exfalso
      have h1 : moreS.data.toList ∈ (lim 256).std.nm.map (·.1) := List.mem_map.2 ⟨_, lk_mem hh, rfl⟩
      rw [hL.keys] at h1
      obtain ⟨i, _, e⟩ := List.mem_map.1 h1
      have := congrArg List.length e
      rw [kyn_len] at this
      simp [moreS] at this
  unfold Dsk.put
  rw [h0, if_neg (by
    have h1 : ¬ ¬ (1 ≤ moreS.size ∧ moreS.size ≤ 64) := by decide
    omega), if_pos (.inr ⟨rfl, by omega⟩)]

theorem lim_again (r : List Int) : ((lim 256).put faaS 0 64 r).1 = 0 ∧ ((lim 256).put faaS 0 64 r).2.std.nm.length = 256 := by
  obtain ⟨hL, _⟩ := lim_ok 256 (Nat.le_refl _)
  have hl := lim_len hL
  rcases hL.rows with h | ⟨f, f1, f2, x, f3⟩
  · omega
  · have hf : (lim 256).find faaS = f := by
      unfold Dsk.find
      rw [show faaS.data.toList = kyn 0 by kernel_rfl, f1]
      rfl
    have e : (lim 256).put faaS 0 64 r = (0, (lim 256).do (putStp f 0 r)) := by
      unfold Dsk.put
      rw [hf, if_neg (by
        have h1 : ¬ ¬ (1 ≤ faaS.size ∧ faaS.size ≤ 64) := by decide
        omega), if_neg (by omega), hL.bd.begin]
      simp only [ne_eq, not_true_eq_false, if_false]
      rw [if_neg (by omega)]
    rw [e]
    refine ⟨rfl, ?_⟩
    show ((lim 256).std.does (putStp f 0 r)).nm.length = 256
    rw [(sec_does (by simp [Stp.sec, putStp]) _).1, hl]

set_option maxHeartbeats 4000000 in
theorem limits_any (w : World) : Calls Try.prog 23 #[] w fun e w' => e = .returned (.bool true) ∧ Tb (fun _ => False) w w' := by
  go_enter Try.func23, Try.ntmps23
  go_wp2_with fail
  refine aw_new.mono ?_
  rintro e w1 ⟨R, rfl, hR, a1⟩
  have A1 := hide a1.ax
  clear a1
  go_wp2_with fail
  go_loopw [2] (fun i wr => ∃ k : Nat, k ≤ 256 ∧ i = .int .i64 k ∧ Hid (Ax w [] R (lim k) wr)) (fun i _ => 256 - (intOf i).toNat)
  case atStart => exact ⟨0, Nat.zero_le _, rfl, A1⟩
  case round =>
    obtain ⟨k, hk256, rfl, hax⟩ := hrel
    obtain ⟨hLk, hok⟩ := lim_ok k hk256
    have HL := hide hLk
    clear A1
    by_cases hk : k < 256
    · have HOK : Hid (((lim k).put (nm3 k) 0 64 (sec64 (k : Int))).1 = 0) := hide (hok hk)
      have HBY : Hid (∀ z ∈ [(102 : Int), 97 + (k : Int) / 16, 97 + (k : Int) % 16], 0 ≤ z ∧ z ≤ 255) := hide (fun z hz => by
        simp only [List.mem_cons, List.not_mem_nil, or_false] at hz
        omega)
      clear hLk hok
      go_wp2_with fail
      refine wp_region_held_drew (S := fun V => True) (by kernel_rfl) trivial (fun hHeld => ?_)
      try simp only [List.size_toArray, List.length_cons, List.length_nil, Nat.reduceAdd]
      refine wpAnyH_take (i := 0) (v := (.pointer (some ⟨R, 0, none⟩))) rfl (by kernel_rfl) (by kernel_rfl) (by kernel_rfl) (fun _ _ _ h => h) (Or.inl ⟨by rfl, ?hy⟩) hHeld ?_
      case hy => (intro V hV; go_simp)
      simp only [Act.put]
      refine wpAnyH_take (i := 1) (v := (.int .i64 (k : Int))) rfl (by kernel_rfl) (by kernel_rfl) (by kernel_rfl) (fun _ _ _ h => h) (Or.inl ⟨by rfl, ?hy⟩) hHeld ?_
      case hy => (intro V hV; go_simp)
      simp only [Act.put]
      refine wpAnyH_take (i := 2) (v := (.int .i64 ((k : Int) / 16))) rfl (by kernel_rfl) (by kernel_rfl) (by kernel_rfl) (fun _ _ _ h => h) (Or.inl ⟨by rfl, ?hy⟩) hHeld ?_
      case hy => (intro V hV; go_simp; first | done | (rw [IntKind.wrap_i64]; omega) | (rw [Int.tdiv_eq_ediv_of_nonneg (by omega)]))
      simp only [Act.put]
      refine wpAnyH_take (i := 3) (v := (.int .i64 (97 + (k : Int) / 16))) rfl (by kernel_rfl) (by kernel_rfl) (by kernel_rfl) (fun _ _ _ h => h) (Or.inl ⟨by rfl, ?hy⟩) hHeld ?_
      case hy => (intro V hV; go_simp; first | done | (rw [IntKind.wrap_i64]; omega))
      simp only [Act.put]
      refine wpAnyH_take (i := 4) (v := (.int .u8 (97 + (k : Int) / 16))) rfl (by kernel_rfl) (by kernel_rfl) (by kernel_rfl) (fun _ _ _ h => h) (Or.inl ⟨by rfl, ?hy⟩) hHeld ?_
      case hy => (intro V hV; go_simp; first | done | (rw [IntKind.wrap_u8]; omega))
      simp only [Act.put]
      refine wpAnyH_take (i := 5) (v := (.int .i64 (k : Int))) rfl (by kernel_rfl) (by kernel_rfl) (by kernel_rfl) (fun _ _ _ h => h) (Or.inl ⟨by rfl, ?hy⟩) hHeld ?_
      case hy => (intro V hV; go_simp)
      simp only [Act.put]
      refine wpAnyH_take (i := 6) (v := (.int .i64 ((k : Int) % 16))) rfl (by kernel_rfl) (by kernel_rfl) (by kernel_rfl) (fun _ _ _ h => h) (Or.inl ⟨by rfl, ?hy⟩) hHeld ?_
      case hy => (intro V hV; go_simp; first | done | (rw [if_neg (by omega), Int.tmod_eq_emod_of_nonneg (by omega)]) | (rw [Int.tmod_eq_emod_of_nonneg (by omega)]))
      simp only [Act.put]
      refine wpAnyH_take (i := 7) (v := (.int .i64 (97 + (k : Int) % 16))) rfl (by kernel_rfl) (by kernel_rfl) (by kernel_rfl) (fun _ _ _ h => h) (Or.inl ⟨by rfl, ?hy⟩) hHeld ?_
      case hy => (intro V hV; go_simp; first | done | (rw [IntKind.wrap_i64]; omega))
      simp only [Act.put]
      refine wpAnyH_take (i := 8) (v := (.int .u8 (97 + (k : Int) % 16))) rfl (by kernel_rfl) (by kernel_rfl) (by kernel_rfl) (fun _ _ _ h => h) (Or.inl ⟨by rfl, ?hy⟩) hHeld ?_
      case hy => (intro V hV; go_simp; first | done | (rw [IntKind.wrap_u8]; omega))
      simp only [Act.put]
      refine wpAnyH_take (i := 11) (v := (.int .i64 (k : Int))) rfl (by kernel_rfl) (by kernel_rfl) (by kernel_rfl) (fun _ _ _ h => h) (Or.inl ⟨by rfl, ?hy⟩) hHeld ?_
      case hy => (intro V hV; go_simp)
      simp only [Act.put]
      refine wpAnyH_take (i := 12) (v := (.int .u8 (k : Int))) rfl (by kernel_rfl) (by kernel_rfl) (by kernel_rfl) (fun _ _ _ h => h) (Or.inl ⟨by rfl, ?hy⟩) hHeld ?_
      case hy => (intro V hV; go_simp; first | done | (rw [IntKind.wrap_u8]; omega))
      simp only [Act.put]
      obtain ⟨wd, hwd⟩ : ∃ wd, Hid (wd = wr.drew) := ⟨_, hide rfl⟩
      rw [← hwd.out]
      have twd : Tb (fun _ => False) wr wd := by rw [hwd.out]; exact (Tb.refl _ _).drew
      refine wpAnyH_ready (rs := [9, 13]) (by kernel_rfl) (by simp) ?_
      refine AllReadyH.cons rfl (fun K hK => ?_) ?_
      · -- the name first
        refine exEq (wd.alloc (.cells #[.int .u8 102, .int .u8 (97 + (k : Int) / 16), .int .u8 (97 + (k : Int) % 16)] 5)) (fun X1 hX1 => ?_)
        refine exEq (wd.heap.size) (fun B1 hB1 => ?_)
        have tX1 : Tb (fun _ => False) wd X1 := by rw [hX1]; exact (Tb.refl _ _).alloc _
        have BX1 : Hid (∀ V, Tb (fun _ => False) X1 V → (convert 28 9 (.slice (some ⟨B1, 0, none⟩) 3 3)).run Try.prog V = .ok (.string (nm3 k)) V) := hide (fun V tV => by
          rw [hB1]
          exact run_str 28 5 Try.underlying28 Try.underlying5 (own_bs (row_tb (row_three wd _ _ _) (by rw [hX1] at tV; exact tV) (fun _ _ h => h)) HBY.out) 9 Try.underlying9)
        refine step_run (v := .slice (some ⟨B1, 0, none⟩) 3 3) (w' := X1) rfl (exec_build #[(0, .int .u8 102), (1, .int .u8 (97 + (k : Int) / 16)), (2, .int .u8 (97 + (k : Int) % 16))] rfl (by simp [Act.eval]) (by rw [hX1, hB1]; go_simp)) ?_
        clear hX1 hB1
        refine hK.out _ _ trivial (fun hHeld => ?_)
        clear hK K
        simp only [Act.put, List.getElem_toArray, List.getElem_cons_succ, List.getElem_cons_zero, List.setIfInBounds_toArray, List.set_cons_succ, List.set_cons_zero]
        refine wpAnyH_ready (rs := [10, 13]) (by kernel_rfl) (by simp) ?_
        refine AllReadyH.cons rfl (fun K hK => ?_) ?_
        ·
          refine step_run (v := .string (nm3 k)) rfl (exec_conv _ rfl (by simp [Act.eval]) (BX1.out X1 (by first | exact Tb.refl _ _ | assumption))) ?_
          refine hK.out _ _ trivial (fun hHeld => ?_)
          clear hK K
          simp only [Act.put, List.getElem_toArray, List.getElem_cons_succ, List.getElem_cons_zero, List.setIfInBounds_toArray, List.set_cons_succ, List.set_cons_zero]
          refine wpAnyH_ready (rs := [13]) (by kernel_rfl) (by simp) ?_
          refine AllReadyH.cons rfl (fun K hK => ?_) AllReadyH.nil
          refine step_call rfl 10 #[.int .u8 (k : Int), .int .i64 0] (by go_simp) ?_
          refine (fill_any (k : Int) X1).mono ?_
          rintro e X2 ⟨v2, rfl, r2, b2⟩
          have tX2 : Tb (fun _ => False) X1 X2 := Tb.of_fresh b2
          refine ⟨_, rfl, ?_⟩
          refine hK.out _ _ trivial (fun hHeld => ?_)
          clear hK K
          simp only [Act.put, List.getElem_toArray, List.getElem_cons_succ, List.getElem_cons_zero, List.setIfInBounds_toArray, List.set_cons_succ, List.set_cons_zero]
          have C := az_put (s := nm3 k) (at' := 0) (n := 64) (data := sec64 (k : Int)) (hax.out) ((twd.trans tX1 (fun _ _ h => h)).trans tX2 (fun _ _ h => h)) (r2.mono (by have := tX1.size; have := twd.size; omega)) (sec64_k hk) HL.out.bz (by omega) (by rw [nm3_size]; omega)
          rw [HOK.out] at C
          have HC := hide C
          clear C
          refine wpAnyH_ready (rs := [14]) (by kernel_rfl) (by simp) ?_
          refine AllReadyH.cons rfl (fun K hK => ?_) AllReadyH.nil
          refine step_call rfl 9 #[.pointer (some ⟨R, 0, none⟩), .string (nm3 k), .int .i64 0, v2] (by go_simp) ?_
          refine HC.out.mono ?_
          rintro e Y ⟨rfl, hY, _⟩
          have HY : Hid (Ax w [] R (lim (k + 1)) Y) := hide hY
          clear hY HC
          refine ⟨_, rfl, ?_⟩
          refine hK.out _ _ trivial (fun hHeld => ?_)
          clear hK K
          simp only [Act.put, List.getElem_toArray, List.getElem_cons_succ, List.getElem_cons_zero, List.setIfInBounds_toArray, List.set_cons_succ, List.set_cons_zero]
          refine wpAnyH_take (i := 15) (v := (.bool false)) rfl (by kernel_rfl) (by kernel_rfl) (by kernel_rfl) (fun _ _ _ h => h) (Or.inl ⟨by rfl, ?hy⟩) hHeld ?_
          case hy => (intro V hV; go_simp)
          simp only [Act.put]
          refine wpAnyH_done (by kernel_rfl) ?_ _
          simp only [Act.put, List.getElem_toArray, List.getElem_cons_succ, List.getElem_cons_zero, List.setIfInBounds_toArray, List.set_cons_succ, List.set_cons_zero]
          go_wp2_with fail
          go_roundw
          case rel => exact ⟨k + 1, by omega, by go_num, HY⟩
          case measure => simp [intOf]; omega
        refine AllReadyH.cons rfl (fun K hK => ?_) AllReadyH.nil
        ·
          refine step_call rfl 10 #[.int .u8 (k : Int), .int .i64 0] (by go_simp) ?_
          refine (fill_any (k : Int) X1).mono ?_
          rintro e X2 ⟨v2, rfl, r2, b2⟩
          have tX2 : Tb (fun _ => False) X1 X2 := Tb.of_fresh b2
          refine ⟨_, rfl, ?_⟩
          refine hK.out _ _ trivial (fun hHeld => ?_)
          clear hK K
          simp only [Act.put, List.getElem_toArray, List.getElem_cons_succ, List.getElem_cons_zero, List.setIfInBounds_toArray, List.set_cons_succ, List.set_cons_zero]
          refine wpAnyH_ready (rs := [10]) (by kernel_rfl) (by simp) ?_
          refine AllReadyH.cons rfl (fun K hK => ?_) AllReadyH.nil
          refine step_run (v := .string (nm3 k)) rfl (exec_conv _ rfl (by simp [Act.eval]) (BX1.out X2 (by first | exact Tb.refl _ _ | assumption))) ?_
          refine hK.out _ _ trivial (fun hHeld => ?_)
          clear hK K
          simp only [Act.put, List.getElem_toArray, List.getElem_cons_succ, List.getElem_cons_zero, List.setIfInBounds_toArray, List.set_cons_succ, List.set_cons_zero]
          have C := az_put (s := nm3 k) (at' := 0) (n := 64) (data := sec64 (k : Int)) (hax.out) ((twd.trans tX1 (fun _ _ h => h)).trans tX2 (fun _ _ h => h)) (r2.mono (by have := tX1.size; have := twd.size; omega)) (sec64_k hk) HL.out.bz (by omega) (by rw [nm3_size]; omega)
          rw [HOK.out] at C
          have HC := hide C
          clear C
          refine wpAnyH_ready (rs := [14]) (by kernel_rfl) (by simp) ?_
          refine AllReadyH.cons rfl (fun K hK => ?_) AllReadyH.nil
          refine step_call rfl 9 #[.pointer (some ⟨R, 0, none⟩), .string (nm3 k), .int .i64 0, v2] (by go_simp) ?_
          refine HC.out.mono ?_
          rintro e Y ⟨rfl, hY, _⟩
          have HY : Hid (Ax w [] R (lim (k + 1)) Y) := hide hY
          clear hY HC
          refine ⟨_, rfl, ?_⟩
          refine hK.out _ _ trivial (fun hHeld => ?_)
          clear hK K
          simp only [Act.put, List.getElem_toArray, List.getElem_cons_succ, List.getElem_cons_zero, List.setIfInBounds_toArray, List.set_cons_succ, List.set_cons_zero]
          refine wpAnyH_take (i := 15) (v := (.bool false)) rfl (by kernel_rfl) (by kernel_rfl) (by kernel_rfl) (fun _ _ _ h => h) (Or.inl ⟨by rfl, ?hy⟩) hHeld ?_
          case hy => (intro V hV; go_simp)
          simp only [Act.put]
          refine wpAnyH_done (by kernel_rfl) ?_ _
          simp only [Act.put, List.getElem_toArray, List.getElem_cons_succ, List.getElem_cons_zero, List.setIfInBounds_toArray, List.set_cons_succ, List.set_cons_zero]
          go_wp2_with fail
          go_roundw
          case rel => exact ⟨k + 1, by omega, by go_num, HY⟩
          case measure => simp [intOf]; omega
      refine AllReadyH.cons rfl (fun K hK => ?_) AllReadyH.nil
      · -- the sector first
        refine step_call rfl 10 #[.int .u8 (k : Int), .int .i64 0] (by go_simp) ?_
        refine (fill_any (k : Int) wd).mono ?_
        rintro e X1 ⟨v1, rfl, r1, b1⟩
        have tX1 : Tb (fun _ => False) wd X1 := Tb.of_fresh b1
        refine ⟨_, rfl, ?_⟩
        refine hK.out _ _ trivial (fun hHeld => ?_)
        clear hK K
        simp only [Act.put, List.getElem_toArray, List.getElem_cons_succ, List.getElem_cons_zero, List.setIfInBounds_toArray, List.set_cons_succ, List.set_cons_zero]
        refine wpAnyH_ready (rs := [9]) (by kernel_rfl) (by simp) ?_
        refine AllReadyH.cons rfl (fun K hK => ?_) AllReadyH.nil
        refine exEq (X1.alloc (.cells #[.int .u8 102, .int .u8 (97 + (k : Int) / 16), .int .u8 (97 + (k : Int) % 16)] 5)) (fun X2 hX2 => ?_)
        refine exEq (X1.heap.size) (fun B2 hB2 => ?_)
        have tX2 : Tb (fun _ => False) X1 X2 := by rw [hX2]; exact (Tb.refl _ _).alloc _
        have BX2 : Hid (∀ V, Tb (fun _ => False) X2 V → (convert 28 9 (.slice (some ⟨B2, 0, none⟩) 3 3)).run Try.prog V = .ok (.string (nm3 k)) V) := hide (fun V tV => by
          rw [hB2]
          exact run_str 28 5 Try.underlying28 Try.underlying5 (own_bs (row_tb (row_three X1 _ _ _) (by rw [hX2] at tV; exact tV) (fun _ _ h => h)) HBY.out) 9 Try.underlying9)
        refine step_run (v := .slice (some ⟨B2, 0, none⟩) 3 3) (w' := X2) rfl (exec_build #[(0, .int .u8 102), (1, .int .u8 (97 + (k : Int) / 16)), (2, .int .u8 (97 + (k : Int) % 16))] rfl (by simp [Act.eval]) (by rw [hX2, hB2]; go_simp)) ?_
        clear hX2 hB2
        refine hK.out _ _ trivial (fun hHeld => ?_)
        clear hK K
        simp only [Act.put, List.getElem_toArray, List.getElem_cons_succ, List.getElem_cons_zero, List.setIfInBounds_toArray, List.set_cons_succ, List.set_cons_zero]
        refine wpAnyH_ready (rs := [10]) (by kernel_rfl) (by simp) ?_
        refine AllReadyH.cons rfl (fun K hK => ?_) AllReadyH.nil
        refine step_run (v := .string (nm3 k)) rfl (exec_conv _ rfl (by simp [Act.eval]) (BX2.out X2 (by first | exact Tb.refl _ _ | assumption))) ?_
        refine hK.out _ _ trivial (fun hHeld => ?_)
        clear hK K
        simp only [Act.put, List.getElem_toArray, List.getElem_cons_succ, List.getElem_cons_zero, List.setIfInBounds_toArray, List.set_cons_succ, List.set_cons_zero]
        have C := az_put (s := nm3 k) (at' := 0) (n := 64) (data := sec64 (k : Int)) (hax.out) ((twd.trans tX1 (fun _ _ h => h)).trans tX2 (fun _ _ h => h)) (row_tb (r1.mono (by have := twd.size; omega)) tX2 (fun _ _ h => h)) (sec64_k hk) HL.out.bz (by omega) (by rw [nm3_size]; omega)
        rw [HOK.out] at C
        have HC := hide C
        clear C
        refine wpAnyH_ready (rs := [14]) (by kernel_rfl) (by simp) ?_
        refine AllReadyH.cons rfl (fun K hK => ?_) AllReadyH.nil
        refine step_call rfl 9 #[.pointer (some ⟨R, 0, none⟩), .string (nm3 k), .int .i64 0, v1] (by go_simp) ?_
        refine HC.out.mono ?_
        rintro e Y ⟨rfl, hY, _⟩
        have HY : Hid (Ax w [] R (lim (k + 1)) Y) := hide hY
        clear hY HC
        refine ⟨_, rfl, ?_⟩
        refine hK.out _ _ trivial (fun hHeld => ?_)
        clear hK K
        simp only [Act.put, List.getElem_toArray, List.getElem_cons_succ, List.getElem_cons_zero, List.setIfInBounds_toArray, List.set_cons_succ, List.set_cons_zero]
        refine wpAnyH_take (i := 15) (v := (.bool false)) rfl (by kernel_rfl) (by kernel_rfl) (by kernel_rfl) (fun _ _ _ h => h) (Or.inl ⟨by rfl, ?hy⟩) hHeld ?_
        case hy => (intro V hV; go_simp)
        simp only [Act.put]
        refine wpAnyH_done (by kernel_rfl) ?_ _
        simp only [Act.put, List.getElem_toArray, List.getElem_cons_succ, List.getElem_cons_zero, List.setIfInBounds_toArray, List.set_cons_succ, List.set_cons_zero]
        go_wp2_with fail
        go_roundw
        case rel => exact ⟨k + 1, by omega, by go_num, HY⟩
        case measure => simp [intOf]; omega
    · obtain rfl : k = 256 := by omega
      clear hok hLk
      go_wp2_with fail
      refine (fill_any 0 wr).mono ?_
      rintro e w2 ⟨v2, rfl, r2, b2⟩
      have C2 := az_put (s := moreS) (at' := 0) hax.out (Tb.of_fresh b2) r2 (sec64_by (by omega)) HL.out.bz (by omega) (by decide)
      rw [lim_more] at C2
      have HC2 := hide C2
      clear C2 r2 b2
      go_wp2_with fail
      refine HC2.out.mono ?_
      rintro e w3 ⟨rfl, h3, _⟩
      have H3 := hide h3
      clear h3 HC2
      go_wp2_with fail
      refine (fill_any 1 w3).mono ?_
      rintro e w4 ⟨v4, rfl, r4, b4⟩
      have C4 := az_put (s := faaS) (at' := 0) H3.out (Tb.of_fresh b4) r4 (sec64_by (by omega)) HL.out.bz (by omega) (by decide)
      obtain ⟨q1, q2⟩ := lim_again (sec64 1)
      have hb5 : Bd ((lim 256).put faaS 0 64 (sec64 1)).2 1000 := (HL.out.bd.put (by omega) (by decide) (by omega) (sec64_len _) (sec64_by (by omega))).wide (by omega)
      rw [q1] at C4
      obtain ⟨d5, hd5⟩ : ∃ d5, Hid (d5 = ((lim 256).put faaS 0 64 (sec64 1)).2) := ⟨_, hide rfl⟩
      rw [← hd5.out] at C4 q2 hb5
      have HC4 := hide C4
      have HB5 := hide hb5
      have HQ2 : Hid (d5.sorted.length = 256) := hide (by rw [sorted_len]; exact q2)
      clear C4 r4 b4 q1 q2 hb5
      go_wp2_with fail
      refine HC4.out.mono ?_
      rintro e w5 ⟨rfl, h5, _⟩
      have C5 := ax_sorted h5 HB5.out (by omega)
      rw [HQ2.out] at C5
      have H5 := hide h5
      have HC5 := hide C5
      clear h5 C5 HC4
      go_wp2_with fail
      refine HC5.out.mono ?_
      rintro e w6 ⟨a6, c6, rfl, r6, t6⟩
      have HF := hide (H5.out.kept t6).tb
      obtain ⟨hc1, hc2⟩ := row_cap r6
      clear r6 t6 HC5
      go_wp2_with fail
      go_ret
      exact ⟨rfl, HF.out⟩

end Go.Proofs.Ytikhgjnjlkaobaa

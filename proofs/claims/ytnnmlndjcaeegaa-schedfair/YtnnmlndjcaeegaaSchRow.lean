/-
  SchedFair returns true for all tasks, picks and truths, and changes nothing that was there: nobody starves, and no task is lost or doubled by a pick. No conditions.
-/
import Derived.Test.YtnnmlndjcaeegaaSch
import Derived.Test.YtnnmlndjcaeegaaSoq
namespace Go.Proofs.Ytnnmlndjcaeegaa.schedFair
open Go.ChangeShapes Go.WideShapes Go.ChangeAt Go.RowKit
open Go.ChangeMaps (open_string shut_string)
set_option linter.unusedVariables false

theorem own : ownKnob Try.prog.godebug = none := by kernel_rfl
theorem laidOut : laidOutB Try.prog = true := by kernel_rfl
theorem bytes5 : Try.prog.bytesOf 5 = 1 := by kernel_rfl


set_option maxRecDepth 100000 in
theorem lifted (os : Os) (started : os.Started) (H : Type) (enc : TypeId × Value → H) :
    ReturnsInHanded {} Try.checked os 4 .any (Rows.schedFairSpec.pre6 enc Try.prog Try.f4 Rows.schedFairRow.domain false) (Rows.schedFairSpec.post enc Try.prog Try.f4 false true false false) := by
  refine returnsInHanded_of_change_sized (C := Try.checked) own started (by kernel_rfl) Try.func4
    (ChangeSpec.witness6 (enc := enc) (C := Try.checked) false ⟨#[], #[.slice none 0 0, .slice none 0 0, .slice none 0 0], []⟩ 8 (by kernel_rfl) (by kernel_rfl) (by kernel_rfl) (by kernel_rfl)) ?_
  intro W base args ds gs before hval0 hW _ hsz0 _
  have hsz : (DataW.weightsEach Try.prog (Try.f4.params.toList ++ Rows.schedFairSpec.plain.varTypes Try.prog) (ds ++ gs)).all (· ≤ reachBytes) = true := hsz0
  clear hsz0
  have hval : ∀ (j : Nat) t v, Try.f4.params[j]? = some t → args[j]? = some v → Value.okWide Try.prog W .any base t v := hval0
  have hW' := hW
  obtain ⟨p, q, hA0, hV, rfl, hfz, hnd⟩ := hW
  have hA : DataW.TrodAll enc Try.prog W 0 (fun _ => true) true Try.f4.params.toList args.toList ds p := hA0
  rw [Try.params4] at hA hval hsz
  obtain ⟨v0, vs0, d0, ds0, p0, q0, hargs, rfl, rfl, h0, r0⟩ := trodAll_cons hA
  obtain ⟨v1, vs1, d1, ds1, p1, q1, rfl, rfl, rfl, h1, r1⟩ := trodAll_cons r0
  obtain ⟨v2, vs2, d2, ds2, p2, q2, rfl, rfl, rfl, h2, r2⟩ := trodAll_cons r1
  obtain ⟨rfl, rfl, rfl⟩ := trodAll_nil r2
  obtain rfl : args = #[v0, v1, v2] := by cases args; simp_all
  obtain ⟨rfl, rfl⟩ := trodVars_none hV
  obtain ⟨a0, len0, cap0, rfl⟩ := okWide_slice Try.underlying25 (hval 0 25 v0 rfl rfl)
  have k0 := h0
  have lt0 : ∀ x ∈ p0, x.block < W.heap.size := by obtain ⟨m, hm⟩ := k0; exact DataW.trod_lt m _ _ _ hm
  obtain ⟨zs0, hB0, hd0⟩ := open_ints6 h0
  obtain ⟨a1, len1, cap1, rfl⟩ := okWide_slice Try.underlying50 (hval 1 50 v1 rfl rfl)
  have k1 := h1
  have lt1 : ∀ x ∈ p1, x.block < W.heap.size := by obtain ⟨m, hm⟩ := k1; exact DataW.trod_lt m _ _ _ hm
  obtain ⟨zs1, hB1, hd1⟩ := open_u64s h1
  obtain ⟨a2, len2, cap2, rfl⟩ := okWide_slice Try.underlying51 (hval 2 51 v2 rfl rfl)
  have k2 := h2
  have lt2 : ∀ x ∈ p2, x.block < W.heap.size := by obtain ⟨m, hm⟩ := k2; exact DataW.trod_lt m _ _ _ hm
  obtain ⟨zs2, hB2, hd2⟩ := open_truths h2
  clear hA0 hval0
  have hn0 : len0 * 8 ≤ 140737488351232 := by
    rcases hd0 with ⟨_, hc⟩ | ⟨es, rs, hc, rfl⟩
    · omega
    · have h := sized_slice hsz (j := 0) (t := 25) (e := 3) rfl rfl Try.underlying25
      rw [show Try.prog.bytesOf 3 = 8 by kernel_rfl, hc, show reachBytes = 140737488351232 by decide, Nat.add_mul] at h
      omega
  have hn1 : len1 * 8 ≤ 140737488351232 := by
    rcases hd1 with ⟨_, hc⟩ | ⟨es, rs, hc, rfl⟩
    · omega
    · have h := sized_slice hsz (j := 1) (t := 50) (e := 26) rfl rfl Try.underlying50
      rw [show Try.prog.bytesOf 26 = 8 by kernel_rfl, hc, show reachBytes = 140737488351232 by decide, Nat.add_mul] at h
      omega
  have hn2 : len2 * 1 ≤ 140737488351232 := by
    rcases hd2 with ⟨_, hc⟩ | ⟨es, rs, hc, rfl⟩
    · omega
    · have h := sized_slice hsz (j := 2) (t := 51) (e := 4) rfl rfl Try.underlying51
      rw [show Try.prog.bytesOf 4 = 1 by kernel_rfl, hc, show reachBytes = 140737488351232 by decide, Nat.add_mul] at h
      omega
  refine (walk a0 len0 cap0 zs0 a1 len1 cap1 zs1 a2 len2 cap2 zs2 W hB0.1 hB0.2 hB1 hB2).mono fun e W' ⟨he, bel⟩ => ?_
  subst he
  exact ⟨_, rfl, _, _, _, [], _, [], hW', trodAll_mk1 (shut_bool Try.underlying4 _), (trodAll_cons_mk (Below.trod laidOut (by kernel_rfl) (of_decide_eq_true (by kernel_rfl)) k0 bel lt0) (trodAll_cons_mk (Below.trod laidOut (by kernel_rfl) (of_decide_eq_true (by kernel_rfl)) k1 bel lt1) (trodAll_cons_mk (Below.trod laidOut (by kernel_rfl) (of_decide_eq_true (by kernel_rfl)) k2 bel lt2) trodAll_mk0))), rfl, bel.frame _, fun h => by cases h⟩


theorem over : Rows.schedFairRow.holds Try.pinned (OpenSpec.ofChange Rows.schedFairSpec) :=
  OpenClaim.holds_of_wide 4 Try.f4 rfl rfl rfl rfl rfl rfl rfl ⟨rfl, rfl, rfl, rfl, rfl⟩ rfl rfl rfl rfl rfl (by kernel_rfl) Try.func4 (by kernel_rfl)
    (of_decide_eq_true (by kernel_rfl)) (by unfold Func.isWrapper; first | (rw [if_pos (by decide +kernel)]; kernel_rfl) | (rw [if_neg (by decide +kernel)]; exact ⟨rfl, rfl⟩))
    (fun os started H enc _ => lifted os started H enc)

end Go.Proofs.Ytnnmlndjcaeegaa.schedFair
namespace Go.Proofs.Ytnnmlndjcaeegaa
theorem schedFair_holds : Rows.SchedFairSaid := schedFair.over
#print axioms schedFair_holds
end Go.Proofs.Ytnnmlndjcaeegaa

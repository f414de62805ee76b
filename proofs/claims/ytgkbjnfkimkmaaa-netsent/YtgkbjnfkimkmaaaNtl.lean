/-
  NetSent's own function: a packet that is delivered was sent.
-/
import Derived.Test.YtgkbjnfkimkmaaaNtk
import Derived.Deep.QuietTactic
import Derived.BigQuiet
import Derived.Deep.RegionHeld3
namespace Go.Proofs.Ytgkbjnfkimkmaaa.netSent
open Go.RowKit Go.Proofs.Ytgkbjnfkimkmaaa
set_option maxRecDepth 100000
set_option linter.unusedVariables false
set_option linter.unusedSimpArgs false

section
variable {P : Program} {ops : Array Oper} {o : Oper} {a : Act} {w w' : World} {K : Act → World → Prop} {Q : Exit → Act → World → Prop} {E : Prop}
theorem step_runw {v : Value} (hw : Region.wanted o (yielded ops a.tmps) = true) (hrun : (execOp a.eval o).run P w = .ok (.value v) w') (hK : K (a.put o.dst v) w') :
    if Region.wanted o (yielded ops a.tmps) = true then Oper.wp P o a w K Q else E := by
  rw [if_pos hw]
  unfold Oper.wp
  rw [hrun]
  exact hK
theorem step_callw (hw : Region.wanted o (yielded ops a.tmps) = true) (f : FuncId) (args : Array Value) (hrun : (execOp a.eval o).run P w = .ok (.enter f args) w)
    (hc : Calls P f args w fun e w' => ∃ v, e = .returned v ∧ K (a.put o.dst v) w') : if Region.wanted o (yielded ops a.tmps) = true then Oper.wp P o a w K Q else E := by
  rw [if_pos hw]
  unfold Oper.wp
  rw [hrun, Oper.upon_enter]
  refine hc.mono fun e w' hh => ?_
  obtain ⟨v, rfl, hk⟩ := hh
  exact hk
end

theorem or_zero (κ : Nat) (h : κ ≤ 200) : bits .or .i64 0 (κ : Int) = (κ : Int) := by
  have hall : ∀ k : Fin 201, bits .or .i64 0 ((k.val : Nat) : Int) = ((k.val : Nat) : Int) := by decide +kernel
  exact hall ⟨κ, by omega⟩

theorem wrap_small {x : Int} (h : -9223372036854775808 ≤ x ∧ x ≤ 9223372036854775807) : IntKind.i64.wrap x = x := by
  simp [IntKind.wrap, IntKind.bits, IntKind.signed]
  omega

set_option maxHeartbeats 4000000 in
theorem deliver_was {w : World} {κ ν s S O og : Nat} {a : Option Addr} {ln cap : Nat} (hB : Bs w a ln cap (bod κ)) (hκ : κ < s) (hs : s ≤ 200) (hν : ν < 400) (hS : w.cell? ⟨S, 0, none⟩ = some (.int .i64 (s : Int))) (hO : w.cell? ⟨O, 0, none⟩ = some (.slice (some ⟨og, 0, none⟩) 400 400)) (ho : w.cell? ⟨og, ν, none⟩ = some (.int .i64 ((κ : Int) + 1))) :
    Calls Try.prog 24 #[.agg #[.int .i64 (ν : Int), .int .i64 (κ : Int), .int .i64 ((κ : Int) + 1), .slice a ln cap], .int .i64 0, .pointer (some ⟨S, 0, none⟩), .pointer (some ⟨O, 0, none⟩)] w fun e w' => e = .returned (.bool true) ∧ Below w.heap.size w w' := by
  have hlen := hB.len
  rw [bod_length] at hlen
  obtain ⟨g, off, rfl, hc⟩ := hB.lies (by omega)
  have b0 : w.cell? ⟨g, off, none⟩ = some (.int .u8 0) := by
    have := hc 0 (by omega)
    have e : (bod κ).getD 0 0 = 0 := by simp [bod]; omega
    rw [e] at this
    exact this
  have b1 : w.cell? ⟨g, off + 1, none⟩ = some (.int .u8 (κ : Int)) := by
    have := hc 1 (by omega)
    have e : (bod κ).getD 1 0 = (κ : Int) := by simp [bod]; omega
    rw [e] at this
    exact this
  have hln : 2 ≤ ln := by omega
  have hle := hB.le
  have hre := hB.reach
  obtain ⟨W, HW⟩ : ∃ W, Hid (W = w.alloc (.cells #[.int .i64 (ν : Int), .int .i64 (κ : Int), .int .i64 ((κ : Int) + 1), .slice (some ⟨g, off, none⟩) ln cap] (31 : TypeId))) := ⟨_, hide rfl⟩
  have bW : Below w.heap.size w W := by rw [HW.out]; exact (Below.refl _ w).alloc (Nat.le_refl _) _
  have hW0 : W.heap[w.heap.size]? = some (.cells #[.int .i64 (ν : Int), .int .i64 (κ : Int), .int .i64 ((κ : Int) + 1), .slice (some ⟨g, off, none⟩) ln cap] (31 : TypeId) (0, 0)) := by rw [HW.out]; exact heap_alloc_new w _
  have x0 := cell_of_row W w.heap.size 0 _ (31 : TypeId) (0, 0) hW0
  have x1 := cell_of_row W w.heap.size 1 _ (31 : TypeId) (0, 0) hW0
  have x2 := cell_of_row W w.heap.size 2 _ (31 : TypeId) (0, 0) hW0
  have x3 := cell_of_row W w.heap.size 3 _ (31 : TypeId) (0, 0) hW0
  simp only [List.getElem?_toArray, List.getElem?_cons_succ, List.getElem?_cons_zero] at x0 x1 x2 x3
  have c0 : W.cell? ⟨g, off, none⟩ = some (.int .u8 0) := by rw [bW.cell (World.block_lt_of_cell? w _ b0)]; exact b0
  have c1 : W.cell? ⟨g, off + 1, none⟩ = some (.int .u8 (κ : Int)) := by rw [bW.cell (World.block_lt_of_cell? w _ b1)]; exact b1
  have hor : bits .or .i64 0 (κ : Int) = (κ : Int) := or_zero κ (by omega)
  clear hc hlen b0 b1
  go_enter Try.func24, Try.ntmps24
  go_wp2_with fail
  rw [← HW.out]
  go_quiet (fail)
  have HS : Hid (∀ V, Below W.heap.size W V → V.cell? ⟨S, 0, none⟩ = some (.int .i64 (s : Int)) ∧ V.cell? ⟨w.heap.size, 0, none⟩ = some (.int .i64 (ν : Int)) ∧ V.cell? ⟨w.heap.size, 1, none⟩ = some (.int .i64 (κ : Int)) ∧ V.cell? ⟨w.heap.size, 2, none⟩ = some (.int .i64 ((κ : Int) + 1)) ∧ V.cell? ⟨w.heap.size, 3, none⟩ = some (.slice (some ⟨g, off, none⟩) ln cap) ∧ V.cell? ⟨O, 0, none⟩ = some (.slice (some ⟨og, 0, none⟩) 400 400) ∧ V.cell? ⟨og, ν, none⟩ = some (.int .i64 ((κ : Int) + 1))) := hide (fun V hV => by
    have hk : ∀ {ad : Addr} {v : Value}, W.cell? ad = some v → V.cell? ad = some v := fun h => by rw [hV.cell (cell_lt h)]; exact h
    have hw : ∀ {ad : Addr} {v : Value}, w.cell? ad = some v → W.cell? ad = some v := fun h => by rw [bW.cell (cell_lt h)]; exact h
    exact ⟨hk (hw hS), hk x0, hk x1, hk x2, hk x3, hk (hw hO), hk (hw ho)⟩)
  obtain ⟨X, HX⟩ : ∃ X, Hid (X = W.drewN nq) := ⟨_, hide rfl⟩
  have bX : Hid (Below W.heap.size W X) := hide (by rw [HX.out]; exact below_drewN (Below.refl _ W) nq)
  have BK : Hid (∀ V, Below W.heap.size W V → Bs V (some ⟨g, off, none⟩) ln cap (bod κ) ∧ Below w.heap.size w V) := hide (fun V hV => ⟨hB.keep (bW.trans (hV.mono bW.size)), bW.trans (hV.mono bW.size)⟩)
  have CB := fun V => body_any κ (by omega) V
  rw [← HX.out]
  have hsum : IntKind.i64.wrap ((κ : Int) + 1) = (κ : Int) + 1 := wrap_small (by omega)
  have hκI : (κ : Int) < (s : Int) := by omega
  clear hS hO ho x0 x1 x2 x3 c0 c1 hB bW hW0 HW
  go_wp2_with fail
  refine wp_region_held_drew (S := fun V => V.cell? ⟨S, 0, none⟩ = some (.int .i64 (s : Int)) ∧ V.cell? ⟨w.heap.size, 0, none⟩ = some (.int .i64 (ν : Int)) ∧ V.cell? ⟨w.heap.size, 1, none⟩ = some (.int .i64 (κ : Int)) ∧ V.cell? ⟨w.heap.size, 2, none⟩ = some (.int .i64 ((κ : Int) + 1)) ∧ V.cell? ⟨w.heap.size, 3, none⟩ = some (.slice (some ⟨g, off, none⟩) ln cap) ∧ V.cell? ⟨O, 0, none⟩ = some (.slice (some ⟨og, 0, none⟩) 400 400) ∧ V.cell? ⟨og, ν, none⟩ = some (.int .i64 ((κ : Int) + 1))) (by kernel_rfl) (HS.out _ bX.out.drew) (fun hHeld => ?_)
  try simp only [List.size_toArray, List.length_cons, List.length_nil, Nat.reduceAdd]
  refine wpAnyH_take (i := 0) (v := (Value.int .i64 (κ : Int))) rfl (by kernel_rfl) (by kernel_rfl) (by kernel_rfl) (fun _ _ _ h => h) (Or.inl ⟨by rfl, ?hy⟩) hHeld ?_
  case hy => (intro V hV; obtain ⟨hV1, hV2, hV3, hV4, hV5, hV6, hV7⟩ := hV; go_simp <;> first | done | rfl | (intro hh; exfalso; omega) | (try simp_all; done) | omega)
  simp only [Act.put, List.getElem_toArray, List.getElem_cons_succ, List.getElem_cons_zero, List.setIfInBounds_toArray, List.set_cons_succ, List.set_cons_zero]
  refine wpAnyH_take (i := 1) (v := (Value.int .i64 (s : Int))) rfl (by kernel_rfl) (by kernel_rfl) (by kernel_rfl) (fun _ _ _ h => h) (Or.inl ⟨by rfl, ?hy⟩) hHeld ?_
  case hy => (intro V hV; obtain ⟨hV1, hV2, hV3, hV4, hV5, hV6, hV7⟩ := hV; go_simp <;> first | done | rfl | (intro hh; exfalso; omega) | (try simp_all; done) | omega)
  simp only [Act.put, List.getElem_toArray, List.getElem_cons_succ, List.getElem_cons_zero, List.setIfInBounds_toArray, List.set_cons_succ, List.set_cons_zero]
  refine wpAnyH_take (i := 2) (v := (Value.bool true)) rfl (by kernel_rfl) (by kernel_rfl) (by kernel_rfl) (fun _ _ _ h => h) (Or.inl ⟨by rfl, ?hy⟩) hHeld ?_
  case hy => (intro V hV; obtain ⟨hV1, hV2, hV3, hV4, hV5, hV6, hV7⟩ := hV; go_simp <;> first | done | rfl | (intro hh; exfalso; omega) | (try simp_all; done) | omega)
  simp only [Act.put, List.getElem_toArray, List.getElem_cons_succ, List.getElem_cons_zero, List.setIfInBounds_toArray, List.set_cons_succ, List.set_cons_zero]
  refine wpAnyH_take (i := 3) (v := (Value.bool true)) rfl (by kernel_rfl) (by kernel_rfl) (by kernel_rfl) (fun _ _ _ h => h) (Or.inl ⟨by rfl, ?hy⟩) hHeld ?_
  case hy => (intro V hV; obtain ⟨hV1, hV2, hV3, hV4, hV5, hV6, hV7⟩ := hV; go_simp <;> first | done | rfl | (intro hh; exfalso; omega) | (try simp_all; done) | omega)
  simp only [Act.put, List.getElem_toArray, List.getElem_cons_succ, List.getElem_cons_zero, List.setIfInBounds_toArray, List.set_cons_succ, List.set_cons_zero]
  refine wpAnyH_take (i := 4) (v := (Value.pointer (some ⟨w.heap.size, 1, none⟩))) rfl (by kernel_rfl) (by kernel_rfl) (by kernel_rfl) (fun _ _ _ h => h) (Or.inl ⟨by rfl, ?hy⟩) hHeld ?_
  case hy => (intro V hV; obtain ⟨hV1, hV2, hV3, hV4, hV5, hV6, hV7⟩ := hV; go_simp <;> first | done | rfl | (intro hh; exfalso; omega) | (try simp_all; done) | omega)
  simp only [Act.put, List.getElem_toArray, List.getElem_cons_succ, List.getElem_cons_zero, List.setIfInBounds_toArray, List.set_cons_succ, List.set_cons_zero]
  refine wpAnyH_take (i := 5) (v := (Value.int .i64 (κ : Int))) rfl (by kernel_rfl) (by kernel_rfl) (by kernel_rfl) (fun _ _ _ h => h) (Or.inl ⟨by rfl, ?hy⟩) hHeld ?_
  case hy => (intro V hV; obtain ⟨hV1, hV2, hV3, hV4, hV5, hV6, hV7⟩ := hV; go_simp <;> first | done | rfl | (intro hh; exfalso; omega) | (try simp_all; done) | omega)
  simp only [Act.put, List.getElem_toArray, List.getElem_cons_succ, List.getElem_cons_zero, List.setIfInBounds_toArray, List.set_cons_succ, List.set_cons_zero]
  refine wpAnyH_take (i := 6) (v := (Value.int .i64 (κ : Int))) rfl (by kernel_rfl) (by kernel_rfl) (by kernel_rfl) (fun _ _ _ h => h) (Or.inl ⟨by rfl, ?hy⟩) hHeld ?_
  case hy => (intro V hV; obtain ⟨hV1, hV2, hV3, hV4, hV5, hV6, hV7⟩ := hV; go_simp <;> first | done | rfl | (intro hh; exfalso; omega) | (try simp_all; done) | omega)
  simp only [Act.put, List.getElem_toArray, List.getElem_cons_succ, List.getElem_cons_zero, List.setIfInBounds_toArray, List.set_cons_succ, List.set_cons_zero]
  refine wpAnyH_take (i := 7) (v := (Value.bool true)) rfl (by kernel_rfl) (by kernel_rfl) (by kernel_rfl) (fun _ _ _ h => h) (Or.inl ⟨by rfl, ?hy⟩) hHeld ?_
  case hy => (intro V hV; obtain ⟨hV1, hV2, hV3, hV4, hV5, hV6, hV7⟩ := hV; go_simp <;> first | done | rfl | (intro hh; exfalso; omega) | (try simp_all; done) | omega)
  simp only [Act.put, List.getElem_toArray, List.getElem_cons_succ, List.getElem_cons_zero, List.setIfInBounds_toArray, List.set_cons_succ, List.set_cons_zero]
  refine wpAnyH_take (i := 8) (v := (Value.bool true)) rfl (by kernel_rfl) (by kernel_rfl) (by kernel_rfl) (fun _ _ _ h => h) (Or.inl ⟨by rfl, ?hy⟩) hHeld ?_
  case hy => (intro V hV; obtain ⟨hV1, hV2, hV3, hV4, hV5, hV6, hV7⟩ := hV; go_simp <;> first | done | rfl | (intro hh; exfalso; omega) | (try simp_all; done) | omega)
  simp only [Act.put, List.getElem_toArray, List.getElem_cons_succ, List.getElem_cons_zero, List.setIfInBounds_toArray, List.set_cons_succ, List.set_cons_zero]
  refine wpAnyH_take (i := 9) (v := (Value.bool true)) rfl (by kernel_rfl) (by kernel_rfl) (by kernel_rfl) (fun _ _ _ h => h) (Or.inl ⟨by rfl, ?hy⟩) hHeld ?_
  case hy => (intro V hV; obtain ⟨hV1, hV2, hV3, hV4, hV5, hV6, hV7⟩ := hV; go_simp <;> first | done | rfl | (intro hh; exfalso; omega) | (try simp_all; done) | omega)
  simp only [Act.put, List.getElem_toArray, List.getElem_cons_succ, List.getElem_cons_zero, List.setIfInBounds_toArray, List.set_cons_succ, List.set_cons_zero]
  refine wpAnyH_take (i := 10) (v := (Value.pointer (some ⟨w.heap.size, 2, none⟩))) rfl (by kernel_rfl) (by kernel_rfl) (by kernel_rfl) (fun _ _ _ h => h) (Or.inl ⟨by rfl, ?hy⟩) hHeld ?_
  case hy => (intro V hV; obtain ⟨hV1, hV2, hV3, hV4, hV5, hV6, hV7⟩ := hV; go_simp <;> first | done | rfl | (intro hh; exfalso; omega) | (try simp_all; done) | omega)
  simp only [Act.put, List.getElem_toArray, List.getElem_cons_succ, List.getElem_cons_zero, List.setIfInBounds_toArray, List.set_cons_succ, List.set_cons_zero]
  refine wpAnyH_take (i := 11) (v := (Value.int .i64 ((κ : Int) + 1))) rfl (by kernel_rfl) (by kernel_rfl) (by kernel_rfl) (fun _ _ _ h => h) (Or.inl ⟨by rfl, ?hy⟩) hHeld ?_
  case hy => (intro V hV; obtain ⟨hV1, hV2, hV3, hV4, hV5, hV6, hV7⟩ := hV; go_simp <;> first | done | rfl | (intro hh; exfalso; omega) | (try simp_all; done) | omega)
  simp only [Act.put, List.getElem_toArray, List.getElem_cons_succ, List.getElem_cons_zero, List.setIfInBounds_toArray, List.set_cons_succ, List.set_cons_zero]
  refine wpAnyH_take (i := 12) (v := (Value.int .i64 (κ : Int))) rfl (by kernel_rfl) (by kernel_rfl) (by kernel_rfl) (fun _ _ _ h => h) (Or.inl ⟨by rfl, ?hy⟩) hHeld ?_
  case hy => (intro V hV; obtain ⟨hV1, hV2, hV3, hV4, hV5, hV6, hV7⟩ := hV; go_simp <;> first | done | rfl | (intro hh; exfalso; omega) | (try simp_all; done) | omega)
  simp only [Act.put, List.getElem_toArray, List.getElem_cons_succ, List.getElem_cons_zero, List.setIfInBounds_toArray, List.set_cons_succ, List.set_cons_zero]
  refine wpAnyH_take (i := 13) (v := (Value.int .i64 ((κ : Int) + 1))) rfl (by kernel_rfl) (by kernel_rfl) (by kernel_rfl) (fun _ _ _ h => h) (Or.inl ⟨by rfl, ?hy⟩) hHeld ?_
  case hy => (intro V hV; obtain ⟨hV1, hV2, hV3, hV4, hV5, hV6, hV7⟩ := hV; go_simp <;> first | done | rfl | (intro hh; exfalso; omega) | (try simp_all; done) | omega)
  simp only [Act.put, List.getElem_toArray, List.getElem_cons_succ, List.getElem_cons_zero, List.setIfInBounds_toArray, List.set_cons_succ, List.set_cons_zero]
  refine wpAnyH_take (i := 14) (v := (Value.bool true)) rfl (by kernel_rfl) (by kernel_rfl) (by kernel_rfl) (fun _ _ _ h => h) (Or.inl ⟨by rfl, ?hy⟩) hHeld ?_
  case hy => (intro V hV; obtain ⟨hV1, hV2, hV3, hV4, hV5, hV6, hV7⟩ := hV; go_simp <;> first | done | rfl | (intro hh; exfalso; omega) | (try simp_all; done) | omega)
  simp only [Act.put, List.getElem_toArray, List.getElem_cons_succ, List.getElem_cons_zero, List.setIfInBounds_toArray, List.set_cons_succ, List.set_cons_zero]
  refine wpAnyH_take (i := 15) (v := (Value.bool true)) rfl (by kernel_rfl) (by kernel_rfl) (by kernel_rfl) (fun _ _ _ h => h) (Or.inl ⟨by rfl, ?hy⟩) hHeld ?_
  case hy => (intro V hV; obtain ⟨hV1, hV2, hV3, hV4, hV5, hV6, hV7⟩ := hV; go_simp <;> first | done | rfl | (intro hh; exfalso; omega) | (try simp_all; done) | omega)
  simp only [Act.put, List.getElem_toArray, List.getElem_cons_succ, List.getElem_cons_zero, List.setIfInBounds_toArray, List.set_cons_succ, List.set_cons_zero]
  refine wpAnyH_take (i := 16) (v := (Value.bool true)) rfl (by kernel_rfl) (by kernel_rfl) (by kernel_rfl) (fun _ _ _ h => h) (Or.inl ⟨by rfl, ?hy⟩) hHeld ?_
  case hy => (intro V hV; obtain ⟨hV1, hV2, hV3, hV4, hV5, hV6, hV7⟩ := hV; go_simp <;> first | done | rfl | (intro hh; exfalso; omega) | (try simp_all; done) | omega)
  simp only [Act.put, List.getElem_toArray, List.getElem_cons_succ, List.getElem_cons_zero, List.setIfInBounds_toArray, List.set_cons_succ, List.set_cons_zero]
  refine wpAnyH_take (i := 17) (v := (Value.pointer (some ⟨w.heap.size, 3, none⟩))) rfl (by kernel_rfl) (by kernel_rfl) (by kernel_rfl) (fun _ _ _ h => h) (Or.inl ⟨by rfl, ?hy⟩) hHeld ?_
  case hy => (intro V hV; obtain ⟨hV1, hV2, hV3, hV4, hV5, hV6, hV7⟩ := hV; go_simp <;> first | done | rfl | (intro hh; exfalso; omega) | (try simp_all; done) | omega)
  simp only [Act.put, List.getElem_toArray, List.getElem_cons_succ, List.getElem_cons_zero, List.setIfInBounds_toArray, List.set_cons_succ, List.set_cons_zero]
  refine wpAnyH_take (i := 18) (v := (Value.slice (some ⟨g, off, none⟩) ln cap)) rfl (by kernel_rfl) (by kernel_rfl) (by kernel_rfl) (fun _ _ _ h => h) (Or.inl ⟨by rfl, ?hy⟩) hHeld ?_
  case hy => (intro V hV; obtain ⟨hV1, hV2, hV3, hV4, hV5, hV6, hV7⟩ := hV; go_simp <;> first | done | rfl | (intro hh; exfalso; omega) | (try simp_all; done) | omega)
  simp only [Act.put, List.getElem_toArray, List.getElem_cons_succ, List.getElem_cons_zero, List.setIfInBounds_toArray, List.set_cons_succ, List.set_cons_zero]
  refine wpAnyH_take (i := 19) (v := (Value.int .i64 (κ : Int))) rfl (by kernel_rfl) (by kernel_rfl) (by kernel_rfl) (fun _ _ _ h => h) (Or.inl ⟨by rfl, ?hy⟩) hHeld ?_
  case hy => (intro V hV; obtain ⟨hV1, hV2, hV3, hV4, hV5, hV6, hV7⟩ := hV; go_simp <;> first | done | rfl | (intro hh; exfalso; omega) | (try simp_all; done) | omega)
  simp only [Act.put, List.getElem_toArray, List.getElem_cons_succ, List.getElem_cons_zero, List.setIfInBounds_toArray, List.set_cons_succ, List.set_cons_zero]
  refine wpAnyH_ready (rs := [20]) (by kernel_rfl) (by simp) ?_
  refine AllReadyH.cons (by rfl) ?_ AllReadyH.nil
  intro K hK
  refine step_callw (by rfl) 26 #[.int .i64 (κ : Int)] (by go_simp) ?_
  refine (CB _).mono ?_
  rintro e Y ⟨ya, yc, rfl, hy1, hy2⟩
  have hy3 : Hid (Below W.heap.size W Y) := hide (bX.out.drew.trans (hy2.mono bX.out.drew.size))
  clear hy2
  refine ⟨_, rfl, ?_⟩
  refine hK.out _ _ (HS.out _ hy3.out) (fun hHeld => ?_)
  clear hK K
  simp only [Act.put, List.getElem_toArray, List.getElem_cons_succ, List.getElem_cons_zero, List.setIfInBounds_toArray, List.set_cons_succ, List.set_cons_zero]
  refine wpAnyH_ready (rs := [21]) (by kernel_rfl) (by simp) ?_
  refine AllReadyH.cons (by rfl) ?_ AllReadyH.nil
  intro K hK
  refine step_callw (by rfl) 25 #[.slice (some ⟨g, off, none⟩) ln cap, .slice ya (2 + κ % 20) yc] (by go_simp) ?_
  refine (same_true rfl (BK.out _ hy3.out).1 (own_bs hy1 (bod_byte κ))).mono ?_
  rintro e Z ⟨rfl, hZ⟩
  subst hZ
  refine ⟨_, rfl, ?_⟩
  refine hK.out _ _ (HS.out _ hy3.out) (fun hHeld => ?_)
  clear hK K
  simp only [Act.put, List.getElem_toArray, List.getElem_cons_succ, List.getElem_cons_zero, List.setIfInBounds_toArray, List.set_cons_succ, List.set_cons_zero]
  refine wpAnyH_take (i := 22) (v := (Value.bool true)) rfl (by kernel_rfl) (by kernel_rfl) (by kernel_rfl) (fun _ _ _ h => h) (Or.inl ⟨by rfl, ?hy⟩) hHeld ?_
  case hy => (intro V hV; obtain ⟨hV1, hV2, hV3, hV4, hV5, hV6, hV7⟩ := hV; go_simp <;> first | done | rfl | (intro hh; exfalso; omega) | (try simp_all; done) | omega)
  simp only [Act.put, List.getElem_toArray, List.getElem_cons_succ, List.getElem_cons_zero, List.setIfInBounds_toArray, List.set_cons_succ, List.set_cons_zero]
  refine wpAnyH_take (i := 23) (v := (Value.bool true)) rfl (by kernel_rfl) (by kernel_rfl) (by kernel_rfl) (fun _ _ _ h => h) (Or.inl ⟨by rfl, ?hy⟩) hHeld ?_
  case hy => (intro V hV; obtain ⟨hV1, hV2, hV3, hV4, hV5, hV6, hV7⟩ := hV; go_simp <;> first | done | rfl | (intro hh; exfalso; omega) | (try simp_all; done) | omega)
  simp only [Act.put, List.getElem_toArray, List.getElem_cons_succ, List.getElem_cons_zero, List.setIfInBounds_toArray, List.set_cons_succ, List.set_cons_zero]
  refine wpAnyH_take (i := 24) (v := (Value.slice (some ⟨og, 0, none⟩) 400 400)) rfl (by kernel_rfl) (by kernel_rfl) (by kernel_rfl) (fun _ _ _ h => h) (Or.inl ⟨by rfl, ?hy⟩) hHeld ?_
  case hy => (intro V hV; obtain ⟨hV1, hV2, hV3, hV4, hV5, hV6, hV7⟩ := hV; go_simp <;> first | done | rfl | (intro hh; exfalso; omega) | (try simp_all; done) | omega)
  simp only [Act.put, List.getElem_toArray, List.getElem_cons_succ, List.getElem_cons_zero, List.setIfInBounds_toArray, List.set_cons_succ, List.set_cons_zero]
  refine wpAnyH_take (i := 25) (v := (Value.pointer (some ⟨w.heap.size, 0, none⟩))) rfl (by kernel_rfl) (by kernel_rfl) (by kernel_rfl) (fun _ _ _ h => h) (Or.inl ⟨by rfl, ?hy⟩) hHeld ?_
  case hy => (intro V hV; obtain ⟨hV1, hV2, hV3, hV4, hV5, hV6, hV7⟩ := hV; go_simp <;> first | done | rfl | (intro hh; exfalso; omega) | (try simp_all; done) | omega)
  simp only [Act.put, List.getElem_toArray, List.getElem_cons_succ, List.getElem_cons_zero, List.setIfInBounds_toArray, List.set_cons_succ, List.set_cons_zero]
  refine wpAnyH_take (i := 26) (v := (Value.int .i64 (ν : Int))) rfl (by kernel_rfl) (by kernel_rfl) (by kernel_rfl) (fun _ _ _ h => h) (Or.inl ⟨by rfl, ?hy⟩) hHeld ?_
  case hy => (intro V hV; obtain ⟨hV1, hV2, hV3, hV4, hV5, hV6, hV7⟩ := hV; go_simp <;> first | done | rfl | (intro hh; exfalso; omega) | (try simp_all; done) | omega)
  simp only [Act.put, List.getElem_toArray, List.getElem_cons_succ, List.getElem_cons_zero, List.setIfInBounds_toArray, List.set_cons_succ, List.set_cons_zero]
  refine wpAnyH_take (i := 27) (v := (Value.pointer (some ⟨og, ν, none⟩))) rfl (by kernel_rfl) (by kernel_rfl) (by kernel_rfl) (fun _ _ _ h => h) (Or.inl ⟨by rfl, ?hy⟩) hHeld ?_
  case hy => (intro V hV; obtain ⟨hV1, hV2, hV3, hV4, hV5, hV6, hV7⟩ := hV; go_simp <;> first | done | rfl | (intro hh; exfalso; omega) | (try simp_all; done) | omega)
  simp only [Act.put, List.getElem_toArray, List.getElem_cons_succ, List.getElem_cons_zero, List.setIfInBounds_toArray, List.set_cons_succ, List.set_cons_zero]
  refine wpAnyH_take (i := 28) (v := (Value.int .i64 ((κ : Int) + 1))) rfl (by kernel_rfl) (by kernel_rfl) (by kernel_rfl) (fun _ _ _ h => h) (Or.inl ⟨by rfl, ?hy⟩) hHeld ?_
  case hy => (intro V hV; obtain ⟨hV1, hV2, hV3, hV4, hV5, hV6, hV7⟩ := hV; go_simp <;> first | done | rfl | (intro hh; exfalso; omega) | (try simp_all; done) | omega)
  simp only [Act.put, List.getElem_toArray, List.getElem_cons_succ, List.getElem_cons_zero, List.setIfInBounds_toArray, List.set_cons_succ, List.set_cons_zero]
  refine wpAnyH_take (i := 29) (v := (Value.int .i64 (κ : Int))) rfl (by kernel_rfl) (by kernel_rfl) (by kernel_rfl) (fun _ _ _ h => h) (Or.inl ⟨by rfl, ?hy⟩) hHeld ?_
  case hy => (intro V hV; obtain ⟨hV1, hV2, hV3, hV4, hV5, hV6, hV7⟩ := hV; go_simp <;> first | done | rfl | (intro hh; exfalso; omega) | (try simp_all; done) | omega)
  simp only [Act.put, List.getElem_toArray, List.getElem_cons_succ, List.getElem_cons_zero, List.setIfInBounds_toArray, List.set_cons_succ, List.set_cons_zero]
  refine wpAnyH_take (i := 30) (v := (Value.int .i64 ((κ : Int) + 1))) rfl (by kernel_rfl) (by kernel_rfl) (by kernel_rfl) (fun _ _ _ h => h) (Or.inl ⟨by rfl, ?hy⟩) hHeld ?_
  case hy => (intro V hV; obtain ⟨hV1, hV2, hV3, hV4, hV5, hV6, hV7⟩ := hV; go_simp <;> first | done | rfl | (intro hh; exfalso; omega) | (try simp_all; done) | omega)
  simp only [Act.put, List.getElem_toArray, List.getElem_cons_succ, List.getElem_cons_zero, List.setIfInBounds_toArray, List.set_cons_succ, List.set_cons_zero]
  refine wpAnyH_take (i := 31) (v := (Value.bool true)) rfl (by kernel_rfl) (by kernel_rfl) (by kernel_rfl) (fun _ _ _ h => h) (Or.inl ⟨by rfl, ?hy⟩) hHeld ?_
  case hy => (intro V hV; obtain ⟨hV1, hV2, hV3, hV4, hV5, hV6, hV7⟩ := hV; go_simp <;> first | done | rfl | (intro hh; exfalso; omega) | (try simp_all; done) | omega)
  simp only [Act.put, List.getElem_toArray, List.getElem_cons_succ, List.getElem_cons_zero, List.setIfInBounds_toArray, List.set_cons_succ, List.set_cons_zero]
  refine wpAnyH_take (i := 32) (v := (Value.bool true)) rfl (by kernel_rfl) (by kernel_rfl) (by kernel_rfl) (fun _ _ _ h => h) (Or.inl ⟨by rfl, ?hy⟩) hHeld ?_
  case hy => (intro V hV; obtain ⟨hV1, hV2, hV3, hV4, hV5, hV6, hV7⟩ := hV; go_simp <;> first | done | rfl | (intro hh; exfalso; omega) | (try simp_all; done) | omega)
  simp only [Act.put, List.getElem_toArray, List.getElem_cons_succ, List.getElem_cons_zero, List.setIfInBounds_toArray, List.set_cons_succ, List.set_cons_zero]
  refine wpAnyH_take (i := 33) (v := (Value.bool true)) rfl (by kernel_rfl) (by kernel_rfl) (by kernel_rfl) (fun _ _ _ h => h) (Or.inl ⟨by rfl, ?hy⟩) hHeld ?_
  case hy => (intro V hV; obtain ⟨hV1, hV2, hV3, hV4, hV5, hV6, hV7⟩ := hV; go_simp <;> first | done | rfl | (intro hh; exfalso; omega) | (try simp_all; done) | omega)
  simp only [Act.put, List.getElem_toArray, List.getElem_cons_succ, List.getElem_cons_zero, List.setIfInBounds_toArray, List.set_cons_succ, List.set_cons_zero]
  refine wpAnyH_done (by kernel_rfl) ?_ _
  try simp only [Act.put, List.getElem_toArray, List.getElem_cons_succ, List.getElem_cons_zero, List.setIfInBounds_toArray, List.set_cons_succ, List.set_cons_zero]
  go_wp2_with fail
  go_ret
  exact ⟨rfl, (BK.out _ hy3.out).2⟩

end Go.Proofs.Ytgkbjnfkimkmaaa.netSent

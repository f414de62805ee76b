/-
  The document's net: Double and Deliver of a number that is not on its way.
-/
import Derived.Test.YthakbelcefogaaaNtu
namespace Go.Proofs.Ythakbelcefogaaa
open Go.RowKit
set_option maxRecDepth 100000

theorem results_cells_tmp {P : Program} {fn : Func} {p q r : Tmp} {ty ty' : TypeId} (h : fn.results = #[.cell p ty, .cell q ty', .tmp r]) (tmps : Array Value) (w : World) (g g' : Nat) (t t' : TypeId) (cs cs' : Array Value) (fr fr' : Nat × Nat) (d d' : TypeDesc) (y : Value)
    (hp : tmps.getD p undef = .pointer (some ⟨g, 0, none⟩)) (hq : tmps.getD q undef = .pointer (some ⟨g', 0, none⟩)) (hr : tmps.getD r undef = y) (hg : w.heap[g]? = some (.cells cs t fr)) (hg' : w.heap[g']? = some (.cells cs' t' fr'))
    (hu : P.underlying ty = some d) (hd : (match d with | .struct _ | .array _ _ => true | _ => false) = true) (hi : (P.info? ty).map (·.size) = some cs.size)
    (hu' : P.underlying ty' = some d') (hd' : (match d' with | .struct _ | .array _ _ => true | _ => false) = true) (hi' : (P.info? ty').map (·.size) = some cs'.size) :
    (results fn tmps).run P w = .ok (.tuple #[.agg cs, .agg cs', y]) w := by
  have hp' : tmps[p]?.getD undef = .pointer (some ⟨g, 0, none⟩) := by simpa using hp
  have hq' : tmps[q]?.getD undef = .pointer (some ⟨g', 0, none⟩) := by simpa using hq
  have hr' : tmps[r]?.getD undef = y := by simpa using hr
  simp [results, h, hp', hq', hr', asAddr, run_loadVar_row w g t ty cs fr d hg hu hd hi, run_loadVar_row w g' t' ty' cs' fr' d' hg' hu' hd' hi']

set_option maxHeartbeats 2000000 in
theorem rdouble_no {w : World} {F : Nat → Prop} {v : Value} {n : Nt} {k : Int} (h : Rn w F v n) (hf : n.m.length ≤ 256) (hk : lk n.m k = none) :
    Calls Try.prog 22 #[v, .int .i64 k] w fun e w' => e = .returned (.tuple #[v, .int .i64 0, .int .i64 100]) ∧ Below w.heap.size w w' := by
  obtain ⟨a, cap, ts, rfl, hP⟩ := h
  obtain ⟨N, hN⟩ : ∃ N, Hid (N = n.m.length) := ⟨_, hide rfl⟩
  rw [← hN.out] at hP ⊢
  obtain ⟨la, hla⟩ : ∃ la, Hid (la = n.last) := ⟨_, hide rfl⟩
  rw [← hla.out]
  obtain ⟨A, HA⟩ : ∃ A, Hid (A = ((w.alloc (.cells #[.slice a N cap, .int .i64 la] (40 : TypeId))).alloc (.cells #[.slice none 0 0, .int .i64 0] (40 : TypeId)))) := ⟨_, hide rfl⟩
  have bA : Below w.heap.size w A := by rw [HA.out]; exact ((Below.refl _ w).alloc (Nat.le_refl _) _).alloc (by simp) _
  have sA : A.heap.size = w.heap.size + 2 := by rw [HA.out]; simp
  have a0 : A.heap[w.heap.size]? = some (.cells #[.slice a N cap, .int .i64 la] (40 : TypeId) (0, 0)) := by rw [HA.out, Below.heap_alloc _ _ _ (by simp)]; exact heap_alloc_new w _
  have a1 : A.heap[w.heap.size + 1]? = some (.cells #[.slice none 0 0, .int .i64 0] (40 : TypeId) (0, 0)) := by rw [HA.out]; simpa using heap_alloc_new (w.alloc (.cells #[.slice a N cap, .int .i64 la] (40 : TypeId))) (.cells #[.slice none 0 0, .int .i64 0] (40 : TypeId))
  have C := rfind_any (la := la) (k := k) (hP.keep bA) (by rw [hN.out]; omega)
  rw [fnd_none hk 0] at C
  have FIN : Hid (∀ B, Below A.heap.size A B → B.heap[w.heap.size]? = some (.cells #[.slice a N cap, .int .i64 la] (40 : TypeId) (0, 0)) ∧ B.heap[w.heap.size + 1]? = some (.cells #[.slice none 0 0, .int .i64 0] (40 : TypeId) (0, 0)) ∧ ∀ cs, Below w.heap.size w (B.setRow (w.heap.size + 1) cs)) := hide (fun B hB => ⟨(hB.block _ (by omega)).trans a0, (hB.block _ (by omega)).trans a1, fun cs => below_setRow (bA.trans (hB.mono bA.size)) (by omega) _⟩)
  clear hP bA sA a0 a1
  go_enter Try.func22, Try.ntmps22
  go_wp2_with fail
  rw [← HA.out]
  refine C.mono ?_
  rintro e B ⟨rfl, hB⟩
  obtain ⟨f0, f1, f2⟩ := FIN.out B hB
  have F2 := hide f2
  clear hB C f2
  go_wp2_with (first
    | (refine wpList_load_row rfl (40 : TypeId) (.tmp 2) rfl w.heap.size (by simp [Act.eval]) (40 : TypeId) #[.slice a N cap, .int .i64 la] (0, 0) _ f0 Try.underlying40 rfl size40 ?_)
    | (refine wpList_store_rowTo rfl (40 : TypeId) (.tmp 4) (.tmp 13) rfl rfl (w.heap.size + 1) #[.slice a N cap, .int .i64 la] (by simp [Act.eval, Act.put]) (by simp [Act.eval, Act.put]) (40 : TypeId) _ f1 size40 rfl (by simp [Value.oneCell']) ?_))
  refine bodyPost_ret (v := .tuple #[.agg #[.slice a N cap, .int .i64 la], .int .i64 0, .int .i64 100]) (results_cell_tmp2 Try.results22 _ _ (w.heap.size + 1) (40 : TypeId) _ (0, 0) _ _ _ rfl rfl rfl (setRow_heap _ _ _ _ (40 : TypeId) (0, 0) f1) Try.underlying40 rfl size40) rfl ?_
  exact ⟨rfl, F2.out _⟩

set_option maxHeartbeats 2000000 in
theorem rdeliver_no {w : World} {F : Nat → Prop} {v : Value} {n : Nt} {k : Int} (h : Rn w F v n) (hf : n.m.length ≤ 256) (hk : lk n.m k = none) :
    Calls Try.prog 20 #[v, .int .i64 k] w fun e w' => e = .returned (.tuple #[v, .agg #[.int .i64 0, .int .i64 0, .int .i64 0, .slice none 0 0], .int .i64 100]) ∧ Below w.heap.size w w' := by
  obtain ⟨a, cap, ts, rfl, hP⟩ := h
  obtain ⟨N, hN⟩ : ∃ N, Hid (N = n.m.length) := ⟨_, hide rfl⟩
  rw [← hN.out] at hP ⊢
  obtain ⟨la, hla⟩ : ∃ la, Hid (la = n.last) := ⟨_, hide rfl⟩
  rw [← hla.out]
  obtain ⟨A, HA⟩ : ∃ A, Hid (A = (((w.alloc (.cells #[.slice a N cap, .int .i64 la] (40 : TypeId))).alloc (.cells #[.slice none 0 0, .int .i64 0] (40 : TypeId))).alloc (.cells #[.int .i64 0, .int .i64 0, .int .i64 0, .slice none 0 0] (31 : TypeId)))) := ⟨_, hide rfl⟩
  have bA : Below w.heap.size w A := by rw [HA.out]; exact (((Below.refl _ w).alloc (Nat.le_refl _) _).alloc (by simp) _).alloc (by simp; omega) _
  have sA : A.heap.size = w.heap.size + 3 := by rw [HA.out]; simp
  have a0 : A.heap[w.heap.size]? = some (.cells #[.slice a N cap, .int .i64 la] (40 : TypeId) (0, 0)) := by rw [HA.out, Below.heap_alloc _ _ _ (by simp; omega), Below.heap_alloc _ _ _ (by simp)]; exact heap_alloc_new w _
  have a1 : A.heap[w.heap.size + 1]? = some (.cells #[.slice none 0 0, .int .i64 0] (40 : TypeId) (0, 0)) := by rw [HA.out, Below.heap_alloc _ _ _ (by simp)]; simpa using heap_alloc_new (w.alloc (.cells #[.slice a N cap, .int .i64 la] (40 : TypeId))) (.cells #[.slice none 0 0, .int .i64 0] (40 : TypeId))
  have a2 : A.heap[w.heap.size + 1 + 1]? = some (.cells #[.int .i64 0, .int .i64 0, .int .i64 0, .slice none 0 0] (31 : TypeId) (0, 0)) := by rw [HA.out]; simpa using heap_alloc_new ((w.alloc (.cells #[.slice a N cap, .int .i64 la] (40 : TypeId))).alloc (.cells #[.slice none 0 0, .int .i64 0] (40 : TypeId))) (.cells #[.int .i64 0, .int .i64 0, .int .i64 0, .slice none 0 0] (31 : TypeId))
  have C := rfind_any (la := la) (k := k) (hP.keep bA) (by rw [hN.out]; omega)
  rw [fnd_none hk 0] at C
  have FIN : Hid (∀ B, Below A.heap.size A B → B.heap[w.heap.size]? = some (.cells #[.slice a N cap, .int .i64 la] (40 : TypeId) (0, 0)) ∧ B.heap[w.heap.size + 1]? = some (.cells #[.slice none 0 0, .int .i64 0] (40 : TypeId) (0, 0)) ∧ (∀ cs, (B.setRow (w.heap.size + 1) cs).heap[w.heap.size + 1 + 1]? = some (.cells #[.int .i64 0, .int .i64 0, .int .i64 0, .slice none 0 0] (31 : TypeId) (0, 0))) ∧ (∀ cs ds, ((B.setRow (w.heap.size + 1) cs).setRow (w.heap.size + 1 + 1) ds).heap[w.heap.size + 1]? = some (.cells cs (40 : TypeId) (0, 0))) ∧ ∀ cs ds, Below w.heap.size w ((B.setRow (w.heap.size + 1) cs).setRow (w.heap.size + 1 + 1) ds)) := hide (fun B hB => by
    have f1 := (hB.block _ (by omega)).trans a1
    refine ⟨(hB.block _ (by omega)).trans a0, f1, fun cs => (setRow_other _ _ _ _ (by omega)).trans ((hB.block _ (by omega)).trans a2), fun cs ds => (setRow_other _ _ _ _ (by omega)).trans (setRow_heap _ _ _ _ (40 : TypeId) (0, 0) f1), fun cs ds => below_setRow (below_setRow (bA.trans (hB.mono bA.size)) (by omega) _) (by omega) _⟩)
  clear hP bA sA a0 a1 a2
  go_enter Try.func20, Try.ntmps20
  go_wp2_with fail
  rw [← HA.out]
  refine C.mono ?_
  rintro e B ⟨rfl, hB⟩
  obtain ⟨f0, f1, f3, f4, f2⟩ := FIN.out B hB
  have F2 := hide f2
  have F4 := hide f4
  clear hB C f2 f4
  go_wp2_with (first
    | (refine wpList_load_row rfl (40 : TypeId) (.tmp 2) rfl w.heap.size (by simp [Act.eval]) (40 : TypeId) #[.slice a N cap, .int .i64 la] (0, 0) _ f0 Try.underlying40 rfl size40 ?_)
    | (refine wpList_store_rowTo rfl (40 : TypeId) (.tmp 4) (.tmp 15) rfl rfl (w.heap.size + 1) #[.slice a N cap, .int .i64 la] (by simp [Act.eval, Act.put]) (by simp [Act.eval, Act.put]) (40 : TypeId) _ f1 size40 rfl (by simp [Value.oneCell']) ?_)
    | (refine wpList_store_rowTo rfl (31 : TypeId) (.tmp 5) (.tmp 16) rfl rfl (w.heap.size + 1 + 1) #[.int .i64 0, .int .i64 0, .int .i64 0, .slice none 0 0] (by simp [Act.eval]) (by simp [Act.eval]) (31 : TypeId) _ (f3 _) size31 rfl (by simp [Value.oneCell']) ?_))
  refine bodyPost_ret (v := .tuple #[.agg #[.slice a N cap, .int .i64 la], .agg #[.int .i64 0, .int .i64 0, .int .i64 0, .slice none 0 0], .int .i64 100]) (results_cells_tmp Try.results20 _ _ (w.heap.size + 1) (w.heap.size + 1 + 1) (40 : TypeId) (31 : TypeId) _ _ (0, 0) (0, 0) _ _ _ rfl rfl rfl (F4.out _ _) (setRow_heap _ _ _ _ (31 : TypeId) (0, 0) (f3 _)) Try.underlying40 rfl size40 Try.underlying31 rfl size31) rfl ?_
  exact ⟨rfl, F2.out _ _⟩

end Go.Proofs.Ythakbelcefogaaa

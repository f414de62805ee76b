/-
  The calls on a net that none made.
-/
import Derived.Test.YtgkbjnfkimkmaaaNtd
namespace Go.Proofs.Ytgkbjnfkimkmaaa
open Go.RowKit
set_option maxRecDepth 100000

/-- No net, or one that New did not make. -/
def Non (W : World) (pv : Option Addr) : Prop := pv = none ∨ ∃ R, pv = some ⟨R, 0, none⟩ ∧ W.cell? ⟨R, 0, none⟩ = some (.pointer none)

theorem Non.keep {W X : World} {pv : Option Addr} (h : Non W pv) (hb : Below W.heap.size W X) : Non X pv := by
  rcases h with h | ⟨R, h1, h2⟩
  · exact .inl h
  · exact .inr ⟨R, h1, by rw [hb.cell (cell_lt h2)]; exact h2⟩

theorem made_none {W : World} {pv : Option Addr} (h : Non W pv) : Calls Try.prog 32 #[.pointer pv] W fun e w' => e = .returned (.bool false) ∧ w' = W := by
  rcases h with rfl | ⟨R, rfl, h2⟩
  · exact made_nil W
  · exact made_zero h2

set_option maxHeartbeats 1000000 in
theorem send_none {W : World} {pv : Option Addr} {f t : Int} {x : Value} (h : Non W pv) :
    Calls Try.prog 10 #[.pointer pv, .int .i64 f, .int .i64 t, x] W fun e w' => e = .returned (.tuple #[.int .i64 0, .int .i64 1]) ∧ w' = W := by
  go_enter Try.func10, Try.ntmps10
  go_wp2_with fail
  refine (made_none h).mono ?_
  rintro e w1 ⟨rfl, rfl⟩
  go_wp2_with fail
  go_ret2
  exact ⟨rfl, rfl⟩

set_option maxHeartbeats 1000000 in
theorem find_none {w : World} {pv : Option Addr} {k : Int} (h : Non w pv) :
    Calls Try.prog 34 #[.pointer pv, .int .i64 k] w fun e w' => e = .returned (.tuple #[.agg #[.int .i64 0, .int .i64 0, .string ⟨#[]⟩], .int .i64 1]) ∧ Below w.heap.size w w' := by
  have hr := made_none (h.keep ((Below.refl _ w).alloc (Nat.le_refl _) (.cells #[.int .i64 0, .int .i64 0, .string ⟨#[]⟩] (73 : TypeId))))
  have H1 : Hid (∀ o : Obj, (w.alloc o).heap[w.heap.size]? = some o) := hide (fun o => heap_alloc_new w o)
  have FB : Hid (∀ o, Below w.heap.size w (w.alloc o)) := hide (fun o => (Below.refl _ w).alloc (Nat.le_refl _) o)
  clear h
  go_enter Try.func34, Try.ntmps34
  go_wp2_with fail
  refine hr.mono ?_
  rintro e w1 ⟨rfl, hw1⟩
  subst w1
  go_wp2_with fail
  refine bodyPost_ret (v := .tuple #[.agg #[.int .i64 0, .int .i64 0, .string ⟨#[]⟩], .int .i64 1]) (results_cell_tmp Try.results34 _ _ w.heap.size (73 : TypeId) _ (0, 0) _ _ rfl rfl (H1.out _) Try.underlying73 rfl size73) rfl ?_
  exact ⟨rfl, FB.out _⟩

set_option maxHeartbeats 1000000 in
theorem double_none {w : World} {pv : Option Addr} {k : Int} (h : Non w pv) :
    Calls Try.prog 11 #[.pointer pv, .int .i64 k] w fun e w' => e = .returned (.tuple #[.int .i64 0, .int .i64 1]) ∧ Below w.heap.size w w' := by
  go_enter Try.func11, Try.ntmps11
  go_wp2_with fail
  refine (find_none h).mono ?_
  rintro e w1 ⟨rfl, hb⟩
  have FB : Hid (∀ o, Below w.heap.size w (w1.alloc o)) := hide (fun o => hb.alloc hb.size o)
  clear hb
  go_wp2_with fail
  go_ret2
  exact ⟨rfl, FB.out _⟩

set_option maxHeartbeats 1000000 in
theorem drop_none {w : World} {pv : Option Addr} {k : Int} (h : Non w pv) :
    Calls Try.prog 12 #[.pointer pv, .int .i64 k] w fun e w' => e = .returned (.int .i64 1) ∧ Below w.heap.size w w' := by
  go_enter Try.func12, Try.ntmps12
  go_wp2_with fail
  refine (find_none h).mono ?_
  rintro e w1 ⟨rfl, hb⟩
  have FB : Hid (∀ o, Below w.heap.size w (w1.alloc o)) := hide (fun o => hb.alloc hb.size o)
  clear hb
  go_wp2_with fail
  go_ret
  exact ⟨rfl, FB.out _⟩

set_option maxHeartbeats 1000000 in
theorem deliver_none {w : World} {pv : Option Addr} {k : Int} (h : Non w pv) :
    Calls Try.prog 13 #[.pointer pv, .int .i64 k] w fun e w' => e = .returned (.tuple #[.agg #[.int .i64 0, .int .i64 0, .int .i64 0, .slice none 0 0], .int .i64 1]) ∧ Below w.heap.size w w' := by
  obtain ⟨W, HW⟩ : ∃ W, Hid (W = w.alloc (.cells #[.int .i64 0, .int .i64 0, .int .i64 0, .slice none 0 0] (31 : TypeId))) := ⟨_, hide rfl⟩
  have bA : Below w.heap.size w W := by rw [HW.out]; exact (Below.refl _ w).alloc (Nat.le_refl _) _
  have hsW : W.heap.size = w.heap.size + 1 := by rw [HW.out]; simp
  have hWh : W.heap[w.heap.size]? = some (.cells #[.int .i64 0, .int .i64 0, .int .i64 0, .slice none 0 0] (31 : TypeId) (0, 0)) := by rw [HW.out]; exact heap_alloc_new w _
  have C := find_none (k := k) (h.keep bA)
  have FB : Hid (∀ w1 o cs, Below W.heap.size W w1 → (w1.alloc o).heap[w.heap.size]? = some (.cells #[.int .i64 0, .int .i64 0, .int .i64 0, .slice none 0 0] (31 : TypeId) (0, 0)) ∧ Below w.heap.size w ((w1.alloc o).setRow w.heap.size cs)) := hide (fun w1 o cs hb => by
    have hb2 : Below W.heap.size W (w1.alloc o) := hb.alloc hb.size o
    exact ⟨(hb2.block _ (by omega)).trans hWh, below_setRow (bA.trans (hb2.mono (by omega))) (Nat.le_refl _) _⟩)
  clear h bA hsW hWh
  go_enter Try.func13, Try.ntmps13
  go_wp2_with fail
  rw [← HW.out]
  refine C.mono ?_
  rintro e w1 ⟨rfl, hb⟩
  obtain ⟨g1, g2⟩ := FB.out w1 (Obj.cells #[.int .i64 0, .int .i64 0, .string ⟨#[]⟩] (73 : TypeId)) #[.int .i64 0, .int .i64 0, .int .i64 0, .slice none 0 0] hb
  go_wp2_with (refine wpList_store_rowTo rfl (31 : TypeId) (.tmp 4) (.tmp 16) rfl rfl w.heap.size #[.int .i64 0, .int .i64 0, .int .i64 0, .slice none 0 0] (by simp [Act.eval]) (by simp [Act.eval]) (31 : TypeId) _ g1 size31 rfl (by simp [Value.oneCell']) ?_)
  refine bodyPost_ret (v := .tuple #[.agg #[.int .i64 0, .int .i64 0, .int .i64 0, .slice none 0 0], .int .i64 1]) (results_cell_tmp Try.results13 _ _ w.heap.size (31 : TypeId) _ (0, 0) _ _ rfl rfl (setRow_heap _ _ _ _ (31 : TypeId) (0, 0) g1) Try.underlying31 rfl size31) rfl ?_
  exact ⟨rfl, g2⟩

set_option maxHeartbeats 1000000 in
theorem list_none {w : World} {pv : Option Addr} (h : Non w pv) :
    Calls Try.prog 14 #[.pointer pv] w fun e w' => e = .returned (.slice none 0 0) ∧ w' = w := by
  go_enter Try.func14, Try.ntmps14
  go_wp2_with fail
  refine (made_none h).mono ?_
  rintro e w1 ⟨rfl, rfl⟩
  go_wp2_with fail
  go_ret
  exact ⟨rfl, rfl⟩

set_option maxHeartbeats 1000000 in
theorem copy_none {w : World} {pv : Option Addr} (h : Non w pv) :
    Calls Try.prog 23 #[.pointer pv] w fun e w' => e = .returned (.pointer none) ∧ w' = w := by
  go_enter Try.func23, Try.ntmps23
  go_wp2_with fail
  refine (made_none h).mono ?_
  rintro e w1 ⟨rfl, rfl⟩
  go_wp2_with fail
  go_ret
  exact ⟨rfl, rfl⟩

end Go.Proofs.Ytgkbjnfkimkmaaa

/-
  FileNone's walk.
-/
import Derived.Test.YtenmkncncmnpeaaDno
namespace Go.Proofs.Ytenmkncncmnpeaa.fileNone
open Go.RowKit
set_option maxRecDepth 100000

/-- A Disk of noughts. -/
def zero57 : Array Value := #[.pointer none, .map none, .map none, .map none, .map none, .int .i64 0, .slice none 0 0, .map none, .int .i64 0, .bool false, .int .i64 0, .int .i64 0, .int .i64 0]

set_option maxHeartbeats 4000000 in
theorem walk0 (s : ByteArray) (n : Int) (v k : Value) (w : World) : Calls Try.prog 4 #[.string s, .int .i64 n, v, k] w fun e w' => e = .returned (.bool true) ∧ Tb (fun _ => False) w w' := by
  go_enter Try.func4, Try.ntmps4
  go_wp2_with fail
  generalize hW : World.alloc (World.alloc w _) _ = W
  have HW := hide hW
  have tW : Hid (Tb (fun _ => False) w W) := hide (by rw [← hW]; exact ((Tb.refl _ _).alloc _).alloc _)
  have c0 : W.cell? ⟨w.heap.size + 1, 0, none⟩ = some (.pointer none) := by
    have hh := heap_alloc_new (w.alloc (.cells zero57 (57 : TypeId))) (.cells #[.pointer none, .pointer (some ⟨w.heap.size, 0, none⟩)] (24 : TypeId))
    rw [← hW]
    simp only [World.size_alloc] at hh
    exact cell_of_row _ _ 0 _ _ _ hh
  have c1 : W.cell? ⟨w.heap.size + 1, 1, none⟩ = some (.pointer (some ⟨w.heap.size, 0, none⟩)) := by
    have hh := heap_alloc_new (w.alloc (.cells zero57 (57 : TypeId))) (.cells #[.pointer none, .pointer (some ⟨w.heap.size, 0, none⟩)] (24 : TypeId))
    rw [← hW]
    simp only [World.size_alloc] at hh
    exact cell_of_row _ _ 1 _ _ _ hh
  have cz : Hid (W.cell? ⟨w.heap.size, 0, none⟩ = some (.pointer none)) := hide (by
    have hh := heap_alloc_new w (.cells zero57 (57 : TypeId))
    rw [← hW]
    exact ((Tb.refl (fun _ => False) _).alloc _).cell (cell_of_row _ _ 0 _ _ _ hh) (fun h => h))
  clear hW
  go_loopw [19] (fun iv wr => ∃ j : Nat, j ≤ 2 ∧ iv = .int .i64 j ∧ wr = W) (fun iv _ => 2 - (intOf iv).toNat)
  case atStart => exact ⟨0, by omega, rfl, rfl⟩
  case round =>
    obtain ⟨j, hj, rfl, rfl⟩ := hrel
    rcases (show j = 0 ∨ j = 1 ∨ j = 2 by omega) with rfl | rfl | rfl
    · have hN : NoR none wr := right_nil wr
      go_wp2_with (first | (go_at_call 13; refine (no_read hN s).mono ?_; rintro e w1 ⟨rfl, hw1⟩; subst w1) | (go_at_call 9; refine (no_put hN s n v).mono ?_; rintro e w1 ⟨rfl, hw1⟩; subst w1) | (go_at_call 18; refine (no_cut hN s n).mono ?_; rintro e w1 ⟨rfl, hw1⟩; subst w1) | (go_at_call 16; refine (no_rename hN s s).mono ?_; rintro e w1 ⟨rfl, hw1⟩; subst w1) | (go_at_call 19; refine (no_remove hN s).mono ?_; rintro e w1 ⟨rfl, hw1⟩; subst w1) | (go_at_call 15; refine (no_sync hN s).mono ?_; rintro e w1 ⟨rfl, hw1⟩; subst w1) | (go_at_call 21; refine (no_begin hN).mono ?_; rintro e w1 ⟨rfl, hw1⟩; subst w1) | (go_at_call 20; refine (no_arm hN n).mono ?_; rintro e w1 ⟨rfl, hw1⟩; subst w1) | (go_at_call 22; refine (no_fail hN n 4).mono ?_; rintro e w1 ⟨rfl, hw1⟩; subst w1) | (go_at_call 12; refine (no_crash hN k).mono ?_; rintro e w1 ⟨rfl, hw1⟩; subst w1) | (go_at_call 14; refine (no_names hN).mono ?_; rintro e w1 ⟨rfl, hw1⟩; subst w1) | (go_at_call 11; refine (no_pending hN).mono ?_; rintro e w1 ⟨rfl, hw1⟩; subst w1) | (go_at_call 17; refine (no_copy hN).mono ?_; rintro e w1 ⟨rfl, hw1⟩; subst w1))
      go_roundw
      case rel => exact ⟨1, by omega, by simp, trivial⟩
      case measure => simp [intOf]
    · have hN : NoR (some ⟨w.heap.size, 0, none⟩) wr := right_zero cz.out
      go_wp2_with (first | (go_at_call 13; refine (no_read hN s).mono ?_; rintro e w1 ⟨rfl, hw1⟩; subst w1) | (go_at_call 9; refine (no_put hN s n v).mono ?_; rintro e w1 ⟨rfl, hw1⟩; subst w1) | (go_at_call 18; refine (no_cut hN s n).mono ?_; rintro e w1 ⟨rfl, hw1⟩; subst w1) | (go_at_call 16; refine (no_rename hN s s).mono ?_; rintro e w1 ⟨rfl, hw1⟩; subst w1) | (go_at_call 19; refine (no_remove hN s).mono ?_; rintro e w1 ⟨rfl, hw1⟩; subst w1) | (go_at_call 15; refine (no_sync hN s).mono ?_; rintro e w1 ⟨rfl, hw1⟩; subst w1) | (go_at_call 21; refine (no_begin hN).mono ?_; rintro e w1 ⟨rfl, hw1⟩; subst w1) | (go_at_call 20; refine (no_arm hN n).mono ?_; rintro e w1 ⟨rfl, hw1⟩; subst w1) | (go_at_call 22; refine (no_fail hN n 4).mono ?_; rintro e w1 ⟨rfl, hw1⟩; subst w1) | (go_at_call 12; refine (no_crash hN k).mono ?_; rintro e w1 ⟨rfl, hw1⟩; subst w1) | (go_at_call 14; refine (no_names hN).mono ?_; rintro e w1 ⟨rfl, hw1⟩; subst w1) | (go_at_call 11; refine (no_pending hN).mono ?_; rintro e w1 ⟨rfl, hw1⟩; subst w1) | (go_at_call 17; refine (no_copy hN).mono ?_; rintro e w1 ⟨rfl, hw1⟩; subst w1))
      go_roundw
      case rel => exact ⟨2, by omega, by simp, trivial⟩
      case measure => simp [intOf]
    · go_wp2_with fail
      refine (awake_any wr).mono ?_
      rintro e w2 ⟨rfl, t2⟩
      have HT : Hid (Tb (fun _ => False) w w2) := hide (tW.out.trans t2 (fun _ _ h => h))
      clear t2
      go_wp2_with fail
      go_ret
      exact ⟨rfl, HT.out⟩

theorem walk (s : ByteArray) (n : Int) (v k : Value) (w : World) : Calls Try.prog 4 #[.string s, .int .i64 n, v, k] w fun e w' => e = .returned (.bool true) ∧ Below w.heap.size w w' :=
  (walk0 s n v k w).mono fun _ _ h => ⟨h.1, h.2.below (fun _ h => h.elim) (Nat.le_refl _)⟩

end Go.Proofs.Ytenmkncncmnpeaa.fileNone

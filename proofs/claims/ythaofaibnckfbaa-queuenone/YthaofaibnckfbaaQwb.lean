/-
  QueueNone, its walk.
-/
import Derived.Test.YthaofaibnckfbaaQwa
namespace Go.Proofs.Ythaofaibnckfbaa.queueNone
open Go.RowKit Go.Proofs.Ythaofaibnckfbaa Go.Proofs.Ythaofaibnckfbaa.QI

set_option maxHeartbeats 2000000 in
theorem walk (n : Int) (w : World) : Calls Try.prog 4 #[.int .i64 n] w fun e w' => e = .returned (.bool true) ∧ Below w.heap.size w w' := by
  obtain ⟨X, hX⟩ : ∃ X, Hid (X = w.alloc (.cells #[.pointer none, .slice none 0 0, .int .i64 0, .int .i64 0] (44 : TypeId))) := ⟨_, hide rfl⟩
  have bX : Below w.heap.size w X := by rw [hX.out]; exact (Below.refl _ w).alloc (Nat.le_refl _) _
  have c0 : X.cell? ⟨w.heap.size, 0, none⟩ = some (.pointer none) := by
    rw [hX.out, cell_of_row _ _ 0 _ _ _ (heap_alloc_new w _)]
    rfl
  have CN := made_nil X
  have CZ := made_zero c0
  have HB := hide bX
  clear bX c0
  go_enter Try.func4, Try.ntmps4
  go_wp2_with fail
  rw [← hX.out]
  refine (push_none CN n).mono ?_
  rintro e w1 ⟨rfl, hw1⟩
  subst w1
  go_wp2_with fail
  clear hX
  refine (push_none CZ n).mono ?_
  rintro e w1 ⟨rfl, hw1⟩
  subst w1
  go_wp2_with fail
  refine (pop_none CN).mono ?_
  rintro e w1 ⟨rfl, hw1⟩
  subst w1
  go_wp2_with fail
  refine (pop_none CZ).mono ?_
  rintro e w1 ⟨rfl, hw1⟩
  subst w1
  go_wp2_with fail
  refine (at_none CN 0).mono ?_
  rintro e w1 ⟨rfl, hw1⟩
  subst w1
  go_wp2_with fail
  refine (take_none CZ 0).mono ?_
  rintro e w1 ⟨rfl, hw1⟩
  subst w1
  go_wp2_with fail
  refine (len_none CN).mono ?_
  rintro e w1 ⟨rfl, hw1⟩
  subst w1
  go_wp2_with fail
  refine (len_none CZ).mono ?_
  rintro e w1 ⟨rfl, hw1⟩
  subst w1
  go_wp2_with fail
  refine (list_none CZ).mono ?_
  rintro e w1 ⟨rfl, hw1⟩
  subst w1
  go_wp2_with fail
  refine (drop_none CN _).mono ?_
  rintro e w1 ⟨rfl, hw1⟩
  subst w1
  go_wp2_with fail
  refine (drop_none CZ _).mono ?_
  rintro e w1 ⟨rfl, hw1⟩
  subst w1
  go_wp2_with fail
  refine (awake_any X).mono ?_
  rintro e w1 ⟨rfl, hb⟩
  go_wp2_with fail
  go_ret
  exact ⟨rfl, HB.out.trans (hb.mono HB.out.size)⟩

end Go.Proofs.Ythaofaibnckfbaa.queueNone

/-
  NetNone, its walk.
-/
import Derived.Test.YtgkbjnfkimkmaaaNte
import Derived.Test.YtgkbjnfkimkmaaaNtf
namespace Go.Proofs.Ytgkbjnfkimkmaaa.netNone
open Go.RowKit Go.Proofs.Ytgkbjnfkimkmaaa
set_option maxRecDepth 100000

set_option maxHeartbeats 4000000 in
theorem walk (k : Int) (a : Option Addr) (m cap : Nat) (zs : List Int) (w : World) (_hB : Bs w a m cap zs) :
    Calls Try.prog 5 #[.int .i64 k, .slice a m cap] w fun e w' => e = .returned (.bool true) ∧ Below w.heap.size w w' := by
  clear _hB
  go_enter Try.func5, Try.ntmps5
  go_wp2_with fail
  obtain ⟨W, HW⟩ : ∃ W, W = ((w.alloc (.cells #[.pointer none, .map none, .int .i64 0] (56 : TypeId))).alloc (.cells #[.pointer none, .pointer (some ⟨w.heap.size, 0, none⟩)] (22 : TypeId))) := ⟨_, rfl⟩
  have hbW : Below w.heap.size w W := by rw [HW]; exact ((Below.refl _ w).alloc (Nat.le_refl _) _).alloc (by simp) _
  have hL : W.heap[w.heap.size + 1]? = some (.cells #[.pointer none, .pointer (some ⟨w.heap.size, 0, none⟩)] (22 : TypeId) (0, 0)) := by rw [HW]; simpa using heap_alloc_new (w.alloc (.cells #[.pointer none, .map none, .int .i64 0] (56 : TypeId))) (.cells #[.pointer none, .pointer (some ⟨w.heap.size, 0, none⟩)] (22 : TypeId))
  have hZ : W.heap[w.heap.size]? = some (.cells #[.pointer none, .map none, .int .i64 0] (56 : TypeId) (0, 0)) := by rw [HW]; exact (Below.heap_alloc _ _ _ (by simp)).trans (heap_alloc_new w _)
  have hws := hbW.size
  have hnon : Hid (∀ j : Nat, j < 2 → ∃ pv, W.cell? ⟨w.heap.size + 1, j, none⟩ = some (.pointer pv) ∧ Non W pv) := hide (fun j hj => by
    have hc := cell_of_row W (w.heap.size + 1) j _ (22 : TypeId) (0, 0) hL
    rcases Nat.lt_or_ge j 1 with h | h
    · obtain rfl : j = 0 := by omega
      exact ⟨none, by rw [hc]; rfl, .inl rfl⟩
    · obtain rfl : j = 1 := by omega
      exact ⟨some ⟨w.heap.size, 0, none⟩, by rw [hc]; rfl, .inr ⟨_, rfl, by rw [cell_of_row W _ 0 _ (56 : TypeId) (0, 0) hZ]; rfl⟩⟩)
  rw [← HW]
  clear HW hL hZ
  go_loopw [19] (fun i wr => ∃ (j : Nat), j ≤ 2 ∧ i = .int .i64 (j : Int) ∧ Hid (Below W.heap.size W wr))
    (fun i _ => 2 - (intOf i).toNat)
  case atStart => exact ⟨0, by omega, rfl, hide (Below.refl _ _)⟩
  case round =>
    obtain ⟨j, hj, rfl, hT⟩ := hrel
    by_cases hj2 : j < 2
    · obtain ⟨pv, c0, n0⟩ := hnon.out j hj2
      have c1 : wr.cell? ⟨w.heap.size + 1, j, none⟩ = some (.pointer pv) := by rw [hT.out.cell (cell_lt c0)]; exact c0
      have N1 := hide (n0.keep hT.out)
      clear c0 n0
      go_wp2_with fail
      refine (send_none N1.out).mono ?_
      rintro e w1 ⟨rfl, hw1⟩
      subst w1
      go_wp2_with fail
      refine (deliver_none N1.out).mono ?_
      rintro e w2 ⟨rfl, hb2⟩
      have B2 := hb2.alloc hb2.size (.cells #[.int .i64 0, .int .i64 0, .int .i64 0, .slice none 0 0] (31 : TypeId))
      have N2 := hide (N1.out.keep B2)
      have HB2 := hide B2
      clear hb2 B2
      go_wp2_with fail
      refine (double_none N2.out).mono ?_
      rintro e w3 ⟨rfl, hb3⟩
      have N3 := hide (N2.out.keep hb3)
      have HB3 : Hid (Below W.heap.size W w3) := hide (hT.out.trans ((HB2.out.trans (hb3.mono HB2.out.size)).mono hT.out.size))
      clear hb3
      go_wp2_with fail
      refine (drop_none N3.out).mono ?_
      rintro e w4 ⟨rfl, hb4⟩
      have N4 := hide (N3.out.keep hb4)
      have HB4 : Hid (Below W.heap.size W w4) := hide (HB3.out.trans (hb4.mono HB3.out.size))
      clear hb4
      go_wp2_with fail
      refine (list_none N4.out).mono ?_
      rintro e w5 ⟨rfl, hw5⟩
      subst w5
      go_wp2_with fail
      refine (copy_none N4.out).mono ?_
      rintro e w6 ⟨rfl, hw6⟩
      subst w6
      go_wp2_with fail
      go_roundw
      case rel => exact ⟨j + 1, by omega, by simp, HB4⟩
      case measure => simp [intOf]; omega
    · obtain rfl : j = 2 := by omega
      go_wp2_with fail
      refine (awake_any _).mono ?_
      rintro e w7 ⟨rfl, hb7⟩
      have fin : Hid (Below w.heap.size w w7) := hide (hbW.trans ((hT.out.trans (hb7.mono hT.out.size)).mono hws))
      clear hb7 hbW
      go_wp2_with fail
      go_ret
      exact ⟨rfl, fin.out⟩

end Go.Proofs.Ytgkbjnfkimkmaaa.netNone

/-
  Bytes that are all alike.
-/
import Derived.Test.YtiijfgidfcfjoabDcr
import Derived.Test.YtiijfgidfcfjoabSam
import Derived.Lib.SmallJoins
namespace Go.Proofs.Ytiijfgidfcfjoab
open Go.RowKit
set_option maxRecDepth 100000
set_option maxRecDepth 100000

theorem U_put (ys : List Int) (i : Nat) (v : Int) : (U ys).set i (.int .u8 v) = U (ys.set i v) := by simp [U]

/-- How many. -/
def fz (n : Int) : Nat := (max (min (64 + n) 200) 0).toNat

theorem fz_le (n : Int) : fz n ≤ 200 := by unfold fz; omega

set_option maxHeartbeats 1000000 in
theorem filled_any (b n : Int) (hn : -9223372036854775808 ≤ n ∧ n ≤ 9223372036854775743) (w : World) :
    Calls Try.prog 5 #[.int .u8 b, .int .i64 n] w fun e w' => ∃ v, e = .returned v ∧ w'.ownsRow w.heap.size 5 1 v (fz n) (U (List.replicate (fz n) b)) ∧ Below w.heap.size w w' := by
  obtain ⟨i0, hi, hz⟩ := Option.map_eq_some_iff.1 info5
  simp only [Prod.mk.injEq] at hz
  obtain ⟨hz0, hz1, hz2⟩ := hz
  obtain ⟨m, hm⟩ : ∃ m, m = fz n := ⟨_, rfl⟩
  have hm2 : m ≤ 200 := by rw [hm]; exact fz_le n
  have hmv : (m : Int) = max (min (64 + n) 200) 0 := by rw [hm]; unfold fz; omega
  have kmin : ∀ w', (Builtin.min_ #[3, 3] 3 #[.int .i64 (64 + n), .int .i64 200]).run Try.prog w' = .ok (.int .i64 (min (64 + n) 200)) w' := fun w' => by rw [run_min_int2, show min (64 + n) 200 = if 200 < 64 + n then 200 else 64 + n by split <;> omega]
  have kmax : ∀ w', (Builtin.max_ #[3, 3] 3 #[.int .i64 (min (64 + n) 200), .int .i64 0]).run Try.prog w' = .ok (.int .i64 (m : Nat)) w' := fun w' => by rw [hmv, run_max_int2, show max (min (64 + n) 200) 0 = if 0 > min (64 + n) 200 then 0 else min (64 + n) 200 by split <;> omega]
  rw [← hm]
  have HV := hide hmv
  clear hm hmv
  go_enter Try.func5, Try.ntmps5
  go_wp2_with (at_make; refine wpList_make_full _ rfl (.tmp 10) (.tmp 10) (24 : TypeId) rfl w.heap.size 5 i0 (.int .u8 0) 1 Try.underlying24 hi hz0 hz1 .i64 .i64 _ _ m rfl rfl (by omega) (by omega) (by rw [hz2]; omega) (by unfold maxLen; omega) (Nat.le_refl _) ?_; intro w1 hown hgrow; have hg := hide (own_full hown); have hbl : Below w.heap.size w w1 := (Below.refl _ _).grown hgrow (Nat.le_refl _) (fun k hk => by cases hk); clear hown hgrow)
  go_loopw [6] (fun i wr => ∃ k : Nat, k ≤ m ∧ i = .int .i64 k ∧ Hid (wr.heap[w.heap.size]? = some (.cells (U (List.replicate k b ++ List.replicate (m - k) 0)).toArray 5 (0, 0))) ∧ Below w.heap.size w wr) (fun i _ => m - (intOf i).toNat)
  case atStart => exact ⟨0, Nat.zero_le _, rfl, by simpa using hg, hbl⟩
  case round =>
    obtain ⟨k, hk, rfl, hG, hbr⟩ := hrel
    by_cases hlt : k < m
    · obtain ⟨u, hu⟩ := heap_cell (i := k) hG.out (by rw [U_length]; simp; omega)
      have hfz : wr.frozen? ⟨w.heap.size, k, none⟩ = false := heap_free hG.out
      have hfin : Hid ((wr.setCell ⟨w.heap.size, k, none⟩ (.int .u8 b)).heap[w.heap.size]? = some (.cells (U (List.replicate (k + 1) b ++ List.replicate (m - (k + 1)) 0)).toArray 5 (0, 0))) := hide (by
        rw [heap_set hG.out, U_put, List.set_append_right _ _ (by simp), List.length_replicate, Nat.sub_self, show m - k = (m - (k + 1)) + 1 by omega, List.replicate_succ (n := m - (k + 1)), List.set_cons_zero, List.replicate_succ', List.append_assoc]
        rfl)
      go_wp2_with fail
      go_roundw
      case rel => exact ⟨k + 1, by omega, by go_num, hfin, hbr.setCell (by simp) _⟩
      case measure => simp [intOf]; omega
    · obtain rfl : k = m := by omega
      have hG' : wr.heap[w.heap.size]? = some (.cells (U (List.replicate k b)).toArray 5 (0, 0)) := by simpa using hG.out
      have HG := hide hG'
      clear hG hG'
      go_wp2_with fail
      go_ret
      exact ⟨_, rfl, ⟨by simp [U_length], .inr ⟨_, _, _, rfl, Nat.le_refl _, HG.out, Nat.le_refl _, by unfold maxLen; omega, by simp [U_length], by simp [U]⟩⟩, hbr⟩

end Go.Proofs.Ytiijfgidfcfjoab

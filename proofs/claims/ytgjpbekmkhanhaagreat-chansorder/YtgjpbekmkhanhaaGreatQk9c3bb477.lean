/-
  What 'Pick' does, told by its value.
-/
import Derived.Test.YtgjpbekmkhanhaaGreatMx078c698d
namespace Go.Proofs.YtgjpbekmkhanhaaGreat
open Go.RowKit
set_option maxRecDepth 100000

/-- A place out of any number. -/
def pck (x : Int) (n : Nat) : Nat := (x % (n : Int)).toNat
theorem pck_lt (x : Int) {n : Nat} (h : 0 < n) : pck x n < n := by
  have h1 := Int.emod_lt_of_pos x (by omega : (0 : Int) < n)
  have h2 := Int.emod_nonneg x (by omega : (n : Int) ≠ 0)
  unfold pck
  omega

theorem pck_tmod (x : Int) {n : Nat} (h0 : 0 < n) : ((pck x n : Nat) : Int) = if x.tmod n < 0 then x.tmod n + n else x.tmod n := by
  have h1 := Int.tmod_lt_of_pos x (b := (n : Int)) (by omega)
  have h2 : -(n : Int) < x.tmod n := by
    have := Int.lt_tmod_of_pos x (b := (n : Int)) (by omega)
    omega
  have h3 := Int.emod_nonneg x (by omega : (n : Int) ≠ 0)
  have h4 := Int.emod_lt_of_pos x (by omega : (0 : Int) < n)
  unfold pck
  rw [Int.toNat_of_nonneg h3]
  have h5 : x.tmod n = x - n * x.tdiv n := by have := Int.tmod_add_mul_tdiv x n; omega
  have h6 : x % n = x - n * (x / n) := by have := Int.emod_add_mul_ediv x n; omega
  have key : ∃ k : Int, x % n - x.tmod n = n * k := ⟨x.tdiv n - x / n, by rw [h5, h6, Int.mul_sub]; omega⟩
  obtain ⟨k, hk⟩ := key
  split
  · have : k = 1 := by
      rcases Int.lt_trichotomy k 1 with h | h | h
      · have : n * k ≤ n * 0 := Int.mul_le_mul_of_nonneg_left (by omega) (by omega)
        omega
      · exact h
      · have : (n : Int) * 2 ≤ n * k := Int.mul_le_mul_of_nonneg_left (by omega) (by omega)
        omega
    subst this
    omega
  · have : k = 0 := by
      rcases Int.lt_trichotomy k 0 with h | h | h
      · have : n * k ≤ n * (-1) := Int.mul_le_mul_of_nonneg_left (by omega) (by omega)
        omega
      · exact h
      · have : (n : Int) * 1 ≤ n * k := Int.mul_le_mul_of_nonneg_left (by omega) (by omega)
        omega
    subst this
    omega

set_option maxHeartbeats 400000 in
theorem kpick_any (x : Int) (n : Nat) (w : World) (h0 : 0 < n) (hn : n ≤ 1000000) :
    Calls Tryz.prog 40 #[.int .i64 x, .int .i64 n] w fun e w' => e = .returned (.int .i64 (pck x n : Nat)) ∧ w' = w := by
  have h1 := Int.tmod_lt_of_pos x (b := (n : Int)) (by omega)
  have h2 : -(n : Int) < x.tmod n := by
    have := Int.lt_tmod_of_pos x (b := (n : Int)) (by omega)
    omega
  have hp := pck_tmod x h0
  by_cases h : x.tmod n < 0
  · rw [if_pos h] at hp
    rw [hp]
    clear hp
    go_enter Tryz.func40, Tryz.ntmps40
    go_wp2
    go_ret
    exact ⟨rfl, rfl⟩
  · rw [if_neg h] at hp
    rw [hp]
    clear hp
    go_enter Tryz.func40, Tryz.ntmps40
    go_wp2
    go_ret
    exact ⟨rfl, rfl⟩

end Go.Proofs.YtgjpbekmkhanhaaGreat

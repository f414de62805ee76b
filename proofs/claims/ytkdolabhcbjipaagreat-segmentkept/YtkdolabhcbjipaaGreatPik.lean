/-
  What 'Pick' does: a place of n, whatever the number.
-/
import Derived.Test.YtkdolabhcbjipaaGreatBas
namespace Go.Proofs.YtkdolabhcbjipaaGreat
open Go.RowKit
set_option maxRecDepth 100000

set_option maxHeartbeats 400000 in
theorem pick_any (x : Int) (n : Nat) (w : World) (h0 : 0 < n) (hn : n ≤ 9223372036854775807) :
    Calls Tryz.prog 22 #[.int .i64 x, .int .i64 n] w fun e w' => ∃ p : Nat, p < n ∧ e = .returned (.int .i64 p) ∧ w' = w := by
  have h1 := Int.tmod_lt_of_pos x (b := (n : Int)) (by omega)
  have h2 : -(n : Int) < x.tmod n := by
    have := Int.lt_tmod_of_pos x (b := (n : Int)) (by omega)
    omega
  by_cases h : x.tmod n < 0
  · go_enter Tryz.func22, Tryz.ntmps22
    go_wp2
    go_ret
    obtain ⟨p, hp⟩ := Int.eq_ofNat_of_zero_le (a := x.tmod n + n) (by omega)
    exact ⟨p, by omega, by rw [← hp]; rfl, rfl⟩
  · go_enter Tryz.func22, Tryz.ntmps22
    go_wp2
    go_ret
    obtain ⟨p, hp⟩ := Int.eq_ofNat_of_zero_le (a := x.tmod n) (by omega)
    exact ⟨p, by omega, by rw [← hp]; rfl, rfl⟩

end Go.Proofs.YtkdolabhcbjipaaGreat

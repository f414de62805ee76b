/-
  What 'within', 'number' and U32 of the program's octets do, for any slice of bytes.
-/
import Derived.Test.YtkdolabhcbjipaaGreatBas
namespace Go.Proofs.YtkdolabhcbjipaaGreat
open Go.RowKit
set_option maxRecDepth 100000

def wit (n : Nat) (at' size : Int) : Bool := decide (0 ≤ at' ∧ at' ≤ n - size)

set_option maxHeartbeats 400000 in
theorem within_any (a : Option Addr) (n cap : Nat) (at' size : Int) (w : World) (hn : n ≤ 9223372036854775807) (h0 : 0 ≤ size) (h1 : size ≤ 9223372036854775807) :
    Calls Tryz.prog 109 #[.slice a n cap, .int .i64 at', .int .i64 size] w fun e w' => e = .returned (.bool (wit n at' size)) ∧ w' = w := by
  by_cases hp : 0 ≤ at'
  · go_enter Tryz.func109, Tryz.ntmps109
    go_wp2
    go_ret
    exact ⟨by simp [wit, hp], rfl⟩
  · go_enter Tryz.func109, Tryz.ntmps109
    go_wp2
    go_ret
    exact ⟨by simp [wit]; omega, rfl⟩

set_option maxHeartbeats 400000 in
theorem number_yes (a : Option Addr) (n cap : Nat) (zs : List Int) (p size : Nat) (w : World) (hB : Bs w a n cap zs) (h1 : size ≤ 8) (hs : 0 < size) (hp : p + size ≤ n) :
    Calls Tryz.prog 102 #[.slice a n cap, .int .i64 p, .int .i64 size] w fun e w' => e = .returned (.tuple #[.int .u64 (un ((zs.drop p).take size)), .bool true]) ∧ w' = w := by
  have hr := hB.reach
  have hle := hB.le
  obtain ⟨b, off, rfl, hcell⟩ := hB.lies (by omega)
  have hw : wit n p size = true := by simp [wit]; omega
  go_enter Tryz.func102, Tryz.ntmps102
  go_wp2_with (go_at_call 109; refine (within_any _ _ _ _ _ _ (by omega) (by omega) (by omega)).mono ?_; rintro e w' ⟨rfl, rfl⟩)
  go_loop [8, 16] (fun v i => ∃ k : Nat, k ≤ size ∧ i = .int .i64 k ∧ v = .int .u64 (un ((zs.drop p).take k))) (fun _ i => size - (intOf i).toNat)
  case atStart => exact ⟨0, Nat.zero_le _, rfl, rfl⟩
  case round =>
    obtain ⟨k, hk, rfl, rfl⟩ := hrel
    by_cases hlt : k < size
    · have hc := hcell (p + k) (by omega)
      have hz := getD_byte hB.byte (p + k)
      have hz0 := hz.1
      have hz1 := hz.2
      have hu : un (List.take k (List.drop p zs)) ≤ 72057594037927935 := by
        have := un_take_lt hB.byte p k 7 (by omega)
        omega
      have HS := hide (un_take_succ zs p k (by rw [hB.len]; omega))
      clear hz
      go_wp2
      go_round
      case rel => exact ⟨k + 1, by omega, by go_num, by rw [unhide HS, or_join _ _ hu hz0 hz1]⟩
      case measure => simp [intOf]; omega
    · have hk' : k = size := by omega
      subst hk'
      go_wp2
      go_ret2
      exact ⟨rfl, rfl⟩

set_option maxHeartbeats 400000 in
theorem number_no (a : Option Addr) (n cap : Nat) (at' : Int) (size : Nat) (w : World) (hn : n ≤ 9223372036854775807) (h1 : size ≤ 8) (hp : wit n at' size = false) :
    Calls Tryz.prog 102 #[.slice a n cap, .int .i64 at', .int .i64 size] w fun e w' => e = .returned (.tuple #[.int .u64 0, .bool false]) ∧ w' = w := by
  go_enter Tryz.func102, Tryz.ntmps102
  go_wp2_with (go_at_call 109; refine (within_any _ _ _ _ _ _ (by omega) (by omega) (by omega)).mono ?_; rintro e w' ⟨rfl, rfl⟩)
  go_ret2
  exact ⟨rfl, rfl⟩

/-- The number that so many bytes from a place on say; 0 where they are not there. -/
def num (zs : List Int) (at' : Int) (size : Nat) : Nat := if wit zs.length at' size = true then un ((zs.drop at'.toNat).take size) else 0

theorem num_lt {zs : List Int} (h : ∀ z ∈ zs, 0 ≤ z ∧ z ≤ 255) (at' : Int) (size : Nat) : num zs at' size < 256 ^ size := by
  unfold num
  split
  · exact un_take_lt h _ _ _ (Nat.le_refl _)
  · exact Nat.pow_pos (by omega)

theorem number_any (a : Option Addr) (n cap : Nat) (zs : List Int) (at' : Int) (size : Nat) (w : World) (hB : Bs w a n cap zs) (h1 : size ≤ 8) (hs : 0 < size) :
    Calls Tryz.prog 102 #[.slice a n cap, .int .i64 at', .int .i64 size] w fun e w' => e = .returned (.tuple #[.int .u64 (num zs at' size), .bool (wit n at' size)]) ∧ w' = w := by
  have hl := hB.len
  have hr := hB.reach
  have hle := hB.le
  cases hw : wit n at' size with
  | false =>
    have e : num zs at' size = 0 := by unfold num; rw [hl, hw]; rfl
    rw [e]
    exact number_no a n cap at' size w (by omega) h1 hw
  | true =>
    have e : num zs at' size = un ((zs.drop at'.toNat).take size) := by unfold num; rw [hl, hw]; rfl
    rw [e]
    have hw2 := hw
    simp only [wit, decide_eq_true_eq] at hw2
    obtain ⟨p, rfl⟩ := Int.eq_ofNat_of_zero_le hw2.1
    exact number_yes a n cap zs p size w hB h1 hs (by omega)

set_option maxHeartbeats 400000 in
theorem u32_any (a : Option Addr) (n cap : Nat) (zs : List Int) (at' : Int) (w : World) (hB : Bs w a n cap zs) :
    Calls Tryz.prog 88 #[.slice a n cap, .int .i64 at'] w fun e w' => e = .returned (.tuple #[.int .u32 (num zs at' 4), .bool (wit n at' 4)]) ∧ w' = w := by
  have hlt : num zs at' 4 ≤ 4294967295 := by have := num_lt hB.byte at' 4; omega
  go_enter Tryz.func88, Tryz.ntmps88
  go_wp2_with (go_at_call 102; refine (number_any _ _ _ zs _ 4 _ hB (by omega) (by omega)).mono ?_; rintro e w' ⟨rfl, rfl⟩)
  go_ret2
  exact ⟨rfl, rfl⟩

end Go.Proofs.YtkdolabhcbjipaaGreat

/-
  What the document's own Number does, for any slice of bytes.
-/
import Derived.Test.YtelfckhiafnniaaOnu
namespace Go.Proofs.Ytelfckhiafnniaa
open Go.RowKit

set_option maxHeartbeats 400000 in
theorem rnum_yes (a : Option Addr) (n cap : Nat) (zs : List Int) (p size : Nat) (w : World) (hB : Bs w a n cap zs) (h1 : size ≤ 8) (hs : 0 < size) (hp : p + size ≤ n) :
    Calls Try.prog 41 #[.slice a n cap, .int .i64 p, .int .i64 size] w fun e w' => e = .returned (.tuple #[.int .u64 (un ((zs.drop p).take size)), .bool true]) ∧ w' = w := by
  have hr := hB.reach
  have hle := hB.le
  obtain ⟨b, off, rfl, hcell⟩ := hB.lies (by omega)
  go_enter Try.func41, Try.ntmps41
  go_wp2
  go_loop [8, 9] (fun v i => ∃ k : Nat, k ≤ size ∧ i = .int .i64 k ∧ v = .int .u64 (un ((zs.drop p).take k))) (fun _ i => size - (intOf i).toNat)
  case atStart => exact ⟨0, Nat.zero_le _, rfl, rfl⟩
  case round =>
    obtain ⟨k, hk, rfl, rfl⟩ := hrel
    by_cases hlt : k < size
    · have hc := hcell (p + k) (by omega)
      have hz := getD_byte hB.byte (p + k)
      have hz0 := hz.1
      have hz1 := hz.2
      have hu : un (List.take k (List.drop p zs)) ≤ 72057594037927935 := by
        have := un_take_lt hB.byte p k 7 (by omega)
        omega
      have HS := hide (un_take_succ zs p k (by rw [hB.len]; omega))
      clear hz
      go_wp2
      go_round
      case rel => exact ⟨k + 1, by omega, by go_num, by rw [unhide HS]; go_num⟩
      case measure => simp [intOf]; omega
    · have hk' : k = size := by omega
      subst hk'
      go_wp2
      go_ret2
      exact ⟨rfl, rfl⟩

set_option maxHeartbeats 400000 in
theorem rnum_no (a : Option Addr) (n cap : Nat) (at' : Int) (size : Nat) (w : World) (hn : n ≤ 9223372036854775807) (h1 : size ≤ 8) (hp : wit n at' size = false) :
    Calls Try.prog 41 #[.slice a n cap, .int .i64 at', .int .i64 size] w fun e w' => e = .returned (.tuple #[.int .u64 0, .bool false]) ∧ w' = w := by
  simp only [wit, decide_eq_false_iff_not] at hp
  by_cases c1 : at' < 0
  · clear hp
    go_enter Try.func41, Try.ntmps41
    go_wp2
    go_ret2
    exact ⟨rfl, rfl⟩
  · by_cases c2 : n < size
    · clear hp
      go_enter Try.func41, Try.ntmps41
      go_wp2
      go_ret2
      exact ⟨rfl, rfl⟩
    · have c3 : (n : Int) - size < at' := by omega
      clear hp
      go_enter Try.func41, Try.ntmps41
      go_wp2
      go_ret2
      exact ⟨rfl, rfl⟩

theorem rnum_any (a : Option Addr) (n cap : Nat) (zs : List Int) (at' : Int) (size : Nat) (w : World) (hB : Bs w a n cap zs) (h1 : size ≤ 8) (hs : 0 < size) :
    Calls Try.prog 41 #[.slice a n cap, .int .i64 at', .int .i64 size] w fun e w' => e = .returned (.tuple #[.int .u64 (onum zs at' size), .bool (wit n at' size)]) ∧ w' = w := by
  have hl := hB.len
  have hr := hB.reach
  have hle := hB.le
  cases hw : wit n at' size with
  | false =>
    have e : onum zs at' size = 0 := by unfold onum; rw [hl, hw]; rfl
    rw [e]
    exact rnum_no a n cap at' size w (by omega) h1 hw
  | true =>
    have e : onum zs at' size = un ((zs.drop at'.toNat).take size) := by unfold onum; rw [hl, hw]; rfl
    rw [e]
    have hw2 := hw
    simp only [wit, decide_eq_true_eq] at hw2
    obtain ⟨p, rfl⟩ := Int.eq_ofNat_of_zero_le hw2.1
    exact rnum_yes a n cap zs p size w hB h1 hs (by omega)

end Go.Proofs.Ytelfckhiafnniaa

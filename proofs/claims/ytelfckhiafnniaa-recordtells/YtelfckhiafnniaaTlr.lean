/-
  SumsTells returns true: what the document's answer does, and the law by steps.
-/
import Derived.Test.YtelfckhiafnniaaSuc
import Derived.Test.YtelfckhiafnniaaLnd
namespace Go.Proofs.Ytelfckhiafnniaa
open Go.RowKit

theorem bit_tmod (z j : Nat) : ((z : Int) / 2 ^ j).tmod 2 = ((z / 2 ^ j % 2 : Nat) : Int) := by
  have e : (z : Int) / 2 ^ j = ((z / 2 ^ j : Nat) : Int) := by simp
  rw [e, Int.tmod_eq_emod_of_nonneg (Int.natCast_nonneg _)]
  rfl

set_option maxHeartbeats 1000000 in
theorem ref_any (s : Nat) (a : Option Addr) (n cap : Nat) (zs : List Int) (w : World) (hs : s < 4294967296) (hB : Bs w a n cap zs) :
    Calls Try.prog 36 #[.int .u32 s, .slice a n cap] w fun e w' => e = .returned (.int .u32 (more s zs)) ∧ w' = w := by
  have hr := hB.reach
  have hle := hB.le
  have hl := hB.len
  go_enter Try.func36, Try.ntmps36
  go_wp2_with fail
  go_loop [5, 6] (fun x i => ∃ k r : Nat, k ≤ n ∧ i = .int .i64 k ∧ x = .int .u32 r ∧ r < 4294967296 ∧ Hid (r = reg (4294967295 - s) (zs.take k)))
    (fun _ i => n - (intOf i).toNat)
  case atStart => exact ⟨0, 4294967295 - s, Nat.zero_le _, rfl, by go_num, by omega, hide (by simp [reg])⟩
  case round =>
    obtain ⟨k, r, hk, rfl, rfl, hr, hrr⟩ := hrel
    by_cases hlt : k < n
    · obtain ⟨b, off, rfl, hcell⟩ := hB.lies (by omega)
      have hc := hcell k hlt
      have hz := getD_byte hB.byte k
      have HS := hide (reg_take_succ (4294967295 - s) zs k (by omega))
      rw [List.getD] at HS hc
      generalize zs[k]?.getD 0 = z at hc hz HS
      obtain ⟨z, rfl⟩ := Int.eq_ofNat_of_zero_le hz.1
      have hz1 := hz.2
      rw [Int.toNat_natCast] at HS
      clear hcell hz
      go_wp2_with fail
      go_loop [5, 7] (fun x i => ∃ j r' : Nat, j ≤ 8 ∧ i = .int .i64 j ∧ x = .int .u32 r' ∧ r' < 4294967296 ∧ Hid (r' = eat z j r))
        (fun _ i => 8 - (intOf i).toNat)
      case atStart => exact ⟨0, r, Nat.zero_le _, rfl, rfl, hr, hide rfl⟩
      case round =>
        obtain ⟨j, r', hj, rfl, rfl, hr', hrr'⟩ := hrel
        by_cases hlt8 : j < 8
        · have HE : Hid (eat z (j + 1) r = turn r' (z / 2 ^ j % 2)) := hide (by rw [hrr'.out]; rfl)
          have ht := bit_tmod z j
          generalize z / 2 ^ j % 2 = x at ht HE
          by_cases h : r' % 2 = x
          · have e : turn r' x = r' / 2 := by unfold turn; rw [if_pos h]
            rw [e] at HE
            go_wp2_with fail
            go_round
            case rel => exact ⟨j + 1, r' / 2, by omega, by go_num, by go_num, by omega, hide (by rw [HE.out])⟩
            case measure => simp [intOf]; omega
          · have e : turn r' x = (r' / 2) ^^^ 2197175160 := by unfold turn; rw [if_neg h]
            have e2 : bits .xor .u32 ((r' : Int) / 2) 2197175160 = ((r' / 2 ^^^ 2197175160 : Nat) : Int) := by
              rw [u32_xor _ _ (by omega) (by omega) (by decide) (by decide)]
              congr 1
            rw [e] at HE
            go_wp2_with fail
            go_round
            case rel => exact ⟨j + 1, r' / 2 ^^^ 2197175160, by omega, by go_num, by first | rfl | rw [e2], Nat.xor_lt_two_pow (n := 32) (by omega) (by decide), hide (by rw [HE.out])⟩
            case measure => simp [intOf]; omega
        · obtain rfl : j = 8 := by omega
          go_wp2_with fail
          go_round
          case rel => exact ⟨k + 1, r', by omega, by go_num, rfl, hr', hide (by rw [hrr'.out, HS.out, hrr.out])⟩
          case measure => simp [intOf]; omega
    · have e : more s zs = 4294967295 - r := by
        rw [hrr.out, List.take_of_length_le (by omega)]
        rfl
      have HE := hide e
      clear e
      go_wp2_with fail
      go_ret
      exact ⟨by rw [HE.out]; go_num, rfl⟩

end Go.Proofs.Ytelfckhiafnniaa

/-
  What the closure of 'More', 'More' and 'Crc' of the program's sums do, for any sum and any slice of bytes.
-/
import Derived.Test.YtelfckhiafnniaaBas
import Derived.Test.YtelfckhiafnniaaCrc
import Derived.Lib.SlBytesConst
namespace Go.Proofs.Ytelfckhiafnniaa
open Go.RowKit

theorem turn_lt (r b : Nat) (hr : r < 4294967296) : turn r b < 4294967296 := by
  unfold turn
  split
  · omega
  · exact Nat.xor_lt_two_pow (n := 32) (by omega) (by decide)

set_option maxHeartbeats 400000 in
theorem turn_any (r b g : Nat) (w : World) (hr : r < 4294967296) (hv : w.heap[g]? = some (.cells #[.int .u32 r] 42 (0, 0))) :
    Calls Try.prog 64 #[.int .u32 b, .pointer (some ⟨g, 0, none⟩)] w fun e w' => e = .returned (.tuple #[]) ∧ w'.heap[g]? = some (.cells #[.int .u32 (turn r b)] 42 (0, 0)) ∧ Below g w w' := by
  have cW := cell_of_one hv
  have fW := free_of_one hv
  have hand : bits .and .u32 (r : Int) 1 = ((r % 2 : Nat) : Int) := by
    have := u32_and_nat r 1 hr (by decide)
    rw [nat_mask1] at this
    exact this
  by_cases h : r % 2 = b
  · have e : (turn r b : Int) = (r : Int) / 2 := by unfold turn; rw [if_pos h]; rfl
    rw [e]
    go_enter Try.func64, Try.ntmps64
    go_wp2
    go_end0
    exact ⟨rfl, one_setCell hv, (Below.refl g w).setCell (Nat.le_refl g) _⟩
  · have h' : ¬ ((r % 2 : Nat) : Int) = (b : Int) := by omega
    have e : (turn r b : Int) = bits .xor .u32 ((r : Int) / 2) 2197175160 := by
      unfold turn
      rw [if_neg h, u32_xor _ _ (by omega) (by omega) (by decide) (by decide)]
      congr 1
    rw [e]
    go_enter Try.func64, Try.ntmps64
    go_wp2
    go_end0
    exact ⟨rfl, one_setCell (one_setCell hv), ((Below.refl g w).setCell (Nat.le_refl g) _).setCell (Nat.le_refl g) _⟩

theorem not_eq (s : Nat) (hs : s < 4294967296) : bits .xor .u32 IntKind.u32.max (s : Int) = ((4294967295 - s : Nat) : Int) := by
  have := u32_xor_nat 4294967295 s (by decide) hs
  rw [Nat.xor_comm, turned s hs] at this
  exact this

theorem arg_bit (z j : Nat) (hz : z < 256) : bits .and .u32 ((z : Int) / 2 ^ j % 4294967296) 1 = ((z / 2 ^ j % 2 : Nat) : Int) := by
  have h : z / 2 ^ j < 256 := Nat.lt_of_le_of_lt (Nat.div_le_self _ _) hz
  have e : (z : Int) / 2 ^ j % 4294967296 = ((z / 2 ^ j : Nat) : Int) := by
    have e2 : (z : Int) / 2 ^ j = ((z / 2 ^ j : Nat) : Int) := by simp
    rw [e2]
    exact Int.emod_eq_of_lt (Int.natCast_nonneg _) (Int.ofNat_lt.2 (Nat.lt_trans h (by decide)))
  rw [e]
  have := u32_and_nat (z / 2 ^ j) 1 (by omega) (by decide)
  rw [nat_mask1] at this
  exact this

set_option maxHeartbeats 1000000 in
theorem more_any (s : Nat) (a : Option Addr) (n cap : Nat) (zs : List Int) (w : World) (hs : s < 4294967296) (hB : Bs w a n cap zs) :
    Calls Try.prog 50 #[.int .u32 s, .slice a n cap] w fun e w' => e = .returned (.int .u32 (more s zs)) ∧ Below w.heap.size w w' := by
  have hr := hB.reach
  have hle := hB.le
  have hl := hB.len
  have hnot := not_eq s hs
  have hmf : ∀ (fn : Fn) (first cap : Array Value) (w : World), (Instr.makeFunc fn first cap).run Try.prog w = .ok (.func fn first cap) w := fun _ _ _ _ => rfl
  go_enter Try.func50, Try.ntmps50
  go_wp2_with fail
  go_loopw [15] (fun i wr => ∃ k r : Nat, k ≤ n ∧ i = .int .i64 k ∧ r < 4294967296 ∧ Hid (r = reg (4294967295 - s) (zs.take k)) ∧ Hid (wr.heap[w.heap.size]? = some (.cells #[.int .u32 r] 42 (0, 0))) ∧ Below w.heap.size w wr)
    (fun i _ => n - (intOf i).toNat)
  case atStart =>
    refine ⟨0, 4294967295 - s, Nat.zero_le _, rfl, by omega, hide (by simp [reg]), hide ?_, ?_⟩
    · rw [← hnot]
      exact heap_alloc_new w _
    · exact (Below.refl _ _).alloc (Nat.le_refl _) _
  case round =>
    obtain ⟨k, r, hk, rfl, hr, hrr, hv, hb⟩ := hrel
    by_cases hlt : k < n
    · obtain ⟨b, off, rfl, hcell⟩ := (hB.keep hb).lies (by omega)
      have hc := hcell k hlt
      have hz := getD_byte hB.byte k
      have HS := hide (reg_take_succ (4294967295 - s) zs k (by omega))
      rw [List.getD] at HS hc
      generalize zs[k]?.getD 0 = z at hc hz HS
      obtain ⟨z, rfl⟩ := Int.eq_ofNat_of_zero_le hz.1
      have hz1 := hz.2
      rw [Int.toNat_natCast] at HS
      clear hcell hz
      obtain ⟨wl, hwl⟩ : ∃ wl : World, wl = wr := ⟨_, rfl⟩
      subst hwl
      go_wp2_with fail
      go_loopw [19] (fun i wx => ∃ j r' : Nat, j ≤ 8 ∧ i = .int .i64 j ∧ r' < 4294967296 ∧ Hid (r' = eat z j r) ∧ Hid (wx.heap[w.heap.size]? = some (.cells #[.int .u32 r'] 42 (0, 0))) ∧ Below w.heap.size w wx)
        (fun i _ => 8 - (intOf i).toNat)
      case atStart => exact ⟨0, r, Nat.zero_le _, rfl, hr, hide rfl, hv, hb⟩
      case round =>
        obtain ⟨j, r', hj, rfl, hr', hrr', hv', hb'⟩ := hrel
        by_cases hlt8 : j < 8
        · go_wp2_with fail
          rw [arg_bit z j (by omega)]
          refine (turn_any r' (z / 2 ^ j % 2) w.heap.size wr hr' hv'.out).mono ?_
          rintro e w1 ⟨rfl, hv1, hb1⟩
          have HV1 := hide hv1
          clear hv1
          go_wp2_with fail
          go_roundw
          case rel => exact ⟨j + 1, turn r' (z / 2 ^ j % 2), by omega, by go_num, turn_lt _ _ hr', hide (by rw [hrr'.out]; rfl), HV1, hb'.trans hb1⟩
          case measure => simp [intOf]; omega
        · obtain rfl : j = 8 := by omega
          go_wp2_with fail
          go_roundw
          case rel => exact ⟨k + 1, r', by omega, by go_num, hr', hide (by rw [hrr'.out, HS.out, hrr.out]), hv', hb'⟩
          case measure => simp [intOf]; omega
    · clear hB
      have hc := cell_of_one hv.out
      go_wp2
      go_ret
      refine ⟨?_, hb⟩
      have e : more s zs = 4294967295 - r := by
        rw [hrr.out, List.take_of_length_le (by omega)]
        rfl
      rw [e, ← not_eq r hr]
      rfl

theorem crc_any (a : Option Addr) (n cap : Nat) (zs : List Int) (w : World) (hB : Bs w a n cap zs) :
    Calls Try.prog 31 #[.slice a n cap] w fun e w' => e = .returned (.int .u32 (more 0 zs)) ∧ Below w.heap.size w w' := by
  go_enter Try.func31, Try.ntmps31
  go_wp2_with fail
  refine (more_any 0 a n cap zs _ (by decide) hB).mono ?_
  rintro e w1 ⟨rfl, hb⟩
  go_wp2_with fail
  go_ret
  exact ⟨rfl, hb⟩

/-- A text written out as bytes, as a slice. -/
theorem row_mark (w : World) (g : Nat) (hg : w.heap.size = g) (l : List Int) (n : Nat) (fz : Nat × Nat) (hn : l.length = n) (h2 : n ≤ 1000) (hb : ∀ z ∈ l, 0 ≤ z ∧ z ≤ 255) : Bs (w.alloc (.cells (U l).toArray 5 fz)) (some ⟨g, 0, none⟩) n n l := by
  subst hg
  refine ⟨hn, Nat.le_refl _, by omega, hb, fun h => (by cases h), fun _ => ⟨w.heap.size, 0, rfl, fun i hi => ?_⟩⟩
  rw [cell_of_row _ w.heap.size (0 + i) (U l).toArray 5 fz (heap_alloc_new w _)]
  have h2 : i < l.length := by omega
  simp [U, List.getD, List.getElem?_eq_getElem h2]

end Go.Proofs.Ytelfckhiafnniaa

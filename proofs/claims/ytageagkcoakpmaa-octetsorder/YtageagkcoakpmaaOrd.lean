/-
  OctetsOrder returns true for all numbers: of two numbers the greater one's eight bytes are the greater.
-/
import Derived.Test.YtageagkcoakpmaaAwk
import Derived.ProofKit
import Derived.OpenShut
import Derived.ShutString
import Derived.ChangeOld
import Derived.Deep.RegionWith
namespace Go.Proofs.Ytageagkcoakpmaa.octetsOrder
open Go.ChangeShapes Go.WideShapes Go.ChangeAt Go.RowKit
open Go.ChangeMaps (open_string shut_string)

theorem lex (M q1 q2 r1 r2 : Nat) (h1 : r1 < M) (h2 : r2 < M) : (r1 + M * q1 < r2 + M * q2) ↔ (q1 < q2 ∨ (q1 = q2 ∧ r1 < r2)) := by
  rcases Nat.lt_trichotomy q1 q2 with h | h | h
  · have := Nat.mul_le_mul_left M (show q1 + 1 ≤ q2 from h)
    rw [Nat.mul_add] at this
    constructor
    · intro _; exact .inl h
    · intro _; omega
  · subst h
    constructor
    · intro h; exact .inr ⟨rfl, by omega⟩
    · rintro (h | ⟨_, h⟩) <;> omega
  · have := Nat.mul_le_mul_left M (show q2 + 1 ≤ q1 from h)
    rw [Nat.mul_add] at this
    constructor
    · intro _; omega
    · rintro (h | ⟨h, _⟩) <;> omega

theorem less (k x y : Nat) : Op.bytesLess ((be k x).map fun n => UInt8.ofNat n.toNat) ((be k y).map fun n => UInt8.ofNat n.toNat) = decide (x % 256 ^ k < y % 256 ^ k) := by
  induction k with
  | zero => simp [be, Op.bytesLess, Nat.mod_one]
  | succ k ih =>
    rw [be_cons, be_cons, List.map_cons, List.map_cons, Op.bytesLess, ih]
    have hx : x / 256 ^ k % 256 < 256 := Nat.mod_lt _ (by omega)
    have hy : y / 256 ^ k % 256 < 256 := Nat.mod_lt _ (by omega)
    have hM : 0 < 256 ^ k := Nat.pow_pos (by omega)
    rw [Nat.mod_pow_succ, Nat.mod_pow_succ, Bool.eq_iff_iff]
    simp only [Bool.or_eq_true, Bool.and_eq_true, decide_eq_true_eq, beq_iff_eq, Int.toNat_natCast, UInt8.lt_iff_toNat_lt, ← UInt8.toNat_inj, UInt8.toNat_ofNat']
    rw [lex _ _ _ _ _ (Nat.mod_lt _ hM) (Nat.mod_lt _ hM)]
    generalize x / 256 ^ k % 256 = q1 at *
    generalize y / 256 ^ k % 256 = q2 at *
    omega

theorem strList (l : List Int) : (strOfNums l).toList = l.map fun n => UInt8.ofNat n.toNat := by rw [ByteArray.toList_eq, strOfNums_data]

theorem less8 (x y : Nat) (hx : x ≤ 18446744073709551615) (hy : y ≤ 18446744073709551615) : Op.bytesLess (strOfNums (be 8 x)).toList (strOfNums (be 8 y)).toList = decide (x < y) := by
  rw [strList, strList, less, Nat.mod_eq_of_lt (by omega), Nat.mod_eq_of_lt (by omega)]

theorem same8 (x y : Nat) (hx : x ≤ 18446744073709551615) (hy : y ≤ 18446744073709551615) : ((strOfNums (be 8 x)).toList == (strOfNums (be 8 y)).toList) = decide (x = y) := by
  rw [str_beq (be_byte _ _) (be_byte _ _), decide_eq_decide]
  constructor
  · intro h
    have := congrArg un h
    rw [un_be, un_be, Nat.mod_eq_of_lt (by omega), Nat.mod_eq_of_lt (by omega)] at this
    exact this
  · intro h; rw [h]

theorem size8 (x : Nat) : (strOfNums (be 8 x)).size = 8 := by rw [strOfNums_size, be_length]

theorem add64_nil (x : Nat) (w : World) : Calls Try.prog 21 #[.slice none 0 0, .int .u64 x] w fun e w' => e = .returned (.slice (some ⟨w.heap.size, 0, none⟩) 8 8) ∧
    Bs w' (some ⟨w.heap.size, 0, none⟩) 8 8 (be 8 x) ∧ Below w.heap.size w w' :=
  add64_any none 0 0 [] x w (Bs.nil w) (by decide)

theorem conv {w : World} {a : Option Addr} {n cap : Nat} {zs : List Int} (h : Bs w a n cap zs) : (convert 25 9 (.slice a n cap)).run Try.prog w = .ok (.string (strOfNums zs)) w :=
  run_str 25 5 Try.underlying25 Try.underlying5 h 9 Try.underlying9

set_option maxHeartbeats 1000000 in
theorem walk (x y : Nat) (hx : x ≤ 18446744073709551615) (hy : y ≤ 18446744073709551615) (w : World) :
    Calls Try.prog 6 #[.int .u64 x, .int .u64 y] w fun e w' => e = .returned (.bool true) ∧ Below w.heap.size w w' := by
  go_enter Try.func6, Try.ntmps6
  go_wp2_with fail
  go_region_with (first
    | (go_at_call_of 21 (Value.int IntKind.u64 (x : Int)); refine (add64_nil x _).mono ?_; rintro e w1 ⟨rfl, hB1, hb1⟩; have k1 : (convert 25 9 (.slice (some ⟨w.heap.size, 0, none⟩) 8 8)).run Try.prog w1 = .ok (.string (strOfNums (be 8 x))) w1 := conv hB1)
    | (go_at_call_of 21 (Value.int IntKind.u64 (y : Int)); refine (add64_nil y _).mono ?_; rintro e w2 ⟨rfl, hB2, hb2⟩; have k2 := conv hB2; have k3 : (convert 25 9 (.slice (some ⟨w.heap.size, 0, none⟩) 8 8)).run Try.prog w2 = .ok (.string (strOfNums (be 8 x))) w2 := conv (hB1.keep hb2)))
  all_goals
    have z1 : w.heap.size ≤ w1.heap.size := hb1.size
    have b2 : Below w.heap.size w w2 := (show Below w.heap.size w w1 from ((Below.refl _ _).drew).trans hb1).trans (hb2.mono z1)
    have z2 := b2.size
    have l1 := less8 x y hx hy
    have l2 := same8 x y hx hy
    have l3 := size8 x
    clear k1 k2 k3 hB1 hB2 hb1 hb2
    rcases Nat.lt_trichotomy x y with h | h | h
    · rw [decide_eq_true h] at l1
      rw [decide_eq_false (by omega)] at l2
      have h2 : ((x : Int) == (y : Int)) = false := by simp; omega
      go_wp2_with (go_at_call 13; refine (awake_any _).mono ?_; rintro e w3 ⟨rfl, hb3⟩)
      go_ret
      exact ⟨rfl, b2.trans (hb3.mono z2)⟩
    · rw [decide_eq_false (by omega)] at l1
      rw [decide_eq_true h] at l2
      have h1 : ¬ ((x : Int) < (y : Int)) := by omega
      have h2 : ((x : Int) == (y : Int)) = true := by simp [h]
      have H := hide h
      clear h
      go_wp2_with (go_at_call 13; refine (awake_any _).mono ?_; rintro e w3 ⟨rfl, hb3⟩)
      go_ret
      exact ⟨rfl, b2.trans (hb3.mono z2)⟩
    · rw [decide_eq_false (by omega)] at l1
      rw [decide_eq_false (by omega)] at l2
      have h1 : decide (x < y) = false := by simp; omega
      have h2 : ((x : Int) == (y : Int)) = false := by simp; omega
      go_wp2_with (go_at_call 13; refine (awake_any _).mono ?_; rintro e w3 ⟨rfl, hb3⟩)
      go_ret
      exact ⟨rfl, b2.trans (hb3.mono z2)⟩

end Go.Proofs.Ytageagkcoakpmaa.octetsOrder

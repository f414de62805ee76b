/-
  What PutInt and GetInt do, and Get in another form.
-/
import Derived.Test.YtelfckhiafnniaaPuv
import Derived.Test.YtelfckhiafnniaaGtv
namespace Go.Proofs.Ytelfckhiafnniaa
open Go.RowKit

/-- The number at a place, the place behind it, whether there is one. -/
def gv (zs : List Int) (x : Int) : Option Nat := if x < 0 ∨ (zs.length : Int) ≤ x then none else getv (zs.drop x.toNat)
def gN (zs : List Int) (x : Int) : Nat := (gv zs x).getD 0
def gE (zs : List Int) (x : Int) : Nat := match gv zs x with | some v => x.toNat + (vb v).length | none => 0
def gB (zs : List Int) (x : Int) : Bool := (gv zs x).isSome

theorem got_eq (zs : List Int) (x : Int) : got zs x = .tuple #[.int .u64 (gN zs x : Int), .int .i64 (gE zs x : Int), .bool (gB zs x)] := by
  unfold got gN gE gB gv
  by_cases h : x < 0 ∨ (zs.length : Int) ≤ x
  · simp [h, gret]
  · rw [if_neg h, if_neg h]
    cases getv (zs.drop x.toNat) <;> simp [gret]

theorem get_val (a : Option Addr) (len cap : Nat) (zs : List Int) (x : Int) (w : World) (hB : Bs w a len cap zs) :
    Calls Try.prog 55 #[.slice a len cap, .int .i64 x] w fun e W' => e = .returned (.tuple #[.int .u64 (gN zs x : Int), .int .i64 (gE zs x : Int), .bool (gB zs x)]) ∧ Below w.heap.size w W' := by
  rw [← got_eq]
  exact get_any a len cap zs x w hB

/-- A number at a place is one whose bytes stand there. -/
theorem gv_some {zs : List Int} (hb : ∀ z ∈ zs, 0 ≤ z ∧ z ≤ 255) {x : Int} {v : Nat} (h : gv zs x = some v) : 0 ≤ x ∧ x < zs.length ∧ v < 18446744073709551616 ∧ vb v <+: zs.drop x.toNat := by
  unfold gv at h
  split at h
  · cases h
  · next hx =>
    have := (getv_iff (drop_byte hb _) v).1 h
    exact ⟨by omega, by omega, this⟩

theorem gv_intro {zs : List Int} (hb : ∀ z ∈ zs, 0 ≤ z ∧ z ≤ 255) {x : Nat} {v : Nat} (hv : v < 18446744073709551616) (h : vb v <+: zs.drop x) : gv zs (x : Int) = some v := by
  have h1 := h.length_le
  have h2 := vb_pos v
  simp only [List.length_drop] at h1
  unfold gv
  rw [if_neg (by omega), Int.toNat_natCast]
  exact (getv_iff (drop_byte hb _) v).2 ⟨hv, h⟩

theorem gN_lt {zs : List Int} (hb : ∀ z ∈ zs, 0 ≤ z ∧ z ≤ 255) (x : Int) : gN zs x < 18446744073709551616 := by
  unfold gN
  cases h : gv zs x with
  | none => simp
  | some v => exact (gv_some hb h).2.2.1

theorem not_i64 (n : Int) (h1 : -9223372036854775808 ≤ n) (h2 : n ≤ 9223372036854775807) : bits .xor .i64 (-1) n = -n - 1 := by
  show IntKind.i64.wrap ((BitVec.ofInt 64 (-1) ^^^ BitVec.ofInt 64 n).toNat : Int) = _
  have e : BitVec.ofInt 64 (-1) = BitVec.allOnes 64 := by decide
  rw [e, BitVec.allOnes_xor, BitVec.toNat_not, BitVec.toNat_ofInt]
  simp [IntKind.wrap, IntKind.bits, IntKind.signed]
  omega

set_option maxHeartbeats 400000 in
theorem folded_any (n : Int) (h1 : -9223372036854775808 ≤ n) (h2 : n ≤ 9223372036854775807) (w : World) :
    Calls Try.prog 59 #[.int .i64 n] w fun e w' => e = .returned (.int .u64 (fo n : Int)) ∧ w' = w := by
  go_enter Try.func59, Try.ntmps59
  by_cases h : n < 0
  · have e : (fo n : Int) = -2 * n - 1 := by unfold fo; rw [if_pos h]; omega
    go_wp2
    go_ret
    refine ⟨congrArg (fun x => Ending.returned (.int .u64 x)) ?_, rfl⟩
    rw [not_i64 n h1 h2, IntKind.wrap_u64, IntKind.wrap_u64, IntKind.wrap_u64]
    omega
  · have e : (fo n : Int) = 2 * n := by unfold fo; rw [if_neg h]; omega
    go_wp2
    go_ret
    refine ⟨congrArg (fun x => Ending.returned (.int .u64 x)) ?_, rfl⟩
    omega

set_option maxHeartbeats 400000 in
theorem unfolded_any (m : Nat) (h2 : m < 18446744073709551616) (w : World) :
    Calls Try.prog 66 #[.int .u64 (m : Int)] w fun e w' => e = .returned (.int .i64 (unfo m)) ∧ w' = w := by
  go_enter Try.func66, Try.ntmps66
  by_cases h : m % 2 = 1
  · have e : unfo m = -((m / 2 : Nat) : Int) - 1 := by unfold unfo; rw [if_pos h]
    have h' : (m : Int) % 2 = 1 := by omega
    go_wp2
    go_ret
    refine ⟨congrArg (fun x => Ending.returned (.int .i64 x)) ?_, rfl⟩
    have hd : (m : Int) / 2 = ((m / 2 : Nat) : Int) := by omega
    rw [hd, not_i64 _ (by omega) (by omega)]
  · have e : unfo m = ((m / 2 : Nat) : Int) := by unfold unfo; rw [if_neg h]
    have h' : ¬ (m : Int) % 2 = 1 := by omega
    go_wp2
    go_ret
    refine ⟨congrArg (fun x => Ending.returned (.int .i64 x)) ?_, rfl⟩
    rw [e]; omega

set_option maxHeartbeats 400000 in
theorem putInt_any (a : Option Addr) (len cap : Nat) (zs : List Int) (n : Int) (h1 : -9223372036854775808 ≤ n) (h2 : n ≤ 9223372036854775807) (w : World) (hB : Bs w a len cap zs) (hlen : len ≤ 140737488355318) :
    Calls Try.prog 47 #[.slice a len cap, .int .i64 n] w fun e W' => ∃ g, e = .returned (.slice (some ⟨g, 0, none⟩) (len + (vb (fo n)).length) (len + (vb (fo n)).length)) ∧
      W'.heap[g]? = some (.cells (U (zs ++ vb (fo n))).toArray 5 (0, 0)) ∧ w.heap.size ≤ g ∧ Below w.heap.size w W' := by
  go_enter Try.func47, Try.ntmps47
  go_wp2_with (first
    | (go_at_call 59; refine (folded_any n h1 h2 _).mono ?_; rintro e w1 ⟨rfl, rfl⟩)
    | (go_at_call 48; refine (put_any _ _ _ zs _ (fo_lt h1 h2) _ hB hlen).mono ?_; rintro e w2 ⟨g, rfl, hg, hle, hb⟩; have HG := hide hg; clear hg))
  go_ret
  exact ⟨g, rfl, HG.out, hle, hb⟩

set_option maxHeartbeats 400000 in
theorem getInt_val (a : Option Addr) (len cap : Nat) (zs : List Int) (x : Int) (w : World) (hB : Bs w a len cap zs) :
    Calls Try.prog 53 #[.slice a len cap, .int .i64 x] w fun e W' => e = .returned (.tuple #[.int .i64 (unfo (gN zs x)), .int .i64 (gE zs x : Int), .bool (gB zs x)]) ∧ Below w.heap.size w W' := by
  have hlt := gN_lt hB.byte x
  go_enter Try.func53, Try.ntmps53
  go_wp2_with (first
    | (go_at_call 55; refine (get_val _ _ _ zs _ _ hB).mono ?_; rintro e w1 ⟨rfl, hb1⟩)
    | (go_at_call 66; refine (unfolded_any _ hlt _).mono ?_; rintro e w2 ⟨rfl, rfl⟩))
  go_ret3
  exact ⟨rfl, hb1⟩

end Go.Proofs.Ytelfckhiafnniaa

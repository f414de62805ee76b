/-
  Texts put into one.
-/
import Derived.Test.YtikhgjnjlkaobaaRows
import Derived.Test.YtikhgjnjlkaobaaPke252745d
import Derived.Test.YtikhgjnjlkaobaaPke145eac4

/-
  Slices of bytes: rows written out, heads, what stays; the layout of bytes in the program.
-/
namespace Go.Proofs.Ytikhgjnjlkaobaa
open Go.RowKit
set_option maxRecDepth 100000

theorem info5 : (Try.prog.info? 5).map (fun i => (i.zero, i.size, i.bytes)) = some (some (.int .u8 0), 1, 1) := by kernel_rfl
theorem size5 : (Try.prog.info? 5).map (·.size) = some 1 := by kernel_rfl

/-- A row of bytes written out, as a slice. -/
theorem Bs.lit (w : World) (l : List Int) (n : Nat) (hn : l.length = n) (h2 : n ≤ 1000) (hb : ∀ z ∈ l, 0 ≤ z ∧ z ≤ 255) : Bs (w.alloc (.cells (U l).toArray 5)) (some ⟨w.heap.size, 0, none⟩) n n l :=
  Bs.own (cur := U l) (heap_alloc_new w _) (by rw [U_length, hn]) hn (Nat.le_refl _) (by omega) hb (by rw [List.take_of_length_le (by rw [U_length, hn]; exact Nat.le_refl _)]; rfl)

theorem Bs.alloc {w : World} {a : Option Addr} {n cap : Nat} {zs : List Int} (h : Bs w a n cap zs) (o : Obj) : Bs (w.alloc o) a n cap zs := h.keep ((Below.refl _ _).alloc (Nat.le_refl _) o)

theorem row_lit (w : World) (g : Nat) (hg : w.heap.size = g) (l : List Int) (n : Nat) (hn : l.length = n) (h2 : n ≤ 1000) (hb : ∀ z ∈ l, 0 ≤ z ∧ z ≤ 255) : Bs (w.alloc (.cells (U l).toArray 5)) (some ⟨g, 0, none⟩) n n l := by
  subst hg
  exact Bs.own (cur := U l) (heap_alloc_new w _) (by rw [U_length, hn]) hn (Nat.le_refl _) (by omega) hb (by rw [List.take_of_length_le (by rw [U_length, hn]; exact Nat.le_refl _)]; rfl)

theorem Bs.head {w : World} {a : Option Addr} {n cap : Nat} {zs : List Int} (hB : Bs w a n cap zs) (m : Nat) (hm : m ≤ n) : Bs w a m cap (zs.take m) := by
  have hl := hB.len
  have hle := hB.le
  refine ⟨by simp; omega, by omega, hB.reach, take_byte hB.byte _, hB.bare, fun h => ?_⟩
  obtain ⟨b, off, ha, hc⟩ := hB.lies (by omega)
  refine ⟨b, off, ha, fun i hi => ?_⟩
  rw [hc i (by omega)]
  simp [List.getD, hi]

theorem str_beq {xs ys : List Int} (hx : ∀ z ∈ xs, 0 ≤ z ∧ z ≤ 255) (hy : ∀ z ∈ ys, 0 ≤ z ∧ z ≤ 255) : ((strOfNums xs).toList == (strOfNums ys).toList) = decide (xs = ys) := by
  have e : ∀ l : List Int, (strOfNums l).toList = l.map (fun n => UInt8.ofNat n.toNat) := fun l => by rw [ByteArray.toList_eq, strOfNums_data]
  rw [e, e, Bool.eq_iff_iff]
  simp only [beq_iff_eq, decide_eq_true_eq]
  exact ⟨strOf_inj hx hy, fun h => by rw [h]⟩

end Go.Proofs.Ytikhgjnjlkaobaa

/-
  What 'SameBytes' does, for any two slices of bytes.
-/
namespace Go.Proofs.Ytikhgjnjlkaobaa
open Go.RowKit
set_option maxRecDepth 100000

set_option maxHeartbeats 400000 in
theorem same_any (a c : Option Addr) (n cap m dap : Nat) (xs ys : List Int) (w : World) (hB : Bs w a n cap xs) (hC : Bs w c m dap ys) :
    Calls Try.prog 27 #[.slice a n cap, .slice c m dap] w fun e w' => e = .returned (.bool (decide (xs = ys))) ∧ w' = w := by
  have k1 : (convert 28 9 (.slice a n cap)).run Try.prog w = .ok (.string (strOfNums xs)) w := run_str 28 5 Try.underlying28 Try.underlying5 hB 9 Try.underlying9
  have k2 : (convert 28 9 (.slice c m dap)).run Try.prog w = .ok (.string (strOfNums ys)) w := run_str 28 5 Try.underlying28 Try.underlying5 hC 9 Try.underlying9
  go_enter Try.func27, Try.ntmps27
  go_wp2
  go_ret
  exact ⟨congrArg (fun x => Ending.returned (.bool x)) (str_beq hB.byte hC.byte), rfl⟩

theorem same_true {w : World} {a c : Option Addr} {n cap m dap : Nat} {xs ys : List Int} (h : xs = ys) (h1 : Bs w a n cap xs) (h2 : Bs w c m dap ys) :
    Calls Try.prog 27 #[.slice a n cap, .slice c m dap] w fun e w' => e = .returned (.bool true) ∧ w' = w := by
  subst h
  have h := same_any a c n cap m dap xs xs w h1 h2
  rw [decide_eq_true rfl] at h
  exact h

end Go.Proofs.Ytikhgjnjlkaobaa

/-
  What 'Pick' does: a place of n, whatever the number.
-/
namespace Go.Proofs.Ytikhgjnjlkaobaa
open Go.RowKit
set_option maxRecDepth 100000

set_option maxHeartbeats 400000 in
theorem pick_any (x : Int) (n : Nat) (w : World) (h0 : 0 < n) (hn : n ≤ 9223372036854775807) :
    Calls Try.prog 26 #[.int .i64 x, .int .i64 n] w fun e w' => ∃ p : Nat, p < n ∧ e = .returned (.int .i64 p) ∧ w' = w := by
  have h1 := Int.tmod_lt_of_pos x (b := (n : Int)) (by omega)
  have h2 : -(n : Int) < x.tmod n := by
    have := Int.lt_tmod_of_pos x (b := (n : Int)) (by omega)
    omega
  by_cases h : x.tmod n < 0
  · go_enter Try.func26, Try.ntmps26
    go_wp2
    go_ret
    obtain ⟨p, hp⟩ := Int.eq_ofNat_of_zero_le (a := x.tmod n + n) (by omega)
    exact ⟨p, by omega, by rw [← hp]; rfl, rfl⟩
  · go_enter Try.func26, Try.ntmps26
    go_wp2
    go_ret
    obtain ⟨p, hp⟩ := Int.eq_ofNat_of_zero_le (a := x.tmod n) (by omega)
    exact ⟨p, by omega, by rw [← hp]; rfl, rfl⟩

end Go.Proofs.Ytikhgjnjlkaobaa

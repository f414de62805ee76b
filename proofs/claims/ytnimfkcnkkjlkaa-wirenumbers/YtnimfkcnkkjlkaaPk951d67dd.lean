/-
  Texts put into one.
-/
import Derived.Test.YtnimfkcnkkjlkaaRows
import Derived.Test.YtnimfkcnkkjlkaaPk26443d94
import Derived.Test.YtnimfkcnkkjlkaaPk6762e88e

/-
  Slices of bytes: rows written out, heads, what stays; the layout of bytes in the program.
-/
namespace Go.Proofs.Ytnimfkcnkkjlkaa
open Go.RowKit
set_option maxRecDepth 100000

theorem info5 : (Try.prog.info? 5).map (fun i => (i.zero, i.size, i.bytes)) = some (some (.int .u8 0), 1, 1) := by kernel_rfl
theorem size5 : (Try.prog.info? 5).map (·.size) = some 1 := by kernel_rfl

/-- A row of bytes written out, as a slice. -/
theorem Bs.lit (w : World) (l : List Int) (n : Nat) (hn : l.length = n) (h2 : n ≤ 1000) (hb : ∀ z ∈ l, 0 ≤ z ∧ z ≤ 255) : Bs (w.alloc (.cells (U l).toArray 5)) (some ⟨w.heap.size, 0, none⟩) n n l :=
  Bs.own (cur := U l) (heap_alloc_new w _) (by rw [U_length, hn]) hn (Nat.le_refl _) (by omega) hb (by rw [List.take_of_length_le (by rw [U_length, hn]; exact Nat.le_refl _)]; rfl)

theorem Bs.alloc {w : World} {a : Option Addr} {n cap : Nat} {zs : List Int} (h : Bs w a n cap zs) (o : Obj) : Bs (w.alloc o) a n cap zs := h.keep ((Below.refl _ _).alloc (Nat.le_refl _) o)

theorem row_lit (w : World) (g : Nat) (hg : w.heap.size = g) (l : List Int) (n : Nat) (hn : l.length = n) (h2 : n ≤ 1000) (hb : ∀ z ∈ l, 0 ≤ z ∧ z ≤ 255) : Bs (w.alloc (.cells (U l).toArray 5)) (some ⟨g, 0, none⟩) n n l := by
  subst hg
  exact Bs.own (cur := U l) (heap_alloc_new w _) (by rw [U_length, hn]) hn (Nat.le_refl _) (by omega) hb (by rw [List.take_of_length_le (by rw [U_length, hn]; exact Nat.le_refl _)]; rfl)

theorem Bs.head {w : World} {a : Option Addr} {n cap : Nat} {zs : List Int} (hB : Bs w a n cap zs) (m : Nat) (hm : m ≤ n) : Bs w a m cap (zs.take m) := by
  have hl := hB.len
  have hle := hB.le
  refine ⟨by simp; omega, by omega, hB.reach, take_byte hB.byte _, hB.bare, fun h => ?_⟩
  obtain ⟨b, off, ha, hc⟩ := hB.lies (by omega)
  refine ⟨b, off, ha, fun i hi => ?_⟩
  rw [hc i (by omega)]
  simp [List.getD, hi]

theorem str_beq {xs ys : List Int} (hx : ∀ z ∈ xs, 0 ≤ z ∧ z ≤ 255) (hy : ∀ z ∈ ys, 0 ≤ z ∧ z ≤ 255) : ((strOfNums xs).toList == (strOfNums ys).toList) = decide (xs = ys) := by
  have e : ∀ l : List Int, (strOfNums l).toList = l.map (fun n => UInt8.ofNat n.toNat) := fun l => by rw [ByteArray.toList_eq, strOfNums_data]
  rw [e, e, Bool.eq_iff_iff]
  simp only [beq_iff_eq, decide_eq_true_eq]
  exact ⟨strOf_inj hx hy, fun h => by rw [h]⟩

end Go.Proofs.Ytnimfkcnkkjlkaa

/-
  What 'SameBytes' does, for any two slices of bytes.
-/
namespace Go.Proofs.Ytnimfkcnkkjlkaa
open Go.RowKit
set_option maxRecDepth 100000

set_option maxHeartbeats 400000 in
theorem same_any (a c : Option Addr) (n cap m dap : Nat) (xs ys : List Int) (w : World) (hB : Bs w a n cap xs) (hC : Bs w c m dap ys) :
    Calls Try.prog 11 #[.slice a n cap, .slice c m dap] w fun e w' => e = .returned (.bool (decide (xs = ys))) ∧ w' = w := by
  have k1 : (convert 22 9 (.slice a n cap)).run Try.prog w = .ok (.string (strOfNums xs)) w := run_str 22 5 Try.underlying22 Try.underlying5 hB 9 Try.underlying9
  have k2 : (convert 22 9 (.slice c m dap)).run Try.prog w = .ok (.string (strOfNums ys)) w := run_str 22 5 Try.underlying22 Try.underlying5 hC 9 Try.underlying9
  go_enter Try.func11, Try.ntmps11
  go_wp2
  go_ret
  exact ⟨congrArg (fun x => Ending.returned (.bool x)) (str_beq hB.byte hC.byte), rfl⟩

theorem same_true {w : World} {a c : Option Addr} {n cap m dap : Nat} {xs ys : List Int} (h : xs = ys) (h1 : Bs w a n cap xs) (h2 : Bs w c m dap ys) :
    Calls Try.prog 11 #[.slice a n cap, .slice c m dap] w fun e w' => e = .returned (.bool true) ∧ w' = w := by
  subst h
  have h := same_any a c n cap m dap xs xs w h1 h2
  rw [decide_eq_true rfl] at h
  exact h

end Go.Proofs.Ytnimfkcnkkjlkaa

/-
  What 'CopyBytes' does, for any slice of bytes.
-/
namespace Go.Proofs.Ytnimfkcnkkjlkaa
open Go.RowKit
set_option maxRecDepth 100000

set_option maxHeartbeats 400000 in
theorem copy_any (a : Option Addr) (n cap : Nat) (zs : List Int) (w : World) (hB : Bs w a n cap zs) (hn : n ≤ 140737488355328) :
    Calls Try.prog 110 #[.slice a n cap] w fun e w' => ∃ c d, e = .returned (.slice c n d) ∧ w'.ownsRow w.heap.size 5 1 (.slice c n d) n (U zs) ∧ Below w.heap.size w w' := by
  obtain ⟨i0, hi, hz0, hz1, hz2⟩ := info_parts info5
  by_cases h0 : n = 0
  · subst h0
    have hz : zs = [] := List.eq_nil_of_length_eq_zero hB.len
    subst hz
    go_enter Try.func110, Try.ntmps110
    go_wp2_with (at_builtin; refine wpList_append_zero rfl (.tmp 4) (.tmp 5) 22 rfl 5 i0 Try.underlying22 hi rfl _ _ rfl ?_)
    go_ret
    exact ⟨_, _, rfl, World.ownsRow_nil _ _ _ _, Below.refl _ _⟩
  · go_enter Try.func110, Try.ntmps110
    go_wp2_with (at_builtin; refine wpList_append_bs rfl (.tmp 4) (.tmp 5) 22 rfl w.heap.size 5 i0 Try.underlying22 hi hz0 hz1 hz2 (.slice none 0 0) 0 [] rfl (World.ownsRow_nil _ _ _ _) _ _ _ zs rfl hB (by omega) (by omega) (Nat.le_refl _) ?_; intro g c w1 hown hgrow; simp only [Nat.zero_add, List.nil_append] at hown; rw [Nat.zero_add])
    go_ret
    exact ⟨_, _, rfl, hown, (Below.refl _ _).grown hgrow (Nat.le_refl _) (fun k hk => by cases hk)⟩

end Go.Proofs.Ytnimfkcnkkjlkaa

/-
  The program's reader: what is left of the bytes, unless it went wrong; its first methods.
-/
import Derived.Test.YtnimfkcnkkjlkaaPk9bf0f6a5
import Derived.Test.YtnimfkcnkkjlkaaPk74617d44
import Derived.BigRegion
import Derived.BigQuiet
namespace Go.Proofs.Ytnimfkcnkkjlkaa
open Go.RowKit
set_option maxRecDepth 100000

/-- The reader at R, which is new behind Wb: s is what is left of the bytes, or none. -/
structure Rs (Wb : World) (R B O n cap : Nat) (zs : List Int) (s : Option (List Int)) (w : World) : Prop where
  low : Below Wb.heap.size Wb w
  ge : Wb.heap.size ≤ R
  is : ∃ k : Nat, k ≤ n ∧ w.heap[R]? = some (.cells #[.slice (some ⟨B, O, none⟩) n cap, .int .i64 (k : Int), .bool s.isNone] (107 : TypeId) (0, 0)) ∧ ∀ l, s = some l → l = zs.drop k

section
variable {Wb w w' : World} {R B O n cap : Nat} {zs : List Int} {s : Option (List Int)}

theorem Rs.keep (h : Rs Wb R B O n cap zs s w) (hb : Below w.heap.size w w') : Rs Wb R B O n cap zs s w' := by
  obtain ⟨k, h1, h2, h3⟩ := h.is
  exact ⟨h.low.trans (hb.mono h.low.size), h.ge, k, h1, (hb.block _ (hp_lt h2)).trans h2, h3⟩
theorem Rs.drew (h : Rs Wb R B O n cap zs s w) : Rs Wb R B O n cap zs s w.drew := h.keep (Below.refl _ _).drew
theorem Rs.alloc (h : Rs Wb R B O n cap zs s w) (o : Obj) : Rs Wb R B O n cap zs s (w.alloc o) := h.keep ((Below.refl _ w).alloc (Nat.le_refl _) o)

/-- The reader with its place. -/
structure Rp (Wb : World) (R B O n cap k : Nat) (b : Bool) (w : World) : Prop where
  low : Below Wb.heap.size Wb w
  ge : Wb.heap.size ≤ R
  le : k ≤ n
  box : w.heap[R]? = some (.cells #[.slice (some ⟨B, O, none⟩) n cap, .int .i64 (k : Int), .bool b] (107 : TypeId) (0, 0))

variable {k : Nat} {b : Bool}

theorem Rp.keep (h : Rp Wb R B O n cap k b w) (hb : Below w.heap.size w w') : Rp Wb R B O n cap k b w' := ⟨h.low.trans (hb.mono h.low.size), h.ge, h.le, (hb.block _ (hp_lt h.box)).trans h.box⟩
theorem Rp.c0 (h : Rp Wb R B O n cap k b w) : w.cell? ⟨R, 0, none⟩ = some (.slice (some ⟨B, O, none⟩) n cap) := by rw [cell_of_row w R 0 _ _ (0, 0) h.box]; rfl
theorem Rp.c1 (h : Rp Wb R B O n cap k b w) : w.cell? ⟨R, 1, none⟩ = some (.int .i64 (k : Int)) := by rw [cell_of_row w R 1 _ _ (0, 0) h.box]; rfl
theorem Rp.c2 (h : Rp Wb R B O n cap k b w) : w.cell? ⟨R, 2, none⟩ = some (.bool b) := by rw [cell_of_row w R 2 _ _ (0, 0) h.box]; rfl
theorem Rp.f1 (h : Rp Wb R B O n cap k b w) : w.frozen? ⟨R, 1, none⟩ = false := frozen_of_row w R 1 _ _ h.box
theorem Rp.f2 (h : Rp Wb R B O n cap k b w) : w.frozen? ⟨R, 2, none⟩ = false := frozen_of_row w R 2 _ _ h.box
theorem Rp.mark (h : Rp Wb R B O n cap k b w) (b' : Bool) : Rp Wb R B O n cap k b' (w.setCell ⟨R, 2, none⟩ (.bool b')) := by
  refine ⟨h.low.setCell h.ge _, h.ge, h.le, ?_⟩
  rw [heap_setCell_same w R 2 _ _ _ h.box]
  rfl
theorem Rp.move (h : Rp Wb R B O n cap k b w) (k' : Nat) (hk : k' ≤ n) : Rp Wb R B O n cap k' b (w.setCell ⟨R, 1, none⟩ (.int .i64 (k' : Int))) := by
  refine ⟨h.low.setCell h.ge _, h.ge, hk, ?_⟩
  rw [heap_setCell_same w R 1 _ _ _ h.box]
  rfl
theorem Rp.rs (h : Rp Wb R B O n cap k b w) (hb : s.isNone = b) (hs : ∀ l, s = some l → l = zs.drop k) : Rs Wb R B O n cap zs s w := ⟨h.low, h.ge, k, h.le, by rw [hb]; exact h.box, hs⟩
theorem Rs.rp (h : Rs Wb R B O n cap zs s w) : ∃ k, Rp Wb R B O n cap k s.isNone w ∧ ∀ l, s = some l → l = zs.drop k := by
  obtain ⟨k, h1, h2, h3⟩ := h.is
  exact ⟨k, ⟨h.low, h.ge, h1, h2⟩, h3⟩
theorem Rp.kt (h : Rp Wb R B O n cap k b w) (i : Nat) (x : Value) : Kt (107 : TypeId) w (w.setCell ⟨R, i, none⟩ x) := Kt.set h.box x

theorem gv_drop (zs : List Int) (k : Nat) : gv zs (k : Int) = getv (zs.drop k) := by
  unfold gv
  by_cases h : (k : Int) < 0 ∨ (zs.length : Int) ≤ k
  · rw [if_pos h, List.drop_eq_nil_of_le (by omega)]
    rfl
  · rw [if_neg h, Int.toNat_natCast]

theorem getv_fits {l : List Int} (hb : ∀ z ∈ l, 0 ≤ z ∧ z ≤ 255) {v : Nat} (h : getv l = some v) : (vb v).length ≤ l.length ∧ v < 18446744073709551616 := by
  obtain ⟨h1, h2⟩ := (getv_iff hb v).1 h
  exact ⟨h2.length_le, h1⟩

/-- What a number's reading finds at a place: it, and where it ends. -/
theorem get_at (hB : Bs Wb (some ⟨B, O, none⟩) n cap zs) (k : Nat) (W : World) (hW : Below Wb.heap.size Wb W) :
    Calls Try.prog 104 #[.slice (some ⟨B, O, none⟩) n cap, .int .i64 (k : Int)] W fun e w' => (match getv (zs.drop k) with
      | some v => e = .returned (.tuple #[.int .u64 (v : Int), .int .i64 ((k + (vb v).length : Nat) : Int), .bool true])
      | none => e = .returned (.tuple #[.int .u64 0, .int .i64 0, .bool false])) ∧ Below W.heap.size W w' := by
  have C := get_val (some ⟨B, O, none⟩) n cap zs k W (hB.keep hW)
  unfold gN gE gB at C
  rw [gv_drop] at C
  refine C.mono ?_
  rintro e w' ⟨rfl, hb⟩
  refine ⟨?_, hb⟩
  cases getv (zs.drop k) with
  | none => rfl
  | some v => simp

end
end Go.Proofs.Ytnimfkcnkkjlkaa

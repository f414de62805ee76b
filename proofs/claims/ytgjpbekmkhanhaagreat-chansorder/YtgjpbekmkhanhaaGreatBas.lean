/-
  Slices of bytes: rows written out, heads, what stays; the layout of bytes in the program.
-/
import Derived.Test.YtgjpbekmkhanhaaGreatRows
import Derived.Test.YtgjpbekmkhanhaaGreatKit
import Derived.Test.YtgjpbekmkhanhaaGreatApp
namespace Go.Proofs.YtgjpbekmkhanhaaGreat
open Go.RowKit
set_option maxRecDepth 100000

theorem info5 : (Tryz.prog.info? 5).map (fun i => (i.zero, i.size, i.bytes)) = some (some (.int .u8 0), 1, 1) := by kernel_rfl
theorem size5 : (Tryz.prog.info? 5).map (·.size) = some 1 := by kernel_rfl

/-- A row of bytes written out, as a slice. -/
theorem Bs.lit (w : World) (l : List Int) (n : Nat) (hn : l.length = n) (h2 : n ≤ 1000) (hb : ∀ z ∈ l, 0 ≤ z ∧ z ≤ 255) : Bs (w.alloc (.cells (U l).toArray 5)) (some ⟨w.heap.size, 0, none⟩) n n l :=
  Bs.own (cur := U l) (heap_alloc_new w _) (by rw [U_length, hn]) hn (Nat.le_refl _) (by omega) hb (by rw [List.take_of_length_le (by rw [U_length, hn]; exact Nat.le_refl _)]; rfl)

theorem Bs.alloc {w : World} {a : Option Addr} {n cap : Nat} {zs : List Int} (h : Bs w a n cap zs) (o : Obj) : Bs (w.alloc o) a n cap zs := h.keep ((Below.refl _ _).alloc (Nat.le_refl _) o)

theorem row_lit (w : World) (g : Nat) (hg : w.heap.size = g) (l : List Int) (n : Nat) (hn : l.length = n) (h2 : n ≤ 1000) (hb : ∀ z ∈ l, 0 ≤ z ∧ z ≤ 255) : Bs (w.alloc (.cells (U l).toArray 5)) (some ⟨g, 0, none⟩) n n l := by
  subst hg
  exact Bs.own (cur := U l) (heap_alloc_new w _) (by rw [U_length, hn]) hn (Nat.le_refl _) (by omega) hb (by rw [List.take_of_length_le (by rw [U_length, hn]; exact Nat.le_refl _)]; rfl)

theorem Bs.head {w : World} {a : Option Addr} {n cap : Nat} {zs : List Int} (hB : Bs w a n cap zs) (m : Nat) (hm : m ≤ n) : Bs w a m cap (zs.take m) := by
  have hl := hB.len
  have hle := hB.le
  refine ⟨by simp; omega, by omega, hB.reach, take_byte hB.byte _, hB.bare, fun h => ?_⟩
  obtain ⟨b, off, ha, hc⟩ := hB.lies (by omega)
  refine ⟨b, off, ha, fun i hi => ?_⟩
  rw [hc i (by omega)]
  simp [List.getD, hi]

theorem str_beq {xs ys : List Int} (hx : ∀ z ∈ xs, 0 ≤ z ∧ z ≤ 255) (hy : ∀ z ∈ ys, 0 ≤ z ∧ z ≤ 255) : ((strOfNums xs).toList == (strOfNums ys).toList) = decide (xs = ys) := by
  have e : ∀ l : List Int, (strOfNums l).toList = l.map (fun n => UInt8.ofNat n.toNat) := fun l => by rw [ByteArray.toList_eq, strOfNums_data]
  rw [e, e, Bool.eq_iff_iff]
  simp only [beq_iff_eq, decide_eq_true_eq]
  exact ⟨strOf_inj hx hy, fun h => by rw [h]⟩

end Go.Proofs.YtgjpbekmkhanhaaGreat

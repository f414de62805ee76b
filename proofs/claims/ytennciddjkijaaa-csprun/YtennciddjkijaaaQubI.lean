/-
  A queue of int: a new ring is laid, Of, List, At.
-/
import Derived.Test.YtennciddjkijaaaQuaI
namespace Go.Proofs.Ytennciddjkijaaa.QI
open Go.RowKit
set_option maxRecDepth 100000

theorem infoE : (Try.prog.info? 3).map (fun i => (i.zero, i.size, i.bytes)) = some (some ((Value.int .i64) 0), 1, 8) := by kernel_rfl
theorem sizeE : (Try.prog.info? 3).map (·.size) = some 1 := by kernel_rfl

/-- Things as cells. -/
def W (xs : List Int) : List Value := xs.map (Value.int .i64)
theorem W_length (xs : List Int) : (W xs).length = xs.length := by simp [W]
theorem W_one (xs : List Int) : ∀ v ∈ W xs, v.oneCell' = true := by
  intro v hv
  obtain ⟨x, _, rfl⟩ := List.mem_map.1 hv
  rfl
theorem W_append (xs ys : List Int) : W (xs ++ ys) = W xs ++ W ys := by simp [W]

/-- A list of things as it can be read. -/
structure Ls (w : World) (a : Option Addr) (n cap : Nat) (xs : List Int) : Prop where
  len : xs.length = n
  le : n ≤ cap
  reach : cap ≤ 9223372036854775807
  lies : 0 < n → ∃ b off, a = some ⟨b, off, none⟩ ∧ ∀ i, i < n → w.cell? ⟨b, off + i, none⟩ = some ((Value.int .i64) (xs.getD i 0))

section
variable {w w' : World} {a : Option Addr} {n cap : Nat} {xs : List Int} {S : Nat → Prop}
theorem Ls.keep (h : Ls w a n cap xs) (hb : Below w.heap.size w w') : Ls w' a n cap xs := by
  refine ⟨h.len, h.le, h.reach, fun hn => ?_⟩
  obtain ⟨b, off, ha, hc⟩ := h.lies hn
  refine ⟨b, off, ha, fun i hi => ?_⟩
  have h1 := hc i hi
  rw [hb.cell (cell_lt h1)]
  exact h1
theorem Ls.tb (h : Ls w a n cap xs) (hb : Tb S w w') (hs : ∀ ad, a = some ad → ¬ S ad.block) : Ls w' a n cap xs := by
  refine ⟨h.len, h.le, h.reach, fun hn => ?_⟩
  obtain ⟨b, off, ha, hc⟩ := h.lies hn
  exact ⟨b, off, ha, fun i hi => hb.cell (hc i hi) (fun h' => hs _ ha h')⟩
theorem Ls.src (h : Ls w a n cap xs) (hp : 0 < n) : ∃ ad, a = some ad ∧ ∀ j v, (W xs)[j]? = some v → w.cell? (ad.add j) = some v := by
  obtain ⟨b, off, rfl, hc⟩ := h.lies hp
  refine ⟨_, rfl, fun j v hj => ?_⟩
  have hjl : j < xs.length := by
    rcases Nat.lt_or_ge j xs.length with h | h
    · exact h
    · simp [W, List.getElem?_eq_none h] at hj
  rw [Addr.add_lit, hc j (by rw [← h.len]; exact hjl)]
  simp [W, List.getElem?_eq_getElem hjl] at hj
  simp [← hj, List.getD, List.getElem?_eq_getElem hjl]
theorem own_ls {base : Nat} {e : TypeId} (h : w.ownsRow base e 1 (.slice a n cap) n (W xs)) : Ls w a n cap xs := by
  have hl : xs.length = n := by have := h.1; rw [W_length] at this; omega
  have h0 := h
  rcases h.2 with ⟨h1, h0⟩ | ⟨g, cap', cur, h1, _, hh, hc, hm, hs, ht⟩
  · simp only [Value.slice.injEq] at h1
    obtain ⟨rfl, rfl, rfl⟩ := h1
    exact ⟨hl, Nat.le_refl _, by omega, fun h => by omega⟩
  · simp only [Value.slice.injEq] at h1
    obtain ⟨rfl, _, rfl⟩ := h1
    unfold maxLen at hm
    refine ⟨hl, hc, by omega, fun _ => ⟨g, 0, rfl, fun i hi => ?_⟩⟩
    have hj : (W xs)[i]? = some ((Value.int .i64) (xs.getD i 0)) := by simp [W, List.getD, List.getElem?_eq_getElem (by omega : i < xs.length)]
    have c1 := h0.cells (g := g) rfl _ _ hj
    rwa [Addr.add_lit] at c1
end

/-- A new ring as it is behind the copy. -/
theorem new_ring (xs : List Int) : splice (madeCells #[(Value.int .i64) 0] (2 * xs.length + 1)).toList 0 (W xs) = (xs ++ List.replicate (xs.length + 1) 0).map (Value.int .i64) := by
  rw [toList_madeCells_one]
  simp only [splice, W, List.take_zero, List.nil_append, List.length_map, List.drop_replicate, List.map_append, List.map_replicate]
  congr 2
  omega

set_option maxHeartbeats 1000000 in
theorem lay_any {w : World} {R : Nat} {a : Option Addr} {n cap : Nat} {xs : List Int} {v1 v2 v3 : Value} (hR : w.heap[R]? = some (.cells #[.pointer (some ⟨R, 0, none⟩), v1, v2, v3] (97 : TypeId) (0, 0))) (hA : Ls w a n cap xs) (hab : ∀ ad, a = some ad → ad.block ≠ R) (hn : n < Mx) :
    Calls Try.prog 76 #[.pointer (some ⟨R, 0, none⟩), .slice a n cap] w fun e w' => e = .returned (.tuple #[]) ∧ Qu w' R w.heap.size (2 * n + 1) 0 xs ∧ Tb (fun k => k = R) w w' := by
  obtain ⟨i0, hi, hz0, hz1, hz2⟩ := info_parts infoE
  have hn' := hn
  unfold Mx at hn'
  obtain ⟨N, hN⟩ : ∃ N, Hid (N = 2 * n + 1) := ⟨_, hide rfl⟩
  have hNi : Hid (2 * (n : Int) + 1 = (N : Int)) := hide (by rw [hN.out]; omega)
  have hNb : Hid (i0.bytes * N ≤ 281474976710656 ∧ N ≤ 9223372036854775807) := hide (by rw [hN.out, hz2]; omega)
  obtain ⟨row, hrow⟩ : ∃ row : Obj, Hid (row = .cells (madeCells #[(Value.int .i64) 0] N) 3) := ⟨_, hide rfl⟩
  obtain ⟨X, hX⟩ : ∃ X, Hid (X = w.alloc row) := ⟨_, hide rfl⟩
  have hRl := heap_lt hR
  have hXs : X.heap.size = w.heap.size + 1 := by rw [hX.out]; simp
  have hXR : X.heap[R]? = some (.cells #[.pointer (some ⟨R, 0, none⟩), v1, v2, v3] (97 : TypeId) (0, 0)) := by rw [hX.out, Below.heap_alloc _ _ _ hRl]; exact hR
  have hXG : X.heap[w.heap.size]? = some row := by rw [hX.out]; exact heap_alloc_new w row
  obtain ⟨Y, hY⟩ : ∃ Y, Hid (Y = (X.setCell ⟨R, 1, none⟩ (.slice (some ⟨w.heap.size, 0, none⟩) N N)).setCell ⟨R, 2, none⟩ (.int .i64 0)) := ⟨_, hide rfl⟩
  have hY1 : (X.setCell ⟨R, 1, none⟩ (.slice (some ⟨w.heap.size, 0, none⟩) N N)).heap[R]? = some (.cells #[.pointer (some ⟨R, 0, none⟩), .slice (some ⟨w.heap.size, 0, none⟩) N N, v2, v3] (97 : TypeId) (0, 0)) := by
    rw [heap_setCell_same X R 1 _ (97 : TypeId) _ hXR]
    rfl
  have hYR : Y.heap[R]? = some (.cells #[.pointer (some ⟨R, 0, none⟩), .slice (some ⟨w.heap.size, 0, none⟩) N N, .int .i64 0, v3] (97 : TypeId) (0, 0)) := by
    rw [hY.out, heap_setCell_same _ R 2 _ (97 : TypeId) _ hY1]
    rfl
  have hYG : Y.heap[w.heap.size]? = some (.cells (madeCells #[(Value.int .i64) 0] N).toList.toArray 3 (0, 0)) := by
    rw [hY.out, Below.heap_setCell _ _ _ _ (by simp; omega), Below.heap_setCell _ _ _ _ (by simp; omega), hXG, hrow.out]
  have tX : Tb (fun k => k = R) w X := by rw [hX.out]; exact (Tb.refl _ w).alloc row
  have tY : Tb (fun k => k = R) w Y := by rw [hY.out]; exact (tX.trans (Tb.set (S := fun k => k = R) R 1 _ rfl) (fun _ _ h => h)).trans (Tb.set (S := fun k => k = R) R 2 _ rfl) (fun _ _ h => h)
  have hAY := hA.tb tY (fun ad h e => hab ad h e)
  have x1 : X.cell? ⟨R, 1, none⟩ = some v1 := cell_of_row X R 1 _ _ _ hXR
  have f1 := frozen_of_row X R 1 _ _ hXR
  have x2 : (X.setCell ⟨R, 1, none⟩ (.slice (some ⟨w.heap.size, 0, none⟩) N N)).cell? ⟨R, 2, none⟩ = some v2 := cell_of_row _ R 2 _ _ _ hY1
  have f2 := frozen_of_row _ R 2 _ _ hY1
  have y1 : Y.cell? ⟨R, 1, none⟩ = some (.slice (some ⟨w.heap.size, 0, none⟩) N N) := cell_of_row Y R 1 _ _ _ hYR
  have HYR := hide hYR
  have HYG := hide hYG
  have HA := hide hAY
  have HT := hide tY
  have hlen := hA.len
  have hle := hA.le
  have hre := hA.reach
  have HL := hide hlen
  have HWL : Hid ((W xs).length = n) := hide (by rw [W_length]; exact hlen)
  have hRl' := hide hRl
  clear hXR hXG hR hY1 hYR hYG tX tY hAY hab hA hlen hXs hRl hn
  go_enter Try.func76, Try.ntmps76
  go_wp2_with (first
    | (refine wpList_make_row _ rfl _ _ 34 rfl 3 i0 ((Value.int .i64) 0) Try.underlying34 hi hz0 hz1 rfl .i64 .i64 N (congrArg (Value.int IntKind.i64) hNi.out) (congrArg (Value.int IntKind.i64) hNi.out) hNb.out.1 hNb.out.2 ?_; rw [← hrow.out, ← hX.out])
    | (rw [← hY.out]; refine wpList_copy_splice rfl (.tmp 19) (.tmp 20) 34 34 rfl 3 Try.underlying34 sizeE _ _ _ _ _ _ rfl rfl w.heap.size 0 _ 3 HYG.out (W xs) (by rw [HWL.out]; exact (Nat.min_eq_left (by have := hN.out; omega)).symm) (fun hp => ⟨rfl, HA.out.src (by rw [HWL.out] at hp; exact hp)⟩) (by rw [HWL.out, toList_madeCells_one, List.length_replicate]; have := hN.out; omega) (W_one xs) w.heap.size Y (Below.refl _ _) (Nat.le_refl _) ?_; intro Z hZG hZb; rw [HWL.out]; have hZR := (hZb.block R hRl'.out).trans HYR.out; have z3 := cell_of_row Z R 3 _ _ _ hZR; have fz := frozen_of_row Z R 3 _ _ hZR; simp only [List.getElem?_toArray, List.getElem?_cons_succ, List.getElem?_cons_zero] at z3; have HZR := hide hZR; clear hZR))
  go_end0
  have hne : R ≠ w.heap.size := by have := hRl'.out; omega
  refine ⟨rfl, ⟨?_, ⟨xs ++ List.replicate (xs.length + 1) 0, ?_, ?_⟩, ?_, ?_⟩, ?_⟩
  · rw [heap_setCell_same Z R 3 _ (97 : TypeId) _ HZR.out, HL.out, ← hN.out]
    rfl
  · rw [Below.heap_setCell _ _ _ _ (by simpa using hne.symm), hZG.out, hN.out, ← HL.out, new_ring]
  · rw [← HL.out]
    exact Rg.new xs 0
  · unfold Mx
    omega
  · rw [HL.out]
    unfold Mx
    omega
  · have t2 : Tb (fun k => k = R) w Z := HT.out.trans (T := fun k => w.heap.size ≤ k) ⟨hZb.os, hZb.tape, hZb.output, hZb.size, fun i _ hs => hZb.block i (by omega)⟩ (fun i hi h => by omega)
    exact t2.trans (Tb.set (S := fun k => k = R) R 3 _ rfl) (fun _ _ h => h)

end Go.Proofs.Ytennciddjkijaaa.QI

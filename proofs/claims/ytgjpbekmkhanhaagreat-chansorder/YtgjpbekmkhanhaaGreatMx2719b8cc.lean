/-
  Texts put into one.
-/
import Derived.Test.YtgjpbekmkhanhaaGreatQuaW
import Derived.Test.YtgjpbekmkhanhaaGreatQfw
import Derived.Deep.RegionLaw
import Derived.Deep.RegionHeld3
import Derived.Great.BuildSlice

/-
  A queue of waiters: lists as they are read, a new ring is laid.
-/
namespace Go.Proofs.YtgjpbekmkhanhaaGreat.QW
open Go.RowKit
set_option maxRecDepth 100000

theorem infoE : (Tryz.prog.info? (141 : TypeId)).map (fun i => (i.zero, i.size, i.bytes)) = some (some (.agg #[.pointer none, .int .i64 0, .nilFunc]), 3, 24) := by kernel_rfl
theorem sizeE : (Tryz.prog.info? (141 : TypeId)).map (·.size) = some 3 := by kernel_rfl
theorem info_parts3 {e : TypeId} {z : Value} {b s : Nat} (h : (Tryz.prog.info? e).map (fun i => (i.zero, i.size, i.bytes)) = some (some z, s, b)) : ∃ i, Tryz.prog.info? e = some i ∧ i.zero = some z ∧ i.size = s ∧ i.bytes = b := by
  obtain ⟨i, h1, h2⟩ := Option.map_eq_some_iff.1 h
  simp only [Prod.mk.injEq] at h2
  exact ⟨i, h1, h2.1, h2.2.1, h2.2.2⟩

/-- Things as cells. -/
def W (xs : List Wv) : List Value := xs.flatMap wc
theorem W_length (xs : List Wv) : (W xs).length = xs.length * 3 := wc_length xs
theorem W_one (xs : List Wv) : ∀ v ∈ W xs, v.oneCell' = true := by
  intro v hv
  obtain ⟨x, _, hx⟩ := List.mem_flatMap.1 hv
  simp only [wc, List.mem_cons, List.not_mem_nil, or_false] at hx
  rcases hx with rfl | rfl | rfl
  · rfl
  · rfl
  · exact x.one
theorem W_append (xs ys : List Wv) : W (xs ++ ys) = W xs ++ W ys := by simp [W]

/-- A list of things as it can be read. -/
structure Ls (w : World) (a : Option Addr) (n cap : Nat) (xs : List Wv) : Prop where
  len : xs.length = n
  le : n ≤ cap
  reach : cap ≤ 9223372036854775807
  lies : 0 < n → ∃ b off, a = some ⟨b, off, none⟩ ∧ ∀ i x, xs[i]? = some x → ∀ j v, (wc x)[j]? = some v → w.cell? ⟨b, off + (i * 3 + j), none⟩ = some v

theorem wc_split (xs : List Wv) {j : Nat} {v : Value} (hj : (W xs)[j]? = some v) : ∃ i x r, j = i * 3 + r ∧ xs[i]? = some x ∧ (wc x)[r]? = some v := by
  have hl := (List.getElem?_eq_some_iff.1 hj).1
  rw [W_length] at hl
  have hi : j / 3 < xs.length := by omega
  have hx : xs[j / 3]? = some xs[j / 3] := List.getElem?_eq_getElem hi
  refine ⟨j / 3, _, j % 3, by omega, hx, ?_⟩
  have := wc_get xs hx (j % 3) (by omega)
  rw [show j / 3 * 3 + j % 3 = j by omega] at this
  rw [← this]
  exact hj

section
variable {w w' : World} {a : Option Addr} {n cap : Nat} {xs : List Wv} {S : Nat → Prop}
theorem Ls.keep (h : Ls w a n cap xs) (hb : Below w.heap.size w w') : Ls w' a n cap xs := by
  refine ⟨h.len, h.le, h.reach, fun hn => ?_⟩
  obtain ⟨b, off, ha, hc⟩ := h.lies hn
  refine ⟨b, off, ha, fun i x hi j v hv => ?_⟩
  have h1 := hc i x hi j v hv
  rw [hb.cell (cell_lt h1)]
  exact h1
theorem Ls.tb (h : Ls w a n cap xs) (hb : Tb S w w') (hs : ∀ ad, a = some ad → ¬ S ad.block) : Ls w' a n cap xs := by
  refine ⟨h.len, h.le, h.reach, fun hn => ?_⟩
  obtain ⟨b, off, ha, hc⟩ := h.lies hn
  exact ⟨b, off, ha, fun i x hi j v hv => hb.cell (hc i x hi j v hv) (fun h' => hs _ ha h')⟩
theorem Ls.src (h : Ls w a n cap xs) (hp : 0 < n) : ∃ ad, a = some ad ∧ ∀ j v, (W xs)[j]? = some v → w.cell? (ad.add j) = some v := by
  obtain ⟨b, off, rfl, hc⟩ := h.lies hp
  refine ⟨_, rfl, fun j v hj => ?_⟩
  obtain ⟨i, x, r, rfl, hx, hr⟩ := wc_split xs hj
  rw [Addr.add_lit]
  exact hc i x hx r v hr
theorem own_ls {base : Nat} {e : TypeId} (h : w.ownsRow base e 3 (.slice a n cap) n (W xs)) : Ls w a n cap xs := by
  have hl : xs.length = n := by have := h.1; rw [W_length] at this; omega
  have h0 := h
  rcases h.2 with ⟨h1, h2⟩ | ⟨g, cap', cur, h1, _, hh, hc, hm, hs, ht⟩
  · simp only [Value.slice.injEq] at h1
    obtain ⟨rfl, rfl, rfl⟩ := h1
    exact ⟨hl, Nat.le_refl _, by omega, fun h => by omega⟩
  · simp only [Value.slice.injEq] at h1
    obtain ⟨rfl, _, rfl⟩ := h1
    unfold maxLen at hm
    refine ⟨hl, hc, by omega, fun _ => ⟨g, 0, rfl, fun i x hi j v hv => ?_⟩⟩
    have hj3 : j < 3 := (List.getElem?_eq_some_iff.1 hv).1
    have hj : (W xs)[i * 3 + j]? = some v := (wc_get xs hi j hj3).trans hv
    have c1 := h0.cells (g := g) rfl _ _ hj
    rwa [Addr.add_lit] at c1
end

/-- A new ring as it is behind the copy. -/
theorem new_ring (xs : List Wv) : splice (madeCells #[.pointer none, .int .i64 0, .nilFunc] ((2 * xs.length + 1) * 3)).toList 0 (W xs) = (xs ++ List.replicate (xs.length + 1) wz).flatMap wc := by
  rw [toList_madeCells_three]
  have e : (List.replicate (2 * xs.length + 1) [Value.pointer none, .int .i64 0, .nilFunc]).flatten = (List.replicate xs.length [Value.pointer none, .int .i64 0, .nilFunc]).flatten ++ (List.replicate (xs.length + 1) [Value.pointer none, .int .i64 0, .nilFunc]).flatten := by
    rw [← List.flatten_append, List.replicate_append_replicate]
    congr 2
    omega
  have hl : (W xs).length = ((List.replicate xs.length [Value.pointer none, .int .i64 0, .nilFunc]).flatten).length := by
    rw [W_length]
    simp
  simp only [splice, List.take_zero, List.nil_append, Nat.zero_add]
  rw [e, hl, List.drop_left, List.flatMap_append]
  congr 1
  rw [List.flatMap_replicate]
  rfl

set_option maxHeartbeats 1000000 in
theorem lay_any {w : World} {R : Nat} {a : Option Addr} {n cap : Nat} {xs : List Wv} {v1 v2 v3 : Value} (hR : w.heap[R]? = some (.cells #[.pointer (some ⟨R, 0, none⟩), v1, v2, v3] (187 : TypeId) (0, 0))) (hA : Ls w a n cap xs) (hab : ∀ ad, a = some ad → ad.block ≠ R) (hn : n < Mx) :
    Calls Tryz.prog 152 #[.pointer (some ⟨R, 0, none⟩), .slice a n cap] w fun e w' => e = .returned (.tuple #[]) ∧ Qu w' R w.heap.size (2 * n + 1) 0 xs ∧ Tb (fun k => k = R) w w' := by
  obtain ⟨i0, hi, hz0, hz1, hz2⟩ := info_parts3 infoE
  have hn' := hn
  unfold Mx at hn'
  obtain ⟨N, hN⟩ : ∃ N, Hid (N = 2 * n + 1) := ⟨_, hide rfl⟩
  have hNi : Hid (2 * (n : Int) + 1 = (N : Int)) := hide (by rw [hN.out]; omega)
  have hNb : Hid (i0.bytes * N ≤ 281474976710656 ∧ N ≤ 9223372036854775807) := hide (by rw [hN.out, hz2]; omega)
  obtain ⟨row, hrow⟩ : ∃ row : Obj, Hid (row = .cells (madeCells #[.pointer none, .int .i64 0, .nilFunc] (N * 3)) (141 : TypeId)) := ⟨_, hide rfl⟩
  obtain ⟨X, hX⟩ : ∃ X, Hid (X = w.alloc row) := ⟨_, hide rfl⟩
  have hRl := heap_lt hR
  have hXs : X.heap.size = w.heap.size + 1 := by rw [hX.out]; simp
  have hXR : X.heap[R]? = some (.cells #[.pointer (some ⟨R, 0, none⟩), v1, v2, v3] (187 : TypeId) (0, 0)) := by rw [hX.out, Below.heap_alloc _ _ _ hRl]; exact hR
  have hXG : X.heap[w.heap.size]? = some row := by rw [hX.out]; exact heap_alloc_new w row
  obtain ⟨Y, hY⟩ : ∃ Y, Hid (Y = (X.setCell ⟨R, 1, none⟩ (.slice (some ⟨w.heap.size, 0, none⟩) N N)).setCell ⟨R, 2, none⟩ (.int .i64 0)) := ⟨_, hide rfl⟩
  have hY1 : (X.setCell ⟨R, 1, none⟩ (.slice (some ⟨w.heap.size, 0, none⟩) N N)).heap[R]? = some (.cells #[.pointer (some ⟨R, 0, none⟩), .slice (some ⟨w.heap.size, 0, none⟩) N N, v2, v3] (187 : TypeId) (0, 0)) := by
    rw [heap_setCell_same X R 1 _ (187 : TypeId) _ hXR]
    rfl
  have hYR : Y.heap[R]? = some (.cells #[.pointer (some ⟨R, 0, none⟩), .slice (some ⟨w.heap.size, 0, none⟩) N N, .int .i64 0, v3] (187 : TypeId) (0, 0)) := by
    rw [hY.out, heap_setCell_same _ R 2 _ (187 : TypeId) _ hY1]
    rfl
  have hYG : Y.heap[w.heap.size]? = some (.cells (madeCells #[.pointer none, .int .i64 0, .nilFunc] (N * 3)).toList.toArray (141 : TypeId) (0, 0)) := by
    rw [hY.out, Below.heap_setCell _ _ _ _ (by simp; omega), Below.heap_setCell _ _ _ _ (by simp; omega), hXG, hrow.out]
  have tX : Tb (fun k => k = R) w X := by rw [hX.out]; exact (Tb.refl _ w).alloc row
  have tY : Tb (fun k => k = R) w Y := by rw [hY.out]; exact (tX.trans (Tb.set (S := fun k => k = R) R 1 _ rfl) (fun _ _ h => h)).trans (Tb.set (S := fun k => k = R) R 2 _ rfl) (fun _ _ h => h)
  have hAY := hA.tb tY (fun ad h e => hab ad h e)
  have x1 : X.cell? ⟨R, 1, none⟩ = some v1 := cell_of_row X R 1 _ _ _ hXR
  have f1 := frozen_of_row X R 1 _ _ hXR
  have x2 : (X.setCell ⟨R, 1, none⟩ (.slice (some ⟨w.heap.size, 0, none⟩) N N)).cell? ⟨R, 2, none⟩ = some v2 := cell_of_row _ R 2 _ _ _ hY1
  have f2 := frozen_of_row _ R 2 _ _ hY1
  have y1 : Y.cell? ⟨R, 1, none⟩ = some (.slice (some ⟨w.heap.size, 0, none⟩) N N) := cell_of_row Y R 1 _ _ _ hYR
  have HYR := hide hYR
  have HYG := hide hYG
  have HA := hide hAY
  have HT := hide tY
  have hlen := hA.len
  have hle := hA.le
  have hre := hA.reach
  have HL := hide hlen
  have HWL : Hid ((W xs).length = n * 3) := hide (by rw [W_length, hlen])
  have HMN : Hid (Nat.min n N = n) := hide (Nat.min_eq_left (by have := hN.out; omega))
  have hRl' := hide hRl
  clear hXR hXG hR hY1 hYR hYG tX tY hAY hab hA hlen hXs hRl hn
  go_enter Tryz.func152, Tryz.ntmps152
  go_wp2_with (first
    | (refine wpList_make_rows _ rfl _ _ 138 rfl (141 : TypeId) i0 (.agg #[.pointer none, .int .i64 0, .nilFunc]) 3 Tryz.underlying138 hi hz0 #[.pointer none, .int .i64 0, .nilFunc] (by rfl) hz1 .i64 .i64 N (congrArg (Value.int IntKind.i64) hNi.out) (congrArg (Value.int IntKind.i64) hNi.out) hNb.out.1 hNb.out.2 ?_; rw [← hrow.out, ← hX.out])
    | (rw [← hY.out]; refine wpList_copy_rows rfl (.tmp 19) (.tmp 20) 138 138 rfl (141 : TypeId) 3 (by omega) Tryz.underlying138 sizeE _ _ _ _ _ _ rfl rfl w.heap.size 0 _ (141 : TypeId) HYG.out (W xs) (by rw [HWL.out, HMN.out]) (fun hp => ⟨rfl, HA.out.src (by rw [HWL.out] at hp; omega)⟩) (by rw [HWL.out, Array.length_toList, size_madeCells]; have := hN.out; omega) (W_one xs) w.heap.size Y (Below.refl _ _) (Nat.le_refl _) ?_; intro Z hZG hZb; rw [HMN.out]; have hZR := (hZb.block R hRl'.out).trans HYR.out; have z3 := cell_of_row Z R 3 _ _ _ hZR; have fz := frozen_of_row Z R 3 _ _ hZR; simp only [List.getElem?_toArray, List.getElem?_cons_succ, List.getElem?_cons_zero] at z3; have HZR := hide hZR; clear hZR))
  go_end0
  have hne : R ≠ w.heap.size := by have := hRl'.out; omega
  refine ⟨rfl, ⟨?_, ⟨xs ++ List.replicate (xs.length + 1) wz, ?_, ?_⟩, ?_, ?_⟩, ?_⟩
  · rw [heap_setCell_same Z R 3 _ (187 : TypeId) _ HZR.out, HL.out, ← hN.out]
    rfl
  · rw [Below.heap_setCell _ _ _ _ (by simpa using hne.symm), hZG.out, hN.out, ← HL.out, new_ring]
  · rw [← HL.out]
    exact Rg.new xs wz
  · unfold Mx
    omega
  · rw [HL.out]
    unfold Mx
    omega
  · have t2 : Tb (fun k => k = R) w Z := HT.out.trans (T := fun k => w.heap.size ≤ k) ⟨hZb.os, hZb.tape, hZb.output, hZb.size, fun i _ hs => hZb.block i (by omega)⟩ (fun i hi h => by omega)
    exact t2.trans (Tb.set (S := fun k => k = R) R 3 _ rfl) (fun _ _ h => h)

end Go.Proofs.YtgjpbekmkhanhaaGreat.QW

/-
  A queue of waiters: Of, List, At.
-/
namespace Go.Proofs.YtgjpbekmkhanhaaGreat.QW
open Go.RowKit
set_option maxRecDepth 100000

theorem wc_one (x : Wv) : ∀ v ∈ wc x, v.oneCell' = true := by
  intro v hv
  simp only [wc, List.mem_cons, List.not_mem_nil, or_false] at hv
  rcases hv with rfl | rfl | rfl
  · rfl
  · rfl
  · exact x.one
theorem cell_three_new (w : World) (x y z : Value) (t : TypeId) : ∀ j u, [x, y, z][j]? = some u → (w.alloc (.cells #[x, y, z] t)).cell? ((⟨w.heap.size, 0, none⟩ : Addr).add j) = some u := by
  intro j u hj
  rw [Addr.add_mid, cell_of_row _ _ _ _ _ _ (heap_alloc_new w _)]
  simpa using hj

set_option maxHeartbeats 1000000 in
theorem of_any {w : World} {a : Option Addr} {n cap : Nat} {xs : List Wv} (hA : Ls w a n cap xs) (hab : ∀ ad, a = some ad → ad.block < w.heap.size) (hn : n < Mx) :
    Calls Tryz.prog 119 #[.slice a n cap] w fun e w' => e = .returned (.pointer (some ⟨w.heap.size, 0, none⟩)) ∧ Qu w' w.heap.size (w.heap.size + 1) (2 * n + 1) 0 xs ∧ Below w.heap.size w w' := by
  obtain ⟨R, hR⟩ : ∃ R, Hid (R = w.heap.size) := ⟨_, hide rfl⟩
  obtain ⟨X, hX⟩ : ∃ X, Hid (X = w.alloc (.cells #[.pointer none, .slice none 0 0, .int .i64 0, .int .i64 0] (187 : TypeId))) := ⟨_, hide rfl⟩
  have hXR : X.heap[R]? = some (.cells #[.pointer none, .slice none 0 0, .int .i64 0, .int .i64 0] (187 : TypeId) (0, 0)) := by rw [hX.out, hR.out]; exact heap_alloc_new w _
  have x0 : X.cell? ⟨R, 0, none⟩ = some (.pointer none) := cell_of_row X R 0 _ _ _ hXR
  have f0 := frozen_of_row X R 0 _ _ hXR
  obtain ⟨Y, hY⟩ : ∃ Y, Hid (Y = X.setCell ⟨R, 0, none⟩ (.pointer (some ⟨R, 0, none⟩))) := ⟨_, hide rfl⟩
  have hYR : Y.heap[R]? = some (.cells #[.pointer (some ⟨R, 0, none⟩), .slice none 0 0, .int .i64 0, .int .i64 0] (187 : TypeId) (0, 0)) := by
    rw [hY.out, heap_setCell_same X R 0 _ (187 : TypeId) _ hXR]
    rfl
  have bX : Below w.heap.size w X := by rw [hX.out]; exact (Below.refl _ w).alloc (Nat.le_refl _) _
  have bY : Below w.heap.size w Y := by rw [hY.out]; exact bX.setCell (by simp [hR.out]) _
  have sY : Y.heap.size = w.heap.size + 1 := by rw [hY.out, hX.out]; simp [World.setCell]
  have C := lay_any hYR (hA.keep bY) (fun ad h e => by have := hab ad h; have := hR.out; omega) hn
  rw [sY] at C
  have FIN : Hid (∀ Z, Tb (fun k => k = R) Y Z → Below w.heap.size w Z) := hide (fun Z t => bY.trans (t.below (fun i h => by have := hR.out; omega) (by omega)))
  rw [← hR.out]
  have HRW : Hid (w.heap.size = R) := hide hR.out.symm
  have HC : Hid (Calls Tryz.prog 152 #[.pointer (some ⟨R, 0, none⟩), .slice a n cap] Y fun e w' => e = .returned (.tuple #[]) ∧ Qu w' R (R + 1) (2 * n + 1) 0 xs ∧ Tb (fun k => k = R) Y w') := hide (by rw [hR.out] at C ⊢; exact C)
  have HF : Hid (∀ Z, Tb (fun k => k = R) Y Z → Below R w Z) := hide (by rw [hR.out] at FIN ⊢; exact FIN.out)
  clear C FIN bX bY sY hYR hXR hA hab
  go_enter Tryz.func119, Tryz.ntmps119
  go_wp2_with (first | (rw [← hX.out, HRW.out]) | (go_at_call 152; rw [← hY.out]; refine HC.out.mono ?_; rintro e Z ⟨rfl, q, t⟩))
  go_ret
  exact ⟨rfl, q, HF.out Z t⟩

set_option maxHeartbeats 2000000 in
theorem list_yes {w : World} {R G N h : Nat} {xs : List Wv} (q : Qu w R G N h xs) :
    Calls Tryz.prog 136 #[.pointer (some ⟨R, 0, none⟩)] w fun e w' => ∃ a cap, e = .returned (.slice a xs.length cap) ∧ w'.ownsRow w.heap.size (141 : TypeId) 3 (.slice a xs.length cap) xs.length (W xs) ∧ Below w.heap.size w w' := by
  obtain ⟨i0, hi, hz0, hz1, hz2⟩ := info_parts3 infoE
  have C := len_yes q
  have hfew := q.few
  unfold Mx at hfew
  obtain ⟨n, hn⟩ : ∃ n, Hid (n = xs.length) := ⟨_, hide rfl⟩
  rw [← hn.out] at C hfew ⊢
  have HQ := hide q
  clear q
  go_enter Tryz.func136, Tryz.ntmps136
  go_wp2_with fail
  refine C.mono ?_
  rintro e w1 ⟨rfl, hw1⟩
  subst w1
  go_wp2_with fail
  go_loopw [3, 7] (fun v i wr => ∃ k : Nat, k ≤ n ∧ i = .int .i64 k ∧ Hid (wr.ownsRow w.heap.size (141 : TypeId) 3 v k (W (xs.take k))) ∧ Below w.heap.size w wr) (fun _ i _ => n - (intOf i).toNat)
  case atStart => exact ⟨0, Nat.zero_le _, rfl, hide ⟨rfl, .inl ⟨rfl, rfl⟩⟩, Below.refl _ _⟩
  case round =>
    obtain ⟨k, hk, rfl, hown, hb⟩ := hrel
    by_cases hlt : k < n
    · have qr := HQ.out.below hb
      have hhd := qr.head
      have hsm := qr.small
      unfold Mx at hsm
      have hle := qr.le
      rw [← hn.out] at hle
      have hkx : k < xs.length := by rw [← hn.out]; exact hlt
      have hKN : (h + k) % N < N := Nat.mod_lt _ (by omega)
      have c1 : wr.cell? ⟨R, 1, none⟩ = some (.slice (some ⟨G, 0, none⟩) N N) := qr.c 1
      have cg0 := qr.g hkx 0 (by omega)
      have cg1 := qr.g hkx 1 (by omega)
      have cg2 := qr.g hkx 2 (by omega)
      have hsn : Hid (W (xs.take (k + 1)) = W (xs.take k) ++ wc (xs.getD k wz)) := hide (by
        rw [List.take_succ_eq_append_getElem hkx, W_append]
        simp [W, List.getD, List.getElem?_eq_getElem hkx])
      generalize xs.getD k wz = x at cg0 cg1 cg2 hsn
      simp only [wc, Nat.add_zero, List.getElem?_cons_zero, List.getElem?_cons_succ] at cg0 cg1 cg2
      have hcall : ∀ V, Below wr.heap.size wr V → Calls Tryz.prog 159 #[.pointer (some ⟨R, 0, none⟩), .int .i64 k] V fun e X => e = .returned (.int .i64 ((h + k) % N : Nat)) ∧ X.cell? ⟨R, 1, none⟩ = some (.slice (some ⟨G, 0, none⟩) N N) ∧ X.cell? ⟨G, (h + k) % N * 3, none⟩ = some (.pointer x.tk) ∧ X.cell? ⟨G, (h + k) % N * 3 + 1, none⟩ = some (.int .i64 x.val) ∧ X.cell? ⟨G, (h + k) % N * 3 + 2, none⟩ = some x.told ∧
          Hid ((X.alloc (.cells #[.pointer x.tk, .int .i64 x.val, x.told] (141 : TypeId))).ownsRow w.heap.size (141 : TypeId) 3 u3 k (W (xs.take k))) ∧ Hid (Below wr.heap.size wr X) := by
        intro V hV
        refine (spot_any (qr.below hV) k (by omega)).mono ?_
        rintro e X ⟨rfl, m, rfl⟩
        have hX := below_drewN hV m
        exact ⟨rfl, (qr.below hX).c 1, (hX.cell (cell_lt cg0)).trans cg0, (hX.cell (cell_lt cg1)).trans cg1, (hX.cell (cell_lt cg2)).trans cg2, hide ((row_tb hown.out (Tb.of_fresh (S := fun _ => False) hX) (fun _ _ h => h)).alloc _), hide hX⟩
      have FB : Hid (∀ X w6, Below wr.heap.size wr X → (X.alloc (.cells #[.pointer x.tk, .int .i64 x.val, x.told] (141 : TypeId))).grownBy w6 u3.ownBlock → Below w.heap.size w w6) := hide (fun X w6 h1 h2 => by
        have h3 := h1.size
        have h4 := hb.size
        exact ((hb.trans (h1.mono h4)).alloc (by omega) _).grown h2 (by simp; omega) (fun y hy => (hown.out.lt y hy).1))
      have HC := hide hcall
      have hwl := hide hb.size
      have HQr := hide qr
      obtain ⟨K, hK⟩ : ∃ K, Hid (K = (h + k) % N) := ⟨_, hide rfl⟩
      rw [← hK.out] at HC hKN cg0 cg1 cg2
      clear hcall qr hkx
      go_wp2_with fail
      go_region_law (first
        | (refine step_append_lies _ (by rfl) (.tmp 10) (.tmp 20) 138 (by rfl) w.heap.size (141 : TypeId) i0 (.agg #[.pointer none, .int .i64 0, .nilFunc]) 3 24 Tryz.underlying138 hi hz0 hz1 hz2 rfl (by omega) u3 k _ (by simp [Act.eval]) ho5.out ⟨_, 0, none⟩ 1 1 (wc x) (by simp [Act.eval]) rfl (cell_three_new _ _ _ _ _) (wc_one x) (by omega) (by unfold maxLen; omega) (by omega) (by have := hwl.out; have := hb5.out.size; simp; omega) _ rfl ?_; intro g6 d6 w6 hown6 hgrow6 _ _)
        | (go_simp; refine (HC.out _ ?_).mono ?_; exact (Below.refl _ wr).drew; rintro e X ⟨rfl, cc5, cd5, ce5, cf5, ho5, hb5⟩))
      all_goals
        have HO6 := hide hown6
        have HB6 := hide (FB.out X w6 hb5.out hgrow6)
        clear hown6 hgrow6
        go_wp2_with fail
        go_roundw
        case rel => exact ⟨k + 1, by omega, by go_num, hide (by rw [hsn.out]; exact HO6.out), HB6.out⟩
        case measure => simp [intOf]; omega
    · obtain rfl : k = n := by omega
      obtain ⟨va, vc, rfl⟩ := row_val hown.out
      have HO := hide hown.out
      clear hown
      go_wp2_with fail
      go_ret
      rw [List.take_of_length_le (by rw [hn.out]; exact Nat.le_refl _)] at HO
      exact ⟨_, _, rfl, HO.out, hb⟩

/-- What stands at a place. -/
def atV (xs : List Wv) (i : Int) : Wv × Bool := if 0 ≤ i ∧ i < xs.length then (xs.getD i.toNat wz, true) else (wz, false)

/-- A zero thing laid behind the memory. -/
theorem zero_laid (w : World) : ∃ A, Hid (A = w.alloc (.cells #[.pointer none, .int .i64 0, .nilFunc] (141 : TypeId))) ∧ Hid (Below w.heap.size w A) ∧ Hid (A.heap[w.heap.size]? = some (.cells #[.pointer none, .int .i64 0, .nilFunc] (141 : TypeId) (0, 0))) ∧ Hid (A.heap.size = w.heap.size + 1) ∧ A.cell? ⟨w.heap.size, 0, none⟩ = some (.pointer none) ∧ A.cell? ⟨w.heap.size, 1, none⟩ = some (.int .i64 0) ∧ A.cell? ⟨w.heap.size, 2, none⟩ = some .nilFunc := by
  have h := heap_alloc_new w (.cells #[.pointer none, .int .i64 0, .nilFunc] (141 : TypeId))
  exact ⟨_, hide rfl, hide ((Below.refl _ w).alloc (Nat.le_refl _) _), hide h, hide (by simp), cell_of_row _ _ 0 _ _ _ h, cell_of_row _ _ 1 _ _ _ h, cell_of_row _ _ 2 _ _ _ h⟩

theorem results_cell_tmp {P : Program} {fn : Func} {p q : Tmp} {ty : TypeId} (h : fn.results = #[.cell p ty, .tmp q]) (tmps : Array Value) (w : World) (g : Nat) (t : TypeId) (cs : Array Value) (fr : Nat × Nat) (d : TypeDesc) (x : Value)
    (hp : tmps.getD p undef = .pointer (some ⟨g, 0, none⟩)) (hq : tmps.getD q undef = x) (hg : w.heap[g]? = some (.cells cs t fr))
    (hu : P.underlying ty = some d) (hd : (match d with | .struct _ | .array _ _ => true | _ => false) = true) (hi : (P.info? ty).map (·.size) = some cs.size) :
    (results fn tmps).run P w = .ok (.tuple #[.agg cs, x]) w := by
  have hp' : tmps[p]?.getD undef = .pointer (some ⟨g, 0, none⟩) := by simpa using hp
  have hq' : tmps[q]?.getD undef = x := by simpa using hq
  simp [results, h, hp', hq', asAddr, run_loadVar_row w g t ty cs fr d hg hu hd hi]

theorem step_storeW {ops : Array Oper} {o : Oper} {a : Act} {X : World} {K : Act → World → Prop} {Q : Exit → Act → World → Prop} {E0 : Prop} {x y : Operand} {B : Nat} {cs old : Array Value} (hg : o.guard = none) (hop : o.op = .store (141 : TypeId) x y) (hx : a.eval x = .pointer (some ⟨B, 0, none⟩)) (hy : a.eval y = .agg cs)
    (hB : X.heap[B]? = some (.cells old (141 : TypeId) (0, 0))) (hsz : cs.size = 3) (hold : old.size = 3) (h1 : cs.all (·.oneCell') = true) (hK : K (a.put o.dst undef) (X.setRow B cs)) : if Region.wanted o (yielded ops a.tmps) = true then Oper.wp Tryz.prog o a X K Q else E0 := by
  have hw : Region.wanted o (yielded ops a.tmps) = true := by simp [Region.wanted, hg]
  rw [if_pos hw]
  exact wp_store_row (141 : TypeId) x y hop B cs hx hy (141 : TypeId) old hB (by rw [sizeE, hsz]) (by rw [hold, hsz]) h1 hK

set_option maxHeartbeats 2000000 in
theorem at_any {w : World} {R G N h : Nat} {xs : List Wv} (q : Qu w R G N h xs) (i : Int) :
    Calls Tryz.prog 156 #[.pointer (some ⟨R, 0, none⟩), .int .i64 i] w fun e w' => e = .returned (.tuple #[wv (atV xs i).1, .bool (atV xs i).2]) ∧ Below w.heap.size w w' := by
  obtain ⟨A, hA, bA, rA, sA, _, _, _⟩ := zero_laid w
  obtain ⟨A2, hA2, bA2, _, _, z0, z1, z2⟩ := zero_laid A
  have r2 : A2.heap[w.heap.size]? = some (.cells #[.pointer none, .int .i64 0, .nilFunc] (141 : TypeId) (0, 0)) := (bA2.out.block w.heap.size (by have := sA.out; omega)).trans rA.out
  have hlt : w.heap.size < A.heap.size := by have := sA.out; omega
  have bAA : Below w.heap.size w A2 := bA.out.trans (bA2.out.mono (by omega))
  obtain ⟨B, hB⟩ : ∃ B, Hid (w.heap.size = B) := ⟨_, hide rfl⟩
  have hRB : R < w.heap.size := q.lt
  have hGB : G < w.heap.size := q.glt
  have qA := q.below bA.out
  have C := len_yes qA
  have hsm := q.small
  have hle := q.le
  have hhd := q.head
  unfold Mx at hsm
  have NB : Hid ((A2.setRow B #[.pointer none, .int .i64 0, .nilFunc]).heap[B]? = some (.cells #[.pointer none, .int .i64 0, .nilFunc] (141 : TypeId) (0, 0)) ∧ Below B w (A2.setRow B #[.pointer none, .int .i64 0, .nilFunc])) := hide (by rw [← hB.out]; exact ⟨setRow_heap _ _ _ _ (141 : TypeId) (0, 0) r2, below_setRow bAA (Nat.le_refl _) _⟩)
  rw [hB.out] at r2 hRB hGB hlt ⊢
  obtain ⟨n, hn⟩ : ∃ n, Hid (n = xs.length) := ⟨_, hide rfl⟩
  by_cases h0 : i < 0
  · have e : atV xs i = (wz, false) := if_neg (by omega)
    rw [e]
    clear C e q qA
    go_enter Tryz.func156, Tryz.ntmps156
    go_wp2_with (first | (rw [← hA.out, hB.out]) | (rw [← hA2.out]) | (refine wpList_store_rowTo rfl (141 : TypeId) (.tmp 4) (.tmp 15) rfl rfl B #[.pointer none, .int .i64 0, .nilFunc] (by simp [Act.eval]) (by simp [Act.eval]) (141 : TypeId) _ r2 sizeE rfl (by simp [Value.oneCell']) ?_))
    refine bodyPost_ret (v := .tuple #[wv wz, .bool false]) (results_cell_tmp Tryz.results156 _ _ B (141 : TypeId) _ (0, 0) _ _ rfl rfl NB.out.1 Tryz.underlying141 rfl sizeE) rfl ?_
    exact ⟨rfl, NB.out.2⟩
  · by_cases h1 : i < (xs.length : Int)
    · have e : atV xs i = (xs.getD i.toNat wz, true) := if_pos ⟨by omega, h1⟩
      rw [e]
      obtain ⟨k, rfl⟩ : ∃ k : Nat, i = (k : Int) := ⟨i.toNat, by omega⟩
      have hk : k < xs.length := by omega
      have hKN : (h + k) % N < N := Nat.mod_lt _ (by omega)
      have SS : ∀ {X : World}, Qu X R G N h xs → X.cell? ⟨R, 1, none⟩ = some (.slice (some ⟨G, 0, none⟩) N N) ∧ X.cell? ⟨G, (h + k) % N * 3, none⟩ = some (.pointer (xs.getD k wz).tk) ∧ X.cell? ⟨G, (h + k) % N * 3 + 1, none⟩ = some (.int .i64 (xs.getD k wz).val) ∧ X.cell? ⟨G, (h + k) % N * 3 + 2, none⟩ = some (xs.getD k wz).told :=
        fun {X} qX => ⟨qX.c 1, qX.g hk 0 (by omega), qX.g hk 1 (by omega), qX.g hk 2 (by omega)⟩
      have SA := SS qA
      have RAB : Hid (A.heap[B]? = some (.cells #[.pointer none, .int .i64 0, .nilFunc] (141 : TypeId) (0, 0))) := hide (by rw [← hB.out]; exact rA.out)
      have HC : Hid (∀ V, Below A.heap.size A V → Calls Tryz.prog 159 #[.pointer (some ⟨R, 0, none⟩), .int .i64 k] V fun e X => e = .returned (.int .i64 ((h + k) % N : Nat)) ∧ Below A.heap.size A X ∧ (X.cell? ⟨R, 1, none⟩ = some (.slice (some ⟨G, 0, none⟩) N N) ∧ X.cell? ⟨G, (h + k) % N * 3, none⟩ = some (.pointer (xs.getD k wz).tk) ∧ X.cell? ⟨G, (h + k) % N * 3 + 1, none⟩ = some (.int .i64 (xs.getD k wz).val) ∧ X.cell? ⟨G, (h + k) % N * 3 + 2, none⟩ = some (xs.getD k wz).told) ∧ X.cell? ⟨B, 0, none⟩ = some (.pointer none) ∧ X.cell? ⟨B, 1, none⟩ = some (.int .i64 0) ∧ X.cell? ⟨B, 2, none⟩ = some .nilFunc ∧ X.frozen? ⟨B, 0, none⟩ = false ∧ X.frozen? ⟨B, 1, none⟩ = false ∧ X.frozen? ⟨B, 2, none⟩ = false) := hide (fun V hV => by
        refine (spot_any (qA.below hV) k (by omega)).mono ?_
        rintro e X ⟨rfl, m, rfl⟩
        have hb := below_drewN hV m
        have hr := (hb.block B hlt).trans (RAB.out)
        exact ⟨rfl, hb, SS (qA.below hb), cell_of_row _ _ 0 _ _ _ hr, cell_of_row _ _ 1 _ _ _ hr, cell_of_row _ _ 2 _ _ _ hr, frozen_of_row _ _ 0 _ _ hr, frozen_of_row _ _ 1 _ _ hr, frozen_of_row _ _ 2 _ _ hr⟩)
      have KS : Hid (∀ X, Below A.heap.size A X → (((X.setCell ⟨B, 0, none⟩ (.pointer (xs.getD k wz).tk)).setCell ⟨B, 1, none⟩ (.int .i64 (xs.getD k wz).val)).setCell ⟨B, 2, none⟩ (xs.getD k wz).told).cell? ⟨R, 1, none⟩ = some (.slice (some ⟨G, 0, none⟩) N N) ∧ (((X.setCell ⟨B, 0, none⟩ (.pointer (xs.getD k wz).tk)).setCell ⟨B, 1, none⟩ (.int .i64 (xs.getD k wz).val)).setCell ⟨B, 2, none⟩ (xs.getD k wz).told).cell? ⟨G, (h + k) % N * 3, none⟩ = some (.pointer (xs.getD k wz).tk) ∧ (((X.setCell ⟨B, 0, none⟩ (.pointer (xs.getD k wz).tk)).setCell ⟨B, 1, none⟩ (.int .i64 (xs.getD k wz).val)).setCell ⟨B, 2, none⟩ (xs.getD k wz).told).cell? ⟨G, (h + k) % N * 3 + 1, none⟩ = some (.int .i64 (xs.getD k wz).val) ∧ (((X.setCell ⟨B, 0, none⟩ (.pointer (xs.getD k wz).tk)).setCell ⟨B, 1, none⟩ (.int .i64 (xs.getD k wz).val)).setCell ⟨B, 2, none⟩ (xs.getD k wz).told).cell? ⟨G, (h + k) % N * 3 + 2, none⟩ = some (xs.getD k wz).told) := hide (fun X hX => SS ((qA.below hX).heap (st3_other (k := 0) X (xs.getD k wz) (by omega)) (st3_other (k := 0) X (xs.getD k wz) (by omega))))
      have FIN : Hid (∀ X, Below A.heap.size A X → (((X.setCell ⟨B, 0, none⟩ (.pointer (xs.getD k wz).tk)).setCell ⟨B, 1, none⟩ (.int .i64 (xs.getD k wz).val)).setCell ⟨B, 2, none⟩ (xs.getD k wz).told).heap[B]? = some (.cells #[.pointer (xs.getD k wz).tk, .int .i64 (xs.getD k wz).val, (xs.getD k wz).told] (141 : TypeId) (0, 0)) ∧ Below B w (((X.setCell ⟨B, 0, none⟩ (.pointer (xs.getD k wz).tk)).setCell ⟨B, 1, none⟩ (.int .i64 (xs.getD k wz).val)).setCell ⟨B, 2, none⟩ (xs.getD k wz).told)) := hide (fun X hX => ⟨by
        have := st3_heap (cur := [wz]) (k := 0) (t := (141 : TypeId)) X ((hX.block B hlt).trans RAB.out) (by simp) (xs.getD k wz)
        simpa [st3, wc] using this, by
        have hbx : Below B w X := by
          have := bA.out.trans (hX.mono (by have := hB.out; omega))
          rwa [hB.out] at this
        exact ((hbx.setCell (Nat.le_refl _) _).setCell (Nat.le_refl _) _).setCell (Nat.le_refl _) _⟩)
      simp only [Int.toNat_natCast]
      have HST : ∀ (W : World) (a : Addr) (m : Mode), (store a (xs.getD k wz).told m).run Tryz.prog W = stored Tryz.prog W a (xs.getD k wz).told m := fun W a m => run_store Tryz.prog W a _ m (xs.getD k wz).one
      clear SS
      generalize xs.getD k wz = x at *
      obtain ⟨K, hK⟩ : ∃ K, Hid (K = (h + k) % N) := ⟨_, hide rfl⟩
      rw [← hK.out] at HC hKN KS SA
      rw [← hn.out] at C h1 hk hle
      obtain ⟨c1, d0, d1, d2⟩ := SA
      clear q qA e z0 z1 z2
      go_enter Tryz.func156, Tryz.ntmps156
      go_wp2_with (rw [← hA.out, hB.out])
      refine C.mono ?_
      rintro e w1 ⟨rfl, hw1⟩
      subst w1
      go_wp2_with fail
      go_region_held3 (fun V => V.cell? ⟨R, 1, none⟩ = some (.slice (some ⟨G, 0, none⟩) N N) ∧ V.cell? ⟨G, K * 3, none⟩ = some (.pointer x.tk) ∧ V.cell? ⟨G, K * 3 + 1, none⟩ = some (.int .i64 x.val) ∧ V.cell? ⟨G, K * 3 + 2, none⟩ = some x.told)
        (first | exact ⟨c1, d0, d1, d2⟩ | exact e1 | exact KS.out X hX)
        (first
          | (go_at_call 159; refine (HC.out _ ?_).mono ?_; (first | exact (Below.refl _ _).drew | assumption); rintro e X ⟨rfl, hX, e1, b0, b1, b2, f0, f1, f2⟩))
      all_goals
        go_wp2_with fail
        refine bodyPost_ret (v := .tuple #[wv x, .bool true]) (results_cell_tmp Tryz.results156 _ _ B (141 : TypeId) _ (0, 0) _ _ rfl rfl (FIN.out X hX).1 Tryz.underlying141 rfl sizeE) rfl ?_
        exact ⟨rfl, (FIN.out X hX).2⟩
    · have e : atV xs i = (wz, false) := if_neg (by omega)
      rw [e]
      rw [← hn.out] at C h1 hle
      clear q qA e
      go_enter Tryz.func156, Tryz.ntmps156
      go_wp2_with (rw [← hA.out, hB.out])
      refine C.mono ?_
      rintro e w1 ⟨rfl, hw1⟩
      subst w1
      go_wp2_with (first | (rw [← hA2.out]) | (refine wpList_store_rowTo rfl (141 : TypeId) (.tmp 4) (.tmp 15) rfl rfl B #[.pointer none, .int .i64 0, .nilFunc] (by simp [Act.eval]) (by simp [Act.eval]) (141 : TypeId) _ r2 sizeE rfl (by simp [Value.oneCell']) ?_))
      refine bodyPost_ret (v := .tuple #[wv wz, .bool false]) (results_cell_tmp Tryz.results156 _ _ B (141 : TypeId) _ (0, 0) _ _ rfl rfl NB.out.1 Tryz.underlying141 rfl sizeE) rfl ?_
      exact ⟨rfl, NB.out.2⟩

theorem list_none {w : World} {p : Option Addr} (C : Calls Tryz.prog 160 #[.pointer p] w fun e w' => e = .returned (.bool false) ∧ w' = w) :
    Calls Tryz.prog 136 #[.pointer p] w fun e w' => e = .returned (.slice none 0 0) ∧ w' = w := by
  have CL := len_none C
  clear C
  go_enter Tryz.func136, Tryz.ntmps136
  go_wp2_with fail
  refine CL.mono ?_
  rintro e w1 ⟨rfl, hw1⟩
  subst w1
  go_wp2_with fail
  go_loopw [3, 7] (fun v i wr => v = .slice none 0 0 ∧ i = .int .i64 0 ∧ wr = w) (fun _ _ _ => 0)
  case atStart => exact ⟨rfl, rfl, rfl⟩
  case round =>
    obtain ⟨rfl, rfl, rfl⟩ := hrel
    go_wp2_with fail
    go_ret
    exact ⟨rfl, rfl⟩

end Go.Proofs.YtgjpbekmkhanhaaGreat.QW

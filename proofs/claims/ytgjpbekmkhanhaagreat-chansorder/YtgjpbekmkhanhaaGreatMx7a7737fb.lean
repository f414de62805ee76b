/-
  Texts put into one.
-/
import Derived.Test.YtgjpbekmkhanhaaGreatQfr
import Derived.LaidEql
import Derived.Deep.AppendLies
import Derived.Deep.RegionLaw

/-
  A queue of int in memory: whether it was made, its places, its length, a new ring, its list.
-/
namespace Go.Proofs.YtgjpbekmkhanhaaGreat.QI
open Go.RowKit
set_option maxRecDepth 100000

/-- As many things as any list of this kind can have. -/
def Mx : Nat := 17592186044416

def qcs (R G N h n : Nat) : Array Value := #[.pointer (some ⟨R, 0, none⟩), .slice (some ⟨G, 0, none⟩) N N, .int .i64 h, .int .i64 n]

/-- A queue: its own block R, its ring G of N places, the line's head at place h. -/
structure Qu (w : World) (R G N h : Nat) (xs : List Int) : Prop where
  obj : w.heap[R]? = some (.cells (qcs R G N h xs.length) (161 : TypeId) (0, 0))
  ring : ∃ cur, w.heap[G]? = some (.cells (cur.map (Value.int .i64)).toArray 3 (0, 0)) ∧ Rg cur N h xs
  small : N ≤ 2 * Mx
  few : xs.length < Mx

section
variable {w w' : World} {R G N h : Nat} {xs : List Int} {S : Nat → Prop}
theorem Qu.lt (q : Qu w R G N h xs) : R < w.heap.size := heap_lt q.obj
theorem Qu.glt (q : Qu w R G N h xs) : G < w.heap.size := by
  obtain ⟨cur, hc, _⟩ := q.ring
  exact heap_lt hc
theorem Qu.ne (q : Qu w R G N h xs) : R ≠ G := by
  obtain ⟨cur, hc, _⟩ := q.ring
  intro e
  have := q.obj
  rw [e, hc] at this
  simp only [Option.some.injEq, Obj.cells.injEq] at this
  exact absurd this.2.1 (by decide)
theorem Qu.head (q : Qu w R G N h xs) : h < N := by
  obtain ⟨cur, _, r⟩ := q.ring
  exact r.head
theorem Qu.le (q : Qu w R G N h xs) : xs.length ≤ N := by
  obtain ⟨cur, _, r⟩ := q.ring
  exact r.few
theorem Qu.heap (q : Qu w R G N h xs) (h1 : w'.heap[R]? = w.heap[R]?) (h2 : w'.heap[G]? = w.heap[G]?) : Qu w' R G N h xs := by
  obtain ⟨cur, hc, r⟩ := q.ring
  exact ⟨h1.trans q.obj, ⟨cur, h2.trans hc, r⟩, q.small, q.few⟩
theorem Qu.tb (q : Qu w R G N h xs) (hb : Tb S w w') (h1 : ¬ S R) (h2 : ¬ S G) : Qu w' R G N h xs := q.heap (hb.block R q.lt h1) (hb.block G q.glt h2)
theorem Qu.below (q : Qu w R G N h xs) (hb : Below w.heap.size w w') : Qu w' R G N h xs := q.heap (hb.block R q.lt) (hb.block G q.glt)
theorem Qu.drewN (q : Qu w R G N h xs) (m : Nat) : Qu (w.drewN m) R G N h xs := q.below (below_drewN (Below.refl _ w) m)
theorem Qu.free (q : Qu w R G N h xs) (i : Nat) : w.frozen? ⟨R, i, none⟩ = false := frozen_of_row w R i _ (161 : TypeId) q.obj
theorem Qu.gfree (q : Qu w R G N h xs) (i : Nat) : w.frozen? ⟨G, i, none⟩ = false := by
  obtain ⟨cur, hc, _⟩ := q.ring
  exact frozen_of_row w G i _ 3 hc
theorem Qu.c (q : Qu w R G N h xs) (i : Nat) : w.cell? ⟨R, i, none⟩ = (qcs R G N h xs.length)[i]? := cell_of_row w R i _ (161 : TypeId) (0, 0) q.obj
theorem Qu.g (q : Qu w R G N h xs) {i : Nat} (hi : i < xs.length) : w.cell? ⟨G, (h + i) % N, none⟩ = some ((Value.int .i64) (xs.getD i 0)) := by
  obtain ⟨cur, hc, r⟩ := q.ring
  rw [cell_of_row w G _ _ 3 (0, 0) hc]
  simp [r.get hi 0]
theorem Qu.gany (q : Qu w R G N h xs) (i : Nat) : ∃ x, w.cell? ⟨G, (h + i) % N, none⟩ = some ((Value.int .i64) x) := by
  obtain ⟨cur, hc, r⟩ := q.ring
  have hs := r.spot i
  rw [← r.len] at hs
  refine ⟨cur[(h + i) % N]'(by rw [r.len] at hs ⊢; exact hs), ?_⟩
  rw [cell_of_row w G _ _ 3 (0, 0) hc]
  rw [r.len] at hs
  simp [List.getElem?_eq_getElem (show (h + i) % N < cur.length by rw [r.len]; exact hs)]

/-- A thing laid at a place of the line. -/
theorem Qu.set (q : Qu w R G N h xs) {j : Nat} (hj : j < xs.length) (x : Int) : Qu (w.setCell ⟨G, (h + j) % N, none⟩ ((Value.int .i64) x)) R G N h (xs.set j x) := by
  obtain ⟨cur, hc, r⟩ := q.ring
  have hne := q.ne
  refine ⟨?_, ⟨cur.set ((h + j) % N) x, ?_, r.set hj x⟩, q.small, by simpa using q.few⟩
  · rw [Below.heap_setCell w _ _ R (by simpa using hne), List.length_set]
    exact q.obj
  · rw [heap_setCell_same w G _ _ 3 _ hc]
    simp [List.map_set]
end

theorem infoQ : ∃ j, Tryz.prog.info? (161 : TypeId) = some j := by
  have h : (Tryz.prog.info? (161 : TypeId)).isSome = true := by kernel_rfl
  exact Option.isSome_iff_exists.1 h

theorem made_yes {w : World} {R G N h : Nat} {xs : List Int} (q : Qu w R G N h xs) :
    Calls Tryz.prog 139 #[.pointer (some ⟨R, 0, none⟩)] w fun e w' => e = .returned (.bool true) ∧ w' = w := by
  have c0 : w.cell? ⟨R, 0, none⟩ = some (.pointer (some ⟨R, 0, none⟩)) := q.c 0
  clear q
  obtain ⟨j, hj⟩ := infoQ
  have he := eql_self (P := Tryz.prog) (w := w) (tp := (63 : TypeId)) (te := (161 : TypeId)) ⟨R, 0, none⟩ Tryz.underlying63 hj
  go_enter Tryz.func139, Tryz.ntmps139
  go_wp2_with fail
  go_ret
  exact ⟨rfl, rfl⟩

theorem made_nil (w : World) : Calls Tryz.prog 139 #[.pointer none] w fun e w' => e = .returned (.bool false) ∧ w' = w := by
  go_enter Tryz.func139, Tryz.ntmps139
  go_wp2_with fail
  go_ret
  exact ⟨rfl, rfl⟩

theorem made_zero {w : World} {R : Nat} (c0 : w.cell? ⟨R, 0, none⟩ = some (.pointer none)) : Calls Tryz.prog 139 #[.pointer (some ⟨R, 0, none⟩)] w fun e w' => e = .returned (.bool false) ∧ w' = w := by
  have he := eql_nil (P := Tryz.prog) (w := w) (tp := (63 : TypeId)) (te := (161 : TypeId)) ⟨R, 0, none⟩ Tryz.underlying63
  go_enter Tryz.func139, Tryz.ntmps139
  go_wp2_with fail
  go_ret
  exact ⟨rfl, rfl⟩

theorem spot_any {w : World} {R G N h : Nat} {xs : List Int} (q : Qu w R G N h xs) (i : Nat) (hi : i ≤ N) :
    Calls Tryz.prog 151 #[.pointer (some ⟨R, 0, none⟩), .int .i64 i] w fun e w' => e = .returned (.int .i64 ((h + i) % N : Nat)) ∧ ∃ m, w' = w.drewN m := by
  have c1 : w.cell? ⟨R, 1, none⟩ = some (.slice (some ⟨G, 0, none⟩) N N) := q.c 1
  have c2 : w.cell? ⟨R, 2, none⟩ = some (.int .i64 h) := q.c 2
  have hh := q.head
  have hs := q.small
  unfold Mx at hs
  have ht : ((h : Int) + (i : Int)).tmod (N : Int) = (((h + i) % N : Nat) : Int) := by
    rw [Int.tmod_eq_emod_of_nonneg (by omega)]
    simp
  have h0 : ((N : Int) == 0) = false := by simp; omega
  obtain ⟨K, hK⟩ : ∃ K, Hid (K = (h + i) % N) := ⟨_, hide rfl⟩
  rw [← hK.out] at ht ⊢
  have hl : K < N := by rw [hK.out]; exact Nat.mod_lt _ (by omega)
  clear q
  go_enter Tryz.func151, Tryz.ntmps151
  go_wp2_with fail
  go_quiet (fail)
  go_wp2_with fail
  go_ret
  exact ⟨rfl, _, rfl⟩

theorem len_yes {w : World} {R G N h : Nat} {xs : List Int} (q : Qu w R G N h xs) :
    Calls Tryz.prog 83 #[.pointer (some ⟨R, 0, none⟩)] w fun e w' => e = .returned (.int .i64 xs.length) ∧ w' = w := by
  have c3 : w.cell? ⟨R, 3, none⟩ = some (.int .i64 xs.length) := q.c 3
  have C := made_yes q
  clear q
  go_enter Tryz.func83, Tryz.ntmps83
  go_wp2_with fail
  refine C.mono ?_
  rintro e w1 ⟨rfl, rfl⟩
  go_wp2_with fail
  go_ret
  exact ⟨rfl, rfl⟩

theorem len_none {w : World} {p : Option Addr} (C : Calls Tryz.prog 139 #[.pointer p] w fun e w' => e = .returned (.bool false) ∧ w' = w) :
    Calls Tryz.prog 83 #[.pointer p] w fun e w' => e = .returned (.int .i64 0) ∧ w' = w := by
  go_enter Tryz.func83, Tryz.ntmps83
  go_wp2_with fail
  refine C.mono ?_
  rintro e w1 ⟨rfl, rfl⟩
  go_wp2_with fail
  go_ret
  exact ⟨rfl, rfl⟩

end Go.Proofs.YtgjpbekmkhanhaaGreat.QI

/-
  A queue of int: a new ring is laid, Of, List, At.
-/
namespace Go.Proofs.YtgjpbekmkhanhaaGreat.QI
open Go.RowKit
set_option maxRecDepth 100000

theorem infoE : (Tryz.prog.info? 3).map (fun i => (i.zero, i.size, i.bytes)) = some (some ((Value.int .i64) 0), 1, 8) := by kernel_rfl
theorem sizeE : (Tryz.prog.info? 3).map (·.size) = some 1 := by kernel_rfl

/-- Things as cells. -/
def W (xs : List Int) : List Value := xs.map (Value.int .i64)
theorem W_length (xs : List Int) : (W xs).length = xs.length := by simp [W]
theorem W_one (xs : List Int) : ∀ v ∈ W xs, v.oneCell' = true := by
  intro v hv
  obtain ⟨x, _, rfl⟩ := List.mem_map.1 hv
  rfl
theorem W_append (xs ys : List Int) : W (xs ++ ys) = W xs ++ W ys := by simp [W]

/-- A list of things as it can be read. -/
structure Ls (w : World) (a : Option Addr) (n cap : Nat) (xs : List Int) : Prop where
  len : xs.length = n
  le : n ≤ cap
  reach : cap ≤ 9223372036854775807
  lies : 0 < n → ∃ b off, a = some ⟨b, off, none⟩ ∧ ∀ i, i < n → w.cell? ⟨b, off + i, none⟩ = some ((Value.int .i64) (xs.getD i 0))

section
variable {w w' : World} {a : Option Addr} {n cap : Nat} {xs : List Int} {S : Nat → Prop}
theorem Ls.keep (h : Ls w a n cap xs) (hb : Below w.heap.size w w') : Ls w' a n cap xs := by
  refine ⟨h.len, h.le, h.reach, fun hn => ?_⟩
  obtain ⟨b, off, ha, hc⟩ := h.lies hn
  refine ⟨b, off, ha, fun i hi => ?_⟩
  have h1 := hc i hi
  rw [hb.cell (cell_lt h1)]
  exact h1
theorem Ls.tb (h : Ls w a n cap xs) (hb : Tb S w w') (hs : ∀ ad, a = some ad → ¬ S ad.block) : Ls w' a n cap xs := by
  refine ⟨h.len, h.le, h.reach, fun hn => ?_⟩
  obtain ⟨b, off, ha, hc⟩ := h.lies hn
  exact ⟨b, off, ha, fun i hi => hb.cell (hc i hi) (fun h' => hs _ ha h')⟩
theorem Ls.src (h : Ls w a n cap xs) (hp : 0 < n) : ∃ ad, a = some ad ∧ ∀ j v, (W xs)[j]? = some v → w.cell? (ad.add j) = some v := by
  obtain ⟨b, off, rfl, hc⟩ := h.lies hp
  refine ⟨_, rfl, fun j v hj => ?_⟩
  have hjl : j < xs.length := by
    rcases Nat.lt_or_ge j xs.length with h | h
    · exact h
    · simp [W, List.getElem?_eq_none h] at hj
  rw [Addr.add_lit, hc j (by rw [← h.len]; exact hjl)]
  simp [W, List.getElem?_eq_getElem hjl] at hj
  simp [← hj, List.getD, List.getElem?_eq_getElem hjl]
theorem own_ls {base : Nat} {e : TypeId} (h : w.ownsRow base e 1 (.slice a n cap) n (W xs)) : Ls w a n cap xs := by
  have hl : xs.length = n := by have := h.1; rw [W_length] at this; omega
  have h0 := h
  rcases h.2 with ⟨h1, h0⟩ | ⟨g, cap', cur, h1, _, hh, hc, hm, hs, ht⟩
  · simp only [Value.slice.injEq] at h1
    obtain ⟨rfl, rfl, rfl⟩ := h1
    exact ⟨hl, Nat.le_refl _, by omega, fun h => by omega⟩
  · simp only [Value.slice.injEq] at h1
    obtain ⟨rfl, _, rfl⟩ := h1
    unfold maxLen at hm
    refine ⟨hl, hc, by omega, fun _ => ⟨g, 0, rfl, fun i hi => ?_⟩⟩
    have hj : (W xs)[i]? = some ((Value.int .i64) (xs.getD i 0)) := by simp [W, List.getD, List.getElem?_eq_getElem (by omega : i < xs.length)]
    have c1 := h0.cells (g := g) rfl _ _ hj
    rwa [Addr.add_lit] at c1
end

/-- A new ring as it is behind the copy. -/
theorem new_ring (xs : List Int) : splice (madeCells #[(Value.int .i64) 0] (2 * xs.length + 1)).toList 0 (W xs) = (xs ++ List.replicate (xs.length + 1) 0).map (Value.int .i64) := by
  rw [toList_madeCells_one]
  simp only [splice, W, List.take_zero, List.nil_append, List.length_map, List.drop_replicate, List.map_append, List.map_replicate]
  congr 2
  omega

set_option maxHeartbeats 1000000 in
theorem lay_any {w : World} {R : Nat} {a : Option Addr} {n cap : Nat} {xs : List Int} {v1 v2 v3 : Value} (hR : w.heap[R]? = some (.cells #[.pointer (some ⟨R, 0, none⟩), v1, v2, v3] (161 : TypeId) (0, 0))) (hA : Ls w a n cap xs) (hab : ∀ ad, a = some ad → ad.block ≠ R) (hn : n < Mx) :
    Calls Tryz.prog 118 #[.pointer (some ⟨R, 0, none⟩), .slice a n cap] w fun e w' => e = .returned (.tuple #[]) ∧ Qu w' R w.heap.size (2 * n + 1) 0 xs ∧ Tb (fun k => k = R) w w' := by
  obtain ⟨i0, hi, hz0, hz1, hz2⟩ := info_parts infoE
  have hn' := hn
  unfold Mx at hn'
  obtain ⟨N, hN⟩ : ∃ N, Hid (N = 2 * n + 1) := ⟨_, hide rfl⟩
  have hNi : Hid (2 * (n : Int) + 1 = (N : Int)) := hide (by rw [hN.out]; omega)
  have hNb : Hid (i0.bytes * N ≤ 281474976710656 ∧ N ≤ 9223372036854775807) := hide (by rw [hN.out, hz2]; omega)
  obtain ⟨row, hrow⟩ : ∃ row : Obj, Hid (row = .cells (madeCells #[(Value.int .i64) 0] N) 3) := ⟨_, hide rfl⟩
  obtain ⟨X, hX⟩ : ∃ X, Hid (X = w.alloc row) := ⟨_, hide rfl⟩
  have hRl := heap_lt hR
  have hXs : X.heap.size = w.heap.size + 1 := by rw [hX.out]; simp
  have hXR : X.heap[R]? = some (.cells #[.pointer (some ⟨R, 0, none⟩), v1, v2, v3] (161 : TypeId) (0, 0)) := by rw [hX.out, Below.heap_alloc _ _ _ hRl]; exact hR
  have hXG : X.heap[w.heap.size]? = some row := by rw [hX.out]; exact heap_alloc_new w row
  obtain ⟨Y, hY⟩ : ∃ Y, Hid (Y = (X.setCell ⟨R, 1, none⟩ (.slice (some ⟨w.heap.size, 0, none⟩) N N)).setCell ⟨R, 2, none⟩ (.int .i64 0)) := ⟨_, hide rfl⟩
  have hY1 : (X.setCell ⟨R, 1, none⟩ (.slice (some ⟨w.heap.size, 0, none⟩) N N)).heap[R]? = some (.cells #[.pointer (some ⟨R, 0, none⟩), .slice (some ⟨w.heap.size, 0, none⟩) N N, v2, v3] (161 : TypeId) (0, 0)) := by
    rw [heap_setCell_same X R 1 _ (161 : TypeId) _ hXR]
    rfl
  have hYR : Y.heap[R]? = some (.cells #[.pointer (some ⟨R, 0, none⟩), .slice (some ⟨w.heap.size, 0, none⟩) N N, .int .i64 0, v3] (161 : TypeId) (0, 0)) := by
    rw [hY.out, heap_setCell_same _ R 2 _ (161 : TypeId) _ hY1]
    rfl
  have hYG : Y.heap[w.heap.size]? = some (.cells (madeCells #[(Value.int .i64) 0] N).toList.toArray 3 (0, 0)) := by
    rw [hY.out, Below.heap_setCell _ _ _ _ (by simp; omega), Below.heap_setCell _ _ _ _ (by simp; omega), hXG, hrow.out]
  have tX : Tb (fun k => k = R) w X := by rw [hX.out]; exact (Tb.refl _ w).alloc row
  have tY : Tb (fun k => k = R) w Y := by rw [hY.out]; exact (tX.trans (Tb.set (S := fun k => k = R) R 1 _ rfl) (fun _ _ h => h)).trans (Tb.set (S := fun k => k = R) R 2 _ rfl) (fun _ _ h => h)
  have hAY := hA.tb tY (fun ad h e => hab ad h e)
  have x1 : X.cell? ⟨R, 1, none⟩ = some v1 := cell_of_row X R 1 _ _ _ hXR
  have f1 := frozen_of_row X R 1 _ _ hXR
  have x2 : (X.setCell ⟨R, 1, none⟩ (.slice (some ⟨w.heap.size, 0, none⟩) N N)).cell? ⟨R, 2, none⟩ = some v2 := cell_of_row _ R 2 _ _ _ hY1
  have f2 := frozen_of_row _ R 2 _ _ hY1
  have y1 : Y.cell? ⟨R, 1, none⟩ = some (.slice (some ⟨w.heap.size, 0, none⟩) N N) := cell_of_row Y R 1 _ _ _ hYR
  have HYR := hide hYR
  have HYG := hide hYG
  have HA := hide hAY
  have HT := hide tY
  have hlen := hA.len
  have hle := hA.le
  have hre := hA.reach
  have HL := hide hlen
  have HWL : Hid ((W xs).length = n) := hide (by rw [W_length]; exact hlen)
  have hRl' := hide hRl
  clear hXR hXG hR hY1 hYR hYG tX tY hAY hab hA hlen hXs hRl hn
  go_enter Tryz.func118, Tryz.ntmps118
  go_wp2_with (first
    | (refine wpList_make_row _ rfl _ _ 23 rfl 3 i0 ((Value.int .i64) 0) Tryz.underlying23 hi hz0 hz1 rfl .i64 .i64 N (congrArg (Value.int IntKind.i64) hNi.out) (congrArg (Value.int IntKind.i64) hNi.out) hNb.out.1 hNb.out.2 ?_; rw [← hrow.out, ← hX.out])
    | (rw [← hY.out]; refine wpList_copy_splice rfl (.tmp 19) (.tmp 20) 23 23 rfl 3 Tryz.underlying23 sizeE _ _ _ _ _ _ rfl rfl w.heap.size 0 _ 3 HYG.out (W xs) (by rw [HWL.out]; exact (Nat.min_eq_left (by have := hN.out; omega)).symm) (fun hp => ⟨rfl, HA.out.src (by rw [HWL.out] at hp; exact hp)⟩) (by rw [HWL.out, toList_madeCells_one, List.length_replicate]; have := hN.out; omega) (W_one xs) w.heap.size Y (Below.refl _ _) (Nat.le_refl _) ?_; intro Z hZG hZb; rw [HWL.out]; have hZR := (hZb.block R hRl'.out).trans HYR.out; have z3 := cell_of_row Z R 3 _ _ _ hZR; have fz := frozen_of_row Z R 3 _ _ hZR; simp only [List.getElem?_toArray, List.getElem?_cons_succ, List.getElem?_cons_zero] at z3; have HZR := hide hZR; clear hZR))
  go_end0
  have hne : R ≠ w.heap.size := by have := hRl'.out; omega
  refine ⟨rfl, ⟨?_, ⟨xs ++ List.replicate (xs.length + 1) 0, ?_, ?_⟩, ?_, ?_⟩, ?_⟩
  · rw [heap_setCell_same Z R 3 _ (161 : TypeId) _ HZR.out, HL.out, ← hN.out]
    rfl
  · rw [Below.heap_setCell _ _ _ _ (by simpa using hne.symm), hZG.out, hN.out, ← HL.out, new_ring]
  · rw [← HL.out]
    exact Rg.new xs 0
  · unfold Mx
    omega
  · rw [HL.out]
    unfold Mx
    omega
  · have t2 : Tb (fun k => k = R) w Z := HT.out.trans (T := fun k => w.heap.size ≤ k) ⟨hZb.os, hZb.tape, hZb.output, hZb.size, fun i _ hs => hZb.block i (by omega)⟩ (fun i hi h => by omega)
    exact t2.trans (Tb.set (S := fun k => k = R) R 3 _ rfl) (fun _ _ h => h)

end Go.Proofs.YtgjpbekmkhanhaaGreat.QI

/-
  A queue of int: Of, List, At.
-/
namespace Go.Proofs.YtgjpbekmkhanhaaGreat.QI
open Go.RowKit
set_option maxRecDepth 100000

theorem cell_one_new (w : World) (x : Value) (t : TypeId) : ∀ j u, [x][j]? = some u → (w.alloc (.cells #[x] t)).cell? ((⟨w.heap.size, 0, none⟩ : Addr).add j) = some u := by
  intro j u hj
  rw [Addr.add_mid, cell_of_row _ _ _ _ _ _ (heap_alloc_new w _)]
  simpa using hj

set_option maxHeartbeats 1000000 in
theorem of_any {w : World} {a : Option Addr} {n cap : Nat} {xs : List Int} (hA : Ls w a n cap xs) (hab : ∀ ad, a = some ad → ad.block < w.heap.size) (hn : n < Mx) :
    Calls Tryz.prog 65 #[.slice a n cap] w fun e w' => e = .returned (.pointer (some ⟨w.heap.size, 0, none⟩)) ∧ Qu w' w.heap.size (w.heap.size + 1) (2 * n + 1) 0 xs ∧ Below w.heap.size w w' := by
  obtain ⟨R, hR⟩ : ∃ R, Hid (R = w.heap.size) := ⟨_, hide rfl⟩
  obtain ⟨X, hX⟩ : ∃ X, Hid (X = w.alloc (.cells #[.pointer none, .slice none 0 0, .int .i64 0, .int .i64 0] (161 : TypeId))) := ⟨_, hide rfl⟩
  have hXR : X.heap[R]? = some (.cells #[.pointer none, .slice none 0 0, .int .i64 0, .int .i64 0] (161 : TypeId) (0, 0)) := by rw [hX.out, hR.out]; exact heap_alloc_new w _
  have x0 : X.cell? ⟨R, 0, none⟩ = some (.pointer none) := cell_of_row X R 0 _ _ _ hXR
  have f0 := frozen_of_row X R 0 _ _ hXR
  obtain ⟨Y, hY⟩ : ∃ Y, Hid (Y = X.setCell ⟨R, 0, none⟩ (.pointer (some ⟨R, 0, none⟩))) := ⟨_, hide rfl⟩
  have hYR : Y.heap[R]? = some (.cells #[.pointer (some ⟨R, 0, none⟩), .slice none 0 0, .int .i64 0, .int .i64 0] (161 : TypeId) (0, 0)) := by
    rw [hY.out, heap_setCell_same X R 0 _ (161 : TypeId) _ hXR]
    rfl
  have bX : Below w.heap.size w X := by rw [hX.out]; exact (Below.refl _ w).alloc (Nat.le_refl _) _
  have bY : Below w.heap.size w Y := by rw [hY.out]; exact bX.setCell (by simp [hR.out]) _
  have sY : Y.heap.size = w.heap.size + 1 := by rw [hY.out, hX.out]; simp [World.setCell]
  have C := lay_any hYR (hA.keep bY) (fun ad h e => by have := hab ad h; have := hR.out; omega) hn
  rw [sY] at C
  have FIN : Hid (∀ Z, Tb (fun k => k = R) Y Z → Below w.heap.size w Z) := hide (fun Z t => bY.trans (t.below (fun i h => by have := hR.out; omega) (by omega)))
  rw [← hR.out]
  have HRW : Hid (w.heap.size = R) := hide hR.out.symm
  have HC : Hid (Calls Tryz.prog 118 #[.pointer (some ⟨R, 0, none⟩), .slice a n cap] Y fun e w' => e = .returned (.tuple #[]) ∧ Qu w' R (R + 1) (2 * n + 1) 0 xs ∧ Tb (fun k => k = R) Y w') := hide (by rw [hR.out] at C ⊢; exact C)
  have HF : Hid (∀ Z, Tb (fun k => k = R) Y Z → Below R w Z) := hide (by rw [hR.out] at FIN ⊢; exact FIN.out)
  clear C FIN bX bY sY hYR hXR hA hab
  go_enter Tryz.func65, Tryz.ntmps65
  go_wp2_with (first | (rw [← hX.out, HRW.out]) | (go_at_call 118; rw [← hY.out]; refine HC.out.mono ?_; rintro e Z ⟨rfl, q, t⟩))
  go_ret
  exact ⟨rfl, q, HF.out Z t⟩

set_option maxHeartbeats 2000000 in
theorem list_yes {w : World} {R G N h : Nat} {xs : List Int} (q : Qu w R G N h xs) :
    Calls Tryz.prog 117 #[.pointer (some ⟨R, 0, none⟩)] w fun e w' => ∃ a cap, e = .returned (.slice a xs.length cap) ∧ w'.ownsRow w.heap.size 3 1 (.slice a xs.length cap) xs.length (W xs) ∧ Below w.heap.size w w' := by
  obtain ⟨i0, hi, hz0, hz1, hz2⟩ := info_parts infoE
  have C := len_yes q
  have hfew := q.few
  unfold Mx at hfew
  obtain ⟨n, hn⟩ : ∃ n, Hid (n = xs.length) := ⟨_, hide rfl⟩
  rw [← hn.out] at C hfew ⊢
  have HQ := hide q
  clear q
  go_enter Tryz.func117, Tryz.ntmps117
  go_wp2_with fail
  refine C.mono ?_
  rintro e w1 ⟨rfl, hw1⟩
  subst w1
  go_wp2_with fail
  go_loopw [3, 7] (fun v i wr => ∃ k : Nat, k ≤ n ∧ i = .int .i64 k ∧ Hid (wr.ownsRow w.heap.size 3 1 v k (W (xs.take k))) ∧ Below w.heap.size w wr) (fun _ i _ => n - (intOf i).toNat)
  case atStart => exact ⟨0, Nat.zero_le _, rfl, hide ⟨rfl, .inl ⟨rfl, rfl⟩⟩, Below.refl _ _⟩
  case round =>
    obtain ⟨k, hk, rfl, hown, hb⟩ := hrel
    by_cases hlt : k < n
    · have qr := HQ.out.below hb
      have hhd := qr.head
      have hsm := qr.small
      unfold Mx at hsm
      have hle := qr.le
      rw [← hn.out] at hle
      have hkx : k < xs.length := by rw [← hn.out]; exact hlt
      have hKN : (h + k) % N < N := Nat.mod_lt _ (by omega)
      have c1 : wr.cell? ⟨R, 1, none⟩ = some (.slice (some ⟨G, 0, none⟩) N N) := qr.c 1
      have cg := qr.g hkx
      have hsn : Hid (W (xs.take (k + 1)) = W (xs.take k) ++ [(Value.int .i64) (xs.getD k 0)]) := hide (by
        rw [List.take_succ_eq_append_getElem hkx, W_append]
        simp [W, List.getD, List.getElem?_eq_getElem hkx])
      generalize xs.getD k 0 = x at cg hsn
      have hcall : ∀ V, Below wr.heap.size wr V → Calls Tryz.prog 151 #[.pointer (some ⟨R, 0, none⟩), .int .i64 k] V fun e X => e = .returned (.int .i64 ((h + k) % N : Nat)) ∧ X.cell? ⟨R, 1, none⟩ = some (.slice (some ⟨G, 0, none⟩) N N) ∧ X.cell? ⟨G, (h + k) % N, none⟩ = some ((Value.int .i64) x) ∧
          Hid ((X.alloc (.cells #[(Value.int .i64) x] 3)).ownsRow w.heap.size 3 1 u3 k (W (xs.take k))) ∧ Hid (Below wr.heap.size wr X) := by
        intro V hV
        refine (spot_any (qr.below hV) k (by omega)).mono ?_
        rintro e X ⟨rfl, m, rfl⟩
        have hX := below_drewN hV m
        exact ⟨rfl, (qr.below hX).c 1, (cg ▸ hX.cell (cell_lt cg)), hide ((row_tb hown.out (Tb.of_fresh (S := fun _ => False) hX) (fun _ _ h => h)).alloc _), hide hX⟩
      have FB : Hid (∀ X w6, Below wr.heap.size wr X → (X.alloc (.cells #[(Value.int .i64) x] 3)).grownBy w6 u3.ownBlock → Below w.heap.size w w6) := hide (fun X w6 h1 h2 => by
        have h3 := h1.size
        have h4 := hb.size
        exact ((hb.trans (h1.mono h4)).alloc (by omega) _).grown h2 (by simp; omega) (fun y hy => (hown.out.lt y hy).1))
      have HC := hide hcall
      have hwl := hide hb.size
      have HQr := hide qr
      obtain ⟨K, hK⟩ : ∃ K, Hid (K = (h + k) % N) := ⟨_, hide rfl⟩
      rw [← hK.out] at HC hKN cg
      clear hcall qr hkx
      go_wp2_with fail
      go_region_law (first
        | (refine step_append_lies _ (by rfl) (.tmp 10) (.tmp 20) 23 (by rfl) w.heap.size 3 i0 ((Value.int .i64) 0) 1 8 Tryz.underlying23 hi hz0 hz1 hz2 rfl (by omega) u3 k _ (by simp [Act.eval]) ho5.out ⟨_, 0, none⟩ 1 1 [(Value.int .i64) x] (by simp [Act.eval]) rfl (cell_one_new _ _ _) (by simp [Value.oneCell']) (by omega) (by unfold maxLen; omega) (by omega) (by have := hwl.out; have := hb5.out.size; simp; omega) _ rfl ?_; intro g6 d6 w6 hown6 hgrow6 _ _)
        | (go_simp; refine (HC.out _ ?_).mono ?_; exact (Below.refl _ wr).drew; rintro e X ⟨rfl, cc5, cd5, ho5, hb5⟩))
      all_goals
        have HO6 := hide hown6
        have HB6 := hide (FB.out X w6 hb5.out hgrow6)
        clear hown6 hgrow6
        go_wp2_with fail
        go_roundw
        case rel => exact ⟨k + 1, by omega, by go_num, hide (by rw [hsn.out]; exact HO6.out), HB6.out⟩
        case measure => simp [intOf]; omega
    · obtain rfl : k = n := by omega
      obtain ⟨va, vc, rfl⟩ := row_val hown.out
      have HO := hide hown.out
      clear hown
      go_wp2_with fail
      go_ret
      rw [List.take_of_length_le (by rw [hn.out]; exact Nat.le_refl _)] at HO
      exact ⟨_, _, rfl, HO.out, hb⟩

/-- What stands at a place. -/
def atV (xs : List Int) (i : Int) : Int × Bool := if 0 ≤ i ∧ i < xs.length then (xs.getD i.toNat 0, true) else (0, false)

set_option maxHeartbeats 1000000 in
theorem at_any {w : World} {R G N h : Nat} {xs : List Int} (q : Qu w R G N h xs) (i : Int) :
    Calls Tryz.prog 146 #[.pointer (some ⟨R, 0, none⟩), .int .i64 i] w fun e w' => e = .returned (.tuple #[(Value.int .i64) (atV xs i).1, .bool (atV xs i).2]) ∧ ∃ m, w' = w.drewN m := by
  have C := len_yes q
  have hsm := q.small
  have hle := q.le
  have hhd := q.head
  unfold Mx at hsm
  obtain ⟨n, hn⟩ : ∃ n, Hid (n = xs.length) := ⟨_, hide rfl⟩
  by_cases h0 : i < 0
  · have e : atV xs i = (0, false) := if_neg (by omega)
    rw [e]
    clear C e
    go_enter Tryz.func146, Tryz.ntmps146
    go_wp2_with fail
    go_ret2
    exact ⟨rfl, 0, rfl⟩
  · by_cases h1 : i < (xs.length : Int)
    · have e : atV xs i = (xs.getD i.toNat 0, true) := if_pos ⟨by omega, h1⟩
      rw [e]
      obtain ⟨k, rfl⟩ : ∃ k : Nat, i = (k : Int) := ⟨i.toNat, by omega⟩
      have hk : k < xs.length := by omega
      have cg := q.g hk
      have c1 : w.cell? ⟨R, 1, none⟩ = some (.slice (some ⟨G, 0, none⟩) N N) := q.c 1
      have hKN : (h + k) % N < N := Nat.mod_lt _ (by omega)
      have HC : Hid (∀ m, Calls Tryz.prog 151 #[.pointer (some ⟨R, 0, none⟩), .int .i64 k] (w.drewN m) fun e X => e = .returned (.int .i64 ((h + k) % N : Nat)) ∧ ∃ m', X = (w.drewN m).drewN m') := hide (fun m => spot_any (q.drewN m) k (by omega))
      simp only [Int.toNat_natCast]
      generalize xs.getD k 0 = x at cg
      obtain ⟨K, hK⟩ : ∃ K, Hid (K = (h + k) % N) := ⟨_, hide rfl⟩
      rw [← hK.out] at HC hKN cg
      rw [← hn.out] at C h1 hk hle
      clear q e
      go_enter Tryz.func146, Tryz.ntmps146
      go_wp2_with fail
      refine C.mono ?_
      rintro e w1 ⟨rfl, hw1⟩
      subst w1
      go_wp2_with fail
      go_quiet (first | (go_at_call 151; exact Calls.quiet_of (HC.out _)))
      go_wp2_with fail
      go_ret2
      exact ⟨rfl, _, rfl⟩
    · have e : atV xs i = (0, false) := if_neg (by omega)
      rw [e]
      rw [← hn.out] at C h1 hle
      clear q e
      go_enter Tryz.func146, Tryz.ntmps146
      go_wp2_with fail
      refine C.mono ?_
      rintro e w1 ⟨rfl, hw1⟩
      subst w1
      go_wp2_with fail
      go_ret2
      exact ⟨rfl, 0, rfl⟩

theorem at_none {w : World} {p : Option Addr} (C : Calls Tryz.prog 139 #[.pointer p] w fun e w' => e = .returned (.bool false) ∧ w' = w) (i : Int) :
    Calls Tryz.prog 146 #[.pointer p, .int .i64 i] w fun e w' => e = .returned (.tuple #[(Value.int .i64) 0, .bool false]) ∧ w' = w := by
  have CL := len_none C
  clear C
  by_cases h0 : i < 0
  · clear CL
    go_enter Tryz.func146, Tryz.ntmps146
    go_wp2_with fail
    go_ret2
    exact ⟨rfl, rfl⟩
  · go_enter Tryz.func146, Tryz.ntmps146
    go_wp2_with fail
    refine CL.mono ?_
    rintro e w1 ⟨rfl, hw1⟩
    subst w1
    go_wp2_with fail
    go_ret2
    exact ⟨rfl, rfl⟩

theorem list_none {w : World} {p : Option Addr} (C : Calls Tryz.prog 139 #[.pointer p] w fun e w' => e = .returned (.bool false) ∧ w' = w) :
    Calls Tryz.prog 117 #[.pointer p] w fun e w' => e = .returned (.slice none 0 0) ∧ w' = w := by
  have CL := len_none C
  clear C
  go_enter Tryz.func117, Tryz.ntmps117
  go_wp2_with fail
  refine CL.mono ?_
  rintro e w1 ⟨rfl, hw1⟩
  subst w1
  go_wp2_with fail
  go_loopw [3, 7] (fun v i wr => v = .slice none 0 0 ∧ i = .int .i64 0 ∧ wr = w) (fun _ _ _ => 0)
  case atStart => exact ⟨rfl, rfl, rfl⟩
  case round =>
    obtain ⟨rfl, rfl, rfl⟩ := hrel
    go_wp2_with fail
    go_ret
    exact ⟨rfl, rfl⟩

end Go.Proofs.YtgjpbekmkhanhaaGreat.QI

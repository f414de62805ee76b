/-
  NetPlays: a copy becomes the other net; what a packet answers as a list of one.
-/
import Derived.Test.YthakbelcefogaaaNpb
namespace Go.Proofs.Ythakbelcefogaaa
open Go.RowKit
set_option maxRecDepth 100000

section
variable {w0 w w' : World} {D L : Nat} {R M : Nat → Nat} {np nr : Nat → Nt} {va : Nat → Option Addr} {vc : Nat → Nat}

/-- What three stores leave: the arrays' rows. -/
theorem Pz.copy {X0 X : World} (h : Pz w0 X0 D L R M np np va vc) (hb : Below X0.heap.size X0 X) {i j : Nat} (hi : i < 2) (hj : j = 1 - i) {R' M' : Nat} (h1 : X0.heap.size ≤ R') (h2 : X0.heap.size ≤ M') (hn : Nw X R' M' (np i))
    {x y z : Value} (hx : x = .pointer (some ⟨R', 0, none⟩)) (hy : y = .slice (va i) (np i).m.length (vc i)) (hz : z = .int .i64 (np i).last) :
    Pz w0 (((X.setCell ⟨D, j, none⟩ x).setCell ⟨L, j * 2, none⟩ y).setCell ⟨L, j * 2 + 1, none⟩ z) D L (up R j R') (up M j M') (up np j (np i)) (up np j (np i)) (up va j (va i)) (up vc j (vc i)) := by
  have hX := h.fresh hb
  have hlt := h.lt
  have sX := hb.size
  have hdl := h.dl
  have hoth : ∀ g, g ≠ D → g ≠ L → (((X.setCell ⟨D, j, none⟩ x).setCell ⟨L, j * 2, none⟩ y).setCell ⟨L, j * 2 + 1, none⟩ z).heap[g]? = X.heap[g]? := fun g h1 h2 => (Below.heap_setCell _ _ _ g h2).trans ((Below.heap_setCell _ _ _ g h2).trans (Below.heap_setCell _ _ _ g h1))
  have hsz : (((X.setCell ⟨D, j, none⟩ x).setCell ⟨L, j * 2, none⟩ y).setCell ⟨L, j * 2 + 1, none⟩ z).heap.size = X.heap.size := (size_set _ _ _).trans ((size_set _ _ _).trans (size_set _ _ _))
  have hjl : j < 2 := by omega
  have hij : i ≠ j := by omega
  have hpi := fun k (hk : k < 2) (he : k ≠ j) => show k = i by omega
  refine ⟨?_, ?_, fun k hk => ?_, fun k hk => ?_, ?_, ?_, ⟨h.ge.1, h.ge.2.1, fun k hk => ?_⟩, ((hX.bel.setCell (p := ⟨D, j, none⟩) h.ge.1 _).setCell (p := ⟨L, j * 2, none⟩) h.ge.2.1 _).setCell (p := ⟨L, j * 2 + 1, none⟩) h.ge.2.1 _⟩
  · rw [Below.heap_setCell _ _ _ D hdl, Below.heap_setCell _ _ _ D hdl, heap_setCell_same X D j _ (38 : TypeId) x hX.d, hx]
    match i, hi, hj with
    | 0, _, hj => subst hj; rfl
    | 1, _, hj => subst hj; rfl
  · have e0 : (X.setCell ⟨D, j, none⟩ x).heap[L]? = some (.cells (lcs va (fun i => (np i).m.length) vc (fun i => (np i).last)) (41 : TypeId) (0, 0)) := (Below.heap_setCell _ _ _ L hdl.symm).trans hX.l
    have e1 := heap_setCell_same (X.setCell ⟨D, j, none⟩ x) L (j * 2) _ (41 : TypeId) y e0
    rw [heap_setCell_same _ L (j * 2 + 1) _ (41 : TypeId) z e1, hy, hz]
    match i, hi, hj with
    | 0, _, hj => subst hj; rfl
    | 1, _, hj => subst hj; rfl
  · by_cases he : k = j
    · subst he
      rw [up_same, up_same, up_same]
      exact hn.heap (hoth _ (by omega) (by omega)) (hoth _ (by omega) (by omega))
    · rw [up_other he, up_other he, up_other he]
      obtain ⟨a1, a2, a3, a4, _⟩ := hX.dr hk
      exact (hX.nw k hk).heap (hoth _ a1.symm a2.symm) (hoth _ a3.symm a4.symm)
  · have key : ∃ ts, Pl (((X.setCell ⟨D, j, none⟩ x).setCell ⟨L, j * 2, none⟩ y).setCell ⟨L, j * 2 + 1, none⟩ z) (fun g => g ≠ D ∧ g ≠ L ∧ ∀ k, k < 2 → g ≠ up R j R' k ∧ g ≠ up M j M' k) (va i) (np i).m.length (vc i) ts (np i).m := by
      obtain ⟨ts, hP⟩ := h.rn i hi
      refine ⟨ts, ((hP.low.keep hb).heap (fun g hg _ => hoth g hg.1.1 hg.1.2.1) (by rw [hsz]; exact Nat.le_refl _)).mono (fun g hg => ⟨hg.1.1, hg.1.2.1, fun k hk => ?_⟩)⟩
      by_cases he : k = j
      · subst he
        rw [up_same, up_same]
        omega
      · rw [up_other he, up_other he]
        exact hg.1.2.2 k hk
    by_cases he : k = j
    · subst he
      rw [up_same, up_same, up_same]
      exact key
    · rw [up_other he, up_other he, up_other he, hpi k hk he]
      exact key
  · have := hlt.2.2 0 (by omega)
    have := hlt.2.2 1 (by omega)
    match i, hi, hj with
    | 0, _, hj => subst hj; show up R 1 R' 0 ≠ up R 1 R' 1; rw [up_same, up_other (by omega)]; omega
    | 1, _, hj => subst hj; show up R 0 R' 0 ≠ up R 0 R' 1; rw [up_same, up_other (by omega)]; omega
  · have := hlt.2.2 0 (by omega)
    have := hlt.2.2 1 (by omega)
    match i, hi, hj with
    | 0, _, hj => subst hj; show up M 1 M' 0 ≠ up M 1 M' 1; rw [up_same, up_other (by omega)]; omega
    | 1, _, hj => subst hj; show up M 0 M' 0 ≠ up M 0 M' 1; rw [up_same, up_other (by omega)]; omega
  · have := h.bel.size
    by_cases he : k = j
    · subst he
      rw [up_same, up_same]
      omega
    · rw [up_other he, up_other he]
      exact h.ge.2.2 k hk

/-- One packet, as a list of one. -/
theorem one_pl {X : World} {b : Nat} {no fr tt : Int} {pa : Option Addr} {pn pc : Nat} {bd : List Int} (hb : X.heap[b]? = some (.cells #[.int .i64 no, .int .i64 fr, .int .i64 tt, .slice pa pn pc] (31 : TypeId) (0, 0))) (hB : Bs X pa pn pc bd) (hlt : ∀ ad, pa = some ad → ad.block < X.heap.size) :
    Pl X (fun _ => True) (some ⟨b, 0, none⟩) 1 1 [⟨no, fr, tt, pa, pn, pc⟩] [(no, ⟨fr, tt, bd⟩)] := by
  refine ⟨rfl, rfl, Nat.le_refl _, by omega, (fun h => by cases h), fun _ b' off ha => ⟨trivial, fun j u hu => ?_⟩, fun _ => ⟨b, 0, rfl⟩, fun i t q h1 h2 => ?_⟩
  · simp only [Option.some.injEq, Addr.mk.injEq, and_true] at ha
    obtain ⟨rfl, rfl⟩ := ha
    rw [Nat.zero_add, cell_of_row X b j _ _ _ hb]
    simpa [Pt.cells] using hu
  · have hi : i = 0 := by
      rcases Nat.lt_or_ge i 1 with h | h
      · omega
      · rw [List.getElem?_eq_none (by simpa using h)] at h1
        cases h1
    subst hi
    simp only [List.getElem?_cons_zero, Option.some.injEq] at h1 h2
    subst h1 h2
    exact ⟨rfl, rfl, rfl, hB, fun ad h => ⟨trivial, hlt ad h⟩⟩

end

section
variable {X1 X2 : World} {x y p q t u : Value}

def set2 (X : World) (b : Nat) (x y : Value) : World := (X.setCell ⟨b, 0, none⟩ x).setCell ⟨b, 1, none⟩ y
def set4 (X : World) (b : Nat) (p q t u : Value) : World := (((X.setCell ⟨b, 0, none⟩ p).setCell ⟨b, 1, none⟩ q).setCell ⟨b, 2, none⟩ t).setCell ⟨b, 3, none⟩ u

theorem set2_size (X : World) (b : Nat) : (set2 X b x y).heap.size = X.heap.size := (size_set _ _ _).trans (size_set _ _ _)
theorem set4_size (X : World) (b : Nat) : (set4 X b p q t u).heap.size = X.heap.size := (size_set _ _ _).trans ((size_set _ _ _).trans ((size_set _ _ _).trans (size_set _ _ _)))
theorem set2_other (X : World) {b g : Nat} (h : g ≠ b) : (set2 X b x y).heap[g]? = X.heap[g]? := (Below.heap_setCell _ _ _ g h).trans (Below.heap_setCell _ _ _ g h)
theorem set4_other (X : World) {b g : Nat} (h : g ≠ b) : (set4 X b p q t u).heap[g]? = X.heap[g]? := (Below.heap_setCell _ _ _ g h).trans ((Below.heap_setCell _ _ _ g h).trans ((Below.heap_setCell _ _ _ g h).trans (Below.heap_setCell _ _ _ g h)))
theorem set2_same {X : World} {b : Nat} {T : TypeId} {c0 c1 : Value} (h : X.heap[b]? = some (.cells #[c0, c1] T (0, 0))) : (set2 X b x y).heap[b]? = some (.cells #[x, y] T (0, 0)) := pair_set h _ _
theorem set4_same {X : World} {b : Nat} {T : TypeId} {c0 c1 c2 c3 : Value} (h : X.heap[b]? = some (.cells #[c0, c1, c2, c3] T (0, 0))) : (set4 X b p q t u).heap[b]? = some (.cells #[p, q, t, u] T (0, 0)) := by
  have e1 : (X.setCell ⟨b, 0, none⟩ p).heap[b]? = some (.cells #[p, c1, c2, c3] T (0, 0)) := by rw [heap_setCell_same X b 0 _ T _ h]; rfl
  have e2 : ((X.setCell ⟨b, 0, none⟩ p).setCell ⟨b, 1, none⟩ q).heap[b]? = some (.cells #[p, q, c2, c3] T (0, 0)) := by rw [heap_setCell_same _ b 1 _ T _ e1]; rfl
  have e3 : (((X.setCell ⟨b, 0, none⟩ p).setCell ⟨b, 1, none⟩ q).setCell ⟨b, 2, none⟩ t).heap[b]? = some (.cells #[p, q, t, c3] T (0, 0)) := by rw [heap_setCell_same _ b 2 _ T _ e2]; rfl
  unfold set4
  rw [heap_setCell_same _ b 3 _ T _ e3]
  rfl
theorem set2_below {X w : World} {b n : Nat} (h : Below n w X) (hb : n ≤ b) : Below n w (set2 X b x y) := (h.setCell (p := ⟨b, 0, none⟩) hb _).setCell (p := ⟨b, 1, none⟩) hb _
theorem set4_below {X w : World} {b n : Nat} (h : Below n w X) (hb : n ≤ b) : Below n w (set4 X b p q t u) := (((h.setCell (p := ⟨b, 0, none⟩) hb _).setCell (p := ⟨b, 1, none⟩) hb _).setCell (p := ⟨b, 2, none⟩) hb _).setCell (p := ⟨b, 3, none⟩) hb _

/-- Behind a region that makes two rows beside a call: all of X2 is as it was, but for the rows that were made ahead of the call. -/
structure Way (X1 X2 V5 : World) (k G H : Nat) (r s : Array Value) : Prop where
  sz : X2.heap.size ≤ V5.heap.size
  blk : ∀ g, g < X2.heap.size → (g < X1.heap.size ∨ X1.heap.size + k ≤ g) → V5.heap[g]? = X2.heap[g]?
  bel : ∀ (w : World) (n : Nat), Below n w X2 → n ≤ X1.heap.size → Below n w V5
  g : V5.heap[G]? = some (.cells r (40 : TypeId) (0, 0))
  h : V5.heap[H]? = some (.cells s (31 : TypeId) (0, 0))
  gn : X1.heap.size ≤ G
  hn : X1.heap.size ≤ H

theorem way1 (hs : X1.heap.size ≤ X2.heap.size) : Way X1 X2 ((X2.alloc (.cells #[x, y] (40 : TypeId))).alloc (.cells #[p, q, t, u] (31 : TypeId))) 0 X2.heap.size (X2.heap.size + 1) #[x, y] #[p, q, t, u] :=
  ⟨by simp; omega, fun g hg _ => (Below.heap_alloc _ _ g (by simp; omega)).trans (Below.heap_alloc _ _ g hg), fun w n hb hn => (hb.alloc (by omega) _).alloc (by simp; omega) _,
    (Below.heap_alloc _ _ _ (by simp)).trans (heap_alloc_new X2 _), alloc_two X2 _ _, hs, by omega⟩
theorem way2 (hs : X1.heap.size ≤ X2.heap.size) : Way X1 X2 ((X2.alloc (.cells #[p, q, t, u] (31 : TypeId))).alloc (.cells #[x, y] (40 : TypeId))) 0 (X2.heap.size + 1) X2.heap.size #[x, y] #[p, q, t, u] :=
  ⟨by simp; omega, fun g hg _ => (Below.heap_alloc _ _ g (by simp; omega)).trans (Below.heap_alloc _ _ g hg), fun w n hb hn => (hb.alloc (by omega) _).alloc (by simp; omega) _,
    alloc_two X2 _ _, (Below.heap_alloc _ _ _ (by simp)).trans (heap_alloc_new X2 _), by omega, hs⟩
theorem way3 {c0 c1 : Value} (h0 : X2.heap[X1.heap.size]? = some (.cells #[c0, c1] (40 : TypeId) (0, 0))) : Way X1 X2 ((set2 X2 X1.heap.size x y).alloc (.cells #[p, q, t, u] (31 : TypeId))) 1 X1.heap.size X2.heap.size #[x, y] #[p, q, t, u] := by
  have hl := heap_lt h0
  have hz := set2_size (x := x) (y := y) X2 X1.heap.size
  refine ⟨by simp [hz], fun g hg h => (Below.heap_alloc _ _ g (by rw [hz]; exact hg)).trans (set2_other X2 (by omega)), fun w n hb hn => (set2_below hb hn).alloc (by rw [hz]; omega) _,
    (Below.heap_alloc _ _ _ (by rw [hz]; exact hl)).trans (set2_same h0), ?_, Nat.le_refl _, by omega⟩
  have := heap_alloc_new (set2 X2 X1.heap.size x y) (.cells #[p, q, t, u] (31 : TypeId))
  rw [hz] at this
  exact this
theorem way5 {c0 c1 c2 c3 : Value} (h0 : X2.heap[X1.heap.size]? = some (.cells #[c0, c1, c2, c3] (31 : TypeId) (0, 0))) : Way X1 X2 ((set4 X2 X1.heap.size p q t u).alloc (.cells #[x, y] (40 : TypeId))) 1 X2.heap.size X1.heap.size #[x, y] #[p, q, t, u] := by
  have hl := heap_lt h0
  have hz := set4_size (p := p) (q := q) (t := t) (u := u) X2 X1.heap.size
  refine ⟨by simp [hz], fun g hg h => (Below.heap_alloc _ _ g (by rw [hz]; exact hg)).trans (set4_other X2 (by omega)), fun w n hb hn => (set4_below hb hn).alloc (by rw [hz]; omega) _,
    ?_, (Below.heap_alloc _ _ _ (by rw [hz]; exact hl)).trans (set4_same h0), by omega, Nat.le_refl _⟩
  have := heap_alloc_new (set4 X2 X1.heap.size p q t u) (.cells #[x, y] (40 : TypeId))
  rw [hz] at this
  exact this
theorem way4 {c0 c1 d0 d1 d2 d3 : Value} (h0 : X2.heap[X1.heap.size]? = some (.cells #[c0, c1] (40 : TypeId) (0, 0))) (h1 : X2.heap[X1.heap.size + 1]? = some (.cells #[d0, d1, d2, d3] (31 : TypeId) (0, 0))) :
    Way X1 X2 (set4 (set2 X2 X1.heap.size x y) (X1.heap.size + 1) p q t u) 2 X1.heap.size (X1.heap.size + 1) #[x, y] #[p, q, t, u] :=
  ⟨by rw [set4_size, set2_size]; exact Nat.le_refl _, fun g hg h => (set4_other _ (by omega)).trans (set2_other _ (by omega)), fun w n hb hn => set4_below (set2_below hb hn) (by omega),
    (set4_other _ (by omega)).trans (set2_same h0), set4_same ((set2_other _ (by omega)).trans h1), Nat.le_refl _, by omega⟩
theorem way6 {c0 c1 d0 d1 d2 d3 : Value} (h0 : X2.heap[X1.heap.size + 1]? = some (.cells #[c0, c1] (40 : TypeId) (0, 0))) (h1 : X2.heap[X1.heap.size]? = some (.cells #[d0, d1, d2, d3] (31 : TypeId) (0, 0))) :
    Way X1 X2 (set4 (set2 X2 (X1.heap.size + 1) x y) X1.heap.size p q t u) 2 (X1.heap.size + 1) X1.heap.size #[x, y] #[p, q, t, u] :=
  ⟨by rw [set4_size, set2_size]; exact Nat.le_refl _, fun g hg h => (set4_other _ (by omega)).trans (set2_other _ (by omega)), fun w n hb hn => set4_below (set2_below hb (by omega)) hn,
    (set4_other _ (by omega)).trans (set2_same h0), set4_same ((set2_other _ (by omega)).trans h1), by omega, Nat.le_refl _⟩
end

end Go.Proofs.Ythakbelcefogaaa

/-
  NetPlays: two nets and the document's two beside them, in two arrays.
-/
import Derived.Test.YthakbelcefogaaaNse
import Derived.Test.YthakbelcefogaaaNsa
import Derived.Test.YthakbelcefogaaaOvr
import Derived.Test.YthakbelcefogaaaLno
import Derived.Test.YthakbelcefogaaaLnd
namespace Go.Proofs.Ythakbelcefogaaa
open Go.RowKit
set_option maxRecDepth 100000

/-- One of two turned. -/
def up {α : Type} (f : Nat → α) (i : Nat) (x : α) : Nat → α := fun j => if j = i then x else f j
theorem up_same {α : Type} (f : Nat → α) (i : Nat) (x : α) : up f i x i = x := by simp [up]
theorem up_other {α : Type} {f : Nat → α} {i j : Nat} {x : α} (h : j ≠ i) : up f i x j = f j := by simp [up, h]

/-- The cells of the document's two nets. -/
def lcs (va : Nat → Option Addr) (vn vc : Nat → Nat) (la : Nat → Int) : Array Value := #[.slice (va 0) (vn 0) (vc 0), .int .i64 (la 0), .slice (va 1) (vn 1) (vc 1), .int .i64 (la 1)]

/-- Two nets (np) and the document's two (nr), in the arrays D and L; all of it was made behind w0. -/
structure Pz (w0 w : World) (D L : Nat) (R M : Nat → Nat) (np nr : Nat → Nt) (va : Nat → Option Addr) (vc : Nat → Nat) : Prop where
  d : w.heap[D]? = some (.cells #[.pointer (some ⟨R 0, 0, none⟩), .pointer (some ⟨R 1, 0, none⟩)] (38 : TypeId) (0, 0))
  l : w.heap[L]? = some (.cells (lcs va (fun i => (nr i).m.length) vc (fun i => (nr i).last)) (41 : TypeId) (0, 0))
  nw : ∀ i, i < 2 → Nw w (R i) (M i) (np i)
  rn : ∀ i, i < 2 → ∃ ts, Pl w (fun g => g ≠ D ∧ g ≠ L ∧ ∀ j, j < 2 → g ≠ R j ∧ g ≠ M j) (va i) (nr i).m.length (vc i) ts (nr i).m
  rr : R 0 ≠ R 1
  mm : M 0 ≠ M 1
  ge : w0.heap.size ≤ D ∧ w0.heap.size ≤ L ∧ ∀ j, j < 2 → w0.heap.size ≤ R j ∧ w0.heap.size ≤ M j
  bel : Below w0.heap.size w0 w

section
variable {w0 w w' : World} {D L : Nat} {R M : Nat → Nat} {np nr : Nat → Nt} {va : Nat → Option Addr} {vc : Nat → Nat}

theorem Pz.dr (h : Pz w0 w D L R M np nr va vc) {j : Nat} (hj : j < 2) : D ≠ R j ∧ L ≠ R j ∧ D ≠ M j ∧ L ≠ M j ∧ ∀ i, i < 2 → R j ≠ M i := by
  have h1 := (h.nw j hj).obj
  obtain ⟨Dm, hD, _⟩ := (h.nw j hj).map
  obtain ⟨es, clock, hb, _⟩ := hD.own
  refine ⟨?_, ?_, ?_, ?_, fun i hi => ?_⟩
  · rintro rfl
    have := h.d
    rw [h1] at this
    simp only [Option.some.injEq, Obj.cells.injEq] at this
    exact absurd this.2.1 (by decide)
  · rintro rfl
    have := h.l
    rw [h1] at this
    simp only [Option.some.injEq, Obj.cells.injEq] at this
    exact absurd this.2.1 (by decide)
  · rintro rfl
    have := h.d
    rw [hb] at this
    cases this
  · rintro rfl
    have := h.l
    rw [hb] at this
    cases this
  · intro e
    obtain ⟨Dm', hD', _⟩ := (h.nw i hi).map
    obtain ⟨es', clock', hb', _⟩ := hD'.own
    rw [e, hb'] at h1
    cases h1

theorem Pz.dl (h : Pz w0 w D L R M np nr va vc) : D ≠ L := by
  rintro rfl
  have := h.d
  rw [h.l] at this
  simp only [Option.some.injEq, Obj.cells.injEq] at this
  exact absurd this.2.1 (by decide)

theorem Pz.r2 (h : Pz w0 w D L R M np nr va vc) {i j : Nat} (hi : i < 2) (hj : j < 2) (hne : i ≠ j) : R i ≠ R j ∧ M i ≠ M j := by
  have h1 := h.rr
  have h2 := h.mm
  match i, j, hi, hj, hne with
  | 0, 0, _, _, hne => exact absurd rfl hne
  | 0, 1, _, _, _ => exact ⟨h1, h2⟩
  | 1, 0, _, _, _ => exact ⟨h1.symm, h2.symm⟩
  | 1, 1, _, _, hne => exact absurd rfl hne

/-- What is new turns nothing of it. -/
theorem Pz.fresh (h : Pz w0 w D L R M np nr va vc) (hb : Below w.heap.size w w') : Pz w0 w' D L R M np nr va vc :=
  ⟨(hb.block D (heap_lt h.d)).trans h.d, (hb.block L (heap_lt h.l)).trans h.l, fun i hi => (h.nw i hi).below hb, fun i hi => by
    obtain ⟨ts, hP⟩ := h.rn i hi
    exact ⟨ts, hP.keep hb⟩, h.rr, h.mm, h.ge, h.bel.trans (hb.mono h.bel.size)⟩

/-- A block that is none of it turns. -/
theorem Pz.beside (h : Pz w0 w D L R M np nr va vc) {x : Nat} (hx : w0.heap.size ≤ x) (t : Tb (fun k => k = x) w w') (h1 : x ≠ D) (h2 : x ≠ L) (h3 : ∀ j, j < 2 → x ≠ R j ∧ x ≠ M j) (h4 : ∀ i, i < 2 → ∃ ts, Pl w (fun g => (g ≠ D ∧ g ≠ L ∧ ∀ j, j < 2 → g ≠ R j ∧ g ≠ M j) ∧ g ≠ x) (va i) (nr i).m.length (vc i) ts (nr i).m) : Pz w0 w' D L R M np nr va vc :=
  ⟨(t.block D (heap_lt h.d) (fun e => h1 e.symm)).trans h.d, (t.block L (heap_lt h.l) (fun e => h2 e.symm)).trans h.l, fun i hi => (h.nw i hi).tb t (fun e => (h3 i hi).1 e.symm) (fun e => (h3 i hi).2 e.symm), fun i hi => by
    obtain ⟨ts, hP⟩ := h4 i hi
    exact ⟨ts, (hP.heap (fun g hg hlt => t.block g hlt hg.2) t.size).mono (fun g hg => hg.1)⟩, h.rr, h.mm, h.ge, h.bel.trans (t.below (fun i hi => by omega) h.bel.size)⟩

/-- A call on net i. -/
theorem Pz.prog (h : Pz w0 w D L R M np nr va vc) {i : Nat} (hi : i < 2) {n' : Nt} (hn : Nw w' (R i) (M i) n') (t : Tb (fun k => k = R i ∨ k = M i) w w') : Pz w0 w' D L R M (up np i n') nr va vc := by
  obtain ⟨a1, a2, a3, a4, _⟩ := h.dr hi
  refine ⟨(t.block D (heap_lt h.d) (fun e => by rcases e with e | e; exact a1 e; exact a3 e)).trans h.d, (t.block L (heap_lt h.l) (fun e => by rcases e with e | e; exact a2 e; exact a4 e)).trans h.l, fun j hj => ?_, fun j hj => ?_, h.rr, h.mm, h.ge, h.bel.trans (t.below (fun k hk => by have := h.ge.2.2 i hi; omega) h.bel.size)⟩
  · by_cases hji : j = i
    · subst hji
      rw [up_same]
      exact hn
    · rw [up_other hji]
      obtain ⟨b1, b2⟩ := h.r2 hj hi hji
      have c1 := (h.dr hj).2.2.2.2 i hi
      have c2 := (h.dr hi).2.2.2.2 j hj
      exact (h.nw j hj).tb t (fun e => by rcases e with e | e; exact b1 e; exact c1 e) (fun e => by rcases e with e | e; exact c2 e.symm; exact b2 e)
  · obtain ⟨ts, hP⟩ := h.rn j hj
    exact ⟨ts, hP.heap (fun g hg hlt => t.block g hlt (fun e => by have := hg.2.2 i hi; omega)) t.size⟩

/-- The document's net i is laid into its array. -/
theorem Pz.ref (h : Pz w0 w D L R M np nr va vc) {i : Nat} (hi : i < 2) {n' : Nt} {a' : Option Addr} {c' : Nat} {ts' : List Pt} {x y : Value} (hx : x = .slice a' n'.m.length c') (hy : y = .int .i64 n'.last)
    (hP : Pl w (fun g => g ≠ D ∧ g ≠ L ∧ ∀ j, j < 2 → g ≠ R j ∧ g ≠ M j) a' n'.m.length c' ts' n'.m) : Pz w0 ((w.setCell ⟨L, i * 2, none⟩ x).setCell ⟨L, i * 2 + 1, none⟩ y) D L R M np (up nr i n') (up va i a') (up vc i c') := by
  subst hx hy
  have hoth : ∀ g, g ≠ L → ((w.setCell ⟨L, i * 2, none⟩ (.slice a' n'.m.length c')).setCell ⟨L, i * 2 + 1, none⟩ (.int .i64 n'.last)).heap[g]? = w.heap[g]? := fun g hg => (Below.heap_setCell _ _ _ g hg).trans (Below.heap_setCell _ _ _ g hg)
  have hsz : ((w.setCell ⟨L, i * 2, none⟩ (.slice a' n'.m.length c')).setCell ⟨L, i * 2 + 1, none⟩ (.int .i64 n'.last)).heap.size = w.heap.size := (size_set _ _ _).trans (size_set _ _ _)
  have hL : ((w.setCell ⟨L, i * 2, none⟩ (.slice a' n'.m.length c')).setCell ⟨L, i * 2 + 1, none⟩ (.int .i64 n'.last)).heap[L]? = some (.cells (lcs (up va i a') (fun j => (up nr i n' j).m.length) (up vc i c') (fun j => (up nr i n' j).last)) (41 : TypeId) (0, 0)) := by
    have e1 := heap_setCell_same w L (i * 2) _ (41 : TypeId) (.slice a' n'.m.length c') h.l
    rw [heap_setCell_same _ L (i * 2 + 1) _ (41 : TypeId) (.int .i64 n'.last) e1]
    match i, hi with
    | 0, _ => rfl
    | 1, _ => rfl
  refine ⟨(hoth D h.dl).trans h.d, hL, fun j hj => (h.nw j hj).heap (hoth _ (fun e => (h.dr hj).2.1 e.symm)) (hoth _ (fun e => (h.dr hj).2.2.2.1 e.symm)), fun j hj => ?_, h.rr, h.mm, h.ge, (h.bel.setCell (p := ⟨L, i * 2, none⟩) h.ge.2.1 _).setCell (p := ⟨L, i * 2 + 1, none⟩) h.ge.2.1 _⟩
  by_cases hji : j = i
  · subst hji
    rw [up_same, up_same, up_same]
    exact ⟨ts', hP.heap (fun g hg _ => hoth g hg.2.1) (by rw [hsz]; exact Nat.le_refl _)⟩
  · rw [up_other hji, up_other hji, up_other hji]
    obtain ⟨ts, hQ⟩ := h.rn j hj
    exact ⟨ts, hQ.heap (fun g hg _ => hoth g hg.2.1) (by rw [hsz]; exact Nat.le_refl _)⟩

/-- What stands in the arrays. -/
theorem Pz.cells (h : Pz w0 w D L R M np nr va vc) {i : Nat} (hi : i < 2) : w.cell? ⟨D, i, none⟩ = some (.pointer (some ⟨R i, 0, none⟩)) ∧ w.cell? ⟨L, i * 2, none⟩ = some (.slice (va i) (nr i).m.length (vc i)) ∧ w.cell? ⟨L, i * 2 + 1, none⟩ = some (.int .i64 (nr i).last) ∧ w.frozen? ⟨L, i * 2, none⟩ = false ∧ w.frozen? ⟨L, i * 2 + 1, none⟩ = false ∧ w.frozen? ⟨D, i, none⟩ = false := by
  refine ⟨?_, ?_, ?_, frozen_of_row w L _ _ _ h.l, frozen_of_row w L _ _ _ h.l, frozen_of_row w D _ _ _ h.d⟩
  · rw [cell_of_row w D i _ _ _ h.d]
    match i, hi with
    | 0, _ => rfl
    | 1, _ => rfl
  · rw [cell_of_row w L _ _ _ _ h.l]
    match i, hi with
    | 0, _ => rfl
    | 1, _ => rfl
  · rw [cell_of_row w L _ _ _ _ h.l]
    match i, hi with
    | 0, _ => rfl
    | 1, _ => rfl

end

end Go.Proofs.Ythakbelcefogaaa

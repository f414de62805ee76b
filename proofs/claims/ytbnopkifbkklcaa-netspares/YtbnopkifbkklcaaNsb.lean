/-
  NetSpares, its walk.
-/
import Derived.Test.YtbnopkifbkklcaaNsa
namespace Go.Proofs.Ytbnopkifbkklcaa.netSpares
open Go.RowKit Go.Proofs.Ytbnopkifbkklcaa
set_option maxRecDepth 100000

def n1 (b : List Int) : Nt := ⟨[(1, ⟨1, 2, b⟩)], 1⟩
def n2 (b : List Int) : Nt := ⟨[(1, ⟨1, 2, b⟩), (2, ⟨1, 2, b⟩)], 2⟩
def n3 (b : List Int) : Nt := ⟨[(2, ⟨1, 2, b⟩)], 2⟩

theorem send1 (b : List Int) (h : b.length ≤ 3000) : newNt.sendA b = (1, 0) ∧ newNt.sendN 1 2 b = n1 b := by
  have h' : ¬ 65545 < b.length := by omega
  simp [Nt.sendA, Nt.sendN, h', Nt.putA, Nt.putN, Nt.put, newNt, n1]
theorem dbl1 (b : List Int) : (n1 b).dblA 1 = (2, 0) ∧ (n1 b).dblN 1 = n2 b := by
  constructor <;> rfl
theorem lk1 (b : List Int) : lk (n2 b).m 1 = some ⟨1, 2, b⟩ := rfl
theorem drop1 (b : List Int) : (n2 b).drop 1 = n3 b := rfl
theorem lk2 (b : List Int) : lk (n3 b).m 2 = some ⟨1, 2, b⟩ := rfl

/-- Five lists that lie apart, as they are handed to ApartBytes. -/
theorem apart5 {W V : World} {v0 v1 v2 v3 v4 : Value} {l0 l1 l2 l3 l4 : Nat} {x0 x1 x2 x3 x4 : List Value} (base : Nat) (hb : base ≤ V.heap.size)
    (hW : W = V.alloc (.cells #[v0, v1, v2, v3, v4] (27 : TypeId)))
    (h0 : Aq.Om V base v0 l0 x0) (h1 : Aq.Om V base v1 l1 x1) (h2 : Aq.Om V base v2 l2 x2) (h3 : Aq.Om V base v3 l3 x3) (h4 : Aq.Om V base v4 l4 x4)
    (hl : l0 ≤ 140737488355000 ∧ l1 ≤ 140737488355000 ∧ l2 ≤ 140737488355000 ∧ l3 ≤ 140737488355000 ∧ l4 ≤ 140737488355000)
    (hd : ∀ i j : Nat, i < 5 → j < 5 → i ≠ j → ([v0, v1, v2, v3, v4].getD i undef).ownBlock = none ∨ ([v0, v1, v2, v3, v4].getD i undef).ownBlock ≠ ([v0, v1, v2, v3, v4].getD j undef).ownBlock) :
    Calls Try.prog 30 #[.slice (some ⟨V.heap.size, 0, none⟩) 5 5] W fun e w' => e = .returned (.bool true) ∧ Tb (fun b => b = V.heap.size ∨ ∃ k, k < 5 ∧ ([v0, v1, v2, v3, v4].getD k undef).ownBlock = some b) V w' ∧ Below base V w' := by
  subst hW
  have hal : ∀ {v n xs}, Aq.Om V base v n xs → Aq.Om (V.alloc (.cells #[v0, v1, v2, v3, v4] (27 : TypeId))) base v n xs := fun h => h.alloc _
  have hown : ∀ k, k < 5 → Aq.Om (V.alloc (.cells #[v0, v1, v2, v3, v4] (27 : TypeId))) base ([v0, v1, v2, v3, v4].getD k undef) ([l0, l1, l2, l3, l4].getD k 0) ([x0, x1, x2, x3, x4].getD k []) := fun k hk => by
    match k, hk with
    | 0, _ => exact hal h0
    | 1, _ => exact hal h1
    | 2, _ => exact hal h2
    | 3, _ => exact hal h3
    | 4, _ => exact hal h4
  have hlt : ∀ k, k < 5 → ∀ b, ([v0, v1, v2, v3, v4].getD k undef).ownBlock = some b → b < V.heap.size := fun k hk b hb => by
    match k, hk, hb with
    | 0, _, hb => exact (h0.lt b hb).2
    | 1, _, hb => exact (h1.lt b hb).2
    | 2, _, hb => exact (h2.lt b hb).2
    | 3, _, hb => exact (h3.lt b hb).2
    | 4, _, hb => exact (h4.lt b hb).2
  refine (Aq.apart_tells base V.heap.size 5 (fun k => [v0, v1, v2, v3, v4].getD k undef) (fun k => [l0, l1, l2, l3, l4].getD k 0) (fun k => [x0, x1, x2, x3, x4].getD k []) _ (by omega) (fun k hk => ?_) (by simp; omega) (by simp) (fun k hk => ?_) hown (fun k hk e => ?_) hd).mono ?_
  · match k, hk with
    | 0, _ => exact hl.1
    | 1, _ => exact hl.2.1
    | 2, _ => exact hl.2.2.1
    | 3, _ => exact hl.2.2.2.1
    | 4, _ => exact hl.2.2.2.2
  · rw [cell_of_row _ _ _ _ _ _ (heap_alloc_new V _)]
    match k, hk with
    | 0, _ => rfl
    | 1, _ => rfl
    | 2, _ => rfl
    | 3, _ => rfl
    | 4, _ => rfl
  · have := hlt k hk _ e
    omega
  · rintro e w' ⟨rfl, hbel, htw⟩
    have hb1 : Below base V (V.alloc (.cells #[v0, v1, v2, v3, v4] (27 : TypeId))) := (Below.refl _ V).alloc hb _
    refine ⟨rfl, ⟨hbel.os, hbel.tape, hbel.output, by have := hbel.size; simp at this; omega, fun b hb' hS => ?_⟩, hb1.trans hbel⟩
    refine (htw b (by simp; omega) (fun k hk e => hS (.inr ⟨k, hk, e⟩))).trans (Below.heap_alloc V _ b hb')

/-- Two lists. -/
theorem apart2 {W V : World} {v0 v1 : Value} {l0 l1 : Nat} {x0 x1 : List Value} (base : Nat) (hb : base ≤ V.heap.size)
    (hW : W = V.alloc (.cells #[v0, v1] (27 : TypeId)))
    (h0 : Aq.Om V base v0 l0 x0) (h1 : Aq.Om V base v1 l1 x1)
    (hl : l0 ≤ 140737488355000 ∧ l1 ≤ 140737488355000)
    (hd : v0.ownBlock = none ∨ v0.ownBlock ≠ v1.ownBlock) (hd' : v1.ownBlock = none ∨ v1.ownBlock ≠ v0.ownBlock) :
    Calls Try.prog 30 #[.slice (some ⟨V.heap.size, 0, none⟩) 2 2] W fun e w' => e = .returned (.bool true) ∧ Below base V w' := by
  subst hW
  refine (Aq.apart_any base V.heap.size 2 (fun k => [v0, v1].getD k undef) (fun k => [l0, l1].getD k 0) (fun k => [x0, x1].getD k []) _ (by omega) (fun k hk => ?_) (by simp; omega) (by simp) (fun k hk => ?_) (fun k hk => ?_) (fun k hk e => ?_) (fun i j hi hj hij => ?_)).mono ?_
  · match k, hk with
    | 0, _ => exact hl.1
    | 1, _ => exact hl.2
  · rw [cell_of_row _ _ _ _ _ _ (heap_alloc_new V _)]
    match k, hk with
    | 0, _ => rfl
    | 1, _ => rfl
  · match k, hk with
    | 0, _ => exact h0.alloc _
    | 1, _ => exact h1.alloc _
  · have : V.heap.size < V.heap.size := by
      match k, hk, e with
      | 0, _, e => exact (h0.lt _ e).2
      | 1, _, e => exact (h1.lt _ e).2
    omega
  · match i, j, hi, hj, hij with
    | 0, 0, _, _, h => exact absurd rfl h
    | 0, 1, _, _, _ => exact hd
    | 1, 0, _, _, _ => exact hd'
    | 1, 1, _, _, h => exact absurd rfl h
  · rintro e w' ⟨rfl, hbel⟩
    exact ⟨rfl, ((Below.refl _ V).alloc hb _).trans hbel⟩

end Go.Proofs.Ytbnopkifbkklcaa.netSpares

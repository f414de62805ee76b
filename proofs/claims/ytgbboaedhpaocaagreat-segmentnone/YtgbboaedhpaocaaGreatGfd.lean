/-
  The program's reader in memory; what New, made, Left and Feed do.
-/
import Derived.Test.YtgbboaedhpaocaaGreatGwh
import Derived.OneCell
import Derived.LaidEql
namespace Go.Proofs.YtgbboaedhpaocaaGreat
open Go.RowKit
set_option maxRecDepth 100000

/-- A reader that New answered: what is left, and whether it has ended. -/
structure Rd (w : World) (base R : Nat) (lv : Value) (l : List Int) (ended : Bool) : Prop where
  obj : w.heap[R]? = some (.cells #[.pointer (some ⟨R, 0, none⟩), lv, .bool ended] 179 (0, 0))
  own : w.ownsRow base 5 1 lv l.length (U l)
  byte : ∀ z ∈ l, 0 ≤ z ∧ z ≤ 255
  from' : base ≤ R

theorem Rd.c0 {w : World} {base R : Nat} {lv : Value} {l : List Int} {ended : Bool} (h : Rd w base R lv l ended) : w.cell? ⟨R, 0, none⟩ = some (.pointer (some ⟨R, 0, none⟩)) := by rw [cell_of_row w R 0 _ 179 (0, 0) h.obj]; rfl
theorem Rd.c1 {w : World} {base R : Nat} {lv : Value} {l : List Int} {ended : Bool} (h : Rd w base R lv l ended) : w.cell? ⟨R, 1, none⟩ = some lv := by rw [cell_of_row w R 1 _ 179 (0, 0) h.obj]; rfl
theorem Rd.c2 {w : World} {base R : Nat} {lv : Value} {l : List Int} {ended : Bool} (h : Rd w base R lv l ended) : w.cell? ⟨R, 2, none⟩ = some (.bool ended) := by rw [cell_of_row w R 2 _ 179 (0, 0) h.obj]; rfl

theorem Rd.lt {w : World} {base R : Nat} {lv : Value} {l : List Int} {ended : Bool} (h : Rd w base R lv l ended) : R < w.heap.size := (Array.getElem?_eq_some_iff.1 h.obj).1

theorem Rd.apart {w : World} {base R : Nat} {lv : Value} {l : List Int} {ended : Bool} (h : Rd w base R lv l ended) : lv.ownBlock ≠ some R := by
  intro e
  rcases h.own.2 with ⟨h1, _⟩ | ⟨g, cap, cur, h1, _, hg, _⟩
  · rw [h1] at e
    cases e
  · rw [h1] at e
    simp only [Value.ownBlock, Option.some.injEq] at e
    subst e
    rw [h.obj] at hg
    simp at hg

theorem Rd.bar {S : Nat → Prop} {w w' : World} {base R : Nat} {lv : Value} {l : List Int} {ended : Bool} (h : Rd w base R lv l ended) (hb : Bar S w w') (h1 : ¬ S R) (h2 : ∀ b, lv.ownBlock = some b → ¬ S b) : Rd w' base R lv l ended :=
  ⟨by rw [hb.block R h.lt h1]; exact h.obj, own_bar h.own hb h2, h.byte, h.from'⟩

theorem Rd.keep {w w' : World} {base R : Nat} {lv : Value} {l : List Int} {ended : Bool} (h : Rd w base R lv l ended) (hb : Below w.heap.size w w') : Rd w' base R lv l ended :=
  h.bar (S := fun _ => False) (Bar.of_fresh hb) (fun h => h) (fun _ _ h => h)

theorem eql_same {P : Program} {w : World} {tp te : TypeId} {j : TypeInfo} (a : Addr) (hp : P.underlying tp = some (.pointer te)) (hte : P.info? te = some j) : (binOp .eql tp (.pointer (some a)) (.pointer (some a))).run P w = .ok (.bool true) w := by
  have h : ∀ d : Nat, (Op.equalIn (d + 1) tp (.pointer (some a)) (.pointer (some a))).run P w = .ok true w := fun d => by simp [Op.equalIn, run_underlying hp, typeInfo, sizeOf, run_sameAddr_same, hte]
  simp only [binOp]
  simp [Op.equal, Op.maxDepth, h 9999]

theorem eql_none {P : Program} {w : World} {tp te : TypeId} (a : Addr) (hp : P.underlying tp = some (.pointer te)) : (binOp .eql tp (.pointer none) (.pointer (some a))).run P w = .ok (.bool false) w := by
  have h : ∀ d : Nat, (Op.equalIn (d + 1) tp (.pointer none) (.pointer (some a))).run P w = .ok false w := fun d => by simp [Op.equalIn, run_underlying hp]
  simp only [binOp]
  simp [Op.equal, Op.maxDepth, h 9999]

theorem info32 : ∃ j, Tryz.prog.info? 179 = some j := by
  have h : (Tryz.prog.info? 179).isSome = true := by kernel_rfl
  exact Option.isSome_iff_exists.1 h

set_option maxHeartbeats 400000 in
theorem rmade_yes {base R : Nat} {lv : Value} {l : List Int} {ended : Bool} {w : World} (h : Rd w base R lv l ended) :
    Calls Tryz.prog 118 #[.pointer (some ⟨R, 0, none⟩)] w fun e w' => e = .returned (.bool true) ∧ w' = w := by
  have h0 := h.c0
  clear h
  obtain ⟨j, hj⟩ := info32
  have he := eql_same (P := Tryz.prog) (w := w) (tp := 149) (te := 179) ⟨R, 0, none⟩ Tryz.underlying149 hj
  go_enter Tryz.func118, Tryz.ntmps118
  go_wp2_with fail
  go_ret
  exact ⟨rfl, rfl⟩

set_option maxHeartbeats 400000 in
theorem rmade_nil (w : World) :
    Calls Tryz.prog 118 #[.pointer none] w fun e w' => e = .returned (.bool false) ∧ w' = w := by
  go_enter Tryz.func118, Tryz.ntmps118
  go_wp2_with fail
  go_ret
  exact ⟨rfl, rfl⟩

set_option maxHeartbeats 400000 in
theorem rmade_zero {R : Nat} {w : World} (h0 : w.cell? ⟨R, 0, none⟩ = some (.pointer none)) :
    Calls Tryz.prog 118 #[.pointer (some ⟨R, 0, none⟩)] w fun e w' => e = .returned (.bool false) ∧ w' = w := by
  have he := eql_none (P := Tryz.prog) (w := w) (tp := 149) (te := 179) ⟨R, 0, none⟩ Tryz.underlying149
  go_enter Tryz.func118, Tryz.ntmps118
  go_wp2_with fail
  go_ret
  exact ⟨rfl, rfl⟩

set_option maxHeartbeats 400000 in
theorem rnew_any (w : World) :
    Calls Tryz.prog 88 #[] w fun e w' => e = .returned (.pointer (some ⟨w.heap.size, 0, none⟩)) ∧ Rd w' w.heap.size w.heap.size (.slice none 0 0) [] false ∧ Below w.heap.size w w' := by
  go_enter Tryz.func88, Tryz.ntmps88
  go_wp2_with fail
  go_ret
  exact ⟨rfl, ⟨heap_alloc_new w _, World.ownsRow_nil _ _ _ _, by simp, Nat.le_refl _⟩, (Below.refl _ w).alloc (Nat.le_refl _) _⟩

end Go.Proofs.YtgbboaedhpaocaaGreat

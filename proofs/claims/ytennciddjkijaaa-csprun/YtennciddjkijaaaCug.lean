/-
  The document's world of tasks: Spawn.
-/
import Derived.Test.YtennciddjkijaaaCuf
namespace Go.Proofs.Ytennciddjkijaaa
open Go.RowKit QI
set_option maxRecDepth 100000
set_option linter.unusedSimpArgs false

theorem infoTk : (Try.prog.info? (72 : TypeId)).map (fun i => (i.zero, i.size, i.bytes)) = some (some (.agg #[.int .i64 0, .int .i64 0, .int .i64 0, .int .i64 0]), 4, 32) := by kernel_rfl

theorem cell_four_new (w : World) (x y z u : Value) (t : TypeId) : ∀ j v, [x, y, z, u][j]? = some v → (w.alloc (.cells #[x, y, z, u] t)).cell? ((⟨w.heap.size, 0, none⟩ : Addr).add j) = some v := by
  intro j v hj
  have hg := heap_alloc_new w (.cells #[x, y, z, u] t)
  rw [Addr.add_lit, cell_of_row _ _ _ _ _ _ hg]
  simpa using hj

section
variable {w w' : World} {L C : Nat} {pv tv lv ev : Value} {σ σ' : Sg} {D : Nat → Prop}

/-- A task behind the others. -/
theorem Rm15.tk1 (m : Rm15 w L C pv σ tv lv ev) {Y X Z : World} {tv' : Value} (prog : Nat) (bY : Below w.heap.size w Y) (r2 : X.ownsRow L (72 : TypeId) 4 tv' (σ.tk.length + 1) (σ.tk.flatMap ptc ++ [.int .i64 prog, .int .i64 0, .int .i64 1, .int .i64 0])) (r3 : Y.grownBy X tv.ownBlock) (r4 : tv'.ownBlock = tv.ownBlock ∨ tv'.ownBlock = some Y.heap.size) (hZ : Hid (Z = X.setCell ⟨C, 1, none⟩ tv')) :
    Rm15 Z L C pv { σ with tk := σ.tk ++ [⟨prog, 0, 1, 0⟩] } tv' lv ev ∧ Tb (dom15 C tv lv ev) w Z ∧ (∀ k, dom15 C tv' lv ev k → dom15 C tv lv ev k ∨ w.heap.size ≤ k) ∧ X.cell? ⟨C, 1, none⟩ = some tv ∧ X.frozen? ⟨C, 1, none⟩ = false := by
  have mY := m.tb (S := fun _ => False) (Tb.of_fresh bY) (fun _ _ h => h)
  have tX : Tb (fun k => tv.ownBlock = some k) Y X := Tb.of_grown r3 (fun k e => e)
  have hCX : X.heap[C]? = some (.cells #[pv, tv, lv, ev] (36 : TypeId) (0, 0)) := (tX.block _ (heap_lt mY.blk) (fun e => row_blk mY.tr mY.blk (by decide) e rfl)).trans mY.blk
  have tZ : Tb (fun k => k = C) X Z := by rw [hZ.out]; exact Tb.set C 1 _ rfl
  have lrX := row_tb mY.lr tX (fun g hg => row_ap mY.lr mY.tr (by decide) hg)
  have erX := row_tb mY.er tX (fun g hg => row_ap mY.er mY.tr (by decide) hg)
  refine ⟨⟨?_, ?_, row_tb lrX tZ (fun g hg => row_blk lrX hCX (by decide) hg), row_tb erX tZ (fun g hg => row_blk erX hCX (by decide) hg), m.lo⟩, ?_, fun k hk => ?_, cell_of_row X _ 1 _ _ _ hCX, frozen_of_row X C 1 _ _ hCX⟩
  · rw [hZ.out, heap_setCell_same X C 1 _ _ _ hCX]
    rfl
  · have e1 : (σ.tk ++ [(⟨prog, 0, 1, 0⟩ : Pt)]).length = σ.tk.length + 1 := by simp
    have e2 : (σ.tk ++ [(⟨prog, 0, 1, 0⟩ : Pt)]).flatMap ptc = σ.tk.flatMap ptc ++ [.int .i64 prog, .int .i64 0, .int .i64 1, .int .i64 0] := by simp [ptc]
    show Z.ownsRow L _ 4 tv' (σ.tk ++ [(⟨prog, 0, 1, 0⟩ : Pt)]).length ((σ.tk ++ [(⟨prog, 0, 1, 0⟩ : Pt)]).flatMap ptc)
    rw [e1, e2]
    exact row_tb r2 tZ (fun g hg => row_blk r2 hCX (by decide) hg)
  · exact ((Tb.of_fresh (S := dom15 C tv lv ev) bY).trans tX (fun k _ e => .inr (.inl e))).trans tZ (fun k _ e => .inl e)
  · rcases hk with hk | hk | hk | hk
    · exact .inl (.inl hk)
    · rcases r4 with e | e
      · rw [e] at hk; exact .inl (.inr (.inl hk))
      · rw [e] at hk
        cases hk
        exact .inr bY.size
    · exact .inl (.inr (.inr (.inl hk)))
    · exact .inl (.inr (.inr (.inr hk)))

theorem Rm15.task (m : Rm15 w L C pv σ tv lv ev) (hL : L ≤ w.heap.size) (hl : σ.tk.length ≤ 1000000) (prog : Nat) : ∃ la lc, tv = .slice la σ.tk.length lc ∧ w.cell? ⟨C, 1, none⟩ = some (.slice la σ.tk.length lc) ∧ ∃ Y, Hid (Y = w.alloc (.cells #[.int .i64 prog, .int .i64 0, .int .i64 1, .int .i64 0] (72 : TypeId))) ∧ ∃ la' lc' X, (Builtin.append_ #[(33 : TypeId), (33 : TypeId)] (33 : TypeId) #[.slice la σ.tk.length lc, .slice (some ⟨w.heap.size, 0, none⟩) 1 1]).run Try.prog Y = .ok (.slice la' (σ.tk.length + 1) lc') X ∧ X.cell? ⟨C, 1, none⟩ = some (.slice la σ.tk.length lc) ∧ X.frozen? ⟨C, 1, none⟩ = false ∧ ∃ Z, Hid (Z = X.setCell ⟨C, 1, none⟩ (.slice la' (σ.tk.length + 1) lc')) ∧ Rm15 Z L C pv { σ with tk := σ.tk ++ [⟨prog, 0, 1, 0⟩] } (.slice la' (σ.tk.length + 1) lc') lv ev ∧ Tb (dom15 C tv lv ev) w Z ∧ (∀ k, dom15 C (.slice la' (σ.tk.length + 1) lc') lv ev k → dom15 C tv lv ev k ∨ w.heap.size ≤ k) := by
  obtain ⟨la, lc, rfl⟩ := row_val m.tr
  obtain ⟨t3, ht3⟩ := Option.map_eq_some_iff.1 infoTk
  simp only [Prod.mk.injEq] at ht3
  have bY := (Below.refl _ w).alloc (Nat.le_refl _) (.cells #[.int .i64 prog, .int .i64 0, .int .i64 1, .int .i64 0] (72 : TypeId))
  have mY := m.tb (S := fun _ => False) (Tb.of_fresh bY) (fun _ _ h => h)
  obtain ⟨v', X, r1, r2, r3, _, r4⟩ := run_append_own_at (P := Try.prog) (w.alloc (.cells #[.int .i64 prog, .int .i64 0, .int .i64 1, .int .i64 0] (72 : TypeId))) L (33 : TypeId) (33 : TypeId) (72 : TypeId) t3 (.agg #[.int .i64 0, .int .i64 0, .int .i64 0, .int .i64 0]) 4 32 Try.underlying33 ht3.1 ht3.2.1 ht3.2.2.1 ht3.2.2.2 (by simp [Value.cells]) (by omega) (.slice la σ.tk.length lc) σ.tk.length _ mY.tr ⟨w.heap.size, 0, none⟩ 1 1 [.int .i64 prog, .int .i64 0, .int .i64 1, .int .i64 0] rfl (cell_four_new w _ _ _ _ _) (by simp [Value.oneCell']) (by unfold maxLen; omega) (by omega) (by have := bY.size; omega)
  obtain ⟨la', lc', rfl⟩ := row_val r2
  obtain ⟨q1, q2, q3, q4, q5⟩ := m.tk1 (Z := X.setCell ⟨C, 1, none⟩ (.slice la' (σ.tk.length + 1) lc')) prog bY r2 r3 r4 (hide rfl)
  exact ⟨la, lc, rfl, cell_of_row w C 1 _ _ _ m.blk, _, hide rfl, la', lc', X, r1, q4, q5, _, hide rfl, q1, q2, q3⟩

def Sg.ct (σ : Sg) (k : Nat) : Nat := (σ.tk.take k).countP fun p => p.st != 0
theorem ct_succ {k : Nat} (hk : k < σ.tk.length) : σ.ct (k + 1) = σ.ct k + if (σ.tk.getD k pt0).st = 0 then 0 else 1 := by
  unfold Sg.ct
  rw [List.take_succ_eq_append_getElem hk, List.countP_append]
  have : σ.tk.getD k pt0 = σ.tk[k] := by simp [List.getD, List.getElem?_eq_getElem hk]
  rw [this]
  by_cases h : σ.tk[k].st = 0 <;> simp [h]
theorem ct_le (k : Nat) : σ.ct k ≤ k := by
  unfold Sg.ct
  exact Nat.le_trans List.countP_le_length (List.length_take_le _ _)
theorem ct_all : σ.ct σ.tk.length = σ.opn := by
  unfold Sg.ct Sg.opn
  rw [List.take_length]
end

end Go.Proofs.Ytennciddjkijaaa

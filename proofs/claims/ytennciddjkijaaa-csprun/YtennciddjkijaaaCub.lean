/-
  The document's world of tasks: a task's fields, the line; ready, Over, pick.
-/
import Derived.Test.YtennciddjkijaaaCua
namespace Go.Proofs.Ytennciddjkijaaa
open Go.RowKit QI
set_option maxRecDepth 100000
set_option linter.unusedSimpArgs false

section
variable {w w' : World} {L C : Nat} {pv tv lv ev : Value} {σ σ' : Sg} {D : Nat → Prop}

/-- The tasks' row as it is read. -/
theorem Rm15.tasks (m : Rm15 w L C pv σ tv lv ev) {i : Nat} {p : Pt} (hi : σ.tk[i]? = some p) : ∃ g cap, tv = .slice (some ⟨g, 0, none⟩) σ.tk.length cap ∧ (∀ j, j < 4 → w.cell? ⟨g, i * 4 + j, none⟩ = (ptc p)[j]? ∧ w.frozen? ⟨g, i * 4 + j, none⟩ = false) ∧
    ∀ (j : Nat) (v : Value) (q : Pt), j < 4 → (ptc p).set j v = ptc q → Rm15 (w.setCell ⟨g, i * 4 + j, none⟩ v) L C pv (σ.put i q) tv lv ev ∧ Tb (dom15 C tv lv ev) w (w.setCell ⟨g, i * 4 + j, none⟩ v) := by
  have hil : i < σ.tk.length := (List.getElem?_eq_some_iff.1 hi).1
  have htr := m.tr
  rcases htr.2 with ⟨_, e2⟩ | ⟨g, cap, cur, rfl, _, hh, _⟩
  · omega
  · refine ⟨g, cap, rfl, fun j hj => ?_, fun j v q hj hq => ?_⟩
    · obtain ⟨_, f, c⟩ := own_set htr (k := i * 4 + j) (by omega) (.int .i64 0)
      exact ⟨c.trans (ptc_get σ.tk hi j hj), f⟩
    · obtain ⟨o, _, _⟩ := own_set htr (k := i * 4 + j) (by omega) v
      have hg : (Value.slice (some ⟨g, 0, none⟩) σ.tk.length cap).ownBlock = some g := rfl
      have t : Tb (fun k => k = g) w (w.setCell ⟨g, i * 4 + j, none⟩ v) := Tb.set g _ v rfl
      refine ⟨⟨(t.block _ (heap_lt m.blk) (fun e => row_blk htr m.blk (by decide) hg e.symm)).trans m.blk, ?_, row_tb m.lr t (fun k hk e => by subst e; exact row_ap htr m.lr (by decide) hg hk), row_tb m.er t (fun k hk e => by subst e; exact row_ap htr m.er (by decide) hg hk), m.lo⟩, t.mono (fun k _ e => by subst e; exact .inr (.inl hg))⟩
      have e1 : (σ.put i q).tk.length = σ.tk.length := by simp [Sg.put]
      rw [e1, show (σ.put i q).tk.flatMap ptc = (σ.tk.flatMap ptc).set (i * 4 + j) v from (ptc_set σ.tk hil q j hj v hi hq).symm]
      exact o

/-- A number behind the line. -/
theorem Rm15.ln1 (m : Rm15 w L C pv σ tv lv ev) {Y X Z : World} {lv' : Value} (x : Int) (bY : Below w.heap.size w Y) (r2 : X.ownsRow L 3 1 lv' (σ.line.length + 1) (QI.W σ.line ++ [.int .i64 x])) (r3 : Y.grownBy X lv.ownBlock) (r4 : lv'.ownBlock = lv.ownBlock ∨ lv'.ownBlock = some Y.heap.size) (hZ : Hid (Z = X.setCell ⟨C, 2, none⟩ lv')) :
    Rm15 Z L C pv { σ with line := σ.line ++ [x] } tv lv' ev ∧ Tb (dom15 C tv lv ev) w Z ∧ (∀ k, dom15 C tv lv' ev k → dom15 C tv lv ev k ∨ w.heap.size ≤ k) ∧ X.cell? ⟨C, 2, none⟩ = some lv ∧ X.frozen? ⟨C, 2, none⟩ = false := by
  have mY := m.tb (S := fun _ => False) (Tb.of_fresh bY) (fun _ _ h => h)
  have tX : Tb (fun k => lv.ownBlock = some k) Y X := Tb.of_grown r3 (fun k e => e)
  have hCX : X.heap[C]? = some (.cells #[pv, tv, lv, ev] (36 : TypeId) (0, 0)) := (tX.block _ (heap_lt mY.blk) (fun e => row_blk mY.lr mY.blk (by decide) e rfl)).trans mY.blk
  have tZ : Tb (fun k => k = C) X Z := by rw [hZ.out]; exact Tb.set C 2 _ rfl
  have trX := row_tb mY.tr tX (fun g hg => row_ap mY.tr mY.lr (by decide) hg)
  have erX := row_tb mY.er tX (fun g hg => row_ap mY.er mY.lr (by decide) hg)
  refine ⟨⟨?_, row_tb trX tZ (fun g hg => row_blk trX hCX (by decide) hg), ?_, row_tb erX tZ (fun g hg => row_blk erX hCX (by decide) hg), m.lo⟩, ?_, fun k hk => ?_, cell_of_row X _ 2 _ _ _ hCX, frozen_of_row X C 2 _ _ hCX⟩
  · rw [hZ.out, heap_setCell_same X C 2 _ _ _ hCX]
    rfl
  · have e1 : (σ.line ++ [x]).length = σ.line.length + 1 := by simp
    have e2 : QI.W (σ.line ++ [x]) = QI.W σ.line ++ [.int .i64 x] := by simp [QI.W]
    show Z.ownsRow L 3 1 lv' (σ.line ++ [x]).length (QI.W (σ.line ++ [x]))
    rw [e1, e2]
    exact row_tb r2 tZ (fun g hg => row_blk r2 hCX (by decide) hg)
  · exact ((Tb.of_fresh (S := dom15 C tv lv ev) bY).trans tX (fun k _ e => .inr (.inr (.inl e)))).trans tZ (fun k _ e => .inl e)
  · rcases hk with hk | hk | hk | hk
    · exact .inl (.inl hk)
    · exact .inl (.inr (.inl hk))
    · rcases r4 with e | e
      · rw [e] at hk; exact .inl (.inr (.inr (.inl hk)))
      · rw [e] at hk
        cases hk
        exact .inr bY.size
    · exact .inl (.inr (.inr (.inr hk)))

/-- The append to the line, as the walks take it. -/
theorem Rm15.line (m : Rm15 w L C pv σ tv lv ev) (hL : L ≤ w.heap.size) (hl : σ.line.length ≤ 1000000) (x : Int) : ∃ la lc, lv = .slice la σ.line.length lc ∧ w.cell? ⟨C, 2, none⟩ = some (.slice la σ.line.length lc) ∧ ∃ Y, Hid (Y = w.alloc (.cells #[.int .i64 x] 3)) ∧ ∃ la' lc' X, (Builtin.append_ #[(34 : TypeId), (34 : TypeId)] (34 : TypeId) #[.slice la σ.line.length lc, .slice (some ⟨w.heap.size, 0, none⟩) 1 1]).run Try.prog Y = .ok (.slice la' (σ.line.length + 1) lc') X ∧ X.cell? ⟨C, 2, none⟩ = some (.slice la σ.line.length lc) ∧ X.frozen? ⟨C, 2, none⟩ = false ∧ ∃ Z, Hid (Z = X.setCell ⟨C, 2, none⟩ (.slice la' (σ.line.length + 1) lc')) ∧ Rm15 Z L C pv { σ with line := σ.line ++ [x] } tv (.slice la' (σ.line.length + 1) lc') ev ∧ Tb (dom15 C tv lv ev) w Z ∧ (∀ k, dom15 C tv (.slice la' (σ.line.length + 1) lc') ev k → dom15 C tv lv ev k ∨ w.heap.size ≤ k) := by
  obtain ⟨la, lc, rfl⟩ := row_val m.lr
  obtain ⟨t3, ht3⟩ := Option.map_eq_some_iff.1 infoE
  simp only [Prod.mk.injEq] at ht3
  have bY := (Below.refl _ w).alloc (Nat.le_refl _) (.cells #[.int .i64 x] 3)
  have mY := m.tb (S := fun _ => False) (Tb.of_fresh bY) (fun _ _ h => h)
  obtain ⟨v', X, r1, r2, r3, _, r4⟩ := run_append_own_at (P := Try.prog) (w.alloc (.cells #[.int .i64 x] 3)) L (34 : TypeId) (34 : TypeId) 3 t3 ((Value.int .i64) 0) 1 8 Try.underlying34 ht3.1 ht3.2.1 ht3.2.2.1 ht3.2.2.2 (by simp [Value.cells]) (by omega) (.slice la σ.line.length lc) σ.line.length _ mY.lr ⟨w.heap.size, 0, none⟩ 1 1 [.int .i64 x] rfl (cell_one_new w _ _) (by simp [Value.oneCell']) (by unfold maxLen; omega) (by omega) (by have := bY.size; omega)
  obtain ⟨la', lc', rfl⟩ := row_val r2
  obtain ⟨q1, q2, q3, q4, q5⟩ := m.ln1 (Z := X.setCell ⟨C, 2, none⟩ (.slice la' (σ.line.length + 1) lc')) x bY r2 r3 r4 (hide rfl)
  exact ⟨la, lc, rfl, cell_of_row w C 2 _ _ _ m.blk, _, hide rfl, la', lc', X, r1, q4, q5, _, hide rfl, q1, q2, q3⟩

set_option maxHeartbeats 1000000 in
theorem rready_any {i : Nat} {p : Pt} (h : Rf w L C pv σ D) (hL : L ≤ w.heap.size) (hl : σ.line.length ≤ 1000000) (htl : σ.tk.length ≤ 1000000) (hi : σ.tk[i]? = some p) :
    Calls Try.prog 48 #[.pointer (some ⟨C, 0, none⟩), .int .i64 i] w fun e w' => e = .returned (.tuple #[]) ∧ ∃ D', Rf w' L C pv (σ.gets i p) D' ∧ Fx w D w' D' := by
  obtain ⟨tv, lv, ev, m, hd⟩ := h.ex
  obtain ⟨g, cap, rfl, hc, hset⟩ := m.tasks hi
  have c1 : w.cell? ⟨C, 1, none⟩ = some (.slice (some ⟨g, 0, none⟩) σ.tk.length cap) := cell_of_row w C 1 _ _ _ m.blk
  obtain ⟨d2, f2⟩ := hc 2 (by omega)
  have d2' : w.cell? ⟨g, i * 4 + 2, none⟩ = some (.int .i64 p.st) := d2
  obtain ⟨m2, t2⟩ := hset 2 (.int .i64 1) { p with st := 1 } (by omega) rfl
  obtain ⟨X, hX⟩ : ∃ X, Hid (X = w.setCell ⟨g, i * 4 + 2, none⟩ (.int .i64 1)) := ⟨_, hide rfl⟩
  rw [← hX.out] at m2 t2
  have hLX : L ≤ X.heap.size := Nat.le_trans hL t2.size
  obtain ⟨la, lc, hlv, k1, Y, hY, la', lc', V, r1, k2, k3, Z, hZ, mZ, tZ, dZ⟩ := m2.line hLX hl (i : Int)
  have il : i < σ.tk.length := (List.getElem?_eq_some_iff.1 hi).1
  have HF : Hid (∃ D', Rf Z L C pv (σ.gets i p) D' ∧ Fx w D Z D') := hide ⟨_, ⟨_, _, _, mZ, fun k => Iff.rfl⟩, ⟨(t2.trans tZ (fun k _ e => e)).mono (fun k _ hk => (hd k).2 hk), fun k hk => (dZ k hk).elim (fun h' => .inl ((hd k).2 h')) (fun h' => .inr (by have := t2.size; omega))⟩⟩
  have hlq : (σ.put i { p with st := 1 }).line.length = σ.line.length := rfl
  rw [hlq] at k1 r1 k2 hZ
  obtain ⟨N, hN⟩ : ∃ N, Hid (N = σ.line.length) := ⟨_, hide rfl⟩
  obtain ⟨T, hT⟩ : ∃ T, Hid (T = σ.tk.length) := ⟨_, hide rfl⟩
  rw [← hN.out] at k1 r1 k2 hZ
  rw [← hT.out] at c1 il htl
  have hii : (i : Int) < (T : Int) := by omega
  have hT9 : (T : Int) ≤ 9223372036854775807 := by omega
  obtain ⟨G, hG⟩ : ∃ G, Hid (G = X.heap.size) := ⟨_, hide rfl⟩
  rw [← hG.out] at r1
  have HG : Hid (X.heap.size = G) := hide hG.out.symm
  clear h hL hl m m2 t2 hset hc hd mZ tZ dZ d2 hLX hi
  go_enter Try.func48, Try.ntmps48
  go_wp2_with (first | (rw [← hX.out]) | (rw [← hY.out, HG.out]) | (at_builtin; refine wpList_append_run rfl (34 : TypeId) _ _ rfl (.slice la N lc) (.slice (some ⟨G, 0, none⟩) 1 1) (.slice la' (N + 1) lc') (by simp [Act.eval]) (by simp [Act.eval]) r1 ?_))
  rw [← hZ.out]
  go_end0
  exact ⟨rfl, HF.out⟩

theorem rover_any {i : Nat} {p : Pt} (h : Rf w L C pv σ D) (htl : σ.tk.length ≤ 1000000) (hi : σ.tk[i]? = some p) :
    Calls Try.prog 17 #[.pointer (some ⟨C, 0, none⟩), .int .i64 i] w fun e w' => e = .returned (.bool (decide (p.st = 0))) ∧ w' = w := by
  obtain ⟨tv, lv, ev, m, hd⟩ := h.ex
  obtain ⟨g, cap, rfl, hc, hset⟩ := m.tasks hi
  have c1 : w.cell? ⟨C, 1, none⟩ = some (.slice (some ⟨g, 0, none⟩) σ.tk.length cap) := cell_of_row w C 1 _ _ _ m.blk
  have d2' : w.cell? ⟨g, i * 4 + 2, none⟩ = some (.int .i64 p.st) := (hc 2 (by omega)).1
  have il : i < σ.tk.length := (List.getElem?_eq_some_iff.1 hi).1
  obtain ⟨T, hT⟩ : ∃ T, Hid (T = σ.tk.length) := ⟨_, hide rfl⟩
  rw [← hT.out] at c1 il htl
  have hii : (i : Int) < (T : Int) := by omega
  have hT9 : (T : Int) ≤ 9223372036854775807 := by omega
  generalize p.st = st at *
  clear h m hd hc hset hi
  by_cases h0 : st = 0
  · subst h0
    go_enter Try.func17, Try.ntmps17
    go_wp2_with fail
    go_ret
    exact ⟨rfl, rfl⟩
  · have q0 : ((st : Int) == 0) = false := by rw [beq_eq_false_iff_ne]; omega
    go_enter Try.func17, Try.ntmps17
    go_wp2_with fail
    go_ret
    exact ⟨by simp [h0], rfl⟩
end

end Go.Proofs.Ytennciddjkijaaa

/-
  The document's world of tasks: a step, walked.
-/
import Derived.Test.YtennciddjkijaaaCui
namespace Go.Proofs.Ytennciddjkijaaa
open Go.RowKit QI
set_option maxRecDepth 100000
set_option linter.unusedSimpArgs false

section
variable {w w' : World} {L C : Nat} {pv : Value} {σ σ' : Sg} {D Pb : Nat → Prop} {pa : Option Addr} {np pcap : Nat} {ps : List (List Dop)}

theorem rstep_no (h : Rf w L C pv σ D) (hl : σ.line = []) (p : Nat) :
    Calls Try.prog 12 #[.pointer (some ⟨C, 0, none⟩), .int .u64 p] w fun e w' => e = .returned (.bool false) ∧ w' = w := by
  obtain ⟨tv, lv, ev, m, hd⟩ := h.ex
  obtain ⟨la, lc, rfl⟩ := row_val m.lr
  have c2 : w.cell? ⟨C, 2, none⟩ = some (.slice la 0 lc) := by
    have := cell_of_row w C 2 _ _ _ m.blk
    rw [hl] at this
    exact this
  have CP := refpick_no (w := w) la lc (p : Int)
  clear h m hd
  go_enter Try.func12, Try.ntmps12
  go_wp2_with fail
  refine CP.mono ?_
  rintro e w1 ⟨rfl, rfl⟩
  go_wp2_with fail
  go_ret
  exact ⟨rfl, rfl⟩

/-- Up to the turn's event. -/
theorem Rf.first (h : Rf w L C pv σ D) (hL : L ≤ w.heap.size) {i j n : Nat} {pt : Pt} (hn : n = σ.line.length) (hj : j < n) (hi : σ.tk[i]? = some pt) (hev : σ.ev.length ≤ 1000000) :
    ∃ la lc, w.cell? ⟨C, 2, none⟩ = some (.slice la n lc) ∧ Ls w la n lc σ.line ∧ ∀ w1 va vc, w1.ownsRow w.heap.size 3 1 (.slice va (n - 1) vc) (n - 1) (QI.W (σ.line.eraseIdx j)) → Below w.heap.size w w1 →
      w1.cell? ⟨C, 2, none⟩ = some (.slice la n lc) ∧ w1.frozen? ⟨C, 2, none⟩ = false ∧ ∃ Z, Hid (Z = w1.setCell ⟨C, 2, none⟩ (.slice va (n - 1) vc)) ∧
      ∃ g cap, Z.cell? ⟨C, 1, none⟩ = some (.slice (some ⟨g, 0, none⟩) σ.tk.length cap) ∧ Z.cell? ⟨g, i * 4, none⟩ = some (.int .i64 pt.prog) ∧ Z.cell? ⟨g, i * 4 + 1, none⟩ = some (.int .i64 pt.at') ∧ Z.cell? ⟨g, i * 4 + 2, none⟩ = some (.int .i64 pt.st) ∧ Z.cell? ⟨g, i * 4 + 3, none⟩ = some (.int .i64 pt.why) ∧
      ∃ A G, Hid (Z.heap.size = G) ∧ Hid (A = Z.alloc (.cells #[.int .i64 pt.prog, .int .i64 pt.at', .int .i64 pt.st, .int .i64 pt.why] (72 : TypeId))) ∧ A.cell? ⟨G, 1, none⟩ = some (.int .i64 pt.at') ∧ A.cell? ⟨G, 3, none⟩ = some (.int .i64 pt.why) ∧
      Calls Try.prog 47 #[.pointer (some ⟨C, 0, none⟩), .int .i64 i, .int .i64 pt.at', .int .i64 pt.why] A fun e w' => e = .returned (.tuple #[]) ∧ ∃ D', Rf w' L C pv (({ σ with line := σ.line.eraseIdx j } : Sg).note i pt.at' pt.why) D' ∧ Fx w D w' D' ∧ ¬ D' G ∧ w'.heap[G]? = some (.cells #[.int .i64 pt.prog, .int .i64 pt.at', .int .i64 pt.st, .int .i64 pt.why] (72 : TypeId) (0, 0)) := by
  obtain ⟨tv, lv, ev, m, hd⟩ := h.ex
  obtain ⟨la, lc, rfl⟩ := row_val m.lr
  subst hn
  refine ⟨la, lc, cell_of_row w C 2 _ _ _ m.blk, own_ls m.lr, fun w1 va vc o b => ?_⟩
  have hel : (σ.line.eraseIdx j).length = σ.line.length - 1 := by rw [List.length_eraseIdx, if_pos hj]
  obtain ⟨Z, hZ⟩ : ∃ Z, Hid (Z = w1.setCell ⟨C, 2, none⟩ (.slice va (σ.line.length - 1) vc)) := ⟨_, hide rfl⟩
  obtain ⟨mZ, tZ, dZ, q1, q2⟩ := m.pick hel.symm hL b o hZ
  have hi' : ({ σ with line := σ.line.eraseIdx j } : Sg).tk[i]? = some pt := hi
  obtain ⟨g, cap, rfl, hc, _⟩ := mZ.tasks hi'
  have zz := tZ.size
  obtain ⟨A, hA⟩ : ∃ A, Hid (A = Z.alloc (.cells #[.int .i64 pt.prog, .int .i64 pt.at', .int .i64 pt.st, .int .i64 pt.why] (72 : TypeId))) := ⟨_, hide rfl⟩
  have bA : Below Z.heap.size Z A := by rw [hA.out]; exact (Below.refl _ Z).alloc (Nat.le_refl _) _
  have hAG : A.heap[Z.heap.size]? = some (.cells #[.int .i64 pt.prog, .int .i64 pt.at', .int .i64 pt.st, .int .i64 pt.why] (72 : TypeId) (0, 0)) := by rw [hA.out]; exact heap_alloc_new Z _
  have rZ : Rf Z L C pv { σ with line := σ.line.eraseIdx j } (dom15 C (.slice (some ⟨g, 0, none⟩) σ.tk.length cap) (.slice va (σ.line.length - 1) vc) ev) := ⟨_, _, _, mZ, fun k => Iff.rfl⟩
  have fZ : Fx w D Z (dom15 C (.slice (some ⟨g, 0, none⟩) σ.tk.length cap) (.slice va (σ.line.length - 1) vc) ev) := ⟨tZ.mono (fun k _ hk => (hd k).2 hk), fun k hk => (dZ k hk).elim (fun h' => .inl ((hd k).2 h')) .inr⟩
  have hlA : L ≤ A.heap.size := by have := bA.size; omega
  refine ⟨q1, q2, Z, hZ, g, cap, cell_of_row Z C 1 _ _ _ mZ.blk, (hc 0 (by omega)).1, (hc 1 (by omega)).1, (hc 2 (by omega)).1, (hc 3 (by omega)).1, A, Z.heap.size, hide rfl, hA, cell_of_row A _ 1 _ _ _ hAG, cell_of_row A _ 3 _ _ _ hAG, ?_⟩
  refine (rnote_any (rZ.below bA) hlA hev i pt.at' pt.why).mono ?_
  rintro e w' ⟨rfl, D', r', x'⟩
  have hG : ¬ dom15 C (.slice (some ⟨g, 0, none⟩) σ.tk.length cap) (.slice va (σ.line.length - 1) vc) ev Z.heap.size := fun hk => by have := (rZ.lt hk).2; omega
  have hlG := heap_lt hAG
  exact ⟨rfl, D', r', fZ.trans ((Fx.box bA).trans x'), fun hk => (x'.dom _ hk).elim hG (fun h' => by omega), (x'.tb.block _ hlG hG).trans hAG⟩

/-- What a task is to do, as it is read. -/
theorem Pg.prep {D2 : Nat → Prop} {i1 : Pt} {d : Dop} (hP : Pg w Pb D2 pa np pcap ps) (h2 : Rf w L C (.slice pa np pcap) σ D2) (hprog : i1.prog < np) (hd : d = dop ps i1) :
    ∃ pb po da dn dc, pa = some ⟨pb, po, none⟩ ∧ dn ≤ dc ∧ dn ≤ 9223372036854775807 ∧ Hid (∀ V, Below w.heap.size w V → V.cell? ⟨C, 0, none⟩ = some (.slice (some ⟨pb, po, none⟩) np pcap) ∧ V.cell? ⟨pb, po + i1.prog, none⟩ = some (.slice da dn dc)) ∧
      (dn ≤ i1.at' → d = (0, 0, 0)) ∧ (i1.at' < dn → ∃ db dof, da = some ⟨db, dof, none⟩ ∧ I6 d.1 ∧ I6 d.2.1 ∧ I6 d.2.2 ∧ Hid (∀ V, Below w.heap.size w V → V.cell? ⟨db, dof + i1.at' * 3, none⟩ = some (.int .i64 d.1) ∧ V.cell? ⟨db, dof + i1.at' * 3 + 1, none⟩ = some (.int .i64 d.2.1) ∧ V.cell? ⟨db, dof + i1.at' * 3 + 2, none⟩ = some (.int .i64 d.2.2))) := by
  obtain ⟨pb, po, hPb, hpa, hc⟩ := hP.pgs.lies (by omega)
  obtain ⟨da, dn, dc, k1, k2⟩ := hc i1.prog hprog
  have c0 := h2.c0
  subst hpa
  unfold dop at hd
  refine ⟨pb, po, da, dn, dc, rfl, k2.le, by have := k2.reach; have := k2.le; omega, hide (fun V hV => ⟨(hV.cell (cell_lt c0)).trans c0, (hV.cell (cell_lt k1)).trans k1⟩), fun hle => ?_, fun hlt => ?_⟩
  · rw [hd]
    have := k2.len
    simp [List.getD, List.getElem?_eq_none (show ((ps[i1.prog]?).getD []).length ≤ i1.at' by simpa [List.getD] using (by omega : (ps.getD i1.prog []).length ≤ i1.at'))]
  · obtain ⟨db, dof, _, hda, hcc⟩ := k2.lies (by omega)
    obtain ⟨j1, j2, j3⟩ := hcc i1.at' hlt
    rw [← hd] at j1 j2 j3
    have hmem : d ∈ ps.getD i1.prog [] := by
      rw [hd]
      have hl2 : i1.at' < (ps.getD i1.prog []).length := by rw [k2.len]; exact hlt
      generalize ps.getD i1.prog [] = l at hl2
      have : l.getD i1.at' (0, 0, 0) = l[i1.at'] := by simp [List.getD, List.getElem?_eq_getElem hl2]
      rw [this]
      exact List.getElem_mem hl2
    obtain ⟨i1, i2, i3⟩ := k2.i6 d hmem
    exact ⟨db, dof, hda, i1, i2, i3, hide (fun V hV => ⟨(hV.cell (cell_lt j1)).trans j1, (hV.cell (cell_lt j2)).trans j2, (hV.cell (cell_lt j3)).trans j3⟩)⟩

/-- What is to be done lies there: the task is at work. -/
theorem Rf.work {w0 Y : World} {D0 D2 : Nat → Prop} {i dv : Nat} {pt : Pt} {d : Dop} (h2 : Rf w L C pv σ D2) (hF : Fx w0 D0 w D2) (hL : L ≤ w.heap.size) (hi : σ.tk[i]? = some pt) (hdv : Hid (w.heap.size = dv)) (bY : Below w.heap.size w Y) (hY : Y.heap[dv]? = some (.cells #[.int .i64 d.1, .int .i64 d.2.1, .int .i64 d.2.2] (67 : TypeId) (0, 0))) :
    ∃ g cap, Y.cell? ⟨C, 1, none⟩ = some (.slice (some ⟨g, 0, none⟩) σ.tk.length cap) ∧ Y.cell? ⟨g, i * 4 + 1, none⟩ = some (.int .i64 pt.at') ∧ Y.frozen? ⟨g, i * 4 + 1, none⟩ = false ∧
    ∃ X1, Hid (X1 = Y.setCell ⟨g, i * 4 + 1, none⟩ (.int .i64 ((pt.at' : Int) + 1))) ∧ X1.cell? ⟨C, 1, none⟩ = some (.slice (some ⟨g, 0, none⟩) σ.tk.length cap) ∧ X1.cell? ⟨g, i * 4 + 3, none⟩ = some (.int .i64 pt.why) ∧ X1.frozen? ⟨g, i * 4 + 3, none⟩ = false ∧
    ∃ X2, Hid (X2 = X1.setCell ⟨g, i * 4 + 3, none⟩ (.int .i64 0)) ∧ X2.cell? ⟨C, 1, none⟩ = some (.slice (some ⟨g, 0, none⟩) σ.tk.length cap) ∧ X2.cell? ⟨g, i * 4 + 2, none⟩ = some (.int .i64 pt.st) ∧ X2.frozen? ⟨g, i * 4 + 2, none⟩ = false ∧
    ∃ X3, Hid (X3 = X2.setCell ⟨g, i * 4 + 2, none⟩ (.int .i64 2)) ∧ Rd w0 L C pv D0 dv d (σ.put i ⟨pt.prog, pt.at' + 1, 2, 0⟩) X3 := by
  obtain rfl := hdv.out
  have hn : ¬ D2 w.heap.size := fun hk => by have := (h2.lt hk).2; omega
  obtain ⟨tv, lv, ev, m, hd⟩ := (h2.below bY).ex
  obtain ⟨g, cap, rfl, c1, d1, f1, X1, hX1, cX1, d3, f3, X2, hX2, cX2, d2, f2, X3, hX3, m3, t3⟩ := m.begins hi
  refine ⟨g, cap, c1, d1, f1, X1, hX1, cX1, d3, f3, X2, hX2, cX2, d2, f2, X3, hX3, ?_⟩
  have r0 : Rd w0 L C pv D0 w.heap.size d σ Y := ⟨⟨D2, h2.below bY, hF.trans (Fx.box bY), hn⟩, hY, Nat.le_trans hL bY.size⟩
  exact r0.fx (hF.trans (Fx.box bY)) hn ⟨_, _, _, m3, hd⟩ ⟨t3.mono (fun k _ hk => (hd k).2 hk), fun k hk => .inl hk⟩
end

end Go.Proofs.Ytennciddjkijaaa

/-
  The document's world of tasks: a turn begins; the world with what is to be done beside it.
-/
import Derived.Test.YtennciddjkijaaaCuh
import Derived.Test.YtennciddjkijaaaCsh
namespace Go.Proofs.Ytennciddjkijaaa
open Go.RowKit QI
set_option maxRecDepth 100000
set_option linter.unusedSimpArgs false

section
variable {w w' : World} {L C : Nat} {pv tv lv ev : Value} {σ σ' : Sg} {D : Nat → Prop}

/-- A new line. -/
theorem Rm15.pick (m : Rm15 w L C pv σ tv lv ev) {V Z : World} {lv' : Value} {xs : List Int} {n : Nat} (hn : n = xs.length) (hL : L ≤ w.heap.size) (bV : Below w.heap.size w V) (o : V.ownsRow w.heap.size 3 1 lv' n (QI.W xs)) (hZ : Hid (Z = V.setCell ⟨C, 2, none⟩ lv')) :
    Rm15 Z L C pv { σ with line := xs } tv lv' ev ∧ Tb (dom15 C tv lv ev) w Z ∧ (∀ k, dom15 C tv lv' ev k → dom15 C tv lv ev k ∨ w.heap.size ≤ k) ∧ V.cell? ⟨C, 2, none⟩ = some lv ∧ V.frozen? ⟨C, 2, none⟩ = false := by
  have mV := m.tb (S := fun _ => False) (Tb.of_fresh bV) (fun _ _ h => h)
  have oL := own_base o hL
  subst hn
  have tZ : Tb (fun k => k = C) V Z := by rw [hZ.out]; exact Tb.set C 2 _ rfl
  refine ⟨⟨?_, row_tb mV.tr tZ (fun g hg => row_blk mV.tr mV.blk (by decide) hg), ?_, row_tb mV.er tZ (fun g hg => row_blk mV.er mV.blk (by decide) hg), m.lo⟩, ?_, fun k hk => ?_, cell_of_row V _ 2 _ _ _ mV.blk, frozen_of_row V C 2 _ _ mV.blk⟩
  · rw [hZ.out, heap_setCell_same V C 2 _ _ _ mV.blk]
    rfl
  · exact row_tb oL tZ (fun g hg => row_blk oL mV.blk (by decide) hg)
  · exact (Tb.of_fresh (S := dom15 C tv lv ev) bV).trans tZ (fun k _ e => .inl e)
  · rcases hk with hk | hk | hk | hk
    · exact .inl (.inl hk)
    · exact .inl (.inr (.inl hk))
    · exact .inr (o.lt k hk).1
    · exact .inl (.inr (.inr (.inr hk)))

/-- A task's turn begins. -/
theorem Rm15.begins (m : Rm15 w L C pv σ tv lv ev) {i : Nat} {p : Pt} (hi : σ.tk[i]? = some p) : ∃ g cap, tv = .slice (some ⟨g, 0, none⟩) σ.tk.length cap ∧ w.cell? ⟨C, 1, none⟩ = some (.slice (some ⟨g, 0, none⟩) σ.tk.length cap) ∧ w.cell? ⟨g, i * 4 + 1, none⟩ = some (.int .i64 p.at') ∧ w.frozen? ⟨g, i * 4 + 1, none⟩ = false ∧
    ∃ X1, Hid (X1 = w.setCell ⟨g, i * 4 + 1, none⟩ (.int .i64 ((p.at' : Int) + 1))) ∧ X1.cell? ⟨C, 1, none⟩ = some (.slice (some ⟨g, 0, none⟩) σ.tk.length cap) ∧ X1.cell? ⟨g, i * 4 + 3, none⟩ = some (.int .i64 p.why) ∧ X1.frozen? ⟨g, i * 4 + 3, none⟩ = false ∧
    ∃ X2, Hid (X2 = X1.setCell ⟨g, i * 4 + 3, none⟩ (.int .i64 0)) ∧ X2.cell? ⟨C, 1, none⟩ = some (.slice (some ⟨g, 0, none⟩) σ.tk.length cap) ∧ X2.cell? ⟨g, i * 4 + 2, none⟩ = some (.int .i64 p.st) ∧ X2.frozen? ⟨g, i * 4 + 2, none⟩ = false ∧
    ∃ X3, Hid (X3 = X2.setCell ⟨g, i * 4 + 2, none⟩ (.int .i64 2)) ∧ Rm15 X3 L C pv (σ.put i ⟨p.prog, p.at' + 1, 2, 0⟩) tv lv ev ∧ Tb (dom15 C tv lv ev) w X3 := by
  have il : i < σ.tk.length := (List.getElem?_eq_some_iff.1 hi).1
  obtain ⟨g, cap, rfl, hc, hset⟩ := m.tasks hi
  obtain ⟨d1, f1⟩ := hc 1 (by omega)
  obtain ⟨m1, t1⟩ := hset 1 (.int .i64 ((p.at' : Int) + 1)) ⟨p.prog, p.at' + 1, p.st, p.why⟩ (by omega) (by simp [ptc])
  obtain ⟨X1, hX1⟩ : ∃ X1, Hid (X1 = w.setCell ⟨g, i * 4 + 1, none⟩ (.int .i64 ((p.at' : Int) + 1))) := ⟨_, hide rfl⟩
  rw [← hX1.out] at m1 t1
  have hi1 : (σ.put i ⟨p.prog, p.at' + 1, p.st, p.why⟩).tk[i]? = some ⟨p.prog, p.at' + 1, p.st, p.why⟩ := by simp [Sg.put, il]
  obtain ⟨g1, cap1, hg1, hc1, hset1⟩ := m1.tasks hi1
  simp only [Value.slice.injEq, Option.some.injEq, Addr.mk.injEq] at hg1
  obtain ⟨⟨rfl, _, _⟩, _, rfl⟩ := hg1
  obtain ⟨d3, f3⟩ := hc1 3 (by omega)
  obtain ⟨m2, t2⟩ := hset1 3 (.int .i64 0) ⟨p.prog, p.at' + 1, p.st, 0⟩ (by omega) rfl
  obtain ⟨X2, hX2⟩ : ∃ X2, Hid (X2 = X1.setCell ⟨g, i * 4 + 3, none⟩ (.int .i64 0)) := ⟨_, hide rfl⟩
  rw [← hX2.out] at m2 t2
  have hp2 : (σ.put i ⟨p.prog, p.at' + 1, p.st, p.why⟩).put i ⟨p.prog, p.at' + 1, p.st, 0⟩ = σ.put i ⟨p.prog, p.at' + 1, p.st, 0⟩ := by simp [Sg.put]
  rw [hp2] at m2
  have hi2 : (σ.put i ⟨p.prog, p.at' + 1, p.st, 0⟩).tk[i]? = some ⟨p.prog, p.at' + 1, p.st, 0⟩ := by simp [Sg.put, il]
  obtain ⟨g2, cap2, hg2, hc2, hset2⟩ := m2.tasks hi2
  simp only [Value.slice.injEq, Option.some.injEq, Addr.mk.injEq] at hg2
  obtain ⟨⟨rfl, _, _⟩, _, rfl⟩ := hg2
  obtain ⟨d2, f2⟩ := hc2 2 (by omega)
  obtain ⟨m3, t3⟩ := hset2 2 (.int .i64 2) ⟨p.prog, p.at' + 1, 2, 0⟩ (by omega) rfl
  have hp3 : (σ.put i ⟨p.prog, p.at' + 1, p.st, 0⟩).put i ⟨p.prog, p.at' + 1, 2, 0⟩ = σ.put i ⟨p.prog, p.at' + 1, 2, 0⟩ := by simp [Sg.put]
  rw [hp3] at m3
  have e1 : (σ.put i ⟨p.prog, p.at' + 1, p.st, p.why⟩).tk.length = σ.tk.length := by simp [Sg.put]
  have cX1 := cell_of_row X1 C 1 _ _ _ m1.blk
  have cX2 := cell_of_row X2 C 1 _ _ _ m2.blk
  exact ⟨g, cap, rfl, cell_of_row w C 1 _ _ _ m.blk, d1, f1, X1, hX1, cX1, d3, f3, X2, hX2, cX2, d2, f2, _, hide rfl, m3, (t1.trans t2 (fun k _ e => e)).trans t3 (fun k _ e => e)⟩

/-- A task over, or parked. -/
theorem Rm15.state (m : Rm15 w L C pv σ tv lv ev) {i : Nat} {p : Pt} (hi : σ.tk[i]? = some p) (s : Nat) : ∃ g cap, tv = .slice (some ⟨g, 0, none⟩) σ.tk.length cap ∧ w.cell? ⟨C, 1, none⟩ = some (.slice (some ⟨g, 0, none⟩) σ.tk.length cap) ∧ w.cell? ⟨g, i * 4 + 2, none⟩ = some (.int .i64 p.st) ∧ w.frozen? ⟨g, i * 4 + 2, none⟩ = false ∧
    ∃ X, Hid (X = w.setCell ⟨g, i * 4 + 2, none⟩ (.int .i64 s)) ∧ Rm15 X L C pv (σ.put i { p with st := s }) tv lv ev ∧ Tb (dom15 C tv lv ev) w X := by
  obtain ⟨g, cap, rfl, hc, hset⟩ := m.tasks hi
  obtain ⟨d1, f1⟩ := hc 2 (by omega)
  obtain ⟨m1, t1⟩ := hset 2 (.int .i64 s) { p with st := s } (by omega) rfl
  exact ⟨g, cap, rfl, cell_of_row w C 1 _ _ _ m.blk, d1, f1, _, hide rfl, m1, t1⟩

theorem Fx.box {w w' : World} {D : Nat → Prop} (hb : Below w.heap.size w w') : Fx w D w' D := ⟨Tb.of_fresh hb, fun _ h => .inl h⟩
end

/-- The document's world in the midst of a turn: what is to be done lies beside it. -/
structure Rd (w0 : World) (L C : Nat) (pv : Value) (D0 : Nat → Prop) (dv : Nat) (d : Dop) (σ : Sg) (w : World) : Prop where
  ex : ∃ D, Rf w L C pv σ D ∧ Fx w0 D0 w D ∧ ¬ D dv
  dv : w.heap[dv]? = some (.cells #[.int .i64 d.1, .int .i64 d.2.1, .int .i64 d.2.2] (67 : TypeId) (0, 0))
  lo : L ≤ w.heap.size

section
variable {w0 w w' : World} {L C dv : Nat} {pv : Value} {σ σ' : Sg} {D0 : Nat → Prop} {d : Dop}

theorem Rd.fx (h : Rd w0 L C pv D0 dv d σ w) {D D' : Nat → Prop} (hF : Fx w0 D0 w D) (hn : ¬ D dv) (hr : Rf w' L C pv σ' D') (hx : Fx w D w' D') : Rd w0 L C pv D0 dv d σ' w' := by
  have hl := heap_lt h.dv
  refine ⟨⟨D', hr, hF.trans hx, fun hd => (hx.dom dv hd).elim hn (fun h' => by omega)⟩, (hx.tb.block _ hl hn).trans h.dv, Nat.le_trans h.lo hx.tb.size⟩
theorem Rd.call {fn : FuncId} {args : Array Value} {Q : Ending → Prop} (h : Rd w0 L C pv D0 dv d σ w) (hc : ∀ D, Rf w L C pv σ D → Calls Try.prog fn args w fun e w' => Q e ∧ ∃ D', Rf w' L C pv σ' D' ∧ Fx w D w' D') : Calls Try.prog fn args w fun e w' => Q e ∧ Rd w0 L C pv D0 dv d σ' w' := by
  obtain ⟨D, h1, h2, h3⟩ := h.ex
  refine (hc D h1).mono ?_
  rintro e w' ⟨q, D', r, x⟩
  exact ⟨q, h.fx h2 h3 r x⟩
theorem Rd.below (h : Rd w0 L C pv D0 dv d σ w) (hb : Below w.heap.size w w') : Rd w0 L C pv D0 dv d σ w' := by
  obtain ⟨D, h1, h2, h3⟩ := h.ex
  exact h.fx h2 h3 (h1.below hb) (Fx.box hb)
theorem Rd.state (h : Rd w0 L C pv D0 dv d σ w) {i : Nat} {p : Pt} (hi : σ.tk[i]? = some p) (s : Nat) : ∃ g cap, w.cell? ⟨C, 1, none⟩ = some (.slice (some ⟨g, 0, none⟩) σ.tk.length cap) ∧ w.cell? ⟨g, i * 4 + 2, none⟩ = some (.int .i64 p.st) ∧ w.frozen? ⟨g, i * 4 + 2, none⟩ = false ∧
    ∃ X, Hid (X = w.setCell ⟨g, i * 4 + 2, none⟩ (.int .i64 s)) ∧ Rd w0 L C pv D0 dv d (σ.put i { p with st := s }) X := by
  obtain ⟨D, h1, h2, h3⟩ := h.ex
  obtain ⟨tv, lv, ev, m, hd⟩ := h1.ex
  obtain ⟨g, cap, htv, c1, c2, f2, X, hX, mX, tX⟩ := m.state hi s
  exact ⟨g, cap, c1, c2, f2, X, hX, h.fx h2 h3 ⟨tv, lv, ev, mX, hd⟩ ⟨tX.mono (fun k _ hk => (hd k).2 hk), fun k hk => .inl hk⟩⟩
theorem Rd.v0 (h : Rd w0 L C pv D0 dv d σ w) : w.cell? ⟨dv, 0, none⟩ = some (.int .i64 d.1) := cell_of_row w _ 0 _ _ _ h.dv
theorem Rd.v1 (h : Rd w0 L C pv D0 dv d σ w) : w.cell? ⟨dv, 1, none⟩ = some (.int .i64 d.2.1) := cell_of_row w _ 1 _ _ _ h.dv
theorem Rd.v2 (h : Rd w0 L C pv D0 dv d σ w) : w.cell? ⟨dv, 2, none⟩ = some (.int .i64 d.2.2) := cell_of_row w _ 2 _ _ _ h.dv
theorem Rf.c0 {D : Nat → Prop} (h : Rf w L C pv σ D) : w.cell? ⟨C, 0, none⟩ = some pv := by
  obtain ⟨tv, lv, ev, m, _⟩ := h.ex
  exact cell_of_row w C 0 _ _ _ m.blk
theorem Rd.c0 (h : Rd w0 L C pv D0 dv d σ w) : w.cell? ⟨C, 0, none⟩ = some pv := by
  obtain ⟨D, h1, _⟩ := h.ex
  exact h1.c0

theorem gets_fin (σ : Sg) (i : Nat) (q : Pt) : (σ.gets i q).fin i = σ.gets i q := by
  unfold Sg.fin
  rw [if_neg]
  by_cases h : i < σ.tk.length
  · simp [Sg.gets, List.getD, List.getElem?_set, h]
  · have h' := Nat.le_of_not_lt h
    simp [Sg.gets, List.getD, List.getElem?_eq_none (show (σ.tk.set i { q with st := 1 }).length ≤ i by simpa using h'), pt0]
theorem note_fin (σ : Sg) (i : Nat) (a b c : Int) (h : σ.fin i = σ) : (σ.note a b c).fin i = σ.note a b c := by
  unfold Sg.fin at h ⊢
  by_cases h2 : (σ.tk.getD i pt0).st = 2
  · rw [if_pos h2] at h
    have h3 : ((σ.put i { σ.tk.getD i pt0 with st := 0 }).tk.getD i pt0).st = 2 := by rw [h]; exact h2
    exfalso
    by_cases hl : i < σ.tk.length
    · simp [Sg.put, List.getD, List.getElem?_set, hl] at h3
    · rw [List.getD_eq_getElem?_getD, List.getElem?_eq_none (show σ.tk.length ≤ i by omega)] at h2
      simp [pt0] at h2
  · rw [if_neg]
    exact h2
theorem put_fin3 (σ : Sg) (i : Nat) (q : Pt) : (σ.put i { q with st := 3 }).fin i = σ.put i { q with st := 3 } := by
  unfold Sg.fin
  rw [if_neg]
  by_cases h : i < σ.tk.length
  · simp [Sg.put, List.getD, List.getElem?_set, h]
  · have h' := Nat.le_of_not_lt h
    simp [Sg.put, List.getD, List.getElem?_eq_none (show (σ.tk.set i { q with st := 3 }).length ≤ i by simpa using h'), pt0]
theorem fin_put {σ : Sg} {i : Nat} {q : Pt} (h : σ.tk[i]? = some q) (h2 : q.st = 2) : σ.fin i = σ.put i { q with st := 0 } := by
  have e : σ.tk.getD i pt0 = q := by simp [List.getD, h]
  unfold Sg.fin
  rw [e, if_pos h2]
theorem wake_keep {σ : Sg} {i : Nat} {q : Pt} (h : σ.tk[i]? = some q) (h2 : q.st = 2) (k why : Int) : (σ.wake k why).tk[i]? = some q := by
  unfold Sg.wake
  by_cases hw : σ.waits k = true
  · rw [if_pos hw]
    have hne : k.toNat ≠ i := by
      intro e
      simp only [Sg.waits, Bool.and_eq_true, decide_eq_true_eq] at hw
      rw [e] at hw
      have : σ.tk.getD i pt0 = q := by simp [List.getD, h]
      rw [this] at hw
      omega
    simp [Sg.gets, List.getElem?_set_ne hne, h]
  · rw [if_neg hw]
    exact h
theorem spawn_keep {σ : Sg} {i : Nat} {q : Pt} (h : σ.tk[i]? = some q) (prog : Nat) : (σ.spawn prog).tk[i]? = some q := by
  unfold Sg.spawn
  split
  · exact h
  · have hl := (List.getElem?_eq_some_iff.1 h).1
    simp [Sg.add, List.getElem?_append_left hl, h]
theorem wake_sz (σ : Sg) (k why : Int) : (σ.wake k why).tk.length = σ.tk.length ∧ (σ.wake k why).line.length ≤ σ.line.length + 1 ∧ (σ.wake k why).ev = σ.ev := by
  unfold Sg.wake
  split
  · simp [Sg.gets]
  · simp
theorem spawn_sz (σ : Sg) (prog : Nat) : (σ.spawn prog).tk.length ≤ σ.tk.length + 1 ∧ (σ.spawn prog).line.length ≤ σ.line.length + 1 ∧ (σ.spawn prog).ev = σ.ev := by
  unfold Sg.spawn
  split
  · simp
  · simp [Sg.add]
end

theorem Pg.fx {w w' : World} {Pb D D' : Nat → Prop} {pa : Option Addr} {np pcap : Nat} {ps : List (List Dop)} (h : Pg w Pb D pa np pcap ps) (x : Fx w D w' D') : Pg w' Pb D' pa np pcap ps :=
  ⟨h.pgs.tb x.tb h.ap, fun k hk => Nat.lt_of_lt_of_le (h.lt k hk) x.tb.size, fun k hk hd => (x.dom k hd).elim (h.ap k hk) (fun h' => by have := h.lt k hk; omega)⟩

end Go.Proofs.Ytennciddjkijaaa

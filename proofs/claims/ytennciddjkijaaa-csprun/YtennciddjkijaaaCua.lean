/-
  The document's world of tasks in memory; note, ready.
-/
import Derived.Test.YtennciddjkijaaaCsi
namespace Go.Proofs.Ytennciddjkijaaa
open Go.RowKit QI
set_option maxRecDepth 100000
set_option linter.unusedSimpArgs false

/-- A cell of a row of one's own is set. -/
theorem own_set {w : World} {base n size cap g k : Nat} {e : TypeId} {xs : List Value} (h : w.ownsRow base e size (.slice (some ⟨g, 0, none⟩) n cap) n xs) (hk : k < n * size) (v : Value) :
    (w.setCell ⟨g, k, none⟩ v).ownsRow base e size (.slice (some ⟨g, 0, none⟩) n cap) n (xs.set k v) ∧ w.frozen? ⟨g, k, none⟩ = false ∧ w.cell? ⟨g, k, none⟩ = xs[k]? := by
  rcases h.2 with ⟨e1, _⟩ | ⟨g', c, cur, e1, hb, hh, h1, h2, h3, h4⟩
  · cases e1
  · simp only [Value.slice.injEq, Option.some.injEq, Addr.mk.injEq] at e1
    obtain ⟨⟨rfl, _, _⟩, _, rfl⟩ := e1
    have hxl : xs.length = n * size := h.1
    refine ⟨⟨by simp [h.1], .inr ⟨g, cap, cur.setIfInBounds k v, rfl, hb, ?_, h1, h2, by simp [h3], ?_⟩⟩, frozen_of_row w g k _ _ hh, ?_⟩
    · rw [heap_setCell_same w g k _ _ v hh]
    · rw [Array.toList_setIfInBounds, List.take_set, h4]
    · rw [cell_of_row w g k _ _ _ hh]
      have : (cur.toList.take (n * size))[k]? = cur.toList[k]? := by rw [List.getElem?_take, if_pos hk]
      rw [h4] at this
      simpa using this.symm

def ptc (p : Pt) : List Value := [.int .i64 p.prog, .int .i64 p.at', .int .i64 p.st, .int .i64 p.why]
theorem ptc_length (l : List Pt) : (l.flatMap ptc).length = l.length * 4 := by
  induction l with
  | nil => rfl
  | cons x l ih => simp only [List.flatMap_cons, List.length_append, ih, List.length_cons]; simp [ptc]; omega
theorem ptc_get (l : List Pt) {i : Nat} {p : Pt} (hi : l[i]? = some p) (j : Nat) (hj : j < 4) : (l.flatMap ptc)[i * 4 + j]? = (ptc p)[j]? := by
  induction l generalizing i with
  | nil => simp at hi
  | cons x l ih =>
    have h4 : (ptc x).length = 4 := rfl
    cases i with
    | zero =>
      simp only [List.getElem?_cons_zero, Option.some.injEq] at hi
      subst hi
      rw [List.flatMap_cons, List.getElem?_append_left (by omega)]
      simp
    | succ i =>
      simp only [List.getElem?_cons_succ] at hi
      rw [List.flatMap_cons, List.getElem?_append_right (by omega), h4, show (i + 1) * 4 + j - 4 = i * 4 + j by omega]
      exact ih hi
theorem ptc_set (l : List Pt) {i : Nat} (hi : i < l.length) (q : Pt) (j : Nat) (hj : j < 4) (v : Value) {p : Pt} (hp : l[i]? = some p) (hq : (ptc p).set j v = ptc q) : (l.flatMap ptc).set (i * 4 + j) v = (l.set i q).flatMap ptc := by
  induction l generalizing i with
  | nil => simp at hi
  | cons x l ih =>
    have h4 : (ptc x).length = 4 := rfl
    cases i with
    | zero =>
      simp only [List.getElem?_cons_zero, Option.some.injEq] at hp
      subst hp
      rw [List.flatMap_cons, List.set_cons_zero, List.flatMap_cons, List.set_append_left _ _ (by omega)]
      simp [hq]
    | succ i =>
      simp only [List.getElem?_cons_succ] at hp
      simp only [List.length_cons] at hi
      rw [List.flatMap_cons, List.set_cons_succ, List.flatMap_cons, List.set_append_right _ _ (by omega), h4, show (i + 1) * 4 + j - 4 = i * 4 + j by omega, ih (by omega) hp]

/-- The document's world. -/
structure Rm15 (w : World) (L C : Nat) (pv : Value) (σ : Sg) (tv lv ev : Value) : Prop where
  blk : w.heap[C]? = some (.cells #[pv, tv, lv, ev] (36 : TypeId) (0, 0))
  tr : w.ownsRow L (72 : TypeId) 4 tv σ.tk.length (σ.tk.flatMap ptc)
  lr : w.ownsRow L 3 1 lv σ.line.length (QI.W σ.line)
  er : w.ownsRow L (64 : TypeId) 3 ev σ.ev.length (σ.ev.flatMap evc)
  lo : L ≤ C

def dom15 (C : Nat) (tv lv ev : Value) (k : Nat) : Prop := k = C ∨ tv.ownBlock = some k ∨ lv.ownBlock = some k ∨ ev.ownBlock = some k

structure Rf (w : World) (L C : Nat) (pv : Value) (σ : Sg) (D : Nat → Prop) : Prop where
  ex : ∃ tv lv ev, Rm15 w L C pv σ tv lv ev ∧ ∀ k, D k ↔ dom15 C tv lv ev k

/-- What a call on it leaves. -/
structure Fx (w : World) (D : Nat → Prop) (w' : World) (D' : Nat → Prop) : Prop where
  tb : Tb D w w'
  dom : ∀ k, D' k → D k ∨ w.heap.size ≤ k
theorem Fx.trans {w w' w'' : World} {D D' D'' : Nat → Prop} (h : Fx w D w' D') (k : Fx w' D' w'' D'') : Fx w D w'' D'' := by
  have hz := h.tb.size
  refine ⟨h.tb.trans k.tb (fun i hi hT => (h.dom i hT).elim id (fun h' => by omega)), fun i hi => ?_⟩
  rcases k.dom i hi with h1 | h1
  · exact h.dom i h1
  · exact .inr (by omega)
theorem Fx.refl (w : World) (D : Nat → Prop) : Fx w D w D := ⟨Tb.refl _ _, fun _ h => .inl h⟩

section
variable {w w' : World} {L C : Nat} {pv tv lv ev : Value} {σ σ' : Sg} {D : Nat → Prop}
theorem Rm15.lt (m : Rm15 w L C pv σ tv lv ev) {k : Nat} (hk : dom15 C tv lv ev k) : L ≤ k ∧ k < w.heap.size := by
  rcases hk with rfl | hk | hk | hk
  · exact ⟨m.lo, heap_lt m.blk⟩
  · exact m.tr.lt k hk
  · exact m.lr.lt k hk
  · exact m.er.lt k hk
theorem Rm15.tb {S : Nat → Prop} (m : Rm15 w L C pv σ tv lv ev) (t : Tb S w w') (hs : ∀ k, dom15 C tv lv ev k → ¬ S k) : Rm15 w' L C pv σ tv lv ev :=
  ⟨(t.block _ (heap_lt m.blk) (hs _ (.inl rfl))).trans m.blk, row_tb m.tr t (fun g hg => hs g (.inr (.inl hg))), row_tb m.lr t (fun g hg => hs g (.inr (.inr (.inl hg)))), row_tb m.er t (fun g hg => hs g (.inr (.inr (.inr hg)))), m.lo⟩
theorem Rf.tb {S : Nat → Prop} (h : Rf w L C pv σ D) (t : Tb S w w') (hs : ∀ k, D k → ¬ S k) : Rf w' L C pv σ D := by
  obtain ⟨tv, lv, ev, m, hd⟩ := h.ex
  exact ⟨tv, lv, ev, m.tb t (fun k hk => hs k ((hd k).2 hk)), hd⟩
theorem Rf.below (h : Rf w L C pv σ D) (hb : Below w.heap.size w w') : Rf w' L C pv σ D := h.tb (S := fun _ => False) (Tb.of_fresh hb) (fun _ _ h => h)
theorem Rf.lt (h : Rf w L C pv σ D) {k : Nat} (hk : D k) : L ≤ k ∧ k < w.heap.size := by
  obtain ⟨tv, lv, ev, m, hd⟩ := h.ex
  exact m.lt ((hd k).1 hk)
/-- Rows of unlike kinds are apart. -/
theorem row_ap {b1 b2 n1 n2 s1 s2 : Nat} {t1 t2 : TypeId} {v1 v2 : Value} {x1 x2 : List Value} (h1 : w.ownsRow b1 t1 s1 v1 n1 x1) (h2 : w.ownsRow b2 t2 s2 v2 n2 x2) (ht : t1 ≠ t2) {k : Nat} (hk : v1.ownBlock = some k) : v2.ownBlock ≠ some k := fun e => by
  obtain ⟨c1, e1⟩ := row_type h1 hk
  obtain ⟨c2, e2⟩ := row_type h2 e
  exact ne_type e1 e2 ht rfl
theorem row_blk {b1 n1 s1 : Nat} {t1 t2 : TypeId} {v1 : Value} {x1 : List Value} {C : Nat} {cs : Array Value} (h1 : w.ownsRow b1 t1 s1 v1 n1 x1) (h2 : w.heap[C]? = some (.cells cs t2 (0, 0))) (ht : t1 ≠ t2) {k : Nat} (hk : v1.ownBlock = some k) : k ≠ C := by
  obtain ⟨c1, e1⟩ := row_type h1 hk
  exact ne_type e1 h2 ht

/-- An event behind the others. -/
theorem Rm15.ev1 (m : Rm15 w L C pv σ tv lv ev) (_hL : L ≤ w.heap.size) {Y X Z : World} {ev' : Value} {n : Nat} (i what x : Int) (bY : Below w.heap.size w Y) (hn : n = σ.ev.length) (r2 : X.ownsRow L (64 : TypeId) 3 ev' (n + 1) (σ.ev.flatMap evc ++ [.int .i64 i, .int .i64 what, .int .i64 x])) (r3 : Y.grownBy X ev.ownBlock) (r4 : ev'.ownBlock = ev.ownBlock ∨ ev'.ownBlock = some Y.heap.size) (hZ : Hid (Z = X.setCell ⟨C, 3, none⟩ ev')) :
    Rm15 Z L C pv (σ.note i what x) tv lv ev' ∧ Tb (dom15 C tv lv ev) w Z ∧ (∀ k, dom15 C tv lv ev' k → dom15 C tv lv ev k ∨ w.heap.size ≤ k) ∧ X.cell? ⟨C, 3, none⟩ = some ev ∧ X.frozen? ⟨C, 3, none⟩ = false := by
  have mY := m.tb (S := fun _ => False) (Tb.of_fresh bY) (fun _ _ h => h)
  have tX : Tb (fun k => ev.ownBlock = some k) Y X := Tb.of_grown r3 (fun k e => e)
  have hCX : X.heap[C]? = some (.cells #[pv, tv, lv, ev] (36 : TypeId) (0, 0)) := (tX.block _ (heap_lt mY.blk) (fun e => row_blk mY.er mY.blk (by decide) e rfl)).trans mY.blk
  have tZ : Tb (fun k => k = C) X Z := by rw [hZ.out]; exact Tb.set C 3 _ rfl
  have trX := row_tb mY.tr tX (fun g hg => row_ap mY.tr mY.er (by decide) hg)
  have lrX := row_tb mY.lr tX (fun g hg => row_ap mY.lr mY.er (by decide) hg)
  refine ⟨⟨?_, row_tb trX tZ (fun g hg => row_blk trX hCX (by decide) hg), row_tb lrX tZ (fun g hg => row_blk lrX hCX (by decide) hg), ?_, m.lo⟩, ?_, fun k hk => ?_, cell_of_row X _ 3 _ _ _ hCX, frozen_of_row X C 3 _ _ hCX⟩
  · rw [hZ.out, heap_setCell_same X C 3 _ _ _ hCX]
    rfl
  · have e1 : (σ.note i what x).ev.length = n + 1 := by simp [Sg.note, hn]
    have e2 : (σ.note i what x).ev.flatMap evc = σ.ev.flatMap evc ++ [.int .i64 i, .int .i64 what, .int .i64 x] := by simp [Sg.note, evc]
    rw [e1, e2]
    exact row_tb r2 tZ (fun g hg => row_blk r2 hCX (by decide) hg)
  · exact ((Tb.of_fresh (S := dom15 C tv lv ev) bY).trans tX (fun k _ e => .inr (.inr (.inr e)))).trans tZ (fun k _ e => .inl e)
  · rcases hk with hk | hk | hk | hk
    · exact .inl (.inl hk)
    · exact .inl (.inr (.inl hk))
    · exact .inl (.inr (.inr (.inl hk)))
    · rcases r4 with e | e
      · rw [e] at hk; exact .inl (.inr (.inr (.inr hk)))
      · rw [e] at hk
        cases hk
        exact .inr bY.size

set_option maxHeartbeats 1000000 in
theorem rnote_any (h : Rf w L C pv σ D) (hL : L ≤ w.heap.size) (hl : σ.ev.length ≤ 1000000) (i what x : Int) :
    Calls Try.prog 47 #[.pointer (some ⟨C, 0, none⟩), .int .i64 i, .int .i64 what, .int .i64 x] w fun e w' => e = .returned (.tuple #[]) ∧ ∃ D', Rf w' L C pv (σ.note i what x) D' ∧ Fx w D w' D' := by
  obtain ⟨tv, lv, ev, m, hd⟩ := h.ex
  obtain ⟨ea, ecap, rfl⟩ := row_val m.er
  obtain ⟨t3, ht3⟩ := Option.map_eq_some_iff.1 infoV
  simp only [Prod.mk.injEq] at ht3
  have c3 : w.cell? ⟨C, 3, none⟩ = some (.slice ea σ.ev.length ecap) := cell_of_row w C 3 _ _ _ m.blk
  obtain ⟨Y, hY⟩ : ∃ Y, Hid (Y = w.alloc (.cells #[.int .i64 i, .int .i64 what, .int .i64 x] (64 : TypeId))) := ⟨_, hide rfl⟩
  have bY : Below w.heap.size w Y := by rw [hY.out]; exact (Below.refl _ w).alloc (Nat.le_refl _) _
  have mY := m.tb (S := fun _ => False) (Tb.of_fresh bY) (fun _ _ h => h)
  obtain ⟨v', X, r1, r2, r3, _, r4⟩ := run_append_own_at (P := Try.prog) Y L (29 : TypeId) (29 : TypeId) (64 : TypeId) t3 (.agg #[.int .i64 0, .int .i64 0, .int .i64 0]) 3 24 Try.underlying29 ht3.1 ht3.2.1 ht3.2.2.1 ht3.2.2.2 (by simp [Value.cells]) (by omega) (.slice ea σ.ev.length ecap) σ.ev.length _ mY.er ⟨w.heap.size, 0, none⟩ 1 1 [.int .i64 i, .int .i64 what, .int .i64 x] rfl (by rw [hY.out]; exact cell_three_new w _ _ _ _) (by simp [Value.oneCell']) (by unfold maxLen; omega) (by omega) (by have := bY.size; omega)
  obtain ⟨ea', ecap', rfl⟩ := row_val r2
  obtain ⟨Z, hZ⟩ : ∃ Z, Hid (Z = X.setCell ⟨C, 3, none⟩ (.slice ea' (σ.ev.length + 1) ecap')) := ⟨_, hide rfl⟩
  obtain ⟨mZ, tZ, dZ, x3, f3⟩ := m.ev1 hL i what x bY rfl r2 r3 r4 hZ
  have HF : Hid (∃ D', Rf Z L C pv (σ.note i what x) D' ∧ Fx w D Z D') := hide ⟨_, ⟨tv, lv, _, mZ, fun k => Iff.rfl⟩, tZ.mono (fun k _ hk => (hd k).2 hk), fun k hk => (dZ k hk).elim (fun h' => .inl ((hd k).2 h')) .inr⟩
  obtain ⟨N, hN⟩ : ∃ N, Hid (N = σ.ev.length) := ⟨_, hide rfl⟩
  rw [← hN.out] at c3 r1 x3 hZ
  obtain ⟨G, hG⟩ : ∃ G, Hid (G = w.heap.size) := ⟨_, hide rfl⟩
  rw [← hG.out] at r1
  have HG : Hid (w.heap.size = G) := hide hG.out.symm
  clear h hL hl m mY bY r2 r3 r4 mZ tZ dZ hd ht3
  go_enter Try.func47, Try.ntmps47
  go_wp2_with (first | (rw [← hY.out, HG.out]) | (at_builtin; refine wpList_append_run rfl (29 : TypeId) _ _ rfl (.slice ea N ecap) (.slice (some ⟨G, 0, none⟩) 1 1) (.slice ea' (N + 1) ecap') (by simp [Act.eval]) (by simp [Act.eval]) r1 ?_))
  rw [← hZ.out]
  go_end0
  exact ⟨rfl, HF.out⟩
end

end Go.Proofs.Ytennciddjkijaaa

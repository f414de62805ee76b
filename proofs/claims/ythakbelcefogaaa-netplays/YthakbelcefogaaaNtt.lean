/-
  The document's net: put.
-/
import Derived.Test.YthakbelcefogaaaNts
namespace Go.Proofs.Ythakbelcefogaaa
open Go.RowKit
set_option maxRecDepth 100000

set_option maxHeartbeats 1000000 in
theorem rput_full {w : World} {a : Option Addr} {n cap : Nat} {la : Int} {x0 x1 x2 x3 : Value} (hn : 256 ≤ n) :
    Calls Try.prog 38 #[.agg #[.slice a n cap, .int .i64 la], .agg #[x0, x1, x2, x3]] w fun e w' => e = .returned (.tuple #[.agg #[.slice a n cap, .int .i64 la], .int .i64 0, .int .i64 5]) ∧ Below w.heap.size w w' := by
  have H3 : Hid (∀ o o' o'' : Obj, (((w.alloc o).alloc o').alloc o'').heap[w.heap.size + 1 + 1]? = some o'') := hide (fun o o' o'' => by simpa using heap_alloc_new ((w.alloc o).alloc o') o'')
  have FB : Hid (∀ o o' o'', Below w.heap.size w (((w.alloc o).alloc o').alloc o'')) := hide (fun o o' o'' => (((Below.refl _ w).alloc (Nat.le_refl _) o).alloc (by simp) o').alloc (by simp; omega) o'')
  go_enter Try.func38, Try.ntmps38
  go_wp2_with fail
  refine bodyPost_ret (v := .tuple #[.agg #[.slice a n cap, .int .i64 la], .int .i64 0, .int .i64 5]) (results_cell_tmp2 Try.results38 _ _ (w.heap.size + 1 + 1) (40 : TypeId) _ (0, 0) _ _ _ rfl rfl rfl (H3.out _ _ _) Try.underlying40 rfl size40) rfl ?_
  exact ⟨rfl, FB.out _ _ _⟩

theorem pair_set {w : World} {G : Nat} {x0 y0 : Value} {t : TypeId} (h : w.heap[G]? = some (.cells #[x0, y0] t (0, 0))) (x y : Value) : ((w.setCell ⟨G, 0, none⟩ x).setCell ⟨G, 1, none⟩ y).heap[G]? = some (.cells #[x, y] t (0, 0)) := by
  have h1 := heap_setCell_same w G 0 _ t x h
  rw [heap_setCell_same _ G 1 _ t y h1]
  rfl

set_option maxHeartbeats 2000000 in
theorem rput_go {w : World} {F : Nat → Prop} {a : Option Addr} {n cap : Nat} {ts : List Pt} {l : List (Int × Pk)} {la no fr to : Int} {c : Option Addr} {m d : Nat} {bd : List Int} (h : Pl w F a n cap ts l) (hn : n < 256) (hla : 0 ≤ la ∧ la < 9223372036854775807) (hB : Bs w c m d bd) (hm : m ≤ 65545) :
    Calls Try.prog 38 #[.agg #[.slice a n cap, .int .i64 la], .agg #[.int .i64 no, .int .i64 fr, .int .i64 to, .slice c m d]] w fun e w' => ∃ (a' : Option Addr) (cap' : Nat) (ts' : List Pt), e = .returned (.tuple #[.agg #[.slice a' (n + 1) cap', .int .i64 (la + 1)], .int .i64 (la + 1), .int .i64 0]) ∧ Pl w' (fun g => F g ∨ w.heap.size ≤ g) a' (n + 1) cap' ts' (l ++ [(la + 1, ⟨fr, to, bd⟩)]) ∧ Below w.heap.size w w' := by
  obtain ⟨hla0, hla1⟩ := hla
  have hnI : ¬ ((256 : Int) ≤ (n : Int)) := by omega
  obtain ⟨A, HA⟩ : ∃ A, Hid (A = (((w.alloc (.cells #[.slice a n cap, .int .i64 (la + 1)] (40 : TypeId))).alloc (.cells #[.int .i64 (la + 1), .int .i64 fr, .int .i64 to, .slice c m d] (31 : TypeId))).alloc (.cells #[.slice none 0 0, .int .i64 0] (40 : TypeId)))) := ⟨_, hide rfl⟩
  have bA : Below w.heap.size w A := by rw [HA.out]; exact (((Below.refl _ w).alloc (Nat.le_refl _) _).alloc (by simp) _).alloc (by simp; omega) _
  have sA : A.heap.size = w.heap.size + 3 := by rw [HA.out]; simp
  have a0 : A.heap[w.heap.size]? = some (.cells #[.slice a n cap, .int .i64 (la + 1)] (40 : TypeId) (0, 0)) := by rw [HA.out, Below.heap_alloc _ _ _ (by simp; omega), Below.heap_alloc _ _ _ (by simp)]; exact heap_alloc_new w _
  have a1 : A.heap[w.heap.size + 1]? = some (.cells #[.int .i64 (la + 1), .int .i64 fr, .int .i64 to, .slice c m d] (31 : TypeId) (0, 0)) := by rw [HA.out, Below.heap_alloc _ _ _ (by simp)]; simpa using heap_alloc_new (w.alloc (.cells #[.slice a n cap, .int .i64 (la + 1)] (40 : TypeId))) (.cells #[.int .i64 (la + 1), .int .i64 fr, .int .i64 to, .slice c m d] (31 : TypeId))
  have a2 : A.heap[w.heap.size + 1 + 1]? = some (.cells #[.slice none 0 0, .int .i64 0] (40 : TypeId) (0, 0)) := by rw [HA.out]; simpa using heap_alloc_new ((w.alloc (.cells #[.slice a n cap, .int .i64 (la + 1)] (40 : TypeId))).alloc (.cells #[.int .i64 (la + 1), .int .i64 fr, .int .i64 to, .slice c m d] (31 : TypeId))) (.cells #[.slice none 0 0, .int .i64 0] (40 : TypeId))
  have CB := copy_any c m d bd A (hB.keep bA) (by omega)
  obtain ⟨i, z, hi, hz, h1, h2, h3⟩ := info31
  -- all that comes behind the copy
  have STEP : Hid (∀ (c2 : Option Addr) (d2 : Nat) (B : World), B.ownsRow A.heap.size 5 1 (.slice c2 m d2) m (U bd) → Below A.heap.size A B →
      B.heap[w.heap.size + 1]? = some (.cells #[.int .i64 (la + 1), .int .i64 fr, .int .i64 to, .slice c m d] (31 : TypeId) (0, 0)) ∧
      (∃ C, C = B.setCell ⟨w.heap.size + 1, 3, none⟩ (.slice c2 m d2) ∧ C.heap[w.heap.size]? = some (.cells #[.slice a n cap, .int .i64 (la + 1)] (40 : TypeId) (0, 0)) ∧
      ∃ (v1a : Option Addr) (v1c : Nat) (D : World), (∀ ty, (Builtin.append_ #[(34 : TypeId), (34 : TypeId)] ty #[.slice none 0 0, .slice a n cap]).run Try.prog C = .ok (.slice v1a n v1c) D) ∧ D.heap[w.heap.size + 1]? = some (.cells #[.int .i64 (la + 1), .int .i64 fr, .int .i64 to, .slice c2 m d2] (31 : TypeId) (0, 0)) ∧
      ∃ (v2a : Option Addr) (v2c : Nat) (G : World), (∀ ty, (Builtin.append_ #[(34 : TypeId), (34 : TypeId)] ty #[.slice v1a n v1c, .slice (some ⟨D.heap.size, 0, none⟩) 1 1]).run Try.prog (D.alloc (.cells #[.int .i64 (la + 1), .int .i64 fr, .int .i64 to, .slice c2 m d2] (31 : TypeId))) = .ok (.slice v2a (n + 1) v2c) G) ∧ G.heap[w.heap.size]? = some (.cells #[.slice a n cap, .int .i64 (la + 1)] (40 : TypeId) (0, 0)) ∧ G.heap[w.heap.size + 1 + 1]? = some (.cells #[.slice none 0 0, .int .i64 0] (40 : TypeId) (0, 0)) ∧
      Hid (G.ownsRow A.heap.size (31 : TypeId) 4 (.slice v2a (n + 1) v2c) (n + 1) ((ts ++ [(⟨la + 1, fr, to, c2, m, d2⟩ : Pt)]).flatMap Pt.cells) ∧ Below w.heap.size w G ∧ A.heap.size ≤ G.heap.size ∧ G.ownsRow A.heap.size 5 1 (.slice c2 m d2) m (U bd)))) := by
    refine hide (fun c2 d2 B hrow hbB => ?_)
    have sB := hbB.size
    have b0 := (hbB.block _ (by omega)).trans a0
    have b1 := (hbB.block _ (by omega)).trans a1
    have b2 := (hbB.block _ (by omega)).trans a2
    have bwB : Below w.heap.size w B := bA.trans (hbB.mono bA.size)
    refine ⟨b1, _, rfl, (Below.heap_setCell _ ⟨w.heap.size + 1, 3, none⟩ _ _ (fun e => by simp only at e; omega)).trans b0, ?_⟩
    obtain ⟨C, hC⟩ : ∃ C, C = B.setCell ⟨w.heap.size + 1, 3, none⟩ (.slice c2 m d2) := ⟨_, rfl⟩
    rw [← hC]
    have c0 : C.heap[w.heap.size]? = some (.cells #[.slice a n cap, .int .i64 (la + 1)] (40 : TypeId) (0, 0)) := by rw [hC]; exact (Below.heap_setCell _ ⟨w.heap.size + 1, 3, none⟩ _ _ (fun e => by simp only at e; omega)).trans b0
    have c1 : C.heap[w.heap.size + 1]? = some (.cells #[.int .i64 (la + 1), .int .i64 fr, .int .i64 to, .slice c2 m d2] (31 : TypeId) (0, 0)) := by rw [hC, heap_setCell_same B _ 3 _ (31 : TypeId) _ b1]; rfl
    have c2' : C.heap[w.heap.size + 1 + 1]? = some (.cells #[.slice none 0 0, .int .i64 0] (40 : TypeId) (0, 0)) := by rw [hC]; exact (Below.heap_setCell _ ⟨w.heap.size + 1, 3, none⟩ _ _ (fun e => by simp only at e; omega)).trans b2
    have sC : C.heap.size = B.heap.size := by rw [hC]; simp [World.setCell]
    have bwC : Below w.heap.size w C := by rw [hC]; exact bwB.setCell (p := ⟨w.heap.size + 1, 3, none⟩) (by simp) _
    have rC : C.ownsRow A.heap.size 5 1 (.slice c2 m d2) m (U bd) := row_heap hrow (fun g hg => by rw [hC]; exact Below.heap_setCell _ ⟨w.heap.size + 1, 3, none⟩ _ _ (fun e => by have := (hrow.lt g hg).1; simp only at e; omega))
    obtain ⟨v1, D, r1, ho1, bD⟩ := pl_copy (h.keep bwC) (by omega)
    obtain ⟨v1a, v1c, rfl⟩ := row_val ho1
    have sD := bD.size
    have d0 := (bD.block _ (heap_lt c0)).trans c0
    have d1 := (bD.block _ (heap_lt c1)).trans c1
    have d2' := (bD.block _ (heap_lt c2')).trans c2'
    refine ⟨v1a, v1c, D, r1, d1, ?_⟩
    have hal : (D.alloc (.cells #[.int .i64 (la + 1), .int .i64 fr, .int .i64 to, .slice c2 m d2] (31 : TypeId))).heap.size = D.heap.size + 1 := by simp
    have bE : Below D.heap.size D (D.alloc (.cells #[.int .i64 (la + 1), .int .i64 fr, .int .i64 to, .slice c2 m d2] (31 : TypeId))) := (Below.refl _ D).alloc (Nat.le_refl _) _
    have ho2 : (D.alloc (.cells #[.int .i64 (la + 1), .int .i64 fr, .int .i64 to, .slice c2 m d2] (31 : TypeId))).ownsRow A.heap.size (31 : TypeId) 4 (.slice v1a n v1c) n (ts.flatMap Pt.cells) := row_tb ⟨ho1.1, ho1.2.imp id (fun ⟨g, c, cur, e1, e2, e3⟩ => ⟨g, c, cur, e1, by omega, e3⟩)⟩ (Tb.of_fresh (S := fun _ => False) bE) (fun _ _ h => h)
    obtain ⟨v2, G, q1, q2, q3, q4⟩ := run_append_rows (P := Try.prog) A.heap.size (34 : TypeId) 0 (31 : TypeId) i z 4 48 Try.underlying34 hi hz h1 h2 h3 (by decide) (.slice v1a n v1c) n _ ho2 _ 1 [.int .i64 (la + 1), .int .i64 fr, .int .i64 to, .slice c2 m d2] 0 (own_one D [.int .i64 (la + 1), .int .i64 fr, .int .i64 to, .slice c2 m d2] 4 (31 : TypeId) rfl) (by simp [Value.oneCell']) (by unfold maxLen; omega) (by omega) (by rw [hal]; omega)
    obtain ⟨v2a, v2c, rfl⟩ := row_val q2
    have sG := q3.size
    rw [hal] at sG
    have keep : ∀ {b : Nat} {o : Obj}, D.heap[b]? = some o → b < A.heap.size → G.heap[b]? = some o := fun {b o} e1 e2 => by
      rw [q3.block b (by rw [hal]; have := heap_lt e1; omega) (fun e => by have := (ho2.lt b e.symm).1; omega), bE.block b (heap_lt e1)]
      exact e1
    have hw : w.heap.size + 3 = A.heap.size := sA.symm
    refine ⟨v2a, v2c, G, fun ty => q1, keep d0 (by omega), keep d2' (by omega), hide ⟨?_, ?_, by omega, ?_⟩⟩
    · rw [List.flatMap_append, List.flatMap_singleton]
      exact q2
    · exact ((bwC.trans (bD.mono bwC.size)).trans (bE.mono (by have := bwC.size; omega))).grown q3 (by rw [hal]; have := bwC.size; omega) (fun k hk => by have := (ho2.lt k hk).1; omega)
    · have r5 : (D.alloc (.cells #[.int .i64 (la + 1), .int .i64 fr, .int .i64 to, .slice c2 m d2] (31 : TypeId))).ownsRow A.heap.size 5 1 (.slice c2 m d2) m (U bd) := row_tb (row_tb rC (Tb.of_fresh (S := fun _ => False) bD) (fun _ _ h => h)) (Tb.of_fresh (S := fun _ => False) bE) (fun _ _ h => h)
      refine row_heap r5 (fun g hg => q3.block g (row_lt r5 hg) (fun e => ?_))
      rcases r5.2 with ⟨e1, _⟩ | ⟨g', cp', cur, e1, _, hh, _⟩
      · rw [e1] at hg; cases hg
      · rw [e1] at hg
        simp only [Value.ownBlock, Option.some.injEq] at hg
        subst hg
        rcases ho2.2 with ⟨e2, _⟩ | ⟨g2, cp2, cur2, e2, _, hh2, _⟩
        · rw [e2] at e; cases e
        · rw [e2] at e
          simp only [Value.ownBlock, Option.some.injEq] at e
          rw [← e, hh] at hh2
          simp at hh2
  have FINAL : Hid (∀ (c2 v2a : Option Addr) (d2 v2c : Nat) (G Hw Wf : World), Hw = G.setCell ⟨w.heap.size, 0, none⟩ (.slice v2a (n + 1) v2c) → Wf = ((Hw.setCell ⟨w.heap.size + 1 + 1, 0, none⟩ (.slice v2a (n + 1) v2c)).setCell ⟨w.heap.size + 1 + 1, 1, none⟩ (.int .i64 (la + 1))).drew →
      (G.ownsRow A.heap.size (31 : TypeId) 4 (.slice v2a (n + 1) v2c) (n + 1) ((ts ++ [(⟨la + 1, fr, to, c2, m, d2⟩ : Pt)]).flatMap Pt.cells) ∧ Below w.heap.size w G ∧ A.heap.size ≤ G.heap.size ∧ G.ownsRow A.heap.size 5 1 (.slice c2 m d2) m (U bd)) →
      Pl Wf (fun g => F g ∨ w.heap.size ≤ g) v2a (n + 1) v2c (ts ++ [(⟨la + 1, fr, to, c2, m, d2⟩ : Pt)]) (l ++ [(la + 1, ⟨fr, to, bd⟩)]) ∧ Below w.heap.size w Wf) := hide (by
    intro c2 v2a d2 v2c G Hw Wf hHw hWf ⟨f1, f2, f3, f4⟩
    have same : ∀ g, g ≠ w.heap.size → g ≠ w.heap.size + 1 + 1 → Wf.heap[g]? = G.heap[g]? := fun g e1 e2 => by
      rw [hWf, hHw]
      show (World.setCell _ _ _).heap[g]? = _
      rw [Below.heap_setCell _ ⟨w.heap.size + 1 + 1, 1, none⟩ _ _ (fun e => e2 (by simpa using e)), Below.heap_setCell _ ⟨w.heap.size + 1 + 1, 0, none⟩ _ _ (fun e => e2 (by simpa using e)), Below.heap_setCell _ ⟨w.heap.size, 0, none⟩ _ _ (fun e => e1 (by simpa using e))]
    have sW : Wf.heap.size = G.heap.size := by rw [hWf, hHw]; simp [World.setCell]
    have bW : Below w.heap.size w Wf := by
      rw [hWf, hHw]
      exact (((f2.setCell (p := ⟨w.heap.size, 0, none⟩) (Nat.le_refl _) _).setCell (p := ⟨w.heap.size + 1 + 1, 0, none⟩) (by simp; omega) _).setCell (p := ⟨w.heap.size + 1 + 1, 1, none⟩) (by simp; omega) _).drew
    have g1 := row_heap (w' := Wf) f1 (fun g hg => same g (by have := (f1.lt g hg).1; omega) (by have := (f1.lt g hg).1; omega))
    have g4 := row_heap (w' := Wf) f4 (fun g hg => same g (by have := (f4.lt g hg).1; omega) (by have := (f4.lt g hg).1; omega))
    refine ⟨pl_of_row g1 (fun g hg => .inr (by omega)) (by simp [h.len]) (fun k t q ht hq => ?_), bW⟩
    rcases Nat.lt_or_ge k l.length with hk | hk
    · rw [List.getElem?_append_left (by rw [h.tl, ← h.len]; exact hk)] at ht
      rw [List.getElem?_append_left hk] at hq
      obtain ⟨e1, e2, e3, e4, e5⟩ := h.is k t q ht hq
      exact ⟨e1, e2, e3, e4.keep bW, fun ad e => ⟨.inl (e5 ad e).1, by have := (e5 ad e).2; have := bW.size; omega⟩⟩
    · have hk0 : k = l.length := by
        rcases Nat.eq_or_lt_of_le hk with h | h
        · exact h.symm
        · rw [List.getElem?_eq_none (by simp; omega)] at hq; cases hq
      subst hk0
      rw [List.getElem?_append_right (by rw [h.tl, ← h.len]; exact Nat.le_refl _), h.tl, ← h.len, Nat.sub_self] at ht
      rw [List.getElem?_append_right (Nat.le_refl _), Nat.sub_self] at hq
      simp only [List.getElem?_cons_zero, Option.some.injEq] at ht hq
      subst ht hq
      refine ⟨rfl, rfl, rfl, own_bs g4 hB.byte, fun ad e => ?_⟩
      simp only at e
      rcases g4.2 with ⟨e1, _⟩ | ⟨g', cp', cur, e1, hbb, hh, _⟩
      · simp only [Value.slice.injEq] at e1
        rw [e1.1] at e; cases e
      · simp only [Value.slice.injEq] at e1
        rw [e1.1] at e
        cases e
        exact ⟨.inr (by show w.heap.size ≤ g'; omega), heap_lt hh⟩)
  have HSA := hide sA
  clear bA sA a0 a1 a2 h hB
  go_enter Try.func38, Try.ntmps38
  go_wp2_with fail
  rw [← HA.out]
  refine CB.mono ?_
  rintro e B ⟨c2, d2, rfl, hrow, hbB⟩
  obtain ⟨b1, C, hC, g0, v1a, v1c, D, r1, g1, v2a, v2c, G, r2, g2, g3, fin⟩ := STEP.out c2 d2 B hrow hbB
  have b13 := cell_of_row B (w.heap.size + 1) 3 _ (31 : TypeId) (0, 0) b1
  have f13 := frozen_of_row B (w.heap.size + 1) 3 _ (31 : TypeId) b1
  simp only [List.getElem?_toArray, List.getElem?_cons_succ, List.getElem?_cons_zero] at b13
  have g00 := cell_of_row C w.heap.size 0 _ (40 : TypeId) (0, 0) g0
  simp only [List.getElem?_toArray, List.getElem?_cons_zero] at g00
  have HC := hide hC
  rw [hC] at g00 r1
  clear hC hrow hbB CB g0
  have k0 := cell_of_row G w.heap.size 0 _ (40 : TypeId) (0, 0) g2
  have k0f := frozen_of_row G w.heap.size 0 _ (40 : TypeId) g2
  simp only [List.getElem?_toArray, List.getElem?_cons_zero] at k0
  have n0 := heap_setCell_same G w.heap.size 0 _ (40 : TypeId) (.slice v2a (n + 1) v2c) g2
  have n2 : (G.setCell ⟨w.heap.size, 0, none⟩ (.slice v2a (n + 1) v2c)).heap[w.heap.size + 1 + 1]? = some (.cells #[.slice none 0 0, .int .i64 0] (40 : TypeId) (0, 0)) := (Below.heap_setCell _ ⟨w.heap.size, 0, none⟩ _ _ (fun e => by simp only at e; omega)).trans g3
  obtain ⟨Hw, HH⟩ : ∃ Hw, Hid (Hw = G.setCell ⟨w.heap.size, 0, none⟩ (.slice v2a (n + 1) v2c)) := ⟨_, hide rfl⟩
  rw [← HH.out] at n0 n2
  have m0 := cell_of_row Hw w.heap.size 0 _ (40 : TypeId) (0, 0) n0
  have m1 := cell_of_row Hw w.heap.size 1 _ (40 : TypeId) (0, 0) n0
  have m2 := cell_of_row Hw (w.heap.size + 1 + 1) 0 _ (40 : TypeId) (0, 0) n2
  have m3 := cell_of_row Hw (w.heap.size + 1 + 1) 1 _ (40 : TypeId) (0, 0) n2
  have m2f := frozen_of_row Hw (w.heap.size + 1 + 1) 0 _ (40 : TypeId) n2
  have m3f := frozen_of_row Hw (w.heap.size + 1 + 1) 1 _ (40 : TypeId) n2
  have m0' : Hw.cell? ⟨w.heap.size, 0, none⟩ = some (.slice v2a (n + 1) v2c) := m0
  have m1' : Hw.cell? ⟨w.heap.size, 1, none⟩ = some (.int .i64 (la + 1)) := m1
  have m2' : Hw.cell? ⟨w.heap.size + 1 + 1, 0, none⟩ = some (.slice none 0 0) := m2
  have m3' : Hw.cell? ⟨w.heap.size + 1 + 1, 1, none⟩ = some (.int .i64 0) := m3
  have N2 := hide n2
  clear m0 m1 m2 m3 n0 n2 g2 g3 b1 HSA
  go_wp2_with (first
    | (at_builtin; refine wpList_append_run rfl (34 : TypeId) (.tmp 24) (.tmp 26) rfl (.slice none 0 0) (.slice a n cap) (.slice v1a n v1c) (by simp [Act.eval]) (by simp [Act.eval]) (r1 _) ?_)
    | (refine wpList_load_row rfl (31 : TypeId) (.tmp 3) rfl (w.heap.size + 1) (by simp [Act.eval]) (31 : TypeId) #[.int .i64 (la + 1), .int .i64 fr, .int .i64 to, .slice c2 m d2] (0, 0) _ g1 Try.underlying31 rfl size31 ?_)
    | (at_builtin; refine wpList_append_run rfl (34 : TypeId) (.tmp 28) (.tmp 30) rfl (.slice v1a n v1c) (.slice (some ⟨D.heap.size, 0, none⟩) 1 1) (.slice v2a (n + 1) v2c) (by simp [Act.eval]) (by simp [Act.eval]) (r2 _) ?_))
  rw [← HH.out]
  go_region
  go_wp2_with fail
  refine bodyPost_ret (v := .tuple #[.agg #[.slice v2a (n + 1) v2c, .int .i64 (la + 1)], .int .i64 (la + 1), .int .i64 0]) (results_cell_tmp2 Try.results38 _ _ (w.heap.size + 1 + 1) (40 : TypeId) _ (0, 0) _ _ _ rfl rfl rfl (pair_set N2.out _ _) Try.underlying40 rfl size40) rfl ?_
  exact ⟨v2a, v2c, _, rfl, FINAL.out c2 v2a d2 v2c G Hw _ HH.out rfl fin.out⟩

end Go.Proofs.Ythakbelcefogaaa

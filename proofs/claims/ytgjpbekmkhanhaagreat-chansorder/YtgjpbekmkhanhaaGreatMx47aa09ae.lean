/-
  Texts put into one.
-/
import Derived.Test.YtgjpbekmkhanhaaGreatQk75ca09d7

/-
  A queue of waiters: room is given back, Take, Pop.
-/
namespace Go.Proofs.YtgjpbekmkhanhaaGreat.QW
open Go.RowKit
set_option maxRecDepth 100000

/-- What a call leaves of a queue: a line, in its ring or in a new one. -/
def Qt (w w' : World) (R G : Nat) (ys : List Wv) : Prop := ∃ G' N h, Qu w' R G' N h ys ∧ (G' = G ∨ w.heap.size ≤ G') ∧ Tb (fun k => k = R ∨ k = G) w w'

theorem Qt.then {a b c : World} {R G : Nat} {xs ys : List Wv} {G' N h : Nat} (_q : Qu b R G' N h xs) (hg : G' = G ∨ a.heap.size ≤ G') (t : Tb (fun k => k = R ∨ k = G) a b) (k : Qt b c R G' ys) : Qt a c R G ys := by
  obtain ⟨G2, N2, h2, q2, hg2, t2⟩ := k
  refine ⟨G2, N2, h2, q2, ?_, t.trans t2 (fun i hi h => ?_)⟩
  · have := t.size
    rcases hg2 with rfl | hg2
    · exact hg
    · exact .inr (by omega)
  · rcases h with h | h
    · exact .inl h
    · rcases hg with rfl | hg
      · exact .inr h
      · omega

/-- A queue that is laid anew with its own list. -/
theorem relay {w : World} {R G N h : Nat} {xs : List Wv} (q : Qu w R G N h xs) {V : World} {a : Option Addr} {cap : Nat} (ho : V.ownsRow w.heap.size (141 : TypeId) 3 (.slice a xs.length cap) xs.length (W xs)) (hb : Below w.heap.size w V) :
    Calls Tryz.prog 152 #[.pointer (some ⟨R, 0, none⟩), .slice a xs.length cap] V fun e w' => e = .returned (.tuple #[]) ∧ Qu w' R V.heap.size (2 * xs.length + 1) 0 xs ∧ Tb (fun k => k = R ∨ k = G) w w' := by
  have hR := (hb.block R q.lt).trans q.obj
  refine (lay_any hR (own_ls ho) (fun ad h e => ?_) q.few).mono ?_
  · subst h
    have := (ho.lt ad.block (by
      rcases ho.2 with ⟨h1, _⟩ | ⟨g, c, cur, h1, _⟩
      · cases h1
      · simp only [Value.slice.injEq, Option.some.injEq] at h1
        rw [h1.1]
        rfl)).1
    have := q.lt
    omega
  · rintro e w' ⟨rfl, q', t⟩
    exact ⟨rfl, q', (Tb.of_fresh hb).trans t (fun _ _ h => .inl h)⟩

set_option maxHeartbeats 1000000 in
theorem shrink_any {w : World} {R G N h : Nat} {xs : List Wv} (q : Qu w R G N h xs) :
    Calls Tryz.prog 183 #[.pointer (some ⟨R, 0, none⟩)] w fun e w' => e = .returned (.tuple #[]) ∧ Qt w w' R G xs := by
  have c1 : w.cell? ⟨R, 1, none⟩ = some (.slice (some ⟨G, 0, none⟩) N N) := q.c 1
  have c3 : w.cell? ⟨R, 3, none⟩ = some (.int .i64 xs.length) := q.c 3
  have hsm := q.small
  have hfew := q.few
  unfold Mx at hsm hfew
  obtain ⟨n, hn⟩ : ∃ n, Hid (n = xs.length) := ⟨_, hide rfl⟩
  by_cases hl : 4 * (xs.length + 1) < N
  · have HL : Hid (∀ m, Calls Tryz.prog 136 #[.pointer (some ⟨R, 0, none⟩)] (w.drewN m) fun e w' => ∃ a cap, e = .returned (.slice a xs.length cap) ∧ w'.ownsRow w.heap.size (141 : TypeId) 3 (.slice a xs.length cap) xs.length (W xs) ∧ Below w.heap.size w w') := hide (fun m => (list_yes (q.drewN m)).mono (by
      rintro e w' ⟨a, cap, rfl, ho, hb⟩
      exact ⟨a, cap, rfl, ho, (below_drewN (Below.refl _ w) m).trans hb⟩))
    have HR : Hid (∀ (W' : World) (a : Option Addr) (cap : Nat), W'.ownsRow w.heap.size (141 : TypeId) 3 (.slice a xs.length cap) xs.length (W xs) → Below w.heap.size w W' → Calls Tryz.prog 152 #[.pointer (some ⟨R, 0, none⟩), .slice a xs.length cap] W' fun e w' => e = .returned (.tuple #[]) ∧ Qt w w' R G xs) := hide (fun W' a cap ho hb => (relay q ho hb).mono (by
      rintro e w' ⟨rfl, q', t⟩
      exact ⟨rfl, _, _, _, q', .inr hb.size, t⟩))
    rw [← hn.out] at hl c3 HL HR hfew
    clear q
    go_enter Tryz.func183, Tryz.ntmps183
    go_wp2_with fail
    go_quiet (fail)
    go_wp2_with fail
    refine (HL.out _).mono ?_
    rintro e W' ⟨a, cap, rfl, ho, hb⟩
    have HW := hide (HR.out W' a cap ho hb)
    clear ho hb HR HL
    go_wp2_with fail
    refine HW.out.mono ?_
    rintro e w' ⟨rfl, hq⟩
    go_wp2_with fail
    go_end0
    exact ⟨rfl, hq⟩
  · have HF : Hid (∀ m, Qt w (w.drewN m) R G xs) := hide (fun m => ⟨G, N, h, q.drewN m, .inl rfl, Tb.of_fresh (below_drewN (Below.refl _ w) m)⟩)
    rw [← hn.out] at hl c3 hfew
    clear q
    go_enter Tryz.func183, Tryz.ntmps183
    go_wp2_with fail
    go_quiet (fail)
    go_wp2_with fail
    go_end0
    exact ⟨rfl, HF.out _⟩

/-- A line without what stands at a place. -/
def wo (xs : List Wv) (i : Int) : List Wv := if 0 ≤ i ∧ i < xs.length then xs.eraseIdx i.toNat else xs

/-- A thing laid whole in a row of its own. -/
theorem laid_row {W : World} {B : Nat} {t : TypeId} (x : Wv) {c0 c1 c2 : Value} (h : W.heap[B]? = some (.cells #[c0, c1, c2] t (0, 0))) : (((W.setCell ⟨B, 0, none⟩ (.pointer x.tk)).setCell ⟨B, 1, none⟩ (.int .i64 x.val)).setCell ⟨B, 2, none⟩ x.told).heap[B]? = some (.cells #[.pointer x.tk, .int .i64 x.val, x.told] t (0, 0)) := by
  have h1 := heap_setCell_same W B 0 _ t (.pointer x.tk) h
  have h2 := heap_setCell_same _ B 1 _ t (.int .i64 x.val) h1
  have h3 := heap_setCell_same _ B 2 _ t x.told h2
  simpa using h3

/-- Behind At: its answer lies in a row of its own. -/
theorem took {w A w1 : World} {R G N h B : Nat} {xs : List Wv} (qA : Qu A R G N h xs) (bA : Below B w A) (_hB : w.heap.size = B) (rA : A.heap[B]? = some (.cells #[.pointer none, .int .i64 0, .nilFunc] (141 : TypeId) (0, 0))) (hRB : R < B) (hGB : G < B) (h1 : Below A.heap.size A w1) (x : Wv) :
    ∃ A6 B6, Hid (A6 = w1.alloc (.cells #[.pointer none, .int .i64 0, .nilFunc] (141 : TypeId))) ∧ Hid (w1.heap.size = B6) ∧ (A6.cell? ⟨B6, 0, none⟩ = some (.pointer none) ∧ A6.cell? ⟨B6, 1, none⟩ = some (.int .i64 0) ∧ A6.cell? ⟨B6, 2, none⟩ = some .nilFunc ∧ A6.frozen? ⟨B6, 0, none⟩ = false ∧ A6.frozen? ⟨B6, 1, none⟩ = false ∧ A6.frozen? ⟨B6, 2, none⟩ = false) ∧
      Hid (Qu (((A6.setCell ⟨B6, 0, none⟩ (.pointer x.tk)).setCell ⟨B6, 1, none⟩ (.int .i64 x.val)).setCell ⟨B6, 2, none⟩ x.told) R G N h xs ∧ (((A6.setCell ⟨B6, 0, none⟩ (.pointer x.tk)).setCell ⟨B6, 1, none⟩ (.int .i64 x.val)).setCell ⟨B6, 2, none⟩ x.told).heap[B6]? = some (.cells #[.pointer x.tk, .int .i64 x.val, x.told] (141 : TypeId) (0, 0)) ∧ (((A6.setCell ⟨B6, 0, none⟩ (.pointer x.tk)).setCell ⟨B6, 1, none⟩ (.int .i64 x.val)).setCell ⟨B6, 2, none⟩ x.told).heap[B]? = some (.cells #[.pointer none, .int .i64 0, .nilFunc] (141 : TypeId) (0, 0)) ∧ Below B w (((A6.setCell ⟨B6, 0, none⟩ (.pointer x.tk)).setCell ⟨B6, 1, none⟩ (.int .i64 x.val)).setCell ⟨B6, 2, none⟩ x.told) ∧ B < B6 ∧ R < B ∧ G < B) ∧
      Hid ((((A6.setCell ⟨B6, 0, none⟩ (.pointer x.tk)).setCell ⟨B6, 1, none⟩ (.int .i64 x.val)).setCell ⟨B6, 2, none⟩ x.told).cell? ⟨B6, 0, none⟩ = some (.pointer x.tk) ∧ (((A6.setCell ⟨B6, 0, none⟩ (.pointer x.tk)).setCell ⟨B6, 1, none⟩ (.int .i64 x.val)).setCell ⟨B6, 2, none⟩ x.told).cell? ⟨B6, 1, none⟩ = some (.int .i64 x.val) ∧ (((A6.setCell ⟨B6, 0, none⟩ (.pointer x.tk)).setCell ⟨B6, 1, none⟩ (.int .i64 x.val)).setCell ⟨B6, 2, none⟩ x.told).cell? ⟨B6, 2, none⟩ = some x.told ∧ (((A6.setCell ⟨B6, 0, none⟩ (.pointer x.tk)).setCell ⟨B6, 1, none⟩ (.int .i64 x.val)).setCell ⟨B6, 2, none⟩ x.told).cell? ⟨B, 0, none⟩ = some (.pointer none) ∧ (((A6.setCell ⟨B6, 0, none⟩ (.pointer x.tk)).setCell ⟨B6, 1, none⟩ (.int .i64 x.val)).setCell ⟨B6, 2, none⟩ x.told).cell? ⟨B, 1, none⟩ = some (.int .i64 0) ∧ (((A6.setCell ⟨B6, 0, none⟩ (.pointer x.tk)).setCell ⟨B6, 1, none⟩ (.int .i64 x.val)).setCell ⟨B6, 2, none⟩ x.told).cell? ⟨B, 2, none⟩ = some .nilFunc ∧ (((A6.setCell ⟨B6, 0, none⟩ (.pointer x.tk)).setCell ⟨B6, 1, none⟩ (.int .i64 x.val)).setCell ⟨B6, 2, none⟩ x.told).frozen? ⟨B, 0, none⟩ = false ∧ (((A6.setCell ⟨B6, 0, none⟩ (.pointer x.tk)).setCell ⟨B6, 1, none⟩ (.int .i64 x.val)).setCell ⟨B6, 2, none⟩ x.told).frozen? ⟨B, 1, none⟩ = false ∧ (((A6.setCell ⟨B6, 0, none⟩ (.pointer x.tk)).setCell ⟨B6, 1, none⟩ (.int .i64 x.val)).setCell ⟨B6, 2, none⟩ x.told).frozen? ⟨B, 2, none⟩ = false) := by
  obtain ⟨A6, hA6, b6, r6, s6, _, _, _⟩ := zero_laid w1
  have lB : B < A.heap.size := heap_lt rA
  have h1s := h1.size
  have bB : Below B A A6 := (h1.mono (by omega)).trans (b6.out.mono (by omega))
  have e0 : A6.heap[B]? = some (.cells #[.pointer none, .int .i64 0, .nilFunc] (141 : TypeId) (0, 0)) := (b6.out.block B (by omega)).trans ((h1.block B lB).trans rA)
  have eY : (((A6.setCell ⟨w1.heap.size, 0, none⟩ (.pointer x.tk)).setCell ⟨w1.heap.size, 1, none⟩ (.int .i64 x.val)).setCell ⟨w1.heap.size, 2, none⟩ x.told).heap[B]? = some (.cells #[.pointer none, .int .i64 0, .nilFunc] (141 : TypeId) (0, 0)) := (st3_other (k := 0) A6 x (by omega)).trans e0
  have eX := laid_row x r6.out
  have hRA : R < A.heap.size := qA.lt
  have hGA : G < A.heap.size := qA.glt
  have q6 : Qu A6 R G N h xs := (qA.below h1).below b6.out
  have qY : Qu (((A6.setCell ⟨w1.heap.size, 0, none⟩ (.pointer x.tk)).setCell ⟨w1.heap.size, 1, none⟩ (.int .i64 x.val)).setCell ⟨w1.heap.size, 2, none⟩ x.told) R G N h xs := q6.heap (st3_other (k := 0) A6 x (by omega)) (st3_other (k := 0) A6 x (by omega))
  refine ⟨A6, w1.heap.size, hA6, hide rfl, ⟨cell_of_row _ _ 0 _ _ _ r6.out, cell_of_row _ _ 1 _ _ _ r6.out, cell_of_row _ _ 2 _ _ _ r6.out, frozen_of_row _ _ 0 _ _ r6.out, frozen_of_row _ _ 1 _ _ r6.out, frozen_of_row _ _ 2 _ _ r6.out⟩, hide ⟨qY, eX, eY, ?_, by omega, hRB, hGB⟩, hide ⟨cell_of_row _ _ 0 _ _ _ eX, cell_of_row _ _ 1 _ _ _ eX, cell_of_row _ _ 2 _ _ _ eX, cell_of_row _ _ 0 _ _ _ eY, cell_of_row _ _ 1 _ _ _ eY, cell_of_row _ _ 2 _ _ _ eY, frozen_of_row _ _ 0 _ _ eY, frozen_of_row _ _ 1 _ _ eY, frozen_of_row _ _ 2 _ _ eY⟩⟩
  · exact (((bA.trans bB).setCell (by simpa using (by omega : B ≤ w1.heap.size)) _).setCell (by simpa using (by omega : B ≤ w1.heap.size)) _).setCell (by simpa using (by omega : B ≤ w1.heap.size)) _

/-- Behind what is done with the line: the answer is given. -/
theorem took_fin {w Y w3 : World} {R G B B6 : Nat} {ys : List Wv} (x : Wv) (bY : Below B w Y) (hB : w.heap.size = B) (hRB : R < B) (hGB : G < B) (hB6 : B < B6) (eB : Y.heap[B]? = some (.cells #[.pointer none, .int .i64 0, .nilFunc] (141 : TypeId) (0, 0))) (eX : Y.heap[B6]? = some (.cells #[.pointer x.tk, .int .i64 x.val, x.told] (141 : TypeId) (0, 0))) (hq : Qt Y w3 R G ys) :
    (w3.cell? ⟨B6, 0, none⟩ = some (.pointer x.tk) ∧ w3.cell? ⟨B6, 1, none⟩ = some (.int .i64 x.val) ∧ w3.cell? ⟨B6, 2, none⟩ = some x.told ∧ w3.cell? ⟨B, 0, none⟩ = some (.pointer none) ∧ w3.cell? ⟨B, 1, none⟩ = some (.int .i64 0) ∧ w3.cell? ⟨B, 2, none⟩ = some .nilFunc ∧ w3.frozen? ⟨B, 0, none⟩ = false ∧ w3.frozen? ⟨B, 1, none⟩ = false ∧ w3.frozen? ⟨B, 2, none⟩ = false) ∧ Hid ((((w3.setCell ⟨B, 0, none⟩ (.pointer x.tk)).setCell ⟨B, 1, none⟩ (.int .i64 x.val)).setCell ⟨B, 2, none⟩ x.told).heap[B]? = some (.cells #[.pointer x.tk, .int .i64 x.val, x.told] (141 : TypeId) (0, 0)) ∧ Qt w (((w3.setCell ⟨B, 0, none⟩ (.pointer x.tk)).setCell ⟨B, 1, none⟩ (.int .i64 x.val)).setCell ⟨B, 2, none⟩ x.told) R G ys) := by
  obtain ⟨G', N', h', q3, hg, t⟩ := hq
  have lB := heap_lt eB
  have lX := heap_lt eX
  have e3 : w3.heap[B]? = some (.cells #[.pointer none, .int .i64 0, .nilFunc] (141 : TypeId) (0, 0)) := (t.block B lB (by omega)).trans eB
  have x3 : w3.heap[B6]? = some (.cells #[.pointer x.tk, .int .i64 x.val, x.told] (141 : TypeId) (0, 0)) := (t.block B6 lX (by omega)).trans eX
  have bY' : Below w.heap.size w Y := by rw [hB]; exact bY
  have hGB' : G' ≠ B := by omega
  have tA : Tb (fun k => k = R ∨ k = G) w w3 := (Tb.of_fresh bY').trans t (fun _ _ h => h)
  have hs := bY'.size
  refine ⟨⟨cell_of_row _ _ 0 _ _ _ x3, cell_of_row _ _ 1 _ _ _ x3, cell_of_row _ _ 2 _ _ _ x3, cell_of_row _ _ 0 _ _ _ e3, cell_of_row _ _ 1 _ _ _ e3, cell_of_row _ _ 2 _ _ _ e3, frozen_of_row _ _ 0 _ _ e3, frozen_of_row _ _ 1 _ _ e3, frozen_of_row _ _ 2 _ _ e3⟩, hide ⟨laid_row x e3, G', N', h', q3.heap (st3_other (k := 0) w3 x (by omega)) (st3_other (k := 0) w3 x (by omega)), by omega, ?_⟩⟩
  exact tA.trans (st3_tb (S := fun k => k = B) (k := 0) w3 x rfl) (fun i hi h => by omega)

set_option maxHeartbeats 1000000 in
theorem take_any {w : World} {R G N h : Nat} {xs : List Wv} (q : Qu w R G N h xs) (i : Int) :
    Calls Tryz.prog 174 #[.pointer (some ⟨R, 0, none⟩), .int .i64 i] w fun e w' => e = .returned (.tuple #[wv (atV xs i).1, .bool (atV xs i).2]) ∧ Qt w w' R G (wo xs i) := by
  obtain ⟨A, hA, bA, rA, sA, _, _, _⟩ := zero_laid w
  obtain ⟨B, hB⟩ : ∃ B, Hid (w.heap.size = B) := ⟨_, hide rfl⟩
  have hRB : R < B := by rw [← hB.out]; exact q.lt
  have hGB : G < B := by rw [← hB.out]; exact q.glt
  have RAB : Hid (A.heap[B]? = some (.cells #[.pointer none, .int .i64 0, .nilFunc] (141 : TypeId) (0, 0))) := hide (by rw [← hB.out]; exact rA.out)
  have BAB : Hid (Below B w A) := hide (by have := bA.out; rwa [hB.out] at this)
  have qA := q.below bA.out
  have C := at_any qA i
  obtain ⟨x, hx⟩ : ∃ x, x = (atV xs i).1 := ⟨_, rfl⟩
  rw [← hx] at C ⊢
  have C : Calls Tryz.prog 156 #[.pointer (some ⟨R, 0, none⟩), .int .i64 i] A fun e w' => e = .returned (.tuple #[.agg #[.pointer x.tk, .int .i64 x.val, x.told], .bool (atV xs i).2]) ∧ Below A.heap.size A w' := C
  have HST : ∀ (W : World) (a : Addr) (m : Mode), (store a x.told m).run Tryz.prog W = stored Tryz.prog W a x.told m := fun W a m => run_store Tryz.prog W a _ m x.one
  have LAID := hide (fun w1 h1 => took (w1 := w1) qA BAB.out hB.out RAB.out hRB hGB h1 x)
  by_cases hi : 0 ≤ i ∧ i < xs.length
  · have e1 : (atV xs i).2 = true := by simp [atV, hi]
    have e2 : wo xs i = xs.eraseIdx i.toNat := if_pos hi
    obtain ⟨k, rfl⟩ : ∃ k : Nat, i = (k : Int) := ⟨i.toNat, by omega⟩
    rw [e1] at C ⊢
    rw [e2]
    simp only [Int.toNat_natCast]
    have HC : Hid (∀ Y, Qu Y R G N h xs → Calls Tryz.prog 182 #[.pointer (some ⟨R, 0, none⟩), .int .i64 k] Y fun e w2 => e = .returned (.tuple #[]) ∧ Calls Tryz.prog 183 #[.pointer (some ⟨R, 0, none⟩)] w2 fun e w3 => e = .returned (.tuple #[]) ∧ Qt Y w3 R G (xs.eraseIdx k)) := hide (fun Y qY => (close_any qY (by omega)).mono (by
      rintro e w2 ⟨rfl, ⟨h', q2⟩, t2⟩
      exact ⟨rfl, (shrink_any q2).mono (by
        rintro e w3 ⟨rfl, hq⟩
        exact ⟨rfl, Qt.then q2 (.inl rfl) t2 hq⟩)⟩))
    generalize xs.eraseIdx k = ys at *
    clear q qA hi e1 e2 hx
    go_enter Tryz.func174, Tryz.ntmps174
    go_wp2_with (rw [← hA.out, hB.out])
    refine C.mono ?_
    rintro e w1 ⟨rfl, h1⟩
    obtain ⟨A6, B6, hA6, hB6, ⟨a0, a1, a2, f0, f1, f2⟩, HY, _⟩ := LAID.out w1 h1
    clear LAID C
    go_wp2_with (rw [← hA6.out, hB6.out])
    obtain ⟨qY, eX, eB, bY, hlt, _, _⟩ := HY.out
    refine (HC.out _ qY).mono ?_
    rintro e w2 ⟨rfl, CS⟩
    have FF := hide (fun w3 hq => took_fin (w3 := w3) (ys := ys) x bY hB.out hRB hGB hlt eB eX hq)
    clear HC HY qY eX eB bY a0 a1 a2 f0 f1 f2
    go_wp2_with fail
    refine CS.mono ?_
    rintro e w3 ⟨rfl, hq⟩
    obtain ⟨⟨x0, x1, x2, b0, b1, b2, g0, g1, g2⟩, FIN⟩ := FF.out w3 hq
    clear FF hq CS
    go_wp2_with fail
    refine bodyPost_ret (v := .tuple #[wv x, .bool true]) (results_cell_tmp Tryz.results174 _ _ B (141 : TypeId) _ (0, 0) _ _ rfl rfl FIN.out.1 Tryz.underlying141 rfl sizeE) rfl ?_
    exact ⟨rfl, FIN.out.2⟩
  · have e1 : (atV xs i).2 = false := by simp only [atV, if_neg hi]
    have e2 : wo xs i = xs := if_neg hi
    rw [e1] at C ⊢
    rw [e2]
    clear q qA hi e1 e2 hx
    go_enter Tryz.func174, Tryz.ntmps174
    go_wp2_with (rw [← hA.out, hB.out])
    refine C.mono ?_
    rintro e w1 ⟨rfl, h1⟩
    obtain ⟨A6, B6, hA6, hB6, ⟨a0, a1, a2, f0, f1, f2⟩, HY, _⟩ := LAID.out w1 h1
    obtain ⟨⟨x0, x1, x2, b0, b1, b2, g0, g1, g2⟩, FIN⟩ := took_fin (ys := xs) x HY.out.2.2.2.1 hB.out hRB hGB HY.out.2.2.2.2.1 HY.out.2.2.1 HY.out.2.1 ⟨_, _, _, HY.out.1, .inl rfl, Tb.refl _ _⟩
    clear LAID C
    go_wp2_with (rw [← hA6.out, hB6.out])
    refine bodyPost_ret (v := .tuple #[wv x, .bool false]) (results_cell_tmp Tryz.results174 _ _ B (141 : TypeId) _ (0, 0) _ _ rfl rfl FIN.out.1 Tryz.underlying141 rfl sizeE) rfl ?_
    exact ⟨rfl, FIN.out.2⟩

/-- A result laid whole in a row that lay ready. -/
theorem pop_fin {w w3 : World} {R G B : Nat} {ys : List Wv} (x : Wv) (A : World) (bA : Below B w A) (hB : w.heap.size = B) (hRB : R < B) (hGB : G < B) (eB : A.heap[B]? = some (.cells #[.pointer none, .int .i64 0, .nilFunc] (141 : TypeId) (0, 0))) (hq : Qt A w3 R G ys) :
    (w3.cell? ⟨B, 0, none⟩ = some (.pointer none) ∧ w3.cell? ⟨B, 1, none⟩ = some (.int .i64 0) ∧ w3.cell? ⟨B, 2, none⟩ = some .nilFunc ∧ w3.frozen? ⟨B, 0, none⟩ = false ∧ w3.frozen? ⟨B, 1, none⟩ = false ∧ w3.frozen? ⟨B, 2, none⟩ = false) ∧ Hid ((((w3.setCell ⟨B, 0, none⟩ (.pointer x.tk)).setCell ⟨B, 1, none⟩ (.int .i64 x.val)).setCell ⟨B, 2, none⟩ x.told).heap[B]? = some (.cells #[.pointer x.tk, .int .i64 x.val, x.told] (141 : TypeId) (0, 0)) ∧ Qt w (((w3.setCell ⟨B, 0, none⟩ (.pointer x.tk)).setCell ⟨B, 1, none⟩ (.int .i64 x.val)).setCell ⟨B, 2, none⟩ x.told) R G ys) := by
  obtain ⟨G', N', h', q3, hg, t⟩ := hq
  have lB := heap_lt eB
  have e3 : w3.heap[B]? = some (.cells #[.pointer none, .int .i64 0, .nilFunc] (141 : TypeId) (0, 0)) := (t.block B lB (by omega)).trans eB
  have bY' : Below w.heap.size w A := by rw [hB]; exact bA
  have tA : Tb (fun k => k = R ∨ k = G) w w3 := (Tb.of_fresh bY').trans t (fun _ _ h => h)
  have hs := bY'.size
  refine ⟨⟨cell_of_row _ _ 0 _ _ _ e3, cell_of_row _ _ 1 _ _ _ e3, cell_of_row _ _ 2 _ _ _ e3, frozen_of_row _ _ 0 _ _ e3, frozen_of_row _ _ 1 _ _ e3, frozen_of_row _ _ 2 _ _ e3⟩, hide ⟨laid_row x e3, G', N', h', q3.heap (st3_other (k := 0) w3 x (by omega)) (st3_other (k := 0) w3 x (by omega)), by omega, ?_⟩⟩
  exact tA.trans (st3_tb (S := fun k => k = B) (k := 0) w3 x rfl) (fun i hi h => by omega)

set_option maxHeartbeats 1000000 in
theorem pop_any {w : World} {R G N h : Nat} {xs : List Wv} (q : Qu w R G N h xs) :
    Calls Tryz.prog 157 #[.pointer (some ⟨R, 0, none⟩)] w fun e w' => e = .returned (.tuple #[wv (atV xs 0).1, .bool (atV xs 0).2]) ∧ Qt w w' R G (wo xs 0) := by
  obtain ⟨A, hA, bA, rA, sA, _, _, _⟩ := zero_laid w
  obtain ⟨B, hB⟩ : ∃ B, Hid (w.heap.size = B) := ⟨_, hide rfl⟩
  have hRB : R < B := by rw [← hB.out]; exact q.lt
  have hGB : G < B := by rw [← hB.out]; exact q.glt
  have RAB : Hid (A.heap[B]? = some (.cells #[.pointer none, .int .i64 0, .nilFunc] (141 : TypeId) (0, 0))) := hide (by rw [← hB.out]; exact rA.out)
  have BAB : Hid (Below B w A) := hide (by have := bA.out; rwa [hB.out] at this)
  have C := take_any (q.below bA.out) 0
  obtain ⟨x, hx⟩ : ∃ x, x = (atV xs 0).1 := ⟨_, rfl⟩
  obtain ⟨b, hb⟩ : ∃ b, b = (atV xs 0).2 := ⟨_, rfl⟩
  rw [← hx, ← hb] at C ⊢
  have C : Calls Tryz.prog 174 #[.pointer (some ⟨R, 0, none⟩), .int .i64 0] A fun e w' => e = .returned (.tuple #[.agg #[.pointer x.tk, .int .i64 x.val, x.told], .bool b]) ∧ Qt A w' R G (wo xs 0) := C
  have HST : ∀ (W : World) (a : Addr) (m : Mode), (store a x.told m).run Tryz.prog W = stored Tryz.prog W a x.told m := fun W a m => run_store Tryz.prog W a _ m x.one
  clear q hx hb
  go_enter Tryz.func157, Tryz.ntmps157
  go_wp2_with (rw [← hA.out, hB.out])
  refine C.mono ?_
  rintro e w3 ⟨rfl, hq⟩
  obtain ⟨⟨b0, b1, b2, g0, g1, g2⟩, FIN⟩ := pop_fin x A BAB.out hB.out hRB hGB RAB.out hq
  clear hq C
  go_wp2_with fail
  refine bodyPost_ret (v := .tuple #[wv x, .bool b]) (results_cell_tmp Tryz.results157 _ _ B (141 : TypeId) _ (0, 0) _ _ rfl rfl FIN.out.1 Tryz.underlying141 rfl sizeE) rfl ?_
  exact ⟨rfl, FIN.out.2⟩

end Go.Proofs.YtgjpbekmkhanhaaGreat.QW

/-
  A queue of waiters: Push.
-/
namespace Go.Proofs.YtgjpbekmkhanhaaGreat.QW
open Go.RowKit
set_option maxRecDepth 100000

/-- One more thing in a ring that has room. -/
theorem Qu.push {w : World} {R G N h : Nat} {xs : List Wv} (q : Qu w R G N h xs) (hn : xs.length < N) (hm : xs.length + 1 < Mx) (x : Wv) : Qu ((st3 w G ((h + xs.length) % N) x).setCell ⟨R, 3, none⟩ (.int .i64 ((xs.length : Int) + 1))) R G N h (xs ++ [x]) := by
  obtain ⟨cur, hc, r⟩ := q.ring
  have hne := q.ne
  have e1 : (st3 w G ((h + xs.length) % N) x).heap[R]? = some (.cells (qcs R G N h xs.length) (187 : TypeId) (0, 0)) := by
    rw [st3_other w x hne]
    exact q.obj
  refine ⟨?_, ⟨cur.set ((h + xs.length) % N) x, ?_, r.push hn x⟩, q.small, by simpa using hm⟩
  · rw [heap_setCell_same _ R 3 _ (187 : TypeId) _ e1, List.length_append]
    simp [qcs]
  · rw [Below.heap_setCell _ _ _ G (by simpa using hne.symm)]
    exact st3_heap w hc (by rw [r.len]; exact r.spot _) x

/-- What is asked of a call of spot with the line's length. -/
theorem push_spot {w : World} {R G N h B : Nat} {xs : List Wv} (q : Qu w R G N h xs) (hn : xs.length < N) (hm : xs.length + 1 < Mx) (x : Wv) (hx : w.heap[B]? = some (.cells #[.pointer x.tk, .int .i64 x.val, x.told] (141 : TypeId) (0, 0))) (_hBR : B ≠ R) (hBG : B ≠ G) :
    ∃ (K : Nat) (y : Wv), K < N ∧ (w.cell? ⟨R, 1, none⟩ = some (.slice (some ⟨G, 0, none⟩) N N) ∧ w.cell? ⟨R, 3, none⟩ = some (.int .i64 xs.length) ∧ w.cell? ⟨B, 0, none⟩ = some (.pointer x.tk) ∧ w.cell? ⟨B, 1, none⟩ = some (.int .i64 x.val) ∧ w.cell? ⟨B, 2, none⟩ = some x.told) ∧
      (∀ V, Below w.heap.size w V → Calls Tryz.prog 159 #[.pointer (some ⟨R, 0, none⟩), .int .i64 xs.length] V fun e X => e = .returned (.int .i64 K) ∧ Below w.heap.size w X ∧ (X.cell? ⟨R, 1, none⟩ = some (.slice (some ⟨G, 0, none⟩) N N) ∧ X.cell? ⟨R, 3, none⟩ = some (.int .i64 xs.length) ∧ X.cell? ⟨B, 0, none⟩ = some (.pointer x.tk) ∧ X.cell? ⟨B, 1, none⟩ = some (.int .i64 x.val) ∧ X.cell? ⟨B, 2, none⟩ = some x.told) ∧ (X.cell? ⟨G, K * 3, none⟩ = some (.pointer y.tk) ∧ X.cell? ⟨G, K * 3 + 1, none⟩ = some (.int .i64 y.val) ∧ X.cell? ⟨G, K * 3 + 2, none⟩ = some y.told) ∧ X.frozen? ⟨G, K * 3, none⟩ = false ∧ X.frozen? ⟨G, K * 3 + 1, none⟩ = false ∧ X.frozen? ⟨G, K * 3 + 2, none⟩ = false) ∧
      (∀ X, Below w.heap.size w X → ((((X.setCell ⟨G, K * 3, none⟩ (.pointer x.tk)).setCell ⟨G, K * 3 + 1, none⟩ (.int .i64 x.val)).setCell ⟨G, K * 3 + 2, none⟩ x.told).cell? ⟨R, 1, none⟩ = some (.slice (some ⟨G, 0, none⟩) N N) ∧ (((X.setCell ⟨G, K * 3, none⟩ (.pointer x.tk)).setCell ⟨G, K * 3 + 1, none⟩ (.int .i64 x.val)).setCell ⟨G, K * 3 + 2, none⟩ x.told).cell? ⟨R, 3, none⟩ = some (.int .i64 xs.length) ∧ (((X.setCell ⟨G, K * 3, none⟩ (.pointer x.tk)).setCell ⟨G, K * 3 + 1, none⟩ (.int .i64 x.val)).setCell ⟨G, K * 3 + 2, none⟩ x.told).cell? ⟨B, 0, none⟩ = some (.pointer x.tk) ∧ (((X.setCell ⟨G, K * 3, none⟩ (.pointer x.tk)).setCell ⟨G, K * 3 + 1, none⟩ (.int .i64 x.val)).setCell ⟨G, K * 3 + 2, none⟩ x.told).cell? ⟨B, 1, none⟩ = some (.int .i64 x.val) ∧ (((X.setCell ⟨G, K * 3, none⟩ (.pointer x.tk)).setCell ⟨G, K * 3 + 1, none⟩ (.int .i64 x.val)).setCell ⟨G, K * 3 + 2, none⟩ x.told).cell? ⟨B, 2, none⟩ = some x.told) ∧ (((X.setCell ⟨G, K * 3, none⟩ (.pointer x.tk)).setCell ⟨G, K * 3 + 1, none⟩ (.int .i64 x.val)).setCell ⟨G, K * 3 + 2, none⟩ x.told).frozen? ⟨R, 3, none⟩ = false ∧ Qu ((((X.setCell ⟨G, K * 3, none⟩ (.pointer x.tk)).setCell ⟨G, K * 3 + 1, none⟩ (.int .i64 x.val)).setCell ⟨G, K * 3 + 2, none⟩ x.told).setCell ⟨R, 3, none⟩ (.int .i64 ((xs.length : Int) + 1))) R G N h (xs ++ [x]) ∧ Tb (fun k => k = R ∨ k = G) w ((((X.setCell ⟨G, K * 3, none⟩ (.pointer x.tk)).setCell ⟨G, K * 3 + 1, none⟩ (.int .i64 x.val)).setCell ⟨G, K * 3 + 2, none⟩ x.told).setCell ⟨R, 3, none⟩ (.int .i64 ((xs.length : Int) + 1)))) := by
  have hhd := q.head
  have hne := q.ne
  obtain ⟨y, hyy⟩ := q.gany xs.length
  have hB := heap_lt hx
  have SS : ∀ {X : World}, X.heap[R]? = some (.cells (qcs R G N h xs.length) (187 : TypeId) (0, 0)) → X.heap[B]? = some (.cells #[.pointer x.tk, .int .i64 x.val, x.told] (141 : TypeId) (0, 0)) → X.cell? ⟨R, 1, none⟩ = some (.slice (some ⟨G, 0, none⟩) N N) ∧ X.cell? ⟨R, 3, none⟩ = some (.int .i64 xs.length) ∧ X.cell? ⟨B, 0, none⟩ = some (.pointer x.tk) ∧ X.cell? ⟨B, 1, none⟩ = some (.int .i64 x.val) ∧ X.cell? ⟨B, 2, none⟩ = some x.told :=
    fun hr hb => ⟨cell_of_row _ R 1 _ _ _ hr, cell_of_row _ R 3 _ _ _ hr, cell_of_row _ B 0 _ _ _ hb, cell_of_row _ B 1 _ _ _ hb, cell_of_row _ B 2 _ _ _ hb⟩
  have hy0 := hyy 0 (by omega)
  have hy1 := hyy 1 (by omega)
  have hy2 := hyy 2 (by omega)
  simp only [wc, Nat.add_zero, List.getElem?_cons_zero, List.getElem?_cons_succ] at hy0 hy1 hy2
  refine ⟨(h + xs.length) % N, y, Nat.mod_lt _ (by omega), SS q.obj hx, fun V hV => ?_, fun X hX => ?_⟩
  · refine (spot_any (q.below hV) xs.length (by omega)).mono ?_
    rintro e X ⟨rfl, m, rfl⟩
    have hb := below_drewN hV m
    exact ⟨rfl, hb, SS (q.below hb).obj ((hb.block B hB).trans hx), ⟨(hb.cell (cell_lt hy0)).trans hy0, (hb.cell (cell_lt hy1)).trans hy1, (hb.cell (cell_lt hy2)).trans hy2⟩, (q.below hb).gfree _, (q.below hb).gfree _, (q.below hb).gfree _⟩
  · have e1 : (st3 X G ((h + xs.length) % N) x).heap[R]? = some (.cells (qcs R G N h xs.length) (187 : TypeId) (0, 0)) := (st3_other X x hne).trans (q.below hX).obj
    have e2 : (st3 X G ((h + xs.length) % N) x).heap[B]? = some (.cells #[.pointer x.tk, .int .i64 x.val, x.told] (141 : TypeId) (0, 0)) := (st3_other X x hBG).trans ((hX.block B hB).trans hx)
    exact ⟨SS e1 e2, frozen_of_row _ R 3 _ _ e1, (q.below hX).push hn hm x, tb_two (tb_two (Tb.of_fresh hX) (st3_tb X x (.inr rfl))) (Tb.set R _ _ (.inl rfl))⟩

/-- What was done behind new blocks. -/
theorem Qt.lift {w A w' : World} {R G : Nat} {ys : List Wv} (b : Below w.heap.size w A) (q : Qt A w' R G ys) : Qt w w' R G ys := by
  obtain ⟨G', N, h, q, hg, t⟩ := q
  have := b.size
  exact ⟨G', N, h, q, by omega, (Tb.of_fresh b).trans t (fun _ _ h => h)⟩

set_option maxHeartbeats 2000000 in
theorem push_any {w : World} {R G N h : Nat} {xs : List Wv} (q : Qu w R G N h xs) (hm : xs.length + 1 < Mx) (x : Wv) :
    Calls Tryz.prog 142 #[.pointer (some ⟨R, 0, none⟩), wv x] w fun e w' => e = .returned (.tuple #[]) ∧ Qt w w' R G (xs ++ [x]) := by
  obtain ⟨A, hA⟩ : ∃ A, Hid (A = w.alloc (.cells #[.pointer x.tk, .int .i64 x.val, x.told] (141 : TypeId))) := ⟨_, hide rfl⟩
  obtain ⟨B, hB⟩ : ∃ B, Hid (w.heap.size = B) := ⟨_, hide rfl⟩
  have hRB : R < B := by rw [← hB.out]; exact q.lt
  have hGB : G < B := by rw [← hB.out]; exact q.glt
  have bA : Hid (Below w.heap.size w A) := hide (by rw [hA.out]; exact (Below.refl _ w).alloc (Nat.le_refl _) _)
  have RAB : Hid (A.heap[B]? = some (.cells #[.pointer x.tk, .int .i64 x.val, x.told] (141 : TypeId) (0, 0))) := hide (by rw [hA.out, ← hB.out]; exact heap_alloc_new w _)
  have q := q.below bA.out
  have LF : Hid (∀ w', Qt A w' R G (xs ++ [x]) → Qt w w' R G (xs ++ [x])) := hide (fun w' hq => Qt.lift bA.out hq)
  have HST : ∀ (W : World) (a : Addr) (m : Mode), (store a x.told m).run Tryz.prog W = stored Tryz.prog W a x.told m := fun W a m => run_store Tryz.prog W a _ m x.one
  have C := made_yes q
  have c1 : A.cell? ⟨R, 1, none⟩ = some (.slice (some ⟨G, 0, none⟩) N N) := q.c 1
  have c3 : A.cell? ⟨R, 3, none⟩ = some (.int .i64 xs.length) := q.c 3
  have hsm := q.small
  have hle := q.le
  have hm' := hm
  unfold Mx at hsm hm'
  obtain ⟨n, hn⟩ : ∃ n, Hid (n = xs.length) := ⟨_, hide rfl⟩
  show Calls Tryz.prog 142 #[.pointer (some ⟨R, 0, none⟩), .agg #[.pointer x.tk, .int .i64 x.val, x.told]] w _
  by_cases hfull : xs.length = N
  · have HL : Hid (∀ m, Calls Tryz.prog 136 #[.pointer (some ⟨R, 0, none⟩)] (A.drewN m) fun e w' => ∃ a cap, e = .returned (.slice a xs.length cap) ∧ w'.ownsRow A.heap.size (141 : TypeId) 3 (.slice a xs.length cap) xs.length (W xs) ∧ Below A.heap.size A w') := hide (fun m => (list_yes (q.drewN m)).mono (by
      rintro e w' ⟨a, cap, rfl, ho, hb⟩
      exact ⟨a, cap, rfl, ho, (below_drewN (Below.refl _ A) m).trans hb⟩))
    have HR : Hid (∀ (W' : World) (a : Option Addr) (cap : Nat), W'.ownsRow A.heap.size (141 : TypeId) 3 (.slice a xs.length cap) xs.length (W xs) → Below A.heap.size A W' → Calls Tryz.prog 152 #[.pointer (some ⟨R, 0, none⟩), .slice a xs.length cap] W' fun e w' => e = .returned (.tuple #[]) ∧ ∃ G', Qu w' R G' (2 * xs.length + 1) 0 xs ∧ A.heap.size ≤ G' ∧ Tb (fun k => k = R ∨ k = G) A w') := hide (fun W' a cap ho hb => (relay q ho hb).mono (by
      rintro e w' ⟨rfl, q', t⟩
      exact ⟨rfl, _, q', hb.size, t⟩))
    subst hfull
    have hxn : xs.length = n := hn.out.symm
    rw [hxn] at HL HR c1 c3 hsm hle hm'
    clear q
    go_enter Tryz.func142, Tryz.ntmps142
    go_wp2_with (rw [← hA.out, hB.out])
    refine C.mono ?_
    rintro e w1 ⟨rfl, hw1⟩
    subst w1
    go_wp2_with fail
    go_quiet (fail)
    go_wp2_with fail
    refine (HL.out _).mono ?_
    rintro e W' ⟨a, cap, rfl, ho, hb⟩
    have HW := hide (HR.out W' a cap ho hb)
    clear ho hb HR HL c1 c3 C
    go_wp2_with fail
    refine HW.out.mono ?_
    rintro e w2 ⟨rfl, G2, q2, hg2, t2⟩
    rw [← hxn] at q2
    obtain ⟨N2, hN2⟩ : ∃ N2, Hid (N2 = 2 * xs.length + 1) := ⟨_, hide rfl⟩
    rw [← hN2.out] at q2
    have lB := heap_lt RAB.out
    obtain ⟨K, y, hK, ⟨c1, c3, x0, x1, x2⟩, HC, KS⟩ := push_spot q2 (by rw [hN2.out]; omega) hm x ((t2.block B lB (by omega)).trans RAB.out) (by omega) (by omega)
    have hsm2 := q2.small
    unfold Mx at hsm2
    rw [hxn] at c3 HC KS
    have HC := hide HC
    have KS := hide KS
    have FIN : Hid (∀ w', Qu w' R G2 N2 0 (xs ++ [x]) → Tb (fun k => k = R ∨ k = G2) w2 w' → Qt w w' R G (xs ++ [x])) := hide (fun w' q' t' => LF.out _ (Qt.then q2 (.inr hg2) t2 ⟨_, _, _, q', .inl rfl, t'⟩))
    clear q2 t2 HW hxn
    go_wp2_with fail
    go_region_held3 (fun V => V.cell? ⟨R, 1, none⟩ = some (.slice (some ⟨G2, 0, none⟩) N2 N2) ∧ V.cell? ⟨R, 3, none⟩ = some (.int .i64 n) ∧ V.cell? ⟨B, 0, none⟩ = some (.pointer x.tk) ∧ V.cell? ⟨B, 1, none⟩ = some (.int .i64 x.val) ∧ V.cell? ⟨B, 2, none⟩ = some x.told)
      (first | exact ⟨c1, c3, x0, x1, x2⟩ | exact e1 | exact (KS.out X hX).1)
      (first | (go_at_call 159; refine (HC.out _ ?_).mono ?_; (first | exact (Below.refl _ _).drew | assumption); rintro e X ⟨rfl, hX, e1, ⟨y0, y1, y2⟩, f0, f1, f2⟩))
    obtain ⟨⟨k1, k3, _⟩, kf, kq, kt⟩ := KS.out X hX
    have HF := hide (FIN.out _ kq kt)
    clear kq kt KS HC FIN c1 c3 x0 x1 x2 e1 y0 y1 y2 f0 f1 f2 hX
    go_wp2_with fail
    go_end0
    exact ⟨rfl, HF.out⟩
  · have HP : Hid (∀ m, ∃ (K : Nat) (y : Wv), K < N ∧ ((A.drewN m).cell? ⟨R, 1, none⟩ = some (.slice (some ⟨G, 0, none⟩) N N) ∧ (A.drewN m).cell? ⟨R, 3, none⟩ = some (.int .i64 xs.length) ∧ (A.drewN m).cell? ⟨B, 0, none⟩ = some (.pointer x.tk) ∧ (A.drewN m).cell? ⟨B, 1, none⟩ = some (.int .i64 x.val) ∧ (A.drewN m).cell? ⟨B, 2, none⟩ = some x.told) ∧
      (∀ V, Below (A.drewN m).heap.size (A.drewN m) V → Calls Tryz.prog 159 #[.pointer (some ⟨R, 0, none⟩), .int .i64 xs.length] V fun e X => e = .returned (.int .i64 K) ∧ Below (A.drewN m).heap.size (A.drewN m) X ∧ (X.cell? ⟨R, 1, none⟩ = some (.slice (some ⟨G, 0, none⟩) N N) ∧ X.cell? ⟨R, 3, none⟩ = some (.int .i64 xs.length) ∧ X.cell? ⟨B, 0, none⟩ = some (.pointer x.tk) ∧ X.cell? ⟨B, 1, none⟩ = some (.int .i64 x.val) ∧ X.cell? ⟨B, 2, none⟩ = some x.told) ∧ (X.cell? ⟨G, K * 3, none⟩ = some (.pointer y.tk) ∧ X.cell? ⟨G, K * 3 + 1, none⟩ = some (.int .i64 y.val) ∧ X.cell? ⟨G, K * 3 + 2, none⟩ = some y.told) ∧ X.frozen? ⟨G, K * 3, none⟩ = false ∧ X.frozen? ⟨G, K * 3 + 1, none⟩ = false ∧ X.frozen? ⟨G, K * 3 + 2, none⟩ = false) ∧
      (∀ X, Below (A.drewN m).heap.size (A.drewN m) X → ((((X.setCell ⟨G, K * 3, none⟩ (.pointer x.tk)).setCell ⟨G, K * 3 + 1, none⟩ (.int .i64 x.val)).setCell ⟨G, K * 3 + 2, none⟩ x.told).cell? ⟨R, 1, none⟩ = some (.slice (some ⟨G, 0, none⟩) N N) ∧ (((X.setCell ⟨G, K * 3, none⟩ (.pointer x.tk)).setCell ⟨G, K * 3 + 1, none⟩ (.int .i64 x.val)).setCell ⟨G, K * 3 + 2, none⟩ x.told).cell? ⟨R, 3, none⟩ = some (.int .i64 xs.length) ∧ (((X.setCell ⟨G, K * 3, none⟩ (.pointer x.tk)).setCell ⟨G, K * 3 + 1, none⟩ (.int .i64 x.val)).setCell ⟨G, K * 3 + 2, none⟩ x.told).cell? ⟨B, 0, none⟩ = some (.pointer x.tk) ∧ (((X.setCell ⟨G, K * 3, none⟩ (.pointer x.tk)).setCell ⟨G, K * 3 + 1, none⟩ (.int .i64 x.val)).setCell ⟨G, K * 3 + 2, none⟩ x.told).cell? ⟨B, 1, none⟩ = some (.int .i64 x.val) ∧ (((X.setCell ⟨G, K * 3, none⟩ (.pointer x.tk)).setCell ⟨G, K * 3 + 1, none⟩ (.int .i64 x.val)).setCell ⟨G, K * 3 + 2, none⟩ x.told).cell? ⟨B, 2, none⟩ = some x.told) ∧ (((X.setCell ⟨G, K * 3, none⟩ (.pointer x.tk)).setCell ⟨G, K * 3 + 1, none⟩ (.int .i64 x.val)).setCell ⟨G, K * 3 + 2, none⟩ x.told).frozen? ⟨R, 3, none⟩ = false ∧ Qt w ((((X.setCell ⟨G, K * 3, none⟩ (.pointer x.tk)).setCell ⟨G, K * 3 + 1, none⟩ (.int .i64 x.val)).setCell ⟨G, K * 3 + 2, none⟩ x.told).setCell ⟨R, 3, none⟩ (.int .i64 ((xs.length : Int) + 1))) R G (xs ++ [x]))) := hide (fun m => by
      have lB := heap_lt RAB.out
      obtain ⟨K, y, h1, h2, h3, h4⟩ := push_spot (q.drewN m) (by omega) hm x (((below_drewN (Below.refl _ A) m).block B lB).trans RAB.out) (by omega) (by omega)
      exact ⟨K, y, h1, h2, h3, fun X hX => ⟨(h4 X hX).1, (h4 X hX).2.1, LF.out _ ⟨_, _, _, (h4 X hX).2.2.1, .inl rfl, (Tb.of_fresh (below_drewN (Below.refl _ A) m)).trans (h4 X hX).2.2.2 (fun _ _ h => h)⟩⟩⟩)
    have hxn : xs.length = n := hn.out.symm
    rw [hxn] at HP c3 hle hm' hfull
    clear q
    go_enter Tryz.func142, Tryz.ntmps142
    go_wp2_with (rw [← hA.out, hB.out])
    refine C.mono ?_
    rintro e w1 ⟨rfl, hw1⟩
    subst w1
    go_wp2_with fail
    go_quiet (fail)
    obtain ⟨K, y, hK, ⟨d1, d3, x0, x1, x2⟩, HC, KS⟩ := HP.out nq
    have HC := hide HC
    have KS := hide KS
    clear HP c1 c3 C hxn LF RAB bA hA
    generalize A.drewN nq = w2 at *
    go_wp2_with fail
    go_region_held3 (fun V => V.cell? ⟨R, 1, none⟩ = some (.slice (some ⟨G, 0, none⟩) N N) ∧ V.cell? ⟨R, 3, none⟩ = some (.int .i64 n) ∧ V.cell? ⟨B, 0, none⟩ = some (.pointer x.tk) ∧ V.cell? ⟨B, 1, none⟩ = some (.int .i64 x.val) ∧ V.cell? ⟨B, 2, none⟩ = some x.told)
      (first | exact ⟨d1, d3, x0, x1, x2⟩ | exact e1 | exact (KS.out X hX).1)
      (first | (go_at_call 159; refine (HC.out _ ?_).mono ?_; (first | exact (Below.refl _ _).drew | assumption); rintro e X ⟨rfl, hX, e1, ⟨y0, y1, y2⟩, f0, f1, f2⟩))
    obtain ⟨⟨k1, k3, _⟩, kf, kq⟩ := KS.out X hX
    have HF := hide kq
    clear kq KS HC d1 d3 x0 x1 x2 e1 y0 y1 y2 f0 f1 f2 hX
    go_wp2_with fail
    go_end0
    exact ⟨rfl, HF.out⟩

end Go.Proofs.YtgjpbekmkhanhaaGreat.QW

/-
  A queue of waiters: Drop.
-/
namespace Go.Proofs.YtgjpbekmkhanhaaGreat.QW
open Go.RowKit
set_option maxRecDepth 100000

theorem drop_nil {w : World} {R G N h : Nat} {xs : List Wv} (q : Qu w R G N h xs) :
    Calls Tryz.prog 137 #[.pointer (some ⟨R, 0, none⟩), .nilFunc] w fun e w' => e = .returned (.int .i64 0) ∧ w' = w := by
  have C := made_yes q
  have he := eql_func_nil (P := Tryz.prog) (w := w) Tryz.underlying175
  clear q
  go_enter Tryz.func137, Tryz.ntmps137
  go_wp2_with fail
  refine C.mono ?_
  rintro e w1 ⟨rfl, rfl⟩
  go_wp2_with fail
  go_ret
  exact ⟨rfl, rfl⟩

theorem W_one' (x : Wv) : W [x] = wc x := by simp [W]

/-- A thing of a list laid in a row of its own. -/
theorem one_laid (wr : World) (x : Wv) : ∃ A8 B8, Hid (A8 = wr.alloc (.cells #[.pointer none, .int .i64 0, .nilFunc] (141 : TypeId))) ∧ Hid (wr.heap.size = B8) ∧ (A8.cell? ⟨B8, 0, none⟩ = some (.pointer none) ∧ A8.cell? ⟨B8, 1, none⟩ = some (.int .i64 0) ∧ A8.cell? ⟨B8, 2, none⟩ = some .nilFunc ∧ A8.frozen? ⟨B8, 0, none⟩ = false ∧ A8.frozen? ⟨B8, 1, none⟩ = false ∧ A8.frozen? ⟨B8, 2, none⟩ = false) ∧
    ((((A8.setCell ⟨B8, 0, none⟩ (.pointer x.tk)).setCell ⟨B8, 1, none⟩ (.int .i64 x.val)).setCell ⟨B8, 2, none⟩ x.told).cell? ⟨B8, 0, none⟩ = some (.pointer x.tk) ∧ (((A8.setCell ⟨B8, 0, none⟩ (.pointer x.tk)).setCell ⟨B8, 1, none⟩ (.int .i64 x.val)).setCell ⟨B8, 2, none⟩ x.told).cell? ⟨B8, 1, none⟩ = some (.int .i64 x.val) ∧ (((A8.setCell ⟨B8, 0, none⟩ (.pointer x.tk)).setCell ⟨B8, 1, none⟩ (.int .i64 x.val)).setCell ⟨B8, 2, none⟩ x.told).cell? ⟨B8, 2, none⟩ = some x.told) ∧ Hid (Below wr.heap.size wr (((A8.setCell ⟨B8, 0, none⟩ (.pointer x.tk)).setCell ⟨B8, 1, none⟩ (.int .i64 x.val)).setCell ⟨B8, 2, none⟩ x.told)) ∧ Hid (B8 < (((A8.setCell ⟨B8, 0, none⟩ (.pointer x.tk)).setCell ⟨B8, 1, none⟩ (.int .i64 x.val)).setCell ⟨B8, 2, none⟩ x.told).heap.size) := by
  obtain ⟨A8, hA8, b8, r8, s8, _, _, _⟩ := zero_laid wr
  have eX := laid_row x r8.out
  exact ⟨A8, _, hA8, hide rfl, ⟨cell_of_row _ _ 0 _ _ _ r8.out, cell_of_row _ _ 1 _ _ _ r8.out, cell_of_row _ _ 2 _ _ _ r8.out, frozen_of_row _ _ 0 _ _ r8.out, frozen_of_row _ _ 1 _ _ r8.out, frozen_of_row _ _ 2 _ _ r8.out⟩, ⟨cell_of_row _ _ 0 _ _ _ eX, cell_of_row _ _ 1 _ _ _ eX, cell_of_row _ _ 2 _ _ _ eX⟩, hide (((b8.out.setCell (Nat.le_refl _) _).setCell (Nat.le_refl _) _).setCell (Nat.le_refl _) _), hide (heap_lt eX)⟩

/-- Things that a function asks of each. -/
structure Asks0 (w0 : World) (xs : List Wv) (fn : Nat) (p : Wv → Bool) : Prop where
  enter : ∀ (args : Array Value) (w : World), (callFunc fn args).run Tryz.prog w = .ok (.enter fn args) w
  call : ∀ x ∈ xs, ∀ w : World, Below w0.heap.size w0 w → Calls Tryz.prog fn #[.agg #[.pointer x.tk, .int .i64 x.val, x.told]] w fun e w' => e = .returned (.bool (p x)) ∧ Below w.heap.size w w'

set_option maxHeartbeats 2000000 in
theorem drop_any0 {w : World} {R G N h : Nat} {xs : List Wv} (q : Qu w R G N h xs) {fn : Nat} {p : Wv → Bool} (hp : Asks0 w xs fn p) :
    Calls Tryz.prog 137 #[.pointer (some ⟨R, 0, none⟩), .func (.func fn) #[] #[]] w fun e w' => e = .returned (.int .i64 ((xs.length : Int) - ((xs.filter fun x => !p x).length : Int))) ∧ Qt w w' R G (xs.filter fun x => !p x) := by
  obtain ⟨i0, hi, hz0, hz1, hz2⟩ := info_parts3 infoE
  have C := made_yes q
  have CL := list_yes q
  have hfew := q.few
  unfold Mx at hfew
  have hfl : (xs.filter fun x => !p x).length ≤ xs.length := List.length_filter_le _ _
  obtain ⟨fs, hfs⟩ : ∃ fs, Hid (fs = xs.filter fun x => !p x) := ⟨_, hide rfl⟩
  rw [← hfs.out] at hfl ⊢
  have hf := hp.enter
  have he := eql_func_no (P := Tryz.prog) (w := w) (.func fn) #[] #[] Tryz.underlying175
  have HP := hide hp.call
  have HQ := hide q
  clear q hp
  go_enter Tryz.func137, Tryz.ntmps137
  go_wp2_with fail
  refine C.mono ?_
  rintro e w1 ⟨rfl, hw1⟩
  subst w1
  go_wp2_with fail
  refine CL.mono ?_
  rintro e w2 ⟨a, cap, rfl, ho, hb⟩
  have hA := own_ls ho
  have hA2 := hA.le
  have hA3 := hA.reach
  obtain ⟨n, hn⟩ : ∃ n, Hid (n = xs.length) := ⟨_, hide rfl⟩
  rw [← hn.out] at hA2 hfew ⊢
  have HA := hide hA
  have HB2 := hide hb
  clear C CL ho hA hb
  go_wp2_with fail
  go_loopw [5, 20] (fun v i wr => ∃ k : Nat, k ≤ n ∧ i = .int .i64 k ∧ Hid (wr.ownsRow w2.heap.size (141 : TypeId) 3 v ((xs.take k).filter fun x => !p x).length (W ((xs.take k).filter fun x => !p x))) ∧ Below w2.heap.size w2 wr) (fun _ i _ => n - (intOf i).toNat)
  case atStart => exact ⟨0, Nat.zero_le _, rfl, hide ⟨rfl, .inl ⟨rfl, rfl⟩⟩, Below.refl _ _⟩
  case round =>
    obtain ⟨k, hk, rfl, hown, hbr⟩ := hrel
    by_cases hlt : k < n
    · have hkx : k < xs.length := by rw [← hn.out]; exact hlt
      obtain ⟨b1, o1, rfl, hc1⟩ := (HA.out.keep hbr).lies (by omega)
      have hkg : xs[k]? = some (xs.getD k wz) := by simp [List.getD, List.getElem?_eq_getElem hkx]
      have k0 : wr.cell? ⟨b1, o1 + k * 3, none⟩ = some (.pointer (xs.getD k wz).tk) := hc1 k _ hkg 0 _ rfl
      have k1 : wr.cell? ⟨b1, o1 + k * 3 + 1, none⟩ = some (.int .i64 (xs.getD k wz).val) := hc1 k _ hkg 1 _ rfl
      have k2 : wr.cell? ⟨b1, o1 + k * 3 + 2, none⟩ = some (xs.getD k wz).told := hc1 k _ hkg 2 _ rfl
      clear hc1 hkg
      have hmem : xs.getD k wz ∈ xs := by simp [List.getD, List.getElem?_eq_getElem hkx]
      have hCk := fun V hV => HP.out (xs.getD k wz) hmem V (HB2.out.trans ((hbr.trans ((hV : Below wr.heap.size wr V).mono hbr.size)).mono HB2.out.size))
      have hsn : (xs.take (k + 1)).filter (fun x => !p x) = (xs.take k).filter (fun x => !p x) ++ if p (xs.getD k wz) then [] else [xs.getD k wz] := by
        rw [List.take_succ_eq_append_getElem hkx, List.filter_append]
        simp only [List.getD, List.getElem?_eq_getElem hkx, Option.getD_some]
        by_cases hh : p xs[k] = true
        · simp [hh]
        · simp only [Bool.not_eq_true] at hh
          simp [hh]
      have hml : ((xs.take k).filter fun x => !p x).length ≤ k := Nat.le_trans (List.length_filter_le _ _) (List.length_take_le _ _)
      have HS := hide hsn
      have HST0 : ∀ (W : World) (a : Addr) (m : Mode), (store a (xs.getD k wz).told m).run Tryz.prog W = stored Tryz.prog W a (xs.getD k wz).told m := fun W a m => run_store Tryz.prog W a _ m (xs.getD k wz).one
      clear hsn hkx hmem
      generalize xs.getD k wz = x at *
      generalize ((xs.take k).filter fun x => !p x) = ys at *
      obtain ⟨m, hm⟩ : ∃ m, Hid (m = ys.length) := ⟨_, hide rfl⟩
      rw [← hm.out] at hml hown
      obtain ⟨A8, B8, hA8, hB8, ⟨a0, a1, a2, f0, f1, f2⟩, ⟨x0, x1, x2⟩, bY, lY⟩ := one_laid wr x
      have hCY := hCk _ bY.out
      clear hCk
      have hwl := hide hbr.size
      have HBR := hide hbr
      cases hpx : p x with
      | true =>
        rw [hpx] at hCY
        have HS' : Hid ((xs.take (k + 1)).filter (fun x => !p x) = ys) := hide (by rw [HS.out, hpx]; simp)
        have HO := hown
        clear HS hpx hown hbr
        go_wp2_with (rw [← hA8.out, hB8.out])
        refine hCY.mono ?_
        rintro e w3 ⟨rfl, hw3⟩
        have HB3 := hide (bY.out.trans (hw3.mono bY.out.size))
        clear hw3
        go_wp2_with fail
        go_roundw
        case rel => exact ⟨k + 1, by omega, by go_num, hide (by rw [HS'.out, ← hm.out]; exact row_tb HO.out (Tb.of_fresh (S := fun _ => False) HB3.out) (fun _ _ h => h)), HBR.out.trans (HB3.out.mono HBR.out.size)⟩
        case measure => simp [intOf]; omega
      | false =>
        rw [hpx] at hCY
        have HS' : Hid ((xs.take (k + 1)).filter (fun x => !p x) = ys ++ [x]) := hide (by rw [HS.out, hpx]; simp)
        have HO := hown
        clear HS hpx hown hbr
        go_wp2_with (rw [← hA8.out, hB8.out])
        refine hCY.mono ?_
        rintro e w3 ⟨rfl, hw3⟩
        have HB3 := hide (bY.out.trans (hw3.mono bY.out.size))
        have y0 := (hw3.cell lY.out).trans x0
        have y1 := (hw3.cell lY.out).trans x1
        have y2 := (hw3.cell lY.out).trans x2
        have HO5 := hide ((row_tb HO.out (Tb.of_fresh (S := fun _ => False) HB3.out) (fun _ _ h => h)).alloc (.cells #[.pointer x.tk, .int .i64 x.val, x.told] (141 : TypeId)))
        have hb3s := hide HB3.out.size
        have FB : Hid (∀ w6, (w3.alloc (.cells #[.pointer x.tk, .int .i64 x.val, x.told] (141 : TypeId))).grownBy w6 u5.ownBlock → Below w2.heap.size w2 w6) := hide (fun w6 h2 => ((HBR.out.trans (HB3.out.mono HBR.out.size)).alloc (by have := hb3s.out; have := hwl.out; omega) _).grown h2 (by have := hb3s.out; have := hwl.out; simp; omega) (fun y hy => (HO.out.lt y hy).1))
        clear hw3 a0 a1 a2 f0 f1 f2 x0 x1 x2
        go_wp2_with (at_builtin; refine wpList_append_own _ rfl _ _ 138 rfl w2.heap.size (141 : TypeId) i0 (.agg #[.pointer none, .int .i64 0, .nilFunc]) 3 24 Tryz.underlying138 hi hz0 hz1 hz2 rfl (by omega) _ _ _ rfl HO5.out ⟨_, 0, none⟩ 1 1 (wc x) rfl rfl (cell_three_new _ _ _ _ _) (wc_one x) (by unfold maxLen; omega) (by omega) (by have := hb3s.out; have := hwl.out; simp; omega) ?_; intro v6 w6 hown6 hgrow6 _)
        have HO6 := hide hown6
        have HB6 := hide (FB.out w6 hgrow6)
        clear hown6 hgrow6
        go_roundw
        case rel => exact ⟨k + 1, by omega, by go_num, hide (by rw [HS'.out, W_append, W_one', List.length_append, ← hm.out]; exact HO6.out), HB6.out⟩
        case measure => simp [intOf]; omega
    · obtain rfl : k = n := by omega
      have hall : xs.take k = xs := List.take_of_length_le (by rw [hn.out]; exact Nat.le_refl _)
      rw [hall, ← hfs.out] at hown
      obtain ⟨va, vc, rfl⟩ := row_val hown.out
      have hb := HB2.out.trans (hbr.mono HB2.out.size)
      have hR := (hb.block R HQ.out.lt).trans HQ.out.obj
      have hCl := lay_any hR (own_ls hown.out) (fun ad h e => by
        subst h
        have h1 := (hown.out.lt ad.block (by
          rcases hown.out.2 with ⟨h1, _⟩ | ⟨g, c, cur, h1, _⟩
          · cases h1
          · simp only [Value.slice.injEq, Option.some.injEq] at h1
            rw [h1.1]
            rfl)).1
        have h2 := HQ.out.lt
        have h3 := HB2.out.size
        omega) (by unfold Mx; have := hn.out; omega)
      have HCl : Hid (Calls Tryz.prog 152 #[.pointer (some ⟨R, 0, none⟩), .slice va fs.length vc] wr fun e w' => e = .returned (.tuple #[]) ∧ Qt w w' R G fs) := hide (hCl.mono (by
        rintro e w' ⟨rfl, q', t⟩
        exact ⟨rfl, _, _, _, q', .inr hb.size, (Tb.of_fresh hb).trans t (fun _ _ h => .inl h)⟩))
      have hre := (own_ls hown.out).le
      have hre2 := (own_ls hown.out).reach
      have hlen : (xs.length : Int) = (k : Int) := by rw [hn.out]
      have HLN := hide hlen
      have hfk : fs.length ≤ k := by rw [hn.out]; exact hfl
      clear hCl hR hb hown hall hlen hfl
      go_wp2_with fail
      refine HCl.out.mono ?_
      rintro e w' ⟨rfl, hq⟩
      go_wp2_with fail
      go_ret
      rw [HLN.out]
      exact ⟨by go_num, hq⟩

/-- Things that a function asks of each. -/
structure Asks1 (w0 : World) (xs : List Wv) (fn : Nat) (c : Value) (p : Wv → Bool) : Prop where
  enter : ∀ (args : Array Value) (w : World), (callFunc fn args).run Tryz.prog w = .ok (.enter fn args) w
  call : ∀ x ∈ xs, ∀ w : World, Below w0.heap.size w0 w → Calls Tryz.prog fn #[.agg #[.pointer x.tk, .int .i64 x.val, x.told], c] w fun e w' => e = .returned (.bool (p x)) ∧ Below w.heap.size w w'

set_option maxHeartbeats 2000000 in
theorem drop_any1 {w : World} {R G N h : Nat} {xs : List Wv} (q : Qu w R G N h xs) {fn : Nat} {c : Value} {p : Wv → Bool} (hp : Asks1 w xs fn c p) :
    Calls Tryz.prog 137 #[.pointer (some ⟨R, 0, none⟩), .func (.func fn) #[] #[c]] w fun e w' => e = .returned (.int .i64 ((xs.length : Int) - ((xs.filter fun x => !p x).length : Int))) ∧ Qt w w' R G (xs.filter fun x => !p x) := by
  obtain ⟨i0, hi, hz0, hz1, hz2⟩ := info_parts3 infoE
  have C := made_yes q
  have CL := list_yes q
  have hfew := q.few
  unfold Mx at hfew
  have hfl : (xs.filter fun x => !p x).length ≤ xs.length := List.length_filter_le _ _
  obtain ⟨fs, hfs⟩ : ∃ fs, Hid (fs = xs.filter fun x => !p x) := ⟨_, hide rfl⟩
  rw [← hfs.out] at hfl ⊢
  have hf := hp.enter
  have he := eql_func_no (P := Tryz.prog) (w := w) (.func fn) #[] #[c] Tryz.underlying175
  have HP := hide hp.call
  have HQ := hide q
  clear q hp
  go_enter Tryz.func137, Tryz.ntmps137
  go_wp2_with fail
  refine C.mono ?_
  rintro e w1 ⟨rfl, hw1⟩
  subst w1
  go_wp2_with fail
  refine CL.mono ?_
  rintro e w2 ⟨a, cap, rfl, ho, hb⟩
  have hA := own_ls ho
  have hA2 := hA.le
  have hA3 := hA.reach
  obtain ⟨n, hn⟩ : ∃ n, Hid (n = xs.length) := ⟨_, hide rfl⟩
  rw [← hn.out] at hA2 hfew ⊢
  have HA := hide hA
  have HB2 := hide hb
  clear C CL ho hA hb
  go_wp2_with fail
  go_loopw [5, 20] (fun v i wr => ∃ k : Nat, k ≤ n ∧ i = .int .i64 k ∧ Hid (wr.ownsRow w2.heap.size (141 : TypeId) 3 v ((xs.take k).filter fun x => !p x).length (W ((xs.take k).filter fun x => !p x))) ∧ Below w2.heap.size w2 wr) (fun _ i _ => n - (intOf i).toNat)
  case atStart => exact ⟨0, Nat.zero_le _, rfl, hide ⟨rfl, .inl ⟨rfl, rfl⟩⟩, Below.refl _ _⟩
  case round =>
    obtain ⟨k, hk, rfl, hown, hbr⟩ := hrel
    by_cases hlt : k < n
    · have hkx : k < xs.length := by rw [← hn.out]; exact hlt
      obtain ⟨b1, o1, rfl, hc1⟩ := (HA.out.keep hbr).lies (by omega)
      have hkg : xs[k]? = some (xs.getD k wz) := by simp [List.getD, List.getElem?_eq_getElem hkx]
      have k0 : wr.cell? ⟨b1, o1 + k * 3, none⟩ = some (.pointer (xs.getD k wz).tk) := hc1 k _ hkg 0 _ rfl
      have k1 : wr.cell? ⟨b1, o1 + k * 3 + 1, none⟩ = some (.int .i64 (xs.getD k wz).val) := hc1 k _ hkg 1 _ rfl
      have k2 : wr.cell? ⟨b1, o1 + k * 3 + 2, none⟩ = some (xs.getD k wz).told := hc1 k _ hkg 2 _ rfl
      clear hc1 hkg
      have hmem : xs.getD k wz ∈ xs := by simp [List.getD, List.getElem?_eq_getElem hkx]
      have hCk := fun V hV => HP.out (xs.getD k wz) hmem V (HB2.out.trans ((hbr.trans ((hV : Below wr.heap.size wr V).mono hbr.size)).mono HB2.out.size))
      have hsn : (xs.take (k + 1)).filter (fun x => !p x) = (xs.take k).filter (fun x => !p x) ++ if p (xs.getD k wz) then [] else [xs.getD k wz] := by
        rw [List.take_succ_eq_append_getElem hkx, List.filter_append]
        simp only [List.getD, List.getElem?_eq_getElem hkx, Option.getD_some]
        by_cases hh : p xs[k] = true
        · simp [hh]
        · simp only [Bool.not_eq_true] at hh
          simp [hh]
      have hml : ((xs.take k).filter fun x => !p x).length ≤ k := Nat.le_trans (List.length_filter_le _ _) (List.length_take_le _ _)
      have HS := hide hsn
      have HST0 : ∀ (W : World) (a : Addr) (m : Mode), (store a (xs.getD k wz).told m).run Tryz.prog W = stored Tryz.prog W a (xs.getD k wz).told m := fun W a m => run_store Tryz.prog W a _ m (xs.getD k wz).one
      clear hsn hkx hmem
      generalize xs.getD k wz = x at *
      generalize ((xs.take k).filter fun x => !p x) = ys at *
      obtain ⟨m, hm⟩ : ∃ m, Hid (m = ys.length) := ⟨_, hide rfl⟩
      rw [← hm.out] at hml hown
      obtain ⟨A8, B8, hA8, hB8, ⟨a0, a1, a2, f0, f1, f2⟩, ⟨x0, x1, x2⟩, bY, lY⟩ := one_laid wr x
      have hCY := hCk _ bY.out
      clear hCk
      have hwl := hide hbr.size
      have HBR := hide hbr
      cases hpx : p x with
      | true =>
        rw [hpx] at hCY
        have HS' : Hid ((xs.take (k + 1)).filter (fun x => !p x) = ys) := hide (by rw [HS.out, hpx]; simp)
        have HO := hown
        clear HS hpx hown hbr
        go_wp2_with (rw [← hA8.out, hB8.out])
        refine hCY.mono ?_
        rintro e w3 ⟨rfl, hw3⟩
        have HB3 := hide (bY.out.trans (hw3.mono bY.out.size))
        clear hw3
        go_wp2_with fail
        go_roundw
        case rel => exact ⟨k + 1, by omega, by go_num, hide (by rw [HS'.out, ← hm.out]; exact row_tb HO.out (Tb.of_fresh (S := fun _ => False) HB3.out) (fun _ _ h => h)), HBR.out.trans (HB3.out.mono HBR.out.size)⟩
        case measure => simp [intOf]; omega
      | false =>
        rw [hpx] at hCY
        have HS' : Hid ((xs.take (k + 1)).filter (fun x => !p x) = ys ++ [x]) := hide (by rw [HS.out, hpx]; simp)
        have HO := hown
        clear HS hpx hown hbr
        go_wp2_with (rw [← hA8.out, hB8.out])
        refine hCY.mono ?_
        rintro e w3 ⟨rfl, hw3⟩
        have HB3 := hide (bY.out.trans (hw3.mono bY.out.size))
        have y0 := (hw3.cell lY.out).trans x0
        have y1 := (hw3.cell lY.out).trans x1
        have y2 := (hw3.cell lY.out).trans x2
        have HO5 := hide ((row_tb HO.out (Tb.of_fresh (S := fun _ => False) HB3.out) (fun _ _ h => h)).alloc (.cells #[.pointer x.tk, .int .i64 x.val, x.told] (141 : TypeId)))
        have hb3s := hide HB3.out.size
        have FB : Hid (∀ w6, (w3.alloc (.cells #[.pointer x.tk, .int .i64 x.val, x.told] (141 : TypeId))).grownBy w6 u5.ownBlock → Below w2.heap.size w2 w6) := hide (fun w6 h2 => ((HBR.out.trans (HB3.out.mono HBR.out.size)).alloc (by have := hb3s.out; have := hwl.out; omega) _).grown h2 (by have := hb3s.out; have := hwl.out; simp; omega) (fun y hy => (HO.out.lt y hy).1))
        clear hw3 a0 a1 a2 f0 f1 f2 x0 x1 x2
        go_wp2_with (at_builtin; refine wpList_append_own _ rfl _ _ 138 rfl w2.heap.size (141 : TypeId) i0 (.agg #[.pointer none, .int .i64 0, .nilFunc]) 3 24 Tryz.underlying138 hi hz0 hz1 hz2 rfl (by omega) _ _ _ rfl HO5.out ⟨_, 0, none⟩ 1 1 (wc x) rfl rfl (cell_three_new _ _ _ _ _) (wc_one x) (by unfold maxLen; omega) (by omega) (by have := hb3s.out; have := hwl.out; simp; omega) ?_; intro v6 w6 hown6 hgrow6 _)
        have HO6 := hide hown6
        have HB6 := hide (FB.out w6 hgrow6)
        clear hown6 hgrow6
        go_roundw
        case rel => exact ⟨k + 1, by omega, by go_num, hide (by rw [HS'.out, W_append, W_one', List.length_append, ← hm.out]; exact HO6.out), HB6.out⟩
        case measure => simp [intOf]; omega
    · obtain rfl : k = n := by omega
      have hall : xs.take k = xs := List.take_of_length_le (by rw [hn.out]; exact Nat.le_refl _)
      rw [hall, ← hfs.out] at hown
      obtain ⟨va, vc, rfl⟩ := row_val hown.out
      have hb := HB2.out.trans (hbr.mono HB2.out.size)
      have hR := (hb.block R HQ.out.lt).trans HQ.out.obj
      have hCl := lay_any hR (own_ls hown.out) (fun ad h e => by
        subst h
        have h1 := (hown.out.lt ad.block (by
          rcases hown.out.2 with ⟨h1, _⟩ | ⟨g, c, cur, h1, _⟩
          · cases h1
          · simp only [Value.slice.injEq, Option.some.injEq] at h1
            rw [h1.1]
            rfl)).1
        have h2 := HQ.out.lt
        have h3 := HB2.out.size
        omega) (by unfold Mx; have := hn.out; omega)
      have HCl : Hid (Calls Tryz.prog 152 #[.pointer (some ⟨R, 0, none⟩), .slice va fs.length vc] wr fun e w' => e = .returned (.tuple #[]) ∧ Qt w w' R G fs) := hide (hCl.mono (by
        rintro e w' ⟨rfl, q', t⟩
        exact ⟨rfl, _, _, _, q', .inr hb.size, (Tb.of_fresh hb).trans t (fun _ _ h => .inl h)⟩))
      have hre := (own_ls hown.out).le
      have hre2 := (own_ls hown.out).reach
      have hlen : (xs.length : Int) = (k : Int) := by rw [hn.out]
      have HLN := hide hlen
      have hfk : fs.length ≤ k := by rw [hn.out]; exact hfl
      clear hCl hR hb hown hall hlen hfl
      go_wp2_with fail
      refine HCl.out.mono ?_
      rintro e w' ⟨rfl, hq⟩
      go_wp2_with fail
      go_ret
      rw [HLN.out]
      exact ⟨by go_num, hq⟩

end Go.Proofs.YtgjpbekmkhanhaaGreat.QW

/-
  Texts put into one.
-/
import Derived.Test.YtgjpbekmkhanhaaGreatQkbe5b8ca2

/-
  ChansOrder: a task's first turn; what a turn of a sender, of a receiver does.
-/
namespace Go.Proofs.YtgjpbekmkhanhaaGreat.CG
open Go.RowKit QW CH
set_option maxRecDepth 100000
set_option linter.unusedSimpArgs false
set_option linter.unusedVariables false

section
variable {o : Ow} {F : Nat → Prop} {w : World} {iB b i g1 g2 : Nat}

theorem first_go {X : World} {g1 g2 b : Nat} {fn : Nat} {caps : Array Value} (hen : Ent fn) (e1 : X.heap[g1]? = some (.cells #[.func (.func fn) #[] caps] (76 : TypeId) (0, 0))) (e2 : X.heap[g2]? = some (.cells #[.pointer (some ⟨b, 0, none⟩)] (60 : TypeId) (0, 0))) (Ψ : World → Prop) (hC : Calls Tryz.prog fn (#[.pointer (some ⟨b, 0, none⟩)] ++ caps) X fun e w' => e = .returned (.tuple #[]) ∧ Ψ w') :
    Calls Tryz.prog 68 #[.pointer (some ⟨g1, 0, none⟩), .pointer (some ⟨g2, 0, none⟩)] X fun e w' => e = .returned (.tuple #[]) ∧ Ψ w' := by
  have d1 : X.cell? ⟨g1, 0, none⟩ = some (.func (.func fn) #[] caps) := cell_of_row X _ 0 _ _ _ e1
  have d2 : X.cell? ⟨g2, 0, none⟩ = some (.pointer (some ⟨b, 0, none⟩)) := cell_of_row X _ 0 _ _ _ e2
  have HC := hide hC
  clear hC e1 e2
  unfold Ent at hen
  go_enter Tryz.func68, Tryz.ntmps68
  go_wp2_with fail
  refine HC.out.mono ?_
  rintro e w1 ⟨rfl, hΨ⟩
  go_wp2_with fail
  go_end0
  exact ⟨rfl, hΨ⟩

theorem go_f1 (hi : i < o.nS) (fS : F o.SB) (f1 : F g1) (f2 : F g2) (fi : F iB)
    (eS : w.heap[o.SB]? = some (.cells #[.func (.func 41) #[] (capS o)] (91 : TypeId) (0, 0))) (e1 : w.heap[g1]? = some (.cells #[.func (.func 45) #[] #[.pointer (some ⟨o.SB, 0, none⟩), .pointer (some ⟨iB, 0, none⟩)]] (76 : TypeId) (0, 0))) (e2 : w.heap[g2]? = some (.cells #[.pointer (some ⟨b, 0, none⟩)] (60 : TypeId) (0, 0))) (ei : w.heap[iB]? = some (.cells #[.int .i64 i] 3 (0, 0))) :
    Go0 F w (spv g1 g2) (oQT o b i 0 (0, 0, false)) := by
  refine ⟨_, _, rfl, entOs, fun V Ψ hV hQ => ?_⟩
  obtain ⟨t, ht, hT, hC⟩ := (hQ V (Below.refl _ _)).1 hi
  have hC0 : Calls Tryz.prog 41 #[.pointer (some ⟨b, 0, none⟩), .int .i64 i, .int .i64 0, .pointer (some ⟨o.BB, 0, none⟩), .pointer (some ⟨o.CB, 0, none⟩), .pointer (some ⟨o.TB, 0, none⟩), .pointer (some ⟨o.SB, 0, none⟩)] V fun e w' => e = .returned (.tuple #[]) ∧ Ψ w' := hC
  refine first_go entO3 ((hV _ f1).trans e1) ((hV _ f2).trans e2) Ψ ?_
  have cS := cell_of_row V _ 0 _ _ _ ((hV _ fS).trans eS)
  have ci := cell_of_row V _ 0 _ _ _ ((hV _ fi).trans ei)
  have HC := hide hC0
  have hen := entO1
  unfold Ent at hen
  clear hC hC0 hQ hV hT
  simp only [List.append_toArray, List.cons_append, List.nil_append]
  go_enter Tryz.func45, Tryz.ntmps45
  go_wp2_with fail
  refine HC.out.mono ?_
  rintro e w1 ⟨rfl, hΨ⟩
  go_wp2_with fail
  go_end0
  exact ⟨rfl, hΨ⟩

theorem go_f2 (hi : ¬ i < o.nS) (f1 : F g1) (f2 : F g2)
    (e1 : w.heap[g1]? = some (.cells #[.func (.func 43) #[] (capR o)] (76 : TypeId) (0, 0))) (e2 : w.heap[g2]? = some (.cells #[.pointer (some ⟨b, 0, none⟩)] (60 : TypeId) (0, 0))) :
    Go0 F w (spv g1 g2) (oQT o b i 0 (0, 0, false)) := by
  refine ⟨_, _, rfl, entOs, fun V Ψ hV hQ => ?_⟩
  obtain ⟨ga, gn, gc, pa, pn, pc, Y, hG, hty, hrun, hTb, hC⟩ := (hQ V (Below.refl _ _)).2 hi
  refine first_go entO2 ((hV _ f1).trans e1) ((hV _ f2).trans e2) Ψ ?_
  simpa using hC
end

/-- What the tasks do. -/
def opf (nS i n : Nat) : Dop := if i < nS then (if n < 6 then ⟨2, 0, 100 * (i : Int) + n⟩ else ⟨0, 0, 0⟩) else ⟨3, 0, 0⟩

section
variable {o : Ow} {V w' : World} {L R N left : Nat} {z : Zc} {bs : List Nat} {σ : Sg} {lab lab' : Lb} {i b n : Nat} {p : Pt}

theorem OE.tys {w : World} {ev : List (Nat × Nat × Tld)} (h : OE o L w lab ev) {k : Nat} {f : Value} (hk : Tkt w k f) : k ≠ o.BB ∧ k ≠ o.TB ∧ k ≠ o.GB := by
  obtain ⟨gv, g1, _⟩ := h.gb
  exact ⟨ty_ne hk h.bb.1 (by decide), ty_ne hk h.tb.1 (by decide), ty_ne hk g1 (by decide)⟩

/-- The bad box is written: false again. -/
theorem Wd.bad (h : Wd V L (oX o L) R [z] bs N σ (some i) left lab) (hL : L ≤ V.heap.size) : ∃ lab', Wd (V.setCell ⟨o.BB, 0, none⟩ (.bool false)) L (oX o L) R [z] bs N σ (some i) left lab' ∧ Wy V lab (V.setCell ⟨o.BB, 0, none⟩ (.bool false)) lab' := by
  have hE : OE o L V lab σ.ev := h.e
  have hsame : (V.setCell ⟨o.BB, 0, none⟩ (.bool false)).heap[o.BB]? = V.heap[o.BB]? := by
    rw [heap_setCell_same V o.BB 0 _ _ _ hE.bb.1, hE.bb.1]
    rfl
  have t : Tb (fun k => k = o.BB) V (V.setCell ⟨o.BB, 0, none⟩ (.bool false)) := Tb.set o.BB 0 _ rfl
  have hall : ∀ k, k < V.heap.size → (V.setCell ⟨o.BB, 0, none⟩ (.bool false)).heap[k]? = V.heap[k]? := fun k hk => by
    by_cases e : k = o.BB
    · rw [e]; exact hsame
    · exact t.block k hk e
  have hb : Below V.heap.size V (V.setCell ⟨o.BB, 0, none⟩ (.bool false)) := ⟨t.os, t.tape, t.output, t.size, fun k hk => hall k hk⟩
  exact h.below hL hb

set_option maxHeartbeats 2000000 in
/-- What send does. -/
theorem send_any (h : Wd V L (oX o L) R [z] bs N σ (some i) left lab) (hL : L ≤ V.heap.size) (hz : z.C = o.C) (hp : σ.tk[i]? = some p) (hst : p.st = 2) (hat : p.at' = n + 1) (hb : bs[i]? = some b) (hi : i < o.nS) (hi4 : i ≤ 10) (hn : n ≤ 6) (hm : N + 1 < Mx) :
    Calls Tryz.prog 41 #[.pointer (some ⟨b, 0, none⟩), .int .i64 i, .int .i64 n, .pointer (some ⟨o.BB, 0, none⟩), .pointer (some ⟨o.CB, 0, none⟩), .pointer (some ⟨o.TB, 0, none⟩), .pointer (some ⟨o.SB, 0, none⟩)] V fun e w' => e = .returned (.tuple #[]) ∧ ∃ lab', Wd w' L (oX o L) R [z] bs (N + 1) (σ.acts i (opf o.nS i n)) (some i) left lab' ∧ Wy V lab w' lab' := by
  obtain ⟨V1, h1⟩ : ∃ W, Hid (W = V.alloc (.cells #[.pointer (some ⟨b, 0, none⟩)] (60 : TypeId))) := ⟨_, hide rfl⟩
  obtain ⟨V2, h2⟩ : ∃ W, Hid (W = V1.alloc (.cells #[.int .i64 i] 3)) := ⟨_, hide rfl⟩
  obtain ⟨V3, h3⟩ : ∃ W, Hid (W = V2.alloc (.cells #[.int .i64 n] 3)) := ⟨_, hide rfl⟩
  have b1 : Below V.heap.size V V1 := by rw [h1.out]; exact (Below.refl _ _).alloc (Nat.le_refl _) _
  have b2 : Below V1.heap.size V1 V2 := by rw [h2.out]; exact (Below.refl _ _).alloc (Nat.le_refl _) _
  have b3 : Below V2.heap.size V2 V3 := by rw [h3.out]; exact (Below.refl _ _).alloc (Nat.le_refl _) _
  have z1 : V1.heap.size = V.heap.size + 1 := by rw [h1.out]; simp
  have z2 : V2.heap.size = V.heap.size + 2 := by rw [h2.out]; simp [z1]
  have z3 : V3.heap.size = V.heap.size + 3 := by rw [h3.out]; simp [z2]
  have r1 : V1.heap[V.heap.size]? = some (.cells #[.pointer (some ⟨b, 0, none⟩)] (60 : TypeId) (0, 0)) := by rw [h1.out]; exact heap_alloc_new _ _
  have r2 : V2.heap[V1.heap.size]? = some (.cells #[.int .i64 i] 3 (0, 0)) := by rw [h2.out]; exact heap_alloc_new _ _
  have r3 : V3.heap[V2.heap.size]? = some (.cells #[.int .i64 n] 3 (0, 0)) := by rw [h3.out]; exact heap_alloc_new _ _
  have b23 : Below V1.heap.size V1 V3 := b2.trans (b3.mono (by omega))
  have b13 : Below V.heap.size V V3 := b1.trans (b23.mono (by omega))
  have r1' := (b23.block _ (heap_lt r1)).trans r1
  have r2' := (b3.block _ (heap_lt r2)).trans r2
  obtain ⟨hw, hy⟩ := h.boxes hL b13 (N := fun k => k = V.heap.size ∨ k = V1.heap.size ∨ k = V2.heap.size) (fun k hk => by omega)
  obtain ⟨lab1, hl1⟩ : ∃ l, l = relab lab .fz (fun k => lab k = some .fz ∨ (k = V.heap.size ∨ k = V1.heap.size ∨ k = V2.heap.size)) := ⟨_, rfl⟩
  rw [← hl1] at hw hy
  have f1 : lab1 V.heap.size = some .fz := by rw [hl1]; exact relab_same.2 (.inr (.inl rfl))
  have f2 : lab1 V1.heap.size = some .fz := by rw [hl1]; exact relab_same.2 (.inr (.inr (.inl rfl)))
  have f3 : lab1 V2.heap.size = some .fz := by rw [hl1]; exact relab_same.2 (.inr (.inr (.inr rfl)))
  have hE : OE o L V3 lab1 σ.ev := hw.e
  have hL3 : L ≤ V3.heap.size := by omega
  have cn : V3.cell? ⟨V2.heap.size, 0, none⟩ = some (.int .i64 n) := cell_of_row _ _ 0 _ _ _ r3
  obtain ⟨tB, htB⟩ : ∃ g, Hid (V.heap.size = g) := ⟨_, hide rfl⟩
  obtain ⟨iB, hiB⟩ : ∃ g, Hid (V1.heap.size = g) := ⟨_, hide rfl⟩
  obtain ⟨nB, hnB⟩ : ∃ g, Hid (V2.heap.size = g) := ⟨_, hide rfl⟩
  have hz1 : tB + 1 = iB := by have := htB.out; have := hiB.out; omega
  have hz2 : iB + 1 = nB := by have := hnB.out; have := hiB.out; omega
  rw [htB.out] at r1' f1
  rw [hiB.out] at r2' f2
  rw [hnB.out] at r3 f3 cn
  by_cases h6 : n = 6
  · subst h6
    have e6 : σ.acts i (opf o.nS i 6) = σ := by simp [opf, hi, Sg.acts]
    rw [e6]
    have FIN := hide (⟨lab1, hw.mono (Nat.le_succ N), hy⟩ : ∃ lab', Wd V3 L (oX o L) R [z] bs (N + 1) σ (some i) left lab' ∧ Wy V lab V3 lab')
    clear h hw hy hE r1 r2 r3 r1' r2' b1 b2 b3 b23 b13 hl1 f1 f2 f3 hp hb
    go_enter Tryz.func41, Tryz.ntmps41
    go_wp2_with (first | (rw [← h1.out, ← h2.out, ← h3.out]; simp only [htB.out, hiB.out, hnB.out, hz1, hz2]))
    have h3' : V2.alloc (.cells #[.int .i64 6] 3) = V3 := h3.out.symm
    rw [← h1.out, ← h2.out, h3']
    refine bodyPost_ret (results_none rfl _ _ _) rfl ?_
    exact ⟨rfl, FIN.out⟩
  · have hn5 : n < 6 := by omega
    have e6 : σ.acts i (opf o.nS i n) = if (σ.c 0).canS then (σ.send 0 (100 * (i : Int) + n)).2.gets i (0, 0, (σ.send 0 (100 * (i : Int) + n)).1) else σ.waitS i 0 (100 * (i : Int) + n) := by
      have : opf o.nS i n = ⟨2, 0, 100 * (i : Int) + n⟩ := by unfold opf; rw [if_pos hi, if_pos hn5]
      rw [this]
      simp [Sg.acts]
    have hgo : Go1 (Fz lab1) V3 (.func (.func 42) #[] #[.pointer (some ⟨o.TB, 0, none⟩), .pointer (some ⟨o.SB, 0, none⟩), .pointer (some ⟨tB, 0, none⟩), .pointer (some ⟨iB, 0, none⟩), .pointer (some ⟨nB, 0, none⟩)]) (fun ok => (oX o L).QT b i p.at' (0, 0, ok)) := by
      rw [hat]
      exact go_o1 hi (by omega) hE.sb.2 f1 f2 f3 (fun e => by have := hE.tb.2; unfold Fz at e; rw [this] at e; cases e) hE.sb.1 r1' r2' r3
    have CS := wsend hw hL3 hp hst hb (j := 0) (z := z) rfl hm (100 * (i : Int) + n) hgo
    rw [← e6, hz] at CS
    have HS : Hid (∀ w1, (∃ lab', Wd w1 L (oX o L) R [z] bs (N + 1) (σ.acts i (opf o.nS i n)) (some i) left lab' ∧ Wy V3 lab1 w1 lab') → (∃ v0, w1.cell? ⟨o.BB, 0, none⟩ = some v0) ∧ w1.frozen? ⟨o.BB, 0, none⟩ = false ∧ Hid (∃ lab', Wd (w1.setCell ⟨o.BB, 0, none⟩ (.bool false)) L (oX o L) R [z] bs (N + 1) (σ.acts i (opf o.nS i n)) (some i) left lab' ∧ Wy V lab (w1.setCell ⟨o.BB, 0, none⟩ (.bool false)) lab')) := hide (fun w1 ⟨l2, g1, g2⟩ => by
      have hE1 : OE o L w1 l2 _ := g1.e
      obtain ⟨l3, g3, g4⟩ := g1.bad hE1.low
      exact ⟨⟨_, cell_of_row _ _ 0 _ _ _ hE1.bb.1⟩, frozen_of_row _ _ 0 _ _ hE1.bb.1, hide ⟨l3, g3, (hy.trans g2).trans g4⟩⟩)
    have cb := cell_of_row _ _ 0 _ _ _ hE.bb.1
    have cc := cell_of_row _ _ 0 _ _ _ hE.cb.1
    have ct := cell_of_row _ _ 0 _ _ _ r1'
    have ci := cell_of_row _ _ 0 _ _ _ r2'
    have hd : ((n : Int) == 6) = false := by simp; omega
    have hw1 : IntKind.i64.wrap (100 * (i : Int)) = 100 * (i : Int) := by rw [IntKind.wrap_i64]; omega
    have hw2 : IntKind.i64.wrap (100 * (i : Int) + n) = 100 * (i : Int) + n := by rw [IntKind.wrap_i64]; omega
    clear h hw hy hE r1 r2 r3 r1' r2' b1 b2 b3 b23 b13 hl1 f1 f2 f3 hp hb hgo e6
    go_enter Tryz.func41, Tryz.ntmps41
    go_wp2_with (first | (rw [← h1.out, ← h2.out, ← h3.out]; simp only [htB.out, hiB.out, hnB.out, hz1, hz2]))
    refine CS.mono ?_
    rintro e w1 ⟨rfl, hw1⟩
    obtain ⟨⟨v0, x1⟩, x2, x3⟩ := HS.out w1 hw1
    clear HS hw1 CS
    go_wp2_with fail
    go_end0
    exact ⟨rfl, x3.out⟩

set_option maxHeartbeats 2000000 in
/-- What recv does. -/
theorem recv_any (h : Wd V L (oX o L) R [z] bs N σ (some i) left lab) (hL : L ≤ V.heap.size) (hz : z.C = o.C) (hp : σ.tk[i]? = some p) (hst : p.st = 2) (hb : bs[i]? = some b) (hi : ¬ i < o.nS) (hm : N + 1 < Mx) :
    Calls Tryz.prog 43 #[.pointer (some ⟨b, 0, none⟩), .pointer (some ⟨o.BB, 0, none⟩), .pointer (some ⟨o.CB, 0, none⟩), .pointer (some ⟨o.GB, 0, none⟩), .pointer (some ⟨o.RB, 0, none⟩)] V fun e w' => e = .returned (.tuple #[]) ∧ ∃ lab', Wd w' L (oX o L) R [z] bs (N + 1) (σ.acts i (opf o.nS i n)) (some i) left lab' ∧ Wy V lab w' lab' := by
  obtain ⟨V1, h1⟩ : ∃ W, Hid (W = V.alloc (.cells #[.pointer (some ⟨b, 0, none⟩)] (60 : TypeId))) := ⟨_, hide rfl⟩
  have b1 : Below V.heap.size V V1 := by rw [h1.out]; exact (Below.refl _ _).alloc (Nat.le_refl _) _
  have z1 : V1.heap.size = V.heap.size + 1 := by rw [h1.out]; simp
  have r1 : V1.heap[V.heap.size]? = some (.cells #[.pointer (some ⟨b, 0, none⟩)] (60 : TypeId) (0, 0)) := by rw [h1.out]; exact heap_alloc_new _ _
  obtain ⟨hw, hy⟩ := h.boxes hL b1 (N := fun k => k = V.heap.size) (fun k hk => by omega)
  obtain ⟨lab1, hl1⟩ : ∃ l, l = relab lab .fz (fun k => lab k = some .fz ∨ k = V.heap.size) := ⟨_, rfl⟩
  rw [← hl1] at hw hy
  have f1 : lab1 V.heap.size = some .fz := by rw [hl1]; exact relab_same.2 (.inr rfl)
  have hE : OE o L V1 lab1 σ.ev := hw.e
  have hL3 : L ≤ V1.heap.size := by omega
  obtain ⟨tB, htB⟩ : ∃ g, Hid (V.heap.size = g) := ⟨_, hide rfl⟩
  rw [htB.out] at r1 f1
  have e6 : σ.acts i (opf o.nS i n) = if (σ.c 0).canR then (σ.recv 0).2.2.gets i (0, (σ.recv 0).1, (σ.recv 0).2.1) else σ.waitR i 0 := by
    have : opf o.nS i n = ⟨3, 0, 0⟩ := by unfold opf; rw [if_neg hi]
    rw [this]
    simp [Sg.acts]
  have hgo : Go2 (Fz lab1) V1 (.func (.func 44) #[] #[.pointer (some ⟨o.GB, 0, none⟩), .pointer (some ⟨o.RB, 0, none⟩), .pointer (some ⟨tB, 0, none⟩)]) (fun v ok => (oX o L).QT b i p.at' (0, v, ok)) := go_o2 hi hE.rb.2 f1 hE.rb.1 r1
  have CS := wrecv hw hL3 hp hst hb (j := 0) (z := z) rfl hm hgo
  rw [← e6, hz] at CS
  have HS : Hid (∀ w1, (∃ lab', Wd w1 L (oX o L) R [z] bs (N + 1) (σ.acts i (opf o.nS i n)) (some i) left lab' ∧ Wy V1 lab1 w1 lab') → (∃ v0, w1.cell? ⟨o.BB, 0, none⟩ = some v0) ∧ w1.frozen? ⟨o.BB, 0, none⟩ = false ∧ Hid (∃ lab', Wd (w1.setCell ⟨o.BB, 0, none⟩ (.bool false)) L (oX o L) R [z] bs (N + 1) (σ.acts i (opf o.nS i n)) (some i) left lab' ∧ Wy V lab (w1.setCell ⟨o.BB, 0, none⟩ (.bool false)) lab')) := hide (fun w1 ⟨l2, g1, g2⟩ => by
    have hE1 : OE o L w1 l2 _ := g1.e
    obtain ⟨l3, g3, g4⟩ := g1.bad hE1.low
    exact ⟨⟨_, cell_of_row _ _ 0 _ _ _ hE1.bb.1⟩, frozen_of_row _ _ 0 _ _ hE1.bb.1, hide ⟨l3, g3, (hy.trans g2).trans g4⟩⟩)
  have cb := cell_of_row _ _ 0 _ _ _ hE.bb.1
  have cc := cell_of_row _ _ 0 _ _ _ hE.cb.1
  have ct := cell_of_row _ _ 0 _ _ _ r1
  clear h hw hy hE r1 b1 hl1 f1 hp hb hgo e6
  go_enter Tryz.func43, Tryz.ntmps43
  go_wp2_with (first | (rw [← h1.out]; simp only [htB.out]))
  refine CS.mono ?_
  rintro e w1 ⟨rfl, hw1⟩
  obtain ⟨⟨v0, x1⟩, x2, x3⟩ := HS.out w1 hw1
  clear HS hw1 CS
  go_wp2_with fail
  go_end0
  exact ⟨rfl, x3.out⟩
end

end Go.Proofs.YtgjpbekmkhanhaaGreat.CG

/-
  ChansOrder: what is told is noted; a turn does what opf says.
-/
namespace Go.Proofs.YtgjpbekmkhanhaaGreat.CG
open Go.RowKit QW CH
set_option maxRecDepth 100000
set_option linter.unusedSimpArgs false
set_option linter.unusedVariables false

theorem infoI3 : (Tryz.prog.info? (3 : TypeId)).map (fun i => (i.zero, i.size, i.bytes)) = some (some (.int .i64 0), 1, 8) := by kernel_rfl

section
variable {o : Ow} {V w' : World} {L R N left : Nat} {z : Zc} {bs : List Nat} {σ : Sg} {run : Option Nat} {lab lab' : Lb} {i b n : Nat} {p : Pt}

theorem OE.evs {w : World} {ev ev' : List (Nat × Nat × Tld)} (h : OE o L w lab ev) (h1 : toldN o.nS ev' = toldN o.nS ev) (h2 : gotL o.nS ev' = gotL o.nS ev) : OE o L w lab ev' :=
  ⟨h.cb, h.sb, h.rb, by rw [h1]; exact h.tb, h.bb, by rw [h2]; exact h.gb, h.low⟩
theorem told_one {ev : List (Nat × Nat × Tld)} {e : Nat × Nat × Tld} : toldN o.nS (ev ++ [e]) = toldN o.nS ev + (if decide (e.1 < o.nS) && e.2.2.2.2 then 1 else 0) := by
  unfold toldN
  rw [List.filter_append, List.length_append]
  cases h : (decide (e.1 < o.nS) && e.2.2.2.2) <;> simp [h]
theorem got_one {ev : List (Nat × Nat × Tld)} {e : Nat × Nat × Tld} : gotL o.nS (ev ++ [e]) = gotL o.nS ev ++ (if !decide (e.1 < o.nS) && e.2.2.2.2 then [e.2.2.2.1] else []) := by
  unfold gotL
  rw [List.filter_append, List.map_append]
  cases h : (!decide (e.1 < o.nS) && e.2.2.2.2) <;> simp [h]
theorem told_le (nS : Nat) (ev : List (Nat × Nat × Tld)) : toldN nS ev ≤ ev.length := List.length_filter_le _ _
theorem got_le (nS : Nat) (ev : List (Nat × Nat × Tld)) : (gotL nS ev).length ≤ ev.length := by
  unfold gotL
  rw [List.length_map]
  exact List.length_filter_le _ _

/-- Rows as they were. -/
theorem relab_ev {D : Nat → Prop} (hD : ∀ k, D k ↔ lab k = some .ev) : ∀ k l, lab k = some l → relab lab .ev D k = some l := fun k l hk => by
  by_cases e : l = .ev
  · subst e
    exact relab_same.2 ((hD k).2 hk)
  · exact (relab_other (fun k h => .inl ((hD k).1 h)) e).2 hk

theorem note_eq (hp : σ.tk[i]? = some p) : σ.note i = { σ with ev := σ.ev ++ [(i, p.at', p.td)] } := by
  unfold Sg.note
  rw [p_of hp]

theorem noted_same (h : Wd V L (oX o L) R [z] bs N σ run left lab) (hL : L ≤ V.heap.size) (hp : σ.tk[i]? = some p) (hok : p.td.2.2 = false) : ∃ lab', Wd V L (oX o L) R [z] bs N (σ.note i) run left lab' ∧ Wy V lab V lab' := by
  have hE : OE o L V lab σ.ev := h.e
  rw [note_eq hp]
  obtain ⟨h1, h2⟩ := h.turned hL (D := fun k => lab k = some .ev) (fun k hk => ⟨.inl hk, by obtain ⟨a, s, A, K, hw, _⟩ := h.ex; exact hw.lt' k _ hk⟩) (S := fun _ => False) (fun _ e => e.elim) (Tb.refl _ V) (fun _ _ _ e => e) (ev' := σ.ev ++ [(i, p.at', p.td)]) (by
    have hE2 : OE o L V (relab lab .ev (fun k => lab k = some .ev)) σ.ev := hE.keep (fun k l _ hk => ⟨relab_ev (fun _ => Iff.rfl) k l hk, rfl⟩) (Nat.le_refl _)
    exact hE2.evs (by rw [told_one]; simp [hok]) (by rw [got_one]; simp [hok]))
  exact ⟨_, h1, h2⟩

theorem noted_s (h : Wd V L (oX o L) R [z] bs N σ run left lab) (hL : L ≤ V.heap.size) (hp : σ.tk[i]? = some p) (hi : i < o.nS) (hel : σ.ev.length ≤ 100000) :
    ∃ t : Nat, t ≤ 1000000 ∧ V.heap[o.TB]? = some (.cells #[.int .i64 t] 3 (0, 0)) ∧ ∃ lab', Wd (if p.td.2.2 then V.setCell ⟨o.TB, 0, none⟩ (.int .i64 ((t : Int) + 1)) else V) L (oX o L) R [z] bs N (σ.note i) run left lab' ∧ Wy V lab (if p.td.2.2 then V.setCell ⟨o.TB, 0, none⟩ (.int .i64 ((t : Int) + 1)) else V) lab' := by
  have hE : OE o L V lab σ.ev := h.e
  have ht := told_le o.nS σ.ev
  refine ⟨toldN o.nS σ.ev, by omega, hE.tb.1, ?_⟩
  cases hok : p.td.2.2 with
  | false => exact noted_same h hL hp hok
  | true =>
    rw [if_pos rfl, note_eq hp]
    obtain ⟨W, hW⟩ : ∃ W, W = V.setCell ⟨o.TB, 0, none⟩ (.int .i64 ((toldN o.nS σ.ev : Int) + 1)) := ⟨_, rfl⟩
    rw [← hW]
    have t : Tb (fun k => k = o.TB) V W := by rw [hW]; exact Tb.set o.TB 0 _ rfl
    have hT : W.heap[o.TB]? = some (.cells #[.int .i64 ((toldN o.nS σ.ev : Int) + 1)] 3 (0, 0)) := by
      rw [hW, heap_setCell_same V o.TB 0 _ _ _ hE.tb.1]
      rfl
    have keep : ∀ {k : Nat} {l : Lab} {ob : Obj}, V.heap[k]? = some ob → lab k = some l → k ≠ o.TB → W.heap[k]? = some ob ∧ relab lab .ev (fun k => lab k = some .ev) k = some l := fun h1 h2 h3 => ⟨(t.block _ (heap_lt h1) h3).trans h1, relab_ev (fun _ => Iff.rfl) _ _ h2⟩
    have nz : ∀ {k : Nat} {l : Lab}, lab k = some l → l ≠ .b → k ≠ o.TB := fun h1 h2 e => by
      rw [e, hE.tb.2] at h1
      exact h2 (Option.some.inj h1).symm
    obtain ⟨h1, h2⟩ := h.turned hL (w' := W) (D := fun k => lab k = some .ev) (fun k hk => ⟨.inl hk, by obtain ⟨a, s, A, K, hw, _⟩ := h.ex; exact Nat.lt_of_lt_of_le (hw.lt' k _ hk) t.size⟩) (S := fun k => k = o.TB) (fun k e => by subst e; exact .inl hE.tb.2) t (fun k f hk e => (hE.tys hk).2.1 e) (ev' := σ.ev ++ [(i, p.at', p.td)]) (by
      obtain ⟨gv, g1, g2, g3, g4⟩ := hE.gb
      refine ⟨keep hE.cb.1 hE.cb.2 (nz hE.cb.2 (by simp)), keep hE.sb.1 hE.sb.2 (nz hE.sb.2 (by simp)), keep hE.rb.1 hE.rb.2 (nz hE.rb.2 (by simp)), ⟨?_, relab_ev (fun _ => Iff.rfl) _ _ hE.tb.2⟩, keep hE.bb.1 hE.bb.2 (ty_ne hE.bb.1 hE.tb.1 (by decide)), ⟨gv, (keep g1 g2 (ty_ne g1 hE.tb.1 (by decide))).1, relab_ev (fun _ => Iff.rfl) _ _ g2, ?_, fun k hk => relab_ev (fun _ => Iff.rfl) _ _ (g4 k hk)⟩, Nat.le_trans hE.low t.size⟩
      · rw [told_one]
        simp only [hi, hok, decide_true, Bool.and_self, if_true]
        rw [hT]
        congr 3
      · rw [got_one]
        simp only [hi, decide_true, Bool.not_true, Bool.false_and, Bool.false_eq_true, if_false, List.append_nil]
        exact row_tb g3 t (fun g hg e => nz (g4 g hg) (by simp) e))
    exact ⟨_, h1, h2⟩

theorem noted_r (h : Wd V L (oX o L) R [z] bs N σ run left lab) (hL : L ≤ V.heap.size) (hp : σ.tk[i]? = some p) (hi : ¬ i < o.nS) (hel : σ.ev.length ≤ 100000) :
    ∃ ga gn gc pa pn pc Y, V.heap[o.GB]? = some (.cells #[.slice ga gn gc] (23 : TypeId) (0, 0)) ∧ (∀ k, (Value.slice ga gn gc).ownBlock = some k → ∃ cs, V.heap[k]? = some (.cells cs 3 (0, 0))) ∧ (p.td.2.2 = true → (Builtin.append_ #[(23 : TypeId), (23 : TypeId)] (23 : TypeId) #[.slice ga gn gc, .slice (some ⟨V.heap.size, 0, none⟩) 1 1]).run Tryz.prog (V.alloc (.cells #[.int .i64 p.td.2.1] 3)) = .ok (.slice pa pn pc) Y) ∧ Tb (fun k => (Value.slice ga gn gc).ownBlock = some k) V Y ∧
      ∃ lab', Wd (if p.td.2.2 then Y.setCell ⟨o.GB, 0, none⟩ (.slice pa pn pc) else V) L (oX o L) R [z] bs N (σ.note i) run left lab' ∧ Wy V lab (if p.td.2.2 then Y.setCell ⟨o.GB, 0, none⟩ (.slice pa pn pc) else V) lab' := by
  have hE : OE o L V lab σ.ev := h.e
  obtain ⟨gv, g1, g2, g3, g4⟩ := hE.gb
  have hgl := got_le o.nS σ.ev
  obtain ⟨ip, e1, e2, e3, e4⟩ := info_all infoI3
  obtain ⟨ga, gc, gv', Y, rfl, hrun, ⟨pa, pc, rfl⟩, hrow, hTb, hown⟩ := row_app V L (23 : TypeId) 3 ip _ 1 8 Tryz.underlying23 e1 e2 e3 e4 (by simp [Value.cells]) (by omega) g3 [.int .i64 p.td.2.1] rfl (by simp [Value.oneCell']) (by omega) (by omega) hE.low
  refine ⟨ga, _, gc, pa, _, pc, Y, g1, fun k hk => row_ty g3 hk, fun _ => hrun, hTb, ?_⟩
  cases hok : p.td.2.2 with
  | false => exact noted_same h hL hp hok
  | true =>
    rw [if_pos rfl, note_eq hp]
    have zY := hTb.size
    have nG : ¬ (Value.slice ga (gotL o.nS σ.ev).length gc).ownBlock = some o.GB := fun e => by
      have := g4 _ e
      rw [g2] at this
      cases this
    have hGY := (hTb.block _ (heap_lt g1) nG).trans g1
    obtain ⟨W, hW⟩ : ∃ W, W = Y.setCell ⟨o.GB, 0, none⟩ (.slice pa ((gotL o.nS σ.ev).length + 1) pc) := ⟨_, rfl⟩
    rw [← hW]
    have tW : Tb (fun k => k = o.GB) Y W := by rw [hW]; exact Tb.set o.GB 0 _ rfl
    have zW := tW.size
    have t : Tb (fun k => k = o.GB ∨ (Value.slice ga (gotL o.nS σ.ev).length gc).ownBlock = some k) V W := (hTb.mono (fun k _ e => .inr e)).trans tW (fun k _ e => .inl e)
    have hG : W.heap[o.GB]? = some (.cells #[.slice pa ((gotL o.nS σ.ev).length + 1) pc] (23 : TypeId) (0, 0)) := by
      rw [hW, heap_setCell_same Y o.GB 0 _ _ _ hGY]
      rfl
    have hfr : ∀ k, V.heap.size ≤ k → lab k = none := fun k hk => h.fresh hk
    obtain ⟨D, hDd⟩ : ∃ D : Nat → Prop, D = fun k => (Value.slice pa ((gotL o.nS σ.ev).length + 1) pc).ownBlock = some k := ⟨_, rfl⟩
    have hD : ∀ k, D k → lab k = some .ev ∨ V.heap.size ≤ k := fun k hk => by
      rw [hDd] at hk
      exact (hown k hk).imp (g4 k) id
    have hD' : ∀ k, D k → lab k = some .ev ∨ lab k = none := fun k hk => (hD k hk).imp id (hfr k)
    have keep : ∀ {k : Nat} {l : Lab} {ob : Obj}, V.heap[k]? = some ob → lab k = some l → l ≠ .ev → k ≠ o.GB → W.heap[k]? = some ob ∧ relab lab .ev D k = some l := fun h1 h2 h3 h5 => ⟨(t.block _ (heap_lt h1) (fun e => by
      rcases e with e | e
      · exact h5 e
      · have := g4 _ e
        rw [h2] at this
        exact h3 (Option.some.inj this))).trans h1, (relab_other hD' h3).2 h2⟩
    have nz : ∀ {k : Nat} {l : Lab}, lab k = some l → l ≠ .b → k ≠ o.GB := fun h1 h2 e => by
      rw [e, g2] at h1
      exact h2 (Option.some.inj h1).symm
    obtain ⟨h1, h2⟩ := h.turned hL (w' := W) (D := D) (fun k hk => ⟨hD k hk, by
      rw [hDd] at hk
      have := hrow.lt k hk
      omega⟩) (S := fun k => k = o.GB ∨ (Value.slice ga (gotL o.nS σ.ev).length gc).ownBlock = some k) (fun k e => e.elim (fun e => by subst e; exact .inl g2) (fun e => .inr (g4 k e))) t (fun k f hk e => by
        rcases e with e | e
        · exact (hE.tys hk).2.2 e
        · obtain ⟨cs, hcs⟩ := row_ty g3 e
          exact ty_ne hk hcs (by decide) rfl) (ev' := σ.ev ++ [(i, p.at', p.td)]) (by
      refine ⟨keep hE.cb.1 hE.cb.2 (by simp) (nz hE.cb.2 (by simp)), keep hE.sb.1 hE.sb.2 (by simp) (nz hE.sb.2 (by simp)), keep hE.rb.1 hE.rb.2 (by simp) (nz hE.rb.2 (by simp)), ?_, keep hE.bb.1 hE.bb.2 (by simp) (ty_ne hE.bb.1 g1 (by decide)), ⟨_, hG, (relab_other hD' (by simp)).2 g2, ?_, fun k hk => relab_same.2 (by rw [hDd]; exact hk)⟩, by have := hE.low; omega⟩
      · rw [told_one]
        simp only [hi, decide_false, Bool.false_and, Bool.false_eq_true, if_false, Nat.add_zero]
        exact keep hE.tb.1 hE.tb.2 (by simp) (ty_ne hE.tb.1 g1 (by decide))
      · rw [got_one]
        simp only [hi, hok, decide_false, Bool.not_false, Bool.and_self, if_true, List.length_append, List.length_cons, List.length_nil, List.map_append, List.map_cons, List.map_nil]
        exact row_tb hrow tW (fun g hg e => by
          rcases hown g hg with e2 | e2
          · exact nz (g4 g e2) (by simp) e
          · have := heap_lt g1
            omega))
    exact ⟨_, h1, h2⟩

/-- What may be ahead of a turn. -/
def oG (o : Ow) (σ : Sg) : Prop := σ.ev.length ≤ 100000 ∧ (∀ i, i < o.nS → (σ.p i).at' ≤ 6) ∧ o.nS ≤ 10

theorem bump_get {τ : Sg} (hp : τ.tk[i]? = some p) (q : Pt) : (τ.put i q).tk[i]? = some q := by
  have := put_get hp q i
  rwa [if_pos rfl] at this

theorem oturn (hz : z.C = o.C) (hN : N + 1 < Mx) : Tn (oX o L) L R [z] (opf o.nS) N (oG o) := by
  intro V bs σ left lab i b p h hL hb hp hst hG Ψ hΨ
  obtain ⟨g1, g2, g3⟩ := hG
  show oQT o b i p.at' p.td V Ψ
  intro V' hV'
  obtain ⟨l1, h1, y1⟩ := h.below hL hV'
  have hL1 : L ≤ V'.heap.size := Nat.le_trans hL hV'.size
  have hpn : (σ.note i).tk[i]? = some p := hp
  refine ⟨fun hi => ?_, fun hi => ?_⟩
  · obtain ⟨t, t1, t2, l2, h2, y2⟩ := noted_s h1 hL1 hp hi g1
    refine ⟨t, t1, t2, ?_⟩
    have hL2 := Nat.le_trans hL1 y2.tb.size
    have h3 := h2.bump hpn hst (q := ⟨p.at' + 1, 2, p.td, false⟩) rfl
    have hat := g2 i hi
    rw [p_of hp] at hat
    refine (send_any h3 hL2 hz (bump_get hpn _) rfl rfl hb hi (by omega) hat hN).mono ?_
    rintro e w' ⟨rfl, l4, h4, y4⟩
    exact ⟨rfl, hΨ _ _ h4 ((y1.trans y2).trans y4)⟩
  · obtain ⟨ga, gn, gc, pa, pn, pc, Y, q1, q2, q3, q4, l2, h2, y2⟩ := noted_r h1 hL1 hp hi g1
    refine ⟨ga, gn, gc, pa, pn, pc, Y, q1, q2, q3, q4, ?_⟩
    have hL2 := Nat.le_trans hL1 y2.tb.size
    have h3 := h2.bump hpn hst (q := ⟨p.at' + 1, 2, p.td, false⟩) rfl
    refine (recv_any (n := p.at') h3 hL2 hz (bump_get hpn _) rfl hb hi hN).mono ?_
    rintro e w' ⟨rfl, l4, h4, y4⟩
    exact ⟨rfl, hΨ _ _ h4 ((y1.trans y2).trans y4)⟩
end

end Go.Proofs.YtgjpbekmkhanhaaGreat.CG

/-
  ChansOrder: its world between steps: how it begins, a task more, a step, what is read.
-/
namespace Go.Proofs.YtgjpbekmkhanhaaGreat.CG
open Go.RowKit QW CH
set_option maxRecDepth 100000
set_option linter.unusedSimpArgs false
set_option linter.unusedVariables false

/-- The law's world between steps. -/
def Ob (W0 : World) (o : Ow) (R : Nat) (z : Zc) (N : Nat) (σ : Sg) (w : World) : Prop := ∃ bs left lab, Wd w W0.heap.size (oX o W0.heap.size) R [z] bs N σ none left lab ∧ Below W0.heap.size W0 w

abbrev sg0 (n : Nat) : Sg := ⟨[], [⟨n, false, [], [], []⟩], [], []⟩

section
variable {W0 w w' : World} {o : Ow} {R N : Nat} {z : Zc} {σ : Sg}

theorem Wd.lo {L : Nat} {Ξ : Xw} {zs : List Zc} {bs : List Nat} {m left : Nat} {run : Option Nat} {lab : Lb} (h : Wd w L Ξ R zs bs m σ run left lab) : ∀ k l, lab k = some l → L ≤ k ∧ k < w.heap.size := by
  obtain ⟨a, s, A, K, hw, _⟩ := h.ex
  exact hw.lo
theorem Wy.bel {L : Nat} {Ξ : Xw} {zs : List Zc} {bs : List Nat} {m left : Nat} {run : Option Nat} {lab lab' : Lb} (h : Wd w W0.heap.size Ξ R zs bs m σ run left lab) (hb : Below W0.heap.size W0 w) (y : Wy w lab w' lab') : Below W0.heap.size W0 w' :=
  hb.trans (y.tb.below (fun k hk => by
    obtain ⟨l, hl⟩ := Option.ne_none_iff_exists'.1 hk
    exact (h.lo k l hl).1) hb.size)
theorem Ob.bel (h : Ob W0 o R z N σ w) : Below W0.heap.size W0 w := by
  obtain ⟨_, _, _, _, h2⟩ := h
  exact h2
theorem Ob.below (h : Ob W0 o R z N σ w) (hb : Below w.heap.size w w') : Ob W0 o R z N σ w' := by
  obtain ⟨bs, left, lab, hw, h0⟩ := h
  obtain ⟨l2, h2, y⟩ := hw.below h0.size hb
  exact ⟨bs, left, l2, h2, h0.trans (hb.mono h0.size)⟩
theorem Ob.e (h : Ob W0 o R z N σ w) : ∃ lab, OE o W0.heap.size w lab σ.ev := by
  obtain ⟨bs, left, lab, hw, h0⟩ := h
  exact ⟨lab, hw.e⟩

theorem Ob.step (h : Ob W0 o R z N σ w) (hz : z.C = o.C) (hN : N + 1 < Mx) (p : Nat) (hp : p ≤ 18446744073709551615) (hev : σ.ev.length ≤ 100000) (hat : ∀ i, i < o.nS → i < σ.tk.length → (σ.p i).st = 1 → (σ.p i).at' ≤ 6) (hat2 : ∀ i, i < o.nS → (σ.p i).at' ≤ 7) (hns : o.nS ≤ 10) :
    Calls Tryz.prog 12 #[.pointer (some ⟨R, 0, none⟩), .int .u64 p] w fun e w' => e = .returned (.bool (decide (σ.line ≠ []))) ∧ Ob W0 o R z (N + 1) (σ.stepf (opf o.nS) p) w' := by
  obtain ⟨bs, left, lab, hw, h0⟩ := h
  have hT : Tn (oX o W0.heap.size) W0.heap.size R [z] (opf o.nS) N (fun τ => τ.ev.length ≤ 100000 ∧ o.nS ≤ 10 ∧ ∀ i, i < o.nS → (τ.p i).st = 2 → (τ.p i).at' ≤ 6) := by
    intro V bs σ left lab i b p h hL hb hp hst hG Ψ hΨ
    obtain ⟨g1, g3, g2⟩ := hG
    show oQT o b i p.at' p.td V Ψ
    intro V' hV'
    obtain ⟨l1, h1, y1⟩ := h.below hL hV'
    have hL1 : W0.heap.size ≤ V'.heap.size := Nat.le_trans hL hV'.size
    have hpn : (σ.note i).tk[i]? = some p := hp
    refine ⟨fun hi => ?_, fun hi => ?_⟩
    · obtain ⟨t, t1, t2, l2, h2, y2⟩ := noted_s h1 hL1 hp hi g1
      refine ⟨t, t1, t2, ?_⟩
      have hL2 := Nat.le_trans hL1 y2.tb.size
      have h3 := h2.bump hpn hst (q := ⟨p.at' + 1, 2, p.td, false⟩) rfl
      have hat := g2 i hi (by rw [p_of hp]; exact hst)
      rw [p_of hp] at hat
      refine (send_any h3 hL2 hz (bump_get hpn _) rfl rfl hb hi (by omega) hat hN).mono ?_
      rintro e w' ⟨rfl, l4, h4, y4⟩
      exact ⟨rfl, hΨ _ _ h4 ((y1.trans y2).trans y4)⟩
    · obtain ⟨ga, gn, gc, pa, pn, pc, Y, q1, q2, q3, q4, l2, h2, y2⟩ := noted_r h1 hL1 hp hi g1
      refine ⟨ga, gn, gc, pa, pn, pc, Y, q1, q2, q3, q4, ?_⟩
      have hL2 := Nat.le_trans hL1 y2.tb.size
      have h3 := h2.bump hpn hst (q := ⟨p.at' + 1, 2, p.td, false⟩) rfl
      refine (recv_any (n := p.at') h3 hL2 hz (bump_get hpn _) rfl hb hi hN).mono ?_
      rintro e w' ⟨rfl, l4, h4, y4⟩
      exact ⟨rfl, hΨ _ _ h4 ((y1.trans y2).trans y4)⟩
  refine (gstep hT hw h0.size p hp (fun i j hst hil => ⟨hev, hns, fun k hk hk2 => ?_⟩)).mono ?_
  · have hpk := put_get (σ := { σ with line := σ.line.eraseIdx j }) (of_p hil) ⟨(σ.p i).at', 2, (σ.p i).td, false⟩ k
    by_cases e : k = i
    · subst e
      rw [if_pos rfl] at hpk
      rw [p_of hpk]
      exact hat k hk hil hst
    · rw [if_neg e] at hpk
      have e2 : (({ σ with line := σ.line.eraseIdx j } : Sg).put i ⟨(σ.p i).at', 2, (σ.p i).td, false⟩).p k = σ.p k := by
        show ((({ σ with line := σ.line.eraseIdx j } : Sg).put i ⟨(σ.p i).at', 2, (σ.p i).td, false⟩).tk[k]?).getD pt0 = (σ.tk[k]?).getD pt0
        rw [hpk]
      rw [e2] at hk2 ⊢
      exfalso
      by_cases hkl : k < σ.tk.length
      · obtain ⟨a, s, A, K, m, q1, q2, q3, q4⟩ := hw.ex
        have hkl2 : k < s.ts.length := by rw [m.len]; exact hkl
        have := ((m.cl k _ _ (List.getElem?_eq_getElem hkl2) (of_p hkl)).r2 hk2).1
        rw [q3] at this
        cases this
      · have : σ.p k = pt0 := by simp [Sg.p, List.getD, List.getElem?_eq_none (by omega : σ.tk.length ≤ k)]
        rw [this] at hk2
        cases hk2
  · rintro e w' ⟨rfl, left', lab', h2, y⟩
    exact ⟨rfl, bs, left', lab', h2, Wy.bel hw h0 y (L := 0)⟩

theorem Ob.waits (h : Ob W0 o R z N σ w) (hz : z.C = o.C) : Calls Tryz.prog 46 #[.pointer (some ⟨o.C, 0, none⟩)] w fun e w' => e = .returned (.tuple #[.int .i64 (σ.c 0).snd.length, .int .i64 (σ.c 0).rcv.length]) ∧ Ob W0 o R z N σ w' := by
  obtain ⟨bs, left, lab, hw, h0⟩ := h
  rw [← hz]
  refine (hw.cwaits h0.size (j := 0) rfl).mono ?_
  rintro e w' ⟨rfl, l2, h2, y⟩
  exact ⟨rfl, bs, left, l2, h2, Wy.bel hw h0 y (L := 0)⟩
theorem Ob.len (h : Ob W0 o R z N σ w) (hz : z.C = o.C) : Calls Tryz.prog 34 #[.pointer (some ⟨o.C, 0, none⟩)] w fun e w' => e = .returned (.int .i64 (σ.c 0).buf.length) ∧ w' = w := by
  obtain ⟨bs, left, lab, hw, h0⟩ := h
  rw [← hz]
  exact hw.clen (j := 0) rfl

theorem lives_le (s : Rs) : s.lives.length ≤ s.ts.length := by
  unfold Rs.lives
  rw [List.length_map]
  exact Nat.le_trans (List.length_filter_le _ _) (by simp)

/-- A sender more. -/
theorem Ob.spawnS (h : Ob W0 o R z N σ w) {V : World} (hb : Below w.heap.size w V) {iB : Nat} (hi : V.heap[iB]? = some (.cells #[.int .i64 (σ.tk.length : Nat)] 3 (0, 0))) (hge : w.heap.size ≤ iB) (hlt : σ.tk.length < o.nS) (hns : o.nS ≤ 10) :
    Calls Tryz.prog 24 #[.pointer (some ⟨R, 0, none⟩), .func (.func 45) #[] #[.pointer (some ⟨o.SB, 0, none⟩), .pointer (some ⟨iB, 0, none⟩)]] V fun e w' => ∃ b, e = .returned (.tuple #[.pointer (some ⟨b, 0, none⟩), .int .i64 0]) ∧ Ob W0 o R z N σ.add w' ∧ w'.heap[iB]? = V.heap[iB]? := by
  obtain ⟨bs, left, lab, hw, h0⟩ := h
  obtain ⟨h1, y1⟩ := hw.boxes h0.size hb (N := fun k => k = iB) (fun k hk => by subst hk; exact ⟨hge, heap_lt hi⟩)
  have hfi : relab lab .fz (fun k => lab k = some .fz ∨ k = iB) iB = some .fz := relab_same.2 (.inr rfl)
  generalize relab lab .fz (fun k => lab k = some .fz ∨ k = iB) = l1 at *
  have hbV : Below W0.heap.size W0 V := h0.trans (hb.mono h0.size)
  have hwd := h1
  obtain ⟨a, s, A, K, m, q1, q2, q3, q4⟩ := hwd.ex
  have hE : OE o W0.heap.size V l1 σ.ev := h1.e
  subst q1 q2
  have hl1 : s.lives.length < 256 := by have := lives_le s; have := m.len; omega
  refine (spawn_yes m.rt hl1 (by have := m.len; omega) (.func 45) #[] #[.pointer (some ⟨o.SB, 0, none⟩), .pointer (some ⟨iB, 0, none⟩)]).mono ?_
  rintro e w' ⟨b, rfl, a2, g1, g2, x, z1, z2, z3, e1, e2, n1, n2⟩
  have t1 := x.x.tb
  have hsame : ∀ k l, l1 k = some l → l ≠ .rt → w'.heap[k]? = V.heap[k]? := fun k l hk n0 => t1.block k (h1.lo k l hk).2 (fun e => by
    have := m.lr k e
    rw [hk] at this
    exact n0 (Option.some.inj this))
  obtain ⟨l2, h2, y2⟩ := m.addt hbV.size x (N := fun k => k = g1 ∨ k = g2) (fun k hk => by
    rcases hk with rfl | rfl
    · exact ⟨z2, heap_lt e1, n1⟩
    · exact ⟨z3, heap_lt e2, n2⟩) (go_f1 hlt (.inl hE.sb.2) (.inr (.inl rfl)) (.inr (.inr rfl)) (.inl hfi) ((hsame _ _ hE.sb.2 (by simp)).trans hE.sb.1) e1 e2 ((hsame _ _ hfi (by simp)).trans hi)) (fun _ _ h => h)
  exact ⟨b, rfl, ⟨_, _, l2, ⟨a2, _, A, K, h2, x.x.R, rfl, q3, rfl⟩, Wy.bel h1 hbV y2 (L := 0)⟩, hsame _ _ hfi (by simp)⟩

/-- A receiver more. -/
theorem Ob.spawnR (h : Ob W0 o R z N σ w) (hlt : ¬ σ.tk.length < o.nS) (hns : σ.tk.length ≤ 20) :
    Calls Tryz.prog 24 #[.pointer (some ⟨R, 0, none⟩), .func (.func 43) #[] (capR o)] w fun e w' => ∃ b, e = .returned (.tuple #[.pointer (some ⟨b, 0, none⟩), .int .i64 0]) ∧ Ob W0 o R z N σ.add w' := by
  obtain ⟨bs, left, l1, h1, h0⟩ := h
  have hwd := h1
  obtain ⟨a, s, A, K, m, q1, q2, q3, q4⟩ := hwd.ex
  subst q1 q2
  have hl1 : s.lives.length < 256 := by have := lives_le s; have := m.len; omega
  refine (spawn_yes m.rt hl1 (by have := m.len; omega) (.func 43) #[] (capR o)).mono ?_
  rintro e w' ⟨b, rfl, a2, g1, g2, x, z1, z2, z3, e1, e2, n1, n2⟩
  obtain ⟨l2, h2, y2⟩ := m.addt h0.size x (N := fun k => k = g1 ∨ k = g2) (fun k hk => by
    rcases hk with rfl | rfl
    · exact ⟨z2, heap_lt e1, n1⟩
    · exact ⟨z3, heap_lt e2, n2⟩) (go_f2 hlt (.inr (.inl rfl)) (.inr (.inr rfl)) e1 e2) (fun _ _ h => h)
  exact ⟨b, rfl, _, _, l2, ⟨a2, _, A, K, h2, x.x.R, rfl, q3, rfl⟩, Wy.bel h1 h0 y2 (L := 0)⟩
end

open Classical in
/-- Whose a block is, at the start. -/
noncomputable def lab0 (a : Ad) (D : Nat → Prop) (o : Ow) : Lb := fun k =>
  if own a rs0 k then some .rt else if k = a.Q then some .q else if D k then some (.ch 0) else if k = o.CB ∨ k = o.SB ∨ k = o.RB then some .fz else if k = o.TB ∨ k = o.BB ∨ k = o.GB then some .b else none

theorem Ob.start {W0 w1 w2 V : World} {o : Ow} {a : Ad} {z : Zc} {D : Nat → Prop} {A : Nat → Bool}
    (hb1 : Below W0.heap.size W0 w1) (r1 : Rt w1 a rs0) (o1 : ∀ k, own a rs0 k ∨ k = a.Q → W0.heap.size ≤ k)
    (hb2 : Below w1.heap.size w1 w2) (c : Ch w2 A z 0 ⟨false, [], [], []⟩ D) (hD : ∀ k, D k → w1.heap.size ≤ k) (hz : z.rt = a.R) (hs : z.size ≤ 64) (hA : ∀ k, A k = true)
    (hb3 : Below w2.heap.size w2 V) (hC : z.C = o.C)
    (hge : ∀ k, k = o.CB ∨ k = o.SB ∨ k = o.RB ∨ k = o.TB ∨ k = o.BB ∨ k = o.GB → w2.heap.size ≤ k)
    (cb : V.heap[o.CB]? = some (.cells #[.pointer (some ⟨o.C, 0, none⟩)] (48 : TypeId) (0, 0))) (sb : V.heap[o.SB]? = some (.cells #[.func (.func 41) #[] (capS o)] (91 : TypeId) (0, 0))) (rb : V.heap[o.RB]? = some (.cells #[.func (.func 43) #[] (capR o)] (76 : TypeId) (0, 0)))
    (tb : V.heap[o.TB]? = some (.cells #[.int .i64 0] 3 (0, 0))) (bb : V.heap[o.BB]? = some (.cells #[.bool false] 4 (0, 0))) (gb : V.heap[o.GB]? = some (.cells #[.slice none 0 0] (23 : TypeId) (0, 0))) :
    Ob W0 o a.R z 0 (sg0 z.size) V := by
  have s1 := hb1.size
  have s2 := hb2.size
  have s3 := hb3.size
  have k1 : ∀ k, own a rs0 k ∨ k = a.Q → k < w1.heap.size := fun k hk => by
    rcases hk with hk | rfl
    · exact r1.m.own_lt hk
    · exact r1.m.sd.lt
  have kQ : ¬ own a rs0 a.Q := fun e => by
    have := own_ty r1.m e r1.m.sd
    revert this
    decide
  have kD : ∀ k, D k → ¬ own a rs0 k ∧ k ≠ a.Q ∧ k < w2.heap.size := fun k hk => ⟨fun e => by have := k1 k (.inl e); have := hD k hk; omega, fun e => by have := k1 k (.inr e); have := hD k hk; omega, c.lt hk⟩
  have kB : ∀ k, k = o.CB ∨ k = o.SB ∨ k = o.RB ∨ k = o.TB ∨ k = o.BB ∨ k = o.GB → ¬ own a rs0 k ∧ k ≠ a.Q ∧ ¬ D k := fun k hk => by
    have := hge k hk
    exact ⟨fun e => by have := k1 k (.inl e); omega, fun e => by have := k1 k (.inr e); omega, fun e => by have := (kD k e).2.2; omega⟩
  have lF : ∀ k, k = o.CB ∨ k = o.SB ∨ k = o.RB → lab0 a D o k = some .fz := fun k hk => by
    obtain ⟨n1, n2, n3⟩ := kB k (by rcases hk with h | h | h <;> simp [h])
    simp only [lab0, if_neg n1, if_neg n2, if_neg n3, if_pos hk]
  have lB : ∀ k, k = o.TB ∨ k = o.BB ∨ k = o.GB → lab0 a D o k = some .b := fun k hk => by
    obtain ⟨n1, n2, n3⟩ := kB k (by rcases hk with h | h | h <;> simp [h])
    have n4 : ¬ (k = o.CB ∨ k = o.SB ∨ k = o.RB) := fun e => by
      rcases hk with rfl | rfl | rfl <;> rcases e with e | e | e
      · exact ty_ne tb cb (by decide) e
      · exact ty_ne tb sb (by decide) e
      · exact ty_ne tb rb (by decide) e
      · exact ty_ne bb cb (by decide) e
      · exact ty_ne bb sb (by decide) e
      · exact ty_ne bb rb (by decide) e
      · exact ty_ne gb cb (by decide) e
      · exact ty_ne gb sb (by decide) e
      · exact ty_ne gb rb (by decide) e
    simp only [lab0, if_neg n1, if_neg n2, if_neg n3, if_neg n4, if_pos hk]
  have lR : ∀ k, own a rs0 k → lab0 a D o k = some .rt := fun k hk => by simp only [lab0, if_pos hk]
  have lQ : lab0 a D o a.Q = some .q := by simp only [lab0, if_neg kQ, if_true]
  have lC : ∀ k, D k → lab0 a D o k = some (.ch 0) := fun k hk => by
    obtain ⟨n1, n2, _⟩ := kD k hk
    simp only [lab0, if_neg n1, if_neg n2, if_pos hk]
  have lAll : ∀ k l, lab0 a D o k = some l → (own a rs0 k ∧ l = .rt) ∨ (k = a.Q ∧ l = .q) ∨ (D k ∧ l = .ch 0) ∨ ((k = o.CB ∨ k = o.SB ∨ k = o.RB) ∧ l = .fz) ∨ ((k = o.TB ∨ k = o.BB ∨ k = o.GB) ∧ l = .b) := fun k l hk => by
    unfold lab0 at hk
    split at hk
    · exact .inl ⟨by assumption, (Option.some.inj hk).symm⟩
    split at hk
    · exact .inr (.inl ⟨by assumption, (Option.some.inj hk).symm⟩)
    split at hk
    · exact .inr (.inr (.inl ⟨by assumption, (Option.some.inj hk).symm⟩))
    split at hk
    · exact .inr (.inr (.inr (.inl ⟨by assumption, (Option.some.inj hk).symm⟩)))
    split at hk
    · exact .inr (.inr (.inr (.inr ⟨by assumption, (Option.some.inj hk).symm⟩)))
    · cases hk
  have b13 : Below w1.heap.size w1 V := hb2.trans (hb3.mono s2)
  have rV := r1.below b13
  have cV := c.below hb3
  have hlt : ∀ k, k = o.CB ∨ k = o.SB ∨ k = o.RB ∨ k = o.TB ∨ k = o.BB ∨ k = o.GB → k < V.heap.size := fun k hk => by
    rcases hk with rfl | rfl | rfl | rfl | rfl | rfl
    · exact heap_lt cb
    · exact heap_lt sb
    · exact heap_lt rb
    · exact heap_lt tb
    · exact heap_lt bb
    · exact heap_lt gb
  refine ⟨[], 0, lab0 a D o, ⟨a, rs0, A, fun _ => ⟨0, 0, 0, 0, 0, .nilFunc⟩, ⟨?_, rV, lR, lQ, fun k l hk => ?_, fun j y e hy he => ?_, rfl, fun k _ => hA k, rfl, rfl, fun i t p ht => by simp [rs0] at ht, ?_⟩, rfl, rfl, rfl, rfl⟩, hb1.trans (b13.mono s1)⟩
  · exact ⟨⟨cb, lF _ (.inl rfl)⟩, ⟨sb, lF _ (.inr (.inl rfl))⟩, ⟨rb, lF _ (.inr (.inr rfl))⟩, ⟨tb, lB _ (.inl rfl)⟩, ⟨bb, lB _ (.inr (.inl rfl))⟩, ⟨_, gb, lB _ (.inr (.inr rfl)), World.ownsRow_nil _ _ _ _, fun k hk => by simp [Value.ownBlock] at hk⟩, by omega⟩
  · rcases lAll k l hk with ⟨h, _⟩ | ⟨h, _⟩ | ⟨h, _⟩ | ⟨h, _⟩ | ⟨h, _⟩
    · have := k1 k (.inl h); have := o1 k (.inl h); omega
    · have := k1 k (.inr h); have := o1 k (.inr h); omega
    · have := kD k h; have := hD k h; omega
    · have h' : k = o.CB ∨ k = o.SB ∨ k = o.RB ∨ k = o.TB ∨ k = o.BB ∨ k = o.GB := by rcases h with h | h | h <;> simp [h]
      have := hge k h'; have := hlt k h'; omega
    · have h' : k = o.CB ∨ k = o.SB ∨ k = o.RB ∨ k = o.TB ∨ k = o.BB ∨ k = o.GB := by rcases h with h | h | h <;> simp [h]
      have := hge k h'; have := hlt k h'; omega
  · cases j with
    | zero =>
      simp only [List.getElem?_cons_zero, Option.some.injEq] at hy he
      subst hy he
      refine ⟨hz, rfl, cV.iff (fun k => ⟨fun h => ?_, lC k⟩)⟩
      rcases lAll k _ h with ⟨_, e⟩ | ⟨_, e⟩ | ⟨h, _⟩ | ⟨_, e⟩ | ⟨_, e⟩
      · cases e
      · cases e
      · exact h
      · cases e
      · cases e
    | succ j => simp at hy
  · refine ⟨by simp [Sg.wts, Cz.wts], fun j e he x hx => ?_, fun j e he x hx => ?_, fun j e he => ?_⟩
    all_goals
      cases j with
      | zero =>
        simp only [List.getElem?_cons_zero, Option.some.injEq] at he
        subst he
        first | (simp at hx; done) | exact ⟨Nat.zero_le _, hs⟩
      | succ j => simp at he

end Go.Proofs.YtgjpbekmkhanhaaGreat.CG

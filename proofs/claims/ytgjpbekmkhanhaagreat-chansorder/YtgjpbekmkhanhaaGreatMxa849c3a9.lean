/-
  Texts put into one.
-/
import Derived.Test.YtgjpbekmkhanhaaGreatMx39e1dcd8

/-
  The document's world in memory: its block, rows of its own beside each other.
-/
namespace Go.Proofs.YtgjpbekmkhanhaaGreat.CH
open Go.RowKit QW
set_option maxRecDepth 100000
set_option linter.unusedSimpArgs false

/-- The document's world: its cells, whose a block is (.b: its own, .ch i: the row in its cell i). -/
structure Dw (w : World) (L E : Nat) (vs : List Value) (rl : Lb) : Prop where
  blk : w.heap[E]? = some (.cells vs.toArray (46 : TypeId) (0, 0))
  le : rl E = some .b
  lo : ∀ k l, rl k = some l → L ≤ k ∧ k < w.heap.size
  nt : ∀ k f, rl k ≠ none → ¬ Tkt w k f

/-- A row of things in cell i. -/
def Dr (w : World) (L : Nat) (rl : Lb) (vs : List Value) (i : Nat) (e : TypeId) (size n : Nat) (xs : List Value) : Prop :=
  ∃ v, vs[i]? = some v ∧ w.ownsRow L e size v n xs ∧ ∀ k, v.ownBlock = some k → rl k = some (.ch i)

/-- What calls on the document's world leave. -/
structure Dy (w : World) (rl : Lb) (w' : World) (rl' : Lb) : Prop where
  tb : Tb (fun k => rl k ≠ none) w w'
  dm : ∀ k, rl' k ≠ none → rl k ≠ none ∨ w.heap.size ≤ k

section
variable {w w' w'' X : World} {L E i n size : Nat} {e : TypeId} {vs : List Value} {xs : List Value} {rl rl' rl'' : Lb}
theorem Dy.refl (w : World) (rl : Lb) : Dy w rl w rl := ⟨Tb.refl _ _, fun _ h => .inl h⟩
theorem Dy.trans (h : Dy w rl w' rl') (k : Dy w' rl' w'' rl'') : Dy w rl w'' rl'' := by
  have hz := h.tb.size
  refine ⟨h.tb.trans k.tb (fun i hi hT => (h.dm i hT).elim id (fun h' => by omega)), fun i hi => ?_⟩
  rcases k.dm i hi with h1 | h1
  · exact h.dm i h1
  · exact .inr (by omega)
theorem Dy.below (hb : Below w.heap.size w w') : Dy w rl w' rl := ⟨Tb.of_fresh hb, fun _ h => .inl h⟩
theorem Dw.tb {S : Nat → Prop} (h : Dw w L E vs rl) (t : Tb S w w') (hs : ∀ k, rl k ≠ none → ¬ S k) : Dw w' L E vs rl :=
  ⟨(t.block _ (heap_lt h.blk) (hs E (by rw [h.le]; simp))).trans h.blk, h.le, fun k l hk => ⟨(h.lo k l hk).1, Nat.lt_of_lt_of_le (h.lo k l hk).2 t.size⟩, fun k f hk ht => h.nt k f hk (by
    obtain ⟨l, hl⟩ := Option.ne_none_iff_exists'.1 hk
    unfold Tkt at ht ⊢
    rw [← t.block k (h.lo k l hl).2 (hs k hk)]
    exact ht)⟩
theorem Dr.tb {S : Nat → Prop} (h : Dr w L rl vs i e size n xs) (t : Tb S w w') (hs : ∀ k, rl k ≠ none → ¬ S k) : Dr w' L rl vs i e size n xs := by
  obtain ⟨v, h1, h2, h3⟩ := h
  exact ⟨v, h1, row_tb h2 t (fun g hg => hs g (by rw [h3 g hg]; simp)), h3⟩
theorem Dw.below (h : Dw w L E vs rl) (hb : Below w.heap.size w w') : Dw w' L E vs rl := h.tb (Tb.of_fresh (S := fun _ => False) hb) (fun _ _ e => e)
theorem Dr.below (h : Dr w L rl vs i e size n xs) (hb : Below w.heap.size w w') : Dr w' L rl vs i e size n xs := h.tb (Tb.of_fresh (S := fun _ => False) hb) (fun _ _ e => e)
theorem Dw.fresh (h : Dw w L E vs rl) {k : Nat} (hk : w.heap.size ≤ k) : rl k = none := by
  cases e : rl k with
  | none => rfl
  | some l => have := (h.lo k l e).2; omega
theorem Dw.c (h : Dw w L E vs rl) {v : Value} (hv : vs[i]? = some v) : w.cell? ⟨E, i, none⟩ = some v := by
  rw [cell_of_row _ _ i _ _ _ h.blk]
  simpa using hv

/-- A thing more in a row. -/
theorem Dw.app (h : Dw w L E vs rl) (hL : L ≤ w.heap.size) (hr : Dr w L rl vs i e size n xs) (t : TypeId) (j : TypeInfo) (z : Value) (bytes : Nat) (ht : Tryz.prog.underlying t = some (.slice e)) (hi : Tryz.prog.info? e = some j) (hz : j.zero = some z) (hsize : j.size = size) (hby : j.bytes = bytes) (hzs : z.cells.size = size) (hsz : 0 < size)
    (hne : e ≠ (46 : TypeId)) (hnk : e ≠ (127 : TypeId)) (news : List Value) (hl : news.length = size) (h1 : ∀ u ∈ news, u.oneCell' = true) (h63 : n ≤ 1000000) (hbytes : bytes ≤ 1000) :
    ∃ va vc p c X, w.cell? ⟨E, i, none⟩ = some (.slice va n vc) ∧ (w.alloc (.cells news.toArray e)).cell? ⟨E, i, none⟩ = some (.slice va n vc) ∧ (Builtin.append_ #[t, t] t #[.slice va n vc, .slice (some ⟨w.heap.size, 0, none⟩) 1 1]).run Tryz.prog (w.alloc (.cells news.toArray e)) = .ok (.slice p (n + 1) c) X ∧
      X.frozen? ⟨E, i, none⟩ = false ∧ X.cell? ⟨E, i, none⟩ = some (.slice va n vc) ∧
      ∃ rl', Dw (X.setCell ⟨E, i, none⟩ (.slice p (n + 1) c)) L E (vs.set i (.slice p (n + 1) c)) rl' ∧ Dr (X.setCell ⟨E, i, none⟩ (.slice p (n + 1) c)) L rl' (vs.set i (.slice p (n + 1) c)) i e size (n + 1) (xs ++ news) ∧
        (∀ k e' s' n' xs', k ≠ i → Dr w L rl vs k e' s' n' xs' → Dr (X.setCell ⟨E, i, none⟩ (.slice p (n + 1) c)) L rl' (vs.set i (.slice p (n + 1) c)) k e' s' n' xs') ∧ Dy w rl (X.setCell ⟨E, i, none⟩ (.slice p (n + 1) c)) rl' := by
  obtain ⟨v, hv, hown, hlab⟩ := hr
  obtain ⟨va, vc, v', X, rfl, hrun, ⟨p, c, rfl⟩, hrow, tX, hown'⟩ := row_app w L t e j z size bytes ht hi hz hsize hby hzs hsz hown news hl h1 h63 hbytes hL
  have hil : i < vs.length := (List.getElem?_eq_some_iff.1 hv).1
  have hEl := heap_lt h.blk
  have nE : ¬ (Value.slice va n vc).ownBlock = some E := fun e => by have := hlab E e; rw [h.le] at this; cases this
  have hEX : X.heap[E]? = some (.cells vs.toArray (46 : TypeId) (0, 0)) := (tX.block _ hEl nE).trans h.blk
  have bA : Below w.heap.size w (w.alloc (.cells news.toArray e)) := (Below.refl _ w).alloc (Nat.le_refl _) _
  have cE := h.c hv
  have cX : X.cell? ⟨E, i, none⟩ = some (.slice va n vc) := by
    rw [cell_of_row _ _ i _ _ _ hEX]
    simpa using hv
  obtain ⟨Z, hZ⟩ : ∃ Z, Z = X.setCell ⟨E, i, none⟩ (.slice p (n + 1) c) := ⟨_, rfl⟩
  have tZ : Tb (fun k => k = E) X Z := by rw [hZ]; exact Tb.set E i _ rfl
  have hEZ : Z.heap[E]? = some (.cells (vs.set i (.slice p (n + 1) c)).toArray (46 : TypeId) (0, 0)) := by
    rw [hZ, heap_setCell_same X E i _ _ _ hEX]
    simp
  refine ⟨va, vc, p, c, X, cE, (bA.cell (cell_lt cE)).trans cE, hrun, frozen_of_row _ _ i _ _ hEX, cX, ?_⟩
  rw [← hZ]
  have twZ : Tb (fun k => (Value.slice va n vc).ownBlock = some k ∨ k = E) w Z := (show Tb (fun k => (Value.slice va n vc).ownBlock = some k ∨ k = E) w X from tX.mono (fun _ _ e => .inl e)).trans tZ (fun k _ e => .inr e)
  have hzX := tX.size
  have hzZ := tZ.size
  have hD : ∀ k, (Value.slice p (n + 1) c).ownBlock = some k → rl k = some (.ch i) ∨ rl k = none := fun k hk => (hown' k hk).imp (hlab k) h.fresh
  obtain ⟨rl', hrl⟩ : ∃ rl', rl' = relab rl (.ch i) (fun k => (Value.slice p (n + 1) c).ownBlock = some k) := ⟨_, rfl⟩
  have s1 : ∀ k, rl' k = some (.ch i) ↔ (Value.slice p (n + 1) c).ownBlock = some k := fun k => by rw [hrl]; exact relab_same
  have o1 : ∀ k l, l ≠ .ch i → (rl' k = some l ↔ rl k = some l) := fun k l hl => by rw [hrl]; exact relab_other hD hl
  have hrZ := row_tb hrow tZ (fun g hg e2 => by
    subst e2
    obtain ⟨cs, hcs⟩ := row_ty hrow hg
    rw [hEX] at hcs
    simp only [Option.some.injEq, Obj.cells.injEq] at hcs
    exact hne hcs.2.1.symm)
  refine ⟨rl', ⟨hEZ, (o1 _ _ (by simp)).2 h.le, fun k l hk => ?_, fun k f hk ht => ?_⟩, ⟨_, by simp [hil], hrZ, fun k hk => (s1 k).2 hk⟩, fun k e' s' n' xs' hk hr' => ?_, ⟨twZ.mono (fun k _ e => ?_), fun k hk => ?_⟩⟩
  · by_cases e1 : l = .ch i
    · subst e1
      have := hrow.lt k ((s1 k).1 hk)
      exact ⟨this.1, by omega⟩
    · have := h.lo k l ((o1 k l e1).1 hk)
      exact ⟨this.1, by omega⟩
  · obtain ⟨l, hl⟩ := Option.ne_none_iff_exists'.1 hk
    unfold Tkt at ht
    by_cases e1 : l = .ch i
    · subst e1
      obtain ⟨cs, hcs⟩ := row_ty hrZ ((s1 k).1 hl)
      rw [hcs] at ht
      simp only [Option.some.injEq, Obj.cells.injEq] at ht
      exact hnk ht.2.1
    · have hl0 := (o1 k l e1).1 hl
      by_cases e2 : k = E
      · subst e2
        exact ty_ne ht hEZ (by decide) rfl
      · refine h.nt k f (by rw [hl0]; simp) ?_
        unfold Tkt
        rw [← twZ.block k (h.lo k l hl0).2 (fun e => e.elim (fun e => e1 (by have := hlab k e; rw [hl0] at this; exact Option.some.inj this)) e2)]
        exact ht
  · obtain ⟨u, u1, u2, u3⟩ := hr'
    refine ⟨u, by rw [List.getElem?_set_ne (fun e => hk e.symm)]; exact u1, row_tb u2 twZ (fun g hg e2 => ?_), fun g hg => (o1 g _ (fun e => hk (by cases e; rfl))).2 (u3 g hg)⟩
    rcases e2 with e2 | e2
    · have := hlab g e2
      rw [u3 g hg] at this
      cases this
      exact hk rfl
    · subst e2
      have := u3 _ hg
      rw [h.le] at this
      cases this
  · rcases e with e | e
    · rw [hlab k e]; simp
    · subst e
      rw [h.le]; simp
  · obtain ⟨l, hl⟩ := Option.ne_none_iff_exists'.1 hk
    by_cases e1 : l = .ch i
    · subst e1
      exact (hown' k ((s1 k).1 hl)).imp (fun e => by rw [hlab k e]; simp) id
    · exact .inl (by rw [(o1 k l e1).1 hl]; simp)
end

theorem infoI3 : (Tryz.prog.info? 3).map (fun i => (i.zero, i.size, i.bytes)) = some (some (.int .i64 0), 1, 8) := by kernel_rfl
theorem infoB4 : (Tryz.prog.info? 4).map (fun i => (i.zero, i.size, i.bytes)) = some (some (.bool false), 1, 1) := by kernel_rfl
theorem infoTd : (Tryz.prog.info? (116 : TypeId)).map (fun i => (i.zero, i.size, i.bytes)) = some (some (.agg #[.int .i64 0, .int .i64 0, .bool false]), 3, 24) := by kernel_rfl
theorem info_all {e : TypeId} {z : Value} {size bytes : Nat} (h : (Tryz.prog.info? e).map (fun i => (i.zero, i.size, i.bytes)) = some (some z, size, bytes)) : ∃ j, Tryz.prog.info? e = some j ∧ j.zero = some z ∧ j.size = size ∧ j.bytes = bytes := by
  obtain ⟨j, h1, h2⟩ := Option.map_eq_some_iff.1 h
  simp only [Prod.mk.injEq] at h2
  exact ⟨j, h1, h2.1, h2.2.1, h2.2.2⟩

/-- The document's world behind k tasks spawned: what was in its other cells is there. -/
structure Dsp (w0 : World) (rl0 : Lb) (vs0 : List Value) (L E : Nat) (k : Nat) (w : World) : Prop where
  ex : ∃ vs rl, Dw w L E vs rl ∧ vs.length = vs0.length ∧ (∀ j, j < 2 ∨ 6 ≤ j → vs[j]? = vs0[j]?) ∧ Dr w L rl vs 2 3 1 k (List.replicate k (.int .i64 0)) ∧ Dr w L rl vs 3 (116 : TypeId) 3 k (List.replicate k [.int .i64 0, .int .i64 0, .bool false]).flatten ∧ Dr w L rl vs 4 4 1 k (List.replicate k (.bool false)) ∧ Dr w L rl vs 5 3 1 k ((List.range k).map fun i : Nat => (Value.int .i64 (i : Int))) ∧
    (∀ j e s n xs, j < 2 ∨ 6 ≤ j → Dr w0 L rl0 vs0 j e s n xs → Dr w L rl vs j e s n xs) ∧ Dy w0 rl0 w rl

end Go.Proofs.YtgjpbekmkhanhaaGreat.CH

/-
  The document's world: Spawn.
-/
namespace Go.Proofs.YtgjpbekmkhanhaaGreat.CH
open Go.RowKit QW
set_option maxRecDepth 100000
set_option linter.unusedSimpArgs false

section
variable {w : World} {L E : Nat} {vs0 : List Value} {rl0 : Lb} {pa : Option Addr} {np pcap : Nat}

/-- A task more. -/
theorem Dsp.step {k : Nat} {wr : World} (d : Dsp w rl0 vs0 L E k wr) (hk : k ≤ 1000000) (hL : L ≤ w.heap.size) :
    ∃ a2 c2 p2 d2 X2 Z2 a3 c3 p3 d3 X3 Z3 a4 c4 p4 d4 X4 Z4 a5 c5 p5 d5 X5 Z5,
      (wr.cell? ⟨E, 0, none⟩ = vs0[0]? ∧ wr.cell? ⟨E, 2, none⟩ = some (.slice a2 k c2) ∧ (wr.alloc (.cells #[.int .i64 0] 3)).cell? ⟨E, 2, none⟩ = some (.slice a2 k c2) ∧ (Builtin.append_ #[(23 : TypeId), (23 : TypeId)] (23 : TypeId) #[.slice a2 k c2, .slice (some ⟨wr.heap.size, 0, none⟩) 1 1]).run Tryz.prog (wr.alloc (.cells #[.int .i64 0] 3)) = .ok (.slice p2 (k + 1) d2) X2 ∧ X2.frozen? ⟨E, 2, none⟩ = false ∧ X2.cell? ⟨E, 2, none⟩ = some (.slice a2 k c2) ∧ Hid (Z2 = X2.setCell ⟨E, 2, none⟩ (.slice p2 (k + 1) d2))) ∧
      (Z2.cell? ⟨E, 3, none⟩ = some (.slice a3 k c3) ∧ (Z2.alloc (.cells #[.int .i64 0, .int .i64 0, .bool false] (116 : TypeId))).cell? ⟨E, 3, none⟩ = some (.slice a3 k c3) ∧ (Builtin.append_ #[(42 : TypeId), (42 : TypeId)] (42 : TypeId) #[.slice a3 k c3, .slice (some ⟨Z2.heap.size, 0, none⟩) 1 1]).run Tryz.prog (Z2.alloc (.cells #[.int .i64 0, .int .i64 0, .bool false] (116 : TypeId))) = .ok (.slice p3 (k + 1) d3) X3 ∧ X3.frozen? ⟨E, 3, none⟩ = false ∧ X3.cell? ⟨E, 3, none⟩ = some (.slice a3 k c3) ∧ Hid (Z3 = X3.setCell ⟨E, 3, none⟩ (.slice p3 (k + 1) d3))) ∧
      (Z3.cell? ⟨E, 4, none⟩ = some (.slice a4 k c4) ∧ (Z3.alloc (.cells #[.bool false] 4)).cell? ⟨E, 4, none⟩ = some (.slice a4 k c4) ∧ (Builtin.append_ #[(43 : TypeId), (43 : TypeId)] (43 : TypeId) #[.slice a4 k c4, .slice (some ⟨Z3.heap.size, 0, none⟩) 1 1]).run Tryz.prog (Z3.alloc (.cells #[.bool false] 4)) = .ok (.slice p4 (k + 1) d4) X4 ∧ X4.frozen? ⟨E, 4, none⟩ = false ∧ X4.cell? ⟨E, 4, none⟩ = some (.slice a4 k c4) ∧ Hid (Z4 = X4.setCell ⟨E, 4, none⟩ (.slice p4 (k + 1) d4))) ∧
      (Z4.cell? ⟨E, 5, none⟩ = some (.slice a5 k c5) ∧ (Z4.alloc (.cells #[.int .i64 k] 3)).cell? ⟨E, 5, none⟩ = some (.slice a5 k c5) ∧ (Builtin.append_ #[(23 : TypeId), (23 : TypeId)] (23 : TypeId) #[.slice a5 k c5, .slice (some ⟨Z4.heap.size, 0, none⟩) 1 1]).run Tryz.prog (Z4.alloc (.cells #[.int .i64 k] 3)) = .ok (.slice p5 (k + 1) d5) X5 ∧ X5.frozen? ⟨E, 5, none⟩ = false ∧ X5.cell? ⟨E, 5, none⟩ = some (.slice a5 k c5) ∧ Hid (Z5 = X5.setCell ⟨E, 5, none⟩ (.slice p5 (k + 1) d5))) ∧
      Dsp w rl0 vs0 L E (k + 1) Z5 := by
  obtain ⟨vs, rl, D, hl, hold, r2, r3, r4, r5, ho, y⟩ := d.ex
  have hL1 : L ≤ wr.heap.size := Nat.le_trans hL y.tb.size
  obtain ⟨i3, e1, e2, e3, e4⟩ := info_all infoI3
  obtain ⟨it, t1, t2, t3, t4⟩ := info_all infoTd
  obtain ⟨ib, b1, b2, b3, b4⟩ := info_all infoB4
  obtain ⟨a2, c2, p2, d2, X2, cE2, cA2, run2, f2, x2, rl2, D2, R2, O2, y2⟩ := D.app hL1 r2 (23 : TypeId) i3 _ 8 Tryz.underlying23 e1 e2 e3 e4 rfl (by omega) (by decide) (by decide) [.int .i64 0] rfl (by simp [Value.oneCell']) hk (by omega)
  obtain ⟨Z2, hZ2⟩ : ∃ Z2, Hid (Z2 = X2.setCell ⟨E, 2, none⟩ (.slice p2 (k + 1) d2)) := ⟨_, hide rfl⟩
  rw [← hZ2.out] at D2 R2 O2 y2
  have hL2 : L ≤ Z2.heap.size := Nat.le_trans hL1 y2.tb.size
  obtain ⟨a3, c3, p3, d3, X3, cE3, cA3, run3, f3, x3, rl3, D3, R3, O3, y3⟩ := D2.app hL2 (O2 3 _ _ _ _ (by omega) r3) (42 : TypeId) it _ 24 Tryz.underlying42 t1 t2 t3 t4 rfl (by omega) (by decide) (by decide) [.int .i64 0, .int .i64 0, .bool false] rfl (by simp [Value.oneCell']) hk (by omega)
  obtain ⟨Z3, hZ3⟩ : ∃ Z3, Hid (Z3 = X3.setCell ⟨E, 3, none⟩ (.slice p3 (k + 1) d3)) := ⟨_, hide rfl⟩
  rw [← hZ3.out] at D3 R3 O3 y3
  have hL3 : L ≤ Z3.heap.size := Nat.le_trans hL2 y3.tb.size
  obtain ⟨a4, c4, p4, d4, X4, cE4, cA4, run4, f4, x4, rl4, D4, R4, O4, y4⟩ := D3.app hL3 (O3 4 _ _ _ _ (by omega) (O2 4 _ _ _ _ (by omega) r4)) (43 : TypeId) ib _ 1 Tryz.underlying43 b1 b2 b3 b4 rfl (by omega) (by decide) (by decide) [.bool false] rfl (by simp [Value.oneCell']) hk (by omega)
  obtain ⟨Z4, hZ4⟩ : ∃ Z4, Hid (Z4 = X4.setCell ⟨E, 4, none⟩ (.slice p4 (k + 1) d4)) := ⟨_, hide rfl⟩
  rw [← hZ4.out] at D4 R4 O4 y4
  have hL4 : L ≤ Z4.heap.size := Nat.le_trans hL3 y4.tb.size
  obtain ⟨a5, c5, p5, d5, X5, cE5, cA5, run5, f5, x5, rl5, D5, R5, O5, y5⟩ := D4.app hL4 (O4 5 _ _ _ _ (by omega) (O3 5 _ _ _ _ (by omega) (O2 5 _ _ _ _ (by omega) r5))) (23 : TypeId) i3 _ 8 Tryz.underlying23 e1 e2 e3 e4 rfl (by omega) (by decide) (by decide) [.int .i64 k] rfl (by simp [Value.oneCell']) hk (by omega)
  obtain ⟨Z5, hZ5⟩ : ∃ Z5, Hid (Z5 = X5.setCell ⟨E, 5, none⟩ (.slice p5 (k + 1) d5)) := ⟨_, hide rfl⟩
  rw [← hZ5.out] at D5 R5 O5 y5
  refine ⟨a2, c2, p2, d2, X2, Z2, a3, c3, p3, d3, X3, Z3, a4, c4, p4, d4, X4, Z4, a5, c5, p5, d5, X5, Z5, ⟨?_, cE2, cA2, run2, f2, x2, hZ2⟩, ⟨cE3, cA3, run3, f3, x3, hZ3⟩, ⟨cE4, cA4, run4, f4, x4, hZ4⟩, ⟨cE5, cA5, run5, f5, x5, hZ5⟩, ⟨_, rl5, D5, ?_, fun j hj => ?_, ?_, ?_, ?_, ?_, fun j e s n xs hj hr => ?_, (((y.trans y2).trans y3).trans y4).trans y5⟩⟩
  · rw [← hold 0 (by omega), cell_of_row _ _ 0 _ _ _ D.blk]
    simp
  · simpa using hl
  · rw [List.getElem?_set_ne (by omega), List.getElem?_set_ne (by omega), List.getElem?_set_ne (by omega), List.getElem?_set_ne (by omega)]
    exact hold j hj
  · rw [List.replicate_succ']
    exact O5 2 _ _ _ _ (by omega) (O4 2 _ _ _ _ (by omega) (O3 2 _ _ _ _ (by omega) R2))
  · rw [List.replicate_succ', List.flatten_append]
    exact O5 3 _ _ _ _ (by omega) (O4 3 _ _ _ _ (by omega) R3)
  · rw [List.replicate_succ']
    exact O5 4 _ _ _ _ (by omega) R4
  · rw [List.range_succ, List.map_append]
    exact R5
  · exact O5 j _ _ _ _ (by omega) (O4 j _ _ _ _ (by omega) (O3 j _ _ _ _ (by omega) (O2 j _ _ _ _ (by omega) (ho j e s n xs hj hr))))

set_option maxHeartbeats 4000000 in
theorem rspawn0 (h : Dw w L E vs0 rl0) (hL : L ≤ w.heap.size) (h0 : vs0[0]? = some (.slice pa np pcap)) (hnp : np ≤ 1000) (r2 : Dr w L rl0 vs0 2 3 1 0 []) (r3 : Dr w L rl0 vs0 3 (116 : TypeId) 3 0 []) (r4 : Dr w L rl0 vs0 4 4 1 0 []) (r5 : Dr w L rl0 vs0 5 3 1 0 []) :
    Calls Tryz.prog 57 #[.pointer (some ⟨E, 0, none⟩)] w fun e w' => e = .returned (.tuple #[]) ∧ Dsp w rl0 vs0 L E np w' := by
  have HB : Hid (Dsp w rl0 vs0 L E 0 w) := hide ⟨vs0, rl0, h, rfl, fun _ _ => rfl, r2, r3, r4, r5, fun _ _ _ _ _ _ hr => hr, Dy.refl _ _⟩
  have HST := hide (fun k wr (d : Dsp w rl0 vs0 L E k wr) (hk : k ≤ 1000000) => d.step hk hL)
  have HC0 : Hid (∀ k wr, Dsp w rl0 vs0 L E k wr → wr.cell? ⟨E, 0, none⟩ = some (.slice pa np pcap)) := hide (fun k wr d => by
    obtain ⟨vs, rl, D, hl, hold, _⟩ := d.ex
    rw [cell_of_row _ _ 0 _ _ _ D.blk, ← h0, ← hold 0 (by omega)]
    simp)
  clear h hL h0 r2 r3 r4 r5
  go_enter Tryz.func57, Tryz.ntmps57
  go_wp2_with fail
  go_loopw [2] (fun j wr => ∃ k : Nat, k ≤ np ∧ j = .int .i64 k ∧ Hid (Dsp w rl0 vs0 L E k wr)) (fun j _ => np - (intOf j).toNat)
  case atStart => exact ⟨0, Nat.zero_le _, rfl, HB⟩
  case round =>
    obtain ⟨k, hk, rfl, hd⟩ := hrel
    have c0 := HC0.out k wr hd.out
    by_cases hlt : k < np
    · have hii : decide ((k : Int) < (np : Int)) = true := by simp; omega
      obtain ⟨a2, c2, p2, d2, X2, Z2, a3, c3, p3, d3, X3, Z3, a4, c4, p4, d4, X4, Z4, a5, c5, p5, d5, X5, Z5, ⟨_, k1, k2, run2, k3, k4, hZ2⟩, ⟨m1, m2, run3, m3, m4, hZ3⟩, ⟨n1, n2, run4, n3, n4, hZ4⟩, ⟨o1, o2, run5, o3, o4, hZ5⟩, hd'⟩ := HST.out k wr hd.out (by omega)
      have HD := hide hd'
      clear hd' hd HC0 HST HB
      go_wp2_with (first | (rw [← hZ2.out]) | (rw [← hZ3.out]) | (rw [← hZ4.out]) | (rw [← hZ5.out]) | (at_builtin; first | refine wpList_append_run rfl (23 : TypeId) _ _ rfl (.slice a2 k c2) (.slice (some ⟨wr.heap.size, 0, none⟩) 1 1) (.slice p2 (k + 1) d2) (by simp [Act.eval]) (by simp [Act.eval]) run2 ?_ | refine wpList_append_run rfl (42 : TypeId) _ _ rfl (.slice a3 k c3) (.slice (some ⟨Z2.heap.size, 0, none⟩) 1 1) (.slice p3 (k + 1) d3) (by simp [Act.eval]) (by simp [Act.eval]) run3 ?_ | refine wpList_append_run rfl (43 : TypeId) _ _ rfl (.slice a4 k c4) (.slice (some ⟨Z3.heap.size, 0, none⟩) 1 1) (.slice p4 (k + 1) d4) (by simp [Act.eval]) (by simp [Act.eval]) run4 ?_ | refine wpList_append_run rfl (23 : TypeId) _ _ rfl (.slice a5 k c5) (.slice (some ⟨Z4.heap.size, 0, none⟩) 1 1) (.slice p5 (k + 1) d5) (by simp [Act.eval]) (by simp [Act.eval]) run5 ?_))
      go_roundw
      case rel => exact ⟨k + 1, by omega, by go_num, HD⟩
      case measure => simp [intOf]; omega
    · have hii : decide ((k : Int) < (np : Int)) = false := by simp; omega
      obtain rfl : k = np := by omega
      go_wp2_with fail
      go_end0
      exact ⟨rfl, hd.out⟩
end

end Go.Proofs.YtgjpbekmkhanhaaGreat.CH

/-
  What NetSent keeps, in memory.
-/
import Derived.Test.YtgkbjnfkimkmaaaNto
import Derived.Test.YtgkbjnfkimkmaaaNtl
namespace Go.Proofs.Ytgkbjnfkimkmaaa.netSent
open Go.RowKit Go.Proofs.Ytgkbjnfkimkmaaa
set_option maxRecDepth 100000

/-- The net; how many were sent (S); who owns which number (O, og); the copies (cv). -/
structure Ms (w : World) (R M S O og s : Nat) (cp own : List Int) (n : Nt) (cv : Value) (wr : World) : Prop where
  net : An w R M n wr
  sc : wr.heap[S]? = some (.cells #[.int .i64 (s : Int)] 3 (0, 0))
  oc : wr.heap[O]? = some (.cells #[.slice (some ⟨og, 0, none⟩) 400 400] (59 : TypeId) (0, 0))
  orow : wr.heap[og]? = some (.cells (I1 own).toArray 3 (0, 0))
  ol : own.length = 400
  cr : wr.ownsRow w.heap.size 3 1 cv s (I1 cp)
  ws : w.heap.size ≤ S
  wo : w.heap.size ≤ O
  wg : w.heap.size ≤ og
  sg : S ≠ og
  cs : ∀ g, cv.ownBlock = some g → g ≠ S ∧ g ≠ og

section
variable {w : World} {R M S O og s : Nat} {cp own : List Int} {n : Nt} {cv : Value} {wr X : World}

theorem Nw.cells_off {w : World} {R M : Nat} {n : Nt} (h : Nw w R M n) {g : Nat} {cs : Array Value} {e : TypeId} {fr : Nat × Nat} (hg : w.heap[g]? = some (.cells cs e fr)) (he : e ≠ (56 : TypeId)) : g ≠ R ∧ g ≠ M := by
  constructor
  · intro e'
    rw [e', h.obj] at hg
    simp only [Option.some.injEq, Obj.cells.injEq] at hg
    exact he hg.2.1.symm
  · intro e'
    obtain ⟨D, hD, _⟩ := h.map
    obtain ⟨es, clock, hb, _⟩ := hD.own
    rw [e', hb] at hg
    cases hg

theorem Ms.so (h : Ms w R M S O og s cp own n cv wr) : S ≠ O ∧ og ≠ O := by
  constructor
  · intro e
    have h1 := h.sc
    rw [e, h.oc] at h1
    simp at h1
  · intro e
    have h1 := h.orow
    rw [e, h.oc] at h1
    simp at h1

theorem Ms.co (h : Ms w R M S O og s cp own n cv wr) {g : Nat} (hg : cv.ownBlock = some g) : g ≠ O := by
  intro e
  rcases h.cr.2 with ⟨rfl, _⟩ | ⟨g', cap, cur, rfl, _, hh, _⟩
  · cases hg
  · simp only [Value.ownBlock, Option.some.injEq] at hg
    rw [hg, e, h.oc] at hh
    simp at hh

/-- The net turns, all else stays. -/
theorem Ms.turn (h : Ms w R M S O og s cp own n cv wr) {n' : Nt} (hX : An w R M n' X) (t : Tb (fun k => k = R ∨ k = M) wr X) : Ms w R M S O og s cp own n' cv X := by
  have a1 := Nw.cells_off h.net.net h.sc (by decide)
  have a2 := Nw.cells_off h.net.net h.oc (by decide)
  have a3 := Nw.cells_off h.net.net h.orow (by decide)
  refine ⟨hX, (t.block _ (heap_lt h.sc) (by omega)).trans h.sc, (t.block _ (heap_lt h.oc) (by omega)).trans h.oc, (t.block _ (heap_lt h.orow) (by omega)).trans h.orow, h.ol, row_tb h.cr t (fun g hg e => ?_), h.ws, h.wo, h.wg, h.sg, h.cs⟩
  have := h.net.net.off h.cr (by decide) hg
  omega

theorem Ms.fresh (h : Ms w R M S O og s cp own n cv wr) (hb : Below wr.heap.size wr X) : Ms w R M S O og s cp own n cv X := h.turn (h.net.fresh hb) (Tb.of_fresh hb)
theorem Ms.alloc (h : Ms w R M S O og s cp own n cv wr) (o : Obj) : Ms w R M S O og s cp own n cv (wr.alloc o) := h.fresh ((Below.refl _ wr).alloc (Nat.le_refl _) o)

theorem An.set {w W : World} {R M : Nat} {n : Nt} (h : An w R M n W) {g i : Nat} (v : Value) (h1 : g ≠ R) (h2 : g ≠ M) (h3 : w.heap.size ≤ g) : An w R M n (W.setCell ⟨g, i, none⟩ v) :=
  ⟨h.net.heap (Below.heap_setCell W ⟨g, i, none⟩ v R (fun e => h1 (by simpa using e.symm))) (Below.heap_setCell W ⟨g, i, none⟩ v M (fun e => h2 (by simpa using e.symm))), h.bel.setCell (p := ⟨g, i, none⟩) h3 v, h.own, h.mown⟩

theorem row_set {W : World} {base k : Nat} {e : TypeId} {v : Value} {xs : List Value} (h : W.ownsRow base e 1 v k xs) {g i : Nat} (x : Value) (hg : ∀ b, v.ownBlock = some b → b ≠ g) : (W.setCell ⟨g, i, none⟩ x).ownsRow base e 1 v k xs :=
  row_heap h (fun b hb => Below.heap_setCell W ⟨g, i, none⟩ x b (fun e => hg b hb (by simpa using e)))

/-- One more was sent. -/
theorem Ms.setS (h : Ms w R M S O og s cp own n cv wr) (s' : Nat) : (wr.setCell ⟨S, 0, none⟩ (.int .i64 (s' : Int))).heap[S]? = some (.cells #[.int .i64 (s' : Int)] 3 (0, 0)) ∧ An w R M n (wr.setCell ⟨S, 0, none⟩ (.int .i64 (s' : Int))) ∧ (wr.setCell ⟨S, 0, none⟩ (.int .i64 (s' : Int))).heap[O]? = wr.heap[O]? ∧ (wr.setCell ⟨S, 0, none⟩ (.int .i64 (s' : Int))).heap[og]? = wr.heap[og]? ∧ (wr.setCell ⟨S, 0, none⟩ (.int .i64 (s' : Int))).ownsRow w.heap.size 3 1 cv s (I1 cp) := by
  have a1 := Nw.cells_off h.net.net h.sc (by decide)
  have a2 := h.so
  have a3 := h.sg
  refine ⟨?_, An.set h.net _ a1.1 a1.2 h.ws, Below.heap_setCell _ ⟨S, 0, none⟩ _ _ (fun e => a2.1 (by simpa using e.symm)), Below.heap_setCell _ ⟨S, 0, none⟩ _ _ (fun e => a3 (by simpa using e.symm)), row_set h.cr _ (fun b hb => (h.cs b hb).1)⟩
  rw [heap_setCell_same wr S 0 _ 3 _ h.sc]
  rfl

/-- A number has its owner. -/
theorem Ms.setO (h : Ms w R M S O og s cp own n cv wr) (k : Nat) (x : Int) : Ms w R M S O og s cp (own.set k x) n cv (wr.setCell ⟨og, k, none⟩ (.int .i64 x)) := by
  have a1 := Nw.cells_off h.net.net h.orow (by decide)
  have a2 := h.so
  have a3 := h.sg
  refine ⟨An.set h.net _ a1.1 a1.2 h.wg, (Below.heap_setCell _ ⟨og, k, none⟩ _ _ (fun e => a3 (by simpa using e))).trans h.sc, (Below.heap_setCell _ ⟨og, k, none⟩ _ _ (fun e => a2.2 (by simpa using e.symm))).trans h.oc, ?_, by simp [h.ol], row_set h.cr _ (fun b hb => (h.cs b hb).2), h.ws, h.wo, h.wg, h.sg, h.cs⟩
  rw [heap_setCell_same wr og k _ 3 _ h.orow]
  simp [I1, List.map_set]

/-- A count turns. -/
theorem Ms.setC (h : Ms w R M S O og s cp own n cv wr) {g : Nat} (hg : cv.ownBlock = some g) (k : Nat) (x : Int) : Ms w R M S O og s (cp.set k x) own n cv (wr.setCell ⟨g, k, none⟩ (.int .i64 x)) := by
  have a1 := h.net.net.off h.cr (by decide) hg
  have a2 := h.cs g hg
  have a3 := h.co hg
  have a4 := (h.cr.lt g hg).1
  refine ⟨An.set h.net _ a1.1 a1.2 a4, (Below.heap_setCell _ ⟨g, k, none⟩ _ _ (fun e => a2.1 (by simpa using e.symm))).trans h.sc, (Below.heap_setCell _ ⟨g, k, none⟩ _ _ (fun e => a3 (by simpa using e.symm))).trans h.oc, (Below.heap_setCell _ ⟨g, k, none⟩ _ _ (fun e => a2.2 (by simpa using e.symm))).trans h.orow, h.ol, ?_, h.ws, h.wo, h.wg, h.sg, h.cs⟩
  rcases h.cr.2 with ⟨rfl, _⟩ | ⟨g', cap, cur, hv, hb⟩
  · cases hg
  · subst hv
    simp only [Value.ownBlock, Option.some.injEq] at hg
    subst hg
    have := (h.cr.stored k (.int .i64 x)).1
    simpa [I1, List.map_set] using this

theorem ints_went {W : World} {base : Nat} {v : Value} {l : List Int} {k : Nat} (x : Int) (h : W.ownsRow base 3 1 v k (I1 l)) (hb : base ≤ W.heap.size) (hk : k < 1000000) :
    ∃ v' Z, (∀ ty, (Builtin.append_ #[(59 : TypeId), (59 : TypeId)] ty #[v, .slice (some ⟨W.heap.size, 0, none⟩) 1 1]).run Try.prog (W.alloc (.cells #[.int .i64 x] 3)) = .ok v' Z) ∧ Z.ownsRow base 3 1 v' (k + 1) (I1 (l ++ [x])) ∧ (W.alloc (.cells #[.int .i64 x] 3)).grownBy Z v.ownBlock ∧ (v'.ownBlock = v.ownBlock ∨ v'.ownBlock = some (W.heap.size + 1)) := by
  obtain ⟨i0, hi, hz0, hz1, hz2⟩ := info_parts info3
  have hrow : (W.alloc (.cells #[.int .i64 x] 3)).ownsRow base 3 1 v k (I1 l) := row_tb h ((Tb.refl (fun _ => False) _).alloc _) (fun _ _ h => h)
  obtain ⟨v', Z, hr, ho, hg, hw⟩ := run_append_rows (P := Try.prog) base (59 : TypeId) 0 3 i0 (.int .i64 0) 1 8 Try.underlying59 hi hz0 hz1 hz2 rfl (by decide) v _ _ hrow _ 1 [.int .i64 x] 0 (own_one W [.int .i64 x] 1 3 rfl) (by simp [Value.oneCell']) (by unfold maxLen; omega) (by omega) (by simp; omega)
  exact ⟨v', Z, fun ty => hr, by rw [I1_append]; exact ho, hg, by simpa using hw⟩

/-- A copy is counted for the first time: behind the append. -/
theorem Ms.more {W Z : World} {cv' : Value} (hn : An w R M n W) (hs : W.heap[S]? = some (.cells #[.int .i64 ((s + 1 : Nat) : Int)] 3 (0, 0))) (ho : W.heap[O]? = some (.cells #[.slice (some ⟨og, 0, none⟩) 400 400] (59 : TypeId) (0, 0))) (hr : W.heap[og]? = some (.cells (I1 own).toArray 3 (0, 0))) (hl : own.length = 400) (hc : W.ownsRow w.heap.size 3 1 cv s (I1 cp)) (hw : w.heap.size ≤ S ∧ w.heap.size ≤ O ∧ w.heap.size ≤ og) (hsg : S ≠ og) (hcs : ∀ g, cv.ownBlock = some g → g ≠ S ∧ g ≠ og)
    (hZ : Z.ownsRow w.heap.size 3 1 cv' (s + 1) (I1 (cp ++ [1]))) (hg : (W.alloc (.cells #[.int .i64 1] 3)).grownBy Z cv.ownBlock) (hwent : cv'.ownBlock = cv.ownBlock ∨ cv'.ownBlock = some (W.heap.size + 1)) : Ms w R M S O og (s + 1) (cp ++ [1]) own n cv' Z := by
  have hA := hn.alloc (.cells #[.int .i64 1] 3)
  have hal : (W.alloc (.cells #[.int .i64 1] 3)).heap.size = W.heap.size + 1 := by simp
  have keep : ∀ {b : Nat} {o : Obj}, W.heap[b]? = some o → (∀ g, cv.ownBlock = some g → g ≠ b) → Z.heap[b]? = some o := fun {b o} h1 h2 => by
    have hb := heap_lt h1
    rw [hg.block b (by omega) (fun e => h2 b e.symm rfl), Below.heap_alloc _ _ _ hb]
    exact h1
  have hoff : ∀ g, cv.ownBlock = some g → g ≠ R ∧ g ≠ M ∧ g ≠ O := fun g hgb => by
    have h1 := hn.net.off hc (by decide) hgb
    refine ⟨h1.1, h1.2, fun e => ?_⟩
    rcases hc.2 with ⟨rfl, _⟩ | ⟨g', cap, cur, rfl, _, hh, _⟩
    · cases hgb
    · simp only [Value.ownBlock, Option.some.injEq] at hgb
      rw [hgb, e, ho] at hh
      simp at hh
  refine ⟨hA.grown hg (fun g hgb => ⟨(hoff g hgb).1, (hoff g hgb).2.1, (hc.lt g hgb).1⟩), keep hs (fun g h => (hcs g h).1), keep ho (fun g h => (hoff g h).2.2), keep hr (fun g h => (hcs g h).2), hl, hZ, hw.1, hw.2.1, hw.2.2, hsg, fun g hgb => ?_⟩
  rcases hwent with e | e
  · rw [e] at hgb
    exact hcs g hgb
  · rw [e] at hgb
    simp only [Option.some.injEq] at hgb
    have := heap_lt hs
    have := heap_lt hr
    omega
end

end Go.Proofs.Ytgkbjnfkimkmaaa.netSent

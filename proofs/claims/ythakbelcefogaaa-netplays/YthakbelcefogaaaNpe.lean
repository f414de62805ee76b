/-
  NetPlays: what a region leaves that makes a row beside a call; the program's Deliver, the document's Deliver and Send behind it.
-/
import Derived.Test.YthakbelcefogaaaNpd
namespace Go.Proofs.Ythakbelcefogaaa
open Go.RowKit
set_option maxRecDepth 100000

/-- Behind a region that makes one row beside a call. -/
structure Wa (X1 X2 V5 : World) (T : TypeId) (k G : Nat) (r : Array Value) : Prop where
  sz : X2.heap.size ≤ V5.heap.size
  blk : ∀ g, g < X2.heap.size → (g < X1.heap.size ∨ X1.heap.size + k ≤ g) → V5.heap[g]? = X2.heap[g]?
  bel : ∀ (w : World) (n : Nat), Below n w X2 → n ≤ X1.heap.size → Below n w V5
  g : V5.heap[G]? = some (.cells r T (0, 0))
  gn : X1.heap.size ≤ G

section
variable {X1 X2 : World} {x y p q t u : Value} {T : TypeId}
theorem wa1 {r : Array Value} (hs : X1.heap.size ≤ X2.heap.size) : Wa X1 X2 (X2.alloc (.cells r T)) T 0 X2.heap.size r :=
  ⟨by simp, fun g hg _ => Below.heap_alloc _ _ g hg, fun w n hb hn => hb.alloc (by omega) _, heap_alloc_new X2 _, hs⟩
theorem wa2 {c0 c1 : Value} (h0 : X2.heap[X1.heap.size]? = some (.cells #[c0, c1] T (0, 0))) : Wa X1 X2 (set2 X2 X1.heap.size x y) T 1 X1.heap.size #[x, y] :=
  ⟨by rw [set2_size]; exact Nat.le_refl _, fun g _ h => set2_other X2 (by omega), fun w n hb hn => set2_below hb hn, set2_same h0, Nat.le_refl _⟩
theorem wa4 {c0 c1 c2 c3 : Value} (h0 : X2.heap[X1.heap.size]? = some (.cells #[c0, c1, c2, c3] T (0, 0))) : Wa X1 X2 (set4 X2 X1.heap.size p q t u) T 1 X1.heap.size #[p, q, t, u] :=
  ⟨by rw [set4_size]; exact Nat.le_refl _, fun g _ h => set4_other X2 (by omega), fun w n hb hn => set4_below hb hn, set4_same h0, Nat.le_refl _⟩
end

section
variable {P : Program} {ops : Array Oper} {rest : List Oper} {o : Oper} {a : Act} {w w' : World} {Q : Exit → Act → World → Prop}
theorem wpList_load_roww (hgd : Region.wanted o (yielded ops a.tmps) = true) (ty : TypeId) (x : Operand) (ho : o.op = .load ty x)
    (g : Nat) (hx : a.eval x = .pointer (some ⟨g, 0, none⟩)) (t : TypeId) (cs : Array Value) (fr : Nat × Nat) (d : TypeDesc) (hg : w.heap[g]? = some (.cells cs t fr))
    (hu : P.underlying ty = some d) (hd : (match d with | .struct _ | .array _ _ => true | _ => false) = true) (hi : (P.info? ty).map (·.size) = some cs.size)
    (h : wpList P ops Q rest (a.put o.dst (.agg cs)) w) : wpList P ops Q (o :: rest) a w := by
  refine wpList_step fun K hK => ?_
  rw [if_pos hgd]
  exact wp_load_row ty x ho g hx t cs fr d hg hu hd hi (hK _ _ h)
theorem wpList_buildw (hgd : Region.wanted o (yielded ops a.tmps) = true) (t : TypeId) (len : Nat) (parts : Array (Nat × Operand)) (ho : o.op = .buildSlice t len parts) (ps : Array (Nat × Value)) (hps : (parts.map fun (i, x) => (i, a.eval x)) = ps)
    (v : Value) (hrun : (Instr.buildSlice t len ps).run P w = .ok v w') (h : wpList P ops Q rest (a.put o.dst v) w') : wpList P ops Q (o :: rest) a w := by
  refine wpList_step fun K hK => ?_
  rw [if_pos hgd]
  unfold Oper.wp execOp
  simp only [ho, Sem.run_bind, hps, hrun, Result.andThen_ok]
  exact hK _ _ h
end

theorem one_packet (w : World) (c0 c1 c2 c3 : Value) : (Instr.buildSlice (34 : TypeId) 1 #[(0, .agg #[c0, c1, c2, c3])]).run Try.prog w = .ok (.slice (some ⟨w.heap.size, 0, none⟩) 1 1) (w.alloc (.cells #[c0, c1, c2, c3] (31 : TypeId))) := by
  have h : (Try.prog.info? (31 : TypeId)).map (fun i => (i.zero, i.size)) = some (some (.agg #[.int .i64 0, .int .i64 0, .int .i64 0, .slice none 0 0]), 4) := by kernel_rfl
  obtain ⟨i, hi, he⟩ := Option.map_eq_some_iff.1 h
  simp only [Prod.mk.injEq] at he
  refine run_buildSlice w _ _ 1 _ _ i _ Try.underlying34 hi he.1 (by rw [he.2]; omega) (by rw [he.2]; omega) ?_
  rw [he.2]
  first | kernel_rfl | (simp [Instr.fill, Value.cells]; done) | decide

/-- The document's net i then, in its row G, and what stands when it is laid into its array. -/
def Lay (w V : World) (D L : Nat) (R M : Nat → Nat) (n' np : Nat → Nt) (va : Nat → Option Addr) (vc : Nat → Nat) (i G : Nat) (a' : Option Addr) (N' c' : Nat) (l' : Int) : Prop :=
  V.heap[G]? = some (.cells #[.slice a' N' c', .int .i64 l'] (40 : TypeId) (0, 0)) ∧ Pz w V D L R M n' np va vc ∧
    ∀ x y, x = .slice a' N' c' → y = .int .i64 l' → ∃ va5 vc5, Pz w ((V.setCell ⟨L, i * 2, none⟩ x).setCell ⟨L, i * 2 + 1, none⟩ y) D L R M n' n' va5 vc5
/-- A packet in its row H. -/
structure Pkt (V : World) (L H n0 : Nat) (e0 : Int) (fA : Pk) (pa : Option Addr) (pn pc : Nat) : Prop where
  row : V.heap[H]? = some (.cells #[.int .i64 e0, .int .i64 fA.fr, .int .i64 fA.to, .slice pa pn pc] (31 : TypeId) (0, 0))
  bs : Bs V pa pn pc fA.bd
  lt : ∀ ad, pa = some ad → ad.block < V.heap.size ∧ ad.block ≠ L
  ge : n0 ≤ H
/-- A call's own row. -/
def Oro (V : World) (O : Nat) (cs : Array Value) : Prop := V.heap[O]? = some (.cells cs (45 : TypeId) (0, 0))
/-- What was there stays. -/
def Old (X V : World) : Prop := ∀ g, g < X.heap.size → V.heap[g]? = X.heap[g]?
/-- The document's net i behind a Send, with what was lent beside it. -/
def Lsn (w V : World) (D L : Nat) (R M : Nat → Nat) (n' np : Nat → Nt) (va : Nat → Option Addr) (vc : Nat → Nat) (i G gx : Nat) (a' : Option Addr) (N' c' : Nat) (l' : Int) : Prop :=
  V.heap[G]? = some (.cells #[.slice a' N' c', .int .i64 l'] (40 : TypeId) (0, 0)) ∧ Pz w V D L R M n' np va vc ∧
    ∀ x y, x = .slice a' N' c' → y = .int .i64 l' → ∃ va5 vc5, Pz w ((V.setCell ⟨L, i * 2, none⟩ x).setCell ⟨L, i * 2 + 1, none⟩ y) D L R M n' n' va5 vc5 ∧
      ∀ j, j < 2 → ∃ ts, Pl ((V.setCell ⟨L, i * 2, none⟩ x).setCell ⟨L, i * 2 + 1, none⟩ y) (fun g => (g ≠ D ∧ g ≠ L ∧ ∀ k, k < 2 → g ≠ R k ∧ g ≠ M k) ∧ g ≠ gx) (va5 j) (n' j).m.length (vc5 j) ts (n' j).m

section
variable {w0 : World} {D L : Nat} {R M : Nat → Nat} {np nr : Nat → Nt} {va : Nat → Option Addr} {vc : Nat → Nat}

/-- A call on net i, at V, behind X0; V5 is what is there then. -/
theorem Pz.prog2 {X0 V X V5 : World} (z0 : Pz w0 X0 D L R M np nr va vc) (hV : Below X0.heap.size X0 V) {i : Nat} (hi : i < 2) {n' : Nt} (hn : Nw X (R i) (M i) n') (t : Tb (fun k => k = R i ∨ k = M i) V X) (hs : X.heap.size ≤ V5.heap.size)
    (hc : ∀ g, g < X.heap.size → (g < X0.heap.size ∨ V.heap.size ≤ g) → V5.heap[g]? = X.heap[g]?) (hb : Below w0.heap.size w0 V5) : Pz w0 V5 D L R M (up np i n') nr va vc := by
  have sV := hV.size
  have sX := t.size
  have hlt := z0.lt
  have zX := (z0.fresh hV).prog hi hn t
  have old : ∀ g, g < X0.heap.size → V5.heap[g]? = X.heap[g]? := fun g hg => hc g (by omega) (.inl hg)
  refine ⟨(old D hlt.1).trans zX.d, (old L hlt.2.1).trans zX.l, fun j hj => (zX.nw j hj).heap (old _ (hlt.2.2 j hj).1) (old _ (hlt.2.2 j hj).2), fun j hj => ?_, z0.rr, z0.mm, z0.ge, hb⟩
  obtain ⟨ts, hQ⟩ := z0.rn j hj
  refine ⟨ts, ((hQ.low.keep hV).heap (fun g hg _ => ?_) (by omega)).mono (fun g hg => hg.1)⟩
  rw [old g hg.2]
  exact t.block g (by omega) (fun e => by have := hg.1.2.2 i hi; omega)

/-- A packet is delivered at net i, told by the net alone. -/
theorem Pz.deliver2 {X0 V : World} (h : Pz w0 X0 D L R M np nr va vc) (hV : Below X0.heap.size X0 V) {i : Nat} (hi : i < 2) {k : Int} (hk : I6 k) :
    Calls Try.prog 13 #[.pointer (some ⟨R i, 0, none⟩), .int .i64 k] V fun e X => ∃ (pa : Option Addr) (pn pc : Nat), e = .returned (.tuple #[.agg #[.int .i64 (pno (np i) k), .int .i64 ((np i).findA k).fr, .int .i64 ((np i).findA k).to, .slice pa pn pc], .int .i64 ((np i).findE k)]) ∧ Bs X pa pn pc ((np i).findA k).bd ∧ (∀ ad, pa = some ad → V.heap.size ≤ ad.block ∧ ad.block < X.heap.size) ∧ Nw X (R i) (M i) ((np i).drpN k) ∧ Tb (fun k => k = R i ∨ k = M i) V X := by
  refine ((h.fresh hV).deliver hi hk).mono ?_
  rintro e X ⟨pa, pn, pc, rfl, hB, hlt, z, t⟩
  have := z.nw i hi
  rw [up_same] at this
  exact ⟨pa, pn, pc, rfl, hB, hlt, this, t⟩

/-- The document's Deliver at net i, at V, behind X1. -/
theorem Pz.rdeliver3 {X1 V : World} (h : Pz w0 X1 D L R M np nr va vc) (hV : Below X1.heap.size X1 V) {i : Nat} (hi : i < 2) {k : Int} (hf : (nr i).m.length ≤ 256) (hu : Un (nr i).m) :
    Calls Try.prog 20 #[.agg #[.slice (va i) (nr i).m.length (vc i), .int .i64 (nr i).last], .int .i64 k] V fun e X => ∃ (a' : Option Addr) (c' : Nat) (ts' : List Pt) (pa : Option Addr) (pn pc : Nat), e = .returned (.tuple #[.agg #[.slice a' ((nr i).drpN k).m.length c', .int .i64 ((nr i).drpN k).last], .agg #[.int .i64 (pno (nr i) k), .int .i64 ((nr i).findA k).fr, .int .i64 ((nr i).findA k).to, .slice pa pn pc], .int .i64 ((nr i).findE k)]) ∧ Bs X pa pn pc ((nr i).findA k).bd ∧ (∀ ad, pa = some ad → (((ad.block ≠ D ∧ ad.block ≠ L ∧ ∀ j, j < 2 → ad.block ≠ R j ∧ ad.block ≠ M j) ∧ ad.block < X1.heap.size) ∨ V.heap.size ≤ ad.block) ∧ ad.block < X.heap.size) ∧ Below V.heap.size V X ∧
      Pl X (fun g => ((g ≠ D ∧ g ≠ L ∧ ∀ j, j < 2 → g ≠ R j ∧ g ≠ M j) ∧ g < X1.heap.size) ∨ V.heap.size ≤ g) a' ((nr i).drpN k).m.length c' ts' ((nr i).drpN k).m := by
  obtain ⟨ts, hP0⟩ := h.rn i hi
  have hP := hP0.low.keep hV
  have hR : Rn V (fun g => (g ≠ D ∧ g ≠ L ∧ ∀ j, j < 2 → g ≠ R j ∧ g ≠ M j) ∧ g < X1.heap.size) (.agg #[.slice (va i) (nr i).m.length (vc i), .int .i64 (nr i).last]) (nr i) := ⟨va i, vc i, ts, rfl, hP⟩
  cases hk : lk (nr i).m k with
  | none =>
    have e1 : (nr i).drpN k = nr i := by simp [Nt.drpN, hk]
    have e2 : (nr i).findE k = 100 := by simp [Nt.findE, hk]
    have e3 : (nr i).findA k = ⟨0, 0, []⟩ := by simp [Nt.findA, hk]
    have e4 : pno (nr i) k = 0 := by simp [pno, hk]
    rw [e1, e2, e3, e4]
    refine (rdeliver_no (k := k) hR hf hk).mono ?_
    rintro e w' ⟨rfl, hb⟩
    exact ⟨va i, vc i, ts, none, 0, 0, rfl, Bs.nil _, (fun ad h => by cases h), hb, (hP.keep hb).mono (fun _ h => .inl h)⟩
  | some p =>
    have e1 : (nr i).drpN k = (nr i).drop k := by simp [Nt.drpN, hk]
    have e2 : (nr i).findE k = 0 := by simp [Nt.findE, hk]
    have e3 : (nr i).findA k = p := by simp [Nt.findA, hk]
    have e4 : pno (nr i) k = k := by simp [pno, hk]
    rw [e1, e2, e3, e4]
    refine (rdeliver_yes hR hf hu hk).mono ?_
    rintro e w' ⟨v', t, rfl, hB, hlt, ⟨a', c', ts', rfl, hP'⟩, hb⟩
    exact ⟨a', c', ts', t.a, t.ln, t.cap, rfl, hB, hlt, hb, hP'⟩

/-- Of two lists of packets all blocks are such as E says. -/
def Lpx (w : World) (D L : Nat) (R M : Nat → Nat) (nr : Nat → Nt) (va : Nat → Option Addr) (vc : Nat → Nat) (E : Nat → Prop) : Prop := ∀ i, i < 2 → ∃ ts, Pl w (fun g => (g ≠ D ∧ g ≠ L ∧ ∀ j, j < 2 → g ≠ R j ∧ g ≠ M j) ∧ E g) (va i) (nr i).m.length (vc i) ts (nr i).m

theorem Pz.lists {X0 : World} (h : Pz w0 X0 D L R M np nr va vc) : Lpx X0 D L R M nr va vc (fun g => g < X0.heap.size) := fun i hi => by
  obtain ⟨ts, hP⟩ := h.rn i hi
  exact ⟨ts, hP.low⟩
theorem Lpx.below {X V : World} {E : Nat → Prop} (h : Lpx X D L R M nr va vc E) (hb : Below X.heap.size X V) : Lpx V D L R M nr va vc E := fun i hi => by
  obtain ⟨ts, hP⟩ := h i hi
  exact ⟨ts, hP.keep hb⟩
theorem Lpx.prog {X V : World} {E : Nat → Prop} {i : Nat} (h : Lpx X D L R M nr va vc E) (hi : i < 2) (t : Tb (fun k => k = R i ∨ k = M i) X V) : Lpx V D L R M nr va vc E := fun j hj => by
  obtain ⟨ts, hP⟩ := h j hj
  exact ⟨ts, hP.heap (fun g hg hl => t.block g hl (fun e => by have := hg.1.2.2 i hi; omega)) t.size⟩

/-- The document's Send at net i, at V, behind X1; its lists' blocks are of E. -/
theorem Pz.rsend2 {X1 V : World} {n0 : Nat} (h : Pz w0 X1 D L R M np nr va vc) (hx : Lpx X1 D L R M nr va vc (fun g => g < n0)) (hn0 : n0 ≤ X1.heap.size) (hV : Below X1.heap.size X1 V) {i : Nat} (hi : i < 2) {f t : Int} (hl : 0 ≤ (nr i).last ∧ (nr i).last < 9223372036854775807) {a : Option Addr} {m cap : Nat} {b : List Int} (hB : Bs V a m cap b) :
    Calls Try.prog 16 #[.agg #[.slice (va i) (nr i).m.length (vc i), .int .i64 (nr i).last], .int .i64 f, .int .i64 t, .slice a m cap] V fun e X => ∃ (a' : Option Addr) (c' : Nat), e = .returned (.tuple #[.agg #[.slice a' ((nr i).sendN f t b).m.length c', .int .i64 ((nr i).sendN f t b).last], .int .i64 ((nr i).sendA b).1, .int .i64 ((nr i).sendA b).2]) ∧ Below V.heap.size V X ∧
      ∀ V5 k G r, Wa X1 X V5 (40 : TypeId) k G r → V.heap.size = X1.heap.size + k → Pz w0 V5 D L R M np nr va vc ∧ ∀ x y, x = .slice a' ((nr i).sendN f t b).m.length c' → y = .int .i64 ((nr i).sendN f t b).last → Pz w0 ((V5.setCell ⟨L, i * 2, none⟩ x).setCell ⟨L, i * 2 + 1, none⟩ y) D L R M np (up nr i ((nr i).sendN f t b)) (up va i a') (up vc i c') ∧ Lpx ((V5.setCell ⟨L, i * 2, none⟩ x).setCell ⟨L, i * 2 + 1, none⟩ y) D L R M (up nr i ((nr i).sendN f t b)) (up va i a') (up vc i c') (fun g => g < n0 ∨ V.heap.size ≤ g) := by
  obtain ⟨ts, hP0⟩ := hx i hi
  have hP := hP0.keep hV
  have hR : Rn V (fun g => (g ≠ D ∧ g ≠ L ∧ ∀ j, j < 2 → g ≠ R j ∧ g ≠ M j) ∧ g < n0) (.agg #[.slice (va i) (nr i).m.length (vc i), .int .i64 (nr i).last]) (nr i) := ⟨va i, vc i, ts, rfl, hP⟩
  refine (rsend_any (f := f) (t := t) hR hl hB).mono ?_
  rintro e X ⟨v', rfl, ⟨a', c', ts', rfl, hP'⟩, hb⟩
  refine ⟨a', c', rfl, hb, fun V5 k G r hW hk => ?_⟩
  have hlt := h.lt
  have sV := hV.size
  have hblk : ∀ g, g < X.heap.size → (g < X1.heap.size ∨ V.heap.size ≤ g) → V5.heap[g]? = X.heap[g]? := fun g hg hh => hW.blk g hg (by rw [← hk]; exact hh)
  have bX : Below w0.heap.size w0 X := (h.bel.trans (hV.mono h.bel.size)).trans (hb.mono (by have := h.bel.size; omega))
  obtain ⟨z5, zf⟩ := h.lay hV hb hi (hP'.mono (fun g hg => by
    rcases hg with hg | hg
    · exact .inl ⟨hg.1, by omega⟩
    · exact .inr hg)) hW.sz hblk (hW.bel w0 _ bX h.bel.size)
  refine ⟨z5, fun x y hx' hy' => ⟨zf x y hx' hy', fun j hj => ?_⟩⟩
  have hoth : ∀ g, g ≠ L → ((V5.setCell ⟨L, i * 2, none⟩ x).setCell ⟨L, i * 2 + 1, none⟩ y).heap[g]? = V5.heap[g]? := fun g hg => (Below.heap_setCell _ _ _ g hg).trans (Below.heap_setCell _ _ _ g hg)
  have hsz : ((V5.setCell ⟨L, i * 2, none⟩ x).setCell ⟨L, i * 2 + 1, none⟩ y).heap.size = V5.heap.size := (size_set _ _ _).trans (size_set _ _ _)
  have hXs := hb.size
  have hW1 := hW.sz
  by_cases e : j = i
  · subst e
    rw [up_same, up_same, up_same]
    refine ⟨ts', (hP'.heap (fun g hg hl => ?_) (by omega)).mono (fun g hg => ?_)⟩
    · rw [hoth g (by rcases hg with hg | hg; exact hg.1.2.1; omega)]
      exact hblk g hl (by rcases hg with hg | hg; exact .inl (by omega); exact .inr hg)
    · rcases hg with hg | hg
      · exact ⟨hg.1, .inl hg.2⟩
      · exact ⟨⟨by omega, by omega, fun j hj => by have := hlt.2.2 j hj; omega⟩, .inr hg⟩
  · rw [up_other e, up_other e, up_other e]
    obtain ⟨us, hQ⟩ := hx j hj
    refine ⟨us, (((hQ.keep hV).keep hb).heap (fun g hg hl => ?_) (by omega)).mono (fun g hg => ⟨hg.1, .inl hg.2⟩)⟩
    rw [hoth g hg.1.2.1]
    exact hblk g hl (.inl (by omega))
end

end Go.Proofs.Ythakbelcefogaaa

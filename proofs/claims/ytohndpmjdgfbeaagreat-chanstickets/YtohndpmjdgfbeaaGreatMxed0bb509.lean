/-
  Texts put into one.
-/
import Derived.Test.YtohndpmjdgfbeaaGreatMxc4cad266
import Derived.Test.YtohndpmjdgfbeaaGreatMx64e1f480

/-
  Tickets at two channels: the state, and who waits is served.
-/
namespace Go.Proofs.YtohndpmjdgfbeaaGreat.CH
open Go.RowKit QW
set_option maxRecDepth 100000
set_option linter.unusedSimpArgs false
set_option linter.unusedVariables false

def F48 (F b : Nat) : Value := .func (.func 48) #[] #[.pointer (some ⟨F, 0, none⟩), .pointer (some ⟨b, 0, none⟩)]
def F49 (T b : Nat) : Value := .func (.func 49) #[] #[.pointer (some ⟨T, 0, none⟩), .pointer (some ⟨b, 0, none⟩)]
def F50 (T b : Nat) : Value := .func (.func 50) #[] #[.pointer (some ⟨T, 0, none⟩), .pointer (some ⟨b, 0, none⟩)]
def WS1 (h : Nat) : Value := .func (.func 88) #[] #[.pointer (some ⟨h, 0, none⟩)]
theorem ent48 : Ent 48 := fun _ _ => by go_simp
theorem ent49 : Ent 49 := fun _ _ => by go_simp
theorem ent50 : Ent 50 := fun _ _ => by go_simp
theorem entW : Ent 88 := fun _ _ => by go_simp

section
variable {w : World} {T b n : Nat} {g : List Int}
theorem arr_c (hg : w.heap[T]? = some (.cells (g.map (Value.int .i64)).toArray (100 : TypeId) (0, 0))) (hl : g.length = 4) (hn : n < 4) : w.cell? ⟨T, n, none⟩ = some (.int .i64 (g.getD n 0)) := by
  rw [cell_of_row _ _ n _ _ _ hg]
  simp [List.getD, List.getElem?_eq_getElem (show n < g.length by omega)]
theorem f50_any (hg : w.heap[T]? = some (.cells (g.map (Value.int .i64)).toArray (100 : TypeId) (0, 0))) (hl : g.length = 4) (hb : w.heap[b]? = some (.cells #[.int .i64 n] 3 (0, 0))) (hn : n < 4) (h0 : g.getD n 0 = 0) (v : Int) (ok : Bool) :
    Calls Tryz.prog 50 #[.int .i64 v, .bool ok, .pointer (some ⟨T, 0, none⟩), .pointer (some ⟨b, 0, none⟩)] w fun e w' => e = .returned (.tuple #[]) ∧ w' = w.setCell ⟨T, n, none⟩ (.int .i64 1) := by
  have c0 := cell_of_row _ _ 0 _ _ _ hb
  have cj := arr_c hg hl hn
  rw [h0] at cj
  have fj := frozen_of_row _ _ n _ _ hg
  clear hg hb h0
  go_enter Tryz.func50, Tryz.ntmps50
  go_wp2_with fail
  go_end0
  exact ⟨rfl, rfl⟩
theorem f49_any (hg : w.heap[T]? = some (.cells (g.map (Value.int .i64)).toArray (100 : TypeId) (0, 0))) (hl : g.length = 4) (hb : w.heap[b]? = some (.cells #[.int .i64 n] 3 (0, 0))) (hn : n < 4) (h0 : g.getD n 0 = 0) (ok : Bool) :
    Calls Tryz.prog 49 #[.bool ok, .pointer (some ⟨T, 0, none⟩), .pointer (some ⟨b, 0, none⟩)] w fun e w' => e = .returned (.tuple #[]) ∧ w' = w.setCell ⟨T, n, none⟩ (.int .i64 1) := by
  have c0 := cell_of_row _ _ 0 _ _ _ hb
  have cj := arr_c hg hl hn
  rw [h0] at cj
  have fj := frozen_of_row _ _ n _ _ hg
  clear hg hb h0
  go_enter Tryz.func49, Tryz.ntmps49
  go_wp2_with fail
  go_end0
  exact ⟨rfl, rfl⟩
theorem f48_any (hg : w.heap[T]? = some (.cells (g.map (Value.int .i64)).toArray (100 : TypeId) (0, 0))) (hl : g.length = 4) (hb : w.heap[b]? = some (.cells #[.int .i64 n] 3 (0, 0))) (hn : n < 4) (h0 : g.getD n 0 = 0) :
    Calls Tryz.prog 48 #[.pointer (some ⟨T, 0, none⟩), .pointer (some ⟨b, 0, none⟩)] w fun e w' => e = .returned (.tuple #[]) ∧ w' = w.setCell ⟨T, n, none⟩ (.int .i64 1) := by
  have c0 := cell_of_row _ _ 0 _ _ _ hb
  have cj := arr_c hg hl hn
  rw [h0] at cj
  have fj := frozen_of_row _ _ n _ _ hg
  clear hg hb h0
  go_enter Tryz.func48, Tryz.ntmps48
  go_wp2_with fail
  go_end0
  exact ⟨rfl, rfl⟩
theorem ws1_any {h : Nat} (hh : w.heap[h]? = some (.cells #[F49 T b] (67 : TypeId) (0, 0))) (hg : w.heap[T]? = some (.cells (g.map (Value.int .i64)).toArray (100 : TypeId) (0, 0))) (hl : g.length = 4) (hb : w.heap[b]? = some (.cells #[.int .i64 n] 3 (0, 0))) (hn : n < 4) (h0 : g.getD n 0 = 0) (v : Int) (ok : Bool) :
    Calls Tryz.prog 88 #[.int .i64 v, .bool ok, .pointer (some ⟨h, 0, none⟩)] w fun e w' => e = .returned (.tuple #[]) ∧ w' = w.setCell ⟨T, n, none⟩ (.int .i64 1) := by
  have c0 : w.cell? ⟨h, 0, none⟩ = some (.func (.func 49) #[] #[.pointer (some ⟨T, 0, none⟩), .pointer (some ⟨b, 0, none⟩)]) := cell_of_row _ _ 0 _ _ _ hh
  have CF := hide (f49_any hg hl hb hn h0 ok)
  have he := ent49
  unfold Ent at he
  clear hg hb h0 hh
  go_enter Tryz.func88, Tryz.ntmps88
  go_wp2_with fail
  refine CF.out.mono ?_
  rintro e w1 ⟨rfl, rfl⟩
  go_wp2_with fail
  go_end0
  exact ⟨rfl, rfl⟩
end

/-- One of the four waits: what he is told by. -/
def Gd (w : World) (Q : Nat → Prop) (T : Nat) (K : Nat → Nat) (y : Wv) (n : Nat) : Prop :=
  y.tk = some ⟨K n, 0, none⟩ ∧ ∃ b, w.heap[b]? = some (.cells #[.int .i64 n] 3 (0, 0)) ∧ Q b ∧ (y.told = F50 T b ∨ ∃ h, y.told = WS1 h ∧ w.heap[h]? = some (.cells #[F49 T b] (67 : TypeId) (0, 0)) ∧ Q h)

/-- How often each ticket has fired. -/
def cn (A : Nat → Bool) (K : Nat → Nat) : List Int := (List.range 4).map fun n => if A (K n) then 0 else 1

/-- Four tickets, two channels. -/
structure Kt (w0 w : World) (Q : Nat → Prop) (c : Nat → Zc) (A : Nat → Bool) (m : Nat) (K I : Nat → Nat) (F T : Nat) (s : Nat → Cs) (D : Nat → Nat → Prop) : Prop where
  ch : ∀ j, j < 2 → Ch w A (c j) m (s j) (D j)
  ap : ∀ k, D 0 k → ¬ D 1 k
  sz : ∀ j, j < 2 → (c j).size ≤ 1 ∧ (s j).buf.length ≤ 1
  lo : ∀ j k, j < 2 → D j k → w0.heap.size ≤ k
  tk : ∀ n, n < 4 → Tkt w (K n) (if A (K n) then F48 F (I n) else .nilFunc)
  inj : ∀ a b, a < 4 → b < 4 → K a = K b → a = b
  kl : ∀ n, n < 4 → w0.heap.size ≤ K n
  bx : ∀ n, n < 4 → w.heap[I n]? = some (.cells #[.int .i64 n] 3 (0, 0)) ∧ Q (I n)
  fb : w.heap[F]? = some (.cells ((cn A K).map (Value.int .i64)).toArray (100 : TypeId) (0, 0))
  tb : w.heap[T]? = some (.cells ((cn A K).map (Value.int .i64)).toArray (100 : TypeId) (0, 0))
  nf : F ≠ T ∧ w0.heap.size ≤ F ∧ w0.heap.size ≤ T ∧ ∀ j, j < 2 → ¬ D j F ∧ ¬ D j T
  nq : ∀ k, Q k → k < w.heap.size ∧ (∀ j, j < 2 → ¬ D j k) ∧ k ≠ F ∧ k ≠ T ∧ ∀ n, n < 4 → k ≠ K n
  gd : ∀ j, j < 2 → ∀ y ∈ (s j).snd ++ (s j).rcv, ∃ n, n < 4 ∧ Gd w Q T K y n
  ha : ∀ k, w.heap.size ≤ k → A k = true
  bel : Below w0.heap.size w0 w

section
variable {w0 w w' : World} {Q : Nat → Prop} {c : Nat → Zc} {A : Nat → Bool} {m : Nat} {K I : Nat → Nat} {F T : Nat} {s : Nat → Cs} {D : Nat → Nat → Prop}

theorem Gd.keep {y : Wv} {n : Nat} (h : Gd w Q T K y n) (t : Tb (fun k => ¬ Q k) w w') : Gd w' Q T K y n := by
  obtain ⟨h1, b, h2, h3, h4⟩ := h
  refine ⟨h1, b, (t.block b (heap_lt h2) (fun e => e h3)).trans h2, h3, h4.imp id (fun ⟨q, q1, q2, q3⟩ => ⟨q, q1, (t.block q (heap_lt q2) (fun e => e q3)).trans q2, q3⟩)⟩
theorem cn_fire (hi : ∀ a b, a < 4 → b < 4 → K a = K b → a = b) {n : Nat} (hn : n < 4) : cn (fire A (K n)) K = (cn A K).set n 1 := by
  unfold cn
  apply List.ext_getElem?
  intro k
  rw [List.getElem?_set, List.getElem?_map, List.getElem?_map]
  by_cases hk : k < 4
  · rw [List.getElem?_range hk]
    simp only [Option.map_some]
    by_cases e : n = k
    · subst e
      simp [fire, hk]
    · rw [if_neg e]
      have : K k ≠ K n := fun e' => e (hi n k hn hk e'.symm)
      simp [fire, this]
  · rw [List.getElem?_eq_none (by simp; omega)]
    simp only [Option.map_none]
    rw [if_neg (by omega)]

/-- Who waits, or stood in a line, is served. -/
theorem Kt.serve (h : Kt w0 w Q c A m K I F T s D) {y : Wv} {n : Nat} (hn : n < 4) (hy : Gd w Q T K y n) (v : Int) (ok : Bool) :
    Calls Tryz.prog 82 #[.agg #[.pointer y.tk, .int .i64 y.val, y.told], .int .i64 v, .bool ok] w fun e w' => e = .returned (.tuple #[]) ∧ ∃ A' s', Kt w0 w' Q c A' m K I F T s' D ∧ Tb (fun k => k = K n ∨ k = T ∨ k = F) w w' ∧ Kv w A w' A' ∧ ∀ j, (s' j).cl = (s j).cl := by
  have hlow := h.bel.size
  obtain ⟨hyk, b, hb, hbQ, htold⟩ := hy
  have hK := h.tk n hn
  cases ha : A (K n) with
  | false =>
    rw [ha] at hK
    refine (serve_fired hyk hK).mono ?_
    rintro e w' ⟨rfl, hbl⟩
    have hz := hbl.size
    have ht : Tb (fun k => ¬ Q k) w w' := Tb.of_fresh hbl
    refine ⟨rfl, A, s, ⟨fun j hj => (h.ch j hj).below hbl, h.ap, h.sz, h.lo, fun n hn => (h.tk n hn).below hbl, h.inj, h.kl, fun n hn => ⟨(hbl.block _ (heap_lt (h.bx n hn).1)).trans (h.bx n hn).1, (h.bx n hn).2⟩, (hbl.block _ (heap_lt h.fb)).trans h.fb, (hbl.block _ (heap_lt h.tb)).trans h.tb, h.nf, fun k hk => ⟨by have := (h.nq k hk).1; omega, (h.nq k hk).2⟩, fun j hj y hy => (h.gd j hj y hy).imp (fun n hq => ⟨hq.1, hq.2.keep ht⟩), fun k hk => h.ha k (by omega), h.bel.trans (hbl.mono hlow)⟩, Tb.of_fresh hbl, Kv.below A hbl, fun _ => rfl⟩
  | true =>
    rw [ha] at hK
    have hTK : T ≠ K n := fun e => by
      unfold Tkt at hK
      rw [← e, h.tb] at hK
      simp only [Option.some.injEq, Obj.cells.injEq] at hK
      exact absurd hK.2.1 (by decide)
    have hFK : F ≠ K n := fun e => by
      unfold Tkt at hK
      rw [← e, h.fb] at hK
      simp only [Option.some.injEq, Obj.cells.injEq] at hK
      exact absurd hK.2.1 (by decide)
    have hl4 : (cn A K).length = 4 := by simp [cn]
    have h0 : (cn A K).getD n 0 = 0 := by simp [cn, List.getD, hn, ha]
    -- what he is told by, wherever his ticket alone was turned
    have HT : ∀ V, Tb (fun i => i = K n) w V → ∃ g gc, y.told = .func (.func g) #[] gc ∧ Ent g ∧ Calls Tryz.prog g (#[.int .i64 v, .bool ok] ++ gc) V fun e w2 => e = .returned (.tuple #[]) ∧ w2 = V.setCell ⟨T, n, none⟩ (.int .i64 1) := fun V tK => by
      have hT2 := (tK.block T (heap_lt h.tb) hTK).trans h.tb
      have hb2 := (tK.block b (heap_lt hb) (fun e => (h.nq b hbQ).2.2.2.2 n hn e)).trans hb
      rcases htold with e | ⟨q, e, hq, hqQ⟩
      · exact ⟨_, _, e, ent50, f50_any hT2 hl4 hb2 hn h0 v ok⟩
      · exact ⟨_, _, e, entW, ws1_any ((tK.block q (heap_lt hq) (fun e => (h.nq q hqQ).2.2.2.2 n hn e)).trans hq) hT2 hl4 hb2 hn h0 v ok⟩
    obtain ⟨g, gc, eg, hen, _⟩ := HT w (Tb.refl _ _)
    refine serve_live (x := y) hyk hK eg ent48 hen (fun V tK hKn => ?_)
    obtain ⟨g', gc', eg', _, CT⟩ := HT V tK
    rw [eg] at eg'
    simp only [Value.func.injEq, Fn.func.injEq] at eg'
    obtain ⟨rfl, _, rfl⟩ := eg'
    refine CT.mono ?_
    rintro e w2 ⟨rfl, hw2⟩
    refine ⟨rfl, ?_⟩
    have hT2 := (tK.block T (heap_lt h.tb) hTK).trans h.tb
    have tT : Tb (fun i => i = T) V w2 := by rw [hw2]; exact Tb.set T n _ rfl
    have hF2 := (tT.block F (by have := heap_lt h.fb; have := tK.size; omega) h.nf.1).trans ((tK.block F (heap_lt h.fb) hFK).trans h.fb)
    have hI2 := (tT.block (I n) (by have := heap_lt (h.bx n hn).1; have := tK.size; omega) (h.nq _ (h.bx n hn).2).2.2.2.1).trans ((tK.block (I n) (heap_lt (h.bx n hn).1) (fun e => (h.nq _ (h.bx n hn).2).2.2.2.2 n hn e)).trans (h.bx n hn).1)
    refine (f48_any hF2 hl4 hI2 hn h0).mono ?_
    rintro e w3 ⟨rfl, hw3⟩
    have tF : Tb (fun i => i = F) w2 w3 := by rw [hw3]; exact Tb.set F n _ rfl
    have t3 : Tb (fun k => k = K n ∨ k = T ∨ k = F) w w3 := ((show Tb (fun k => k = K n ∨ k = T ∨ k = F) w V from tK.mono (fun _ _ e => .inl e)).trans tT (fun k _ e => .inr (.inl e))).trans tF (fun k _ e => .inr (.inr e))
    have hz3 := t3.size
    have hKn3 : Tkt w3 (K n) .nilFunc := (hKn.tb tT (fun e => hTK e.symm)).tb tF (fun e => hFK e.symm)
    have notT : ∀ i f, Tkt w i f → (i = K n ∨ i = T ∨ i = F) → i = K n := fun i f hi e => by
      rcases e with e | e | e
      · exact e
      · exfalso
        unfold Tkt at hi
        rw [e, h.tb] at hi
        simp only [Option.some.injEq, Obj.cells.injEq] at hi
        exact absurd hi.2.1 (by decide)
      · exfalso
        unfold Tkt at hi
        rw [e, h.fb] at hi
        simp only [Option.some.injEq, Obj.cells.injEq] at hi
        exact absurd hi.2.1 (by decide)
    have hkv : Kv w A w3 (fire A (K n)) := Kv.fires t3 notT hKn3
    have hnD : ∀ j, j < 2 → ∀ k, D j k → ¬ (k = K n ∨ k = T ∨ k = F) := fun j hj k hk e => by
      rcases e with e | e | e
      · exact (h.ch j hj).notk hK (e ▸ hk)
      · exact (h.nf.2.2.2 j hj).2 (e ▸ hk)
      · exact (h.nf.2.2.2 j hj).1 (e ▸ hk)
    have hqk : ∀ k, Q k → ¬ (k = K n ∨ k = T ∨ k = F) := fun k hk e => by
      obtain ⟨_, _, q3, q4, q5⟩ := h.nq k hk
      rcases e with e | e | e
      · exact q5 n hn e
      · exact q4 e
      · exact q3 e
    have tQ : Tb (fun k => ¬ Q k) w w3 := t3.mono (fun k _ e hq => hqk k hq e)
    have hT3 : w3.heap[T]? = some (.cells ((cn (fire A (K n)) K).map (Value.int .i64)).toArray (100 : TypeId) (0, 0)) := by
      rw [tF.block T (by have := heap_lt hT2; have := tT.size; omega) (fun e => h.nf.1 e.symm), hw2, heap_setCell_same V T n _ _ _ hT2, cn_fire h.inj hn]
      simp
    have hF3 : w3.heap[F]? = some (.cells ((cn (fire A (K n)) K).map (Value.int .i64)).toArray (100 : TypeId) (0, 0)) := by
      rw [hw3, heap_setCell_same w2 F n _ _ _ hF2, cn_fire h.inj hn]
      simp
    refine ⟨rfl, fire A (K n), fun j => { s j with snd := (s j).snd.filter (QW.al (fire A (K n))), rcv := (s j).rcv.filter (QW.al (fire A (K n))) }, ⟨fun j hj => (h.ch j hj).keep t3 (hnD j hj) hkv, h.ap, h.sz, h.lo, fun q hq => ?_, h.inj, h.kl, fun q hq => ⟨(t3.block _ (heap_lt (h.bx q hq).1) (hqk _ (h.bx q hq).2)).trans (h.bx q hq).1, (h.bx q hq).2⟩, hF3, hT3, h.nf, fun k hk => ⟨by have := (h.nq k hk).1; omega, (h.nq k hk).2⟩, fun j hj y hy => ?_, fun k hk => ?_, h.bel.trans (t3.below (fun k hk => ?_) hlow)⟩, t3, hkv, fun _ => rfl⟩
    · by_cases e : K q = K n
      · rw [e]
        simp only [fire, if_true, Bool.false_eq_true, if_false]
        exact hKn3
      · have := (h.tk q hq).tb t3 (fun e' => e (notT _ _ (h.tk q hq) e'))
        simpa [fire, e] using this
    · refine (h.gd j hj y ?_).imp (fun n hq => ⟨hq.1, hq.2.keep tQ⟩)
      rcases List.mem_append.1 hy with hy | hy
      · exact List.mem_append_left _ (List.mem_filter.1 hy).1
      · exact List.mem_append_right _ (List.mem_filter.1 hy).1
    · have : k ≠ K n := fun e => by have := hK.lt; omega
      simp [fire, this]
      exact h.ha k (by omega)
    · rcases hk with rfl | rfl | rfl
      · exact h.kl n hn
      · exact h.nf.2.2.1
      · exact h.nf.2.1
end

end Go.Proofs.YtohndpmjdgfbeaaGreat.CH

/-
  Tickets at two channels: what is tried, closed, forgotten.
-/
namespace Go.Proofs.YtohndpmjdgfbeaaGreat.CH
open Go.RowKit QW
set_option maxRecDepth 100000
set_option linter.unusedSimpArgs false
set_option linter.unusedVariables false

def upa {α : Type} (f : Nat → α) (i : Nat) (x : α) : Nat → α := fun j => if j = i then x else f j
theorem upa_same {α : Type} (f : Nat → α) (i : Nat) (x : α) : upa f i x i = x := by simp [upa]
theorem upa_ne {α : Type} (f : Nat → α) {i j : Nat} (x : α) (h : j ≠ i) : upa f i x j = f j := by simp [upa, h]

section
variable {w0 w w' : World} {Q : Nat → Prop} {c : Nat → Zc} {A : Nat → Bool} {m m' : Nat} {K I : Nat → Nat} {F T : Nat} {s : Nat → Cs} {D : Nat → Nat → Prop}

theorem Kt.low (h : Kt w0 w Q c A m K I F T s D) : w0.heap.size ≤ w.heap.size := h.bel.size
/-- One channel was turned. -/
theorem Kt.turn (h : Kt w0 w Q c A m K I F T s D) {j : Nat} (hj : j < 2) {s1 : Cs} {D1 : Nat → Prop} (hc : Ch w' A (c j) m' s1 D1) (x : Lx w (D j) w' D1) (hm : m ≤ m') (hb : s1.buf.length ≤ 1) (hg : ∀ y ∈ s1.snd ++ s1.rcv, ∃ n, n < 4 ∧ Gd w' Q T K y n) : Kt w0 w' Q c A m' K I F T (upa s j s1) (upa D j D1) ∧ Tb (fun k => ¬ Q k) w w' := by
  have t := x.tb
  have hz := t.size
  have hlow := h.low
  have hQD : ∀ k, Q k → ¬ D j k := fun k hk => (h.nq k hk).2.1 j hj
  have tQ : Tb (fun k => ¬ Q k) w w' := t.mono (fun k _ hk hq => hQD k hq hk)
  have hlt : ∀ k, k < w.heap.size → ¬ D j k → ¬ D1 k := fun k hk hn e => (x.dom k e).elim hn (fun h' => by omega)
  have hoth : ∀ i, i < 2 → i ≠ j → ∀ k, D i k → ¬ D j k := fun i hi hij k h1 h2 => by
    rcases (by omega : (i = 0 ∧ j = 1) ∨ (i = 1 ∧ j = 0)) with ⟨rfl, rfl⟩ | ⟨rfl, rfl⟩
    · exact h.ap k h1 h2
    · exact h.ap k h2 h1
  have hkv : Kv w A w' A := Kv.tb A t (fun k f ht hk => (h.ch j hj).notk ht hk)
  refine ⟨⟨fun i hi => ?_, fun k h1 h2 => ?_, fun i hi => ?_, fun i k hi hk => ?_, fun n hn => (h.tk n hn).tb t ((h.ch j hj).notk (h.tk n hn)), h.inj, h.kl, fun n hn => ⟨(t.block _ (heap_lt (h.bx n hn).1) (hQD _ (h.bx n hn).2)).trans (h.bx n hn).1, (h.bx n hn).2⟩, (t.block _ (heap_lt h.fb) (h.nf.2.2.2 j hj).1).trans h.fb, (t.block _ (heap_lt h.tb) (h.nf.2.2.2 j hj).2).trans h.tb, ⟨h.nf.1, h.nf.2.1, h.nf.2.2.1, fun i hi => ?_⟩, fun k hk => ?_, fun i hi y hy => ?_, fun k hk => h.ha k (by omega), h.bel.trans (t.below (fun k hk => h.lo j k hj hk) hlow)⟩, tQ⟩
  · by_cases e : i = j
    · subst e; rw [upa_same, upa_same]; exact hc
    · rw [upa_ne _ _ e, upa_ne _ _ e]
      obtain ⟨BG, DS, DR, cm, hd⟩ := (h.ch i hi).same t (hoth i hi e) hkv
      exact ⟨BG, DS, DR, ⟨cm.obj, cm.bq, cm.sl.mono hm, cm.rl.mono hm, cm.ap, cm.sz, cm.bf⟩, hd⟩
  · rcases (by omega : j = 0 ∨ j = 1) with rfl | rfl
    · rw [upa_same] at h1
      rw [upa_ne _ _ (by omega)] at h2
      exact (x.dom k h1).elim (fun e => h.ap k e h2) (fun e => by have := (h.ch 1 (by omega)).lt h2; omega)
    · rw [upa_ne _ _ (by omega)] at h1
      rw [upa_same] at h2
      exact (x.dom k h2).elim (fun e => h.ap k h1 e) (fun e => by have := (h.ch 0 (by omega)).lt h1; omega)
  · by_cases e : i = j
    · subst e; rw [upa_same]; exact ⟨(h.sz i hi).1, hb⟩
    · rw [upa_ne _ _ e]; exact h.sz i hi
  · by_cases e : i = j
    · subst e; rw [upa_same] at hk; exact (x.dom k hk).elim (h.lo i k hi) (fun e => by omega)
    · rw [upa_ne _ _ e] at hk; exact h.lo i k hi hk
  · by_cases e : i = j
    · subst e; rw [upa_same]; exact ⟨hlt _ (heap_lt h.fb) (h.nf.2.2.2 i hi).1, hlt _ (heap_lt h.tb) (h.nf.2.2.2 i hi).2⟩
    · rw [upa_ne _ _ e]; exact h.nf.2.2.2 i hi
  · obtain ⟨q1, q2, q3⟩ := h.nq k hk
    refine ⟨by omega, fun i hi => ?_, q3⟩
    by_cases e : i = j
    · subst e; rw [upa_same]; exact hlt k q1 (q2 i hi)
    · rw [upa_ne _ _ e]; exact q2 i hi
  · by_cases e : i = j
    · subst e; rw [upa_same] at hy; exact hg y hy
    · rw [upa_ne _ _ e] at hy
      exact (h.gd i hi y hy).imp (fun n hq => ⟨hq.1, hq.2.keep tQ⟩)

/-- The state, whatever the tickets and lines. -/
def Ke (w0 : World) (Q : Nat → Prop) (c : Nat → Zc) (m : Nat) (K I : Nat → Nat) (F T : Nat) (w : World) : Prop := ∃ A s D, Kt w0 w Q c A m K I F T s D

/-- Other memory was turned. -/
theorem Kt.away (h : Kt w0 w Q c A m K I F T s D) {S : Nat → Prop} (t : Tb S w w') (hS : ∀ k, S k → (∀ j, j < 2 → ¬ D j k) ∧ k ≠ F ∧ k ≠ T ∧ (∀ n, n < 4 → k ≠ K n) ∧ ¬ Q k ∧ w0.heap.size ≤ k ∧ ∀ f, ¬ Tkt w k f) : Kt w0 w' Q c A m K I F T s D := by
  have hkv : Kv w A w' A := Kv.tb A t (fun k f ht e => (hS k e).2.2.2.2.2.2 f ht)
  have hz := t.size
  have tQ : Tb (fun k => ¬ Q k) w w' := t.mono (fun k _ hk => (hS k hk).2.2.2.2.1)
  exact ⟨fun i hi => (h.ch i hi).same t (fun k hk e => (hS k e).1 i hi hk) hkv, h.ap, h.sz, h.lo, fun n hn => (h.tk n hn).tb t (fun e => (hS _ e).2.2.2.1 n hn rfl), h.inj, h.kl, fun n hn => ⟨(t.block _ (heap_lt (h.bx n hn).1) (fun e => (hS _ e).2.2.2.2.1 (h.bx n hn).2)).trans (h.bx n hn).1, (h.bx n hn).2⟩, (t.block _ (heap_lt h.fb) (fun e => (hS _ e).2.1 rfl)).trans h.fb, (t.block _ (heap_lt h.tb) (fun e => (hS _ e).2.2.1 rfl)).trans h.tb, h.nf, fun k hk => ⟨by have := (h.nq k hk).1; omega, (h.nq k hk).2⟩, fun j hj y hy => (h.gd j hj y hy).imp (fun n hq => ⟨hq.1, hq.2.keep tQ⟩), fun k hk => h.ha k (by omega), h.bel.trans (t.below (fun k hk => (hS k hk).2.2.2.2.2.1) h.low)⟩
theorem Ke.below (h : Ke w0 Q c m K I F T w) (hb : Below w.heap.size w w') : Ke w0 Q c m K I F T w' := by
  obtain ⟨A, s, D, h⟩ := h
  exact ⟨A, s, D, h.away (S := fun _ => False) (Tb.of_fresh hb) (fun _ e => e.elim)⟩
/-- Blocks more that are not turned. -/
theorem Ke.more (h : Ke w0 Q c m K I F T w) {N : Nat → Prop} (hb : Below w.heap.size w w') (hN : ∀ k, N k → w.heap.size ≤ k ∧ k < w'.heap.size) : Ke w0 (fun k => Q k ∨ N k) c m K I F T w' := by
  obtain ⟨A, s, D, h⟩ := h
  have h' := h.away (w' := w') (S := fun _ => False) (Tb.of_fresh hb) (fun _ e => e.elim)
  refine ⟨A, s, D, ⟨h'.ch, h'.ap, h'.sz, h'.lo, h'.tk, h'.inj, h'.kl, fun n hn => ⟨(h'.bx n hn).1, .inl (h'.bx n hn).2⟩, h'.fb, h'.tb, h'.nf, fun k hk => ?_, fun j hj y hy => ?_, h'.ha, h'.bel⟩⟩
  · rcases hk with hk | hk
    · exact h'.nq k hk
    · obtain ⟨n1, n2⟩ := hN k hk
      exact ⟨n2, fun j hj e => by have := (h.ch j hj).lt e; omega, fun e => by have := heap_lt h.fb; omega, fun e => by have := heap_lt h.tb; omega, fun n hn e => by have := (h.tk n hn).lt; omega⟩
  · obtain ⟨n, hn, q1, b, q2, q3, q4⟩ := h'.gd j hj y hy
    exact ⟨n, hn, q1, b, q2, .inl q3, q4.imp id (fun ⟨q, a1, a2, a3⟩ => ⟨q, a1, a2, .inl a3⟩)⟩

/-- What every call leaves. -/
def Kx (w0 : World) (Q : Nat → Prop) (c : Nat → Zc) (m : Nat) (K I : Nat → Nat) (F T : Nat) (w w' : World) : Prop := Ke w0 Q c m K I F T w' ∧ Tb (fun k => ¬ Q k) w w'

theorem sub_gd (h : Kt w0 w Q c A m K I F T s D) {j : Nat} (hj : j < 2) (tQ : Tb (fun k => ¬ Q k) w w') {ys : List Wv} (hs : ∀ y ∈ ys, y ∈ (s j).snd ++ (s j).rcv) : ∀ y ∈ ys, ∃ n, n < 4 ∧ Gd w' Q T K y n :=
  fun y hy => (h.gd j hj y (hs y hy)).imp (fun n hq => ⟨hq.1, hq.2.keep tQ⟩)
theorem Lx.tq (h : Kt w0 w Q c A m K I F T s D) {j : Nat} (hj : j < 2) {D1 : Nat → Prop} (x : Lx w (D j) w' D1) : Tb (fun k => ¬ Q k) w w' := x.tb.mono (fun k _ hk hq => (h.nq k hq).2.1 j hj hk)

/-- A send is tried. -/
theorem Kt.trySend (h : Kt w0 w Q c A m K I F T s D) {j : Nat} (hj : j < 2) (v : Int) :
    Calls Tryz.prog 29 #[.pointer (some ⟨(c j).C, 0, none⟩), .int .i64 v] w fun e w' => (∃ a b : Bool, e = .returned (.tuple #[.bool a, .bool b])) ∧ Kx w0 Q c m K I F T w w' := by
  have hC := h.ch j hj
  have CS := canSend_any hC (kp := none) (.inl rfl)
  have key : ∀ (ok : Bool), (canS (c j) (s j) none = true → ∀ V, (∃ D', Ch V A (c j) m (s j) D' ∧ Lx w (D j) V D') → Calls Tryz.prog 71 #[.pointer (some ⟨(c j).C, 0, none⟩), .int .i64 v] V fun e w' => e = .returned (.bool ok) ∧ Kx w0 Q c m K I F T w w') → Calls Tryz.prog 29 #[.pointer (some ⟨(c j).C, 0, none⟩), .int .i64 v] w fun e w' => (∃ a b : Bool, e = .returned (.tuple #[.bool a, .bool b])) ∧ Kx w0 Q c m K I F T w w' := fun ok hn => by
    refine (trySend_gen (v := v) (canS (c j) (s j) none) ok (fun V => ∃ D', Ch V A (c j) m (s j) D' ∧ Lx w (D j) V D') (fun w' => Kx w0 Q c m K I F T w w') (cmade_yes hC) CS hn (fun _ V hV => ?_)).mono ?_
    · obtain ⟨D', hc, x⟩ := hV
      obtain ⟨h1, h2⟩ := h.turn hj hc x (Nat.le_refl _) (h.sz j hj).2 (sub_gd h hj (Lx.tq h hj x) (fun _ hy => hy))
      exact ⟨⟨_, _, _, h1⟩, h2⟩
    · rintro e w' ⟨rfl, hq⟩
      exact ⟨⟨_, _, rfl⟩, hq⟩
  by_cases hcl : (s j).cl = true
  · refine key false (fun _ V hV => ?_)
    obtain ⟨D', hc, x⟩ := hV
    refine (sendNow_closed hc hcl).mono ?_
    rintro e w' ⟨rfl, rfl⟩
    obtain ⟨h1, h2⟩ := h.turn hj hc x (Nat.le_refl _) (h.sz j hj).2 (sub_gd h hj (Lx.tq h hj x) (fun _ hy => hy))
    exact ⟨rfl, ⟨_, _, _, h1⟩, h2⟩
  · have hcl' : (s j).cl = false := by simpa using hcl
    refine key true (fun hcan V hV => ?_)
    obtain ⟨D', hc, x⟩ := hV
    cases hr : (s j).rcv with
    | nil =>
      have hbl : (s j).buf.length < (c j).size := by
        unfold canS at hcan
        simpa [hcl', hr, oth] using hcan
      have hs1 := (h.sz j hj).1
      refine (sendNow_buf hc hcl' hr (by omega)).mono ?_
      rintro e w' ⟨rfl, D2, hc2, x2⟩
      have xx := x.trans x2
      obtain ⟨h1, h2⟩ := h.turn hj hc2 xx (Nat.le_refl _) (show ((s j).buf ++ [v]).length ≤ 1 by rw [List.length_append, List.length_singleton]; omega) (sub_gd h hj (Lx.tq h hj xx) (fun _ hy => hy))
      exact ⟨rfl, ⟨_, _, _, h1⟩, h2⟩
    | cons y r =>
      refine sendNow_serve hc hcl' hr (fun V2 D2 hc2 x2 => ?_)
      have xx := x.trans x2
      obtain ⟨h1, h2⟩ := h.turn hj hc2 xx (Nat.le_refl _) (h.sz j hj).2 (sub_gd h hj (Lx.tq h hj xx) (fun z hz => by
        rcases List.mem_append.1 hz with hz | hz
        · exact List.mem_append_left _ hz
        · exact List.mem_append_right _ (by rw [hr]; exact List.mem_cons_of_mem _ hz)))
      obtain ⟨n, hn, hg⟩ := h.gd j hj y (List.mem_append_right _ (by rw [hr]; simp))
      refine (h1.serve hn (hg.keep h2) v true).mono ?_
      rintro e w' ⟨rfl, A', s', h3, t3, _, _⟩
      refine ⟨rfl, ⟨_, _, _, h3⟩, h2.trans t3 (fun k _ e hq => ?_)⟩
      obtain ⟨_, _, q3, q4, q5⟩ := h.nq k hq
      rcases e with e | e | e
      · exact q5 n hn e
      · exact q4 e
      · exact q3 e

theorem tryRecv_gen {C : Nat} (b : Bool) (I Ψ : World → Prop) (CM : Calls Tryz.prog 79 #[.pointer (some ⟨C, 0, none⟩)] w fun e w' => e = .returned (.bool true) ∧ w' = w)
    (CS : Calls Tryz.prog 76 #[.pointer (some ⟨C, 0, none⟩), .pointer none] w fun e V => e = .returned (.bool b) ∧ I V)
    (CN : b = true → ∀ V, I V → Calls Tryz.prog 77 #[.pointer (some ⟨C, 0, none⟩)] V fun e w' => (∃ (x : Int) (ok : Bool), e = .returned (.tuple #[.int .i64 x, .bool ok])) ∧ Ψ w') (CF : b = false → ∀ V, I V → Ψ V) :
    Calls Tryz.prog 30 #[.pointer (some ⟨C, 0, none⟩)] w fun e w' => Hid (∃ (x : Int) (p q : Bool), e = .returned (.tuple #[.int .i64 x, .bool p, .bool q])) ∧ Ψ w' := by
  have HN := hide CN
  have HF := hide CF
  clear CN CF
  cases b with
  | true =>
    go_enter Tryz.func30, Tryz.ntmps30
    go_wp2_with fail
    refine CM.mono ?_
    rintro e w1 ⟨rfl, hw1⟩
    subst w1
    go_wp2_with fail
    refine CS.mono ?_
    rintro e V ⟨rfl, hI⟩
    have CN' := HN.out (by first | rfl | trivial) V hI
    clear HN HF CS CM hI
    go_wp2_with fail
    refine CN'.mono ?_
    rintro e w2 ⟨⟨x, ok, rfl⟩, FIN⟩
    have FIN' := hide FIN
    clear FIN
    go_wp2_with fail
    go_ret3
    exact ⟨hide ⟨_, _, _, rfl⟩, FIN'.out⟩
  | false =>
    go_enter Tryz.func30, Tryz.ntmps30
    go_wp2_with fail
    refine CM.mono ?_
    rintro e w1 ⟨rfl, hw1⟩
    subst w1
    go_wp2_with fail
    refine CS.mono ?_
    rintro e V ⟨rfl, hI⟩
    have FIN' := hide (HF.out (by first | rfl | trivial) V hI)
    clear HN HF CS CM hI
    go_wp2_with fail
    go_ret3
    exact ⟨hide ⟨_, _, _, rfl⟩, FIN'.out⟩
end

end Go.Proofs.YtohndpmjdgfbeaaGreat.CH

/-
  Tickets at two channels: every call.
-/
namespace Go.Proofs.YtohndpmjdgfbeaaGreat.CH
open Go.RowKit QW
set_option maxRecDepth 100000
set_option linter.unusedSimpArgs false
set_option linter.unusedVariables false

section
variable {w0 w w' : World} {Q : Nat → Prop} {c : Nat → Zc} {A : Nat → Bool} {m m' : Nat} {K I : Nat → Nat} {F T : Nat} {s : Nat → Cs} {D : Nat → Nat → Prop}

theorem Kt.nqt (h : Kt w0 w Q c A m K I F T s D) {n : Nat} (hn : n < 4) {k : Nat} (hq : Q k) (e : k = K n ∨ k = T ∨ k = F) : False := by
  obtain ⟨_, _, q3, q4, q5⟩ := h.nq k hq
  rcases e with e | e | e
  · exact q5 n hn e
  · exact q4 e
  · exact q3 e

/-- A receive is tried. -/
theorem Kt.tryRecv (h : Kt w0 w Q c A m K I F T s D) {j : Nat} (hj : j < 2) :
    Calls Tryz.prog 30 #[.pointer (some ⟨(c j).C, 0, none⟩)] w fun e w' => Hid (∃ (x : Int) (p q : Bool), e = .returned (.tuple #[.int .i64 x, .bool p, .bool q])) ∧ Kx w0 Q c m K I F T w w' := by
  have hC := h.ch j hj
  refine tryRecv_gen (canR (s j) none) (fun V => ∃ D', Ch V A (c j) m (s j) D' ∧ Lx w (D j) V D') (fun w' => Kx w0 Q c m K I F T w w') (cmade_yes hC) (canRecv_any hC (kp := none) (.inl rfl)) (fun hcan V hV => ?_) (fun _ V hV => ?_)
  · obtain ⟨D', hc, x⟩ := hV
    have hsz := h.sz j hj
    cases hs : (s j).snd with
    | nil =>
      refine (recvNow_buf hc hs).mono ?_
      rintro e w' ⟨rfl, D2, hc2, x2⟩
      have xx := x.trans x2
      obtain ⟨h1, h2⟩ := h.turn hj hc2 xx (Nat.le_refl _) (show (s j).buf.tail.length ≤ 1 by rw [List.length_tail]; omega) (sub_gd h hj (Lx.tq h hj xx) (fun _ hy => hy))
      exact ⟨⟨_, _, rfl⟩, ⟨_, _, _, h1⟩, h2⟩
    | cons y r =>
      refine (recvNow_serve hc hs (by omega) (Ψ := fun w' => Kx w0 Q c m K I F T w w') (fun V2 D2 hc2 x2 => ?_)).mono ?_
      · have xx := x.trans x2
        obtain ⟨h1, h2⟩ := h.turn hj hc2 xx (Nat.le_refl _) (show (((s j).buf ++ [y.val]).tail).length ≤ 1 by rw [List.length_tail, List.length_append, List.length_singleton]; omega) (sub_gd h hj (Lx.tq h hj xx) (fun z hz => by
          rcases List.mem_append.1 hz with hz | hz
          · exact List.mem_append_left _ (by rw [hs]; exact List.mem_cons_of_mem _ hz)
          · exact List.mem_append_right _ hz))
        obtain ⟨n, hn, hg⟩ := h.gd j hj y (List.mem_append_left _ (by rw [hs]; simp))
        refine (h1.serve hn (hg.keep h2) y.val true).mono ?_
        rintro e w' ⟨rfl, A', s', h3, t3, _, _⟩
        exact ⟨rfl, ⟨_, _, _, h3⟩, h2.trans t3 (fun k _ e hq => h.nqt hn hq e)⟩
      · rintro e w' ⟨rfl, hq⟩
        exact ⟨⟨_, _, rfl⟩, hq⟩
  · obtain ⟨D', hc, x⟩ := hV
    obtain ⟨h1, h2⟩ := h.turn hj hc x (Nat.le_refl _) (h.sz j hj).2 (sub_gd h hj (Lx.tq h hj x) (fun _ hy => hy))
    exact ⟨⟨_, _, _, h1⟩, h2⟩

/-- In the midst of a close. -/
def Kc (w0 : World) (Q : Nat → Prop) (c : Nat → Zc) (m : Nat) (K I : Nat → Nat) (F T : Nat) (w : World) (g : Option Nat) (xs : List Wv) (V : World) : Prop :=
  ∃ A s D, Kt w0 V Q c A m K I F T s D ∧ Tb (fun k => ¬ Q k) w V ∧ (∀ x ∈ xs, (∃ n, n < 4 ∧ Gd V Q T K x n) ∨ ∃ k, x.tk = some ⟨k, 0, none⟩ ∧ Tkt V k .nilFunc) ∧ ∀ k, g = some k → k < V.heap.size ∧ k ≠ F ∧ k ≠ T ∧ ∀ n, n < 4 → k ≠ K n

theorem Kt.close (h : Kt w0 w Q c A m K I F T s D) {j : Nat} (hj : j < 2) :
    Calls Tryz.prog 33 #[.pointer (some ⟨(c j).C, 0, none⟩)] w fun e w' => (∃ x : Int, e = .returned (.int .i64 x)) ∧ Kx w0 Q c m K I F T w w' := by
  have hC := h.ch j hj
  cases hcl : (s j).cl with
  | true =>
    refine (close_closed hC hcl).mono ?_
    rintro e w' ⟨rfl, rfl⟩
    exact ⟨⟨_, rfl⟩, ⟨_, _, _, h⟩, Tb.refl _ _⟩
  | false =>
    refine (close_open hC hcl (Kc w0 Q c m K I F T w) (fun V D' g xs ys hc x e1 e2 htk hg => ?_) (fun g x r V hV => ?_) (fun g xs V V' hV hb => ?_)).mono ?_
    · obtain ⟨h1, h2⟩ := h.turn hj hc x (Nat.le_refl _) (h.sz j hj).2 (fun y hy => by simp at hy)
      refine ⟨A, _, _, h1, h2, fun y hy => ?_, fun k hk => ?_⟩
      · cases hal : QW.al A y with
        | true =>
          refine .inl ?_
          have hin : y ∈ (s j).snd ++ (s j).rcv := by
            rcases List.mem_append.1 hy with hy | hy
            · exact List.mem_append_right _ (by rw [← e1]; exact List.mem_filter.2 ⟨hy, hal⟩)
            · exact List.mem_append_left _ (by rw [← e2]; exact List.mem_filter.2 ⟨hy, hal⟩)
          exact (h.gd j hj y hin).imp (fun n hq => ⟨hq.1, hq.2.keep h2⟩)
        | false =>
          obtain ⟨k, f, hk, hkt, hf⟩ := htk y hy
          refine .inr ⟨k, hk, ?_⟩
          rcases hf with ⟨ha, _⟩ | ⟨_, rfl⟩
          · unfold QW.al at hal
            rw [hk] at hal
            simp only at hal
            rw [ha] at hal
            cases hal
          · exact hkt
      · obtain ⟨q1, q2, _⟩ := hg k hk
        exact ⟨q2, fun e => by have := heap_lt h.fb; omega, fun e => by have := heap_lt h.tb; omega, fun n hn e => by have := (h.tk n hn).lt; omega⟩
    · obtain ⟨A1, s1, D1, h1, t1, hx, hg⟩ := hV
      rcases hx x (by simp) with ⟨n, hn, hgd⟩ | ⟨k, hk, hkt⟩
      · refine (h1.serve hn hgd 0 false).mono ?_
        rintro e V' ⟨rfl, A2, s2, h2, t2, kv, _⟩
        have tQ : Tb (fun k => ¬ Q k) V V' := t2.mono (fun k _ e hq => h1.nqt hn hq e)
        have hz := t2.size
        refine ⟨rfl, ⟨A2, s2, D1, h2, t1.trans tQ (fun _ _ e => e), fun y hy => ?_, fun k hk => ⟨by have := (hg k hk).1; omega, (hg k hk).2⟩⟩, fun k hk => t2.block k (hg k hk).1 (fun e => ?_)⟩
        · rcases hx y (List.mem_cons_of_mem _ hy) with ⟨n', hn', hq⟩ | ⟨k, hk, hkt⟩
          · exact .inl ⟨n', hn', hq.keep tQ⟩
          · refine .inr ⟨k, hk, ?_⟩
            by_cases e : k = K n
            · subst e
              have h3 := h2.tk n hn
              have h4 := hkt.one (h1.tk n hn)
              cases ha : A1 (K n) with
              | true => rw [ha] at h4; cases h4
              | false =>
                cases ha2 : A2 (K n) with
                | false => rw [ha2] at h3; exact h3
                | true =>
                  have := (kv y ⟨K n, .nilFunc, hk, hkt, .inr ⟨ha, rfl⟩⟩).2 (by unfold QW.al; rw [hk]; exact ha2)
                  unfold QW.al at this
                  rw [hk] at this
                  simp only at this
                  rw [ha] at this
                  cases this
            · refine hkt.tb t2 (fun e' => ?_)
              rcases e' with e' | e' | e'
              · exact e e'
              · unfold Tkt at hkt
                rw [e', h1.tb] at hkt
                simp only [Option.some.injEq, Obj.cells.injEq] at hkt
                exact absurd hkt.2.1 (by decide)
              · unfold Tkt at hkt
                rw [e', h1.fb] at hkt
                simp only [Option.some.injEq, Obj.cells.injEq] at hkt
                exact absurd hkt.2.1 (by decide)
        · obtain ⟨_, q2, q3, q4⟩ := hg k hk
          rcases e with e | e | e
          · exact q4 n hn e
          · exact q3 e
          · exact q2 e
      · refine (serve_fired hk hkt).mono ?_
        rintro e V' ⟨rfl, hb⟩
        have tQ : Tb (fun k => ¬ Q k) V V' := Tb.of_fresh hb
        have hz := hb.size
        refine ⟨rfl, ⟨A1, s1, D1, h1.away (S := fun _ => False) (Tb.of_fresh hb) (fun _ e => e.elim), t1.trans tQ (fun _ _ e => e), fun y hy => ?_, fun k hk => ⟨by have := (hg k hk).1; omega, (hg k hk).2⟩⟩, fun k hk => hb.block k (hg k hk).1⟩
        exact (hx y (List.mem_cons_of_mem _ hy)).imp (fun ⟨n, hn, hq⟩ => ⟨n, hn, hq.keep tQ⟩) (fun ⟨k, hk, hkt⟩ => ⟨k, hk, hkt.below hb⟩)
    · obtain ⟨A1, s1, D1, h1, t1, hx, hg⟩ := hV
      have tQ : Tb (fun k => ¬ Q k) V V' := Tb.of_fresh hb
      have hz := hb.size
      exact ⟨A1, s1, D1, h1.away (S := fun _ => False) (Tb.of_fresh hb) (fun _ e => e.elim), t1.trans tQ (fun _ _ e => e), fun y hy => (hx y hy).imp (fun ⟨n, hn, hq⟩ => ⟨n, hn, hq.keep tQ⟩) (fun ⟨k, hk, hkt⟩ => ⟨k, hk, hkt.below hb⟩), fun k hk => ⟨by have := (hg k hk).1; omega, (hg k hk).2⟩⟩
    · rintro e w' ⟨rfl, g, A1, s1, D1, h1, t1, _⟩
      exact ⟨⟨_, rfl⟩, ⟨_, _, _, h1⟩, t1⟩

/-- Who waits with a ticket is forgotten. -/
theorem Kt.forget (h : Kt w0 w Q c A m K I F T s D) (hm : m ≤ 1000000) {j n : Nat} (hj : j < 2) (hn : n < 4) :
    Calls Tryz.prog 37 #[.pointer (some ⟨(c j).C, 0, none⟩), .pointer (some ⟨K n, 0, none⟩)] w fun e w' => (∃ x : Int, e = .returned (.int .i64 x)) ∧ Kx w0 Q c m K I F T w w' := by
  refine (forget_ch (h.ch j hj) hm (h.tk n hn) (by cases ha : A (K n) <;> simp [F48])).mono ?_
  rintro e w' ⟨rfl, D', hc, x⟩
  obtain ⟨h1, h2⟩ := h.turn hj hc x (Nat.le_refl _) (h.sz j hj).2 (sub_gd h hj (Lx.tq h hj x) (fun y hy => by
    rcases List.mem_append.1 hy with hy | hy
    · exact List.mem_append_left _ (List.mem_filter.1 hy).1
    · exact List.mem_append_right _ (List.mem_filter.1 hy).1))
  exact ⟨⟨_, rfl⟩, ⟨_, _, _, h1⟩, h2⟩
theorem Kt.waits (h : Kt w0 w Q c A m K I F T s D) {j : Nat} (hj : j < 2) :
    Calls Tryz.prog 46 #[.pointer (some ⟨(c j).C, 0, none⟩)] w fun e w' => (∃ a b : Nat, e = .returned (.tuple #[.int .i64 a, .int .i64 b])) ∧ Kx w0 Q c m K I F T w w' := by
  refine (waits_any (h.ch j hj)).mono ?_
  rintro e w' ⟨rfl, D', hc, x⟩
  obtain ⟨h1, h2⟩ := h.turn hj hc x (Nat.le_refl _) (h.sz j hj).2 (sub_gd h hj (Lx.tq h hj x) (fun _ hy => hy))
  exact ⟨⟨_, _, rfl⟩, ⟨_, _, _, h1⟩, h2⟩
/-- Somebody would wait to receive. -/
theorem Kt.waitRecv (h : Kt w0 w Q c A m K I F T s D) (hm : m + 1 < Mx) {j n b : Nat} (hj : j < 2) (hn : n < 4) (hb : w.heap[b]? = some (.cells #[.int .i64 n] 3 (0, 0))) (hbQ : Q b) :
    Calls Tryz.prog 38 #[.pointer (some ⟨(c j).C, 0, none⟩), .pointer (some ⟨K n, 0, none⟩), F50 T b] w fun e w' => (∃ x : Int, e = .returned (.int .i64 x)) ∧ Kx w0 Q c (m + 1) K I F T w w' := by
  have hk := h.tk n hn
  have fin : ∀ {w' : World} {D' : Nat → Prop}, Ch w' A (c j) m (s j) D' → Lx w (D j) w' D' → Kx w0 Q c (m + 1) K I F T w w' := fun hc x => by
    obtain ⟨h1, h2⟩ := h.turn hj (hc.mono (Nat.le_succ m)) x (Nat.le_succ m) (h.sz j hj).2 (sub_gd h hj (Lx.tq h hj x) (fun _ hy => hy))
    exact ⟨⟨_, _, _, h1⟩, h2⟩
  cases ha : A (K n) with
  | false =>
    rw [ha] at hk
    refine (waitRecv_arg (h.ch j hj) hk (.inl rfl)).mono ?_
    rintro e w' ⟨rfl, D', hc, x⟩
    exact ⟨⟨_, rfl⟩, fin hc x⟩
  | true =>
    rw [ha] at hk
    cases hcan : canR (s j) (some ⟨K n, 0, none⟩) with
    | true =>
      refine (waitRecv_arg (h.ch j hj) hk (.inr ⟨⟨_, _, _, rfl⟩, hcan⟩)).mono ?_
      rintro e w' ⟨rfl, D', hc, x⟩
      exact ⟨⟨_, rfl⟩, fin hc x⟩
    | false =>
      refine (waitRecv_ok (h.ch j hj) hm hk ha hcan).mono ?_
      rintro e w' ⟨rfl, D', hc, x⟩
      have tQ := Lx.tq h hj x
      obtain ⟨h1, h2⟩ := h.turn hj hc x (Nat.le_succ m) (h.sz j hj).2 (fun y hy => by
        rcases List.mem_append.1 hy with hy | hy
        · exact sub_gd h hj tQ (fun _ hz => List.mem_append_left _ hz) y hy
        · rcases List.mem_append.1 hy with hy | hy
          · exact sub_gd h hj tQ (fun _ hz => List.mem_append_right _ hz) y hy
          · simp only [List.mem_singleton] at hy
            subst hy
            exact ⟨n, hn, rfl, b, (tQ.block b (heap_lt hb) (fun e => e hbQ)).trans hb, hbQ, .inl rfl⟩)
      exact ⟨⟨_, rfl⟩, ⟨_, _, _, h1⟩, h2⟩
theorem Gd.more {N : Nat → Prop} {y : Wv} {n : Nat} (h : Gd w Q T K y n) : Gd w (fun k => Q k ∨ N k) T K y n := by
  obtain ⟨q1, b, q2, q3, q4⟩ := h
  exact ⟨q1, b, q2, .inl q3, q4.imp id (fun ⟨q, a1, a2, a3⟩ => ⟨q, a1, a2, .inl a3⟩)⟩
/-- One channel was turned, and blocks more are not to be turned. -/
theorem Kt.turnN (h : Kt w0 w Q c A m K I F T s D) {j : Nat} (hj : j < 2) {s1 : Cs} {D1 : Nat → Prop} (hc : Ch w' A (c j) m' s1 D1) (x : Lx w (D j) w' D1) (hm : m ≤ m') (hb : s1.buf.length ≤ 1) {N : Nat → Prop} (hN : ∀ k, N k → w.heap.size ≤ k ∧ k < w'.heap.size ∧ ¬ D1 k) (hg : ∀ y ∈ s1.snd ++ s1.rcv, ∃ n, n < 4 ∧ Gd w' (fun k => Q k ∨ N k) T K y n) : Kt w0 w' (fun k => Q k ∨ N k) c A m' K I F T (upa s j s1) (upa D j D1) ∧ Tb (fun k => ¬ Q k) w w' := by
  have t := x.tb
  have hz := t.size
  have hlow := h.low
  have hQD : ∀ k, Q k → ¬ D j k := fun k hk => (h.nq k hk).2.1 j hj
  have tQ : Tb (fun k => ¬ Q k) w w' := t.mono (fun k _ hk hq => hQD k hq hk)
  have hlt : ∀ k, k < w.heap.size → ¬ D j k → ¬ D1 k := fun k hk hn e => (x.dom k e).elim hn (fun h' => by omega)
  have hoth : ∀ i, i < 2 → i ≠ j → ∀ k, D i k → ¬ D j k := fun i hi hij k h1 h2 => by
    rcases (by omega : (i = 0 ∧ j = 1) ∨ (i = 1 ∧ j = 0)) with ⟨rfl, rfl⟩ | ⟨rfl, rfl⟩
    · exact h.ap k h1 h2
    · exact h.ap k h2 h1
  have hkv : Kv w A w' A := Kv.tb A t (fun k f ht hk => (h.ch j hj).notk ht hk)
  refine ⟨⟨fun i hi => ?_, fun k h1 h2 => ?_, fun i hi => ?_, fun i k hi hk => ?_, fun n hn => (h.tk n hn).tb t ((h.ch j hj).notk (h.tk n hn)), h.inj, h.kl, fun n hn => ⟨(t.block _ (heap_lt (h.bx n hn).1) (hQD _ (h.bx n hn).2)).trans (h.bx n hn).1, .inl (h.bx n hn).2⟩, (t.block _ (heap_lt h.fb) (h.nf.2.2.2 j hj).1).trans h.fb, (t.block _ (heap_lt h.tb) (h.nf.2.2.2 j hj).2).trans h.tb, ⟨h.nf.1, h.nf.2.1, h.nf.2.2.1, fun i hi => ?_⟩, fun k hk => ?_, fun i hi y hy => ?_, fun k hk => h.ha k (by omega), h.bel.trans (t.below (fun k hk => h.lo j k hj hk) hlow)⟩, tQ⟩
  · by_cases e : i = j
    · subst e; rw [upa_same, upa_same]; exact hc
    · rw [upa_ne _ _ e, upa_ne _ _ e]
      obtain ⟨BG, DS, DR, cm, hd⟩ := (h.ch i hi).same t (hoth i hi e) hkv
      exact ⟨BG, DS, DR, ⟨cm.obj, cm.bq, cm.sl.mono hm, cm.rl.mono hm, cm.ap, cm.sz, cm.bf⟩, hd⟩
  · rcases (by omega : j = 0 ∨ j = 1) with rfl | rfl
    · rw [upa_same] at h1
      rw [upa_ne _ _ (by omega)] at h2
      exact (x.dom k h1).elim (fun e => h.ap k e h2) (fun e => by have := (h.ch 1 (by omega)).lt h2; omega)
    · rw [upa_ne _ _ (by omega)] at h1
      rw [upa_same] at h2
      exact (x.dom k h2).elim (fun e => h.ap k h1 e) (fun e => by have := (h.ch 0 (by omega)).lt h1; omega)
  · by_cases e : i = j
    · subst e; rw [upa_same]; exact ⟨(h.sz i hi).1, hb⟩
    · rw [upa_ne _ _ e]; exact h.sz i hi
  · by_cases e : i = j
    · subst e; rw [upa_same] at hk; exact (x.dom k hk).elim (h.lo i k hi) (fun e => by omega)
    · rw [upa_ne _ _ e] at hk; exact h.lo i k hi hk
  · by_cases e : i = j
    · subst e; rw [upa_same]; exact ⟨hlt _ (heap_lt h.fb) (h.nf.2.2.2 i hi).1, hlt _ (heap_lt h.tb) (h.nf.2.2.2 i hi).2⟩
    · rw [upa_ne _ _ e]; exact h.nf.2.2.2 i hi
  · rcases hk with hk | hk
    · obtain ⟨q1, q2, q3⟩ := h.nq k hk
      refine ⟨by omega, fun i hi => ?_, q3⟩
      by_cases e : i = j
      · subst e; rw [upa_same]; exact hlt k q1 (q2 i hi)
      · rw [upa_ne _ _ e]; exact q2 i hi
    · obtain ⟨n1, n2, n3⟩ := hN k hk
      refine ⟨n2, fun i hi => ?_, fun e => by have := heap_lt h.fb; omega, fun e => by have := heap_lt h.tb; omega, fun n hn e => by have := (h.tk n hn).lt; omega⟩
      by_cases e : i = j
      · subst e; rw [upa_same]; exact n3
      · rw [upa_ne _ _ e]; exact fun e' => by have := (h.ch i hi).lt e'; omega
  · by_cases e : i = j
    · subst e; rw [upa_same] at hy; exact hg y hy
    · rw [upa_ne _ _ e] at hy
      exact (h.gd i hi y hy).imp (fun n hq => ⟨hq.1, (hq.2.keep tQ).more⟩)

/-- Somebody would wait to send. -/
theorem Kt.waitSend (h : Kt w0 w Q c A m K I F T s D) (hm : m + 1 < Mx) (v : Int) {j n b : Nat} (hj : j < 2) (hn : n < 4) (hb : w.heap[b]? = some (.cells #[.int .i64 n] 3 (0, 0))) (hbQ : Q b) :
    Calls Tryz.prog 39 #[.pointer (some ⟨(c j).C, 0, none⟩), .int .i64 v, .pointer (some ⟨K n, 0, none⟩), F49 T b] w fun e w' => (∃ x : Int, e = .returned (.int .i64 x)) ∧ ∃ N : Nat → Prop, Kx w0 (fun k => Q k ∨ N k) c (m + 1) K I F T w' w' ∧ Tb (fun k => ¬ Q k) w w' := by
  have hk := h.tk n hn
  have fin : ∀ {w' : World} {D' : Nat → Prop}, Ch w' A (c j) m (s j) D' → Lx w (D j) w' D' → ∃ N : Nat → Prop, Kx w0 (fun k => Q k ∨ N k) c (m + 1) K I F T w' w' ∧ Tb (fun k => ¬ Q k) w w' := fun hc x => by
    obtain ⟨h1, h2⟩ := h.turnN hj (hc.mono (Nat.le_succ m)) x (Nat.le_succ m) (h.sz j hj).2 (N := fun _ => False) (fun _ e => e.elim) (fun y hy => (sub_gd h hj (Lx.tq h hj x) (fun _ hy => hy) y hy).imp (fun n hq => ⟨hq.1, hq.2.more⟩))
    exact ⟨fun _ => False, ⟨⟨_, _, _, h1⟩, Tb.refl _ _⟩, h2⟩
  cases ha : A (K n) with
  | false =>
    rw [ha] at hk
    refine (waitSend_arg (h.ch j hj) hk (.inl rfl)).mono ?_
    rintro e w' ⟨rfl, D', hc, x⟩
    exact ⟨⟨_, rfl⟩, fin hc x⟩
  | true =>
    rw [ha] at hk
    cases hcan : canS (c j) (s j) (some ⟨K n, 0, none⟩) with
    | true =>
      refine (waitSend_arg (h.ch j hj) hk (.inr ⟨⟨_, _, _, rfl⟩, hcan⟩)).mono ?_
      rintro e w' ⟨rfl, D', hc, x⟩
      exact ⟨⟨_, rfl⟩, fin hc x⟩
    | false =>
      refine (waitSend_ok (h.ch j hj) hm hk ha hcan).mono ?_
      rintro e w' ⟨rfl, hB, D', hc, x, hnD⟩
      have tQ := Lx.tq h hj x
      obtain ⟨h1, h2⟩ := h.turnN hj hc x (Nat.le_succ m) (h.sz j hj).2 (N := fun k => k = w.heap.size) (fun k e => by subst e; exact ⟨Nat.le_refl _, heap_lt hB, hnD⟩) (fun y hy => by
        rcases List.mem_append.1 hy with hy | hy
        · rcases List.mem_append.1 hy with hy | hy
          · exact (sub_gd h hj tQ (fun _ hz => List.mem_append_left _ hz) y hy).imp (fun n hq => ⟨hq.1, hq.2.more⟩)
          · simp only [List.mem_singleton] at hy
            subst hy
            exact ⟨n, hn, rfl, b, (tQ.block b (heap_lt hb) (fun e => e hbQ)).trans hb, .inl hbQ, .inr ⟨w.heap.size, rfl, hB, .inr rfl⟩⟩
        · exact (sub_gd h hj tQ (fun _ hz => List.mem_append_right _ hz) y hy).imp (fun n hq => ⟨hq.1, hq.2.more⟩))
      exact ⟨⟨_, rfl⟩, _, ⟨⟨_, _, _, h1⟩, Tb.refl _ _⟩, h2⟩
end

end Go.Proofs.YtohndpmjdgfbeaaGreat.CH

/-
  Tickets at two channels: the state within a round of the law.
-/
namespace Go.Proofs.YtohndpmjdgfbeaaGreat.CH
open Go.RowKit QW
set_option maxRecDepth 100000
set_option linter.unusedSimpArgs false
set_option linter.unusedVariables false

/-- Where all lies. -/
structure Kp where
  c : Nat → Zc
  K : Nat → Nat
  I : Nat → Nat
  P : Nat
  G : Nat
  KB : Nat
  F : Nat
  T : Nat

section
variable {w0 w w' : World} {p : Kp} {Q : Nat → Prop} {m o nb n : Nat} {x : Nat → Int}
variable {c : Nat → Zc} {A : Nat → Bool} {K I : Nat → Nat} {F T : Nat} {s : Nat → Cs} {D : Nat → Nat → Prop}

theorem Kt.mono (h : Kt w0 w Q c A m K I F T s D) {m' : Nat} (hm : m ≤ m') : Kt w0 w Q c A m' K I F T s D :=
  ⟨fun j hj => (h.ch j hj).mono hm, h.ap, h.sz, h.lo, h.tk, h.inj, h.kl, h.bx, h.fb, h.tb, h.nf, h.nq, h.gd, h.ha, h.bel⟩
theorem Gd.poke {y : Wv} {k G : Nat} {gs : Array Value} (h : Gd w Q T K y k) (hG : w.heap[G]? = some (.cells gs (100 : TypeId) (0, 0))) (t : Tb (fun i => i = G) w w') : Gd w' Q T K y k := by
  obtain ⟨h1, b, h2, h3, h4⟩ := h
  refine ⟨h1, b, (t.block b (heap_lt h2) (fun e => ?_)).trans h2, h3, h4.imp id (fun ⟨q, q1, q2, q3⟩ => ⟨q, q1, (t.block q (heap_lt q2) (fun e => ?_)).trans q2, q3⟩)⟩
  · exact ty_ne hG h2 (by decide) e.symm
  · exact ty_ne hG q2 (by decide) e.symm
/-- A row of one's own was turned. -/
theorem Kt.poke (h : Kt w0 w Q c A m K I F T s D) {G : Nat} {gs : Array Value} (hG : w.heap[G]? = some (.cells gs (100 : TypeId) (0, 0))) (hq : Q G) (hl : w0.heap.size ≤ G) (t : Tb (fun i => i = G) w w') : Kt w0 w' Q c A m K I F T s D := by
  have hnt : ∀ k f, Tkt w k f → ¬ k = G := fun k f hk e => ty_ne hG hk (by decide) e.symm
  have hkv : Kv w A w' A := Kv.tb A t hnt
  have hz := t.size
  obtain ⟨_, q2, q3, q4, q5⟩ := h.nq G hq
  exact ⟨fun i hi => (h.ch i hi).same t (fun k hk e => q2 i hi (e ▸ hk)) hkv, h.ap, h.sz, h.lo, fun n hn => (h.tk n hn).tb t (hnt _ _ (h.tk n hn)), h.inj, h.kl, fun n hn => ⟨(t.block _ (heap_lt (h.bx n hn).1) (fun e => ty_ne hG (h.bx n hn).1 (by decide) e.symm)).trans (h.bx n hn).1, (h.bx n hn).2⟩, (t.block _ (heap_lt h.fb) (fun e => q3 e.symm)).trans h.fb, (t.block _ (heap_lt h.tb) (fun e => q4 e.symm)).trans h.tb, h.nf, fun k hk => ⟨by have := (h.nq k hk).1; omega, (h.nq k hk).2⟩, fun j hj y hy => (h.gd j hj y hy).imp (fun n hq => ⟨hq.1, hq.2.poke hG t⟩), fun k hk => h.ha k (by omega), h.bel.trans (t.below (fun k hk => by subst hk; exact hl) h.low)⟩

/-- The state between two rounds. -/
def Tw (w0 : World) (p : Kp) (m : Nat) (Q : Nat → Prop) (w : World) : Prop :=
  Ke w0 Q p.c m p.K p.I p.F p.T w ∧ (Q p.P ∧ Q p.G ∧ Q p.KB ∧ w0.heap.size ≤ p.G) ∧
  w.heap[p.P]? = some (.cells #[.pointer (some ⟨(p.c 0).C, 0, none⟩), .pointer (some ⟨(p.c 1).C, 0, none⟩)] (99 : TypeId) (0, 0)) ∧
  w.heap[p.KB]? = some (.cells #[.pointer (some ⟨p.K 0, 0, none⟩), .pointer (some ⟨p.K 1, 0, none⟩), .pointer (some ⟨p.K 2, 0, none⟩), .pointer (some ⟨p.K 3, 0, none⟩)] (101 : TypeId) (0, 0)) ∧
  ∃ gs : List Int, gs.length = 4 ∧ w.heap[p.G]? = some (.cells (gs.map (Value.int .i64)).toArray (100 : TypeId) (0, 0))

/-- The state within a round: the operation's box, the ticket's number's. -/
def Twn (w0 : World) (p : Kp) (m o nb n : Nat) (x : Nat → Int) (w : World) : Prop :=
  ∃ Q, Tw w0 p m Q w ∧ Q o ∧ Q nb ∧ w.heap[o]? = some (.cells #[.int .i64 (x 0), .int .i64 (x 1), .int .i64 (x 2)] (102 : TypeId) (0, 0)) ∧ w.heap[nb]? = some (.cells #[.int .i64 n] 3 (0, 0))

theorem Tw.keep (h : Tw w0 p m Q w) {Q' : Nat → Prop} {m' : Nat} (hk : Ke w0 Q' p.c m' p.K p.I p.F p.T w') (hs : ∀ k, Q k → Q' k) (t : Tb (fun k => ¬ Q k) w w') : Tw w0 p m' Q' w' := by
  obtain ⟨_, ⟨h1, h2, h3, hl⟩, h4, h5, gs, h6, h7⟩ := h
  exact ⟨hk, ⟨hs _ h1, hs _ h2, hs _ h3, hl⟩, (t.block _ (heap_lt h4) (fun e => e h1)).trans h4, (t.block _ (heap_lt h5) (fun e => e h3)).trans h5, gs, h6, (t.block _ (heap_lt h7) (fun e => e h2)).trans h7⟩
theorem Tw.mono (h : Tw w0 p m Q w) {m' : Nat} (hm : m ≤ m') : Tw w0 p m' Q w := by
  obtain ⟨A, s, D, hk⟩ := h.1
  exact h.keep ⟨A, s, D, hk.mono hm⟩ (fun _ e => e) (Tb.refl _ _)
theorem Tw.below (h : Tw w0 p m Q w) (hb : Below w.heap.size w w') : Tw w0 p m Q w' := h.keep (h.1.below hb) (fun _ e => e) (Tb.of_fresh hb)
theorem Tw.bel (h : Tw w0 p m Q w) : Below w0.heap.size w0 w := by
  obtain ⟨A, s, D, hk⟩ := h.1
  exact hk.bel
/-- A round begins. -/
theorem Tw.enter (h : Tw w0 p m Q w) (hb : Below w.heap.size w w') (ho : w.heap.size ≤ o) (hn : w.heap.size ≤ nb) (h1 : w'.heap[o]? = some (.cells #[.int .i64 (x 0), .int .i64 (x 1), .int .i64 (x 2)] (102 : TypeId) (0, 0))) (h2 : w'.heap[nb]? = some (.cells #[.int .i64 n] 3 (0, 0))) : Twn w0 p m o nb n x w' :=
  ⟨fun k => Q k ∨ (k = o ∨ k = nb), h.keep (h.1.more hb (fun k hk => by
    rcases hk with rfl | rfl
    · exact ⟨ho, heap_lt h1⟩
    · exact ⟨hn, heap_lt h2⟩)) (fun _ e => .inl e) (Tb.of_fresh hb), .inr (.inl rfl), .inr (.inr rfl), h1, h2⟩
theorem Twn.out (h : Twn w0 p m o nb n x w) {m' : Nat} (hm : m ≤ m') : ∃ Q, Tw w0 p m' Q w := by
  obtain ⟨Q, h, _⟩ := h
  exact ⟨Q, h.mono hm⟩
theorem Twn.keep {Q' : Nat → Prop} {m' : Nat} (h : Tw w0 p m Q w) (ho : Q o) (hn : Q nb) (h1 : w.heap[o]? = some (.cells #[.int .i64 (x 0), .int .i64 (x 1), .int .i64 (x 2)] (102 : TypeId) (0, 0))) (h2 : w.heap[nb]? = some (.cells #[.int .i64 n] 3 (0, 0))) (hk : Ke w0 Q' p.c m' p.K p.I p.F p.T w') (hs : ∀ k, Q k → Q' k) (t : Tb (fun k => ¬ Q k) w w') : Twn w0 p m' o nb n x w' :=
  ⟨Q', h.keep hk hs t, hs _ ho, hs _ hn, (t.block _ (heap_lt h1) (fun e => e ho)).trans h1, (t.block _ (heap_lt h2) (fun e => e hn)).trans h2⟩
theorem Twn.below (h : Twn w0 p m o nb n x w) (hb : Below w.heap.size w w') : Twn w0 p m o nb n x w' := by
  obtain ⟨Q, h, ho, hn, h1, h2⟩ := h
  exact Twn.keep h ho hn h1 h2 (h.1.below hb) (fun _ e => e) (Tb.of_fresh hb)

/-- What is read within a round. -/
theorem Tw.cC (h : Tw w0 p m Q w) {j : Nat} (hj : j < 2) : w.cell? ⟨p.P, j, none⟩ = some (.pointer (some ⟨(p.c j).C, 0, none⟩)) := by
  obtain ⟨_, _, h4, _⟩ := h
  rcases (by omega : j = 0 ∨ j = 1) with rfl | rfl
  · exact cell_of_row _ _ 0 _ _ _ h4
  · exact cell_of_row _ _ 1 _ _ _ h4
theorem Tw.cK (h : Tw w0 p m Q w) {j : Nat} (hj : j < 4) : w.cell? ⟨p.KB, j, none⟩ = some (.pointer (some ⟨p.K j, 0, none⟩)) := by
  obtain ⟨_, _, _, h5, _⟩ := h
  rcases (by omega : j = 0 ∨ j = 1 ∨ j = 2 ∨ j = 3) with rfl | rfl | rfl | rfl
  · exact cell_of_row _ _ 0 _ _ _ h5
  · exact cell_of_row _ _ 1 _ _ _ h5
  · exact cell_of_row _ _ 2 _ _ _ h5
  · exact cell_of_row _ _ 3 _ _ _ h5
theorem Tw.cG (h : Tw w0 p m Q w) {j : Nat} (hj : j < 4) : ∃ g : Int, w.cell? ⟨p.G, j, none⟩ = some (.int .i64 g) := by
  obtain ⟨_, _, _, _, gs, hl, h7⟩ := h
  exact ⟨_, arr_c h7 hl hj⟩
theorem Tw.fG (h : Tw w0 p m Q w) (j : Nat) : w.frozen? ⟨p.G, j, none⟩ = false := by
  obtain ⟨_, _, _, _, gs, hl, h7⟩ := h
  exact frozen_of_row w p.G j _ _ h7
theorem Tw.told (h : Tw w0 p m Q w) {j : Nat} (hj : j < 4) : ∃ g : Int, (g = 0 ∨ g = 1) ∧ w.cell? ⟨p.F, j, none⟩ = some (.int .i64 g) ∧ w.cell? ⟨p.T, j, none⟩ = some (.int .i64 g) := by
  obtain ⟨A, s, D, hk⟩ := h.1
  have hl : (cn A p.K).length = 4 := by simp [cn]
  refine ⟨_, ?_, arr_c hk.fb hl hj, arr_c hk.tb hl hj⟩
  simp only [cn, List.getD, List.getElem?_map, List.getElem?_range hj, Option.map_some, Option.getD_some]
  split
  · exact .inl rfl
  · exact .inr rfl
theorem Twn.cells (h : Twn w0 p m o nb n x w) : w.cell? ⟨o, 0, none⟩ = some (.int .i64 (x 0)) ∧ w.cell? ⟨o, 1, none⟩ = some (.int .i64 (x 1)) ∧ w.cell? ⟨o, 2, none⟩ = some (.int .i64 (x 2)) ∧ w.cell? ⟨nb, 0, none⟩ = some (.int .i64 n) := by
  obtain ⟨Q, h, ho, hn, h1, h2⟩ := h
  exact ⟨cell_of_row _ _ 0 _ _ _ h1, cell_of_row _ _ 1 _ _ _ h1, cell_of_row _ _ 2 _ _ _ h1, cell_of_row _ _ 0 _ _ _ h2⟩
theorem Twn.tw (h : Twn w0 p m o nb n x w) : ∃ Q, Tw w0 p m Q w := by
  obtain ⟨Q, h, _⟩ := h
  exact ⟨Q, h⟩

/-- The calls. -/
theorem Twn.trySend (h : Twn w0 p m o nb n x w) {j : Nat} (hj : j < 2) (v : Int) :
    Calls Tryz.prog 29 #[.pointer (some ⟨(p.c j).C, 0, none⟩), .int .i64 v] w fun e w' => (∃ a b : Bool, e = .returned (.tuple #[.bool a, .bool b])) ∧ Twn w0 p m o nb n x w' := by
  obtain ⟨Q, h, ho, hn, h1, h2⟩ := h
  obtain ⟨A, s, D, hk⟩ := h.1
  exact (hk.trySend hj v).mono (fun e w' ⟨he, hke, t⟩ => ⟨he, Twn.keep h ho hn h1 h2 hke (fun _ e => e) t⟩)
theorem Twn.tryRecv (h : Twn w0 p m o nb n x w) {j : Nat} (hj : j < 2) :
    Calls Tryz.prog 30 #[.pointer (some ⟨(p.c j).C, 0, none⟩)] w fun e w' => Hid (∃ (x : Int) (p q : Bool), e = .returned (.tuple #[.int .i64 x, .bool p, .bool q])) ∧ Twn w0 p m o nb n x w' := by
  obtain ⟨Q, h, ho, hn, h1, h2⟩ := h
  obtain ⟨A, s, D, hk⟩ := h.1
  exact (hk.tryRecv hj).mono (fun e w' ⟨he, hke, t⟩ => ⟨he, Twn.keep h ho hn h1 h2 hke (fun _ e => e) t⟩)
theorem Twn.close (h : Twn w0 p m o nb n x w) {j : Nat} (hj : j < 2) :
    Calls Tryz.prog 33 #[.pointer (some ⟨(p.c j).C, 0, none⟩)] w fun e w' => (∃ x : Int, e = .returned (.int .i64 x)) ∧ Twn w0 p m o nb n x w' := by
  obtain ⟨Q, h, ho, hn, h1, h2⟩ := h
  obtain ⟨A, s, D, hk⟩ := h.1
  exact (hk.close hj).mono (fun e w' ⟨he, hke, t⟩ => ⟨he, Twn.keep h ho hn h1 h2 hke (fun _ e => e) t⟩)
theorem Twn.forget (h : Twn w0 p m o nb n x w) (hm : m ≤ 1000000) {j k : Nat} (hj : j < 2) (hk4 : k < 4) :
    Calls Tryz.prog 37 #[.pointer (some ⟨(p.c j).C, 0, none⟩), .pointer (some ⟨p.K k, 0, none⟩)] w fun e w' => (∃ x : Int, e = .returned (.int .i64 x)) ∧ Twn w0 p m o nb n x w' := by
  obtain ⟨Q, h, ho, hn, h1, h2⟩ := h
  obtain ⟨A, s, D, hk⟩ := h.1
  exact (hk.forget hm hj hk4).mono (fun e w' ⟨he, hke, t⟩ => ⟨he, Twn.keep h ho hn h1 h2 hke (fun _ e => e) t⟩)
theorem Twn.waits (h : Twn w0 p m o nb n x w) {j : Nat} (hj : j < 2) :
    Calls Tryz.prog 46 #[.pointer (some ⟨(p.c j).C, 0, none⟩)] w fun e w' => (∃ a b : Nat, e = .returned (.tuple #[.int .i64 a, .int .i64 b])) ∧ Twn w0 p m o nb n x w' := by
  obtain ⟨Q, h, ho, hn, h1, h2⟩ := h
  obtain ⟨A, s, D, hk⟩ := h.1
  exact (hk.waits hj).mono (fun e w' ⟨he, hke, t⟩ => ⟨he, Twn.keep h ho hn h1 h2 hke (fun _ e => e) t⟩)
theorem Twn.waitRecv (h : Twn w0 p m o nb n x w) (hm : m + 1 < Mx) {j : Nat} (hj : j < 2) (hn4 : n < 4) :
    Calls Tryz.prog 38 #[.pointer (some ⟨(p.c j).C, 0, none⟩), .pointer (some ⟨p.K n, 0, none⟩), F50 p.T nb] w fun e w' => (∃ x : Int, e = .returned (.int .i64 x)) ∧ Twn w0 p (m + 1) o nb n x w' := by
  obtain ⟨Q, h, ho, hn, h1, h2⟩ := h
  obtain ⟨A, s, D, hk⟩ := h.1
  exact (hk.waitRecv hm hj hn4 h2 hn).mono (fun e w' ⟨he, hke, t⟩ => ⟨he, Twn.keep h ho hn h1 h2 hke (fun _ e => e) t⟩)
theorem Twn.waitSend (h : Twn w0 p m o nb n x w) (hm : m + 1 < Mx) (v : Int) {j : Nat} (hj : j < 2) (hn4 : n < 4) :
    Calls Tryz.prog 39 #[.pointer (some ⟨(p.c j).C, 0, none⟩), .int .i64 v, .pointer (some ⟨p.K n, 0, none⟩), F49 p.T nb] w fun e w' => (∃ x : Int, e = .returned (.int .i64 x)) ∧ Twn w0 p (m + 1) o nb n x w' := by
  obtain ⟨Q, h, ho, hn, h1, h2⟩ := h
  obtain ⟨A, s, D, hk⟩ := h.1
  exact (hk.waitSend hm v hj hn4 h2 hn).mono (fun e w' ⟨he, N, ⟨hke, _⟩, t⟩ => ⟨he, Twn.keep h ho hn h1 h2 hke (fun _ e => .inl e) t⟩)
/-- Somebody was forgotten: it is noted. -/
theorem Twn.note (h : Twn w0 p m o nb n x w) {j : Nat} (hj : j < 4) (v : Int) : Twn w0 p m o nb n x (w.setCell ⟨p.G, j, none⟩ (.int .i64 v)) := by
  obtain ⟨Q, h, ho, hn, h1, h2⟩ := h
  obtain ⟨A, s, D, hk⟩ := h.1
  obtain ⟨_, ⟨a1, a2, a3, al⟩, h4, h5, gs, h6, h7⟩ := h
  have t : Tb (fun i => i = p.G) w (w.setCell ⟨p.G, j, none⟩ (.int .i64 v)) := Tb.set _ _ _ rfl
  have hG : (w.setCell ⟨p.G, j, none⟩ (.int .i64 v)).heap[p.G]? = some (.cells ((gs.set j v).map (Value.int .i64)).toArray (100 : TypeId) (0, 0)) := by
    rw [heap_setCell_same w p.G j _ _ _ h7]
    simp
  refine ⟨Q, ⟨⟨A, s, D, hk.poke h7 a2 al t⟩, ⟨a1, a2, a3, al⟩, (t.block _ (heap_lt h4) (fun e => ty_ne h7 h4 (by decide) e.symm)).trans h4, (t.block _ (heap_lt h5) (fun e => ty_ne h7 h5 (by decide) e.symm)).trans h5, _, by simpa using h6, hG⟩, ho, hn, (t.block _ (heap_lt h1) (fun e => ty_ne h7 h1 (by decide) e.symm)).trans h1, (t.block _ (heap_lt h2) (fun e => ty_ne h7 h2 (by decide) e.symm)).trans h2⟩
end

end Go.Proofs.YtohndpmjdgfbeaaGreat.CH

/-
  Tickets at two channels: the channels and the tickets are made.
-/
namespace Go.Proofs.YtohndpmjdgfbeaaGreat.CH
open Go.RowKit QW
set_option maxRecDepth 100000
set_option linter.unusedSimpArgs false
set_option linter.unusedVariables false

/-- Every ticket is to be had. -/
abbrev trw : Nat → Bool := fun _ => true
def cvs (c : Nat → Zc) (i j : Nat) : Value := if j < i then .pointer (some ⟨(c j).C, 0, none⟩) else .pointer none
def kvs (K : Nat → Nat) (i j : Nat) : Value := if j < i then .pointer (some ⟨K j, 0, none⟩) else .pointer none
abbrev em : Cs := ⟨false, [], [], []⟩
def zr4 : Array Value := #[.int .i64 0, .int .i64 0, .int .i64 0, .int .i64 0]

/-- i channels are made. -/
structure Ta (w0 w : World) (R P i : Nat) (c : Nat → Zc) (D : Nat → Nat → Prop) : Prop where
  ch : ∀ j, j < i → Ch w trw (c j) 0 em (D j) ∧ (c j).size = j
  lo : ∀ j k, j < i → D j k → w0.heap.size ≤ k ∧ k ≠ P
  ap : ∀ a b k, a < i → b < i → a ≠ b → D a k → ¬ D b k
  pp : w.heap[P]? = some (.cells #[cvs c i 0, cvs c i 1] (99 : TypeId) (0, 0))
  rr : w.cell? ⟨R, 0, none⟩ = some (.pointer (some ⟨R, 0, none⟩))
  rp : R ≠ P ∧ w0.heap.size ≤ P
  bel : Below w0.heap.size w0 w

/-- i tickets are made. -/
structure Tt (w0 w : World) (c : Nat → Zc) (D : Nat → Nat → Prop) (P F G KB i : Nat) (K I : Nat → Nat) : Prop where
  ch : ∀ j, j < 2 → Ch w trw (c j) 0 em (D j)
  sz : ∀ j, j < 2 → (c j).size ≤ 1
  ap : ∀ k, D 0 k → ¬ D 1 k
  lo : ∀ j k, j < 2 → D j k → w0.heap.size ≤ k ∧ k < F ∧ k ≠ P
  pp : w.heap[P]? = some (.cells #[.pointer (some ⟨(c 0).C, 0, none⟩), .pointer (some ⟨(c 1).C, 0, none⟩)] (99 : TypeId) (0, 0))
  fb : w.heap[F]? = some (.cells zr4 (100 : TypeId) (0, 0))
  gb : w.heap[G]? = some (.cells zr4 (100 : TypeId) (0, 0))
  kb : w.heap[KB]? = some (.cells #[kvs K i 0, kvs K i 1, kvs K i 2, kvs K i 3] (101 : TypeId) (0, 0))
  od : P < F ∧ w0.heap.size ≤ P ∧ F < G ∧ F < KB
  tk : ∀ j, j < i → Tkt w (K j) (F48 F (I j)) ∧ F < K j
  bx : ∀ j, j < i → w.heap[I j]? = some (.cells #[.int .i64 j] 3 (0, 0)) ∧ F < I j
  inj : ∀ a b, a < i → b < i → K a = K b → a = b
  bel : Below w0.heap.size w0 w

theorem cellq_heap {w V : World} {a : Addr} (h : V.heap[a.block]? = w.heap[a.block]?) : V.cell? a = w.cell? a := by unfold World.cell?; rw [h]
section
variable {w0 w w' : World} {R P i F G KB T : Nat} {c : Nat → Zc} {D : Nat → Nat → Prop} {K I : Nat → Nat}

theorem Ta.start {w1 : World} (hb1 : Below w0.heap.size w0 w1) (hr : w1.cell? ⟨R, 0, none⟩ = some (.pointer (some ⟨R, 0, none⟩))) (hW : w = w1.alloc (.cells #[.pointer none, .pointer none] (99 : TypeId))) : Ta w0 w R w1.heap.size 0 c D := by
  have bW : Below w1.heap.size w1 w := by rw [hW]; exact (Below.refl _ w1).alloc (Nat.le_refl _) _
  have hz := hb1.size
  refine ⟨fun j hj => by omega, fun j k hj => by omega, fun a b k ha => by omega, ?_, (bW.cell (cell_lt hr)).trans hr, ⟨fun e => by have : R < w1.heap.size := cell_lt hr; omega, hz⟩, hb1.trans (bW.mono hz)⟩
  rw [hW]
  exact heap_alloc_new w1 _
/-- One channel more. -/
theorem Ta.step (h : Ta w0 w R P i c D) (hi : i < 2) {z : Zc} {D1 : Nat → Prop} {w2 : World} (hb : Below w.heap.size w w2) (hc : Ch w2 trw z 0 em D1) (hl : ∀ k, D1 k → w.heap.size ≤ k) (hz : z.size = i) (hW : w' = w2.setCell ⟨P, i, none⟩ (.pointer (some ⟨z.C, 0, none⟩))) : Ta w0 w' R P (i + 1) (upa c i z) (upa D i D1) := by
  have hs := hb.size
  have hP2 := (hb.block P (heap_lt h.pp)).trans h.pp
  have t : Tb (fun k => k = P) w2 w' := by rw [hW]; exact Tb.set P i _ rfl
  have hnt : ∀ k f, Tkt w2 k f → ¬ k = P := fun k f hk e => ty_ne hP2 hk (by decide) e.symm
  have hkv : Kv w2 trw w' trw := Kv.tb trw t hnt
  have hlow := h.bel.size
  have hPlt := heap_lt h.pp
  refine ⟨fun j hj => ?_, fun j k hj hk => ?_, fun a b k ha hb' hab h1 h2 => ?_, ?_, ?_, h.rp, (h.bel.trans (hb.mono hlow)).trans (t.below (fun k hk => by subst hk; exact h.rp.2) (by omega))⟩
  · by_cases e : j = i
    · subst e
      rw [upa_same, upa_same]
      exact ⟨hc.same t (fun k hk e => by have := hl k hk; omega) hkv, hz⟩
    · rw [upa_ne _ _ e, upa_ne _ _ e]
      obtain ⟨h1, h2⟩ := h.ch j (by omega)
      exact ⟨(h1.below hb).same t (fun k hk e => (h.lo j k (by omega) hk).2 e) hkv, h2⟩
  · by_cases e : j = i
    · subst e
      rw [upa_same] at hk
      have := hl k hk
      exact ⟨by omega, by omega⟩
    · rw [upa_ne _ _ e] at hk
      exact h.lo j k (by omega) hk
  · by_cases ea : a = i
    · subst ea
      rw [upa_same] at h1
      rw [upa_ne _ _ (fun e => hab e.symm)] at h2
      have := hl k h1
      have := (h.ch b (by omega)).1.lt h2
      omega
    · rw [upa_ne _ _ ea] at h1
      by_cases eb : b = i
      · subst eb
        rw [upa_same] at h2
        have := hl k h2
        have := (h.ch a (by omega)).1.lt h1
        omega
      · rw [upa_ne _ _ eb] at h2
        exact h.ap a b k (by omega) (by omega) hab h1 h2
  · rw [hW, heap_setCell_same w2 P i _ _ _ hP2]
    rcases (by omega : i = 0 ∨ i = 1) with rfl | rfl <;> simp [cvs, upa]
  · have hl2 := cell_lt h.rr
    rw [cellq_heap (t.block R (by have : R < w.heap.size := hl2; omega) h.rp.1)]
    exact (hb.cell hl2).trans h.rr

theorem Tt.start (h : Ta w0 w R P 2 c D) (hW : w' = ((w.alloc (.cells zr4 (100 : TypeId))).alloc (.cells zr4 (100 : TypeId))).alloc (.cells #[.pointer none, .pointer none, .pointer none, .pointer none] (101 : TypeId))) : Tt w0 w' c D P w.heap.size (w.heap.size + 1) (w.heap.size + 2) 0 K I := by
  obtain ⟨V1, hV1⟩ : ∃ V, V = w.alloc (.cells zr4 (100 : TypeId)) := ⟨_, rfl⟩
  rw [← hV1] at hW
  obtain ⟨V2, hV2⟩ : ∃ V, V = V1.alloc (.cells zr4 (100 : TypeId)) := ⟨_, rfl⟩
  rw [← hV2] at hW
  have b1 : Below w.heap.size w V1 := by rw [hV1]; exact (Below.refl _ w).alloc (Nat.le_refl _) _
  have b2 : Below V1.heap.size V1 V2 := by rw [hV2]; exact (Below.refl _ V1).alloc (Nat.le_refl _) _
  have b3 : Below V2.heap.size V2 w' := by rw [hW]; exact (Below.refl _ V2).alloc (Nat.le_refl _) _
  have s1 : V1.heap.size = w.heap.size + 1 := by rw [hV1]; simp
  have s2 : V2.heap.size = w.heap.size + 2 := by rw [hV2]; simp [s1]
  have b : Below w.heap.size w w' := (b1.trans (b2.mono b1.size)).trans (b3.mono (by omega))
  have hlow := h.bel.size
  have hP := heap_lt h.pp
  refine ⟨fun j hj => (h.ch j hj).1.below b, fun j hj => by have := (h.ch j hj).2; omega, fun k => h.ap 0 1 k (by omega) (by omega) (by omega), fun j k hj hk => ⟨(h.lo j k hj hk).1, (h.ch j hj).1.lt hk, (h.lo j k hj hk).2⟩, ?_, ?_, ?_, ?_, ⟨hP, h.rp.2, by omega, by omega⟩, fun j hj => by omega, fun j hj => by omega, fun a b ha => by omega, h.bel.trans (b.mono hlow)⟩
  · rw [b.block P hP, h.pp]
    rfl
  · rw [b3.block _ (by omega), b2.block _ (by omega), hV1]
    exact heap_alloc_new w _
  · rw [b3.block _ (by omega), hV2, ← s1]
    exact heap_alloc_new V1 _
  · rw [hW, ← s2]
    exact heap_alloc_new V2 _
theorem Tt.below (h : Tt w0 w c D P F G KB i K I) (hb : Below w.heap.size w w') : Tt w0 w' c D P F G KB i K I :=
  ⟨fun j hj => (h.ch j hj).below hb, h.sz, h.ap, h.lo, (hb.block _ (heap_lt h.pp)).trans h.pp, (hb.block _ (heap_lt h.fb)).trans h.fb, (hb.block _ (heap_lt h.gb)).trans h.gb, (hb.block _ (heap_lt h.kb)).trans h.kb, h.od, fun j hj => ⟨(h.tk j hj).1.below hb, (h.tk j hj).2⟩, fun j hj => ⟨(hb.block _ (heap_lt (h.bx j hj).1)).trans (h.bx j hj).1, (h.bx j hj).2⟩, h.inj, h.bel.trans (hb.mono h.bel.size)⟩
/-- One ticket more: b his box, k himself. -/
theorem Tt.step (h : Tt w0 w c D P F G KB i K I) (hi : i < 4) {b k : Nat} (hb : w.heap[b]? = some (.cells #[.int .i64 i] 3 (0, 0))) (hbF : F < b) (hk : Tkt w k (F48 F b)) (hkF : F < k) (hn : ∀ j, j < i → K j ≠ k) (hW : w' = w.setCell ⟨KB, i, none⟩ (.pointer (some ⟨k, 0, none⟩))) : Tt w0 w' c D P F G KB (i + 1) (upa K i k) (upa I i b) := by
  have t : Tb (fun k => k = KB) w w' := by rw [hW]; exact Tb.set KB i _ rfl
  have hnt : ∀ k f, Tkt w k f → ¬ k = KB := fun k f hk e => ty_ne h.kb hk (by decide) e.symm
  have hkv : Kv w trw w' trw := Kv.tb trw t hnt
  obtain ⟨o1, o2, o3, o4⟩ := h.od
  refine ⟨fun j hj => (h.ch j hj).same t (fun k hk e => by have := (h.lo j k hj hk).2.1; omega) hkv, h.sz, h.ap, h.lo, (t.block _ (heap_lt h.pp) (by omega)).trans h.pp, (t.block _ (heap_lt h.fb) (by omega)).trans h.fb, (t.block _ (heap_lt h.gb) (fun e => ty_ne h.kb h.gb (by decide) e.symm)).trans h.gb, ?_, h.od, fun j hj => ?_, fun j hj => ?_, fun a b' ha hb' e => ?_, h.bel.trans (t.below (fun k hk => by subst hk; omega) h.bel.size)⟩
  · rw [hW, heap_setCell_same w KB i _ _ _ h.kb]
    rcases (by omega : i = 0 ∨ i = 1 ∨ i = 2 ∨ i = 3) with rfl | rfl | rfl | rfl <;> simp [kvs, upa]
  · by_cases e : j = i
    · subst e
      rw [upa_same, upa_same]
      exact ⟨hk.tb t (hnt _ _ hk), hkF⟩
    · rw [upa_ne _ _ e, upa_ne _ _ e]
      exact ⟨(h.tk j (by omega)).1.tb t (hnt _ _ (h.tk j (by omega)).1), (h.tk j (by omega)).2⟩
  · by_cases e : j = i
    · subst e
      rw [upa_same]
      exact ⟨(t.block _ (heap_lt hb) (fun e => ty_ne h.kb hb (by decide) e.symm)).trans hb, hbF⟩
    · rw [upa_ne _ _ e]
      exact ⟨(t.block _ (heap_lt (h.bx j (by omega)).1) (fun e => ty_ne h.kb (h.bx j (by omega)).1 (by decide) e.symm)).trans (h.bx j (by omega)).1, (h.bx j (by omega)).2⟩
  · by_cases ea : a = i
    · by_cases eb : b' = i
      · omega
      · rw [ea, upa_same, upa_ne _ _ eb] at e
        exact absurd e.symm (hn b' (by omega))
    · by_cases eb : b' = i
      · rw [eb, upa_same, upa_ne _ _ ea] at e
        exact absurd e (hn a (by omega))
      · rw [upa_ne _ _ ea, upa_ne _ _ eb] at e
        exact h.inj a b' (by omega) (by omega) e

/-- All is laid. -/
theorem Tw.start (h : Tt w0 w c D P F G KB 4 K I) (hW : w' = w.alloc (.cells zr4 (100 : TypeId))) : ∃ Q, Tw w0 ⟨c, K, I, P, G, KB, F, w.heap.size⟩ 0 Q w' := by
  have b : Below w.heap.size w w' := by rw [hW]; exact (Below.refl _ w).alloc (Nat.le_refl _) _
  have h' := h.below b
  have hT : w'.heap[w.heap.size]? = some (.cells zr4 (100 : TypeId) (0, 0)) := by rw [hW]; exact heap_alloc_new w _
  obtain ⟨o1, o2, o3, o4⟩ := h.od
  have hF := heap_lt h.fb
  have hcn : ((cn trw K).map (Value.int .i64)).toArray = zr4 := by simp [cn, zr4, List.range, List.range.loop]
  have hkt : Kt w0 w' (fun k => k = P ∨ k = G ∨ k = KB ∨ ∃ n, n < 4 ∧ k = I n) c trw 0 K I F w.heap.size (fun _ => em) D := by
    refine ⟨h'.ch, h.ap, fun j hj => ⟨h.sz j hj, by simp⟩, fun j k hj hk => (h.lo j k hj hk).1, fun n hn => (h'.tk n hn).1, h.inj, fun n hn => by have := (h.tk n hn).2; omega, fun n hn => ⟨(h'.bx n hn).1, .inr (.inr (.inr ⟨n, hn, rfl⟩))⟩, by rw [hcn]; exact h'.fb, by rw [hcn]; exact hT, ⟨by omega, by omega, by omega, fun j hj => ⟨fun e => by have := (h.lo j _ hj e).2.1; omega, fun e => by have := (h.lo j _ hj e).2.1; omega⟩⟩, fun k hk => ?_, fun j hj y hy => by simp at hy, fun _ _ => rfl, h'.bel⟩
    rcases hk with rfl | rfl | rfl | ⟨n, hn, rfl⟩
    · have := heap_lt h.pp
      exact ⟨heap_lt h'.pp, fun j hj e => (h.lo j _ hj e).2.2 rfl, by omega, by omega, fun n hn e => ty_ne h.pp (h.tk n hn).1 (by decide) e⟩
    · have := heap_lt h.gb
      exact ⟨heap_lt h'.gb, fun j hj e => by have := (h.lo j _ hj e).2.1; omega, by omega, by omega, fun n hn e => ty_ne h.gb (h.tk n hn).1 (by decide) e⟩
    · have := heap_lt h.kb
      exact ⟨heap_lt h'.kb, fun j hj e => by have := (h.lo j _ hj e).2.1; omega, by omega, by omega, fun n hn e => ty_ne h.kb (h.tk n hn).1 (by decide) e⟩
    · have := heap_lt (h.bx n hn).1
      have := (h.bx n hn).2
      exact ⟨heap_lt (h'.bx n hn).1, fun j hj e => by have := (h.lo j _ hj e).2.1; omega, by omega, by omega, fun n' hn' e => ty_ne (h.bx n hn).1 (h.tk n' hn').1 (by decide) e⟩
  have hGl : w0.heap.size ≤ G := by omega
  refine ⟨_, ⟨_, _, _, hkt⟩, ⟨.inl rfl, .inr (.inl rfl), .inr (.inr (.inl rfl)), hGl⟩, h'.pp, ?_, [0, 0, 0, 0], rfl, h'.gb⟩
  · have := h'.kb
    simpa [kvs] using this
end

end Go.Proofs.YtohndpmjdgfbeaaGreat.CH

/-
  Texts put into one.
-/
import Derived.Test.YtohndpmjdgfbeaaGreatQkd754c0fd
import Derived.Test.YtohndpmjdgfbeaaGreatMxb24d97b7
import Derived.Test.YtohndpmjdgfbeaaGreatQk6b233fe7
import Derived.Test.YtohndpmjdgfbeaaGreatQk733df31d
import Derived.Test.YtohndpmjdgfbeaaGreatMxbc8c1628

/-
  Several wait to receive at one channel, each with a ticket of his own.
-/
namespace Go.Proofs.YtohndpmjdgfbeaaGreat.CH
open Go.RowKit QW
set_option maxRecDepth 100000
set_option linter.unusedSimpArgs false
set_option linter.unusedVariables false

def ups (f : Nat → Nat) (i x : Nat) : Nat → Nat := fun j => if j = i then x else f j
theorem ups_same (f : Nat → Nat) (i x : Nat) : ups f i x i = x := by simp [ups]
theorem ups_ne (f : Nat → Nat) {i j : Nat} (x : Nat) (h : j ≠ i) : ups f i x j = f j := by simp [ups, h]

def F51 : Value := .func (.func 51) #[] #[]
/-- Who waits: the j-th. -/
def wf (K I : Nat → Nat) (GB j : Nat) : Wv := ⟨some ⟨K j, 0, none⟩, 0, .func (.func 52) #[] #[.pointer (some ⟨GB, 0, none⟩), .pointer (some ⟨I j, 0, none⟩)], rfl⟩

/-- i tickets, those of idx wait; Q: blocks that are not turned. -/
structure Fo (w0 w : World) (Q : Nat → Prop) (z : Zc) (A : Nat → Bool) (m i : Nat) (K I : Nat → Nat) (GB : Nat) (g : List Int) (idx : List Nat) (D : Nat → Prop) : Prop where
  zs : z.size = 0
  ch : Ch w A z m ⟨false, [], [], idx.map (wf K I GB)⟩ D
  lo : ∀ k, D k → w0.heap.size ≤ k
  tk : ∀ j, j < i → Tkt w (K j) (if A (K j) then F51 else .nilFunc)
  al : ∀ j ∈ idx, j < i ∧ A (K j) = true
  nd : idx.Nodup
  inj : ∀ a b, a < i → b < i → K a = K b → a = b
  kl : ∀ j, j < i → w0.heap.size ≤ K j
  bx : ∀ j, j < i → w.heap[I j]? = some (.cells #[.int .i64 j] 3 (0, 0)) ∧ Q (I j)
  gb : w.heap[GB]? = some (.cells (g.map (Value.int .i64)).toArray (104 : TypeId) (0, 0))
  gl : g.length = 7
  ng : ¬ D GB ∧ w0.heap.size ≤ GB
  nq : ∀ k, Q k → k < w.heap.size ∧ ¬ D k ∧ k ≠ GB ∧ ∀ j, j < i → k ≠ K j
  ha : ∀ k, w.heap.size ≤ k → A k = true
  bel : Below w0.heap.size w0 w

section
variable {w0 w w' : World} {Q : Nat → Prop} {z : Zc} {A : Nat → Bool} {m i : Nat} {K I : Nat → Nat} {GB : Nat} {g : List Int} {idx : List Nat} {D : Nat → Prop}

theorem Fo.low (h : Fo w0 w Q z A m i K I GB g idx D) : w0.heap.size ≤ w.heap.size := h.bel.size
/-- Other memory was turned. -/
theorem Fo.tb (h : Fo w0 w Q z A m i K I GB g idx D) {S : Nat → Prop} (t : Tb S w w') (hS : ∀ k, S k → ¬ D k ∧ k ≠ GB ∧ (∀ j, j < i → k ≠ K j ∧ k ≠ I j) ∧ w0.heap.size ≤ k ∧ ∀ f, ¬ Tkt w k f) : Fo w0 w' Q z A m i K I GB g idx D := by
  have hkv : Kv w A w' A := Kv.tb A t (fun k f ht e => (hS k e).2.2.2.2 f ht)
  have hz := t.size
  refine ⟨h.zs, h.ch.same t (fun k hk e => (hS k e).1 hk) hkv, h.lo, fun j hj => (h.tk j hj).tb t (fun e => ((hS _ e).2.2.1 j hj).1 rfl), h.al, h.nd, h.inj, h.kl, fun j hj => ⟨(t.block _ (heap_lt (h.bx j hj).1) (fun e => ((hS _ e).2.2.1 j hj).2 rfl)).trans (h.bx j hj).1, (h.bx j hj).2⟩, (t.block _ (heap_lt h.gb) (fun e => (hS _ e).2.1 rfl)).trans h.gb, h.gl, h.ng, fun k hk => ⟨by have := (h.nq k hk).1; omega, (h.nq k hk).2⟩, fun k hk => h.ha k (by omega), h.bel.trans (t.below (fun k hk => (hS k hk).2.2.2.1) h.low)⟩
theorem Fo.below (h : Fo w0 w Q z A m i K I GB g idx D) (hb : Below w.heap.size w w') : Fo w0 w' Q z A m i K I GB g idx D :=
  h.tb (S := fun _ => False) (Tb.of_fresh hb) (fun _ e => e.elim)
/-- Blocks more that are not turned. -/
theorem Fo.more (h : Fo w0 w Q z A m i K I GB g idx D) {N : Nat → Prop} (hN : ∀ k, N k → k < w.heap.size ∧ ¬ D k ∧ k ≠ GB ∧ ∀ j, j < i → k ≠ K j) : Fo w0 w (fun k => Q k ∨ N k) z A m i K I GB g idx D :=
  ⟨h.zs, h.ch, h.lo, h.tk, h.al, h.nd, h.inj, h.kl, fun j hj => ⟨(h.bx j hj).1, .inl (h.bx j hj).2⟩, h.gb, h.gl, h.ng, fun k hk => hk.elim (h.nq k) (hN k), h.ha, h.bel⟩
/-- The line was looked through. -/
theorem Fo.lx (h : Fo w0 w Q z A m i K I GB g idx D) {m' : Nat} {idx' : List Nat} {D' : Nat → Prop} (hc : Ch w' A z m' ⟨false, [], [], idx'.map (wf K I GB)⟩ D') (x : Lx w D w' D') (hi : idx'.Sublist idx) : Fo w0 w' Q z A m' i K I GB g idx' D' ∧ Tb (fun k => ¬ Q k) w w' := by
  have t := x.tb
  have hz := t.size
  have hlt : ∀ k, k < w.heap.size → ¬ D k → ¬ D' k := fun k hk hn e => (x.dom k e).elim hn (fun h' => by omega)
  refine ⟨⟨h.zs, hc, fun k hk => (x.dom k hk).elim (h.lo k) (fun h' => by have := h.low; omega), fun j hj => (h.tk j hj).tb t (h.ch.notk (h.tk j hj)), fun j hj => h.al j (hi.subset hj), h.nd.sublist hi, h.inj, h.kl, fun j hj => ⟨(t.block _ (heap_lt (h.bx j hj).1) (h.nq _ (h.bx j hj).2).2.1).trans (h.bx j hj).1, (h.bx j hj).2⟩, (t.block _ (heap_lt h.gb) h.ng.1).trans h.gb, h.gl, ⟨hlt _ (heap_lt h.gb) h.ng.1, h.ng.2⟩, fun k hk => ?_, fun k hk => h.ha k (by omega), h.bel.trans (t.below (fun k hk => h.lo k hk) h.low)⟩, t.mono (fun k _ hk hq => (h.nq k hq).2.1 hk)⟩
  obtain ⟨q1, q2, q3, q4⟩ := h.nq k hk
  exact ⟨by omega, hlt k q1 q2, q3, q4⟩

theorem cnt_wf (h : Fo w0 w Q z A m i K I GB g idx D) {j : Nat} (hj : j < i) : cnt (K j) (idx.map (wf K I GB)) = idx.count j ∧ wo (K j) (idx.map (wf K I GB)) = (idx.filter (fun x => x != j)).map (wf K I GB) := by
  have hal := h.al
  have hinj := h.inj
  clear h
  induction idx with
  | nil => exact ⟨rfl, rfl⟩
  | cons x r ih =>
    obtain ⟨i1, i2⟩ := ih (fun y hy => hal y (List.mem_cons_of_mem _ hy))
    have hx := (hal x (by simp)).1
    have e : (some (⟨K x, 0, none⟩ : Addr) = some ⟨K j, 0, none⟩) ↔ x = j := ⟨fun e => hinj x j hx hj (by simpa using e), fun e => by rw [e]⟩
    unfold cnt at i1 ⊢
    unfold wo at i2 ⊢
    by_cases hxj : x = j
    · have e' := e.2 hxj
      refine ⟨?_, ?_⟩
      · rw [List.map_cons, List.countP_cons_of_pos (by simpa [wf] using e'), i1, hxj]
        simp
      · rw [List.map_cons, List.filter_cons_of_neg (by simpa [wf] using e'), i2, List.filter_cons_of_neg (by simp [hxj])]
    · have e' := fun h => hxj (e.1 h)
      refine ⟨?_, ?_⟩
      · rw [List.map_cons, List.countP_cons_of_neg (by simpa [wf] using e'), i1, List.count_cons_of_ne (fun h => hxj h)]
      · rw [List.map_cons, List.filter_cons_of_pos (by simpa [wf] using e'), i2, List.filter_cons_of_pos (by simpa using hxj)]
        rfl

/-- One is forgotten. -/
theorem Fo.forget (h : Fo w0 w Q z A m i K I GB g idx D) (hm : m ≤ 1000000) {j : Nat} (hj : j < i) (ha : A (K j) = true) :
    Calls Tryz.prog 37 #[.pointer (some ⟨z.C, 0, none⟩), .pointer (some ⟨K j, 0, none⟩)] w fun e w' => e = .returned (.int .i64 (idx.count j : Int)) ∧ (∃ D', Fo w0 w' Q z A m i K I GB g (idx.filter (fun x => x != j)) D') ∧ Tb (fun k => ¬ Q k) w w' := by
  have ht := h.tk j hj
  rw [ha] at ht
  obtain ⟨c1, c2⟩ := cnt_wf h hj
  refine (forget_ch h.ch hm ht (.inl ⟨ha, _, _, _, rfl⟩)).mono ?_
  rintro e w' ⟨rfl, D', hc, x⟩
  rw [c2] at hc
  obtain ⟨h1, h2⟩ := h.lx hc x List.filter_sublist
  refine ⟨?_, ⟨D', h1⟩, h2⟩
  rw [if_pos ha, c1]
  simp [cnt]
theorem Fo.waits (h : Fo w0 w Q z A m i K I GB g idx D) :
    Calls Tryz.prog 46 #[.pointer (some ⟨z.C, 0, none⟩)] w fun e w' => e = .returned (.tuple #[.int .i64 0, .int .i64 idx.length]) ∧ (∃ D', Fo w0 w' Q z A m i K I GB g idx D') ∧ Tb (fun k => ¬ Q k) w w' := by
  refine (waits_any h.ch).mono ?_
  rintro e w' ⟨rfl, D', hc, x⟩
  obtain ⟨h1, h2⟩ := h.lx hc x (List.Sublist.refl _)
  exact ⟨by simp, ⟨D', h1⟩, h2⟩

/-- One more waits. -/
theorem Fo.join (h : Fo w0 w Q z A m i K I GB g idx D) (hm : m + 1 < Mx) {k b : Nat} (hk : Tkt w k F51) (ha : A k = true) (hkn : ∀ j, j < i → k ≠ K j) (hkl : w0.heap.size ≤ k) (hkQ : ¬ Q k) (hb : w.heap[b]? = some (.cells #[.int .i64 i] 3 (0, 0))) (hbQ : Q b) :
    Calls Tryz.prog 38 #[.pointer (some ⟨z.C, 0, none⟩), .pointer (some ⟨k, 0, none⟩), .func (.func 52) #[] #[.pointer (some ⟨GB, 0, none⟩), .pointer (some ⟨b, 0, none⟩)]] w fun e w' => e = .returned (.int .i64 0) ∧ (∃ D', Fo w0 w' Q z A (m + 1) (i + 1) (ups K i k) (ups I i b) GB g (idx ++ [i]) D') ∧ Tb (fun k => ¬ Q k) w w' := by
  refine (waitRecv_ok h.ch hm hk ha rfl).mono ?_
  rintro e w' ⟨rfl, D', hc, x⟩
  have hne : ∀ j ∈ idx, j ≠ i := fun j hj e => by have := (h.al j hj).1; omega
  have emap : (idx ++ [i]).map (wf (ups K i k) (ups I i b) GB) = idx.map (wf K I GB) ++ [⟨some ⟨k, 0, none⟩, 0, .func (.func 52) #[] #[.pointer (some ⟨GB, 0, none⟩), .pointer (some ⟨b, 0, none⟩)], rfl⟩] := by
    rw [List.map_append]
    congr 1
    · exact List.map_congr_left (fun j hj => by simp [wf, ups_ne _ _ (hne j hj)])
    · simp [wf, ups_same]
  have t := x.tb
  have hz := t.size
  have hlt : ∀ k, k < w.heap.size → ¬ D k → ¬ D' k := fun k hk hn e => (x.dom k e).elim hn (fun h' => by omega)
  have two : ∀ j, j < i + 1 → j < i ∨ j = i := fun j hj => by omega
  have hkT : Tkt w' k F51 := hk.tb t (h.ch.notk hk)
  have hbx : ∀ j, j < i + 1 → w.heap[ups I i b j]? = some (.cells #[.int .i64 j] 3 (0, 0)) ∧ Q (ups I i b j) := fun j hj => by
    rcases two j hj with hj | rfl
    · rw [ups_ne _ _ (by omega)]; exact h.bx j hj
    · rw [ups_same]; exact ⟨hb, hbQ⟩
  refine ⟨rfl, ⟨D', ⟨h.zs, by rw [emap]; exact hc, fun k hk => (x.dom k hk).elim (h.lo k) (fun h' => by have := h.low; omega), fun j hj => ?_, fun j hj => ?_, ?_, fun a c ha' hc' he => ?_, fun j hj => ?_, fun j hj => ⟨(t.block _ (heap_lt (hbx j hj).1) (h.nq _ (hbx j hj).2).2.1).trans (hbx j hj).1, (hbx j hj).2⟩, (t.block _ (heap_lt h.gb) h.ng.1).trans h.gb, h.gl, ⟨hlt _ (heap_lt h.gb) h.ng.1, h.ng.2⟩, fun q hq => ?_, fun k hk => h.ha k (by omega), h.bel.trans (t.below (fun k hk => h.lo k hk) h.low)⟩⟩, t.mono (fun k _ hk hq => (h.nq k hq).2.1 hk)⟩
  · rcases two j hj with hj | rfl
    · rw [ups_ne _ _ (by omega)]; exact (h.tk j hj).tb t (h.ch.notk (h.tk j hj))
    · rw [ups_same, ha]; exact hkT
  · rcases List.mem_append.1 hj with hj | hj
    · rw [ups_ne _ _ (hne j hj)]
      exact ⟨by have := (h.al j hj).1; omega, (h.al j hj).2⟩
    · simp only [List.mem_singleton] at hj
      subst hj
      rw [ups_same]
      exact ⟨by omega, ha⟩
  · rw [List.nodup_append]
    exact ⟨h.nd, by simp, fun a ha b hb => by simp at hb; rw [hb]; exact hne a ha⟩
  · rcases two a ha' with ha' | rfl <;> rcases two c hc' with hc' | rfl
    · rw [ups_ne _ _ (by omega), ups_ne _ _ (by omega)] at he; exact h.inj a c ha' hc' he
    · rw [ups_ne _ _ (by omega), ups_same] at he; exact absurd he.symm (hkn a ha')
    · rw [ups_same, ups_ne _ _ (by omega)] at he; exact absurd he (hkn c hc')
    · rfl
  · rcases two j hj with hj | rfl
    · rw [ups_ne _ _ (by omega)]; exact h.kl j hj
    · rw [ups_same]; exact hkl
  · obtain ⟨q1, q2, q3, q4⟩ := h.nq q hq
    refine ⟨by omega, hlt q q1 q2, q3, fun j hj => ?_⟩
    rcases two j hj with hj | rfl
    · rw [ups_ne _ _ (by omega)]; exact q4 j hj
    · rw [ups_same]; exact fun e => hkQ (e ▸ hq)

/-- A ticket fires. -/
theorem Kv.fires {S : Nat → Prop} {k : Nat} (t : Tb S w w') (hs : ∀ i f, Tkt w i f → S i → i = k) (hk : Tkt w' k .nilFunc) : Kv w A w' (fire A k) := fun x hx => by
  obtain ⟨j, f, hx1, ht, hal⟩ := hx
  by_cases e : j = k
  · subst e
    refine ⟨⟨j, _, hx1, hk, .inr ⟨by simp [fire], rfl⟩⟩, fun e => ?_⟩
    unfold QW.al at e
    rw [hx1] at e
    simp [fire] at e
  · refine ⟨⟨j, f, hx1, ht.tb t (fun h => e (hs j f ht h)), by simpa [fire, e] using hal⟩, fun e2 => ?_⟩
    unfold QW.al at e2 ⊢
    rw [hx1] at e2 ⊢
    simpa [fire, e] using e2
end

theorem ent51 : Ent 51 := fun _ _ => by go_simp
theorem ent52 : Ent 52 := fun _ _ => by go_simp

/-- What a receiver is told. -/
theorem f52_any {w : World} {GB b j : Nat} {g : List Int} (hg : w.heap[GB]? = some (.cells (g.map (Value.int .i64)).toArray (104 : TypeId) (0, 0))) (hl : g.length = 7) (hb : w.heap[b]? = some (.cells #[.int .i64 j] 3 (0, 0))) (hj : j < 7) (v : Int) (ok : Bool) :
    Calls Tryz.prog 52 #[.int .i64 v, .bool ok, .pointer (some ⟨GB, 0, none⟩), .pointer (some ⟨b, 0, none⟩)] w fun e w' => e = .returned (.tuple #[]) ∧ w' = w.setCell ⟨GB, j, none⟩ (.int .i64 v) := by
  have c0 := cell_of_row _ _ 0 _ _ _ hb
  have cj : w.cell? ⟨GB, j, none⟩ = some (.int .i64 (g.getD j 0)) := by
    rw [cell_of_row _ _ j _ _ _ hg]
    simp [List.getD, List.getElem?_eq_getElem (show j < g.length by omega)]
  have fj := frozen_of_row _ _ j _ _ hg
  clear hg hb
  go_enter Tryz.func52, Tryz.ntmps52
  go_wp2_with fail
  go_end0
  exact ⟨rfl, rfl⟩
theorem f51_any (w : World) : Calls Tryz.prog 51 #[] w fun e w' => e = .returned (.tuple #[]) ∧ w' = w := by
  go_enter Tryz.func51, Tryz.ntmps51
  go_wp2_with fail
  go_end0
  exact ⟨rfl, rfl⟩

section
variable {w0 w w' : World} {Q : Nat → Prop} {z : Zc} {A : Nat → Bool} {m i : Nat} {K I : Nat → Nat} {GB : Nat} {g : List Int} {idx : List Nat} {D : Nat → Prop}
/-- Nobody waits: nothing can be sent. -/
theorem Fo.sendNo (h : Fo w0 w Q z A m i K I GB g [] D) (v : Int) :
    Calls Tryz.prog 29 #[.pointer (some ⟨z.C, 0, none⟩), .int .i64 v] w fun e w' => e = .returned (.tuple #[.bool false, .bool false]) ∧ (∃ D', Fo w0 w' Q z A m i K I GB g [] D') ∧ Tb (fun k => ¬ Q k) w w' := by
  have CS := canSend_any h.ch (kp := none) (.inl rfl)
  have hcs : canS z ⟨false, [], [], ([] : List Nat).map (wf K I GB)⟩ none = false := by simp [canS, h.zs, oth]
  rw [hcs] at CS
  refine (trySend_gen (v := v) false true (fun V => ∃ D', Ch V A z m ⟨false, [], [], ([] : List Nat).map (wf K I GB)⟩ D' ∧ Lx w D V D') (fun w' => (∃ D', Fo w0 w' Q z A m i K I GB g [] D') ∧ Tb (fun k => ¬ Q k) w w') (cmade_yes h.ch) CS (fun e => by cases e) (fun _ V hV => ?_)).mono ?_
  · obtain ⟨D', hc, x⟩ := hV
    obtain ⟨h1, h2⟩ := h.lx hc x (List.Sublist.refl _)
    exact ⟨⟨D', h1⟩, h2⟩
  · rintro e w' ⟨rfl, hq⟩
    exact ⟨rfl, hq⟩
/-- The first who waits is served. -/
theorem Fo.send {j : Nat} {r : List Nat} (h : Fo w0 w Q z A m i K I GB g (j :: r) D) (hi : i ≤ 7) (v : Int) :
    Calls Tryz.prog 29 #[.pointer (some ⟨z.C, 0, none⟩), .int .i64 v] w fun e w' => e = .returned (.tuple #[.bool true, .bool true]) ∧ (∃ D', Fo w0 w' Q z (fire A (K j)) m i K I GB (g.set j v) r D') ∧ Tb (fun k => ¬ Q k) w w' := by
  obtain ⟨hji, haj⟩ := h.al j (by simp)
  have CS := canSend_any h.ch (kp := none) (.inl rfl)
  have hcs : canS z ⟨false, [], [], (j :: r).map (wf K I GB)⟩ none = true := by simp [canS, oth, wf]
  rw [hcs] at CS
  refine (trySend_gen (v := v) true true (fun V => ∃ D', Ch V A z m ⟨false, [], [], (j :: r).map (wf K I GB)⟩ D' ∧ Lx w D V D') (fun w' => (∃ D', Fo w0 w' Q z (fire A (K j)) m i K I GB (g.set j v) r D') ∧ Tb (fun k => ¬ Q k) w w') (cmade_yes h.ch) CS (fun _ V hV => ?_) (fun e => by cases e)).mono ?_
  · obtain ⟨D1, hc1, x1⟩ := hV
    refine (sendNow_serve hc1 rfl (y := wf K I GB j) (r := r.map (wf K I GB)) rfl (fun V1 D2 hc2 x2 => ?_)).mono (fun e w' h => h)
    obtain ⟨f1, t1⟩ := h.lx (idx' := r) hc2 (x1.trans x2) (List.sublist_cons_self j r)
    have htk := f1.tk j hji
    rw [haj] at htk
    refine serve_live (x := wf K I GB j) rfl htk rfl ent51 ent52 (fun V2 tK hK => ?_)
    have hGK : GB ≠ K j := fun e => by
      unfold Tkt at htk
      rw [← e, f1.gb] at htk
      simp only [if_true, Option.some.injEq, Obj.cells.injEq] at htk
      exact absurd htk.2.1 (by decide)
    have hIK : I j ≠ K j := fun e => (f1.nq _ (f1.bx j hji).2).2.2.2 j hji e
    have hg2 := (tK.block GB (heap_lt f1.gb) hGK).trans f1.gb
    have hb2 := (tK.block (I j) (heap_lt (f1.bx j hji).1) hIK).trans (f1.bx j hji).1
    refine (f52_any hg2 f1.gl hb2 (by omega) v true).mono ?_
    rintro e w2 ⟨rfl, hw2⟩
    refine ⟨rfl, (f51_any w2).mono ?_⟩
    rintro e w3 ⟨rfl, hw3⟩
    rw [hw2] at hw3
    have tG : Tb (fun k => k = GB) V2 w3 := by rw [hw3]; exact Tb.set GB j _ rfl
    have t3 : Tb (fun k => k = K j ∨ k = GB) V1 w3 := (show Tb (fun k => k = K j ∨ k = GB) V1 V2 from tK.mono (fun _ _ e => .inl e)).trans tG (fun k _ e => .inr e)
    have hz3 := t3.size
    have hGB3 : w3.heap[GB]? = some (.cells ((g.set j v).map (Value.int .i64)).toArray (104 : TypeId) (0, 0)) := by
      rw [hw3, heap_setCell_same V2 GB j _ _ _ hg2]
      simp
    have hK3 : Tkt w3 (K j) .nilFunc := hK.tb tG (fun e => hGK e.symm)
    have hnr : ∀ x ∈ r, K x ≠ K j := fun x hx e => by
      have hx1 := (f1.al x hx).1
      have := f1.inj x j hx1 hji e
      subst this
      exact (List.nodup_cons.1 h.nd).1 hx
    have hkv : Kv V1 A w3 (fire A (K j)) := Kv.fires t3 (fun q f hq e => e.elim id (fun e => by
      subst e
      unfold Tkt at hq
      rw [f1.gb] at hq
      simp only [Option.some.injEq, Obj.cells.injEq] at hq
      exact absurd hq.2.1 (by decide))) hK3
    have hnD : ∀ k, D2 k → ¬ (k = K j ∨ k = GB) := fun k hk e => e.elim (fun e => f1.ch.notk htk (e ▸ hk)) (fun e => f1.ng.1 (e ▸ hk))
    have hc3 := f1.ch.keep t3 hnD hkv
    have efil : (r.map (wf K I GB)).filter (QW.al (fire A (K j))) = r.map (wf K I GB) := List.filter_eq_self.2 (fun x hx => by
      obtain ⟨y, hy, rfl⟩ := List.mem_map.1 hx
      simp [QW.al, wf, fire, hnr y hy, (f1.al y hy).2])
    simp only [List.filter_nil, efil] at hc3
    refine ⟨rfl, ⟨D2, ⟨h.zs, hc3, f1.lo, fun q hq => ?_, fun x hx => ⟨(f1.al x hx).1, by simp [fire, hnr x hx, (f1.al x hx).2]⟩, f1.nd, f1.inj, f1.kl, fun q hq => ⟨(t3.block _ (heap_lt (f1.bx q hq).1) (fun e => ?_)).trans (f1.bx q hq).1, (f1.bx q hq).2⟩, hGB3, by simpa using f1.gl, f1.ng, fun k hk => ⟨by have := (f1.nq k hk).1; omega, (f1.nq k hk).2⟩, fun k hk => ?_, f1.bel.trans (t3.below (fun k hk => ?_) f1.low)⟩⟩, t1.trans t3 (fun k _ e hq => ?_)⟩
    · by_cases e : K q = K j
      · have := f1.inj q j hq hji e
        subst this
        simp only [fire, if_true, Bool.false_eq_true, if_false]
        exact hK3
      · have := (f1.tk q hq).tb t3 (fun e' => e'.elim e (fun e' => by
          have h1 := f1.tk q hq
          unfold Tkt at h1
          rw [e', f1.gb] at h1
          simp only [Option.some.injEq, Obj.cells.injEq] at h1
          exact absurd h1.2.1 (by decide)))
        simpa [fire, e] using this
    · rcases e with e | e
      · exact (f1.nq _ (f1.bx q hq).2).2.2.2 j hji e
      · exact (f1.nq _ (f1.bx q hq).2).2.2.1 e
    · have : k ≠ K j := fun e => by have := htk.lt; omega
      simp [fire, this]
      exact f1.ha k (by omega)
    · rcases hk with rfl | rfl
      · exact f1.kl j hji
      · exact f1.ng.2
    · obtain ⟨q1, q2, q3, q4⟩ := f1.nq k hq
      exact e.elim (q4 j hji) q3
  · rintro e w' ⟨rfl, hq⟩
    exact ⟨rfl, hq⟩
end

end Go.Proofs.YtohndpmjdgfbeaaGreat.CH

/-
  ChansForget: the tale.
-/
namespace Go.Proofs.YtohndpmjdgfbeaaGreat.CH
open Go.RowKit QW
set_option maxRecDepth 100000
set_option linter.unusedSimpArgs false
set_option linter.unusedVariables false

/-- Who is not forgotten, of the first n. -/
def lft (ks : List Int) (n : Nat) : List Nat := (List.range n).filter fun j => decide ((j : Int) ∉ ks)
/-- How many of them stand ahead of j. -/
def ahd (ks : List Int) (j : Nat) : Nat := (lft ks j).length
theorem ahd_succ (ks : List Int) (j : Nat) : ahd ks (j + 1) = ahd ks j + if (j : Int) ∈ ks then 0 else 1 := by
  unfold ahd lft
  rw [List.range_succ, List.filter_append]
  by_cases h : (j : Int) ∈ ks <;> simp [h]
theorem ahd_mono (ks : List Int) {i j : Nat} (h : i ≤ j) : ahd ks i ≤ ahd ks j := by
  induction j with
  | zero =>
    obtain rfl : i = 0 := by omega
    exact Nat.le_refl _
  | succ j ih =>
    rcases Nat.lt_or_ge i (j + 1) with h1 | h1
    · have := ih (by omega)
      rw [ahd_succ]
      omega
    · obtain rfl : i = j + 1 := by omega
      exact Nat.le_refl _
theorem lft_succ (ks : List Int) (n : Nat) : lft ks (n + 1) = lft ks n ++ if (n : Int) ∈ ks then [] else [n] := by
  unfold lft
  rw [List.range_succ, List.filter_append]
  by_cases h : (n : Int) ∈ ks <;> simp [h]
theorem lft_get (ks : List Int) (n : Nat) : ∀ {j : Nat}, j < n → (j : Int) ∉ ks → (lft ks n)[ahd ks j]? = some j := by
  induction n with
  | zero => intro j hj; omega
  | succ n ih =>
    intro j hj hk
    rw [lft_succ]
    rcases Nat.lt_or_ge j n with h | h
    · have := ih h hk
      rw [List.getElem?_append_left (List.getElem?_eq_some_iff.1 this).1]
      exact this
    · obtain rfl : j = n := by omega
      rw [if_neg hk]
      unfold ahd
      simp
theorem lft_put (ks : List Int) (n j : Nat) : (lft ks n).filter (fun x => x != j) = lft ((j : Int) :: ks) n := by
  unfold lft
  rw [List.filter_filter]
  refine List.filter_congr (fun x _ => ?_)
  by_cases h : x = j
  · subst h; simp
  · have : (x : Int) ≠ (j : Int) := by omega
    simp [h, this]
theorem lft_nodup (ks : List Int) (n : Nat) : (lft ks n).Nodup := (List.nodup_range).sublist List.filter_sublist
theorem lft_nil (n : Nat) : lft [] n = List.range n := by
  unfold lft
  exact List.filter_eq_self.2 (fun x _ => by simp)
theorem mem_lft {ks : List Int} {n j : Nat} : j ∈ lft ks n ↔ j < n ∧ (j : Int) ∉ ks := by
  unfold lft
  simp
theorem nd_count {l : List Nat} {j : Nat} (h : l.Nodup) (hj : j ∈ l) : l.count j = 1 := by
  induction l with
  | nil => cases hj
  | cons x r ih =>
    obtain ⟨h1, h2⟩ := List.nodup_cons.1 h
    by_cases e : x = j
    · subst e
      rw [List.count_cons_self, List.count_eq_zero.2 h1]
    · rw [List.count_cons_of_ne e]
      exact ih h2 (by rcases List.mem_cons.1 hj with h' | h'; exact absurd h'.symm e; exact h')
theorem lft_count {ks : List Int} {n j : Nat} (hj : j < n) : (lft ks n).count j = if (j : Int) ∈ ks then 0 else 1 := by
  by_cases h : (j : Int) ∈ ks
  · rw [if_pos h, List.count_eq_zero]
    exact fun e => (mem_lft.1 e).2 h
  · rw [if_neg h]
    exact nd_count (lft_nodup ks n) (mem_lft.2 ⟨hj, h⟩)
theorem lft_len {ks : List Int} {n : Nat} (hn : ks.Nodup) (hk : ∀ k ∈ ks, ∃ j : Nat, k = (j : Int) ∧ j < n) : (lft ks n).length + ks.length = n := by
  induction ks with
  | nil => rw [lft_nil]; simp
  | cons k ks ih =>
    obtain ⟨h1, h2⟩ := List.nodup_cons.1 hn
    obtain ⟨j, rfl, hj⟩ := hk k (by simp)
    have := ih h2 (fun x hx => hk x (List.mem_cons_of_mem _ hx))
    rw [← lft_put]
    have hc := lft_count (ks := ks) hj
    rw [if_neg h1] at hc
    have hf : ((lft ks n).filter (fun x => x != j)).length + (lft ks n).count j = (lft ks n).length := by
      generalize lft ks n = l
      induction l with
      | nil => rfl
      | cons x r ih2 =>
        by_cases e : x = j
        · subst e
          simp
          omega
        · simp [e]
          omega
    simp only [List.length_cons]
    omega

/-- What was told, s values sent. -/
def gots (ks : List Int) (n s : Nat) (j : Nat) : Int := if (j : Int) ∉ ks ∧ j < n ∧ ahd ks j < s then (ahd ks j : Int) + 1 else 0
theorem gots_zero (ks : List Int) (n j : Nat) : gots ks n 0 j = 0 := by unfold gots; simp
theorem gots_succ (ks : List Int) (n s : Nat) {x : Nat} (hx : (lft ks n)[s]? = some x) (j : Nat) : gots ks n (s + 1) j = if j = x then ((s : Int) + 1) else gots ks n s j := by
  have hm := mem_lft.1 (List.mem_of_getElem? hx)
  have hg := lft_get ks n hm.1 hm.2
  have ex : ahd ks x = s := by
    have h1 := (List.getElem?_eq_some_iff.1 hg).1
    exact (List.getElem?_inj h1 (lft_nodup ks n)).1 (hg.trans hx.symm)
  unfold gots
  by_cases e : j = x
  · subst e
    rw [if_pos ⟨hm.2, hm.1, by omega⟩, if_pos rfl, ex]
  · rw [if_neg e]
    by_cases h : (j : Int) ∉ ks ∧ j < n
    · have hgj := lft_get ks n h.2 h.1
      have hne : ahd ks j ≠ s := fun e' => by
        rw [e', hx] at hgj
        exact e (Option.some.inj hgj).symm
      by_cases h2 : ahd ks j < s
      · rw [if_pos ⟨h.1, h.2, by omega⟩, if_pos ⟨h.1, h.2, h2⟩]
      · rw [if_neg (fun h' => by omega), if_neg (fun h' => h2 h'.2.2)]
    · rw [if_neg (fun h' => h ⟨h'.1, h'.2.1⟩), if_neg (fun h' => h ⟨h'.1, h'.2.1⟩)]

end Go.Proofs.YtohndpmjdgfbeaaGreat.CH

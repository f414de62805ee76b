/-
  Texts put into one.
-/
import Derived.Test.YtgjpbekmkhanhaaGreatMxedb75a4e

/-
  ChansOrder's tale: what is kept from step to step.
-/
namespace Go.Proofs.YtgjpbekmkhanhaaGreat.CG
open Go.RowKit QW CH
set_option maxRecDepth 100000
set_option linter.unusedSimpArgs false
set_option linter.unusedVariables false

/-- Sender i's values; how many of them were let in; what a task is to be told. -/
def cls (i : Nat) (v : Int) : Bool := decide (v / 100 = (i : Int))
def val (i n : Nat) : Int := 100 * (i : Int) + n
def acc (p : Pt) : Nat := if p.st = 2 ∨ p.st = 3 then p.at' - 1 else min p.at' 6
def pnd (p : Pt) : Option Int := if p.st = 1 ∧ p.td.2.2 = true then some p.td.2.1 else none
def pend (nS : Nat) (σ : Sg) : List Int := (σ.tk.drop nS).filterMap pnd
def ats (σ : Sg) : List Nat := σ.tk.map Pt.at'

def Snp (p : Pt) : Prop := (p.st = 0 ∧ p.at' = 7) ∨ (p.st = 1 ∧ p.at' ≤ 6 ∧ p.td.2.2 = decide (0 < p.at')) ∨ (p.st = 2 ∧ 1 ≤ p.at' ∧ p.at' ≤ 7) ∨ (p.st = 3 ∧ 1 ≤ p.at' ∧ p.at' ≤ 6)
def Rcp (p : Pt) : Prop := (p.st = 1 ∧ p.td.2.2 = decide (0 < p.at')) ∨ (p.st = 2 ∧ 1 ≤ p.at') ∨ (p.st = 3 ∧ 1 ≤ p.at')

structure Oj (nS nR sz : Nat) (σ : Sg) (dl : List Int) : Prop where
  tn : σ.tk.length = nS + nR
  cn : σ.ch = [σ.c 0]
  cl : (σ.c 0).cl = false
  cz : (σ.c 0).sz = sz
  sT : ∀ i, i < nS → Snp (σ.p i)
  rT : ∀ j, nS ≤ j → j < nS + nR → Rcp (σ.p j)
  w1 : (σ.c 0).rcv ≠ [] → (σ.c 0).snd = [] ∧ (σ.c 0).buf = []
  w2 : (σ.c 0).snd ≠ [] → (σ.c 0).buf.length = sz
  bl : (σ.c 0).buf.length ≤ sz
  sq : ∀ x ∈ (σ.c 0).snd, x.1 < nS ∧ (σ.p x.1).st = 3 ∧ x.2 = val x.1 ((σ.p x.1).at' - 1)
  rq : ∀ x ∈ (σ.c 0).rcv, nS ≤ x ∧ x < nS + nR ∧ (σ.p x).st = 3
  sw : ∀ i, i < nS → (σ.p i).st = 3 → i ∈ (σ.c 0).snd.map Prod.fst
  rw' : ∀ j, nS ≤ j → j < nS + nR → (σ.p j).st = 3 → j ∈ (σ.c 0).rcv
  hi : ∀ i, i < nS → (dl ++ (σ.c 0).buf).filter (cls i) = (List.range (acc (σ.p i))).map (val i)
  ha : ∀ v ∈ dl ++ (σ.c 0).buf, ∃ i, i < nS ∧ cls i v = true
  pn : (gotL nS σ.ev ++ pend nS σ).Perm dl
  p1 : nR = 1 → gotL nS σ.ev ++ pend nS σ = dl
  el : σ.ev.length = (ats σ).sum
  tl : toldN nS σ.ev = (((ats σ).take nS).map fun n => n - 1).sum
  gl : (gotL nS σ.ev).length = (((ats σ).drop nS).map fun n => n - 1).sum

section
variable {nS nR sz : Nat} {σ τ : Sg} {dl : List Int} {i j : Nat} {p q : Pt}

theorem cls_val {i k n : Nat} (hn : n < 6) : cls k (val i n) = decide (k = i) := by
  unfold cls val
  have : (100 * (i : Int) + n) / 100 = i := by omega
  rw [this]
  by_cases e : k = i
  · simp [e]
  · simp [e]; omega
theorem range_succ_map (f : Nat → Int) (n : Nat) : (List.range (n + 1)).map f = (List.range n).map f ++ [f n] := by rw [List.range_succ, List.map_append]; rfl
/-- A value more is let in. -/
theorem hist_push {l : List Int} {nS : Nat} {a a' : Nat → Nat} {i : Nat} (h : ∀ k, k < nS → l.filter (cls k) = (List.range (a k)).map (val k)) (hi : i < nS) (hn : a i < 6) (h1 : a' i = a i + 1) (h2 : ∀ k, k ≠ i → a' k = a k) : ∀ k, k < nS → (l ++ [val i (a i)]).filter (cls k) = (List.range (a' k)).map (val k) := by
  intro k hk
  rw [List.filter_append, h k hk]
  by_cases e : k = i
  · subst e
    rw [h1, range_succ_map]
    simp [cls_val hn]
  · rw [h2 k e]
    simp [cls_val hn, e]
theorem val_in {i : Nat} {nS n : Nat} (hi : i < nS) (hn : n < 6) : ∃ k, k < nS ∧ cls k (val i n) = true := ⟨i, hi, by simp [cls_val hn]⟩

theorem set_p (hi : i < σ.tk.length) (q : Pt) (k : Nat) (hτ : τ.tk = σ.tk.set i q) : τ.p k = if k = i then q else σ.p k := by
  unfold Sg.p
  rw [hτ]
  by_cases e : k = i
  · subst e
    simp [List.getD, hi]
  · rw [if_neg e]
    simp [List.getD, List.getElem?_set, show ¬ i = k from fun h => e h.symm]
theorem set_ats (hi : i < σ.tk.length) (hτ : τ.tk = σ.tk.set i q) (he : q.at' = (σ.p i).at') : ats τ = ats σ := by
  unfold ats
  rw [hτ, List.map_set]
  apply List.ext_getElem?
  intro k
  rw [List.getElem?_set]
  by_cases e : i = k
  · subst e
    simp [hi, he, Sg.p, List.getD]
  · simp [e]
theorem fm_set {l : List Pt} {k : Nat} {p q : Pt} (h : l[k]? = some p) : ∃ u v, l.filterMap pnd = u ++ (pnd p).toList ++ v ∧ (l.set k q).filterMap pnd = u ++ (pnd q).toList ++ v ∧ (l.length = 1 → u = [] ∧ v = []) := by
  induction l generalizing k with
  | nil => simp at h
  | cons x l ih =>
    cases k with
    | zero =>
      simp only [List.getElem?_cons_zero, Option.some.injEq] at h
      subst h
      refine ⟨[], l.filterMap pnd, ?_, ?_, fun hl => ⟨rfl, ?_⟩⟩
      · rw [List.filterMap_cons]
        cases pnd x <;> simp
      · simp only [List.set_cons_zero]
        rw [List.filterMap_cons]
        cases pnd q <;> simp
      · have : l = [] := List.eq_nil_of_length_eq_zero (by simpa using hl)
        rw [this]; rfl
    | succ k =>
      simp only [List.getElem?_cons_succ] at h
      obtain ⟨u, v, h1, h2, h3⟩ := ih h
      refine ⟨(pnd x).toList ++ u, v, ?_, ?_, fun hl => ?_⟩
      · rw [List.filterMap_cons, h1]
        cases pnd x <;> simp
      · simp only [List.set_cons_succ]
        rw [List.filterMap_cons, h2]
        cases pnd x <;> simp
      · have : l = [] := List.eq_nil_of_length_eq_zero (by simpa using hl)
        rw [this] at h
        simp at h
theorem pend_low (hi : i < nS) (hτ : τ.tk = σ.tk.set i q) : pend nS τ = pend nS σ := by
  unfold pend
  rw [hτ, List.drop_set, if_pos hi]
theorem pend_high (hi : nS ≤ i) (hl : i < σ.tk.length) (hτ : τ.tk = σ.tk.set i q) : ∃ u v, pend nS σ = u ++ (pnd (σ.p i)).toList ++ v ∧ pend nS τ = u ++ (pnd q).toList ++ v ∧ (σ.tk.length = nS + 1 → u = [] ∧ v = []) := by
  unfold pend
  rw [hτ, List.drop_set, if_neg (by omega)]
  have hg : (σ.tk.drop nS)[i - nS]? = some (σ.p i) := by
    rw [List.getElem?_drop, show nS + (i - nS) = i by omega]
    simp [Sg.p, List.getD, hl]
  obtain ⟨u, v, h1, h2, h3⟩ := fm_set (q := q) hg
  exact ⟨u, v, h1, h2, fun e => h3 (by rw [List.length_drop]; omega)⟩
theorem sum_set {l : List Nat} {k a b : Nat} (f : Nat → Nat) (h : l[k]? = some a) : ((l.set k b).map f).sum + f a = (l.map f).sum + f b := by
  induction l generalizing k with
  | nil => simp at h
  | cons x l ih =>
    cases k with
    | zero =>
      simp only [List.getElem?_cons_zero, Option.some.injEq] at h
      subst h
      simp
      omega
    | succ k =>
      simp only [List.getElem?_cons_succ] at h
      have := ih h
      simp only [List.set_cons_succ, List.map_cons, List.sum_cons]
      omega

theorem told_n {ev : List (Nat × Nat × Tld)} {e : Nat × Nat × Tld} : toldN nS (ev ++ [e]) = toldN nS ev + (if decide (e.1 < nS) && e.2.2.2.2 then 1 else 0) := told_one (o := ⟨0, 0, 0, 0, 0, 0, 0, nS⟩)
theorem got_n {ev : List (Nat × Nat × Tld)} {e : Nat × Nat × Tld} : gotL nS (ev ++ [e]) = gotL nS ev ++ (if !decide (e.1 < nS) && e.2.2.2.2 then [e.2.2.2.1] else []) := got_one (o := ⟨0, 0, 0, 0, 0, 0, 0, nS⟩)

/-- A turn begins: the first phase of a step. -/
theorem Oj.begins (h : Oj nS nR sz σ dl) (hil : i < σ.tk.length) (hst : (σ.p i).st = 1) {ln : List Int} (hτ : τ = { σ with line := ln, tk := σ.tk.set i ⟨(σ.p i).at' + 1, 2, (σ.p i).td, false⟩, ev := σ.ev ++ [(i, (σ.p i).at', (σ.p i).td)] }) : Oj nS nR sz τ dl := by
  have etk : τ.tk = σ.tk.set i ⟨(σ.p i).at' + 1, 2, (σ.p i).td, false⟩ := by rw [hτ]
  have ec : τ.c 0 = σ.c 0 := by rw [hτ]; rfl
  have ech : τ.ch = σ.ch := by rw [hτ]
  have eev : τ.ev = σ.ev ++ [(i, (σ.p i).at', (σ.p i).td)] := by rw [hτ]
  have ep : ∀ k, τ.p k = if k = i then ⟨(σ.p i).at' + 1, 2, (σ.p i).td, false⟩ else σ.p k := fun k => set_p hil _ k etk
  have hne : ∀ k, (σ.p k).st = 3 → k ≠ i := fun k hk e => by rw [e, hst] at hk; cases hk
  have eats : ats τ = (ats σ).set i ((σ.p i).at' + 1) := by unfold ats; rw [etk, List.map_set]
  have hai : (ats σ)[i]? = some (σ.p i).at' := by simp [ats, Sg.p, List.getD, hil]
  have hid : i < nS ∨ nS ≤ i := by omega
  have hok : (σ.p i).td.2.2 = decide (0 < (σ.p i).at') := by
    rcases hid with hi | hi
    · rcases h.sT i hi with ⟨e, _⟩ | ⟨_, _, e⟩ | ⟨e, _⟩ | ⟨e, _⟩
      · omega
      · exact e
      · omega
      · omega
    · rcases h.rT i hi (by rw [← h.tn]; exact hil) with ⟨_, e⟩ | ⟨e, _⟩ | ⟨e, _⟩
      · exact e
      · omega
      · omega
  refine ⟨by rw [etk, List.length_set]; exact h.tn, by rw [ech, ec]; exact h.cn, by rw [ec]; exact h.cl, by rw [ec]; exact h.cz, fun k hk => ?_, fun k hk1 hk2 => ?_, by rw [ec]; exact h.w1, by rw [ec]; exact h.w2, by rw [ec]; exact h.bl, fun x hx => ?_, fun x hx => ?_, fun k hk hs => ?_, fun k hk1 hk2 hs => ?_, fun k hk => ?_, by rw [ec]; exact h.ha, ?_, fun h1 => ?_, ?_, ?_, ?_⟩
  · rw [ep]
    by_cases e : k = i
    · subst e
      rw [if_pos rfl]
      rcases h.sT k hk with ⟨e, _⟩ | ⟨_, e2, _⟩ | ⟨e, _⟩ | ⟨e, _⟩
      · omega
      · exact .inr (.inr (.inl ⟨rfl, by simp, by simpa using e2⟩))
      · omega
      · omega
    · rw [if_neg e]; exact h.sT k hk
  · rw [ep]
    by_cases e : k = i
    · rw [if_pos e]; exact .inr (.inl ⟨rfl, by simp⟩)
    · rw [if_neg e]; exact h.rT k hk1 hk2
  · rw [ec] at hx
    obtain ⟨q1, q2, q3⟩ := h.sq x hx
    rw [ep, if_neg (hne _ q2)]
    exact ⟨q1, q2, q3⟩
  · rw [ec] at hx
    obtain ⟨q1, q2, q3⟩ := h.rq x hx
    rw [ep, if_neg (hne _ q3)]
    exact ⟨q1, q2, q3⟩
  · rw [ec]
    rw [ep] at hs
    by_cases e : k = i
    · rw [if_pos e] at hs; cases hs
    · rw [if_neg e] at hs; exact h.sw k hk hs
  · rw [ec]
    rw [ep] at hs
    by_cases e : k = i
    · rw [if_pos e] at hs; cases hs
    · rw [if_neg e] at hs; exact h.rw' k hk1 hk2 hs
  · rw [ec, h.hi k hk, ep]
    by_cases e : k = i
    · subst e
      rw [if_pos rfl]
      have : acc (σ.p k) = (σ.p k).at' := by
        rcases h.sT k hk with ⟨e, _⟩ | ⟨_, e2, _⟩ | ⟨e, _⟩ | ⟨e, _⟩
        · omega
        · unfold acc; rw [if_neg (by omega)]; omega
        · omega
        · omega
      rw [this]
      rfl
    · rw [if_neg e]
  · rw [eev, got_n]
    rcases hid with hi | hi
    · rw [pend_low hi etk]
      simp only [hi, decide_true, Bool.not_true, Bool.false_and, Bool.false_eq_true, if_false, List.append_nil]
      exact h.pn
    · obtain ⟨u, v, e1, e2, _⟩ := pend_high (nS := nS) hi hil etk
      have hpn := h.pn
      rw [e1] at hpn
      rw [e2]
      have e3 : pnd ⟨(σ.p i).at' + 1, 2, (σ.p i).td, false⟩ = none := by simp [pnd]
      rw [e3]
      have hni : ¬ i < nS := by omega
      cases ho : (σ.p i).td.2.2 with
      | false =>
        have e4 : pnd (σ.p i) = none := by simp [pnd, ho]
        rw [e4] at hpn
        simpa [hni, ho] using hpn
      | true =>
        have e4 : pnd (σ.p i) = some (σ.p i).td.2.1 := by simp [pnd, ho, hst]
        rw [e4] at hpn
        simp only [hni, ho, decide_false, Bool.not_false, Bool.and_self, if_true, Option.toList_none, Option.toList_some, List.append_nil] at hpn ⊢
        refine List.Perm.trans ?_ hpn
        simp only [List.append_assoc]
        refine List.Perm.append_left _ ?_
        simp only [List.cons_append, List.nil_append]
        exact List.perm_middle.symm
  · rw [eev, got_n]
    rcases hid with hi | hi
    · rw [pend_low hi etk]
      simp only [hi, decide_true, Bool.not_true, Bool.false_and, Bool.false_eq_true, if_false, List.append_nil]
      exact h.p1 h1
    · obtain ⟨u, v, e1, e2, e5⟩ := pend_high (nS := nS) hi hil etk
      obtain ⟨rfl, rfl⟩ := e5 (by rw [h.tn, h1])
      have hpn := h.p1 h1
      rw [e1] at hpn
      rw [e2]
      have e3 : pnd ⟨(σ.p i).at' + 1, 2, (σ.p i).td, false⟩ = none := by simp [pnd]
      rw [e3]
      have hni : ¬ i < nS := by omega
      cases ho : (σ.p i).td.2.2 with
      | false =>
        have e4 : pnd (σ.p i) = none := by simp [pnd, ho]
        rw [e4] at hpn
        simpa [hni, ho] using hpn
      | true =>
        have e4 : pnd (σ.p i) = some (σ.p i).td.2.1 := by simp [pnd, ho, hst]
        rw [e4] at hpn
        simpa [hni, ho] using hpn
  · rw [eev, eats, List.length_append, h.el]
    have := sum_set (b := (σ.p i).at' + 1) id hai
    simp at this ⊢
    omega
  · rw [eev, eats, told_n, h.tl]
    simp only [List.take_set]
    rcases hid with hi | hi
    · have hg : ((ats σ).take nS)[i]? = some (σ.p i).at' := by rw [List.getElem?_take, if_pos hi]; exact hai
      have := sum_set (b := (σ.p i).at' + 1) (fun n => n - 1) hg
      rw [hok]
      simp only [hi, decide_true, Bool.true_and, decide_eq_true_eq] at this ⊢
      split <;> omega
    · have : ((ats σ).take nS).set i ((σ.p i).at' + 1) = (ats σ).take nS := List.set_eq_of_length_le (by rw [List.length_take]; omega)
      rw [this]
      simp [show ¬ i < nS by omega]
  · rw [eev, eats, got_n, List.length_append, h.gl]
    rcases hid with hi | hi
    · have ed : ((ats σ).set i ((σ.p i).at' + 1)).drop nS = (ats σ).drop nS := by rw [List.drop_set, if_pos hi]
      rw [ed]
      simp [hi]
    · have ed : ((ats σ).set i ((σ.p i).at' + 1)).drop nS = ((ats σ).drop nS).set (i - nS) ((σ.p i).at' + 1) := by rw [List.drop_set, if_neg (by omega)]
      rw [ed]
      have hg : ((ats σ).drop nS)[i - nS]? = some (σ.p i).at' := by rw [List.getElem?_drop, show nS + (i - nS) = i by omega]; exact hai
      have := sum_set (b := (σ.p i).at' + 1) (fun n => n - 1) hg
      rw [hok]
      have hni : ¬ i < nS := by omega
      simp only [hni, decide_false, Bool.not_false, Bool.true_and, decide_eq_true_eq] at this ⊢
      split <;> simp only [List.length_cons, List.length_nil] <;> omega
end

end Go.Proofs.YtgjpbekmkhanhaaGreat.CG

/-
  ChansOrder's tale: what tasks do.
-/
namespace Go.Proofs.YtgjpbekmkhanhaaGreat.CG
open Go.RowKit QW CH
set_option maxRecDepth 100000
set_option linter.unusedSimpArgs false
set_option linter.unusedVariables false

section
variable {nS nR sz : Nat} {σ τ : Sg} {dl dl' : List Int} {i j k r : Nat} {p q : Pt} {c : Cz} {v : Int}

theorem Oj.to (h : Oj nS nR sz σ dl) (ech : τ.ch = [c]) (ecl : c.cl = false) (ecz : c.sz = sz) (eev : τ.ev = σ.ev) (eat : ats τ = ats σ)
    (sT : ∀ i, i < nS → Snp (τ.p i)) (rT : ∀ j, nS ≤ j → j < nS + nR → Rcp (τ.p j)) (w1 : c.rcv ≠ [] → c.snd = [] ∧ c.buf = []) (w2 : c.snd ≠ [] → c.buf.length = sz) (bl : c.buf.length ≤ sz)
    (sq : ∀ x ∈ c.snd, x.1 < nS ∧ (τ.p x.1).st = 3 ∧ x.2 = val x.1 ((τ.p x.1).at' - 1)) (rq : ∀ x ∈ c.rcv, nS ≤ x ∧ x < nS + nR ∧ (τ.p x).st = 3)
    (sw : ∀ i, i < nS → (τ.p i).st = 3 → i ∈ c.snd.map Prod.fst) (rw' : ∀ j, nS ≤ j → j < nS + nR → (τ.p j).st = 3 → j ∈ c.rcv)
    (hi : ∀ i, i < nS → (dl' ++ c.buf).filter (cls i) = (List.range (acc (τ.p i))).map (val i)) (ha : ∀ v ∈ dl' ++ c.buf, ∃ i, i < nS ∧ cls i v = true)
    (pn : (gotL nS σ.ev ++ pend nS τ).Perm dl') (p1 : nR = 1 → gotL nS σ.ev ++ pend nS τ = dl') : Oj nS nR sz τ dl' := by
  have ec : τ.c 0 = c := by simp [Sg.c, ech]
  have el : τ.tk.length = σ.tk.length := by have := congrArg List.length eat; simpa [ats] using this
  exact ⟨by rw [el]; exact h.tn, by rw [ech, ec], by rw [ec]; exact ecl, by rw [ec]; exact ecz, sT, rT, by rw [ec]; exact w1, by rw [ec]; exact w2, by rw [ec]; exact bl, by rw [ec]; exact sq, by rw [ec]; exact rq, by rw [ec]; exact sw, by rw [ec]; exact rw', by rw [ec]; exact hi, by rw [ec]; exact ha, by rw [eev]; exact pn, by rw [eev]; exact p1, by rw [eev, eat]; exact h.el, by rw [eev, eat]; exact h.tl, by rw [eev, eat]; exact h.gl⟩

/-- One receiver more is to be told. -/
theorem Oj.told (h : Oj nS nR sz σ dl) (hi : nS ≤ i) (hl : i < σ.tk.length) (hτ : τ.tk = σ.tk.set i q) (e1 : pnd (σ.p i) = none) (e2 : pnd q = some v) : (gotL nS σ.ev ++ pend nS τ).Perm (dl ++ [v]) ∧ (nR = 1 → gotL nS σ.ev ++ pend nS τ = dl ++ [v]) := by
  obtain ⟨u, w, h1, h2, h3⟩ := pend_high (nS := nS) hi hl hτ
  rw [e1] at h1
  rw [e2] at h2
  constructor
  · rw [h2]
    have hp := h.pn
    rw [h1] at hp
    simp only [Option.toList_none, Option.toList_some, List.append_nil] at hp ⊢
    refine List.Perm.trans ?_ (hp.append_right [v])
    simp only [List.append_assoc]
    refine List.Perm.append_left _ (List.Perm.append_left _ ?_)
    exact List.perm_append_comm
  · intro e
    obtain ⟨rfl, rfl⟩ := h3 (by rw [h.tn, e])
    have hp := h.p1 e
    rw [h1] at hp
    rw [h2]
    simpa using congrArg (· ++ [v]) hp
/-- Nobody more is to be told. -/
theorem Oj.quiet (h : Oj nS nR sz σ dl) (hl : i < σ.tk.length) (hτ : τ.tk = σ.tk.set i q) (e : i < nS ∨ (pnd (σ.p i) = none ∧ pnd q = none)) : pend nS τ = pend nS σ := by
  by_cases hi : i < nS
  · exact pend_low hi hτ
  · obtain ⟨e1, e2⟩ := e.resolve_left hi
    obtain ⟨u, w, h1, h2, _⟩ := pend_high (nS := nS) (by omega) hl hτ
    rw [h1, h2, e1, e2]

theorem hist_push2 {l : List Int} {a a' : Nat → Nat} (h : ∀ k, k < nS → l.filter (cls k) = (List.range (a k)).map (val k)) (hi : i < nS) (hn : a i < 6) (h1 : a' i = a i + 1) (h2 : ∀ k, k < nS → k ≠ i → a' k = a k) : ∀ k, k < nS → (l ++ [val i (a i)]).filter (cls k) = (List.range (a' k)).map (val k) := by
  intro k hk
  rw [List.filter_append, h k hk]
  by_cases e : k = i
  · subst e
    rw [h1, range_succ_map]
    simp [cls_val hn]
  · rw [h2 k hk e]
    simp [cls_val hn, e]

theorem acc1 (h1 : p.st = 1) (h2 : p.at' ≤ 6) : acc p = p.at' := by unfold acc; rw [if_neg (by omega)]; omega
theorem acc23 (h1 : p.st = 2 ∨ p.st = 3) : acc p = p.at' - 1 := by unfold acc; rw [if_pos h1]

/-- A sender waits. -/
theorem Oj.sWait (h : Oj nS nR sz σ dl) (hi : i < nS) (hst : (σ.p i).st = 2) (h6 : (σ.p i).at' ≤ 6) (hc1 : sz ≤ (σ.c 0).buf.length) (hc2 : (σ.c 0).rcv = [])
    (etk : τ.tk = σ.tk.set i { σ.p i with st := 3, rc := false }) (ech : τ.ch = [{ σ.c 0 with snd := (σ.c 0).snd ++ [(i, val i ((σ.p i).at' - 1))] }]) (eev : τ.ev = σ.ev) : Oj nS nR sz τ dl := by
  have hil : i < σ.tk.length := by rw [h.tn]; omega
  have ep : ∀ k, τ.p k = if k = i then { σ.p i with st := 3, rc := false } else σ.p k := fun k => set_p hil _ k etk
  have h1 : 1 ≤ (σ.p i).at' := by
    rcases h.sT i hi with ⟨e, _⟩ | ⟨e, _⟩ | ⟨_, e, _⟩ | ⟨e, _⟩ <;> omega
  have hne : ∀ k, (σ.p k).st = 3 → k ≠ i := fun k hk e => by rw [e, hst] at hk; cases hk
  refine h.to ech h.cl h.cz eev (set_ats hil etk rfl) (fun k hk => ?_) (fun k k1 k2 => ?_) (fun e => absurd hc2 e) (fun _ => ?_) h.bl (fun x hx => ?_) (fun x hx => ?_) (fun k hk hs => ?_) (fun k k1 k2 hs => ?_) (fun k hk => ?_) h.ha ?_ (fun e => ?_)
  · rw [ep]
    by_cases e : k = i
    · rw [if_pos e]; exact .inr (.inr (.inr ⟨rfl, h1, h6⟩))
    · rw [if_neg e]; exact h.sT k hk
  · rw [ep, if_neg (by omega)]; exact h.rT k k1 k2
  · have := h.bl
    show (σ.c 0).buf.length = sz
    omega
  · rcases List.mem_append.1 hx with hx | hx
    · obtain ⟨q1, q2, q3⟩ := h.sq x hx
      rw [ep, if_neg (hne _ q2)]
      exact ⟨q1, q2, q3⟩
    · simp only [List.mem_singleton] at hx
      subst hx
      rw [ep, if_pos rfl]
      exact ⟨hi, rfl, rfl⟩
  · obtain ⟨q1, q2, q3⟩ := h.rq x hx
    rw [ep, if_neg (hne _ q3)]
    exact ⟨q1, q2, q3⟩
  · rw [ep] at hs
    by_cases e : k = i
    · simp [e]
    · rw [if_neg e] at hs
      simp only [List.map_append, List.mem_append]
      exact .inl (h.sw k hk hs)
  · rw [ep, if_neg (by omega)] at hs
    exact h.rw' k k1 k2 hs
  · rw [ep]
    by_cases e : k = i
    · subst e
      rw [if_pos rfl, acc23 (.inr rfl), ← acc23 (p := σ.p k) (.inl hst)]
      exact h.hi k hk
    · rw [if_neg e]; exact h.hi k hk
  · rw [pend_low hi etk]; exact h.pn
  · rw [pend_low hi etk]; exact h.p1 e

/-- A sender's value goes into the buffer. -/
theorem Oj.sBuf (h : Oj nS nR sz σ dl) (hi : i < nS) (hst : (σ.p i).st = 2) (h6 : (σ.p i).at' ≤ 6) (hc1 : (σ.c 0).buf.length < sz) (hc2 : (σ.c 0).rcv = [])
    (etk : τ.tk = σ.tk.set i { σ.p i with st := 1, td := (0, 0, true) }) (ech : τ.ch = [{ σ.c 0 with buf := (σ.c 0).buf ++ [val i ((σ.p i).at' - 1)] }]) (eev : τ.ev = σ.ev) : Oj nS nR sz τ dl := by
  have hil : i < σ.tk.length := by rw [h.tn]; omega
  have ep : ∀ k, τ.p k = if k = i then { σ.p i with st := 1, td := (0, 0, true) } else σ.p k := fun k => set_p hil _ k etk
  have h1 : 1 ≤ (σ.p i).at' := by
    rcases h.sT i hi with ⟨e, _⟩ | ⟨e, _⟩ | ⟨_, e, _⟩ | ⟨e, _⟩ <;> omega
  have hne : ∀ k, (σ.p k).st = 3 → k ≠ i := fun k hk e => by rw [e, hst] at hk; cases hk
  have hsn : (σ.c 0).snd = [] := by
    by_cases e : (σ.c 0).snd = []
    · exact e
    · have := h.w2 e; omega
  have ha2 : acc (σ.p i) = (σ.p i).at' - 1 := acc23 (.inl hst)
  refine h.to ech h.cl h.cz eev (set_ats hil etk rfl) (fun k hk => ?_) (fun k k1 k2 => ?_) (fun e => absurd hc2 e) (fun e => absurd hsn e) ?_ (fun x hx => ?_) (fun x hx => ?_) (fun k hk hs => ?_) (fun k k1 k2 hs => ?_) (fun k hk => ?_) (fun v hv => ?_) ?_ (fun e => ?_)
  · rw [ep]
    by_cases e : k = i
    · rw [if_pos e]; exact .inr (.inl ⟨rfl, h6, by simp; omega⟩)
    · rw [if_neg e]; exact h.sT k hk
  · rw [ep, if_neg (by omega)]; exact h.rT k k1 k2
  · show ((σ.c 0).buf ++ [_]).length ≤ sz
    simp; omega
  · have : x ∈ (σ.c 0).snd := hx
    rw [hsn] at this
    cases this
  · have : x ∈ (σ.c 0).rcv := hx
    rw [hc2] at this
    cases this
  · rw [ep] at hs
    by_cases e : k = i
    · rw [if_pos e] at hs; cases hs
    · rw [if_neg e] at hs; exact h.sw k hk hs
  · rw [ep, if_neg (by omega)] at hs
    exact h.rw' k k1 k2 hs
  · have := hist_push2 (a' := fun k => acc (τ.p k)) h.hi hi (by rw [ha2]; omega) (by show acc (τ.p i) = acc (σ.p i) + 1; rw [ep, if_pos rfl, ha2, acc1 (p := { σ.p i with st := 1, td := (0, 0, true) }) rfl h6]; show (σ.p i).at' = _; omega) (fun k hk e => by rw [ep, if_neg e]) k hk
    rw [ha2, List.append_assoc] at this
    exact this
  · have hv' : v ∈ dl ++ (σ.c 0).buf ∨ v = val i ((σ.p i).at' - 1) := by
      simp only [List.mem_append, List.mem_singleton] at hv ⊢
      rcases hv with hv | hv | hv
      · exact .inl (.inl hv)
      · exact .inl (.inr hv)
      · exact .inr hv
    rcases hv' with hv | rfl
    · exact h.ha v hv
    · exact val_in hi (by omega)
  · rw [pend_low hi etk]; exact h.pn
  · rw [pend_low hi etk]; exact h.p1 e

/-- A sender's value goes to a receiver who waits. -/
theorem Oj.sHand (h : Oj nS nR sz σ dl) (hi : i < nS) (hst : (σ.p i).st = 2) (h6 : (σ.p i).at' ≤ 6) {rs : List Nat} (hc2 : (σ.c 0).rcv = r :: rs) (hnd : (σ.c 0).rcv.Nodup)
    (etk : τ.tk = (σ.tk.set r { σ.p r with st := 1, td := (0, val i ((σ.p i).at' - 1), true) }).set i { σ.p i with st := 1, td := (0, 0, true) }) (ech : τ.ch = [{ σ.c 0 with rcv := rs }]) (eev : τ.ev = σ.ev) : Oj nS nR sz τ (dl ++ [val i ((σ.p i).at' - 1)]) := by
  have hil : i < σ.tk.length := by rw [h.tn]; omega
  obtain ⟨r1, r2, r3⟩ := h.rq r (by rw [hc2]; simp)
  have hrl : r < σ.tk.length := by rw [h.tn]; omega
  obtain ⟨ρ, hρ⟩ : ∃ ρ : Sg, ρ = { σ with tk := σ.tk.set r { σ.p r with st := 1, td := (0, val i ((σ.p i).at' - 1), true) } } := ⟨_, rfl⟩
  have eρ : ρ.tk = σ.tk.set r { σ.p r with st := 1, td := (0, val i ((σ.p i).at' - 1), true) } := by rw [hρ]
  have ep1 : ∀ k, ρ.p k = if k = r then { σ.p r with st := 1, td := (0, val i ((σ.p i).at' - 1), true) } else σ.p k := fun k => set_p hrl _ k eρ
  have hri : r ≠ i := by omega
  have eτ : τ.tk = ρ.tk.set i { ρ.p i with st := 1, td := (0, 0, true) } := by rw [etk, eρ, ep1, if_neg (fun e => hri e.symm)]
  have hil2 : i < ρ.tk.length := by rw [eρ, List.length_set]; exact hil
  have ep : ∀ k, τ.p k = if k = i then { σ.p i with st := 1, td := (0, 0, true) } else if k = r then { σ.p r with st := 1, td := (0, val i ((σ.p i).at' - 1), true) } else σ.p k := fun k => by
    have e0 : ρ.p i = σ.p i := by rw [ep1, if_neg (fun e => hri e.symm)]
    rw [set_p hil2 _ k eτ, e0, ep1]
  have h1 : 1 ≤ (σ.p i).at' := by
    rcases h.sT i hi with ⟨e, _⟩ | ⟨e, _⟩ | ⟨_, e, _⟩ | ⟨e, _⟩ <;> omega
  have hr1 : 1 ≤ (σ.p r).at' := by
    rcases h.rT r r1 r2 with ⟨e, _⟩ | ⟨e, _⟩ | ⟨_, e⟩ <;> omega
  have hne : ∀ k, (σ.p k).st = 3 → k ≠ i := fun k hk e => by rw [e, hst] at hk; cases hk
  obtain ⟨hs0, hb0⟩ := h.w1 (by rw [hc2]; simp)
  rw [hc2] at hnd
  have hnr := (List.nodup_cons.1 hnd).1
  have ha2 : acc (σ.p i) = (σ.p i).at' - 1 := acc23 (.inl hst)
  have hpe : pend nS τ = pend nS ρ := pend_low hi eτ
  obtain ⟨t1, t2⟩ := h.told (v := val i ((σ.p i).at' - 1)) r1 hrl eρ (by simp [pnd, r3]) (by simp [pnd])
  refine h.to ech h.cl h.cz eev ((set_ats hil2 eτ rfl).trans (set_ats hrl eρ rfl)) (fun k hk => ?_) (fun k k1 k2 => ?_) (fun _ => ⟨hs0, hb0⟩) (fun e => absurd hs0 e) h.bl (fun x hx => ?_) (fun x hx => ?_) (fun k hk hs => ?_) (fun k k1 k2 hs => ?_) (fun k hk => ?_) (fun v hv => ?_) (by rw [hpe]; exact t1) (fun e => by rw [hpe]; exact t2 e)
  · rw [ep]
    by_cases e : k = i
    · rw [if_pos e]; exact .inr (.inl ⟨rfl, h6, by simp; omega⟩)
    · rw [if_neg e, if_neg (by omega)]; exact h.sT k hk
  · rw [ep, if_neg (by omega)]
    by_cases e : k = r
    · rw [if_pos e]; exact .inl ⟨rfl, by simp; omega⟩
    · rw [if_neg e]; exact h.rT k k1 k2
  · have : x ∈ (σ.c 0).snd := hx
    rw [hs0] at this
    cases this
  · have hx' : x ∈ rs := hx
    obtain ⟨q1, q2, q3⟩ := h.rq x (by rw [hc2]; exact List.mem_cons_of_mem _ hx')
    have hxr : x ≠ r := fun e => hnr (e ▸ hx')
    rw [ep, if_neg (hne _ q3), if_neg hxr]
    exact ⟨q1, q2, q3⟩
  · rw [ep] at hs
    by_cases e : k = i
    · rw [if_pos e] at hs; cases hs
    · rw [if_neg e, if_neg (by omega)] at hs
      exact h.sw k hk hs
  · rw [ep, if_neg (by omega)] at hs
    by_cases e : k = r
    · rw [if_pos e] at hs; cases hs
    · rw [if_neg e] at hs
      have := h.rw' k k1 k2 hs
      rw [hc2] at this
      exact (List.mem_cons.1 this).resolve_left e
  · have := hist_push2 (a' := fun k => acc (τ.p k)) h.hi hi (by rw [ha2]; omega) (by show acc (τ.p i) = acc (σ.p i) + 1; rw [ep, if_pos rfl, ha2, acc1 (p := { σ.p i with st := 1, td := (0, 0, true) }) rfl h6]; show (σ.p i).at' = _; omega) (fun k hk e => by rw [ep, if_neg e, if_neg (by omega)]) k hk
    rw [ha2, hb0, List.append_nil] at this
    show (dl ++ [_] ++ (σ.c 0).buf).filter _ = _
    rw [hb0, List.append_nil]
    exact this
  · have hv' : v ∈ dl ++ (σ.c 0).buf ∨ v = val i ((σ.p i).at' - 1) := by
      simp only [List.mem_append, List.mem_singleton] at hv ⊢
      rcases hv with (hv | hv) | hv
      · exact .inl (.inl hv)
      · exact .inr hv
      · exact .inl (.inr hv)
    rcases hv' with hv | rfl
    · exact h.ha v hv
    · exact val_in hi (by omega)

/-- A receiver waits. -/
theorem Oj.rWait (h : Oj nS nR sz σ dl) (hi : nS ≤ i) (hi2 : i < nS + nR) (hst : (σ.p i).st = 2) (hc1 : (σ.c 0).buf = []) (hc2 : (σ.c 0).snd = [])
    (etk : τ.tk = σ.tk.set i { σ.p i with st := 3, rc := true }) (ech : τ.ch = [{ σ.c 0 with rcv := (σ.c 0).rcv ++ [i] }]) (eev : τ.ev = σ.ev) : Oj nS nR sz τ dl := by
  have hil : i < σ.tk.length := by rw [h.tn]; omega
  have ep : ∀ k, τ.p k = if k = i then { σ.p i with st := 3, rc := true } else σ.p k := fun k => set_p hil _ k etk
  have h1 : 1 ≤ (σ.p i).at' := by
    rcases h.rT i hi hi2 with ⟨e, _⟩ | ⟨_, e⟩ | ⟨e, _⟩ <;> omega
  have hne : ∀ k, (σ.p k).st = 3 → k ≠ i := fun k hk e => by rw [e, hst] at hk; cases hk
  have hpe : pend nS τ = pend nS σ := h.quiet hil etk (.inr ⟨by simp [pnd, hst], by simp [pnd]⟩)
  refine h.to ech h.cl h.cz eev (set_ats hil etk rfl) (fun k hk => ?_) (fun k k1 k2 => ?_) (fun _ => ⟨hc2, hc1⟩) (fun e => absurd hc2 e) h.bl (fun x hx => ?_) (fun x hx => ?_) (fun k hk hs => ?_) (fun k k1 k2 hs => ?_) (fun k hk => ?_) h.ha (by rw [hpe]; exact h.pn) (fun e => by rw [hpe]; exact h.p1 e)
  · rw [ep, if_neg (by omega)]; exact h.sT k hk
  · rw [ep]
    by_cases e : k = i
    · rw [if_pos e]; exact .inr (.inr ⟨rfl, h1⟩)
    · rw [if_neg e]; exact h.rT k k1 k2
  · have : x ∈ (σ.c 0).snd := hx
    rw [hc2] at this
    cases this
  · rcases List.mem_append.1 hx with hx | hx
    · obtain ⟨q1, q2, q3⟩ := h.rq x hx
      rw [ep, if_neg (hne _ q3)]
      exact ⟨q1, q2, q3⟩
    · simp only [List.mem_singleton] at hx
      subst hx
      rw [ep, if_pos rfl]
      exact ⟨hi, hi2, rfl⟩
  · rw [ep, if_neg (by omega)] at hs
    exact h.sw k hk hs
  · rw [ep] at hs
    by_cases e : k = i
    · simp [e]
    · rw [if_neg e] at hs
      exact List.mem_append_left _ (h.rw' k k1 k2 hs)
  · rw [ep, if_neg (by omega)]; exact h.hi k hk

/-- A receiver takes what is in the buffer, nobody waits to send. -/
theorem Oj.rBuf (h : Oj nS nR sz σ dl) (hi : nS ≤ i) (hi2 : i < nS + nR) (hst : (σ.p i).st = 2) {bs : List Int} (hc1 : (σ.c 0).buf = v :: bs) (hc2 : (σ.c 0).snd = [])
    (etk : τ.tk = σ.tk.set i { σ.p i with st := 1, td := (0, v, true) }) (ech : τ.ch = [{ σ.c 0 with buf := bs }]) (eev : τ.ev = σ.ev) : Oj nS nR sz τ (dl ++ [v]) := by
  have hil : i < σ.tk.length := by rw [h.tn]; omega
  have ep : ∀ k, τ.p k = if k = i then { σ.p i with st := 1, td := (0, v, true) } else σ.p k := fun k => set_p hil _ k etk
  have h1 : 1 ≤ (σ.p i).at' := by
    rcases h.rT i hi hi2 with ⟨e, _⟩ | ⟨_, e⟩ | ⟨e, _⟩ <;> omega
  have hne : ∀ k, (σ.p k).st = 3 → k ≠ i := fun k hk e => by rw [e, hst] at hk; cases hk
  have hr0 : (σ.c 0).rcv = [] := by
    by_cases e : (σ.c 0).rcv = []
    · exact e
    · have := (h.w1 e).2; rw [hc1] at this; cases this
  obtain ⟨t1, t2⟩ := h.told (v := v) hi hil etk (by simp [pnd, hst]) (by simp [pnd])
  have heq : dl ++ [v] ++ bs = dl ++ (σ.c 0).buf := by rw [hc1]; simp
  refine h.to ech h.cl h.cz eev (set_ats hil etk rfl) (fun k hk => ?_) (fun k k1 k2 => ?_) (fun e => absurd hr0 e) (fun e => absurd hc2 e) (by have := h.bl; rw [hc1] at this; simp at this; show bs.length ≤ sz; omega) (fun x hx => ?_) (fun x hx => ?_) (fun k hk hs => ?_) (fun k k1 k2 hs => ?_) (fun k hk => ?_) (fun w hw => h.ha w (heq ▸ hw)) t1 t2
  · rw [ep, if_neg (by omega)]; exact h.sT k hk
  · rw [ep]
    by_cases e : k = i
    · rw [if_pos e]; exact .inl ⟨rfl, by simp; omega⟩
    · rw [if_neg e]; exact h.rT k k1 k2
  · have : x ∈ (σ.c 0).snd := hx
    rw [hc2] at this
    cases this
  · have : x ∈ (σ.c 0).rcv := hx
    rw [hr0] at this
    cases this
  · rw [ep, if_neg (by omega)] at hs
    exact h.sw k hk hs
  · rw [ep] at hs
    by_cases e : k = i
    · rw [if_pos e] at hs; cases hs
    · rw [if_neg e] at hs; exact h.rw' k k1 k2 hs
  · show (dl ++ [v] ++ bs).filter _ = _
    rw [heq, ep, if_neg (by omega)]
    exact h.hi k hk

/-- A receiver takes what is first, and who waits to send lets his value in. -/
theorem Oj.rSnd (h : Oj nS nR sz σ dl) (hi : nS ≤ i) (hi2 : i < nS + nR) (hst : (σ.p i).st = 2) {bs : List Int} {rs : List (Nat × Int)} {x : Int} (hc2 : (σ.c 0).snd = (k, x) :: rs) (hc1 : (σ.c 0).buf ++ [x] = v :: bs) (hnd : ((σ.c 0).snd.map Prod.fst).Nodup)
    (etk : τ.tk = (σ.tk.set k { σ.p k with st := 1, td := (0, 0, true) }).set i { σ.p i with st := 1, td := (0, v, true) }) (ech : τ.ch = [{ σ.c 0 with buf := bs, snd := rs }]) (eev : τ.ev = σ.ev) : Oj nS nR sz τ (dl ++ [v]) := by
  have hil : i < σ.tk.length := by rw [h.tn]; omega
  obtain ⟨r1, r2, r3⟩ := h.sq (k, x) (by rw [hc2]; simp)
  simp only at r1 r2 r3
  have hkl : k < σ.tk.length := by rw [h.tn]; omega
  obtain ⟨ρ, hρ⟩ : ∃ ρ : Sg, ρ = { σ with tk := σ.tk.set k { σ.p k with st := 1, td := (0, 0, true) } } := ⟨_, rfl⟩
  have eρ : ρ.tk = σ.tk.set k { σ.p k with st := 1, td := (0, 0, true) } := by rw [hρ]
  have ep1 : ∀ q, ρ.p q = if q = k then { σ.p k with st := 1, td := (0, 0, true) } else σ.p q := fun q => set_p hkl _ q eρ
  have hki : k ≠ i := by omega
  have eτ : τ.tk = ρ.tk.set i { ρ.p i with st := 1, td := (0, v, true) } := by rw [etk, eρ, ep1, if_neg (fun e => hki e.symm)]
  have hil2 : i < ρ.tk.length := by rw [eρ, List.length_set]; exact hil
  have ep : ∀ q, τ.p q = if q = i then { σ.p i with st := 1, td := (0, v, true) } else if q = k then { σ.p k with st := 1, td := (0, 0, true) } else σ.p q := fun q => by
    have e0 : ρ.p i = σ.p i := by rw [ep1, if_neg (fun e => hki e.symm)]
    rw [set_p hil2 _ q eτ, e0, ep1]
  have h1 : 1 ≤ (σ.p i).at' := by
    rcases h.rT i hi hi2 with ⟨e, _⟩ | ⟨_, e⟩ | ⟨e, _⟩ <;> omega
  have hk16 : 1 ≤ (σ.p k).at' ∧ (σ.p k).at' ≤ 6 := by
    rcases h.sT k r1 with ⟨e, _⟩ | ⟨e, _⟩ | ⟨e, _⟩ | ⟨_, e, e'⟩ <;> omega
  have hne : ∀ q, (σ.p q).st = 3 → q ≠ i := fun q hq e => by rw [e, hst] at hq; cases hq
  have hr0 : (σ.c 0).rcv = [] := by
    by_cases e : (σ.c 0).rcv = []
    · exact e
    · have := (h.w1 e).1; rw [hc2] at this; cases this
  have hbz : (σ.c 0).buf.length = sz := h.w2 (by rw [hc2]; simp)
  have hbl : bs.length = sz := by
    have := congrArg List.length hc1
    simp at this
    omega
  rw [hc2] at hnd
  have hnk := (List.nodup_cons.1 hnd).1
  have ha2 : acc (σ.p k) = (σ.p k).at' - 1 := acc23 (.inr r2)
  have hρJ : pend nS ρ = pend nS σ := pend_low r1 eρ
  have ht : (gotL nS σ.ev ++ pend nS τ).Perm (dl ++ [v]) ∧ (nR = 1 → gotL nS σ.ev ++ pend nS τ = dl ++ [v]) := by
    obtain ⟨u, w, g1, g2, g3⟩ := pend_high (nS := nS) hi hil2 eτ
    have e1 : pnd (ρ.p i) = none := by rw [ep1, if_neg (fun e => hki e.symm)]; simp [pnd, hst]
    have e2 : pnd { ρ.p i with st := 1, td := (0, v, true) } = some v := by simp [pnd]
    rw [e1, hρJ] at g1
    rw [e2] at g2
    constructor
    · rw [g2]
      have hp := h.pn
      rw [g1] at hp
      simp only [Option.toList_none, Option.toList_some, List.append_nil] at hp ⊢
      refine List.Perm.trans ?_ (hp.append_right [v])
      simp only [List.append_assoc]
      exact List.Perm.append_left _ (List.Perm.append_left _ List.perm_append_comm)
    · intro e
      obtain ⟨rfl, rfl⟩ := g3 (by rw [eρ, List.length_set, h.tn, e])
      have hp := h.p1 e
      rw [g1] at hp
      rw [g2]
      simpa using congrArg (· ++ [v]) hp
  have heq : dl ++ [v] ++ bs = dl ++ (σ.c 0).buf ++ [val k (acc (σ.p k))] := by
    rw [ha2, ← r3, List.append_assoc, List.append_assoc, hc1]
    rfl
  refine h.to ech h.cl h.cz eev ((set_ats hil2 eτ rfl).trans (set_ats hkl eρ rfl)) (fun q hq => ?_) (fun q k1 k2 => ?_) (fun e => absurd hr0 e) (fun _ => hbl) (Nat.le_of_eq hbl) (fun y hy => ?_) (fun y hy => ?_) (fun q hq hs => ?_) (fun q k1 k2 hs => ?_) (fun q hq => ?_) (fun w hw => ?_) ht.1 ht.2
  · rw [ep, if_neg (by omega)]
    by_cases e : q = k
    · rw [if_pos e]; exact .inr (.inl ⟨rfl, hk16.2, by simp; omega⟩)
    · rw [if_neg e]; exact h.sT q hq
  · rw [ep]
    by_cases e : q = i
    · rw [if_pos e]; exact .inl ⟨rfl, by simp; omega⟩
    · rw [if_neg e, if_neg (by omega)]; exact h.rT q k1 k2
  · have hy' : y ∈ rs := hy
    obtain ⟨q1, q2, q3⟩ := h.sq y (by rw [hc2]; exact List.mem_cons_of_mem _ hy')
    have hyk : y.1 ≠ k := fun e => hnk (by show k ∈ rs.map Prod.fst; rw [← e]; exact List.mem_map.2 ⟨y, hy', rfl⟩)
    rw [ep, if_neg (hne _ q2), if_neg hyk]
    exact ⟨q1, q2, q3⟩
  · have : y ∈ (σ.c 0).rcv := hy
    rw [hr0] at this
    cases this
  · rw [ep, if_neg (by omega)] at hs
    by_cases e : q = k
    · rw [if_pos e] at hs; cases hs
    · rw [if_neg e] at hs
      have := h.sw q hq hs
      rw [hc2] at this
      exact (List.mem_cons.1 this).resolve_left e
  · rw [ep] at hs
    by_cases e : q = i
    · rw [if_pos e] at hs; cases hs
    · rw [if_neg e, if_neg (by omega)] at hs
      exact h.rw' q k1 k2 hs
  · show (dl ++ [v] ++ bs).filter _ = _
    rw [heq]
    exact hist_push2 (a' := fun q => acc (τ.p q)) h.hi r1 (by rw [ha2]; omega) (by show acc (τ.p k) = acc (σ.p k) + 1; rw [ep, if_neg hki, if_pos rfl, ha2, acc1 (p := { σ.p k with st := 1, td := (0, 0, true) }) rfl hk16.2]; show (σ.p k).at' = _; omega) (fun q hq e => by rw [ep, if_neg (by omega), if_neg e]) q hq
  · have hw' : w ∈ dl ++ [v] ++ bs := hw
    rw [heq] at hw'
    rcases List.mem_append.1 hw' with hw' | hw'
    · exact h.ha w hw'
    · simp only [List.mem_singleton] at hw'
      subst hw'
      exact val_in r1 (by rw [ha2]; omega)
end

end Go.Proofs.YtgjpbekmkhanhaaGreat.CG

/-
  ChansOrder's tale: a step; how much may be; how all ends.
-/
namespace Go.Proofs.YtgjpbekmkhanhaaGreat.CG
open Go.RowKit QW CH
set_option maxRecDepth 100000
set_option linter.unusedSimpArgs false
set_option linter.unusedVariables false

section
variable {nS nR sz : Nat} {σ τ : Sg} {dl : List Int} {i : Nat}

/-- A sender is over. -/
theorem Oj.over (h : Oj nS nR sz σ dl) (hi : i < nS) (hst : (σ.p i).st = 2) (h7 : (σ.p i).at' = 7) (etk : τ.tk = σ.tk.set i { σ.p i with st := 0 }) (ech : τ.ch = σ.ch) (eev : τ.ev = σ.ev) : Oj nS nR sz τ dl := by
  have hil : i < σ.tk.length := by rw [h.tn]; omega
  have ep : ∀ k, τ.p k = if k = i then { σ.p i with st := 0 } else σ.p k := fun k => set_p hil _ k etk
  have hne : ∀ k, (σ.p k).st = 3 → k ≠ i := fun k hk e => by rw [e, hst] at hk; cases hk
  refine h.to (by rw [ech]; exact h.cn) h.cl h.cz eev (set_ats hil etk rfl) (fun k hk => ?_) (fun k k1 k2 => ?_) h.w1 h.w2 h.bl (fun x hx => ?_) (fun x hx => ?_) (fun k hk hs => ?_) (fun k k1 k2 hs => ?_) (fun k hk => ?_) h.ha (by rw [pend_low hi etk]; exact h.pn) (fun e => by rw [pend_low hi etk]; exact h.p1 e)
  · rw [ep]
    by_cases e : k = i
    · rw [if_pos e]; exact .inl ⟨rfl, h7⟩
    · rw [if_neg e]; exact h.sT k hk
  · rw [ep, if_neg (by omega)]; exact h.rT k k1 k2
  · obtain ⟨q1, q2, q3⟩ := h.sq x hx
    rw [ep, if_neg (hne _ q2)]
    exact ⟨q1, q2, q3⟩
  · obtain ⟨q1, q2, q3⟩ := h.rq x hx
    rw [ep, if_neg (hne _ q3)]
    exact ⟨q1, q2, q3⟩
  · rw [ep] at hs
    by_cases e : k = i
    · rw [if_pos e] at hs; cases hs
    · rw [if_neg e] at hs; exact h.sw k hk hs
  · rw [ep, if_neg (by omega)] at hs
    exact h.rw' k k1 k2 hs
  · rw [ep]
    by_cases e : k = i
    · subst e
      rw [if_pos rfl]
      have e1 : acc { σ.p k with st := 0 } = 6 := by unfold acc; rw [if_neg (by simp)]; show min (σ.p k).at' 6 = 6; omega
      have e2 : acc (σ.p k) = 6 := by rw [acc23 (.inl hst)]; omega
      rw [e1, ← e2]
      exact h.hi k hk
    · rw [if_neg e]; exact h.hi k hk

theorem Oj.nds (h : Oj nS nR sz σ dl) (ok : Sok σ) : ((σ.c 0).snd.map Prod.fst).Nodup ∧ (σ.c 0).rcv.Nodup := by
  have h1 := ok.nd
  unfold Sg.wts at h1
  rw [h.cn] at h1
  simp only [List.flatMap_cons, List.flatMap_nil, List.append_nil, Cz.wts] at h1
  exact ⟨(List.nodup_append.1 h1).1, (List.nodup_append.1 h1).2.1⟩

theorem fin_no (h : (σ.p i).st ≠ 2) : σ.fin i = σ := by unfold Sg.fin; rw [if_neg h]

theorem gets_st (hi : i < σ.tk.length) (d : Tld) : ((σ.gets i d).p i).st = 1 := by
  rw [set_p (τ := σ.gets i d) hi { σ.p i with st := 1, td := d } i rfl, if_pos rfl]

/-- What a task does: the rest of a step. -/
theorem Oj.act (h : Oj nS nR sz σ dl) (hil : i < σ.tk.length) (hst : (σ.p i).st = 2) (hns : ((σ.c 0).snd.map Prod.fst).Nodup) (hnr : (σ.c 0).rcv.Nodup) : ∃ dl', Oj nS nR sz ((σ.acts i (opf nS i ((σ.p i).at' - 1))).fin i) dl' := by
  have hcl := h.cl
  have hcz := h.cz
  have ech : ∀ c' : Cz, σ.ch.set 0 c' = [c'] := fun c' => by rw [h.cn]; rfl
  by_cases hi : i < nS
  · have h17 : 1 ≤ (σ.p i).at' ∧ (σ.p i).at' ≤ 7 := by
      rcases h.sT i hi with ⟨e, _⟩ | ⟨e, _⟩ | ⟨_, e, e'⟩ | ⟨e, _⟩ <;> omega
    by_cases h7 : (σ.p i).at' = 7
    · have e0 : σ.acts i (opf nS i ((σ.p i).at' - 1)) = σ := by
        rw [h7]
        simp [opf, hi, Sg.acts]
      rw [e0]
      refine ⟨dl, ?_⟩
      unfold Sg.fin
      rw [if_pos hst]
      exact h.over hi hst h7 rfl rfl rfl
    · have h6 : (σ.p i).at' ≤ 6 := by omega
      obtain ⟨v, hv⟩ : ∃ v, v = val i ((σ.p i).at' - 1) := ⟨_, rfl⟩
      have eo : opf nS i ((σ.p i).at' - 1) = ⟨2, 0, v⟩ := by
        unfold opf
        rw [if_pos hi, if_pos (by omega), hv]
        rfl
      have e0 : σ.acts i (opf nS i ((σ.p i).at' - 1)) = if (σ.c 0).canS then (σ.send 0 v).2.gets i (0, 0, (σ.send 0 v).1) else σ.waitS i 0 v := by
        rw [eo]
        simp [Sg.acts]
      rw [e0]
      cases hcan : (σ.c 0).canS with
      | false =>
        rw [if_neg (by simp)]
        have hw : sz ≤ (σ.c 0).buf.length ∧ (σ.c 0).rcv = [] := by
          simp only [Cz.canS, hcl, hcz, Bool.false_or, Bool.or_eq_false_iff, decide_eq_false_iff_not, Bool.not_eq_false', List.isEmpty_iff] at hcan
          exact ⟨by omega, hcan.2⟩
        have hJ : Oj nS nR sz (σ.waitS i 0 v) dl := h.sWait hi hst h6 hw.1 hw.2 rfl (by rw [hv]; exact ech _) rfl
        refine ⟨dl, ?_⟩
        rw [fin_no]
        · exact hJ
        · have : ((σ.waitS i 0 v).p i) = { σ.p i with st := 3, rc := false } := by
            rw [set_p (σ := σ) (τ := σ.waitS i 0 v) hil { σ.p i with st := 3, rc := false } i rfl, if_pos rfl]
          rw [this]
          simp
      | true =>
        rw [if_pos rfl]
        unfold Sg.send
        rw [if_neg (by rw [hcl]; simp)]
        cases hr : (σ.c 0).rcv with
        | nil =>
          have hlt : (σ.c 0).buf.length < sz := by
            simpa [Cz.canS, hcl, hcz, hr] using hcan
          have hJ := h.sBuf (τ := (σ.setc 0 { σ.c 0 with buf := (σ.c 0).buf ++ [v] }).gets i (0, 0, true)) hi hst h6 hlt hr rfl (by rw [hv]; exact ech _) rfl
          refine ⟨dl, ?_⟩
          rw [fin_no]
          · exact hJ
          · show (((σ.setc 0 { σ.c 0 with buf := (σ.c 0).buf ++ [v] }).gets i (0, 0, true)).p i).st ≠ 2
            rw [gets_st (σ := σ.setc 0 { σ.c 0 with buf := (σ.c 0).buf ++ [v] }) hil]
            simp
        | cons r rs =>
          obtain ⟨r1, r2, r3⟩ := h.rq r (by rw [hr]; simp)
          have hrl : r < σ.tk.length := by rw [h.tn]; omega
          have epi : ((σ.setc 0 { σ.c 0 with rcv := rs }).gets r (0, v, true)).p i = σ.p i := by
            rw [set_p (σ := σ) (τ := (σ.setc 0 { σ.c 0 with rcv := rs }).gets r (0, v, true)) hrl { σ.p r with st := 1, td := (0, v, true) } i rfl, if_neg (by omega)]
          have hil2 : i < ((σ.setc 0 { σ.c 0 with rcv := rs }).gets r (0, v, true)).tk.length := by
            show i < (σ.tk.set r _).length
            rw [List.length_set]; exact hil
          have hJ := h.sHand (τ := ((σ.setc 0 { σ.c 0 with rcv := rs }).gets r (0, v, true)).gets i (0, 0, true)) hi hst h6 hr hnr (by
            show (σ.tk.set r _).set i { ((σ.setc 0 { σ.c 0 with rcv := rs }).gets r (0, v, true)).p i with st := 1, td := (0, 0, true) } = _
            rw [epi, hv]
            rfl) (ech _) rfl
          refine ⟨dl ++ [val i ((σ.p i).at' - 1)], ?_⟩
          rw [fin_no]
          · exact hJ
          · show ((((σ.setc 0 { σ.c 0 with rcv := rs }).gets r (0, v, true)).gets i (0, 0, true)).p i).st ≠ 2
            rw [gets_st hil2]
            simp
  · have hi1 : nS ≤ i := by omega
    have hi2 : i < nS + nR := by rw [← h.tn]; exact hil
    have eo : opf nS i ((σ.p i).at' - 1) = ⟨3, 0, 0⟩ := by unfold opf; rw [if_neg hi]
    have e0 : σ.acts i (opf nS i ((σ.p i).at' - 1)) = if (σ.c 0).canR then (σ.recv 0).2.2.gets i (0, (σ.recv 0).1, (σ.recv 0).2.1) else σ.waitR i 0 := by
      rw [eo]
      simp [Sg.acts]
    rw [e0]
    cases hcan : (σ.c 0).canR with
    | false =>
      rw [if_neg (by simp)]
      have hw : (σ.c 0).buf = [] ∧ (σ.c 0).snd = [] := by
        simp only [Cz.canR, hcl, Bool.false_or, Bool.or_eq_false_iff, decide_eq_false_iff_not, Bool.not_eq_false', List.isEmpty_iff] at hcan
        exact ⟨List.eq_nil_of_length_eq_zero (by omega), hcan.2⟩
      have hJ : Oj nS nR sz (σ.waitR i 0) dl := h.rWait hi1 hi2 hst hw.1 hw.2 rfl (ech _) rfl
      refine ⟨dl, ?_⟩
      rw [fin_no]
      · exact hJ
      · have : ((σ.waitR i 0).p i) = { σ.p i with st := 3, rc := true } := by
          rw [set_p (σ := σ) (τ := σ.waitR i 0) hil { σ.p i with st := 3, rc := true } i rfl, if_pos rfl]
        rw [this]
        simp
    | true =>
      rw [if_pos rfl]
      unfold Sg.recv
      cases hs : (σ.c 0).snd with
      | nil =>
        have hb : (σ.c 0).buf ≠ [] := fun e => by simp [Cz.canR, hcl, hs, e] at hcan
        obtain ⟨v, bs, hvb⟩ := List.exists_cons_of_ne_nil hb
        have hJ := h.rBuf (τ := (σ.setc 0 { σ.c 0 with buf := bs }).gets i (0, v, true)) hi1 hi2 hst hvb hs rfl (ech _) rfl
        refine ⟨dl ++ [v], ?_⟩
        simp only [hvb, List.headD_cons, List.tail_cons, List.isEmpty_cons, Bool.not_false]
        rw [fin_no]
        · exact hJ
        · show (((σ.setc 0 { σ.c 0 with buf := bs }).gets i (0, v, true)).p i).st ≠ 2
          rw [gets_st (σ := σ.setc 0 { σ.c 0 with buf := bs }) hil]
          simp
      | cons y rs =>
        obtain ⟨k, x⟩ := y
        obtain ⟨r1, r2, r3⟩ := h.sq (k, x) (by rw [hs]; simp)
        simp only at r1 r2 r3
        have hkl : k < σ.tk.length := by rw [h.tn]; omega
        obtain ⟨v, bs, hvb⟩ := List.exists_cons_of_ne_nil (show (σ.c 0).buf ++ [x] ≠ [] by simp)
        have epi : ((σ.setc 0 { σ.c 0 with buf := bs, snd := rs }).gets k (0, 0, true)).p i = σ.p i := by
          rw [set_p (σ := σ) (τ := (σ.setc 0 { σ.c 0 with buf := bs, snd := rs }).gets k (0, 0, true)) hkl { σ.p k with st := 1, td := (0, 0, true) } i rfl, if_neg (by omega)]
        have hil2 : i < ((σ.setc 0 { σ.c 0 with buf := bs, snd := rs }).gets k (0, 0, true)).tk.length := by
          show i < (σ.tk.set k _).length
          rw [List.length_set]; exact hil
        have hJ := h.rSnd (τ := ((σ.setc 0 { σ.c 0 with buf := bs, snd := rs }).gets k (0, 0, true)).gets i (0, v, true)) hi1 hi2 hst hs hvb hns (by
          show (σ.tk.set k _).set i { ((σ.setc 0 { σ.c 0 with buf := bs, snd := rs }).gets k (0, 0, true)).p i with st := 1, td := (0, v, true) } = _
          rw [epi]
          rfl) (ech _) rfl
        refine ⟨dl ++ [v], ?_⟩
        simp only [hvb, List.headD_cons, List.tail_cons]
        rw [fin_no]
        · exact hJ
        · rw [gets_st hil2]
          simp

/-- A step. -/
theorem Oj.step (h : Oj nS nR sz σ dl) (ok : Sok σ) (hl : ∀ x ∈ σ.line, ∃ i : Nat, x = i ∧ i < σ.tk.length ∧ (σ.p i).st = 1) (p : Nat) : (∃ dl', Oj nS nR sz (σ.stepf (opf nS) p) dl') ∧ (σ.line ≠ [] → (σ.stepf (opf nS) p).ev.length = σ.ev.length + 1) := by
  by_cases h0 : σ.line = []
  · have e0 : σ.stepf (opf nS) p = σ := by unfold Sg.stepf; rw [if_pos h0]
    rw [e0]
    exact ⟨⟨dl, h⟩, fun e => absurd h0 e⟩
  · have hl0 : 0 < σ.line.length := List.length_pos_iff.2 h0
    have hjl : p % σ.line.length < σ.line.length := Nat.mod_lt _ hl0
    obtain ⟨j, hj⟩ : ∃ j, j = p % σ.line.length := ⟨_, rfl⟩
    rw [← hj] at hjl
    obtain ⟨i, hix, hil, hst⟩ := hl _ (List.getElem_mem hjl)
    have hgd : (σ.line.getD j 0).toNat = i := by simp [List.getD, hjl, hix]
    obtain ⟨τ, hτ⟩ : ∃ τ : Sg, τ = { σ with line := σ.line.eraseIdx j, tk := σ.tk.set i ⟨(σ.p i).at' + 1, 2, (σ.p i).td, false⟩, ev := σ.ev ++ [(i, (σ.p i).at', (σ.p i).td)] } := ⟨_, rfl⟩
    have hmid : (({ σ with line := σ.line.eraseIdx j } : Sg).put i ⟨(σ.p i).at', 2, (σ.p i).td, false⟩).p i = ⟨(σ.p i).at', 2, (σ.p i).td, false⟩ := by
      rw [set_p (σ := { σ with line := σ.line.eraseIdx j }) (τ := ({ σ with line := σ.line.eraseIdx j } : Sg).put i ⟨(σ.p i).at', 2, (σ.p i).td, false⟩) hil ⟨(σ.p i).at', 2, (σ.p i).td, false⟩ i rfl, if_pos rfl]
    have estep : σ.stepf (opf nS) p = (τ.acts i (opf nS i (σ.p i).at')).fin i := by
      unfold Sg.stepf
      rw [if_neg h0, ← hj, hgd]
      unfold Sg.turn
      have e1 : ((({ σ with line := σ.line.eraseIdx j } : Sg).put i ⟨(σ.p i).at', 2, (σ.p i).td, false⟩).note i).put i ⟨((({ σ with line := σ.line.eraseIdx j } : Sg).put i ⟨(σ.p i).at', 2, (σ.p i).td, false⟩).p i).at' + 1, 2, ((({ σ with line := σ.line.eraseIdx j } : Sg).put i ⟨(σ.p i).at', 2, (σ.p i).td, false⟩).p i).td, false⟩ = τ := by
        unfold Sg.note
        rw [hmid, hτ]
        simp only [Sg.put, List.set_set]
      rw [e1]
    have hJ := h.begins hil hst hτ
    have etk : τ.tk = σ.tk.set i ⟨(σ.p i).at' + 1, 2, (σ.p i).td, false⟩ := by rw [hτ]
    have hpi : τ.p i = ⟨(σ.p i).at' + 1, 2, (σ.p i).td, false⟩ := by rw [set_p hil _ i etk, if_pos rfl]
    have ec : τ.c 0 = σ.c 0 := by rw [hτ]; rfl
    obtain ⟨n1, n2⟩ := h.nds ok
    have hact := hJ.act (i := i) (by rw [etk, List.length_set]; exact hil) (by rw [hpi]) (by rw [ec]; exact n1) (by rw [ec]; exact n2)
    have e2 : (τ.p i).at' - 1 = (σ.p i).at' := by rw [hpi]; rfl
    rw [e2] at hact
    rw [estep]
    refine ⟨hact, fun _ => ?_⟩
    have e3 : ∀ ρ : Sg, (ρ.fin i).ev = ρ.ev := fun ρ => by unfold Sg.fin; split <;> rfl
    rw [e3, ev_acts, hτ]
    simp

theorem part_one {k : Nat} (v : Int) (hk : k < nS) (hv : cls k v = true) : ((List.range nS).map fun i => if cls i v then 1 else 0).sum = 1 := by
  have hval : ∀ i, cls i v = decide (i = k) := fun i => by
    unfold cls at hv ⊢
    simp only [decide_eq_true_eq] at hv
    rw [hv]
    by_cases e : i = k
    · simp [e]
    · simp [e]; omega
  simp only [hval, decide_eq_true_eq]
  clear hval hv
  induction nS with
  | zero => omega
  | succ n ih =>
    rw [List.range_succ, List.map_append, List.sum_append]
    by_cases e : k = n
    · subst e
      have : ((List.range k).map fun i => if i = k then 1 else 0).sum = 0 := by
        apply Nat.eq_zero_of_le_zero
        have : ∀ m, m ≤ k → ((List.range m).map fun i => if i = k then 1 else 0).sum = 0 := fun m hm => by
          induction m with
          | zero => rfl
          | succ m ih =>
            rw [List.range_succ, List.map_append, List.sum_append, ih (by omega)]
            simp; omega
        rw [this k (Nat.le_refl _)]
        exact Nat.le_refl _
      rw [this]
      simp
    · rw [ih (by omega)]
      simp; omega
theorem part_all {l : List Int} (h : ∀ v ∈ l, ∃ i, i < nS ∧ cls i v = true) : ((List.range nS).map fun i => (l.filter (cls i)).length).sum = l.length := by
  induction l with
  | nil =>
    simp only [List.filter_nil, List.length_nil]
    induction nS with
    | zero => rfl
    | succ n ih => rw [List.range_succ, List.map_append, List.sum_append, ih (fun v hv => by cases hv)]; rfl
  | cons v l ih =>
    obtain ⟨k, hk, hv⟩ := h v (by simp)
    have h1 := part_one v hk hv
    have h2 := ih (fun w hw => h w (List.mem_cons_of_mem _ hw))
    have h3 : ∀ m, ((List.range m).map fun i => ((v :: l).filter (cls i)).length).sum = ((List.range m).map fun i => if cls i v then 1 else 0).sum + ((List.range m).map fun i => (l.filter (cls i)).length).sum := fun m => by
      induction m with
      | zero => rfl
      | succ m ih =>
        rw [List.range_succ]
        simp only [List.map_append, List.sum_append, List.map_cons, List.map_nil, List.sum_cons, List.sum_nil]
        rw [ih]
        have : ((v :: l).filter (cls m)).length = (if cls m v then 1 else 0) + (l.filter (cls m)).length := by
          rw [List.filter_cons]
          split <;> simp; omega
        omega
    rw [h3, h1, h2]
    simp; omega
theorem sum_le {l : List Nat} {b : Nat} (f : Nat → Nat) (h : ∀ x ∈ l, f x ≤ b) : (l.map f).sum ≤ b * l.length := by
  induction l with
  | nil => simp
  | cons x l ih =>
    have h1 := h x (by simp)
    have h2 := ih (fun y hy => h y (List.mem_cons_of_mem _ hy))
    simp only [List.map_cons, List.sum_cons, List.length_cons]
    have : b * (l.length + 1) = b * l.length + b := Nat.mul_succ b l.length
    omega
theorem sum_eq {l : List Nat} {b : Nat} (f : Nat → Nat) (h : ∀ x ∈ l, f x = b) : (l.map f).sum = b * l.length := by
  induction l with
  | nil => simp
  | cons x l ih =>
    have h1 := h x (by simp)
    have h2 := ih (fun y hy => h y (List.mem_cons_of_mem _ hy))
    simp only [List.map_cons, List.sum_cons, List.length_cons]
    have : b * (l.length + 1) = b * l.length + b := Nat.mul_succ b l.length
    omega
theorem sum_pred (l : List Nat) : l.sum ≤ l.length + (l.map fun n => n - 1).sum := by
  induction l with
  | nil => simp
  | cons x l ih => simp; omega
theorem acc_le (p : Pt) (h : Snp p) : acc p ≤ 6 := by
  rcases h with ⟨e, h⟩ | ⟨e, h, _⟩ | ⟨e, h, h'⟩ | ⟨e, h, h'⟩ <;> unfold acc <;> split <;> omega

/-- How much was let in, was told, how many turns there were. -/
theorem Oj.few (h : Oj nS nR sz σ dl) : (gotL nS σ.ev).length ≤ 6 * nS ∧ σ.ev.length ≤ 13 * nS + nR := by
  have h1 := part_all h.ha
  have h2 : ((List.range nS).map fun i => ((dl ++ (σ.c 0).buf).filter (cls i)).length).sum ≤ 6 * (List.range nS).length := sum_le _ (fun i hi => by
    have hi' := List.mem_range.1 hi
    rw [h.hi i hi', List.length_map, List.length_range]
    exact acc_le _ (h.sT i hi'))
  rw [h1, List.length_range, List.length_append] at h2
  have h3 := h.pn.length_eq
  rw [List.length_append] at h3
  have h4 : (gotL nS σ.ev).length ≤ 6 * nS := by omega
  refine ⟨h4, ?_⟩
  have h5 : (ats σ).sum = ((ats σ).take nS).sum + ((ats σ).drop nS).sum := by rw [← List.sum_append, List.take_append_drop]
  have hlen : (ats σ).length = nS + nR := by simp [ats, h.tn]
  have h6 : (((ats σ).take nS).map fun n => n).sum ≤ 7 * ((ats σ).take nS).length := sum_le _ (fun x hx => by
    obtain ⟨i, hi⟩ := List.getElem?_of_mem hx
    rw [List.getElem?_take] at hi
    split at hi
    · rename_i hin
      have : x = (σ.p i).at' := by
        simp only [ats, List.getElem?_map] at hi
        obtain ⟨q, hq, e⟩ := Option.map_eq_some_iff.1 hi
        rw [p_of hq, e]
      rw [this]
      rcases h.sT i hin with ⟨_, e⟩ | ⟨_, e, _⟩ | ⟨_, _, e⟩ | ⟨_, _, e⟩ <;> omega
    · cases hi)
  rw [List.map_id'] at h6
  have h7 := sum_pred ((ats σ).drop nS)
  rw [← h.gl] at h7
  rw [List.length_take, hlen] at h6
  rw [List.length_drop, hlen] at h7
  rw [h.el, h5]
  have : 7 * min nS (nS + nR) = 7 * nS := by rw [Nat.min_eq_left (by omega)]
  omega

/-- How all ends. -/
theorem Oj.ends (h : Oj nS nR sz σ dl) (hR : 0 < nR) (hl : ∀ i, i < σ.tk.length → (σ.p i).st ≠ 1 ∧ (σ.p i).st ≠ 2) :
    (σ.c 0).buf = [] ∧ toldN nS σ.ev = 6 * nS ∧ (gotL nS σ.ev).length = 6 * nS ∧ (∀ v ∈ gotL nS σ.ev, ∃ i n, i < nS ∧ n < 6 ∧ v = val i n) ∧ (∀ i, i < nS → ((gotL nS σ.ev).filter (cls i)).length = 6) ∧ (nR = 1 → ∀ i, i < nS → (gotL nS σ.ev).filter (cls i) = (List.range 6).map (val i)) := by
  have hr3 : (σ.p nS).st = 3 := by
    obtain ⟨a1, a2⟩ := hl nS (by rw [h.tn]; omega)
    rcases h.rT nS (Nat.le_refl _) (by omega) with ⟨e, _⟩ | ⟨e, _⟩ | ⟨e, _⟩
    · exact absurd e a1
    · exact absurd e a2
    · exact e
  have hin := h.rw' nS (Nat.le_refl _) (by omega) hr3
  obtain ⟨hs0, hb0⟩ := h.w1 (fun e => by rw [e] at hin; cases hin)
  have h0 : ∀ i, i < nS → (σ.p i).st = 0 ∧ (σ.p i).at' = 7 := fun i hi => by
    obtain ⟨a1, a2⟩ := hl i (by rw [h.tn]; omega)
    rcases h.sT i hi with e | ⟨e, _⟩ | ⟨e, _⟩ | ⟨e, _⟩
    · exact e
    · exact absurd e a1
    · exact absurd e a2
    · have := h.sw i hi e
      rw [hs0] at this
      cases this
  have hacc : ∀ i, i < nS → acc (σ.p i) = 6 := fun i hi => by
    obtain ⟨a1, a2⟩ := h0 i hi
    unfold acc
    rw [if_neg (by omega)]
    omega
  have hpe : pend nS σ = [] := by
    unfold pend
    rw [List.filterMap_eq_nil_iff]
    intro q hq
    obtain ⟨j, hj⟩ := List.getElem?_of_mem (List.mem_of_mem_drop hq)
    have hjl := (List.getElem?_eq_some_iff.1 hj).1
    have := (hl j hjl).1
    rw [p_of hj] at this
    simp [pnd, this]
  have hpn := h.pn
  rw [hpe, List.append_nil] at hpn
  have hhi : ∀ i, i < nS → dl.filter (cls i) = (List.range 6).map (val i) := fun i hi => by
    have := h.hi i hi
    rwa [hb0, List.append_nil, hacc i hi] at this
  have hha : ∀ v ∈ dl, ∃ i, i < nS ∧ cls i v = true := fun v hv => h.ha v (by rw [hb0, List.append_nil]; exact hv)
  have hcnt : ∀ i, i < nS → ((gotL nS σ.ev).filter (cls i)).length = 6 := fun i hi => by
    rw [(hpn.filter (cls i)).length_eq, hhi i hi]
    simp
  refine ⟨hb0, ?_, ?_, fun v hv => ?_, hcnt, fun e i hi => ?_⟩
  · rw [h.tl]
    have := sum_eq (l := (ats σ).take nS) (b := 6) (fun n => n - 1) (fun x hx => by
      obtain ⟨i, hi⟩ := List.getElem?_of_mem hx
      rw [List.getElem?_take] at hi
      split at hi
      · rename_i hin
        have : x = (σ.p i).at' := by
          simp only [ats, List.getElem?_map] at hi
          obtain ⟨q, hq, e⟩ := Option.map_eq_some_iff.1 hi
          rw [p_of hq, e]
        rw [this, (h0 i hin).2]
      · cases hi)
    rw [this, List.length_take]
    have hlen : (ats σ).length = nS + nR := by simp [ats, h.tn]
    rw [hlen, Nat.min_eq_left (by omega)]
  · rw [hpn.length_eq, ← part_all hha]
    have := sum_eq (l := List.range nS) (b := 6) (fun i => (dl.filter (cls i)).length) (fun i hi => by
      have hi' := List.mem_range.1 hi
      rw [hhi i hi']
      simp)
    rw [this, List.length_range]
  · have hv' := (hpn.mem_iff).1 hv
    obtain ⟨i, hi, hc⟩ := hha v hv'
    have : v ∈ dl.filter (cls i) := List.mem_filter.2 ⟨hv', hc⟩
    rw [hhi i hi] at this
    obtain ⟨n, hn, e⟩ := List.mem_map.1 this
    exact ⟨i, n, hi, List.mem_range.1 hn, e.symm⟩
  · have := h.p1 e
    rw [hpe, List.append_nil] at this
    rw [this]
    exact hhi i hi
end

end Go.Proofs.YtgjpbekmkhanhaaGreat.CG

/-
  ChansOrder: world and tale together; a map of how often.
-/
namespace Go.Proofs.YtgjpbekmkhanhaaGreat.CG
open Go.RowKit QW CH
set_option maxRecDepth 100000
set_option linter.unusedSimpArgs false
set_option linter.unusedVariables false

section
variable {W0 w w' : World} {o : Ow} {R N : Nat} {z : Zc} {σ : Sg} {nS nR sz : Nat} {dl : List Int}

theorem Ob.sok (h : Ob W0 o R z N σ w) : Sok σ := by
  obtain ⟨bs, left, lab, hw, h0⟩ := h
  exact hw.ok
theorem Ob.lines (h : Ob W0 o R z N σ w) : (∀ x ∈ σ.line, ∃ i : Nat, x = i ∧ i < σ.tk.length ∧ (σ.p i).st = 1) ∧ (∀ i, i < σ.tk.length → (σ.p i).st = 1 → (i : Int) ∈ σ.line) ∧ (∀ i, i < σ.tk.length → (σ.p i).st ≠ 2) := by
  obtain ⟨bs, left, lab, hw, h0⟩ := h
  obtain ⟨a, s, A, K, m, q1, q2, q3, q4⟩ := hw.ex
  refine ⟨fun x hx => ?_, fun i hil hst => ?_, fun i hil hst => ?_⟩
  · rw [← m.ln] at hx
    obtain ⟨i, t, hix, hi, hon⟩ := (m.rt.ok.mem x).1 hx
    have hil : i < σ.tk.length := by rw [← m.len]; exact (List.getElem?_eq_some_iff.1 hi).1
    have ht := m.cl i t _ hi (of_p hil)
    refine ⟨i, hix, hil, ?_⟩
    have := ht.le
    have h4 : (σ.p i).st = 0 ∨ (σ.p i).st = 1 ∨ (σ.p i).st = 2 ∨ (σ.p i).st = 3 := by omega
    rcases h4 with e | e | e | e
    · rw [(ht.r0 e).2.1] at hon; cases hon
    · exact e
    · rw [(ht.r2 e).2.1] at hon; cases hon
    · rw [(ht.r3 e).1] at hon; cases hon
  · have hl2 : i < s.ts.length := by rw [m.len]; exact hil
    have ht := m.cl i _ _ (List.getElem?_eq_getElem hl2) (of_p hil)
    rw [← m.ln]
    exact (m.rt.ok.mem _).2 ⟨i, _, rfl, List.getElem?_eq_getElem hl2, (ht.r1 hst).1.on⟩
  · have hl2 : i < s.ts.length := by rw [m.len]; exact hil
    have ht := m.cl i _ _ (List.getElem?_eq_getElem hl2) (of_p hil)
    have := (ht.r2 hst).1
    rw [q3] at this
    cases this

/-- World and tale. -/
def Oz (W0 : World) (o : Ow) (R : Nat) (z : Zc) (nR N : Nat) (σ : Sg) (w : World) : Prop := Ob W0 o R z N σ w ∧ ∃ dl, Oj o.nS nR z.size σ dl

theorem Oz.step (h : Oz W0 o R z nR N σ w) (hz : z.C = o.C) (hN : N + 1 < Mx) (p : Nat) (hp : p ≤ 18446744073709551615) (hns : o.nS ≤ 10) (hnr : nR ≤ 10) :
    Calls Tryz.prog 12 #[.pointer (some ⟨R, 0, none⟩), .int .u64 p] w fun e w' => e = .returned (.bool (decide (σ.line ≠ []))) ∧ Oz W0 o R z nR (N + 1) (σ.stepf (opf o.nS) p) w' ∧ (σ.line ≠ [] → (σ.stepf (opf o.nS) p).ev.length = σ.ev.length + 1) := by
  obtain ⟨hb, dl, hj⟩ := h
  obtain ⟨l1, l2, l3⟩ := hb.lines
  have hf := hj.few
  have hs := hj.step hb.sok l1 p
  refine (hb.step hz hN p hp (by omega) (fun i hi hil hst => ?_) (fun i hi => ?_) hns).mono ?_
  · rcases hj.sT i hi with ⟨e, _⟩ | ⟨_, e, _⟩ | ⟨e, _⟩ | ⟨e, _⟩ <;> omega
  · rcases hj.sT i hi with ⟨_, e⟩ | ⟨_, e, _⟩ | ⟨_, _, e⟩ | ⟨_, _, e⟩ <;> omega
  · rintro e w' ⟨rfl, h2⟩
    exact ⟨rfl, ⟨h2, hs.1⟩, hs.2⟩

/-- All tasks begin. -/
def sgN (n sz : Nat) : Sg := ⟨List.replicate n ⟨0, 1, (0, 0, false), false⟩, [⟨sz, false, [], [], []⟩], (List.range n).map Int.ofNat, []⟩
theorem sgN_zero (sz : Nat) : sgN 0 sz = sg0 sz := rfl
theorem sgN_add (n sz : Nat) : (sgN n sz).add = sgN (n + 1) sz := by
  unfold Sg.add sgN
  simp only [List.length_replicate, List.range_succ, List.map_append, List.map_cons, List.map_nil, List.replicate_succ']
  rfl
theorem Oj.start (nS nR sz : Nat) : Oj nS nR sz (sgN (nS + nR) sz) [] := by
  have hp : ∀ i, i < nS + nR → (sgN (nS + nR) sz).p i = ⟨0, 1, (0, 0, false), false⟩ := fun i hi => by
    simp [Sg.p, sgN, List.getD, List.getElem?_replicate, hi]
  have hc : (sgN (nS + nR) sz).c 0 = ⟨sz, false, [], [], []⟩ := rfl
  have hpe : pend nS (sgN (nS + nR) sz) = [] := by
    unfold pend
    rw [List.filterMap_eq_nil_iff]
    intro q hq
    have : q = ⟨0, 1, (0, 0, false), false⟩ := List.eq_of_mem_replicate (List.mem_of_mem_drop hq)
    rw [this]
    simp [pnd]
  have ha : ats (sgN (nS + nR) sz) = List.replicate (nS + nR) 0 := by simp [ats, sgN]
  have hsum : ∀ n, (List.replicate n 0).sum = 0 := fun n => by induction n with
    | zero => rfl
    | succ n ih => rw [List.replicate_succ, List.sum_cons, ih]
  refine ⟨by simp [sgN], rfl, rfl, rfl, fun i hi => ?_, fun j _ hj => ?_, fun e => absurd rfl e, fun e => absurd rfl e, Nat.zero_le _, fun x hx => ?_, fun x hx => ?_, fun i hi hs => ?_, fun j j1 j2 hs => ?_, fun i hi => ?_, fun v hv => ?_, ?_, fun _ => ?_, ?_, ?_, ?_⟩
  · rw [hp i (by omega)]; exact .inr (.inl ⟨rfl, by simp, by simp⟩)
  · rw [hp j hj]; exact .inl ⟨rfl, by simp⟩
  · rw [hc] at hx; cases hx
  · rw [hc] at hx; cases hx
  · rw [hp i (by omega)] at hs; cases hs
  · rw [hp j j2] at hs; cases hs
  · rw [hp i (by omega), hc]; rfl
  · rw [hc] at hv; cases hv
  · rw [hpe]; exact List.Perm.refl _
  · rw [hpe]; rfl
  · rw [ha, hsum]; rfl
  · rw [ha]; simp [toldN, sgN, List.map_replicate, hsum]
  · rw [ha]; simp [gotL, sgN, List.map_replicate, hsum]

/-- Behind a step: what the law asks. -/
theorem Oj.asks (h : Oj nS nR sz σ dl) : (0 < (σ.c 0).rcv.length ∧ (σ.c 0).snd.length = 0 ∧ (σ.c 0).buf.length = 0) ∨ ((σ.c 0).rcv.length = 0 ∧ (σ.c 0).snd.length = 0 ∧ (σ.c 0).buf.length ≤ sz) ∨ ((σ.c 0).rcv.length = 0 ∧ 0 < (σ.c 0).snd.length ∧ (σ.c 0).buf.length = sz) := by
  by_cases h1 : (σ.c 0).rcv = []
  · by_cases h2 : (σ.c 0).snd = []
    · exact .inr (.inl ⟨by rw [h1]; rfl, by rw [h2]; rfl, h.bl⟩)
    · exact .inr (.inr ⟨by rw [h1]; rfl, List.length_pos_iff.2 h2, h.w2 h2⟩)
  · obtain ⟨a1, a2⟩ := h.w1 h1
    exact .inl ⟨List.length_pos_iff.2 h1, by rw [a1]; rfl, by rw [a2]; rfl⟩
end

theorem mkN (W : World) : (Instr.makeMap (95 : TypeId) none).run Tryz.prog W = .ok (.map (some W.heap.size)) (W.alloc (.map #[] 0)) := run_makeMap _ _
theorem zero3 (W : World) : (zeroValue 3).run Tryz.prog W = .ok (.int .i64 0) W := by
  have h : (Tryz.prog.info? 3).map (·.zero) = some (some (.int .i64 0)) := by kernel_rfl
  obtain ⟨i, hi, hz⟩ := Option.map_eq_some_iff.1 h
  simp [zeroValue, typeInfo, hi, hz]

/-- How many of a class. -/
def cnt (l : List Int) (k : Int) : Nat := (l.filter fun v => decide (v / 100 = k)).length
theorem cnt_one (l : List Int) (v k : Int) : cnt (l ++ [v]) k = cnt l k + (if v / 100 = k then 1 else 0) := by
  unfold cnt
  rw [List.filter_append, List.length_append]
  by_cases h : v / 100 = k <;> simp [h]

/-- A map that tells how many of each class there are. -/
structure Mc (w : World) (M : Nat) (l : List Int) : Prop where
  ex : ∃ D, Mp w 3 M D ∧ Maps.size D ≤ l.length ∧ ∀ k, I6 k → gt D (.int .i64 k) = if cnt l k = 0 then none else some (.int .i64 (cnt l k : Nat))
section
variable {w w' : World} {M : Nat} {l : List Int}
theorem Mc.lt (h : Mc w M l) : M < w.heap.size := by
  obtain ⟨D, h1, _⟩ := h.ex
  exact h1.lt
theorem Mc.heap (h : Mc w M l) (e : w'.heap[M]? = w.heap[M]?) : Mc w' M l := by
  obtain ⟨D, h1, h2⟩ := h.ex
  exact ⟨D, h1.heap e, h2⟩
theorem Mc.below (h : Mc w M l) (hb : Below w.heap.size w w') : Mc w' M l := h.heap (hb.block M h.lt)
theorem Mc.new (W : World) : Mc (W.alloc (.map #[] 0)) W.heap.size [] := by
  exact ⟨_, Mp.of (World.ownsMap_made W Tryz.prog 3 hold), Nat.le_refl _, fun k _ => rfl⟩
theorem Mc.look (h : Mc w M l) {k : Int} (hk : I6 k) : (Instr.lookup (95 : TypeId) (.map (some M)) (.int .i64 k) false).run Tryz.prog w = .ok (.int .i64 (cnt l k : Nat)) w := by
  obtain ⟨D, h1, _, h3⟩ := h.ex
  rw [h1.look K3 Tryz.underlying95 (zero3 w) (key3 hk), h3 k hk]
  by_cases hm : cnt l k = 0 <;> simp [hm]
theorem Mc.put (h : Mc w M l) (v : Int) (hk : I6 (v / 100)) (hl : l.length ≤ 100000) :
    ∃ X, (Instr.mapUpdate (95 : TypeId) (.map (some M)) (.int .i64 (v / 100)) (.int .i64 ((cnt l (v / 100) : Int) + 1))).run Tryz.prog w = .ok () X ∧ Mc X M (l ++ [v]) ∧ Tb (fun i => i = M) w X := by
  obtain ⟨D, h1, h2, h3⟩ := h.ex
  obtain ⟨X, hr, h4, h5⟩ := h1.store K3 Tryz.underlying95 (by unfold maxLen; omega) (key3 hk) (.int .i64 ((cnt l (v / 100) : Int) + 1))
  refine ⟨X, hr, ⟨_, h4, ?_, fun k' hk' => ?_⟩, Tb.turned h5 rfl⟩
  · rw [Maps.size_put (h1.own.tidy K3), List.length_append]
    split <;> simp <;> omega
  · rw [cnt_one]
    by_cases e : k' = v / 100
    · subst e
      rw [gt_put_same h1.isMap (K3.key (key3 hk)), if_pos rfl, if_neg (by omega)]
      congr 2
    · have hn : ¬ v / 100 = k' := fun h => e h.symm
      rw [gt_put_other (by simpa using e), h3 k' hk']
      simp only [if_neg hn, Nat.add_zero]
end

end Go.Proofs.YtgjpbekmkhanhaaGreat.CG

/-
  ChansOrder: its boxes are made.
-/
namespace Go.Proofs.YtgjpbekmkhanhaaGreat.CG
open Go.RowKit QW CH
set_option maxRecDepth 100000
set_option linter.unusedSimpArgs false
set_option linter.unusedVariables false

theorem Ob.begun {W0 w3 w4 V1 V2 V3 V4 V5 V6 : World} {a : Ad} {z : Zc} {D : Nat → Prop} {A : Nat → Bool} {o : Ow}
    (hb1 : Below W0.heap.size W0 w3) (r1 : Rt w3 a rs0) (o1 : ∀ k, own a rs0 k ∨ k = a.Q → W0.heap.size ≤ k)
    (hb4 : Below w3.heap.size w3 w4) (c : Ch w4 A z 0 ⟨false, [], [], []⟩ D) (hD : ∀ k, D k → w3.heap.size ≤ k) (hz : z.rt = a.R) (hs : z.size ≤ 64) (hA : ∀ k, A k = true)
    (hC : o.C = z.C) (p1 : w4.heap.size = o.CB) (p2 : w4.heap.size + 1 = o.GB) (p3 : w4.heap.size + 1 + 1 = o.TB) (p4 : w4.heap.size + 1 + 1 + 1 = o.BB) (p5 : w4.heap.size + 1 + 1 + 1 + 1 = o.SB) (p6 : w4.heap.size + 1 + 1 + 1 + 1 + 1 = o.RB)
    (e1 : V1 = w4.alloc (.cells #[.pointer (some ⟨z.C, 0, none⟩)] (48 : TypeId))) (e2 : V2 = V1.alloc (.cells #[.slice none 0 0] (23 : TypeId))) (e3 : V3 = V2.alloc (.cells #[.int .i64 0] 3)) (e4 : V4 = V3.alloc (.cells #[.bool false] 4))
    (e5 : V5 = V4.alloc (.cells #[.func (.func 41) #[] (capS o)] (91 : TypeId))) (e6 : V6 = V5.alloc (.cells #[.func (.func 43) #[] (capR o)] (76 : TypeId))) :
    Ob W0 o a.R z 0 (sgN 0 z.size) V6 := by
  have al : ∀ (W : World) (ob : Obj), Below W.heap.size W (W.alloc ob) := fun W ob => (Below.refl _ W).alloc (Nat.le_refl _) _
  have b1 : Below w4.heap.size w4 V1 := by rw [e1]; exact al _ _
  have b2 : Below V1.heap.size V1 V2 := by rw [e2]; exact al _ _
  have b3 : Below V2.heap.size V2 V3 := by rw [e3]; exact al _ _
  have b4 : Below V3.heap.size V3 V4 := by rw [e4]; exact al _ _
  have b5 : Below V4.heap.size V4 V5 := by rw [e5]; exact al _ _
  have b6 : Below V5.heap.size V5 V6 := by rw [e6]; exact al _ _
  have z1 : V1.heap.size = w4.heap.size + 1 := by rw [e1]; simp
  have z2 : V2.heap.size = w4.heap.size + 2 := by rw [e2]; simp [z1]
  have z3 : V3.heap.size = w4.heap.size + 3 := by rw [e3]; simp [z2]
  have z4 : V4.heap.size = w4.heap.size + 4 := by rw [e4]; simp [z3]
  have z5 : V5.heap.size = w4.heap.size + 5 := by rw [e5]; simp [z4]
  have z6 : V6.heap.size = w4.heap.size + 6 := by rw [e6]; simp [z5]
  have h1 : V1.heap[o.CB]? = some (.cells #[.pointer (some ⟨z.C, 0, none⟩)] (48 : TypeId) (0, 0)) := by rw [← p1, e1]; exact heap_alloc_new _ _
  have h2 : V2.heap[o.GB]? = some (.cells #[.slice none 0 0] (23 : TypeId) (0, 0)) := by rw [← p2, ← z1, e2]; exact heap_alloc_new _ _
  have h3 : V3.heap[o.TB]? = some (.cells #[.int .i64 0] 3 (0, 0)) := by rw [← p3, show w4.heap.size + 1 + 1 = V2.heap.size by omega, e3]; exact heap_alloc_new _ _
  have h4 : V4.heap[o.BB]? = some (.cells #[.bool false] 4 (0, 0)) := by rw [← p4, show w4.heap.size + 1 + 1 + 1 = V3.heap.size by omega, e4]; exact heap_alloc_new _ _
  have h5 : V5.heap[o.SB]? = some (.cells #[.func (.func 41) #[] (capS o)] (91 : TypeId) (0, 0)) := by rw [← p5, show w4.heap.size + 1 + 1 + 1 + 1 = V4.heap.size by omega, e5]; exact heap_alloc_new _ _
  have h6 : V6.heap[o.RB]? = some (.cells #[.func (.func 43) #[] (capR o)] (76 : TypeId) (0, 0)) := by rw [← p6, show w4.heap.size + 1 + 1 + 1 + 1 + 1 = V5.heap.size by omega, e6]; exact heap_alloc_new _ _
  have c5 : Below V4.heap.size V4 V6 := b5.trans (b6.mono (by omega))
  have c4 : Below V3.heap.size V3 V6 := b4.trans (c5.mono (by omega))
  have c3 : Below V2.heap.size V2 V6 := b3.trans (c4.mono (by omega))
  have c2 : Below V1.heap.size V1 V6 := b2.trans (c3.mono (by omega))
  have c1 : Below w4.heap.size w4 V6 := b1.trans (c2.mono (by omega))
  rw [sgN_zero]
  exact Ob.start hb1 r1 o1 hb4 c hD hz hs hA c1 hC.symm (fun k hk => by rcases hk with rfl | rfl | rfl | rfl | rfl | rfl <;> omega) (by rw [hC]; exact (c2.block _ (heap_lt h1)).trans h1) ((b6.block _ (heap_lt h5)).trans h5) h6 ((c4.block _ (heap_lt h3)).trans h3) ((c5.block _ (heap_lt h4)).trans h4) ((c3.block _ (heap_lt h2)).trans h2)

/-- How much of a loop whose variable lies in a box is left. -/
def boxNat (iv : Value) (w : World) : Nat := match iv with
  | .pointer (some ad) => (match w.cell? ad with
    | some v => (intOf v).toNat
    | none => 0)
  | _ => 0
theorem boxNat_of {w : World} {b : Nat} {x : Int} (h : w.cell? ⟨b, 0, none⟩ = some (.int .i64 x)) : boxNat (.pointer (some ⟨b, 0, none⟩)) w = x.toNat := by
  unfold boxNat
  simp only [h]
  rfl

section
variable {W0 w w' : World} {o : Ow} {R N nR : Nat} {z : Zc} {σ : Sg}
theorem Oz.waits (h : Oz W0 o R z nR N σ w) (hz : z.C = o.C) : Calls Tryz.prog 46 #[.pointer (some ⟨o.C, 0, none⟩)] w fun e w' => e = .returned (.tuple #[.int .i64 (σ.c 0).snd.length, .int .i64 (σ.c 0).rcv.length]) ∧ Oz W0 o R z nR N σ w' :=
  (h.1.waits hz).mono fun e w' ⟨h1, h2⟩ => ⟨h1, h2, h.2⟩
theorem Oz.below (h : Oz W0 o R z nR N σ w) (hb : Below w.heap.size w w') : Oz W0 o R z nR N σ w' := ⟨h.1.below hb, h.2⟩

/-- How all stands at the end. -/
structure Fin (W0 : World) (o : Ow) (nR : Nat) (w : World) (ga : Option Addr) (gc : Nat) (gs : List Int) : Prop where
  gb : w.heap[o.GB]? = some (.cells #[.slice ga gs.length gc] (23 : TypeId) (0, 0))
  tb : w.heap[o.TB]? = some (.cells #[.int .i64 (gs.length : Nat)] 3 (0, 0))
  cb : w.heap[o.CB]? = some (.cells #[.pointer (some ⟨o.C, 0, none⟩)] (48 : TypeId) (0, 0))
  len : ∀ V, Below w.heap.size w V → Calls Tryz.prog 34 #[.pointer (some ⟨o.C, 0, none⟩)] V fun e w' => e = .returned (.int .i64 0) ∧ w' = V
  num : gs.length = 6 * o.nS
  row : 0 < gs.length → ∃ G, ga = some ⟨G, 0, none⟩ ∧ gs.length ≤ gc ∧ gc ≤ 9223372036854775807 ∧ ∀ q, q < gs.length → w.cell? ⟨G, q, none⟩ = some (.int .i64 (gs.getD q 0))
  vals : ∀ v ∈ gs, ∃ i n, i < o.nS ∧ n < 6 ∧ v = val i n
  cnts : ∀ i : Nat, i < o.nS → cnt gs i = 6
  one : nR = 1 → ∀ i, i < o.nS → gs.filter (cls i) = (List.range 6).map (val i)
  bel : Below W0.heap.size W0 w

theorem Oz.fin (h : Oz W0 o R z nR N σ w) (hz : z.C = o.C) (hl : σ.line = []) (hR : 0 < nR) : ∃ ga gc gs, Fin W0 o nR w ga gc gs := by
  obtain ⟨l1, l2, l3⟩ := h.1.lines
  obtain ⟨dl, hj⟩ := h.2
  obtain ⟨g1, g2, g3, g4, g5, g6⟩ := hj.ends hR (fun i hil => ⟨fun e => (by have := l2 i hil e; rw [hl] at this; cases this), l3 i hil⟩)
  obtain ⟨lab, hE⟩ := h.1.e
  obtain ⟨gv, hgb, _, hrow, _⟩ := hE.gb
  obtain ⟨ga, gc, rfl⟩ := row_val hrow
  refine ⟨ga, gc, gotL o.nS σ.ev, hgb, ?_, hE.cb.1, fun V hV => ?_, g3, fun hp => ?_, g4, fun i hi => g5 i hi, g6, h.1.bel⟩
  · rw [g3, ← g2]; exact hE.tb.1
  · have := (h.1.below hV).len hz
    rw [g1] at this
    exact this
  · obtain ⟨G, cap, e, hc1, hc2, hcell⟩ := row_at hrow hp
    cases e
    refine ⟨G, rfl, hc1, hc2, fun q hq => hcell q _ ?_⟩
    simp [List.getElem?_map, List.getD, hq]

/-- One value more. -/
theorem take_one {gs : List Int} {q : Nat} (h : q < gs.length) : gs.take (q + 1) = gs.take q ++ [gs.getD q 0] := by
  rw [List.take_add_one]
  simp [List.getD, h]
/-- With one receiver each sender's values come in their order. -/
theorem Fin.at' {ga : Option Addr} {gc : Nat} {gs : List Int} (h : Fin W0 o nR w ga gc gs) {q : Nat} (hq : q < gs.length) : ∃ i n, i < o.nS ∧ n < 6 ∧ gs.getD q 0 = val i n ∧ (nR = 1 → cnt (gs.take q) i = n) ∧ cnt (gs.take q) i ≤ 6 := by
  have hm : gs.getD q 0 ∈ gs := by simp [List.getD, hq]
  obtain ⟨i, n, hi, hn, hv⟩ := h.vals _ hm
  have hsplit : gs = gs.take q ++ gs.getD q 0 :: gs.drop (q + 1) := by
    have h1 := List.take_append_drop (q + 1) gs
    rw [take_one hq, List.append_assoc] at h1
    exact h1.symm
  have hc : cnt gs i = cnt (gs.take q) i + cnt (gs.getD q 0 :: gs.drop (q + 1)) i := by
    conv => lhs; rw [hsplit]
    unfold cnt
    rw [List.filter_append, List.length_append]
  refine ⟨i, n, hi, hn, hv, fun h1 => ?_, by have := h.cnts i hi; omega⟩
  have h2 := h.one h1 i hi
  rw [hsplit, List.filter_append, List.filter_cons, hv, if_pos (by simp [cls_val hn])] at h2
  have hlen : ((gs.take q).filter (cls i)).length = cnt (gs.take q) i := rfl
  have h3 : ((gs.take q).filter (cls i) ++ val i n :: (gs.drop (q + 1)).filter (cls i))[cnt (gs.take q) i]? = some (val i n) := by
    rw [← hlen, List.getElem?_append_right (Nat.le_refl _)]
    simp
  rw [h2, List.getElem?_map] at h3
  obtain ⟨m, hm1, hm2⟩ := Option.map_eq_some_iff.1 h3
  have h4 := (List.getElem?_eq_some_iff.1 hm1)
  obtain ⟨h5, h6⟩ := h4
  rw [List.getElem_range] at h6
  unfold val at hm2
  omega

theorem us_nil (V : World) : Us V none 0 0 [] := ⟨rfl, Nat.le_refl _, by omega, fun u hu => by simp at hu, fun h => by omega⟩

/-- The run at the end. -/
theorem Oz.run (h : Oz W0 o R z nR N σ w) (hz : z.C = o.C) (hN : N ≤ 1000) (hns : o.nS ≤ 10) (hnr : nR ≤ 10) :
    Calls Tryz.prog 47 #[.pointer (some ⟨R, 0, none⟩), .slice none 0 0, .int .i64 2000] w fun e w' => ∃ k : Nat, k ≤ 2000 ∧ e = .returned (.int .i64 k) ∧ Hid (∃ N' σ', Oz W0 o R z nR N' σ' w' ∧ σ'.line = []) := by
  refine run_gen (us := []) (m := 2000) (by omega) (fun k V => ∃ σ', Oz W0 o R z nR (N + k) σ' V ∧ k ≤ σ'.ev.length) (fun V => ∃ N' σ', Oz W0 o R z nR N' σ' V ∧ σ'.line = []) (fun k V _ => us_nil V) (fun k V hI hk => ?_) (fun V hI => ?_) ⟨σ, h, Nat.zero_le _⟩
  · obtain ⟨σ', h1, h2⟩ := hI
    refine (h1.step hz (by unfold Mx; omega) (pk [] k) (by simp [pk]) hns hnr).mono ?_
    rintro e w' ⟨rfl, h3, h4⟩
    refine ⟨_, rfl, fun hb => ?_, fun hb => ?_⟩
    · have hne : σ'.line ≠ [] := by simpa using hb
      exact ⟨_, h3, by rw [h4 hne]; omega⟩
    · have he : σ'.line = [] := by simpa using hb
      have e0 : σ'.stepf (opf o.nS) (pk [] k) = σ' := by unfold Sg.stepf; rw [if_pos he]
      rw [e0] at h3
      exact ⟨_, _, h3, he⟩
  · obtain ⟨σ', ⟨_, dl, hj⟩, h2⟩ := hI
    have := hj.few.2
    omega
end
end Go.Proofs.YtgjpbekmkhanhaaGreat.CG

/-
  A range over a map of rows.
-/
import Derived.Test.YtgbboaedhpaocaaGreatDsy
namespace Go.Proofs.YtgbboaedhpaocaaGreat
open Go.RowKit
set_option maxRecDepth 100000
set_option maxRecDepth 100000

theorem ranges_heap {w w' : World} {kt : TypeId} {b r n : Nat} {D : DataW Value} {left : Lit → Bool} {cnt : Nat} (h : w.ranges Tryz.prog kt hold b r n D left cnt) (hb : w'.heap[b]? = w.heap[b]?) (hr : w'.heap[r]? = w.heap[r]?) : w'.ranges Tryz.prog kt hold b r n D left cnt := by
  obtain ⟨es, clock, since, seen, c0, h1, h2, h3, h4, h5, h6⟩ := h
  exact ⟨es, clock, since, seen, c0, hb.trans h1, h2, h3, h4, hr.trans h5, h6⟩

/-- A range over a map of rows under way: ps have come, qs are to come; r is the iterator's block. -/
structure Rg {α : Type} (c : α → List Value) (T : TypeId) (size : Nat) (L : Lb) (tag : Int) (b : Nat) (rw : List (Int × List α)) (r : Nat) (ps qs : List (Int × List α)) (w : World) : Prop where
  un : Un rw
  ix : ∀ p ∈ rw, I6 p.1
  perm : (ps ++ qs).Perm rw
  ex : ∃ D left cnt, w.ranges Tryz.prog 3 hold b r (Maps.size D) D left cnt ∧ (∀ f xs, lk rw f = some xs → ∃ v, (∀ z, D.atKey (.int .i64 f) z = .held v) ∧ w.ownsRow 0 T size v xs.length (xs.flatMap c) ∧ ∀ g, v.ownBlock = some g → L g = (tag, f)) ∧
    ∀ f, I6 f → (left (.int .i64 f) = true ↔ ∃ xs, (f, xs) ∈ qs)

section
variable {α : Type} {c : α → List Value} {T : TypeId} {size : Nat} {w w' : World} {L : Lb} {tag : Int} {b r : Nat} {rw ps qs : List (Int × List α)}

theorem Rg.lt (h : Rg c T size L tag b rw r ps qs w) : b < w.heap.size ∧ r < w.heap.size := by
  obtain ⟨D, left, cnt, h1, _⟩ := h.ex
  exact ⟨h1.owns.lt, h1.lt⟩

theorem Rg.tb {S : Nat → Prop} (h : Rg c T size L tag b rw r ps qs w) (hb : Tb S w w') (h1 : ¬ S b) (h2 : ¬ S r) (h3 : ∀ g f, L g = (tag, f) → ¬ S g) : Rg c T size L tag b rw r ps qs w' := by
  have hl := h.lt
  obtain ⟨D, left, cnt, e1, e2, e3⟩ := h.ex
  refine ⟨h.un, h.ix, h.perm, D, left, cnt, ranges_heap e1 (hb.block b hl.1 h1) (hb.block r hl.2 h2), fun f xs hx => ?_, e3⟩
  obtain ⟨v, q1, q2, q3⟩ := e2 f xs hx
  exact ⟨v, q1, row_tb q2 hb (fun g hg => h3 g f (q3 g hg)), q3⟩

/-- The range begins. -/
theorem Rw.range (h : Rw c T size w L tag b rw) {t e : TypeId} (ht : Tryz.prog.underlying t = some (.map 3 e)) :
    ∃ w', (Instr.range t (.map (some b))).run Tryz.prog w = .ok (.pointer (some ⟨w.heap.size, 0, none⟩)) w' ∧ Rg c T size L tag b rw w.heap.size [] rw w' ∧ Tb (fun _ => False) w w' ∧ w'.heap.size = w.heap.size + 1 := by
  obtain ⟨D, g1, g2, g3, g4⟩ := h.ex
  obtain ⟨w', hrun, r1, r2, r3⟩ := g1.own.range K3 ht
  have t1 : Tb (fun _ => False) w w' := Tb.of_grown r2 (fun k e => by cases e)
  have hat : ∀ f v, I6 f → gt D (.int .i64 f) = some v → ∀ z, D.atKey (.int .i64 f) z = .held v := fun f v hf hv => by
    rcases g1.at K3 (key3 hf) with ⟨_, q, _⟩ | ⟨u, q1, q2, _⟩
    · rw [q] at hv; cases hv
    · rw [q2] at hv; cases hv; exact q1
  refine ⟨w', hrun, ⟨h.un, h.ix, List.Perm.refl _, D, _, _, r1, fun f xs hx => ?_, fun f hf => ?_⟩, t1, r3⟩
  · obtain ⟨v, q1, q2, q3⟩ := g4 f xs hx
    exact ⟨v, hat f v (h.ix _ (lk_mem hx)) q1, row_tb q2 t1 (fun _ _ h => h), q3⟩
  · rw [has_gt g1 K3 (key3 hf)]
    constructor
    · intro hh
      cases hl : lk rw f with
      | none => rw [g3 f hf hl] at hh; cases hh
      | some xs => exact ⟨xs, lk_mem hl⟩
    · rintro ⟨xs, hm⟩
      obtain ⟨v, q1, _⟩ := g4 f xs (mem_lk h.un hm)
      rw [q1]
      rfl

theorem perm_mem {p : Int × List α} (h : (ps ++ qs).Perm rw) (hp : p ∈ qs) : p ∈ rw := h.mem_iff.1 (List.mem_append_right _ hp)

/-- The step of the range. -/
theorem wpList_next_rows {ops : Array Oper} {rest : List Oper} {o : Oper} {a : Act} {Q : Exit → Act → World → Prop} (h : Rg c T size L tag b rw r ps qs w) (hg : o.guard = none) (it : Operand) (hop : o.op = Op.next it false) (hit : a.eval it = .pointer (some ⟨r, 0, none⟩))
    (hDone : qs = [] → wpList Tryz.prog ops Q rest (a.put o.dst (.tuple #[.bool false])) w)
    (hMore : ∀ (f : Int) (xs : List α) (ad : Option Addr) (cap : Nat) (w' : World) (qs' : List (Int × List α)), I6 f → (f, xs) ∈ rw → w'.ownsRow 0 T size (.slice ad xs.length cap) xs.length (xs.flatMap c) → (∀ g, (Value.slice ad xs.length cap).ownBlock = some g → L g = (tag, f)) → Rg c T size L tag b rw r (ps ++ [(f, xs)]) qs' w' → w'.rangeLeft b r < w.rangeLeft b r →
      Tb (fun k => k = r) w w' → w'.heap.size = w.heap.size → (Instr.entry (.pointer (some ⟨r, 0, none⟩))).run Tryz.prog w' = .ok (.tuple #[.int .i64 f, .slice ad xs.length cap]) w' → wpList Tryz.prog ops Q rest (a.put o.dst (.tuple #[.bool true, .int .i64 f, .slice ad xs.length cap])) w')
    (hrl : ∀ g f, L g = (tag, f) → g ≠ r) : wpList Tryz.prog ops Q (o :: rest) a w := by
  obtain ⟨D, left, cnt, e1, e2, e3⟩ := h.ex
  refine wpList_plain hg fun K' hK' => ?_
  unfold Oper.wp
  rcases e1.next K3 o.type with ⟨h0, hl, hrun⟩ | ⟨key, v, kl, y, w', cnt', hkey, hlk, hv, hat, hrun, hrg, hlt, hgr, hsz, hen⟩
  · simp [execOp, hop, hit, hrun, Result.andThen]
    refine hK' _ _ (hDone ?_)
    cases qs with
    | nil => rfl
    | cons p qs =>
      have hp := perm_mem (p := p) h.perm (by simp)
      have := (e3 p.1 (h.ix _ hp)).2 ⟨p.2, by simp⟩
      rw [hl] at this
      cases this
  · obtain ⟨f, rfl, rfl, hw⟩ := Maps.keyOf_int_inv Tryz.underlying3 hkey
    have hf : I6 f := by
      simp [Lit.wf, IntKind.min, IntKind.max, IntKind.signed, IntKind.bits] at hw
      exact ⟨by omega, by omega⟩
    obtain ⟨xs, hxs⟩ := (e3 f hf).1 hlk
    have hin := perm_mem h.perm hxs
    obtain ⟨u, u1, u2, u3⟩ := e2 f xs (mem_lk h.un hin)
    have hvu : v = u := by
      have h1 : hold v = some (.held v, []) := rfl
      rw [h1] at hv
      cases hv
      have := hat (.nil)
      rw [u1] at this
      cases this
      rfl
    subst hvu
    obtain ⟨ad, cap, rfl⟩ := row_val u2
    have tw : Tb (fun k => k = r) w w' := Tb.of_grown hgr (fun k e => by simpa using e.symm)
    have hperm : (ps ++ [(f, xs)] ++ qs.filter (fun p => !decide (p.1 = f))).Perm rw := by
      have hq : qs.Perm ((f, xs) :: qs.filter fun p => !decide (p.1 = f)) := by
        have hun : Un (ps ++ qs) := (h.perm.pairwise_iff (fun {_ _} hne => Ne.symm hne)).2 h.un
        have hunq : Un qs := (List.pairwise_append.1 hun).2.1
        clear e3 h hMore hDone hin
        induction qs with
        | nil => cases hxs
        | cons p qs ih =>
          obtain ⟨q1, q2⟩ := List.pairwise_cons.1 hunq
          rcases List.mem_cons.1 hxs with e | e
          · subst e
            rw [List.filter_cons]
            simp only [decide_true, Bool.not_true, Bool.false_eq_true, if_false]
            rw [List.filter_eq_self.2 (fun p hp => by
              have := q1 p hp
              simp only at this
              simp [Ne.symm this])]
          · have hne : p.1 ≠ f := q1 _ e
            rw [List.filter_cons]
            simp only [hne, decide_false, Bool.not_false, if_true]
            exact ((ih e (by
              have : Un (ps ++ p :: qs) := hun
              exact (List.pairwise_append.2 ⟨(List.pairwise_append.1 this).1, q2, fun a ha b hb => (List.pairwise_append.1 this).2.2 a ha b (by simp [hb])⟩)) q2).cons p).trans (List.Perm.swap _ _ _)
      refine List.Perm.trans ?_ h.perm
      rw [List.append_assoc]
      exact List.Perm.append_left ps hq.symm
    simp [execOp, hop, hit, hrun, Result.andThen]
    refine hK' _ _ (hMore f xs ad cap w' _ hf hin (row_tb u2 tw (fun g hg => hrl g f (u3 g hg))) u3 ⟨h.un, h.ix, hperm, D, _, cnt', hrg, fun f' xs' hx' => ?_, fun f' hf' => ?_⟩ ?_ tw hsz hen)
    · obtain ⟨v', q1, q2, q3⟩ := e2 f' xs' hx'
      exact ⟨v', q1, row_tb q2 tw (fun g hg => hrl g f' (q3 g hg)), q3⟩
    · have hsk : (Lit.int .i64 f').sameKey (.int .i64 f) = decide (f' = f) := by
        by_cases e : f' = f
        · subst e
          rw [WideAt.sameKey_self (K3.key (key3 hf))]
          simp
        · rw [Maps.sameKey_ne (by simpa using e)]
          simp [e]
      simp only [hsk, Bool.and_eq_true, Bool.not_eq_true', decide_eq_false_iff_not, List.mem_filter]
      constructor
      · rintro ⟨a1, a2⟩
        obtain ⟨xs', hx'⟩ := (e3 f' hf').1 a1
        exact ⟨xs', hx', a2⟩
      · rintro ⟨xs', a1, a2⟩
        exact ⟨(e3 f' hf').2 ⟨xs', a1⟩, a2⟩
    · rw [hrg.left_eq, e1.left_eq]
      exact hlt
end

end Go.Proofs.YtgbboaedhpaocaaGreat

/-
  The document's reader: lists that are read one by one.
-/
import Derived.Test.YtnimfkcnkkjlkaaGreatPk5c3d4010
import Derived.Test.YtnimfkcnkkjlkaaGreatPk19cc588b
import Derived.Deep.MidRow
namespace Go.Proofs.YtnimfkcnkkjlkaaGreat
open Go.RowKit
set_option maxRecDepth 100000
set_option linter.unusedVariables false

/-- Some cells of a row are others. -/
def putAt (c : Array Value) : Nat → List Value → Array Value
  | _, [] => c
  | o, v :: r => putAt (c.setIfInBounds o v) (o + 1) r
theorem row_setCells {G : Nat} {T : TypeId} (vs : List Value) : ∀ (o : Nat) (w : World) (c : Array Value), w.heap[G]? = some (.cells c T (0, 0)) → (w.setCells G o vs).heap[G]? = some (.cells (putAt c o vs) T (0, 0)) := by
  induction vs with
  | nil => exact fun o w c h => h
  | cons v r ih => exact fun o w c h => ih (o + 1) _ _ (heap_setCell_same w G o c T v h)
theorem kt_setCells {G : Nat} {T : TypeId} (vs : List Value) : ∀ (o : Nat) (w : World) (c : Array Value), w.heap[G]? = some (.cells c T (0, 0)) → Kt T w (w.setCells G o vs) := by
  induction vs with
  | nil => exact fun o w c h => Kt.refl _ _
  | cons v r ih => exact fun o w c h => (Kt.set (i := o) h v).trans (ih (o + 1) _ _ (heap_setCell_same w G o c T v h))
theorem below_setCells {G n : Nat} (hG : n ≤ G) (vs : List Value) : ∀ (o : Nat) (w W : World), Below n w W → Below n w (W.setCells G o vs) := by
  induction vs with
  | nil => exact fun o w W h => h
  | cons v r ih => exact fun o w W h => ih (o + 1) w _ (h.setCell hG v)
theorem other_setCells {G H : Nat} (hne : H ≠ G) (vs : List Value) : ∀ (o : Nat) (w : World), (w.setCells G o vs).heap[H]? = w.heap[H]? := by
  induction vs with
  | nil => exact fun o w => rfl
  | cons v r ih => exact fun o w => (ih (o + 1) _).trans (Below.heap_setCell _ _ _ _ hne)
theorem there_row {w : World} {G : Nat} {T : TypeId} {c : Array Value} (h : w.heap[G]? = some (.cells c T (0, 0))) (o n : Nat) (hn : o + n ≤ c.size) : w.there G o n := fun j hj => by
  refine ⟨?_, frozen_of_row w G (o + j) c T h⟩
  rw [cell_of_row w G (o + j) c T (0, 0) h, Array.getElem?_eq_getElem (by omega)]
  rfl

section
variable {Wb w w' w0 w1 w2 : World} {R : Nat} {l l' l1 l2 : List Int} {bad bad' b1 b2 : Bool} {α : Type} {T : TypeId} {size base : Nat} {L : Lay α} {ts us : List TypeId} {r : List α} {u : Value}

/-- A list under way takes one more. -/
theorem Tk.pushq (h : Tk T size L base r u w) : ∃ xs, w.ownsRow base T size u r.length xs ∧ ∀ (ts : List TypeId), Lk ts L → T ∉ ts → ∀ (x : α) (cs : List Value), L w x cs → cs.length = size → ∀ (v : Value) (V : World), V.ownsRow base T size v (r.length + 1) (xs ++ cs) → w.grownBy V u.ownBlock → Tk T size L base (r ++ [x]) v V := by
  obtain ⟨css, k1, k2, k3⟩ := h.is
  refine ⟨css.flatten, k1, fun ts hL hT x cs hx hs v V ho hg => ?_⟩
  have hk : Kt T w V := Kt.grown k1 hg
  refine ⟨css ++ [cs], ?_, by simp [k2], fun i hi => ?_⟩
  · simpa using ho
  · rw [List.length_append, List.length_singleton] at hi
    rcases Nat.lt_or_ge i r.length with hlt | hge
    · have e1 : (css ++ [cs]).getD i [] = css.getD i [] := by
        simp [List.getD, List.getElem?_append_left (show i < css.length by omega)]
      rw [e1, List.getElem_append_left hlt]
      exact ⟨(k3 i hlt).1, hL T w V _ _ hT hk (k3 i hlt).2⟩
    · obtain rfl : i = r.length := by omega
      have e1 : (css ++ [cs]).getD r.length [] = cs := by
        rw [← k2]
        simp [List.getD]
      rw [e1]
      refine ⟨hs, ?_⟩
      have := hL T w V _ _ hT hk hx
      simpa using this

theorem Tq.grown {n : Nat} {xs : List Value} (h : Tq Wb R l bad w) (ho : w.ownsRow base T size u n xs) (hb : Wb.heap.size ≤ base) (hT : T ≠ (157 : TypeId)) (hg : w.grownBy w' u.ownBlock) : Tq Wb R l bad w' := by
  obtain ⟨a, m, c, h1, h2⟩ := h.is
  refine ⟨h.low.grown hg h.low.size (fun k hk => Nat.le_trans hb (ho.lt k hk).1), h.ge, h.short, a, m, c, ?_, h2⟩
  exact (Kt.grown ho hg).block _ _ _ _ h1 (fun e => hT e.symm)

/-- A list that is being read: so many are there, so many are to come. -/
structure Lq (c : Cod.Way α) (T : TypeId) (size : Nat) (L : Lay α) (C : Nat) (Wb : World) (R : Nat) (l1 : List Int) (b1 : Bool) (n0 : Nat) (w0 : World) (r : List α) (l' : List Int) (bad' : Bool) (u : Value) (w : World) : Prop where
  tq : Tq Wb R l' bad' w
  kt : Kt (157 : TypeId) w0 w
  tk : Tk T size L w0.heap.size r u w
  few : r.length ≤ n0
  le : l'.length ≤ l1.length
  len : (Cod.puts c r).length + 2 * l'.length ≤ 2 * l1.length + (if bad' = true then C else 0)
  mono : b1 = true → bad' = true
  ex : b1 = false → ∀ as' t, Cod.gets c n0 l1 = some (as', t) → Cod.gets c r.length l1 = some (r, l') ∧ bad' = false

theorem puts_one (c : Cod.Way α) (r : List α) (x : α) : (Cod.puts c (r ++ [x])).length = (Cod.puts c r).length + (c.put x).length := by
  rw [Cod.puts_append, List.length_append]
  simp [Cod.puts]

theorem Lq.step {c : Cod.Way α} {C n0 : Nat} {cs : List Value} {l3 : List Int} {b3 : Bool} (h : Lq c T size L C Wb R l1 b1 n0 w0 r l' false u w) (hA : Aq c (fun V q => L V q cs) us C Wb R l' false l3 b3 w w2) (hL : Lk ts L) (hT : T ∉ ts) (hT2 : T ≠ (157 : TypeId)) (hT3 : (157 : TypeId) ∉ ts) (hs : cs.length = size) (hW : Wb.heap.size ≤ w0.heap.size) (hlt : r.length < n0) (o : Obj) :
    ∃ xs, (w2.alloc o).ownsRow w0.heap.size T size u r.length xs ∧ ∀ (v : Value) (V : World), V.ownsRow w0.heap.size T size v (r.length + 1) (xs ++ cs) → (w2.alloc o).grownBy V u.ownBlock → ∃ x, Lq c T size L C Wb R l1 b1 n0 w0 (r ++ [x]) l3 b3 v V := by
  obtain ⟨x, hx, e1, e2⟩ := hA.ex
  have hb3 := fresh w2 o
  have htk : Tk T size L w0.heap.size r u (w2.alloc o) := (h.tk.keep hL hA.kt hT2 hT3).keep hL (Kt.of_below (t := (157 : TypeId)) hb3) hT2 hT3
  obtain ⟨xs, ho, hp⟩ := htk.pushq
  refine ⟨xs, ho, fun v V hv hg => ⟨x, ?_⟩⟩
  have hT' := (hA.tq.keep hb3 hA.tq.lt).grown ho hW hT2 hg
  have hbel : Below w0.heap.size (w2.alloc o) V := (Below.refl _ _).grown hg (Nat.le_trans h.kt.size (Nat.le_trans hA.kt.size hb3.size)) (fun k hk => (ho.lt k hk).1)
  have hkt := (h.kt.trans hA.kt).trans (Kt.of_below hb3)
  refine ⟨hT', ⟨Nat.le_trans hkt.size hbel.size, fun k c' u' f hk hu => (hbel.block k (hp_lt hk)).trans (hkt.block k c' u' f hk hu)⟩, hp ts hL hT x cs (hL.below hx hb3) hs v V hv hg, by simp; omega, Nat.le_trans hA.le h.le, ?_, fun hb => (by have := h.mono hb; cases this), fun hb as' t hg' => ?_⟩
  · rw [puts_one]
    have := h.len
    simp only [Bool.false_eq_true, if_false] at this
    omega
  · obtain ⟨k1, _⟩ := h.ex hb as' t hg'
    have hs1 := Cod.gets_snoc (c := c) r.length l1
    rw [k1] at hs1
    simp only at hs1
    cases e : c.get l' with
    | none =>
      rw [e] at hs1
      have := Cod.gets_stop (c := c) (n := r.length + 1) (m := n0) (by omega) l1 hs1
      rw [this] at hg'
      cases hg'
    | some q =>
      obtain ⟨y, t'⟩ := q
      obtain ⟨rfl, rfl, rfl⟩ := e2 rfl y t' e
      rw [e] at hs1
      simp only at hs1
      refine ⟨?_, rfl⟩
      rw [List.length_append, List.length_singleton]
      exact hs1

theorem Lq.val {c : Cod.Way α} {C n0 : Nat} (h : Lq c T size L C Wb R l1 b1 n0 w0 r l' bad' u w) : ∃ a d, u = .slice a r.length d := h.tk.val

/-- The list, when all were read, or it went wrong. -/
theorem Lq.done {c : Cod.Way α} {C n0 : Nat} (h : Lq c T size L C Wb R l1 b1 n0 w0 r l' bad' u w) (hend : r.length = n0 ∨ bad' = true) (hlaw : Cod.Law c) (hmuch : Cod.Much c) (hL : Lk ts L) (hby : ∀ z ∈ l, 0 ≤ z ∧ z ≤ 255) (hsh : l.length ≤ 70000) (hn0 : n0 ≤ l.length)
    (hor : (n0 = 0 ∧ l1 = l ∧ b1 = true ∧ ∀ v t, Cod.size.get l = some (v, t) → l.length < v) ∨ (b1 = bad ∧ Cod.size.get l = some (n0, l1))) : Aq (Cod.list c) (fun V q => LLs T size L V q [u]) (T :: ts) (10 + C) Wb R l bad l' bad' w0 w := by
  have hput : (Cod.list c).put r = vb r.length ++ Cod.puts c r := rfl
  have h10 := vb_len10 (n := r.length) (by have := h.few; omega)
  have hlen := h.len
  refine ⟨h.tq, h.kt, ?_, fun hb => ?_, ⟨r, h.tk.lay, ?_, fun hb a t hg => ?_⟩, fun t V V' q ht hk hl => (hL.ls T size) t V V' q _ ht hk hl⟩
  · rcases hor with ⟨_, rfl, _⟩ | ⟨_, hsz⟩
    · exact h.le
    · have := Cod.size_law.len hby hsz
      have := h.le
      omega
  · rcases hor with ⟨_, _, rfl, _⟩ | ⟨rfl, _⟩
    · exact h.mono rfl
    · exact h.mono hb
  · rw [hput, List.length_append]
    rcases hor with ⟨rfl, rfl, rfl, _⟩ | ⟨rfl, hsz⟩
    · have hb' := h.mono rfl
      subst hb'
      simp only [if_true] at hlen ⊢
      omega
    · have hl1 := Cod.size_law.len hby hsz
      have e1 : Cod.size.put n0 = vb n0 := rfl
      rw [e1] at hl1
      cases bad' with
      | true =>
        simp only [if_true] at hlen ⊢
        omega
      | false =>
        have : r.length = n0 := by
          rcases hend with h | h
          · exact h
          · cases h
        simp only [Bool.false_eq_true, if_false] at hlen ⊢
        rw [this]
        omega
  · rcases hor with ⟨rfl, rfl, rfl, hi⟩ | ⟨rfl, hsz⟩
    · -- a count that is more than is there
      exfalso
      simp only [Cod.list] at hg
      cases e : Cod.size.get l1 with
      | none => rw [e] at hg; cases hg
      | some q =>
        obtain ⟨n, t'⟩ := q
        rw [e] at hg
        simp only at hg
        have h1 := hi n t' e
        have h2 := Cod.gets_short hlaw hmuch n t' (Cod.size_law.rest hby e).1 hg
        have h3 := Cod.size_law.len hby e
        omega
    · simp only [Cod.list, hsz] at hg
      obtain ⟨k1, k2⟩ := h.ex hb a t hg
      subst k2
      have : r.length = n0 := by
        rcases hend with h | h
        · exact h
        · cases h
      rw [this, hg] at k1
      simp only [Option.some.injEq, Prod.mk.injEq] at k1
      exact ⟨k1.1.symm, k1.2.symm, rfl⟩

/-- A list's beginning. -/
theorem Lq.start {c : Cod.Way α} {C n0 : Nat} (hT : Tq Wb R l1 b1 w1) (hk : Kt (157 : TypeId) w0 w1) : Lq c T size L C Wb R l1 b1 n0 w0 [] l1 b1 (.slice none 0 0) w1 :=
  ⟨hT, hk, Tk.nil _, Nat.zero_le _, Nat.le_refl _, by simp [Cod.puts], fun h => h, fun hb _ _ _ => ⟨rfl, hb⟩⟩
end

end Go.Proofs.YtnimfkcnkkjlkaaGreat

/-
  The three closures by which Decode takes a body off.
-/
import Derived.Test.YtelfckhiafnniaaRen
import Derived.OneCell
namespace Go.Proofs.Ytelfckhiafnniaa
open Go.RowKit

/-- The two variables that the closures write. -/
def Two (G i : Nat) : Prop := i = G + 2 ∨ i = G + 3

/-- The variables of batchOf: the bytes, the place, whether it went wrong, the closure that another one calls. -/
structure Ps (w0 w : World) (a : Option Addr) (n cap : Nat) (zs : List Int) (k : Nat) (s : Option (List Int)) : Prop where
  bel : Below w0.heap.size w0 w
  box : w.heap[w0.heap.size]? = some (.cells #[.slice a n cap] 22 (0, 0))
  at' : w.heap[w0.heap.size + 2]? = some (.cells #[.int .i64 (k : Int)] 3 (0, 0))
  wro : w.heap[w0.heap.size + 3]? = some (.cells #[.bool s.isNone] 4 (0, 0))
  fn : w.heap[w0.heap.size + 4]? = some (.cells #[.func (.func 54) #[] #[.pointer (some ⟨w0.heap.size, 0, none⟩), .pointer (some ⟨w0.heap.size + 2, 0, none⟩), .pointer (some ⟨w0.heap.size + 3, 0, none⟩)]] 73 (0, 0))
  le : k ≤ n
  is : ∀ l, s = some l → l = zs.drop k

section
variable {w0 w w1 : World} {a : Option Addr} {n cap : Nat} {zs : List Int} {k : Nat} {s : Option (List Int)}

theorem some_lt {α : Type} {xs : Array α} {i : Nat} {x : α} (h : xs[i]? = some x) : i < xs.size := (Array.getElem?_eq_some_iff.1 h).1

theorem Ps.bar {S : Nat → Prop} (h : Ps w0 w a n cap zs k s) (hb : Bar S w w1) (hS : ∀ i, S i → w0.heap.size + 5 ≤ i) : Ps w0 w1 a n cap zs k s := by
  have hs := h.bel.size
  have st : ∀ {i : Nat} {o : Obj}, w.heap[i]? = some o → i < w0.heap.size + 5 → w1.heap[i]? = some o := fun ho hi => (hb.block _ (some_lt ho) (fun hh => by have := hS _ hh; omega)).trans ho
  exact ⟨h.bel.trans (hb.below (fun i hi => by have := hS i hi; omega) hs), st h.box (by omega), st h.at' (by omega), st h.wro (by omega), st h.fn (by omega), h.le, h.is⟩

theorem Ps.keep (h : Ps w0 w a n cap zs k s) (hb : Below w.heap.size w w1) : Ps w0 w1 a n cap zs k s := h.bar (S := fun _ => False) (Bar.of_fresh hb) (fun _ h => h.elim)

theorem Ps.c0 (h : Ps w0 w a n cap zs k s) : w.cell? ⟨w0.heap.size, 0, none⟩ = some (.slice a n cap) := by rw [cell_of_row w _ 0 _ 22 (0, 0) h.box]; rfl
theorem Ps.c2 (h : Ps w0 w a n cap zs k s) : w.cell? ⟨w0.heap.size + 2, 0, none⟩ = some (.int .i64 (k : Int)) := by rw [cell_of_row w _ 0 _ 3 (0, 0) h.at']; rfl
theorem Ps.c3 (h : Ps w0 w a n cap zs k s) : w.cell? ⟨w0.heap.size + 3, 0, none⟩ = some (.bool s.isNone) := by rw [cell_of_row w _ 0 _ 4 (0, 0) h.wro]; rfl
theorem Ps.c4 (h : Ps w0 w a n cap zs k s) : w.cell? ⟨w0.heap.size + 4, 0, none⟩ = some (.func (.func 54) #[] #[.pointer (some ⟨w0.heap.size, 0, none⟩), .pointer (some ⟨w0.heap.size + 2, 0, none⟩), .pointer (some ⟨w0.heap.size + 3, 0, none⟩)]) := by rw [cell_of_row w _ 0 _ 73 (0, 0) h.fn]; rfl
theorem Ps.f2 (h : Ps w0 w a n cap zs k s) : w.frozen? ⟨w0.heap.size + 2, 0, none⟩ = false := frozen_of_row w _ 0 _ 3 h.at'
theorem Ps.f3 (h : Ps w0 w a n cap zs k s) : w.frozen? ⟨w0.heap.size + 3, 0, none⟩ = false := frozen_of_row w _ 0 _ 4 h.wro

theorem Ps.mark (h : Ps w0 w a n cap zs k s) (s' : Option (List Int)) (b : Bool) (hb : s'.isNone = b) (hs : ∀ l, s' = some l → l = zs.drop k) : Ps w0 (w.setCell ⟨w0.heap.size + 3, 0, none⟩ (.bool b)) a n cap zs k s' := by
  have st : ∀ {i : Nat} {o : Obj}, w.heap[i]? = some o → i ≠ w0.heap.size + 3 → (w.setCell ⟨w0.heap.size + 3, 0, none⟩ (.bool b)).heap[i]? = some o := fun ho hi => (Below.heap_setCell w ⟨w0.heap.size + 3, 0, none⟩ _ _ hi).trans ho
  refine ⟨h.bel.setCell (by simp) _, st h.box (by omega), st h.at' (by omega), ?_, st h.fn (by omega), h.le, hs⟩
  rw [heap_setCell_same w _ 0 _ 4 _ h.wro, hb]
  rfl

theorem Ps.move {l : List Int} (h : Ps w0 w a n cap zs k (some l)) (k' : Nat) (hk : k' ≤ n) (x : Int) (hx : x = k') : Ps w0 (w.setCell ⟨w0.heap.size + 2, 0, none⟩ (.int .i64 x)) a n cap zs k' (some (zs.drop k')) := by
  subst hx
  have st : ∀ {i : Nat} {o : Obj}, w.heap[i]? = some o → i ≠ w0.heap.size + 2 → (w.setCell ⟨w0.heap.size + 2, 0, none⟩ (.int .i64 (k' : Int))).heap[i]? = some o := fun ho hi => (Below.heap_setCell w ⟨w0.heap.size + 2, 0, none⟩ _ _ hi).trans ho
  refine ⟨h.bel.setCell (by simp) _, st h.box (by omega), ?_, st h.wro (by omega), st h.fn (by omega), hk, fun m hm => by cases hm; rfl⟩
  rw [heap_setCell_same w _ 0 _ 3 _ h.at']
  rfl

theorem Two.set3 (G : Nat) (w : World) (v : Value) : Bar (Two G) w (w.setCell ⟨G + 3, 0, none⟩ v) := (Bar.set w (G + 3) 0 v).mono (fun _ h _ => .inr h)
theorem Two.set2 (G : Nat) (w : World) (v : Value) : Bar (Two G) w (w.setCell ⟨G + 2, 0, none⟩ v) := (Bar.set w (G + 2) 0 v).mono (fun _ h _ => .inl h)
theorem Bar.also {w2 : World} {G : Nat} (h : Bar (Two G) w w1) (k : Bar (Two G) w1 w2) : Bar (Two G) w w2 := h.trans k (fun _ h => .inl h)

theorem gv_nat (zs : List Int) (k : Nat) : gv zs (k : Int) = getv (zs.drop k) := by
  unfold gv
  by_cases h : (k : Int) < 0 ∨ (zs.length : Int) ≤ k
  · rw [if_pos h, List.drop_eq_nil_of_le (by omega)]
    rfl
  · rw [if_neg h, Int.toNat_natCast]

theorem getv_le {l : List Int} (hb : ∀ z ∈ l, 0 ≤ z ∧ z ≤ 255) {v : Nat} (h : getv l = some v) : (vb v).length ≤ l.length ∧ v < 18446744073709551616 := by
  obtain ⟨h1, h2⟩ := (getv_iff hb v).1 h
  exact ⟨h2.length_le, h1⟩

set_option maxHeartbeats 1000000 in
theorem sgn_any (h0 : Bs w0 a n cap zs) (h : Ps w0 w a n cap zs k s) :
    Calls Try.prog 52 #[.pointer (some ⟨w0.heap.size, 0, none⟩), .pointer (some ⟨w0.heap.size + 2, 0, none⟩), .pointer (some ⟨w0.heap.size + 3, 0, none⟩)] w fun e w' => e = .returned (.int .i64 (unfo (tk s).1)) ∧ (∃ k', Ps w0 w' a n cap zs k' (tk s).2) ∧ Bar (Two w0.heap.size) w w' := by
  have c0 := h.c0
  have c2 := h.c2
  have C := getInt_val a n cap zs k w (h0.keep h.bel)
  cases s with
  | none =>
    go_enter Try.func52, Try.ntmps52
    go_wp2_with fail
    refine C.mono ?_
    rintro e w1 ⟨rfl, hb1⟩
    have h1 := h.keep hb1
    have c3 := h1.c3
    have f3 := h1.f3
    have F := hide (And.intro (h1.mark none true rfl (fun _ h => by cases h)) ((Bar.of_fresh hb1).trans (Two.set3 w0.heap.size w1 (.bool true)) (fun _ h => .inl h)))
    clear h h1
    go_wp2_with fail
    go_ret
    exact ⟨rfl, ⟨k, F.out.1⟩, F.out.2⟩
  | some l =>
    have hl : l = zs.drop k := h.is l rfl
    subst hl
    cases hg : getv (zs.drop k) with
    | none =>
      have ht : tk (some (zs.drop k)) = (0, none) := by simp [tk, hg]
      rw [ht]
      unfold gN gE gB at C
      rw [gv_nat, hg] at C
      go_enter Try.func52, Try.ntmps52
      go_wp2_with fail
      refine C.mono ?_
      rintro e w1 ⟨rfl, hb1⟩
      have h1 := h.keep hb1
      have c3 := h1.c3
      have f3 := h1.f3
      have F := hide (And.intro (h1.mark none true rfl (fun _ h => by cases h)) ((Bar.of_fresh hb1).trans (Two.set3 w0.heap.size w1 (.bool true)) (fun _ h => .inl h)))
      clear h h1
      go_wp2_with fail
      go_ret
      exact ⟨rfl, ⟨k, F.out.1⟩, F.out.2⟩
    | some v =>
      have ht : tk (some (zs.drop k)) = (v, some (zs.drop (k + (vb v).length))) := by simp [tk, hg, List.drop_drop]
      rw [ht]
      obtain ⟨hvl, hv⟩ := getv_le (drop_byte h0.byte _) hg
      rw [List.length_drop, h0.len] at hvl
      have hle := h.le
      have hn1 := h0.le
      have hn2 := h0.reach
      unfold gN gE gB at C
      rw [gv_nat, hg] at C
      simp only [Option.getD_some, Option.isSome_some, Int.toNat_natCast] at C
      go_enter Try.func52, Try.ntmps52
      go_wp2_with fail
      refine C.mono ?_
      rintro e w1 ⟨rfl, hb1⟩
      have h1 := h.keep hb1
      have c3 := h1.c3
      have f3 := h1.f3
      have h2 := h1.mark (some (zs.drop k)) false rfl (fun _ h => by cases h; rfl)
      have f2 := h2.f2
      have c22 := h2.c2
      have h3 := h2.move (k + (vb v).length) (by omega) _ rfl
      have F := hide (And.intro h3 (((Bar.of_fresh hb1).trans (Two.set3 w0.heap.size w1 (.bool false)) (fun _ h => .inl h)).also (Two.set2 w0.heap.size _ (.int .i64 ((k + (vb v).length : Nat) : Int)))))
      clear h h1 h2 h3
      go_wp2_with fail
      go_ret
      exact ⟨rfl, ⟨_, F.out.1⟩, F.out.2⟩

end
end Go.Proofs.Ytelfckhiafnniaa

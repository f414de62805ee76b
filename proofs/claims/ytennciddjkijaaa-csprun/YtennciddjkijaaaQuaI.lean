/-
  A queue of int in memory: whether it was made, its places, its length, a new ring, its list.
-/
import Derived.Test.YtennciddjkijaaaQfr
import Derived.LaidEql
import Derived.Deep.AppendLies
namespace Go.Proofs.Ytennciddjkijaaa.QI
open Go.RowKit
set_option maxRecDepth 100000

/-- As many things as any list of this kind can have. -/
def Mx : Nat := 17592186044416

def qcs (R G N h n : Nat) : Array Value := #[.pointer (some ⟨R, 0, none⟩), .slice (some ⟨G, 0, none⟩) N N, .int .i64 h, .int .i64 n]

/-- A queue: its own block R, its ring G of N places, the line's head at place h. -/
structure Qu (w : World) (R G N h : Nat) (xs : List Int) : Prop where
  obj : w.heap[R]? = some (.cells (qcs R G N h xs.length) (97 : TypeId) (0, 0))
  ring : ∃ cur, w.heap[G]? = some (.cells (cur.map (Value.int .i64)).toArray 3 (0, 0)) ∧ Rg cur N h xs
  small : N ≤ 2 * Mx
  few : xs.length < Mx

section
variable {w w' : World} {R G N h : Nat} {xs : List Int} {S : Nat → Prop}
theorem Qu.lt (q : Qu w R G N h xs) : R < w.heap.size := heap_lt q.obj
theorem Qu.glt (q : Qu w R G N h xs) : G < w.heap.size := by
  obtain ⟨cur, hc, _⟩ := q.ring
  exact heap_lt hc
theorem Qu.ne (q : Qu w R G N h xs) : R ≠ G := by
  obtain ⟨cur, hc, _⟩ := q.ring
  intro e
  have := q.obj
  rw [e, hc] at this
  simp only [Option.some.injEq, Obj.cells.injEq] at this
  exact absurd this.2.1 (by decide)
theorem Qu.head (q : Qu w R G N h xs) : h < N := by
  obtain ⟨cur, _, r⟩ := q.ring
  exact r.head
theorem Qu.le (q : Qu w R G N h xs) : xs.length ≤ N := by
  obtain ⟨cur, _, r⟩ := q.ring
  exact r.few
theorem Qu.heap (q : Qu w R G N h xs) (h1 : w'.heap[R]? = w.heap[R]?) (h2 : w'.heap[G]? = w.heap[G]?) : Qu w' R G N h xs := by
  obtain ⟨cur, hc, r⟩ := q.ring
  exact ⟨h1.trans q.obj, ⟨cur, h2.trans hc, r⟩, q.small, q.few⟩
theorem Qu.tb (q : Qu w R G N h xs) (hb : Tb S w w') (h1 : ¬ S R) (h2 : ¬ S G) : Qu w' R G N h xs := q.heap (hb.block R q.lt h1) (hb.block G q.glt h2)
theorem Qu.below (q : Qu w R G N h xs) (hb : Below w.heap.size w w') : Qu w' R G N h xs := q.heap (hb.block R q.lt) (hb.block G q.glt)
theorem Qu.drewN (q : Qu w R G N h xs) (m : Nat) : Qu (w.drewN m) R G N h xs := q.below (below_drewN (Below.refl _ w) m)
theorem Qu.free (q : Qu w R G N h xs) (i : Nat) : w.frozen? ⟨R, i, none⟩ = false := frozen_of_row w R i _ (97 : TypeId) q.obj
theorem Qu.gfree (q : Qu w R G N h xs) (i : Nat) : w.frozen? ⟨G, i, none⟩ = false := by
  obtain ⟨cur, hc, _⟩ := q.ring
  exact frozen_of_row w G i _ 3 hc
theorem Qu.c (q : Qu w R G N h xs) (i : Nat) : w.cell? ⟨R, i, none⟩ = (qcs R G N h xs.length)[i]? := cell_of_row w R i _ (97 : TypeId) (0, 0) q.obj
theorem Qu.g (q : Qu w R G N h xs) {i : Nat} (hi : i < xs.length) : w.cell? ⟨G, (h + i) % N, none⟩ = some ((Value.int .i64) (xs.getD i 0)) := by
  obtain ⟨cur, hc, r⟩ := q.ring
  rw [cell_of_row w G _ _ 3 (0, 0) hc]
  simp [r.get hi 0]
theorem Qu.gany (q : Qu w R G N h xs) (i : Nat) : ∃ x, w.cell? ⟨G, (h + i) % N, none⟩ = some ((Value.int .i64) x) := by
  obtain ⟨cur, hc, r⟩ := q.ring
  have hs := r.spot i
  rw [← r.len] at hs
  refine ⟨cur[(h + i) % N]'(by rw [r.len] at hs ⊢; exact hs), ?_⟩
  rw [cell_of_row w G _ _ 3 (0, 0) hc]
  rw [r.len] at hs
  simp [List.getElem?_eq_getElem (show (h + i) % N < cur.length by rw [r.len]; exact hs)]

/-- A thing laid at a place of the line. -/
theorem Qu.set (q : Qu w R G N h xs) {j : Nat} (hj : j < xs.length) (x : Int) : Qu (w.setCell ⟨G, (h + j) % N, none⟩ ((Value.int .i64) x)) R G N h (xs.set j x) := by
  obtain ⟨cur, hc, r⟩ := q.ring
  have hne := q.ne
  refine ⟨?_, ⟨cur.set ((h + j) % N) x, ?_, r.set hj x⟩, q.small, by simpa using q.few⟩
  · rw [Below.heap_setCell w _ _ R (by simpa using hne), List.length_set]
    exact q.obj
  · rw [heap_setCell_same w G _ _ 3 _ hc]
    simp [List.map_set]
end

theorem infoQ : ∃ j, Try.prog.info? (97 : TypeId) = some j := by
  have h : (Try.prog.info? (97 : TypeId)).isSome = true := by kernel_rfl
  exact Option.isSome_iff_exists.1 h

theorem made_yes {w : World} {R G N h : Nat} {xs : List Int} (q : Qu w R G N h xs) :
    Calls Try.prog 95 #[.pointer (some ⟨R, 0, none⟩)] w fun e w' => e = .returned (.bool true) ∧ w' = w := by
  have c0 : w.cell? ⟨R, 0, none⟩ = some (.pointer (some ⟨R, 0, none⟩)) := q.c 0
  clear q
  obtain ⟨j, hj⟩ := infoQ
  have he := eql_self (P := Try.prog) (w := w) (tp := (84 : TypeId)) (te := (97 : TypeId)) ⟨R, 0, none⟩ Try.underlying84 hj
  go_enter Try.func95, Try.ntmps95
  go_wp2_with fail
  go_ret
  exact ⟨rfl, rfl⟩

theorem made_nil (w : World) : Calls Try.prog 95 #[.pointer none] w fun e w' => e = .returned (.bool false) ∧ w' = w := by
  go_enter Try.func95, Try.ntmps95
  go_wp2_with fail
  go_ret
  exact ⟨rfl, rfl⟩

theorem made_zero {w : World} {R : Nat} (c0 : w.cell? ⟨R, 0, none⟩ = some (.pointer none)) : Calls Try.prog 95 #[.pointer (some ⟨R, 0, none⟩)] w fun e w' => e = .returned (.bool false) ∧ w' = w := by
  have he := eql_nil (P := Try.prog) (w := w) (tp := (84 : TypeId)) (te := (97 : TypeId)) ⟨R, 0, none⟩ Try.underlying84
  go_enter Try.func95, Try.ntmps95
  go_wp2_with fail
  go_ret
  exact ⟨rfl, rfl⟩

theorem spot_any {w : World} {R G N h : Nat} {xs : List Int} (q : Qu w R G N h xs) (i : Nat) (hi : i ≤ N) :
    Calls Try.prog 81 #[.pointer (some ⟨R, 0, none⟩), .int .i64 i] w fun e w' => e = .returned (.int .i64 ((h + i) % N : Nat)) ∧ ∃ m, w' = w.drewN m := by
  have c1 : w.cell? ⟨R, 1, none⟩ = some (.slice (some ⟨G, 0, none⟩) N N) := q.c 1
  have c2 : w.cell? ⟨R, 2, none⟩ = some (.int .i64 h) := q.c 2
  have hh := q.head
  have hs := q.small
  unfold Mx at hs
  have ht : ((h : Int) + (i : Int)).tmod (N : Int) = (((h + i) % N : Nat) : Int) := by
    rw [Int.tmod_eq_emod_of_nonneg (by omega)]
    simp
  have h0 : ((N : Int) == 0) = false := by simp; omega
  obtain ⟨K, hK⟩ : ∃ K, Hid (K = (h + i) % N) := ⟨_, hide rfl⟩
  rw [← hK.out] at ht ⊢
  have hl : K < N := by rw [hK.out]; exact Nat.mod_lt _ (by omega)
  clear q
  go_enter Try.func81, Try.ntmps81
  go_wp2_with fail
  go_quiet (fail)
  go_wp2_with fail
  go_ret
  exact ⟨rfl, _, rfl⟩

theorem len_yes {w : World} {R G N h : Nat} {xs : List Int} (q : Qu w R G N h xs) :
    Calls Try.prog 77 #[.pointer (some ⟨R, 0, none⟩)] w fun e w' => e = .returned (.int .i64 xs.length) ∧ w' = w := by
  have c3 : w.cell? ⟨R, 3, none⟩ = some (.int .i64 xs.length) := q.c 3
  have C := made_yes q
  clear q
  go_enter Try.func77, Try.ntmps77
  go_wp2_with fail
  refine C.mono ?_
  rintro e w1 ⟨rfl, rfl⟩
  go_wp2_with fail
  go_ret
  exact ⟨rfl, rfl⟩

theorem len_none {w : World} {p : Option Addr} (C : Calls Try.prog 95 #[.pointer p] w fun e w' => e = .returned (.bool false) ∧ w' = w) :
    Calls Try.prog 77 #[.pointer p] w fun e w' => e = .returned (.int .i64 0) ∧ w' = w := by
  go_enter Try.func77, Try.ntmps77
  go_wp2_with fail
  refine C.mono ?_
  rintro e w1 ⟨rfl, rfl⟩
  go_wp2_with fail
  go_ret
  exact ⟨rfl, rfl⟩

end Go.Proofs.Ytennciddjkijaaa.QI

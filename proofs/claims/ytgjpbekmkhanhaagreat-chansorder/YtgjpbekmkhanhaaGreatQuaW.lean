/-
  A queue of conduit/chans.waiter[int] in memory: whether it was made, its places, its length, a new ring, its list.
-/
import Derived.Test.YtgjpbekmkhanhaaGreatQfr
import Derived.LaidEql
import Derived.Deep.AppendLies
namespace Go.Proofs.YtgjpbekmkhanhaaGreat.QW
open Go.RowKit
set_option maxRecDepth 100000

/-- As many things as any list of this kind can have. -/
def Mx : Nat := 1000000

def qcs (R G N h n : Nat) : Array Value := #[.pointer (some ⟨R, 0, none⟩), .slice (some ⟨G, 0, none⟩) N N, .int .i64 h, .int .i64 n]

/-- A waiter as it is held: its ticket, its value, what it is told by. -/
structure Wv where
  tk : Option Addr
  val : Int
  told : Value
  one : told.oneCell' = true

def wz : Wv := ⟨none, 0, .nilFunc, rfl⟩
def wc (x : Wv) : List Value := [.pointer x.tk, .int .i64 x.val, x.told]
def wv (x : Wv) : Value := .agg #[.pointer x.tk, .int .i64 x.val, x.told]
theorem wc_length (l : List Wv) : (l.flatMap wc).length = l.length * 3 := by
  induction l with
  | nil => rfl
  | cons x l ih => simp only [List.flatMap_cons, List.length_append, ih, List.length_cons]; simp [wc]; omega
theorem wc_get (l : List Wv) {i : Nat} {p : Wv} (hi : l[i]? = some p) (j : Nat) (hj : j < 3) : (l.flatMap wc)[i * 3 + j]? = (wc p)[j]? := by
  induction l generalizing i with
  | nil => simp at hi
  | cons x l ih =>
    have h4 : (wc x).length = 3 := rfl
    cases i with
    | zero =>
      simp only [List.getElem?_cons_zero, Option.some.injEq] at hi
      subst hi
      rw [List.flatMap_cons, List.getElem?_append_left (by omega)]
      simp
    | succ i =>
      simp only [List.getElem?_cons_succ] at hi
      rw [List.flatMap_cons, List.getElem?_append_right (by omega), h4, show (i + 1) * 3 + j - 3 = i * 3 + j by omega]
      exact ih hi
theorem wc_set (l : List Wv) {i : Nat} (hi : i < l.length) (q : Wv) : (((l.flatMap wc).set (i * 3) (.pointer q.tk)).set (i * 3 + 1) (.int .i64 q.val)).set (i * 3 + 2) q.told = (l.set i q).flatMap wc := by
  induction l generalizing i with
  | nil => simp at hi
  | cons x l ih =>
    have h4 : (wc x).length = 3 := rfl
    cases i with
    | zero => simp [wc]
    | succ i =>
      simp only [List.length_cons] at hi
      rw [List.flatMap_cons, List.set_cons_succ, List.flatMap_cons]
      rw [List.set_append_right _ _ (by omega), List.set_append_right _ _ (by omega), List.set_append_right _ _ (by omega), h4]
      rw [show (i + 1) * 3 - 3 = i * 3 by omega, show (i + 1) * 3 + 1 - 3 = i * 3 + 1 by omega, show (i + 1) * 3 + 2 - 3 = i * 3 + 2 by omega, ih (by omega)]
/-- Memory with a waiter laid at a place. -/
def st3 (w : World) (G k : Nat) (x : Wv) : World := ((w.setCell ⟨G, k * 3, none⟩ (.pointer x.tk)).setCell ⟨G, k * 3 + 1, none⟩ (.int .i64 x.val)).setCell ⟨G, k * 3 + 2, none⟩ x.told
theorem st3_heap (w : World) {G k : Nat} {cur : List Wv} {t : TypeId} (hc : w.heap[G]? = some (.cells (cur.flatMap wc).toArray t (0, 0))) (hk : k < cur.length) (x : Wv) : (st3 w G k x).heap[G]? = some (.cells ((cur.set k x).flatMap wc).toArray t (0, 0)) := by
  have h1 := heap_setCell_same w G (k * 3) _ t (.pointer x.tk) hc
  have h2 := heap_setCell_same _ G (k * 3 + 1) _ t (.int .i64 x.val) h1
  have h3 := heap_setCell_same _ G (k * 3 + 2) _ t x.told h2
  rw [← wc_set cur hk x]
  simpa [st3] using h3
theorem st3_tb {S : Nat → Prop} (w : World) {G k : Nat} (x : Wv) (h : S G) : Tb S w (st3 w G k x) := ((Tb.set (S := S) G _ _ h).trans (Tb.set (S := S) G _ _ h) (fun _ _ h => h)).trans (Tb.set (S := S) G _ _ h) (fun _ _ h => h)
theorem st3_other (w : World) {G k R : Nat} (x : Wv) (h : R ≠ G) : (st3 w G k x).heap[R]? = w.heap[R]? := by
  unfold st3
  rw [Below.heap_setCell _ _ _ R (by simpa using h), Below.heap_setCell _ _ _ R (by simpa using h), Below.heap_setCell _ _ _ R (by simpa using h)]

/-- A queue: its own block R, its ring G of N places, the line's head at place h. -/
structure Qu (w : World) (R G N h : Nat) (xs : List Wv) : Prop where
  obj : w.heap[R]? = some (.cells (qcs R G N h xs.length) (187 : TypeId) (0, 0))
  ring : ∃ cur, w.heap[G]? = some (.cells (cur.flatMap wc).toArray (141 : TypeId) (0, 0)) ∧ Rg cur N h xs
  small : N ≤ 2 * Mx
  few : xs.length < Mx

section
variable {w w' : World} {R G N h : Nat} {xs : List Wv} {S : Nat → Prop}
theorem Qu.lt (q : Qu w R G N h xs) : R < w.heap.size := heap_lt q.obj
theorem Qu.glt (q : Qu w R G N h xs) : G < w.heap.size := by
  obtain ⟨cur, hc, _⟩ := q.ring
  exact heap_lt hc
theorem Qu.ne (q : Qu w R G N h xs) : R ≠ G := by
  obtain ⟨cur, hc, _⟩ := q.ring
  intro e
  have := q.obj
  rw [e, hc] at this
  simp only [Option.some.injEq, Obj.cells.injEq] at this
  exact absurd this.2.1 (by decide)
theorem Qu.head (q : Qu w R G N h xs) : h < N := by
  obtain ⟨cur, _, r⟩ := q.ring
  exact r.head
theorem Qu.le (q : Qu w R G N h xs) : xs.length ≤ N := by
  obtain ⟨cur, _, r⟩ := q.ring
  exact r.few
theorem Qu.heap (q : Qu w R G N h xs) (h1 : w'.heap[R]? = w.heap[R]?) (h2 : w'.heap[G]? = w.heap[G]?) : Qu w' R G N h xs := by
  obtain ⟨cur, hc, r⟩ := q.ring
  exact ⟨h1.trans q.obj, ⟨cur, h2.trans hc, r⟩, q.small, q.few⟩
theorem Qu.tb (q : Qu w R G N h xs) (hb : Tb S w w') (h1 : ¬ S R) (h2 : ¬ S G) : Qu w' R G N h xs := q.heap (hb.block R q.lt h1) (hb.block G q.glt h2)
theorem Qu.below (q : Qu w R G N h xs) (hb : Below w.heap.size w w') : Qu w' R G N h xs := q.heap (hb.block R q.lt) (hb.block G q.glt)
theorem Qu.drewN (q : Qu w R G N h xs) (m : Nat) : Qu (w.drewN m) R G N h xs := q.below (below_drewN (Below.refl _ w) m)
theorem Qu.free (q : Qu w R G N h xs) (i : Nat) : w.frozen? ⟨R, i, none⟩ = false := frozen_of_row w R i _ (187 : TypeId) q.obj
theorem Qu.gfree (q : Qu w R G N h xs) (i : Nat) : w.frozen? ⟨G, i, none⟩ = false := by
  obtain ⟨cur, hc, _⟩ := q.ring
  exact frozen_of_row w G i _ (141 : TypeId) hc
theorem Qu.c (q : Qu w R G N h xs) (i : Nat) : w.cell? ⟨R, i, none⟩ = (qcs R G N h xs.length)[i]? := cell_of_row w R i _ (187 : TypeId) (0, 0) q.obj
theorem Qu.g (q : Qu w R G N h xs) {i : Nat} (hi : i < xs.length) (j : Nat) (hj : j < 3) : w.cell? ⟨G, (h + i) % N * 3 + j, none⟩ = (wc (xs.getD i wz))[j]? := by
  obtain ⟨cur, hc, r⟩ := q.ring
  rw [cell_of_row w G _ _ (141 : TypeId) (0, 0) hc]
  have := wc_get cur (r.get hi wz) j hj
  simpa using this
theorem Qu.gany (q : Qu w R G N h xs) (i : Nat) : ∃ x : Wv, ∀ j, j < 3 → w.cell? ⟨G, (h + i) % N * 3 + j, none⟩ = (wc x)[j]? := by
  obtain ⟨cur, hc, r⟩ := q.ring
  have hs := r.spot i
  rw [← r.len] at hs
  have hs2 : (h + i) % N < cur.length := by rw [r.len] at hs ⊢; exact hs
  refine ⟨cur[(h + i) % N]'hs2, fun j hj => ?_⟩
  rw [cell_of_row w G _ _ (141 : TypeId) (0, 0) hc]
  have := wc_get cur (List.getElem?_eq_getElem hs2) j hj
  simpa using this

/-- A thing laid at a place of the line. -/
theorem Qu.set (q : Qu w R G N h xs) {j : Nat} (hj : j < xs.length) (x : Wv) : Qu (st3 w G ((h + j) % N) x) R G N h (xs.set j x) := by
  obtain ⟨cur, hc, r⟩ := q.ring
  have hne := q.ne
  refine ⟨?_, ⟨cur.set ((h + j) % N) x, st3_heap w hc (by rw [r.len]; exact r.spot j) x, r.set hj x⟩, q.small, by simpa using q.few⟩
  rw [st3_other w x hne, List.length_set]
  exact q.obj
end

theorem infoQ : ∃ j, Tryz.prog.info? (187 : TypeId) = some j := by
  have h : (Tryz.prog.info? (187 : TypeId)).isSome = true := by kernel_rfl
  exact Option.isSome_iff_exists.1 h

theorem made_yes {w : World} {R G N h : Nat} {xs : List Wv} (q : Qu w R G N h xs) :
    Calls Tryz.prog 160 #[.pointer (some ⟨R, 0, none⟩)] w fun e w' => e = .returned (.bool true) ∧ w' = w := by
  have c0 : w.cell? ⟨R, 0, none⟩ = some (.pointer (some ⟨R, 0, none⟩)) := q.c 0
  clear q
  obtain ⟨j, hj⟩ := infoQ
  have he := eql_self (P := Tryz.prog) (w := w) (tp := (162 : TypeId)) (te := (187 : TypeId)) ⟨R, 0, none⟩ Tryz.underlying162 hj
  go_enter Tryz.func160, Tryz.ntmps160
  go_wp2_with fail
  go_ret
  exact ⟨rfl, rfl⟩

theorem made_nil (w : World) : Calls Tryz.prog 160 #[.pointer none] w fun e w' => e = .returned (.bool false) ∧ w' = w := by
  go_enter Tryz.func160, Tryz.ntmps160
  go_wp2_with fail
  go_ret
  exact ⟨rfl, rfl⟩

theorem made_zero {w : World} {R : Nat} (c0 : w.cell? ⟨R, 0, none⟩ = some (.pointer none)) : Calls Tryz.prog 160 #[.pointer (some ⟨R, 0, none⟩)] w fun e w' => e = .returned (.bool false) ∧ w' = w := by
  have he := eql_nil (P := Tryz.prog) (w := w) (tp := (162 : TypeId)) (te := (187 : TypeId)) ⟨R, 0, none⟩ Tryz.underlying162
  go_enter Tryz.func160, Tryz.ntmps160
  go_wp2_with fail
  go_ret
  exact ⟨rfl, rfl⟩

theorem spot_any {w : World} {R G N h : Nat} {xs : List Wv} (q : Qu w R G N h xs) (i : Nat) (hi : i ≤ N) :
    Calls Tryz.prog 159 #[.pointer (some ⟨R, 0, none⟩), .int .i64 i] w fun e w' => e = .returned (.int .i64 ((h + i) % N : Nat)) ∧ ∃ m, w' = w.drewN m := by
  have c1 : w.cell? ⟨R, 1, none⟩ = some (.slice (some ⟨G, 0, none⟩) N N) := q.c 1
  have c2 : w.cell? ⟨R, 2, none⟩ = some (.int .i64 h) := q.c 2
  have hh := q.head
  have hs := q.small
  unfold Mx at hs
  have ht : ((h : Int) + (i : Int)).tmod (N : Int) = (((h + i) % N : Nat) : Int) := by
    rw [Int.tmod_eq_emod_of_nonneg (by omega)]
    simp
  have h0 : ((N : Int) == 0) = false := by simp; omega
  obtain ⟨K, hK⟩ : ∃ K, Hid (K = (h + i) % N) := ⟨_, hide rfl⟩
  rw [← hK.out] at ht ⊢
  have hl : K < N := by rw [hK.out]; exact Nat.mod_lt _ (by omega)
  clear q
  go_enter Tryz.func159, Tryz.ntmps159
  go_wp2_with fail
  go_quiet (fail)
  go_wp2_with fail
  go_ret
  exact ⟨rfl, _, rfl⟩

theorem len_yes {w : World} {R G N h : Nat} {xs : List Wv} (q : Qu w R G N h xs) :
    Calls Tryz.prog 141 #[.pointer (some ⟨R, 0, none⟩)] w fun e w' => e = .returned (.int .i64 xs.length) ∧ w' = w := by
  have c3 : w.cell? ⟨R, 3, none⟩ = some (.int .i64 xs.length) := q.c 3
  have C := made_yes q
  clear q
  go_enter Tryz.func141, Tryz.ntmps141
  go_wp2_with fail
  refine C.mono ?_
  rintro e w1 ⟨rfl, rfl⟩
  go_wp2_with fail
  go_ret
  exact ⟨rfl, rfl⟩

theorem len_none {w : World} {p : Option Addr} (C : Calls Tryz.prog 160 #[.pointer p] w fun e w' => e = .returned (.bool false) ∧ w' = w) :
    Calls Tryz.prog 141 #[.pointer p] w fun e w' => e = .returned (.int .i64 0) ∧ w' = w := by
  go_enter Tryz.func141, Tryz.ntmps141
  go_wp2_with fail
  refine C.mono ?_
  rintro e w1 ⟨rfl, rfl⟩
  go_wp2_with fail
  go_ret
  exact ⟨rfl, rfl⟩

end Go.Proofs.YtgjpbekmkhanhaaGreat.QW

/-
  A sched in memory: whether it was made, New, Len, List, who is ready.
-/
import Derived.Test.YtennciddjkijaaaQveI
namespace Go.Proofs.Ytennciddjkijaaa.QI
open Go.RowKit
set_option maxRecDepth 100000

/-- A sched's own block. -/
def Sd (w : World) (Q R : Nat) : Prop := w.heap[Q]? = some (.cells #[.pointer (some ⟨Q, 0, none⟩), .pointer (some ⟨R, 0, none⟩)] (89 : TypeId) (0, 0))

section
variable {w w' : World} {Q R G N h : Nat} {xs ys : List Int}
theorem Sd.lt (s : Sd w Q R) : Q < w.heap.size := heap_lt s
theorem Sd.below (s : Sd w Q R) (hb : Below w.heap.size w w') : Sd w' Q R := (hb.block Q s.lt).trans s
theorem Sd.tb {S : Nat → Prop} (s : Sd w Q R) (hb : Tb S w w') (h : ¬ S Q) : Sd w' Q R := (hb.block Q s.lt h).trans s
theorem Sd.c (s : Sd w Q R) (i : Nat) : w.cell? ⟨Q, i, none⟩ = #[Value.pointer (some ⟨Q, 0, none⟩), Value.pointer (some ⟨R, 0, none⟩)][i]? := cell_of_row w Q i _ _ (0, 0) s
theorem Sd.neR (s : Sd w Q R) {R' : Nat} (q : Qu w R' G N h xs) : Q ≠ R' := by
  rintro rfl
  have := q.obj
  unfold Sd at s
  rw [s] at this
  simp at this
theorem Sd.neG (s : Sd w Q R) {R' : Nat} (q : Qu w R' G N h xs) : Q ≠ G := by
  rintro rfl
  obtain ⟨cur, hc, _⟩ := q.ring
  unfold Sd at s
  rw [s] at hc
  simp at hc
theorem Sd.turn (s : Sd w Q R) {R' : Nat} (q : Qu w R' G N h xs) (k : Qt w w' R' G ys) : Sd w' Q R := by
  obtain ⟨_, _, _, _, _, t⟩ := k
  exact s.tb t (fun h => h.elim (s.neR q) (s.neG q))
end

theorem infoS : ∃ j, Try.prog.info? (89 : TypeId) = some j := by
  have h : (Try.prog.info? (89 : TypeId)).isSome = true := by kernel_rfl
  exact Option.isSome_iff_exists.1 h

theorem smade_yes {w : World} {Q R : Nat} (s : Sd w Q R) :
    Calls Try.prog 71 #[.pointer (some ⟨Q, 0, none⟩)] w fun e w' => e = .returned (.bool true) ∧ w' = w := by
  have c0 : w.cell? ⟨Q, 0, none⟩ = some (.pointer (some ⟨Q, 0, none⟩)) := s.c 0
  clear s
  obtain ⟨j, hj⟩ := infoS
  have he := eql_self (P := Try.prog) (w := w) (tp := (58 : TypeId)) (te := (89 : TypeId)) ⟨Q, 0, none⟩ Try.underlying58 hj
  go_enter Try.func71, Try.ntmps71
  go_wp2_with fail
  go_ret
  exact ⟨rfl, rfl⟩

theorem smade_nil (w : World) : Calls Try.prog 71 #[.pointer none] w fun e w' => e = .returned (.bool false) ∧ w' = w := by
  go_enter Try.func71, Try.ntmps71
  go_wp2_with fail
  go_ret
  exact ⟨rfl, rfl⟩

theorem smade_zero {w : World} {Q : Nat} (c0 : w.cell? ⟨Q, 0, none⟩ = some (.pointer none)) : Calls Try.prog 71 #[.pointer (some ⟨Q, 0, none⟩)] w fun e w' => e = .returned (.bool false) ∧ w' = w := by
  have he := eql_nil (P := Try.prog) (w := w) (tp := (58 : TypeId)) (te := (89 : TypeId)) ⟨Q, 0, none⟩ Try.underlying58
  go_enter Try.func71, Try.ntmps71
  go_wp2_with fail
  go_ret
  exact ⟨rfl, rfl⟩

theorem slen_yes {w : World} {Q R G N h : Nat} {xs : List Int} (s : Sd w Q R) (q : Qu w R G N h xs) :
    Calls Try.prog 68 #[.pointer (some ⟨Q, 0, none⟩)] w fun e w' => e = .returned (.int .i64 xs.length) ∧ w' = w := by
  have c1 : w.cell? ⟨Q, 1, none⟩ = some (.pointer (some ⟨R, 0, none⟩)) := s.c 1
  have C := smade_yes s
  have CL := len_yes q
  clear s q
  go_enter Try.func68, Try.ntmps68
  go_wp2_with fail
  refine C.mono ?_
  rintro e w1 ⟨rfl, rfl⟩
  go_wp2_with fail
  refine CL.mono ?_
  rintro e w2 ⟨rfl, rfl⟩
  go_wp2_with fail
  go_ret
  exact ⟨rfl, rfl⟩

theorem slen_none {w : World} {p : Option Addr} (C : Calls Try.prog 71 #[.pointer p] w fun e w' => e = .returned (.bool false) ∧ w' = w) :
    Calls Try.prog 68 #[.pointer p] w fun e w' => e = .returned (.int .i64 0) ∧ w' = w := by
  go_enter Try.func68, Try.ntmps68
  go_wp2_with fail
  refine C.mono ?_
  rintro e w1 ⟨rfl, rfl⟩
  go_wp2_with fail
  go_ret
  exact ⟨rfl, rfl⟩

theorem slist_yes {w : World} {Q R G N h : Nat} {xs : List Int} (s : Sd w Q R) (q : Qu w R G N h xs) :
    Calls Try.prog 51 #[.pointer (some ⟨Q, 0, none⟩)] w fun e w' => ∃ a cap, e = .returned (.slice a xs.length cap) ∧ w'.ownsRow w.heap.size 3 1 (.slice a xs.length cap) xs.length (W xs) ∧ Below w.heap.size w w' := by
  have c1 : w.cell? ⟨Q, 1, none⟩ = some (.pointer (some ⟨R, 0, none⟩)) := s.c 1
  have C := smade_yes s
  have CL := list_yes q
  clear s q
  obtain ⟨n, hn⟩ : ∃ n, Hid (n = xs.length) := ⟨_, hide rfl⟩
  rw [← hn.out] at CL ⊢
  go_enter Try.func51, Try.ntmps51
  go_wp2_with fail
  refine C.mono ?_
  rintro e w1 ⟨rfl, hw1⟩
  subst w1
  go_wp2_with fail
  refine CL.mono ?_
  rintro e w2 ⟨a, cap, rfl, ho, hb⟩
  have HO := hide ho
  have HB := hide hb
  clear ho hb
  go_wp2_with fail
  go_ret
  exact ⟨a, cap, rfl, HO.out, HB.out⟩

theorem slist_none {w : World} {p : Option Addr} (C : Calls Try.prog 71 #[.pointer p] w fun e w' => e = .returned (.bool false) ∧ w' = w) :
    Calls Try.prog 51 #[.pointer p] w fun e w' => e = .returned (.slice none 0 0) ∧ w' = w := by
  go_enter Try.func51, Try.ntmps51
  go_wp2_with fail
  refine C.mono ?_
  rintro e w1 ⟨rfl, rfl⟩
  go_wp2_with fail
  go_ret
  exact ⟨rfl, rfl⟩

set_option maxHeartbeats 1000000 in
theorem snew_any (w : World) :
    Calls Try.prog 41 #[] w fun e w' => ∃ Q R G N h, e = .returned (.pointer (some ⟨Q, 0, none⟩)) ∧ Sd w' Q R ∧ Qu w' R G N h [] ∧ w.heap.size ≤ Q ∧ w.heap.size ≤ R ∧ w.heap.size ≤ G ∧ Below w.heap.size w w' := by
  have hnil : Ls w none 0 0 [] := ⟨rfl, Nat.le_refl _, by omega, fun h => by omega⟩
  have CO := of_any hnil (fun ad h => by cases h) (by decide)
  clear hnil
  go_enter Try.func41, Try.ntmps41
  go_wp2_with fail
  refine CO.mono ?_
  rintro e w1 ⟨rfl, q, hb⟩
  obtain ⟨R, hR⟩ : ∃ R, Hid (R = w.heap.size) := ⟨_, hide rfl⟩
  rw [← hR.out] at q ⊢
  obtain ⟨Q, hQ⟩ : ∃ Q, Hid (Q = w1.heap.size) := ⟨_, hide rfl⟩
  obtain ⟨X, hX⟩ : ∃ X, Hid (X = w1.alloc (.cells #[.pointer none, .pointer (some ⟨R, 0, none⟩)] (89 : TypeId))) := ⟨_, hide rfl⟩
  have hXR : X.heap[Q]? = some (.cells #[.pointer none, .pointer (some ⟨R, 0, none⟩)] (89 : TypeId) (0, 0)) := by rw [hX.out, hQ.out]; exact heap_alloc_new w1 _
  have x0 : X.cell? ⟨Q, 0, none⟩ = some (.pointer none) := cell_of_row X Q 0 _ _ _ hXR
  have f0 := frozen_of_row X Q 0 _ _ hXR
  obtain ⟨Y, hY⟩ : ∃ Y, Hid (Y = X.setCell ⟨Q, 0, none⟩ (.pointer (some ⟨Q, 0, none⟩))) := ⟨_, hide rfl⟩
  have hYR : Sd Y Q R := by
    unfold Sd
    rw [hY.out, heap_setCell_same X Q 0 _ (89 : TypeId) _ hXR]
    rfl
  have bX : Below w1.heap.size w1 X := by rw [hX.out]; exact (Below.refl _ w1).alloc (Nat.le_refl _) _
  have bY : Below w1.heap.size w1 Y := by rw [hY.out]; exact bX.setCell (by simp [hQ.out]) _
  have HF : Hid (∃ G N h, Sd Y Q R ∧ Qu Y R G N h [] ∧ w.heap.size ≤ Q ∧ w.heap.size ≤ R ∧ w.heap.size ≤ G ∧ Below w.heap.size w Y) :=
    hide ⟨_, _, _, hYR, q.below bY, by rw [hQ.out]; exact hb.size, by rw [hR.out]; exact Nat.le_refl _, by have := hR.out; omega, hb.trans (bY.mono hb.size)⟩
  have HQ1 : Hid (w1.heap.size = Q) := hide hQ.out.symm
  clear hXR hYR bX bY q hb
  go_wp2_with (first | (rw [← hX.out, HQ1.out]))
  rw [← hY.out]
  go_ret
  obtain ⟨G, N, h, hF⟩ := HF.out
  exact ⟨Q, R, G, N, h, rfl, hF⟩

end Go.Proofs.Ytennciddjkijaaa.QI

/-
  The chapter's example (awake); a queue of one's own.
-/
import Derived.Test.YthaofaibnckfbaaQufI
namespace Go.Proofs.Ythaofaibnckfbaa.QI
open Go.RowKit

/-- A queue that was made behind W0. -/
structure Qn (W0 w : World) (R G : Nat) (xs : List Int) : Prop where
  ex : ∃ N h, Qu w R G N h xs
  r : W0.heap.size ≤ R
  g : W0.heap.size ≤ G
  bel : Below W0.heap.size W0 w

theorem Qn.turn {W0 w w' : World} {R G : Nat} {xs ys : List Int} (h : Qn W0 w R G xs) (k : Qt w w' R G ys) : ∃ G', Qn W0 w' R G' ys := by
  obtain ⟨G', N, hd, q, hg, t⟩ := k
  have hs := h.bel.size
  refine ⟨G', ⟨N, hd, q⟩, h.r, ?_, h.bel.trans (t.below (fun i hi => ?_) hs)⟩
  · rcases hg with rfl | hg
    · exact h.g
    · omega
  · have := h.r
    have := h.g
    omega

theorem Qn.drew {W0 w : World} {R G : Nat} {xs : List Int} (h : Qn W0 w R G xs) (m : Nat) : Qn W0 (w.drewN m) R G xs := by
  obtain ⟨N, hd, q⟩ := h.ex
  exact ⟨⟨N, hd, q.drewN m⟩, h.r, h.g, below_drewN h.bel m⟩

theorem asks_awake : Asks 31 (fun x => decide (2 < x)) where
  enter := fun _ _ => by go_simp
  call := by
    intro x w
    go_enter Try.func31, Try.ntmps31
    go_wp2_with fail
    go_ret
    exact ⟨rfl, rfl⟩

theorem two_ls (w : World) (x y : Int) : Ls (w.alloc (.cells #[.int .i64 x, .int .i64 y] 3)) (some ⟨w.heap.size, 0, none⟩) 2 2 [x, y] := by
  refine ⟨rfl, Nat.le_refl _, by omega, fun _ => ⟨_, _, rfl, fun i hi => ?_⟩⟩
  rw [cell_of_row _ _ _ _ _ _ (heap_alloc_new w _)]
  match i, hi with
  | 0, _ => rfl
  | 1, _ => rfl

set_option maxHeartbeats 2000000 in
theorem awake_any (w : World) : Calls Try.prog 19 #[] w fun e w' => e = .returned (.bool true) ∧ Below w.heap.size w w' := by
  obtain ⟨X, hX⟩ : ∃ X, Hid (X = w.alloc (.cells #[.int .i64 1, .int .i64 2] 3)) := ⟨_, hide rfl⟩
  have bX : Below w.heap.size w X := by rw [hX.out]; exact (Below.refl _ w).alloc (Nat.le_refl _) _
  have sX : X.heap.size = w.heap.size + 1 := by rw [hX.out]; simp
  have lX : Ls X (some ⟨w.heap.size, 0, none⟩) 2 2 [1, 2] := by rw [hX.out]; exact two_ls w 1 2
  have C1 : Hid (Calls Try.prog 6 #[.slice (some ⟨w.heap.size, 0, none⟩) 2 2] X fun e w' => ∃ R G, e = .returned (.pointer (some ⟨R, 0, none⟩)) ∧ Qn w w' R G [1, 2]) := hide ((of_any lX (fun ad h => by cases h; simp only; omega) (by decide)).mono (by
    rintro e w' ⟨rfl, q, hb⟩
    exact ⟨_, _, rfl, ⟨⟨_, _, q⟩, by omega, by omega, bX.trans (hb.mono (by omega))⟩⟩))
  clear bX sX lX
  go_enter Try.func19, Try.ntmps19
  go_wp2_with (first | (go_at_call 6; rw [← hX.out]; refine C1.out.mono ?_; rintro e w1 ⟨R, G1, rfl, n1⟩))
  clear C1 hX
  obtain ⟨N1, h1, q1⟩ := n1.ex
  refine (push_any q1 (by decide) 3).mono ?_
  rintro e w2 ⟨rfl, k2⟩
  obtain ⟨G2, n2⟩ := n1.turn k2
  clear k2 q1 n1
  simp only [List.cons_append, List.nil_append] at n2
  obtain ⟨N2, h2, q2⟩ := n2.ex
  go_wp2_with fail
  refine (pop_any q2).mono ?_
  rintro e w3 ⟨rfl, k3⟩
  obtain ⟨G3, n3⟩ := n2.turn k3
  clear k3 q2 n2
  simp only [List.headD_cons, List.isEmpty_cons, Bool.not_false, List.tail_cons] at n3 ⊢
  obtain ⟨N3, h3, q3⟩ := n3.ex
  have C4 := at_any q3 1
  rw [show atV [2, 3] 1 = (3, true) by decide] at C4
  go_wp2_with fail
  refine C4.mono ?_
  rintro e w4 ⟨rfl, m4, rfl⟩
  have n4 := n3.drew m4
  clear q3 n3 C4
  generalize w3.drewN m4 = w4 at *
  obtain ⟨N4, h4, q4⟩ := n4.ex
  have C5 := take_any q4 0
  rw [show atV [2, 3] 0 = (2, true) by decide, show wo [2, 3] 0 = [3] by decide] at C5
  go_wp2_with fail
  refine C5.mono ?_
  rintro e w5 ⟨rfl, k5⟩
  obtain ⟨G5, n5⟩ := n4.turn k5
  clear k5 q4 n4 C5
  obtain ⟨N5, h5, q5⟩ := n5.ex
  have C6 := drop_any q5 asks_awake
  rw [show (List.filter (fun x : Int => !decide (2 < x)) [3]) = [] by decide] at C6
  simp only [List.length_cons, List.length_nil] at C6
  go_wp2_with fail
  refine C6.mono ?_
  rintro e w6 ⟨rfl, k6⟩
  obtain ⟨G6, n6⟩ := n5.turn k6
  clear k6 q5 n5 C6
  obtain ⟨N6, h6, q6⟩ := n6.ex
  go_wp2_with fail
  refine (pop_any q6).mono ?_
  rintro e w7 ⟨rfl, k7⟩
  obtain ⟨G7, n7⟩ := n6.turn k7
  clear k7 q6 n6
  simp only [List.headD_nil, List.isEmpty_nil, Bool.not_true, List.tail_nil] at n7 ⊢
  obtain ⟨N7, h7, q7⟩ := n7.ex
  have C8 := len_yes q7
  simp only [List.length_nil] at C8
  go_wp2_with fail
  refine C8.mono ?_
  rintro e w8 ⟨rfl, hw8⟩
  subst w8
  go_wp2_with fail
  go_ret
  exact ⟨rfl, n7.bel⟩

end Go.Proofs.Ythaofaibnckfbaa.QI

/-
  A sched of one's own; the chapter's example (awake).
-/
import Derived.Test.YtnnmlndjcaeegaaScb
namespace Go.Proofs.Ytnnmlndjcaeegaa.QI
open Go.RowKit
set_option maxRecDepth 20000

/-- A sched that was made behind W0. -/
structure Sn (W0 w : World) (Q R G : Nat) (xs : List Int) : Prop where
  s : Sd w Q R
  ex : ∃ N h, Qu w R G N h xs
  r : W0.heap.size ≤ R
  g : W0.heap.size ≤ G
  q : W0.heap.size ≤ Q
  bel : Below W0.heap.size W0 w

section
variable {W0 w w' : World} {Q R G : Nat} {xs ys : List Int}
theorem Sn.turn (h : Sn W0 w Q R G xs) (k : Qt w w' R G ys) : ∃ G', Sn W0 w' Q R G' ys := by
  obtain ⟨_, _, q0⟩ := h.ex
  have s' := h.s.turn q0 k
  obtain ⟨G', N, hd, q, hg, t⟩ := k
  have hs := h.bel.size
  refine ⟨G', s', ⟨N, hd, q⟩, h.r, ?_, h.q, h.bel.trans (t.below (fun i hi => ?_) hs)⟩
  · rcases hg with rfl | hg
    · exact h.g
    · omega
  · have := h.r
    have := h.g
    omega
theorem Sn.below (h : Sn W0 w Q R G xs) (hb : Below w.heap.size w w') : Sn W0 w' Q R G xs := by
  obtain ⟨N, hd, q⟩ := h.ex
  exact ⟨h.s.below hb, ⟨N, hd, q.below hb⟩, h.r, h.g, h.q, h.bel.trans (hb.mono h.bel.size)⟩
theorem Sn.drew (h : Sn W0 w Q R G xs) (m : Nat) : Sn W0 (w.drewN m) Q R G xs := h.below (below_drewN (Below.refl _ w) m)
theorem Sn.ready (h : Sn W0 w Q R G xs) (id : Int) : Calls Try.prog 8 #[.pointer (some ⟨Q, 0, none⟩), .int .i64 id] w fun e w' => e = .returned (.int .i64 (rdE xs id)) ∧ ∃ G', Sn W0 w' Q R G' (rdL xs id) := by
  obtain ⟨N, hd, q⟩ := h.ex
  exact (ready_any h.s q id).mono (by
    rintro e w' ⟨rfl, k⟩
    exact ⟨rfl, h.turn k⟩)
theorem Sn.pick (h : Sn W0 w Q R G xs) (hn : 0 < xs.length) (p : Nat) (hp : p ≤ 18446744073709551615) : Calls Try.prog 10 #[.pointer (some ⟨Q, 0, none⟩), .int .u64 p] w fun e w' => e = .returned (.tuple #[.int .i64 (xs.getD (p % xs.length) 0), .int .u64 (p / xs.length : Nat), .bool true]) ∧ ∃ G', Sn W0 w' Q R G' (xs.eraseIdx (p % xs.length)) := by
  obtain ⟨N, hd, q⟩ := h.ex
  exact (pick_yes h.s q hn p hp).mono (by
    rintro e w' ⟨rfl, k⟩
    exact ⟨rfl, h.turn k⟩)
theorem Sn.pick0 (h : Sn W0 w Q R G []) (p : Int) : Calls Try.prog 10 #[.pointer (some ⟨Q, 0, none⟩), .int .u64 p] w fun e w' => e = .returned (.tuple #[.int .i64 0, .int .u64 0, .bool false]) ∧ w' = w := by
  obtain ⟨N, hd, q⟩ := h.ex
  exact pick_no (slen_yes h.s q) p
theorem Sn.gone (h : Sn W0 w Q R G xs) (id : Int) : Calls Try.prog 12 #[.pointer (some ⟨Q, 0, none⟩), .int .i64 id] w fun e w' => e = .returned (.bool (decide ((rid xs id).length < xs.length))) ∧ ∃ G', Sn W0 w' Q R G' (rid xs id) := by
  obtain ⟨N, hd, q⟩ := h.ex
  exact (gone_any h.s q id).mono (by
    rintro e w' ⟨rfl, k⟩
    exact ⟨rfl, h.turn k⟩)
theorem Sn.len (h : Sn W0 w Q R G xs) : Calls Try.prog 15 #[.pointer (some ⟨Q, 0, none⟩)] w fun e w' => e = .returned (.int .i64 xs.length) ∧ w' = w := by
  obtain ⟨N, hd, q⟩ := h.ex
  exact slen_yes h.s q
theorem sn_new (w : World) : Calls Try.prog 6 #[] w fun e w' => ∃ Q R G, e = .returned (.pointer (some ⟨Q, 0, none⟩)) ∧ Sn w w' Q R G [] :=
  (snew_any w).mono (by
    rintro e w' ⟨Q, R, G, N, h, rfl, s, q, h1, h2, h3, hb⟩
    exact ⟨Q, R, G, rfl, s, ⟨N, h, q⟩, h2, h3, h1, hb⟩)
end

set_option maxHeartbeats 2000000 in
theorem sawake_any (w : World) : Calls Try.prog 17 #[] w fun e w' => e = .returned (.bool true) ∧ Below w.heap.size w w' := by
  have CN := sn_new w
  go_enter Try.func17, Try.ntmps17
  go_wp2_with fail
  refine CN.mono ?_
  rintro e w1 ⟨Q, R, G1, rfl, n1⟩
  have C1 := n1.ready 5
  rw [show rdE [] 5 = 0 by decide, show rdL [] 5 = [5] by decide] at C1
  clear n1 CN
  go_wp2_with fail
  refine C1.mono ?_
  rintro e w2 ⟨rfl, G2, n2⟩
  have C2 := n2.ready 7
  rw [show rdE [5] 7 = 0 by decide, show rdL [5] 7 = [5, 7] by decide] at C2
  clear n2 C1
  go_wp2_with fail
  refine C2.mono ?_
  rintro e w3 ⟨rfl, G3, n3⟩
  have C3 := n3.ready 9
  rw [show rdE [5, 7] 9 = 0 by decide, show rdL [5, 7] 9 = [5, 7, 9] by decide] at C3
  clear n3 C2
  go_wp2_with fail
  refine C3.mono ?_
  rintro e w4 ⟨rfl, G4, n4⟩
  have C4 := n4.ready 7
  rw [show rdE [5, 7, 9] 7 = 151 by decide, show rdL [5, 7, 9] 7 = [5, 7, 9] by decide] at C4
  clear n4 C3
  go_wp2_with fail
  refine C4.mono ?_
  rintro e w5 ⟨rfl, G5, n5⟩
  have C5 := n5.pick (by decide) 4 (by decide)
  rw [show (List.getD [(5 : Int), 7, 9] (4 % List.length [(5 : Int), 7, 9]) 0) = 7 by decide, show (4 / List.length [(5 : Int), 7, 9]) = 1 by decide, show (List.eraseIdx [(5 : Int), 7, 9] (4 % List.length [(5 : Int), 7, 9])) = [5, 9] by decide] at C5
  clear n5 C4
  go_wp2_with fail
  refine C5.mono ?_
  rintro e w6 ⟨rfl, G6, n6⟩
  have C6 := n6.pick (by decide) 0 (by decide)
  rw [show (List.getD [(5 : Int), 9] (0 % List.length [(5 : Int), 9]) 0) = 5 by decide, show (0 / List.length [(5 : Int), 9]) = 0 by decide, show (List.eraseIdx [(5 : Int), 9] (0 % List.length [(5 : Int), 9])) = [9] by decide] at C6
  clear n6 C5
  go_wp2_with fail
  refine C6.mono ?_
  rintro e w7 ⟨rfl, G7, n7⟩
  have C7 := n7.gone 9
  rw [show rid [9] 9 = [] by decide, show decide (List.length ([] : List Int) < List.length [(9 : Int)]) = true by decide] at C7
  clear n7 C6
  go_wp2_with fail
  refine C7.mono ?_
  rintro e w8 ⟨rfl, G8, n8⟩
  have C8 := n8.pick0 1
  have C9 := n8.len
  have HB := hide n8.bel
  clear n8 C7
  simp only [List.length_nil] at C9
  go_wp2_with fail
  refine C8.mono ?_
  rintro e w9 ⟨rfl, hw9⟩
  subst w9
  go_wp2_with fail
  refine C9.mono ?_
  rintro e w10 ⟨rfl, hw10⟩
  subst w10
  go_wp2_with fail
  go_ret
  exact ⟨rfl, HB.out⟩

end Go.Proofs.Ytnnmlndjcaeegaa.QI

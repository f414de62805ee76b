/-
  FrameSpares, walked: answers share no memory with one another or with what was handed in.
-/
import Derived.Test.YtalknfbhnhpdhaaFcu
import Derived.Test.YtalknfbhnhpdhaaCpy
import Derived.Test.YtalknfbhnhpdhaaApb
import Derived.Deep.RegionWith
import Derived.BigRegion
namespace Go.Proofs.Ytalknfbhnhpdhaa
open Go.RowKit

theorem apart_list (base : Nat) (qs : List (Value × List Int)) (w : World) (hb : base ≤ w.heap.size) (hrow : ∀ q ∈ qs, w.ownsRow base 5 1 q.1 q.2.length (U q.2)) (hap : qs.Pairwise (fun r s => r.1.ownBlock = none ∨ r.1.ownBlock ≠ s.1.ownBlock)) (hn : qs.length ≤ 1000) (hln : ∀ q ∈ qs, q.2.length ≤ 140737488355000) :
    Calls Try.prog 21 #[.slice (some ⟨w.heap.size, 0, none⟩) qs.length qs.length] (w.alloc (.cells (qs.map (·.1)).toArray 22)) fun e w' => e = .returned (.bool true) ∧ Below base w w' := by
  have key : ∀ j k, j < k → (hk : k < qs.length) → qs[j]!.1.ownBlock = none ∨ qs[j]!.1.ownBlock ≠ qs[k]!.1.ownBlock := by
    intro j k hjk hk
    have := List.pairwise_iff_getElem.1 hap j k (by omega) hk hjk
    simpa [getElem!_pos qs j (by omega), getElem!_pos qs k hk] using this
  refine (apart_any base w.heap.size qs.length (fun k => qs[k]!.1) (fun k => qs[k]!.2.length) (fun k => U qs[k]!.2) (w.alloc (.cells (qs.map (·.1)).toArray 22)) hn ?_ (by simp; omega) (by simp) ?_ ?_ ?_ ?_).mono ?_
  · intro k hk
    simp only [getElem!_pos qs k hk]
    exact hln _ (List.getElem_mem _)
  · intro k hk
    rw [cell_of_row _ w.heap.size k _ 22 (0, 0) (heap_alloc_new w _)]
    simp [List.getElem?_eq_getElem hk, getElem!_pos qs k hk]
  · intro k hk
    simp only [getElem!_pos qs k hk]
    exact (hrow _ (List.getElem_mem _)).alloc _
  · intro k hk e
    simp only [getElem!_pos qs k hk] at e
    have := (hrow _ (List.getElem_mem hk)).lt _ e
    omega
  · intro j k hj hk hne
    rcases Nat.lt_or_ge j k with h | h
    · exact key j k h hk
    · rcases key k j (by omega) hj with h | h
      · simp only [h]
        cases qs[j]!.1.ownBlock <;> simp
      · exact .inr (fun e => h e.symm)
  · rintro e w' ⟨rfl, h⟩
    exact ⟨rfl, ((Below.refl _ w).alloc hb _).trans h⟩

namespace frameSpares

set_option maxRecDepth 100000 in
set_option maxHeartbeats 2000000 in
theorem walk (a : Option Addr) (n cap : Nat) (zs : List Int) (w : World) (hA : Bs w a n cap zs) (hn : n ≤ 140737488351232) :
    Calls Try.prog 6 #[.slice a n cap] w fun e w' => e = .returned (.bool true) ∧ Below w.heap.size w w' := by
  obtain ⟨i0, hi, hz0, hz1, hz2⟩ := info_parts info5
  have hl := hA.len
  have hby := hA.byte
  go_enter Try.func6, Try.ntmps6
  go_wp2_with fail
  refine (copy_any _ _ _ zs _ hA (by omega)).mono ?_
  rintro e w1 ⟨c1, d1, rfl, hown1, hb1⟩
  have hs1 := hb1.size
  have hB1 := own_bs hown1 hby
  have hr1 := hB1.reach
  have hle1 := hB1.le
  by_cases hbig : 65536 < n
  · go_wp2_with fail
    refine (put_no _ _ _ _ hbig (by omega)).mono ?_
    rintro e w2 ⟨rfl, hw2⟩
    subst hw2
    go_wp2_with fail
    refine (put_no _ _ _ _ hbig (by omega)).mono ?_
    rintro e w3 ⟨rfl, hw3⟩
    subst hw3
    go_wp2_with fail
    refine (awake_any _).mono ?_
    rintro e w4 ⟨rfl, hb4⟩
    go_wp2_with fail
    go_ret
    exact ⟨rfl, hb1.trans (hb4.mono hs1)⟩
  · go_wp2_with fail
    refine (put_yes _ _ _ zs _ hB1 (by omega)).mono ?_
    rintro e w2 ⟨g2, d2, rfl, hown2, hb2⟩
    have hs2 := hb2.size
    have hg2 := own_lt hown2
    go_wp2_with fail
    refine (put_yes _ _ _ zs _ (hB1.keep hb2) (by omega)).mono ?_
    rintro e w3 ⟨g3, d3, rfl, hown3, hb3⟩
    have hs3 := hb3.size
    have hg3 := own_lt hown3
    have hin3 := keep_own (keep_own hown1 hb2) hb3
    have hbb3 := own_less (keep_own hown2 hb3) hs1
    have hcc3 := own_less hown3 (Nat.le_trans hs1 hs2)
    have hb3' : Below w.heap.size w w3 := hb1.trans ((hb2.trans (hb3.mono hs2)).mono hs1)
    have hfb : ∀ z ∈ fr zs, 0 ≤ z ∧ z ≤ 255 := fun z hz => (List.mem_append.1 hz).elim (be_byte _ _ z) (hby z)
    have hlt1 := hown1.lt
    clear hown1 hown2 hown3 hb1 hb2 hb3 hB1
    go_wp2_with fail
    refine (new_any w3).mono ?_
    rintro e w4 ⟨rfl, hR4, hb4⟩
    have hs4 := hb4.size
    have hlt4 := hR4.lt
    have hBb := own_bs (keep_own hbb3 hb4) hfb
    go_wp2_with fail
    refine (copy_any _ _ _ (fr zs) _ hBb (by omega)).mono ?_
    rintro e w5 ⟨c5, d5, rfl, hown5, hb5⟩
    have hs5 := hb5.size
    have hR5 := hR4.keep hb5
    have hBc := own_bs (keep_own (keep_own hcc3 hb4) hb5) hfb
    have hb5' := hb4.trans (hb5.mono hs4)
    clear hb4 hb5 hR4 hBb
    go_wp2_with (at_builtin; refine wpList_append_bs rfl _ _ 22 rfl w4.heap.size 5 i0 Try.underlying22 hi hz0 hz1 hz2 _ (4 + n) _ rfl hown5 _ _ _ (fr zs) rfl hBc (by omega) (by omega) (by omega) ?_; intro g6 d6 w6 hown6 hgrow6)
    rw [← U_append] at hown6
    have hR6 := hR5.bar (Bar.of_grown hgrow6) (fun e => by have := own_from hown5 e; omega) (by simp [Value.ownBlock])
    have hb6 : Below w3.heap.size w3 w6 := hb5'.grown hgrow6 (by omega) (fun k hk => Nat.le_trans hs4 (own_from hown5 hk))
    have hB6 := own_bs hown6 (fun z hz => (List.mem_append.1 hz).elim (hfb z) (hfb z))
    have hs6 := hb6.size
    have hp6 : parse ([] ++ (fr zs ++ fr zs)) = some ([zs, zs], []) := by
      have := parse_flat [zs, zs] (by simp [hl]; omega) [] (by decide)
      simpa [flat] using this
    clear hgrow6 hown6 hown5 hb5' hR5 hBc
    refine (feed_is hR6 (by omega) hB6 (by simp; omega) hp6).mono ?_
    rintro e w7 ⟨c7, d7, l7, r7, rfl, hr7, _, hL7, _, _, _, hb7⟩
    have hs7 := hb7.size
    have hb7' := hb6.trans hb7
    clear hb6 hb7 hR6 hB6 hp6
    rcases r7 with _ | ⟨⟨v0, y0⟩, _ | ⟨⟨v1, y1⟩, _ | _⟩⟩
    · simp at hr7
    · simp at hr7
    · simp only [List.map_cons, List.map_nil, List.cons.injEq, and_true] at hr7
      obtain ⟨rfl, rfl⟩ := hr7
      obtain ⟨g7, e7, hv7⟩ := own_shape hL7.own (by simp)
      simp only [Value.slice.injEq, List.length_cons, List.length_nil, Nat.zero_add, Nat.reduceAdd, true_and] at hv7
      obtain ⟨rfl, rfl⟩ := hv7
      have q0 := hL7.row (v0, y1) (by simp)
      have q1 := hL7.row (v1, y1) (by simp)
      simp only [hl] at q0 q1
      obtain ⟨p0, k0, rfl⟩ := own_val q0
      obtain ⟨p1, k1, rfl⟩ := own_val q1
      have hc0 := hL7.own.cells (g := g7) rfl 0 _ rfl
      have hc1 := hL7.own.cells (g := g7) rfl 1 _ rfl
      simp only [Addr.add_lit, Nat.add_zero, Nat.zero_add] at hc0 hc1
      have hap := hL7.apart
      simp only [List.pairwise_cons, List.mem_singleton, forall_eq, List.not_mem_nil, false_imp_iff, implies_true, List.Pairwise.nil, and_true] at hap
      have C := fun j => same_true rfl ((own_bs q0 hby).drewN j) ((own_bs q1 hby).drewN j)
      have hd7 : 2 ≤ d7 := by
        have := hL7.rl.le
        simpa using this
      have hin7 := own_bar hin3 (Bar.of_below hb7' (S := fun k => w3.heap.size ≤ k) (fun i h _ => h)) (fun b hb h => by have := hlt1 b hb; omega)
      have hbb7 := own_bar hbb3 (Bar.of_below hb7' (S := fun k => w3.heap.size ≤ k) (fun i h _ => h)) (fun b hb h => by simp only [Value.ownBlock, Option.some.injEq] at hb; omega)
      have hcc7 := own_bar hcc3 (Bar.of_below hb7' (S := fun k => w3.heap.size ≤ k) (fun i h _ => h)) (fun b hb h => by simp only [Value.ownBlock, Option.some.injEq] at hb; omega)
      have hb8 : Below w.heap.size w w7 := hb3'.trans (hb7'.mono (by omega))
      have hs8 := hb8.size
      have hq0 := q0.lt
      have hq1 := q1.lt
      have AP : ∀ m, Calls Try.prog 21 #[.slice (some ⟨w7.heap.size, 0, none⟩) 5 5] ((w7.drewN m).alloc (.cells #[.slice (some ⟨g2, 0, none⟩) (4 + n) d2, .slice (some ⟨g3, 0, none⟩) (4 + n) d3, .slice p0 n k0, .slice p1 n k1, .slice c1 n d1] 22)) fun e w' => e = .returned (.bool true) ∧ Below w.heap.size w7 w' := by
        intro m
        have hfl : (fr y1).length = 4 + n := by rw [fr_length, hl]
        refine (apart_list w.heap.size [(.slice (some ⟨g2, 0, none⟩) (4 + n) d2, fr y1), (.slice (some ⟨g3, 0, none⟩) (4 + n) d3, fr y1), (.slice p0 n k0, y1), (.slice p1 n k1, y1), (.slice c1 n d1, y1)] (w7.drewN m) hs8 ?_ ?_ (by simp) ?_).mono ?_
        · simp only [List.mem_cons, List.not_mem_nil, or_false, forall_eq_or_imp, forall_eq, hfl, hl]
          exact ⟨keep_own hbb7 (below_drewN (Below.refl _ _) m), keep_own hcc7 (below_drewN (Below.refl _ _) m), keep_own (own_less q0 (by omega)) (below_drewN (Below.refl _ _) m), keep_own (own_less q1 (by omega)) (below_drewN (Below.refl _ _) m), keep_own hin7 (below_drewN (Below.refl _ _) m)⟩
        · have far : ∀ {v u : Value}, (∀ x y, v.ownBlock = some x → u.ownBlock = some y → x ≠ y) → v.ownBlock = none ∨ v.ownBlock ≠ u.ownBlock := by
            intro v u h
            cases hv : v.ownBlock with
            | none => exact .inl rfl
            | some x => exact .inr (fun e => h x x hv e.symm rfl)
          have ob : ∀ {g m c : Nat} {x : Nat}, (Value.slice (some ⟨g, 0, none⟩) m c).ownBlock = some x → x = g := fun h => by simp only [Value.ownBlock, Option.some.injEq] at h; exact h.symm
          simp only [List.pairwise_cons, List.mem_cons, List.not_mem_nil, or_false, forall_eq_or_imp, forall_eq, false_imp_iff, implies_true, List.Pairwise.nil, and_true]
          refine ⟨⟨far fun x y hx hy => ?_, far fun x y hx hy => ?_, far fun x y hx hy => ?_, far fun x y hx hy => ?_⟩, ⟨far fun x y hx hy => ?_, far fun x y hx hy => ?_, far fun x y hx hy => ?_⟩, ⟨hap, far fun x y hx hy => ?_⟩, far fun x y hx hy => ?_⟩
          · have := ob hx; have := ob hy; omega
          · have := ob hx; have := hq0 y hy; omega
          · have := ob hx; have := hq1 y hy; omega
          · have := ob hx; have := hlt1 y hy; omega
          · have := ob hx; have := hq0 y hy; omega
          · have := ob hx; have := hq1 y hy; omega
          · have := ob hx; have := hlt1 y hy; omega
          · have := hq0 x hx; have := hlt1 y hy; omega
          · have := hq1 x hx; have := hlt1 y hy; omega
        · simp only [List.mem_cons, List.not_mem_nil, or_false, forall_eq_or_imp, forall_eq, hfl, hl]
          omega
        · rintro e w' ⟨rfl, h⟩
          exact ⟨rfl, (below_drewN (Below.refl _ _) m).trans h⟩
      have HAP := hide AP
      clear AP hin7 hbb7 hcc7 hin3 hbb3 hcc3 hap hL7 q0 q1 hq0 hq1 hlt1
      go_wp2_with fail
      go_quiet (first | (go_at_call 10; exact Calls.quiet_of_same (C _)))
      go_wp2_with fail
      go_region_with (first
        | (go_at_call 21; refine (HAP.out _).mono ?_; rintro e wA ⟨rfl, hA⟩)
        | (go_at_call 12; refine (awake_any _).mono ?_; rintro e wB ⟨rfl, hB⟩))
      all_goals
        go_wp2_with fail
        go_ret
        exact ⟨rfl, hb8.trans (hA.trans (hB.mono (Nat.le_trans hs8 hA.size)))⟩
    · simp at hr7

end frameSpares
end Go.Proofs.Ytalknfbhnhpdhaa

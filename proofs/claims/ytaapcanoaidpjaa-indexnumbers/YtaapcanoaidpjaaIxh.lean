/-
  awake: the chapter's examples.
-/
import Derived.Test.YtaapcanoaidpjaaIxg
namespace Go.Proofs.Ytaapcanoaidpjaa
open Go.RowKit
set_option maxRecDepth 100000

theorem is_lit (w : World) (g : Nat) (hg : w.heap.size = g) (l : List Int) (cs : Array Value) (hcs : cs = (I1 l).toArray) (n : Nat) (hn : l.length = n) (h2 : n ≤ 1000000) : Is (w.alloc (.cells cs 3)) (some ⟨g, 0, none⟩) n n l := by
  subst hg
  subst hcs
  refine ⟨hn, Nat.le_refl _, by omega, fun _ => ⟨_, 0, rfl, fun i hi => ?_⟩⟩
  rw [cell_of_row _ _ _ _ _ _ (heap_alloc_new w _)]
  simp [I1, List.getD, List.getElem?_eq_getElem (by omega : i < l.length)]

theorem pr_lit (w : World) (g : Nat) (hg : w.heap.size = g) (l : List (Int × Int)) (cs : Array Value) (hcs : cs = (P2 l).toArray) (n : Nat) (hn : l.length = n) (h2 : n ≤ 1000000) : Pr (w.alloc (.cells cs 27)) (some ⟨g, 0, none⟩) n n l := by
  subst hg
  subst hcs
  refine ⟨hn, Nat.le_refl _, by omega, fun _ => ⟨_, 0, rfl, fun i hi => ?_⟩⟩
  rw [cell_of_row _ _ _ _ _ _ (heap_alloc_new w _), cell_of_row _ _ _ _ _ _ (heap_alloc_new w _)]
  have := P2_at l i (by omega)
  simpa using this

theorem bst_awake : bst 25 [10, 10, 10, 10, 10] 5 = (50, 30, [(0, 0), (3, 30)]) := by decide
theorem szs_awake : Szs [10, 10, 10, 10, 10] := by decide
theorem rt_awake : Rt [(0, 0), (3, 30)] := by decide
theorem lp_two : Lp [(0, 0), (3, 30)] 2 0 := ⟨by decide, by decide, fun i h1 h2 => by
  obtain rfl : i = 1 := by simp at h2; omega
  decide⟩
theorem lp_all : Lp [(0, 0), (3, 30)] 99 1 := ⟨by decide, by decide, fun i h1 h2 => by simp at h2; omega⟩

theorem find_at (a : Option Addr) (n cap : Nat) (ps : List (Int × Int)) (m : Int) (w : World) (hA : Pr w a n cap ps) (hn : n ≤ 4611686018427387903) (hR : Rt ps) (hm : 0 ≤ m) (j : Nat) (hL : Lp ps m j) (x y : Int) (hx : ps.getD j (0, 0) = (x, y)) :
    Calls Try.prog 7 #[.slice a n cap, .int .i64 m] w fun e w' => e = .returned (.tuple #[.agg #[.int .i64 x, .int .i64 y], .int .i64 0]) ∧ Below w.heap.size w w' := by
  refine (find_yes a n cap ps m w hA hn hR hm).mono ?_
  rintro e w' ⟨⟨i, hi, rfl⟩, hb⟩
  obtain rfl := hi.eq hL
  rw [hx]
  exact ⟨rfl, hb⟩

set_option maxHeartbeats 4000000 in
theorem awake_any (w : World) : Calls Try.prog 10 #[] w fun e w' => e = .returned (.bool true) ∧ Below w.heap.size w w' := by
  have hI := is_lit w _ rfl [10, 10, 10, 10, 10] #[.int .i64 10, .int .i64 10, .int .i64 10, .int .i64 10, .int .i64 10] rfl 5 rfl (by omega)
  have C1 := build_yes _ _ _ _ 25 _ hI (by omega) szs_awake
  rw [bst_awake] at C1
  have b0 : Below w.heap.size w (w.alloc (.cells #[.int .i64 10, .int .i64 10, .int .i64 10, .int .i64 10, .int .i64 10] 3)) := (Below.refl _ _).alloc (Nat.le_refl _) _
  go_enter Try.func10, Try.ntmps10
  go_wp2_with fail
  refine C1.mono ?_
  rintro e w1 ⟨c, d, rfl, hown, hb⟩
  have hb1 : Below w.heap.size w w1 := b0.trans (hb.mono b0.size)
  have hP := own_pr hown
  clear hI C1 b0 hb hown
  have C2 := find_at _ _ _ _ 2 w1 hP (by simp) rt_awake (by omega) 0 lp_two 0 0 rfl
  simp only [List.length_cons, List.length_nil, Nat.zero_add, Nat.reduceAdd] at C2 hP ⊢
  go_wp2_with fail
  refine C2.mono ?_
  rintro e w2 ⟨rfl, hb2⟩
  have hb2' := hb1.trans (hb2.mono hb1.size)
  have hP2 := (hP.keep hb2).keep ((Below.refl _ w2).alloc (Nat.le_refl _) (.cells #[.int .i64 0, .int .i64 0] 27))
  have C3 := find_at _ _ _ _ 99 _ hP2 (by omega) rt_awake (by omega) 1 lp_all 3 30 rfl
  obtain ⟨V2, hV2⟩ : ∃ V2, V2 = w2.alloc (.cells #[.int .i64 0, .int .i64 0] 27) := ⟨_, rfl⟩
  have k0 : V2.cell? ⟨w2.heap.size, 0, none⟩ = some (.int .i64 0) := by rw [hV2]; simp [go_sem]
  have k1 : V2.cell? ⟨w2.heap.size, 1, none⟩ = some (.int .i64 0) := by rw [hV2]; simp [go_sem]
  have hbV2 : Below w.heap.size w V2 := by rw [hV2]; exact hb2'.alloc hb2'.size _
  rw [← hV2] at hP2 C3
  have HV2 := hide hV2
  clear hV2 hP C2 hb2 hb2' hb1
  go_wp2_with fail
  rw [← HV2.out]
  refine C3.mono ?_
  rintro e w3 ⟨rfl, hb3⟩
  obtain ⟨V3, hV3⟩ : ∃ V3, V3 = w3.alloc (.cells #[.int .i64 3, .int .i64 30] 27) := ⟨_, rfl⟩
  have hbx : Below w3.heap.size w3 V3 := by rw [hV3]; exact (Below.refl _ _).alloc (Nat.le_refl _) _
  have hby : Below V2.heap.size V2 V3 := hb3.trans (hbx.mono hb3.size)
  have k2 := (hby.cell (cell_lt k0)).trans k0
  have k3 := (hby.cell (cell_lt k1)).trans k1
  have k4 : V3.cell? ⟨w3.heap.size, 0, none⟩ = some (.int .i64 3) := by rw [hV3]; simp [go_sem]
  have k5 : V3.cell? ⟨w3.heap.size, 1, none⟩ = some (.int .i64 30) := by rw [hV3]; simp [go_sem]
  have hP3 := hP2.keep hby
  have hbV3 : Below w.heap.size w V3 := hbV2.trans (hby.mono hbV2.size)
  obtain ⟨V4, hV4⟩ : ∃ V4, V4 = V3.alloc (.cells #[.int .i64 0, .int .i64 0, .int .i64 3, .int .i64 30] 27) := ⟨_, rfl⟩
  have hbz : Below V3.heap.size V3 V4 := by rw [hV4]; exact (Below.refl _ _).alloc (Nat.le_refl _) _
  have hP4 := hP3.keep hbz
  have hL4 : Pr V4 (some ⟨V3.heap.size, 0, none⟩) 2 2 [(0, 0), (3, 30)] := by rw [hV4]; exact pr_lit V3 _ rfl [(0, 0), (3, 30)] _ rfl 2 rfl (by omega)
  have C4 := same_any _ _ _ _ _ _ _ _ _ hP4 hL4
  rw [decide_eq_true rfl] at C4
  have hbV4 : Below w.heap.size w V4 := hbV3.trans (hbz.mono hbV3.size)
  have k6 := (hbz.cell (cell_lt k2)).trans k2
  have k7 := (hbz.cell (cell_lt k3)).trans k3
  have k8 := (hbz.cell (cell_lt k4)).trans k4
  have k9 := (hbz.cell (cell_lt k5)).trans k5
  have HV3 := hide hV3
  have HV4 := hide hV4
  have q1 := fun w => eql_pair w 0 0 0 0
  have q2 := fun w => eql_pair w 3 30 3 30
  simp only [beq_self_eq_true, Bool.and_self] at q1 q2
  have hgd := eqGuard27
  clear hV3 hV4 hP3 hP2 hP4 hL4 k0 k1 k2 k3 k4 k5 hbx hby hbz C3 hb3 hbV2 hbV3 HV2
  have s3 : V3.heap.size = w3.heap.size + 1 := by rw [HV3.out]; simp
  have S3 := hide s3
  clear s3
  go_wp2_with fail
  rw [← HV3.out, ← HV4.out, ← S3.out]
  refine C4.mono ?_
  rintro e w5 ⟨rfl, q, hw5⟩
  have hb5 := below_drewN (Below.refl V4.heap.size V4) q
  rw [← hw5] at hb5
  have j6 := (hb5.cell (cell_lt k6)).trans k6
  have j7 := (hb5.cell (cell_lt k7)).trans k7
  have j8 := (hb5.cell (cell_lt k8)).trans k8
  have j9 := (hb5.cell (cell_lt k9)).trans k9
  have hend : Below w.heap.size w w5 := hbV4.trans (hb5.mono hbV4.size)
  clear hw5 k6 k7 k8 k9 HV3 HV4 S3 C4 hb5 hbV4
  go_wp2_with fail
  go_ret
  exact ⟨rfl, hend⟩

end Go.Proofs.Ytaapcanoaidpjaa

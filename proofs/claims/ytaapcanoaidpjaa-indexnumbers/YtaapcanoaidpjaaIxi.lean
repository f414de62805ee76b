/-
  IndexTells, walked: for any sizes, index and number all calls answer as the document defines.
-/
import Derived.Test.YtaapcanoaidpjaaIxh
namespace Go.Proofs.Ytaapcanoaidpjaa
open Go.RowKit
set_option maxRecDepth 100000

/-- What Build tells. -/
def bR (ev : Int) (zs : List Int) : List (Int × Int) := if 1 ≤ ev ∧ Szs zs then (bst ev zs zs.length).2.2 else []
def bE (ev : Int) (zs : List Int) : Int := if 1 ≤ ev ∧ Szs zs then 0 else 2

theorem Pr.nil (w : World) : Pr w none 0 0 [] := ⟨rfl, Nat.le_refl _, by omega, fun h => by omega⟩

theorem build_any (a : Option Addr) (n cap : Nat) (zs : List Int) (ev : Int) (w : World) (hA : Is w a n cap zs) :
    Calls Try.prog 6 #[.slice a n cap, .int .i64 ev] w fun e w' => ∃ c d, e = .returned (.tuple #[.slice c (bR ev zs).length d, .int .i64 (bE ev zs)]) ∧ Pr w' c (bR ev zs).length d (bR ev zs) ∧ Below w.heap.size w w' := by
  unfold bR bE
  by_cases h : 1 ≤ ev ∧ Szs zs
  · rw [if_pos h, if_pos h, hA.len]
    refine (build_yes a n cap zs ev w hA h.1 h.2).mono ?_
    rintro e w' ⟨c, d, rfl, ho, hb⟩
    exact ⟨c, d, rfl, own_pr ho, hb⟩
  · rw [if_neg h, if_neg h]
    refine (build_no a n cap zs ev w hA (by by_cases h1 : ev < 1; exact .inl h1; exact .inr (fun hs => h ⟨by omega, hs⟩))).mono ?_
    rintro e w' ⟨rfl, rfl⟩
    exact ⟨none, 0, rfl, Pr.nil _, Below.refl _ _⟩

theorem buildRef_any (a : Option Addr) (n cap : Nat) (zs : List Int) (ev : Int) (w : World) (hA : Is w a n cap zs) :
    Calls Try.prog 12 #[.slice a n cap, .int .i64 ev] w fun e w' => ∃ c d, e = .returned (.tuple #[.slice c (bR ev zs).length d, .int .i64 (bE ev zs)]) ∧ Pr w' c (bR ev zs).length d (bR ev zs) ∧ Below w.heap.size w w' := by
  unfold bR bE
  by_cases h : 1 ≤ ev ∧ Szs zs
  · rw [if_pos h, if_pos h, hA.len]
    refine (buildRef_yes a n cap zs ev w hA h.1 h.2).mono ?_
    rintro e w' ⟨c, d, rfl, ho, hb⟩
    exact ⟨c, d, rfl, own_pr ho, hb⟩
  · rw [if_neg h, if_neg h]
    refine (buildRef_no a n cap zs ev w hA (by by_cases h1 : ev < 1; exact .inl h1; exact .inr (fun hs => h ⟨by omega, hs⟩))).mono ?_
    rintro e w' ⟨rfl, rfl⟩
    exact ⟨none, 0, rfl, Pr.nil _, Below.refl _ _⟩

/-- What Find tells. -/
def Fp (ps : List (Int × Int)) (m x y er : Int) : Prop := (0 ≤ m ∧ Rt ps ∧ er = 0 ∧ ∃ j, Lp ps m j ∧ ps.getD j (0, 0) = (x, y)) ∨ (¬ (0 ≤ m ∧ Rt ps) ∧ er = 2 ∧ x = 0 ∧ y = 0)

theorem Fp.eq {ps : List (Int × Int)} {m x y er x' y' er' : Int} (h : Fp ps m x y er) (h' : Fp ps m x' y' er') : x' = x ∧ y' = y ∧ er' = er := by
  rcases h with ⟨h1, h2, rfl, j, h3, h4⟩ | ⟨h1, rfl, rfl, rfl⟩
  · rcases h' with ⟨_, _, rfl, j', h5, h6⟩ | ⟨h5, _⟩
    · obtain rfl := h3.eq h5
      rw [h4] at h6
      simp only [Prod.mk.injEq] at h6
      exact ⟨h6.1.symm, h6.2.symm, rfl⟩
    · exact absurd ⟨h1, h2⟩ h5
  · rcases h' with ⟨h5, h6, _⟩ | ⟨_, rfl, rfl, rfl⟩
    · exact absurd ⟨h5, h6⟩ h1
    · exact ⟨rfl, rfl, rfl⟩

theorem find_any (a : Option Addr) (n cap : Nat) (ps : List (Int × Int)) (m : Int) (w : World) (hA : Pr w a n cap ps) (hn : n ≤ 4611686018427387903) :
    Calls Try.prog 7 #[.slice a n cap, .int .i64 m] w fun e w' => ∃ x y er, e = .returned (.tuple #[.agg #[.int .i64 x, .int .i64 y], .int .i64 er]) ∧ Fp ps m x y er ∧ Below w.heap.size w w' := by
  by_cases h : 0 ≤ m ∧ Rt ps
  · refine (find_yes a n cap ps m w hA hn h.2 h.1).mono ?_
    rintro e w' ⟨⟨j, hj, rfl⟩, hb⟩
    exact ⟨_, _, _, rfl, .inl ⟨h.1, h.2, rfl, j, hj, rfl⟩, hb⟩
  · refine (find_no a n cap ps m w hA (by by_cases h1 : m < 0; exact .inl h1; exact .inr (fun hs => h ⟨by omega, hs⟩))).mono ?_
    rintro e w' ⟨rfl, hb⟩
    exact ⟨_, _, _, rfl, .inr ⟨h, rfl, rfl, rfl⟩, hb⟩

theorem findRef_any (a : Option Addr) (n cap : Nat) (ps : List (Int × Int)) (m : Int) (w : World) (hA : Pr w a n cap ps) :
    Calls Try.prog 13 #[.slice a n cap, .int .i64 m] w fun e w' => ∃ x y er, e = .returned (.tuple #[.agg #[.int .i64 x, .int .i64 y], .int .i64 er]) ∧ Fp ps m x y er ∧ Below w.heap.size w w' := by
  by_cases h : 0 ≤ m ∧ Rt ps
  · refine (findRef_yes a n cap ps m w hA h.2 h.1).mono ?_
    rintro e w' ⟨⟨j, hj, rfl⟩, hb⟩
    exact ⟨_, _, _, rfl, .inl ⟨h.1, h.2, rfl, j, hj, rfl⟩, hb⟩
  · refine (findRef_no a n cap ps m w hA (by by_cases h1 : m < 0; exact .inl h1; exact .inr (fun hs => h ⟨by omega, hs⟩))).mono ?_
    rintro e w' ⟨rfl, hb⟩
    exact ⟨_, _, _, rfl, .inr ⟨h, rfl, rfl, rfl⟩, hb⟩

namespace indexTells

set_option maxHeartbeats 4000000 in
theorem walk (a : Option Addr) (n cap : Nat) (zs : List Int) (ev : Int) (b : Option Addr) (m bcap : Nat) (ps : List (Int × Int)) (k : Int) (w : World) (hA : Is w a n cap zs) (hn : n * 8 ≤ 140737488355328) (hB : Pr w b m bcap ps) (hm : m ≤ 4611686018427387903) :
    Calls Try.prog 4 #[.slice a n cap, .int .i64 ev, .slice b m bcap, .int .i64 k] w fun e w' => e = .returned (.bool true) ∧ Below w.heap.size w w' := by
  go_enter Try.func4, Try.ntmps4
  go_wp2_with fail
  refine (copyInts_any a n cap zs w hA hn).mono ?_
  rintro e w1 ⟨c, d, rfl, hown, hb1⟩
  have hC := own_is hown
  clear hown
  go_wp2_with fail
  refine (build_any c n d zs ev w1 hC).mono ?_
  rintro e w2 ⟨c2, d2, rfl, hP2, hb2⟩
  have hb2' := hb1.trans (hb2.mono hb1.size)
  go_wp2_with fail
  refine (buildRef_any a n cap zs ev w2 (hA.keep hb2')).mono ?_
  rintro e w3 ⟨c3, d3, rfl, hP3, hb3⟩
  have hb3' := hb2'.trans (hb3.mono hb2'.size)
  have hC3 := (hC.keep hb2).keep hb3
  have hP2' := hP2.keep hb3
  clear hC hP2 hb1 hb2 hb2'
  go_wp2_with fail
  refine (find_any b m bcap ps k w3 (hB.keep hb3') hm).mono ?_
  rintro e w4 ⟨x, y, er, rfl, hF, hb4⟩
  have hb4' := hb3'.trans (hb4.mono hb3'.size)
  obtain ⟨V4, hV4⟩ : ∃ V4, V4 = w4.alloc (.cells #[.int .i64 x, .int .i64 y] 27) := ⟨_, rfl⟩
  have hbx : Below w4.heap.size w4 V4 := by rw [hV4]; exact (Below.refl _ _).alloc (Nat.le_refl _) _
  have k0 : V4.cell? ⟨w4.heap.size, 0, none⟩ = some (.int .i64 x) := by rw [hV4]; simp [go_sem]
  have k1 : V4.cell? ⟨w4.heap.size, 1, none⟩ = some (.int .i64 y) := by rw [hV4]; simp [go_sem]
  have hb5 := hb4'.trans (hbx.mono hb4'.size)
  have hb35 : Below w3.heap.size w3 V4 := hb4.trans (hbx.mono hb4.size)
  have C5 := findRef_any b m bcap ps k V4 (hB.keep hb5)
  have HV4 := hide hV4
  clear hV4 hb3 hb3' hb4 hb4' hbx
  go_wp2_with fail
  rw [← HV4.out]
  refine C5.mono ?_
  rintro e w6 ⟨x', y', er', rfl, hF', hb6⟩
  obtain ⟨rfl, rfl, rfl⟩ := hF.eq hF'
  obtain ⟨V6, hV6⟩ : ∃ V6, V6 = w6.alloc (.cells #[.int .i64 x', .int .i64 y'] 27) := ⟨_, rfl⟩
  have hbx : Below w6.heap.size w6 V6 := by rw [hV6]; exact (Below.refl _ _).alloc (Nat.le_refl _) _
  have k4 : V6.cell? ⟨w6.heap.size, 0, none⟩ = some (.int .i64 x') := by rw [hV6]; simp [go_sem]
  have k5 : V6.cell? ⟨w6.heap.size, 1, none⟩ = some (.int .i64 y') := by rw [hV6]; simp [go_sem]
  have hb46 : Below V4.heap.size V4 V6 := hb6.trans (hbx.mono hb6.size)
  have k2 := (hb46.cell (cell_lt k0)).trans k0
  have k3 := (hb46.cell (cell_lt k1)).trans k1
  have hb7 := hb5.trans (hb46.mono hb5.size)
  have hb37 : Below w3.heap.size w3 V6 := hb35.trans (hb46.mono hb35.size)
  have C6 := same_any _ _ _ _ _ _ _ _ _ (hP2'.keep hb37) (hP3.keep hb37)
  rw [decide_eq_true rfl] at C6
  have hC7 := hC3.keep hb37
  have HV6 := hide hV6
  have q1 := fun w => eql_pair w x' y' x' y'
  simp only [beq_self_eq_true, Bool.and_self] at q1
  have hgd := eqGuard27
  clear hV6 hF hF' hb6 hbx hb46 k0 k1 hb5 hb35 C5 HV4 hP2' hP3 hC3 hb37
  generalize bE ev zs = er1 at *
  go_wp2_with fail
  rw [← HV6.out]
  refine C6.mono ?_
  rintro e w8 ⟨rfl, q, hw8⟩
  have hb8 := below_drewN (Below.refl V6.heap.size V6) q
  rw [← hw8] at hb8
  have j2 := (hb8.cell (cell_lt k2)).trans k2
  have j3 := (hb8.cell (cell_lt k3)).trans k3
  have j4 := (hb8.cell (cell_lt k4)).trans k4
  have j5 := (hb8.cell (cell_lt k5)).trans k5
  have hb8' := hb7.trans (hb8.mono hb7.size)
  have hC8 := hC7.keep hb8
  clear hw8 k2 k3 k4 k5 HV6 C6 hb8 hb7 hC7
  have C8 := right_any b m bcap ps w8 (hB.keep hb8')
  go_wp2_with fail
  refine C8.mono ?_
  rintro e w9 ⟨rfl, hb9⟩
  have hb9' := hb8'.trans (hb9.mono hb8'.size)
  have hC9 := hC8.keep hb9
  have C9 := right_ref b m bcap ps w9 (hB.keep hb9')
  clear j2 j3 j4 j5 C8 hb8' hb9 hC8
  generalize decide (Rt ps) = rt at *
  go_wp2_with fail
  refine C9.mono ?_
  rintro e w10 ⟨rfl, q10, hw10⟩
  have hb10 := below_drewN (Below.refl w9.heap.size w9) q10
  rw [← hw10] at hb10
  have hb10' := hb9'.trans (hb10.mono hb9'.size)
  have C10 := sameInts_any _ _ _ _ _ _ _ _ w10 (hC9.keep hb10) (hA.keep hb10')
  rw [decide_eq_true rfl] at C10
  have hrt : (rt == rt) = true := by simp
  clear hw10 hb10 hC9 C9 hb9'
  go_wp2_with fail
  refine C10.mono ?_
  rintro e w11 ⟨rfl, q11, hw11⟩
  have hb11 := below_drewN hb10' q11
  rw [← hw11] at hb11
  clear hw11 hb10' C10
  go_wp2_with fail
  refine (awake_any w11).mono ?_
  rintro e w12 ⟨rfl, hb12⟩
  go_wp2_with fail
  go_ret
  exact ⟨rfl, hb11.trans (hb12.mono hb11.size)⟩

end indexTells
end Go.Proofs.Ytaapcanoaidpjaa

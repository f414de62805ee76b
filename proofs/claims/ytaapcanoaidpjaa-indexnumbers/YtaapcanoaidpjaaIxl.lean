/-
  IndexNumbers, walked: the fixed examples of the chapter.
-/
import Derived.Test.YtaapcanoaidpjaaIxi
namespace Go.Proofs.Ytaapcanoaidpjaa
open Go.RowKit
set_option maxRecDepth 100000

theorem build_at (a : Option Addr) (n cap : Nat) (zs : List Int) (ev : Int) (w : World) (hA : Is w a n cap zs) (hev : 1 ≤ ev) (hs : Szs zs) (ps : List (Int × Int)) (hps : (bst ev zs n).2.2 = ps) (L : Nat) (hL : ps.length = L) :
    Calls Try.prog 6 #[.slice a n cap, .int .i64 ev] w fun e w' => ∃ c d, e = .returned (.tuple #[.slice c L d, .int .i64 0]) ∧ Pr w' c L d ps ∧ Below w.heap.size w w' := by
  subst hL
  subst hps
  refine (build_yes a n cap zs ev w hA hev hs).mono ?_
  rintro e w' ⟨c, d, rfl, ho, hb⟩
  exact ⟨c, d, rfl, own_pr ho, hb⟩

theorem Is.nil (w : World) : Is w none 0 0 [] := ⟨rfl, Nat.le_refl _, by omega, fun h => by omega⟩

theorem made_is {w w1 : World} {n : Nat} (h : w1.ownsRow w.heap.size 3 1 (.slice (some ⟨w.heap.size, 0, none⟩) n n) n (madeCells (Value.int .i64 0).cells (n * 1)).toList) :
    ∃ zs, Is w1 (some ⟨w.heap.size, 0, none⟩) n n zs ∧ ∀ z ∈ zs, z = 0 := by
  refine ⟨List.replicate n 0, own_is (e := 3) (base := w.heap.size) ?_, fun z hz => List.eq_of_mem_replicate hz⟩
  have e : (madeCells (Value.int .i64 0).cells (n * 1)).toList = I1 (List.replicate n 0) := by
    simp only [Value.cells, Nat.mul_one]
    rw [toList_madeCells_one]
    simp [I1]
  rw [e] at h
  exact h

theorem bst_zero {ev : Int} (hev : 1 ≤ ev) {zs : List Int} (hz : ∀ z ∈ zs, z = 0) (k : Nat) (hk : k ≤ zs.length) : bst ev zs k = (0, 0, [(0, 0)]) := by
  induction k with
  | zero => rfl
  | succ k ih =>
    rw [bst_not (ih (by omega)) (by omega)]
    have : zs.getD k 0 = 0 := hz _ (by simp [List.getD, List.getElem?_eq_getElem (by omega : k < zs.length)])
    rw [this]
    rfl

theorem Rt_not1 : decide (Rt [(0, 0), (4611686018427387905, 0)]) = false := by decide
theorem Rt_yes1 : decide (Rt [(0, 0), (4611686018427387904, 0)]) = true := by decide
theorem Rt_not2 : decide (Rt [(0, 0), (1, 5), (2, 4)]) = false := by decide
theorem Rt_not3 : decide (Rt [(0, 1)]) = false := by decide
theorem Rt_not4 : ¬ Rt [(1, 0)] := by decide
theorem Rt_not5 : ¬ Rt [] := by decide
theorem Szs_not : ¬ Szs [1073741825] := by decide

namespace indexNumbers

set_option maxHeartbeats 8000000 in
theorem walk (w : World) : Calls Try.prog 3 #[] w fun e w' => e = .returned (.bool true) ∧ Below w.heap.size w w' := by
  obtain ⟨i0, hi, hz0, hz1, hz2⟩ := info_parts info3
  have HI := hide (And.intro hi (And.intro hz0 (And.intro hz1 hz2)))
  clear hi hz0 hz1 hz2
  go_enter Try.func3, Try.ntmps3
  go_wp2_with fail
  refine (build_at none 0 0 [] 5 w (Is.nil w) (by omega) (by decide) [(0, 0)] rfl 1 rfl).mono ?_
  rintro e w1 ⟨ca, da, rfl, hPa, hb1⟩
  have hI2 := is_lit w1 _ rfl [100, 1, 1] #[.int .i64 100, .int .i64 1, .int .i64 1] rfl 3 rfl (by omega)
  have hx : Below w1.heap.size w1 (w1.alloc (.cells #[.int .i64 100, .int .i64 1, .int .i64 1] 3)) := (Below.refl _ _).alloc (Nat.le_refl _) _
  have C2 := build_at _ 3 3 [100, 1, 1] 50 _ hI2 (by omega) (by decide) [(0, 0), (1, 100)] (by decide) 2 rfl
  have hPa2 := hPa.keep hx
  have hb2 := hb1.trans (hx.mono hb1.size)
  clear hPa hb1 hx hI2
  go_wp2_with fail
  refine C2.mono ?_
  rintro e w2 ⟨cb, db, rfl, hPb, hb⟩
  have hPa := hPa2.keep hb
  have hb2' := hb2.trans (hb.mono hb2.size)
  clear C2 hPa2 hb2 hb
  go_wp2_with fail
  refine (build_no none 0 0 [] 0 w2 (Is.nil w2) (.inl (by omega))).mono ?_
  rintro e w3 ⟨rfl, rfl⟩
  go_wp2_with fail
  refine (find_no none 0 0 [] 0 w3 (Pr.nil w3) (.inr Rt_not5)).mono ?_
  rintro e w4 ⟨rfl, hb⟩
  have hb4 := hb2'.trans (hb.mono hb2'.size)
  replace hPa := hPa.keep hb
  replace hPb := hPb.keep hb
  clear hb hb2'
  obtain ⟨V, hV⟩ : ∃ V, V = (w4.alloc (.cells #[.int .i64 0, .int .i64 0] 27)).alloc (.cells #[.int .i64 1, .int .i64 0] 27) := ⟨_, rfl⟩
  have hs1 : (w4.alloc (.cells #[.int .i64 0, .int .i64 0] 27)).heap.size = w4.heap.size + 1 := by simp
  have hx : Below w4.heap.size w4 V := by rw [hV]; exact ((Below.refl _ _).alloc (Nat.le_refl _) _).alloc (by omega) _
  have hL : Pr V (some ⟨w4.heap.size + 1, 0, none⟩) 1 1 [(1, 0)] := by rw [hV]; exact pr_lit _ _ hs1 [(1, 0)] _ rfl 1 rfl (by omega)
  have hb5 := hb4.trans (hx.mono hb4.size)
  replace hPa := hPa.keep hx
  replace hPb := hPb.keep hx
  have C5 := find_no _ _ _ [(1, 0)] 1 V hL (.inr Rt_not4)
  have HV := hide hV
  clear hV hs1 hx hL hb4
  go_wp2_with fail
  rw [← HV.out]
  clear HV
  refine C5.mono ?_
  rintro e w5 ⟨rfl, hb⟩
  have hb5' := hb5.trans (hb.mono hb5.size)
  replace hPa := hPa.keep hb
  replace hPb := hPb.keep hb
  clear hb hb5 C5 V
  obtain ⟨V, hV⟩ : ∃ V, V = (w5.alloc (.cells #[.int .i64 0, .int .i64 0] 27)).alloc (.cells #[.int .i64 0, .int .i64 0] 27) := ⟨_, rfl⟩
  have hs1 : (w5.alloc (.cells #[.int .i64 0, .int .i64 0] 27)).heap.size = w5.heap.size + 1 := by simp
  have hx : Below w5.heap.size w5 V := by rw [hV]; exact ((Below.refl _ _).alloc (Nat.le_refl _) _).alloc (by omega) _
  have hL : Pr V (some ⟨w5.heap.size + 1, 0, none⟩) 1 1 [(0, 0)] := by rw [hV]; exact pr_lit _ _ hs1 [(0, 0)] _ rfl 1 rfl (by omega)
  have hb6 := hb5'.trans (hx.mono hb5'.size)
  replace hPa := hPa.keep hx
  replace hPb := hPb.keep hx
  have C6 := find_no _ _ _ [(0, 0)] (-1) V hL (.inl (by omega))
  have HV := hide hV
  clear hV hs1 hx hL hb5'
  go_wp2_with fail
  rw [← HV.out]
  clear HV
  refine C6.mono ?_
  rintro e w6 ⟨rfl, hb⟩
  have hb6' := hb6.trans (hb.mono hb6.size)
  replace hPa := hPa.keep hb
  replace hPb := hPb.keep hb
  clear hb hb6 C6 V
  obtain ⟨V, hV⟩ : ∃ V, V = (w6.alloc (.cells #[.int .i64 0, .int .i64 0] 27)).alloc (.cells #[.int .i64 1073741825] 3) := ⟨_, rfl⟩
  have hs1 : (w6.alloc (.cells #[.int .i64 0, .int .i64 0] 27)).heap.size = w6.heap.size + 1 := by simp
  have hx : Below w6.heap.size w6 V := by rw [hV]; exact ((Below.refl _ _).alloc (Nat.le_refl _) _).alloc (by omega) _
  have hL : Is V (some ⟨w6.heap.size + 1, 0, none⟩) 1 1 [1073741825] := by rw [hV]; exact is_lit _ _ hs1 [1073741825] _ rfl 1 rfl (by omega)
  have hb7 := hb6'.trans (hx.mono hb6'.size)
  replace hPa := hPa.keep hx
  replace hPb := hPb.keep hx
  have C7 := build_no _ _ _ [1073741825] 1 V hL (.inr Szs_not)
  have HV := hide hV
  clear hV hs1 hx hL hb6'
  go_wp2_with fail
  rw [← HV.out]
  clear HV
  refine C7.mono ?_
  rintro e w7 ⟨rfl, rfl⟩
  clear C7
  go_wp2_with (at_make; refine wpList_make_full _ rfl _ _ 26 rfl w7.heap.size 3 i0 (.int .i64 0) 1 Try.underlying26 HI.out.1 HI.out.2.1 HI.out.2.2.1 .i64 .i64 _ _ 65537 rfl rfl (by decide) (by decide) (by rw [HI.out.2.2.2]; decide) (by unfold maxLen; decide) (Nat.le_refl _) ?_; intro w8 hown hgrow; obtain ⟨zs, hZ, hzz⟩ := made_is hown; have hx : Below w7.heap.size w7 w8 := (Below.refl _ _).grown hgrow (Nat.le_refl _) (fun k hk => by cases hk); clear hown hgrow)
  have C8 := build_no _ _ _ zs 1 w8 hZ (.inr (fun h => by have h1 := h.1; have h2 := hZ.len; omega))
  have hb8 := hb7.trans (hx.mono hb7.size)
  replace hPa := hPa.keep hx
  replace hPb := hPb.keep hx
  clear hZ hzz hx hb7
  refine C8.mono ?_
  rintro e w9 ⟨rfl, rfl⟩
  clear C8
  go_wp2_with (at_make; refine wpList_make_full _ rfl _ _ 26 rfl w9.heap.size 3 i0 (.int .i64 0) 1 Try.underlying26 HI.out.1 HI.out.2.1 HI.out.2.2.1 .i64 .i64 _ _ 65536 rfl rfl (by decide) (by decide) (by rw [HI.out.2.2.2]; decide) (by unfold maxLen; decide) (Nat.le_refl _) ?_; intro w10 hown hgrow; obtain ⟨zs, hZ, hzz⟩ := made_is hown; have hx : Below w9.heap.size w9 w10 := (Below.refl _ _).grown hgrow (Nat.le_refl _) (fun k hk => by cases hk); clear hown hgrow)
  have hzl := hZ.len
  have C9 := build_at _ _ _ zs 1 w10 hZ (by omega) ⟨by omega, fun z hz => by rw [hzz z hz]; decide⟩ [(0, 0)] (by rw [bst_zero (by omega) hzz 65536 (by omega)]) 1 rfl
  have hb10 := hb8.trans (hx.mono hb8.size)
  replace hPa := hPa.keep hx
  replace hPb := hPb.keep hx
  clear hZ hzz hx hb8 hzl
  refine C9.mono ?_
  rintro e w11 ⟨cc, dc, rfl, _, hb⟩
  have hb11 := hb10.trans (hb.mono hb10.size)
  replace hPa := hPa.keep hb
  replace hPb := hPb.keep hb
  clear hb hb10 C9 zs
  obtain ⟨V, hV⟩ : ∃ V, V = w11.alloc (.cells #[.int .i64 0, .int .i64 0] 27) := ⟨_, rfl⟩
  have hx : Below w11.heap.size w11 V := by rw [hV]; exact (Below.refl _ _).alloc (Nat.le_refl _) _
  have hL : Pr V (some ⟨w11.heap.size, 0, none⟩) 1 1 [(0, 0)] := by rw [hV]; exact pr_lit _ _ rfl [(0, 0)] _ rfl 1 rfl (by omega)
  have hbV := hb11.trans (hx.mono hb11.size)
  replace hPb := hPb.keep hx
  have C10 := same_any _ _ _ _ _ _ _ _ _ (hPa.keep hx) hL
  rw [decide_eq_true rfl] at C10
  have HV := hide hV
  clear hV hx hL hPa hb11
  go_wp2_with fail
  rw [← HV.out]
  clear HV
  refine C10.mono ?_
  rintro e w12 ⟨rfl, q, hq⟩
  have hb : Below V.heap.size V w12 := by rw [hq]; exact below_drewN (Below.refl _ _) q
  have hb12 := hbV.trans (hb.mono hbV.size)
  replace hPb := hPb.keep hb
  clear hq hb hbV C10 V
  obtain ⟨V, hV⟩ : ∃ V, V = w12.alloc (.cells #[.int .i64 0, .int .i64 0, .int .i64 1, .int .i64 100] 27) := ⟨_, rfl⟩
  have hx : Below w12.heap.size w12 V := by rw [hV]; exact (Below.refl _ _).alloc (Nat.le_refl _) _
  have hL : Pr V (some ⟨w12.heap.size, 0, none⟩) 2 2 [(0, 0), (1, 100)] := by rw [hV]; exact pr_lit _ _ rfl [(0, 0), (1, 100)] _ rfl 2 rfl (by omega)
  have hbV := hb12.trans (hx.mono hb12.size)
  have C11 := same_any _ _ _ _ _ _ _ _ _ (hPb.keep hx) hL
  rw [decide_eq_true rfl] at C11
  have HV := hide hV
  clear hV hx hL hPb hb12
  go_wp2_with fail
  rw [← HV.out]
  clear HV
  refine C11.mono ?_
  rintro e w13 ⟨rfl, q, hq⟩
  have hb13 : Below w.heap.size w w13 := by rw [hq]; exact below_drewN hbV q
  clear hq hbV C11 V
  obtain ⟨V, hV⟩ : ∃ V, V = w13.alloc (.cells #[.int .i64 0, .int .i64 0, .int .i64 4611686018427387905, .int .i64 0] 27) := ⟨_, rfl⟩
  have hx : Below w13.heap.size w13 V := by rw [hV]; exact (Below.refl _ _).alloc (Nat.le_refl _) _
  have hL : Pr V (some ⟨w13.heap.size, 0, none⟩) 2 2 [(0, 0), (4611686018427387905, 0)] := by rw [hV]; exact pr_lit _ _ rfl [(0, 0), (4611686018427387905, 0)] _ rfl 2 rfl (by omega)
  have hbV := hb13.trans (hx.mono hb13.size)
  have C := right_any _ _ _ _ _ hL
  rw [Rt_not1] at C
  have HV := hide hV
  clear hV hx hL hb13
  go_wp2_with fail
  rw [← HV.out]
  clear HV
  refine C.mono ?_
  rintro e w14 ⟨rfl, hb⟩
  have hb14 := hbV.trans (hb.mono hbV.size)
  clear hb hbV C V
  obtain ⟨V, hV⟩ : ∃ V, V = w14.alloc (.cells #[.int .i64 0, .int .i64 0, .int .i64 4611686018427387904, .int .i64 0] 27) := ⟨_, rfl⟩
  have hx : Below w14.heap.size w14 V := by rw [hV]; exact (Below.refl _ _).alloc (Nat.le_refl _) _
  have hL : Pr V (some ⟨w14.heap.size, 0, none⟩) 2 2 [(0, 0), (4611686018427387904, 0)] := by rw [hV]; exact pr_lit _ _ rfl [(0, 0), (4611686018427387904, 0)] _ rfl 2 rfl (by omega)
  have hbV := hb14.trans (hx.mono hb14.size)
  have C := right_any _ _ _ _ _ hL
  rw [Rt_yes1] at C
  have HV := hide hV
  clear hV hx hL hb14
  go_wp2_with fail
  rw [← HV.out]
  clear HV
  refine C.mono ?_
  rintro e w15 ⟨rfl, hb⟩
  have hb15 := hbV.trans (hb.mono hbV.size)
  clear hb hbV C V
  obtain ⟨V, hV⟩ : ∃ V, V = w15.alloc (.cells #[.int .i64 0, .int .i64 0, .int .i64 1, .int .i64 5, .int .i64 2, .int .i64 4] 27) := ⟨_, rfl⟩
  have hx : Below w15.heap.size w15 V := by rw [hV]; exact (Below.refl _ _).alloc (Nat.le_refl _) _
  have hL : Pr V (some ⟨w15.heap.size, 0, none⟩) 3 3 [(0, 0), (1, 5), (2, 4)] := by rw [hV]; exact pr_lit _ _ rfl [(0, 0), (1, 5), (2, 4)] _ rfl 3 rfl (by omega)
  have hbV := hb15.trans (hx.mono hb15.size)
  have C := right_any _ _ _ _ _ hL
  rw [Rt_not2] at C
  have HV := hide hV
  clear hV hx hL hb15
  go_wp2_with fail
  rw [← HV.out]
  clear HV
  refine C.mono ?_
  rintro e w16 ⟨rfl, hb⟩
  have hb16 := hbV.trans (hb.mono hbV.size)
  clear hb hbV C V
  obtain ⟨V, hV⟩ : ∃ V, V = w16.alloc (.cells #[.int .i64 0, .int .i64 1] 27) := ⟨_, rfl⟩
  have hx : Below w16.heap.size w16 V := by rw [hV]; exact (Below.refl _ _).alloc (Nat.le_refl _) _
  have hL : Pr V (some ⟨w16.heap.size, 0, none⟩) 1 1 [(0, 1)] := by rw [hV]; exact pr_lit _ _ rfl [(0, 1)] _ rfl 1 rfl (by omega)
  have hbV := hb16.trans (hx.mono hb16.size)
  have C := right_any _ _ _ _ _ hL
  rw [Rt_not3] at C
  have HV := hide hV
  clear hV hx hL hb16
  go_wp2_with fail
  rw [← HV.out]
  clear HV
  refine C.mono ?_
  rintro e w17 ⟨rfl, hb⟩
  have hb17 := hbV.trans (hb.mono hbV.size)
  clear hb hbV C V
  go_wp2_with fail
  refine (awake_any _).mono ?_
  rintro e w18 ⟨rfl, hb⟩
  go_wp2_with fail
  go_ret
  exact ⟨rfl, hb17.trans (hb.mono hb17.size)⟩

end indexNumbers
end Go.Proofs.Ytaapcanoaidpjaa

/-
  RecordNumbers, walked: the fixed examples of the chapter.
-/
import Derived.Test.YtelfckhiafnniaaRfu
import Derived.Test.YtelfckhiafnniaaRrs
import Derived.Test.YtelfckhiafnniaaRbu
namespace Go.Proofs.Ytelfckhiafnniaa
open Go.RowKit

theorem Rl.none (w : World) : Rl w none 0 0 [] := ⟨rfl, Nat.le_refl _, by omega, fun h => by omega⟩

/-- What Encode answers to so many records of so many bytes. -/
theorem many_ok (base : Int) {l : List (List Int)} {n size k m : Nat} (h1 : l.length = n) (h2 : ∀ r ∈ l, r.length = size) (hk : (vb n).length = k) (hm : (vb size).length = m) (hn : n ≤ 256) (hs : size ≤ 1024) (hl : 15 + k + n * (m + size) ≤ 60000) : Right ⟨0, 0, 0, l⟩ ∧ 12 + (body ⟨0, 0, 0, l⟩).length ≤ 60000 ∧ encD base ⟨0, 0, 0, l⟩ = (enc base ⟨0, 0, 0, l⟩, 0) := by
  have hr : Right ⟨0, 0, 0, l⟩ := ⟨by simp only; omega, fun r hr => by rw [h2 r hr]; exact hs⟩
  have hb : 12 + (body ⟨0, 0, 0, l⟩).length ≤ 60000 := by rw [body_many, rbs_same h2, h1, hk, hm]; omega
  exact ⟨hr, hb, encD_of hr hb⟩

theorem many_long (base : Int) {l : List (List Int)} {n size k m : Nat} (h1 : l.length = n) (h2 : ∀ r ∈ l, r.length = size) (hk : (vb n).length = k) (hm : (vb size).length = m) (hn : n ≤ 256) (hs : size ≤ 1024) (hl : 60000 < 15 + k + n * (m + size)) : encD base ⟨0, 0, 0, l⟩ = ([], 3) := by
  have hr : Right ⟨0, 0, 0, l⟩ := ⟨by simp only; omega, fun r hr => by rw [h2 r hr]; exact hs⟩
  unfold encD
  rw [if_pos ((rightB_iff (pid := 0) (ep := 0) (first := 0)).2 hr), if_pos (by rw [body_many, rbs_same h2, h1, hk, hm]; omega)]

theorem many_wrong (base : Int) {l : List (List Int)} (h : ¬ Right ⟨0, 0, 0, l⟩) : encD base ⟨0, 0, 0, l⟩ = ([], 2) := by
  unfold encD
  rw [if_neg (fun hh => h ((rightB_iff (pid := 0) (ep := 0) (first := 0)).1 hh))]

theorem LL.list {w : World} {base n size : Nat} {v : Value} {rs : List (Value × List Int)} (_h : LL w base v rs) (hn : rs.length = n) (hs : ∀ r ∈ rs, r.2.length = size) : ∃ l, l = rs.map (·.2) ∧ l.length = n ∧ ∀ r ∈ l, r.length = size := by
  refine ⟨_, rfl, by rw [List.length_map, hn], fun r hr => ?_⟩
  obtain ⟨q, hq, rfl⟩ := List.mem_map.1 hr
  exact hs q hq

theorem set_chg {zs : List Int} (hb : ∀ z ∈ zs, 0 ≤ z ∧ z ≤ 255) (p : Nat) (z : Int) (hz : 0 ≤ z ∧ z ≤ 255) : Chg zs (zs.set p z) p 1 := by
  have h0 : Chg zs zs p 0 := ⟨rfl, hb, rfl, rfl⟩
  have := h0.step z hz
  rwa [Nat.add_zero] at this

theorem one_set : (enc 7 oneB).set 17 98 ≠ enc 7 oneB := by
  intro e
  have h := congrArg (List.drop 12) e
  have h2 : ((enc 7 oneB).set 17 98).drop 12 = ((enc 7 oneB).drop 12).set 5 98 := by rw [List.drop_set]; rfl
  rw [h2, enc_drop, one_body] at h
  revert h
  decide

namespace recordNumbers

set_option maxRecDepth 100000 in
set_option maxHeartbeats 8000000 in
theorem walk (w : World) : Calls Try.prog 3 #[] w fun e w' => e = .returned (.bool true) ∧ Below w.heap.size w w' := by
  obtain ⟨i0, hi, hz0, hz1, hz2⟩ := info_parts info5
  have bd0 : Bd ⟨0, 0, 0, []⟩ := ⟨i64_zero, i64_zero, i64_zero, by simp⟩
  have r0 : Right ⟨0, 0, 0, []⟩ := ⟨by simp, by simp⟩
  have b0 : (body ⟨0, 0, 0, []⟩).length = 4 := by decide
  have CA := encode_any 0 0 0 0 none 0 0 [] w (Rl.none w) bd0
  rw [encD_of r0 (by rw [b0]; decide)] at CA
  go_enter Try.func3, Try.ntmps3
  go_wp2_with fail
  refine CA.mono ?_
  rintro e w1 ⟨v1, rfl, hown1, hb1⟩
  replace hown1 : w1.ownsRow w.heap.size 5 1 v1 (enc 0 ⟨0, 0, 0, []⟩).length (U (enc 0 ⟨0, 0, 0, []⟩)) := hown1
  rw [enc_length, b0] at hown1
  obtain ⟨g1, d1, hv1⟩ := own_shape hown1 (by decide)
  subst hv1
  clear hown1 CA
  go_wp2_with fail
  refine (many_any 256 200 (by decide) (by decide) (by decide) w1).mono ?_
  rintro e w2 ⟨va2, vc2, rs2, rfl, hL2, hn2, hs2, hbm⟩
  obtain ⟨l2, hll, hl2, hz2'⟩ := hL2.list hn2 hs2
  have hR2 := hL2.rl
  rw [← hll] at hR2
  have hb2 : Below w.heap.size w w2 := hb1.trans (hbm.mono hb1.size)
  clear hL2 hll hs2 hn2
  obtain ⟨rb, lb, eb⟩ := many_ok (-1) hl2 hz2' (len_2 (by decide) (by decide)) (len_2 (by decide) (by decide)) (by decide) (by decide) (by decide)
  have bdb : Bd ⟨0, 0, 0, l2⟩ := hR2.bd i64_zero i64_zero i64_zero
  have CB := encode_any (-1) 0 0 0 _ _ _ l2 w2 hR2 bdb
  rw [eb] at CB
  clear hR2 eb
  go_wp2_with fail
  refine CB.mono ?_
  rintro e w3 ⟨v3, rfl, hown3, hbx⟩
  replace hown3 : w3.ownsRow w2.heap.size 5 1 v3 (enc (-1) ⟨0, 0, 0, l2⟩).length (U (enc (-1) ⟨0, 0, 0, l2⟩)) := hown3
  obtain ⟨N3, hN3⟩ : ∃ N, N = (enc (-1) ⟨0, 0, 0, l2⟩).length := ⟨_, rfl⟩
  have hN3' : 12 ≤ N3 := by rw [hN3, enc_length]; omega
  rw [← hN3] at hown3
  have HN3 := hide hN3
  obtain ⟨g3, d3, hv3⟩ := own_shape hown3 (by omega)
  subst hv3
  have hB3 := own_bs hown3 (enc_byte bdb.byte)
  have hb3 : Below w.heap.size w w3 := hb2.trans (hbx.mono hb2.size)
  clear hown3 hbx hN3 CB
  go_wp2_with fail
  refine (many_any 257 1 (by decide) (by decide) (by decide) w3).mono ?_
  rintro e w4 ⟨va4, vc4, rs4, rfl, hL4, hn4, hs4, hbm⟩
  obtain ⟨l4, hll, hl4, hz4'⟩ := hL4.list hn4 hs4
  have hR4 := hL4.rl
  rw [← hll] at hR4
  have hb4 : Below w.heap.size w w4 := hb3.trans (hbm.mono hb3.size)
  clear hL4 hll hs4 hn4
  have CC := encode_any 0 0 0 0 _ _ _ l4 w4 hR4 (hR4.bd i64_zero i64_zero i64_zero)
  rw [many_wrong 0 (fun h => by have := h.count; simp only at this; omega)] at CC
  replace hB3 := hB3.keep hbm
  clear hR4 hbm
  go_wp2_with fail
  refine CC.mono ?_
  rintro e w5 ⟨v5, rfl, _, hbx⟩
  have hb5 : Below w.heap.size w w5 := hb4.trans (hbx.mono hb4.size)
  replace hB3 := hB3.keep hbx
  clear hbx CC
  go_wp2_with fail
  refine (many_any 1 1025 (by decide) (by decide) (by decide) w5).mono ?_
  rintro e w6 ⟨va6, vc6, rs6, rfl, hL6, hn6, hs6, hbm⟩
  obtain ⟨l6, hll, hl6, hz6'⟩ := hL6.list hn6 hs6
  have hR6 := hL6.rl
  rw [← hll] at hR6
  have hb6 : Below w.heap.size w w6 := hb5.trans (hbm.mono hb5.size)
  clear hL6 hll hs6 hn6
  have CD := encode_any 0 0 0 0 _ _ _ l6 w6 hR6 (hR6.bd i64_zero i64_zero i64_zero)
  rw [many_wrong 0 (fun h => by
    have hne : l6 ≠ [] := by intro e; rw [e] at hl6; cases hl6
    have h1 := h.size (l6.head hne) (List.head_mem hne)
    rw [hz6' _ (List.head_mem hne)] at h1
    omega)] at CD
  replace hB3 := hB3.keep hbm
  clear hR6 hbm
  go_wp2_with fail
  refine CD.mono ?_
  rintro e w7 ⟨v7, rfl, _, hbx⟩
  have hb7 : Below w.heap.size w w7 := hb6.trans (hbx.mono hb6.size)
  replace hB3 := hB3.keep hbx
  clear hbx CD
  go_wp2_with fail
  refine (many_any 100 1024 (by decide) (by decide) (by decide) w7).mono ?_
  rintro e w8 ⟨va8, vc8, rs8, rfl, hL8, hn8, hs8, hbm⟩
  obtain ⟨l8, hll, hl8, hz8'⟩ := hL8.list hn8 hs8
  have hR8 := hL8.rl
  rw [← hll] at hR8
  have hb8 : Below w.heap.size w w8 := hb7.trans (hbm.mono hb7.size)
  clear hL8 hll hs8 hn8
  have CE := encode_any 0 0 0 0 _ _ _ l8 w8 hR8 (hR8.bd i64_zero i64_zero i64_zero)
  rw [many_long 0 hl8 hz8' (len_1 (by decide)) (len_2 (by decide) (by decide)) (by decide) (by decide) (by decide)] at CE
  replace hB3 := hB3.keep hbm
  clear hR8 hbm
  go_wp2_with fail
  refine CE.mono ?_
  rintro e w9 ⟨v9, rfl, _, hbx⟩
  have hb9 : Below w.heap.size w w9 := hb8.trans (hbx.mono hb8.size)
  replace hB3 := hB3.keep hbx
  clear hbx CE
  go_wp2_with fail
  refine (many_any 2 1024 (by decide) (by decide) (by decide) w9).mono ?_
  rintro e w10 ⟨va10, vc10, rs10, rfl, hL10, hn10, hs10, hbm⟩
  obtain ⟨l10, hll, hl10, hz10'⟩ := hL10.list hn10 hs10
  have hR10 := hL10.rl
  rw [← hll] at hR10
  have hb10 : Below w.heap.size w w10 := hb9.trans (hbm.mono hb9.size)
  clear hL10 hll hs10 hn10
  obtain ⟨rc, lc, ec⟩ := many_ok 0 hl10 hz10' (len_1 (by decide)) (len_2 (by decide) (by decide)) (by decide) (by decide) (by decide)
  have bdc : Bd ⟨0, 0, 0, l10⟩ := hR10.bd i64_zero i64_zero i64_zero
  have CF := encode_any 0 0 0 0 _ _ _ l10 w10 hR10 bdc
  rw [ec] at CF
  replace hB3 := hB3.keep hbm
  clear hR10 ec hbm
  go_wp2_with fail
  refine CF.mono ?_
  rintro e w11 ⟨v11, rfl, hown11, hbx⟩
  replace hown11 : w11.ownsRow w10.heap.size 5 1 v11 (enc 0 ⟨0, 0, 0, l10⟩).length (U (enc 0 ⟨0, 0, 0, l10⟩)) := hown11
  obtain ⟨N11, hN11⟩ : ∃ N, N = (enc 0 ⟨0, 0, 0, l10⟩).length := ⟨_, rfl⟩
  have hN11' : 12 ≤ N11 := by rw [hN11, enc_length]; omega
  rw [← hN11] at hown11
  have HN11 := hide hN11
  obtain ⟨g11, d11, hv11⟩ := own_shape hown11 (by omega)
  subst hv11
  have hB11 := own_bs hown11 (enc_byte bdc.byte)
  have hb11 : Below w.heap.size w w11 := hb10.trans (hbx.mono hb10.size)
  replace hB3 := hB3.keep hbx
  clear hown11 hbx hN11 CF
  go_wp2_with fail
  refine (decode_yes hB3 (by unfold I64; decide) rb bdb lb).mono ?_
  rintro e w12 ⟨xa, xn, xc, rsx, rfl, hLx, hrx, hbx⟩
  have hxn : xn = 256 := by
    obtain ⟨_, _, hv⟩ := own_val hLx.own
    simp only [Value.slice.injEq] at hv
    have h1 := congrArg List.length hrx
    simp only [List.length_map] at h1
    rw [hv.2.1, h1, hl2]
  subst hxn
  obtain ⟨X, hX, hbX, hsX, hcX⟩ := box_new w12 0 0 0 (.slice xa 256 xc)
  have hb12 : Below w.heap.size w X := (hb11.trans (hbx.mono hb11.size)).trans (hbX.mono (hb11.trans (hbx.mono hb11.size)).size)
  replace hB11 := (hB11.keep hbx).keep hbX
  have HX := hide hX
  have HCX := hide hcX
  clear hX hcX hbX hbx hLx hrx hB3 rb bdb lb
  go_wp2_with fail
  rw [← HX.out]
  refine (decode_yes hB11 i64_zero rc bdc lc).mono ?_
  rintro e w13 ⟨ya, yn, yc, rsy, rfl, hLy, hry, hbx⟩
  have hyn : yn = 2 := by
    obtain ⟨_, _, hv⟩ := own_val hLy.own
    simp only [Value.slice.injEq] at hv
    have h1 := congrArg List.length hry
    simp only [List.length_map] at h1
    rw [hv.2.1, h1, hl10]
  subst hyn
  obtain ⟨Y, hY, hbY, hsY, hcY⟩ := box_new w13 0 0 0 (.slice ya 2 yc)
  have hbXY : Below X.heap.size X Y := hbx.trans (hbY.mono hbx.size)
  have hb13 : Below w.heap.size w Y := hb12.trans (hbXY.mono hb12.size)
  have HY := hide hY
  have HCY := hide hcY
  clear hY hcY hbY hbx hLy hry hB11 rc bdc lc
  go_wp2_with fail
  rw [← HY.out]
  refine (one_any Y).mono ?_
  rintro e w14 ⟨g14, rfl, hR14, hb14⟩
  go_wp2_with fail
  refine (encode_one hR14).mono ?_
  rintro e w15 ⟨g15, d15, rfl, hown15, hbx⟩
  have hB15 := own_bs hown15 (enc_byte one_bd.byte)
  have hd15 := hB15.le
  have hd15' := hB15.reach
  have hbY15 : Below Y.heap.size Y w15 := hb14.trans (hbx.mono hb14.size)
  clear hown15 hbx hR14 hb14
  go_wp2_with fail
  refine (rest_any w15).mono ?_
  rintro e w16 ⟨rfl, hbx⟩
  replace hB15 := hB15.keep hbx
  replace hbY15 := hbY15.trans (hbx.mono hbY15.size)
  clear hbx
  go_wp2_with fail
  refine (full_any w16).mono ?_
  rintro e w17 ⟨rfl, hbx⟩
  replace hB15 := hB15.keep hbx
  replace hbY15 := hbY15.trans (hbx.mono hbY15.size)
  clear hbx
  have H17 : Hid (∀ V, Below w17.heap.size w17 V → Below w.heap.size w V ∧ V.cell? ⟨w12.heap.size, 3, none⟩ = some (.slice xa 256 xc) ∧ V.cell? ⟨w13.heap.size, 3, none⟩ = some (.slice ya 2 yc)) := hide (fun V hV => by
    have h1 := hbY15.trans (hV.mono hbY15.size)
    have h2 := hb13.trans (h1.mono hb13.size)
    exact ⟨h2, (HCX.out V (hbXY.trans (h1.mono hbXY.size))).2.2.2, (HCY.out V h1).2.2.2⟩)
  clear HCX HCY HX HY hbXY hbY15 hb1 hb2 hb3 hb4 hb5 hb6 hb7 hb8 hb9 hb10 hb11 hb12 hb13
  go_wp2_with fail
  go_loopw [21] (fun i wr => ∃ k : Nat, k ≤ 4 ∧ i = .int .i64 k ∧ Below w17.heap.size w17 wr) (fun i _ => 4 - (intOf i).toNat)
  case atStart => exact ⟨0, Nat.zero_le _, rfl, Below.refl _ _⟩
  case round =>
    obtain ⟨k, hk, rfl, hbr⟩ := hrel
    have hsr := hbr.size
    by_cases hlt : k < 4
    · have C := copy_any _ _ _ _ wr (hB15.keep hbr) (by omega)
      rcases (show k = 0 ∨ k = 1 ∨ k = 2 ∨ k = 3 by omega) with rfl | rfl | rfl | rfl
      · go_wp2_with fail
        refine C.mono ?_
        rintro e w18 ⟨c18, d18, rfl, hown18, hb18⟩
        obtain ⟨g18, e18, hv18⟩ := own_shape hown18 (by decide)
        simp only [Value.slice.injEq, true_and] at hv18
        obtain ⟨rfl, rfl⟩ := hv18
        have hs18 := hb18.size
        have h1718 : Below w17.heap.size w17 w18 := hbr.trans (hb18.mono hsr)
        have HO := hide hown18
        clear hown18
        go_wp2_with (at_builtin; refine wpList_append_bs rfl (.tmp 90) (.tmp 91) 22 rfl wr.heap.size 5 i0 Try.underlying22 hi hz0 hz1 hz2 _ _ _ rfl (HO.out.alloc _) _ 1 1 [0] rfl (row_lit w18 _ rfl [0] 1 rfl (by decide) (by decide)) (by omega) (by omega) (by simp; omega) ?_; intro gx dx wx hownx hgrowx; have hbx : Below wr.heap.size wr wx := (hb18.alloc hs18 _).grown hgrowx (by simp; omega) (fun k hk => own_from HO.out hk); have HOx := hide hownx; clear hownx hgrowx)
        have hBx : Bs wx (some ⟨gx, 0, none⟩) (18 + 1) dx (enc 7 oneB ++ [0]) := own_bs (by rw [U_append]; exact HOx.out) (app_byte (enc_byte one_bd.byte) (by decide))
        have h1719 : Below w17.heap.size w17 wx := hbr.trans (hbx.mono hsr)
        refine (decode_no hBx none_more).mono ?_
        rintro e w19 ⟨za, zc, rfl, hb19⟩
        obtain ⟨Zw, hZ, hbZ, hsZ, hcZ⟩ := box_new w19 0 0 0 (.slice za 0 zc)
        obtain ⟨c0, c1, c2, c3⟩ := hcZ Zw (Below.refl _ _)
        rw [hZ] at c0 c1 c2 c3
        have F : Below w17.heap.size w17 Zw := (h1719.trans (hb19.mono h1719.size)).trans (hbZ.mono (h1719.trans (hb19.mono h1719.size)).size)
        have HZ := hide hZ
        clear hZ hcZ
        go_wp2_with fail
        go_roundw
        case rel => exact ⟨0 + 1, by omega, by go_num, by rw [← HZ.out]; exact F⟩
        case measure => simp [intOf]
      · go_wp2_with fail
        refine C.mono ?_
        rintro e w18 ⟨c18, d18, rfl, hown18, hb18⟩
        obtain ⟨g18, e18, hv18⟩ := own_shape hown18 (by decide)
        simp only [Value.slice.injEq, true_and] at hv18
        obtain ⟨rfl, rfl⟩ := hv18
        have hs18 := hb18.size
        have h1718 : Below w17.heap.size w17 w18 := hbr.trans (hb18.mono hsr)
        have hB18 := own_bs hown18 (enc_byte one_bd.byte)
        have hle18 := hB18.le
        have hre18 := hB18.reach
        have h1719 := h1718
        go_wp2_with fail
        refine (decode_no (hB18.head 17 (by decide)) (none_cut (by rw [one_len]; decide))).mono ?_
        rintro e w19 ⟨za, zc, rfl, hb19⟩
        obtain ⟨Zw, hZ, hbZ, hsZ, hcZ⟩ := box_new w19 0 0 0 (.slice za 0 zc)
        obtain ⟨c0, c1, c2, c3⟩ := hcZ Zw (Below.refl _ _)
        rw [hZ] at c0 c1 c2 c3
        have F : Below w17.heap.size w17 Zw := (h1719.trans (hb19.mono h1719.size)).trans (hbZ.mono (h1719.trans (hb19.mono h1719.size)).size)
        have HZ := hide hZ
        clear hZ hcZ
        go_wp2_with fail
        go_roundw
        case rel => exact ⟨1 + 1, by omega, by go_num, by rw [← HZ.out]; exact F⟩
        case measure => simp [intOf]
      · go_wp2_with fail
        refine C.mono ?_
        rintro e w18 ⟨c18, d18, rfl, hown18, hb18⟩
        obtain ⟨g18, e18, hv18⟩ := own_shape hown18 (by decide)
        simp only [Value.slice.injEq, true_and] at hv18
        obtain ⟨rfl, rfl⟩ := hv18
        have hs18 := hb18.size
        have h1718 : Below w17.heap.size w17 w18 := hbr.trans (hb18.mono hsr)
        obtain ⟨hg0, hdd, hmm, rest, hrl, hg⟩ := own_heap hown18
        have hl18 : (enc 7 oneB).length = 18 := one_len 7
        have hcell := U_cell (i := 17) hg (by omega)
        have hfz : w18.frozen? ⟨g18, 17, none⟩ = false := heap_free hg
        have hg2 := heap_set (i := 17) hg (.int .u8 98)
        rw [U_set _ _ _ _ (by omega)] at hg2
        have hBx : Bs (w18.setCell ⟨g18, 17, none⟩ (.int .u8 98)) (some ⟨g18, 0, none⟩) 18 d18 ((enc 7 oneB).set 17 98) := bs_of hg2 (by rw [List.length_append, U_length, List.length_set]; rw [List.length_append, U_length] at hrl; exact hrl) (by simp [hl18]) hmm (set_chg (enc_byte one_bd.byte) 17 98 (by decide)).byte
        have h1719 : Below w17.heap.size w17 (w18.setCell ⟨g18, 17, none⟩ (.int .u8 98)) := h1718.setCell (p := ⟨g18, 17, none⟩) (by simp only; omega) _
        have hN := chg_none one_bd.byte (set_chg (enc_byte one_bd.byte) 17 98 (by decide)) (by decide) (.inr (by decide)) one_set
        have CD := decode_no hBx hN
        have HCD := hide CD
        have hle18 : 18 ≤ d18 := hdd
        have hre18 : d18 ≤ 9223372036854775807 := by unfold maxLen at hmm; omega
        clear hg hg2 hBx hown18 CD
        go_wp2_with fail
        refine HCD.out.mono ?_
        rintro e w19 ⟨za, zc, rfl, hb19⟩
        obtain ⟨Zw, hZ, hbZ, hsZ, hcZ⟩ := box_new w19 0 0 0 (.slice za 0 zc)
        obtain ⟨c0, c1, c2, c3⟩ := hcZ Zw (Below.refl _ _)
        rw [hZ] at c0 c1 c2 c3
        have F : Below w17.heap.size w17 Zw := (h1719.trans (hb19.mono h1719.size)).trans (hbZ.mono (h1719.trans (hb19.mono h1719.size)).size)
        have HZ := hide hZ
        clear hZ hcZ
        go_wp2_with fail
        go_roundw
        case rel => exact ⟨2 + 1, by omega, by go_num, by rw [← HZ.out]; exact F⟩
        case measure => simp [intOf]
      · go_wp2_with fail
        refine C.mono ?_
        rintro e w18 ⟨c18, d18, rfl, hown18, hb18⟩
        obtain ⟨g18, e18, hv18⟩ := own_shape hown18 (by decide)
        simp only [Value.slice.injEq, true_and] at hv18
        obtain ⟨rfl, rfl⟩ := hv18
        have hs18 := hb18.size
        have h1718 : Below w17.heap.size w17 w18 := hbr.trans (hb18.mono hsr)
        have hB18 := own_bs hown18 (enc_byte one_bd.byte)
        have hle18 := hB18.le
        have hre18 := hB18.reach
        have h1719 := h1718
        go_wp2_with fail
        refine (decode_no (hB18.head 5 (by decide)) (none_cut (by rw [one_len]; decide))).mono ?_
        rintro e w19 ⟨za, zc, rfl, hb19⟩
        obtain ⟨Zw, hZ, hbZ, hsZ, hcZ⟩ := box_new w19 0 0 0 (.slice za 0 zc)
        obtain ⟨c0, c1, c2, c3⟩ := hcZ Zw (Below.refl _ _)
        rw [hZ] at c0 c1 c2 c3
        have F : Below w17.heap.size w17 Zw := (h1719.trans (hb19.mono h1719.size)).trans (hbZ.mono (h1719.trans (hb19.mono h1719.size)).size)
        have HZ := hide hZ
        clear hZ hcZ
        go_wp2_with fail
        go_roundw
        case rel => exact ⟨3 + 1, by omega, by go_num, by rw [← HZ.out]; exact F⟩
        case measure => simp [intOf]
    · obtain rfl : k = 4 := by omega
      obtain ⟨hw, cx, cy⟩ := H17.out wr hbr
      go_wp2_with fail
      refine (awake_any _).mono ?_
      rintro e w20 ⟨rfl, hb20⟩
      go_wp2_with fail
      go_ret
      exact ⟨rfl, hw.trans (hb20.mono hw.size)⟩

end recordNumbers
end Go.Proofs.Ytelfckhiafnniaa

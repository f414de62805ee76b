/-
  RecordTells, walked: all calls answer as the document defines; what is handed in stays.
-/
import Derived.Test.YtelfckhiafnniaaRrd
import Derived.Test.YtelfckhiafnniaaLnd
import Derived.Deep.RegionHeld3
namespace Go.Proofs.Ytelfckhiafnniaa
open Go.RowKit

namespace recordTells

set_option maxRecDepth 100000 in
set_option maxHeartbeats 8000000 in
theorem walk (base p e f : Int) (hp : I64 p) (he : I64 e) (hf : I64 f) (a : Option Addr) (n cap : Nat) (bss : List (List Int)) (b : Option Addr) (m bcap : Nat) (ys : List Int) (w : World) (hR : Rl w a n cap bss) (hln : ∀ r ∈ bss, r.length ≤ 140737488351232) (hY : Bs w b m bcap ys) :
    Calls Try.prog 4 #[.int .i64 base, bv p e f (.slice a n cap), .slice b m bcap] w fun e w' => e = .returned (.bool true) ∧ Below w.heap.size w w' := by
  have hle := hR.le
  have hre := hR.reach
  have hyl := hY.len
  have hyle := hY.le
  have hyre := hY.reach
  obtain ⟨W1, hW1, hb1, hs1, hc1⟩ := box_new w p e f (.slice a n cap)
  have HC1 := hide hc1
  obtain ⟨q0, q1, q2, q3⟩ := hc1 W1 (Below.refl _ _)
  have HW1 := hide hW1
  rw [hW1] at q0 q1 q2 q3
  clear hc1 hW1
  by_cases hbig : 300 < n
  · go_enter Try.func4, Try.ntmps4
    go_wp2_with fail
    rw [← HW1.out]
    refine (awake_any _).mono ?_
    rintro e' w2 ⟨rfl, hb2⟩
    go_wp2_with fail
    go_ret
    exact ⟨rfl, hb1.trans (hb2.mono (by omega))⟩
  by_cases hbig' : 70000 < m
  · go_enter Try.func4, Try.ntmps4
    go_wp2_with fail
    rw [← HW1.out]
    refine (awake_any _).mono ?_
    rintro e' w2 ⟨rfl, hb2⟩
    go_wp2_with fail
    go_ret
    exact ⟨rfl, hb1.trans (hb2.mono (by omega))⟩
  have hd : Bd ⟨p, e, f, bss⟩ := hR.bd hp he hf
  have hR1 := hR.keep hb1
  have hY1 := hY.keep hb1
  go_enter Try.func4, Try.ntmps4
  go_wp2_with fail
  rw [← HW1.out]
  refine (kcopyb_any p e f a n cap bss W1 hR1 (by omega) (fun r hr => Nat.le_trans (hln r hr) (by omega))).mono ?_
  rintro e' w2 ⟨v2, rs2, rfl, hL2, hr2, hb2⟩
  obtain ⟨xa, xc, hv2⟩ := own_val hL2.own
  generalize rs2.length = xn at hv2
  subst hv2
  obtain ⟨W2, hW2, hbW2, hsW2, hc2⟩ := box_new w2 p e f (.slice xa xn xc)
  have HC2 := hide hc2
  have HW2 := hide hW2
  have RX := (hL2.keep hbW2).rl
  rw [hr2] at RX
  have hb12 : Below W1.heap.size W1 W2 := hb2.trans (hbW2.mono hb2.size)
  clear hW2 hc2 hL2 hr2 hb2 hbW2
  go_wp2_with fail
  rw [← HW2.out]
  refine (lent_any b m bcap ys W2 (hY1.keep hb12) (by omega)).mono ?_
  rintro e' w3 ⟨g3, d3, rfl, hB3, hb3⟩
  have hd3 := hB3.le
  have hB3h : Bs w3 (some ⟨g3, 0, none⟩) m d3 ys := by
    have := hB3.head m (by omega)
    rwa [List.take_left' hyl] at this
  obtain ⟨c0, c1, c2, c3⟩ := HC2.out w3 hb3
  have CE := encode_any base p e f xa xn xc bss w3 (RX.keep hb3) hd
  go_wp2_with fail
  refine CE.mono ?_
  rintro e' w4 ⟨v4, rfl, ho4, hbx⟩
  have hb24 : Below W2.heap.size W2 w4 := hb3.trans (hbx.mono hb3.size)
  have hb34 := hbx
  have hb14 : Below W1.heap.size W1 w4 := hb12.trans (hb24.mono hb12.size)
  obtain ⟨c0, c1, c2, c3⟩ := HC1.out w4 hb14
  have CF := rencode_any base p e f a n cap bss w4 (hR1.keep hb14) hd
  clear CE hbx
  generalize hEE : encD base ⟨p, e, f, bss⟩ = EE at CF ho4
  obtain ⟨EL, ER⟩ := EE
  simp only at CF ho4
  have hEb : ∀ z ∈ EL, 0 ≤ z ∧ z ≤ 255 := by
    rcases encD_cases base ⟨p, e, f, bss⟩ with ⟨_, _, h⟩ | h | h
    · rw [hEE, Prod.mk.injEq] at h
      rw [h.1]
      exact enc_byte hd.byte
    · rw [hEE, Prod.mk.injEq] at h
      rw [h.1]
      simp
    · rw [hEE, Prod.mk.injEq] at h
      rw [h.1]
      simp
  clear hEE
  generalize hELn : EL.length = EN at CF ho4
  obtain ⟨pa, pc, hv4⟩ := own_val ho4
  subst hv4
  have hP4 := own_bs ho4 hEb
  clear ho4
  go_wp2_with fail
  refine CF.mono ?_
  rintro e' w5 ⟨v5, rfl, ho5, hbx⟩
  obtain ⟨qa, qc, hv5⟩ := own_val ho5
  subst hv5
  have hQ5 := own_bs ho5 hEb
  have hP5 := hP4.keep hbx
  have hb35 : Below w3.heap.size w3 w5 := hb34.trans (hbx.mono hb34.size)
  clear CF ho5 hP4 hbx hb34 hb24 hb14
  go_wp2_with fail
  refine (decode_any _ m d3 ys w5 (hB3h.keep hb35)).mono ?_
  rintro e' w6 ⟨hb6, base6, b6, er6, v6, rs6, rfl, hD6, hL6, hr6⟩
  obtain ⟨ya, yc, hv6⟩ := own_val hL6.own
  generalize rs6.length = yn at hv6
  subst hv6
  obtain ⟨W6, hW6, hbW6, hsW6, hc6⟩ := box_new w6 b6.pid b6.ep b6.first (.slice ya yn yc)
  have HC6 := hide hc6
  have HW6 := hide hW6
  have RY := (hL6.keep hbW6).rl
  rw [hr6] at RY
  have hb56 : Below w5.heap.size w5 W6 := hb6.trans (hbW6.mono hb6.size)
  have hb36 : Below w3.heap.size w3 W6 := hb35.trans (hb56.mono hb35.size)
  have hb26 : Below W2.heap.size W2 W6 := hb3.trans (hb36.mono hb3.size)
  have hb16 : Below W1.heap.size W1 W6 := hb12.trans (hb26.mono hb12.size)
  clear hW6 hc6 hL6 hr6 hb6 hbW6
  go_wp2_with fail
  rw [← HW6.out]
  refine (rdecode_any b m bcap ys W6 (hY1.keep hb16)).mono ?_
  rintro e' w7 ⟨hb7, base7, b7, er7, v7, rs7, rfl, hD7, hL7, hr7⟩
  obtain ⟨rfl, rfl, rfl⟩ := hD7.eq hD6
  obtain ⟨za, zc, hv7⟩ := own_val hL7.own
  generalize rs7.length = zn at hv7
  subst hv7
  obtain ⟨W7, hW7, hbW7, hsW7, hc7⟩ := box_new w7 b7.pid b7.ep b7.first (.slice za zn zc)
  have HC7 := hide hc7
  have HW7 := hide hW7
  have RZ := (hL7.keep hbW7).rl
  rw [hr7] at RZ
  have hb67 : Below W6.heap.size W6 W7 := hb7.trans (hbW7.mono hb7.size)
  clear hW7 hc7 hL7 hr7 hb7 hbW7 hD6 hD7
  have hb57 : Below w5.heap.size w5 W7 := hb56.trans (hb67.mono hb56.size)
  have hb37 : Below w3.heap.size w3 W7 := hb36.trans (hb67.mono hb36.size)
  have hb27 : Below W2.heap.size W2 W7 := hb26.trans (hb67.mono hb26.size)
  have hb17 : Below W1.heap.size W1 W7 := hb16.trans (hb67.mono hb16.size)
  have HK : Hid (∀ V, Below W7.heap.size W7 V → Below W7.heap.size W7 V ∧
      (V.cell? ⟨w.heap.size, 0, none⟩ = some (.int .i64 p) ∧ V.cell? ⟨w.heap.size, 1, none⟩ = some (.int .i64 e) ∧ V.cell? ⟨w.heap.size, 2, none⟩ = some (.int .i64 f) ∧ V.cell? ⟨w.heap.size, 3, none⟩ = some (.slice a n cap)) ∧
      (V.cell? ⟨w2.heap.size, 0, none⟩ = some (.int .i64 p) ∧ V.cell? ⟨w2.heap.size, 1, none⟩ = some (.int .i64 e) ∧ V.cell? ⟨w2.heap.size, 2, none⟩ = some (.int .i64 f) ∧ V.cell? ⟨w2.heap.size, 3, none⟩ = some (.slice xa xn xc)) ∧
      (V.cell? ⟨w6.heap.size, 0, none⟩ = some (.int .i64 b7.pid) ∧ V.cell? ⟨w6.heap.size, 1, none⟩ = some (.int .i64 b7.ep) ∧ V.cell? ⟨w6.heap.size, 2, none⟩ = some (.int .i64 b7.first) ∧ V.cell? ⟨w6.heap.size, 3, none⟩ = some (.slice ya yn yc)) ∧
      (V.cell? ⟨w7.heap.size, 0, none⟩ = some (.int .i64 b7.pid) ∧ V.cell? ⟨w7.heap.size, 1, none⟩ = some (.int .i64 b7.ep) ∧ V.cell? ⟨w7.heap.size, 2, none⟩ = some (.int .i64 b7.first) ∧ V.cell? ⟨w7.heap.size, 3, none⟩ = some (.slice za zn zc))) := hide (fun V hV =>
    ⟨hV, HC1.out V (hb17.trans (hV.mono hb17.size)), HC2.out V (hb27.trans (hV.mono hb27.size)), HC6.out V (hb67.trans (hV.mono hb67.size)), HC7.out V hV⟩)
  have HR1 : Hid (∀ V, Below W7.heap.size W7 V → Calls Try.prog 20 #[.agg #[.int .i64 p, .int .i64 e, .int .i64 f, .slice xa xn xc]] V fun e' V' => e' = .returned (.bool (rightB bss)) ∧ Below V.heap.size V V') := hide (fun V hV => right_any p e f xa xn xc bss V ((RX.keep hb27).keep hV))
  have HR2 : Hid (∀ V, Below W7.heap.size W7 V → Calls Try.prog 21 #[.agg #[.int .i64 p, .int .i64 e, .int .i64 f, .slice a n cap]] V fun e' V' => e' = .returned (.bool (rightB bss)) ∧ Below V.heap.size V V') := hide (fun V hV => rright_any p e f a n cap bss V ((hR1.keep hb17).keep hV))
  have HS1 : Hid (∀ V, Below W7.heap.size W7 V → Calls Try.prog 22 #[.slice pa EN pc, .slice qa EN qc] V fun e' V' => e' = .returned (.bool true) ∧ V' = V) := hide (fun V hV => same_true rfl ((hP5.keep hb57).keep hV) ((hQ5.keep hb57).keep hV))
  have HB1 : Hid (∀ V, Below W7.heap.size W7 V → Calls Try.prog 23 #[.agg #[.int .i64 b7.pid, .int .i64 b7.ep, .int .i64 b7.first, .slice ya yn yc], .agg #[.int .i64 b7.pid, .int .i64 b7.ep, .int .i64 b7.first, .slice za zn zc]] V fun e' V' => e' = .returned (.bool true) ∧ Below V.heap.size V V') := hide (fun V hV => ksameb_any b7.pid b7.ep b7.first ya za yn yc zn zc b7.recs V ((RY.keep hb67).keep hV) (RZ.keep hV))
  have HB2 : Hid (∀ V, Below W7.heap.size W7 V → Calls Try.prog 23 #[.agg #[.int .i64 p, .int .i64 e, .int .i64 f, .slice xa xn xc], .agg #[.int .i64 p, .int .i64 e, .int .i64 f, .slice a n cap]] V fun e' V' => e' = .returned (.bool true) ∧ Below V.heap.size V V') := hide (fun V hV => ksameb_any p e f xa a xn xc n cap bss V ((RX.keep hb27).keep hV) ((hR1.keep hb17).keep hV))
  have HKB : Hid (∀ V, Below W7.heap.size W7 V → Calls Try.prog 24 #[.slice (some ⟨g3, 0, none⟩) m d3, .slice b m bcap] V fun e' V' => e' = .returned (.bool true) ∧ V' = V) := hide (fun V hV => kept_any g3 m d3 b bcap ys V ((hB3.keep hb37).keep hV) ((hY1.keep hb17).keep hV))
  have HEND : Hid (∀ V, Below W7.heap.size W7 V → Below w.heap.size w V) := hide (fun V hV => hb1.trans ((hb17.trans (hV.mono hb17.size)).mono (by omega)))
  have e1 : (rightB bss == rightB bss) = true := by simp
  have e2 : (ER == ER) = true := by simp
  have e3 : (er7 == er7) = true := by simp
  have e4 : (base7 == base7) = true := by simp
  obtain ⟨T1, hT1⟩ : ∃ T, T = w.heap.size := ⟨_, rfl⟩
  obtain ⟨T2, hT2⟩ : ∃ T, T = w2.heap.size := ⟨_, rfl⟩
  obtain ⟨T6, hT6⟩ : ∃ T, T = w6.heap.size := ⟨_, rfl⟩
  obtain ⟨T7, hT7⟩ : ∃ T, T = w7.heap.size := ⟨_, rfl⟩
  rw [← hT1, ← hT2, ← hT6, ← hT7] at HK
  have HT1 := hide hT1
  have HT2 := hide hT2
  have HT6 := hide hT6
  have HT7 := hide hT7
  generalize b7.pid = yp at *
  generalize b7.ep = ye at *
  generalize b7.first = yf at *
  generalize rightB bss = RB at *
  clear hT1 hT2 hT6 hT7 hb1 hb12 hb3 hb35 hb56 hb36 hb26 hb16 hb67 hb57 hb37 hb27 hb17 HC1 HC2 HC6 HC7 RX RY RZ hR1 hY1 hB3 hB3h hP5 hQ5 hR hY hd hEb c0 c1 c2 c3 HW1 HW2 HW6 hln
  go_wp2_with fail
  rw [← HW7.out, ← HT1.out, ← HT2.out, ← HT6.out, ← HT7.out]
  clear HT1 HT2 HT6 HT7 HW7
  go_region_held3 (fun V => Below W7.heap.size W7 V ∧
      (V.cell? ⟨T1, 0, none⟩ = some (.int .i64 p) ∧ V.cell? ⟨T1, 1, none⟩ = some (.int .i64 e) ∧ V.cell? ⟨T1, 2, none⟩ = some (.int .i64 f) ∧ V.cell? ⟨T1, 3, none⟩ = some (.slice a n cap)) ∧
      (V.cell? ⟨T2, 0, none⟩ = some (.int .i64 p) ∧ V.cell? ⟨T2, 1, none⟩ = some (.int .i64 e) ∧ V.cell? ⟨T2, 2, none⟩ = some (.int .i64 f) ∧ V.cell? ⟨T2, 3, none⟩ = some (.slice xa xn xc)) ∧
      (V.cell? ⟨T6, 0, none⟩ = some (.int .i64 yp) ∧ V.cell? ⟨T6, 1, none⟩ = some (.int .i64 ye) ∧ V.cell? ⟨T6, 2, none⟩ = some (.int .i64 yf) ∧ V.cell? ⟨T6, 3, none⟩ = some (.slice ya yn yc)) ∧
      (V.cell? ⟨T7, 0, none⟩ = some (.int .i64 yp) ∧ V.cell? ⟨T7, 1, none⟩ = some (.int .i64 ye) ∧ V.cell? ⟨T7, 2, none⟩ = some (.int .i64 yf) ∧ V.cell? ⟨T7, 3, none⟩ = some (.slice za zn zc)))
    ((go_split_ands; refine HK.out _ ?_; repeat (first | assumption | exact Below.refl _ _ | refine belowD ?_ | refine belowT ?_ hx1 | refine belowT ?_ hx2 | refine belowT ?_ hx3 | refine belowT ?_ hx4 | refine belowT ?_ hx5)))
    (first
      | (go_at_call 20; refine (HR1.out _ ?_).mono ?_; (go_split_ands; assumption); rintro e' x1 ⟨rfl, hx1⟩)
      | (go_at_call 21; refine (HR2.out _ ?_).mono ?_; (go_split_ands; assumption); rintro e' x2 ⟨rfl, hx2⟩)
      | (go_at_call 22; refine (HS1.out _ ?_).mono ?_; (go_split_ands; assumption); rintro e' x' ⟨rfl, rfl⟩)
      | (go_at_call_of 23 (Value.slice za zn zc); refine (HB1.out _ ?_).mono ?_; (go_split_ands; assumption); rintro e' x3 ⟨rfl, hx3⟩)
      | (go_at_call 23; refine (HB2.out _ ?_).mono ?_; (go_split_ands; assumption); rintro e' x4 ⟨rfl, hx4⟩)
      | (go_at_call 24; refine (HKB.out _ ?_).mono ?_; (go_split_ands; assumption); rintro e' x' ⟨rfl, rfl⟩)
      | (go_at_call 15; refine (awake_any _).mono ?_; rintro e' x5 ⟨rfl, hx5⟩))
  all_goals
    go_split_ands
    go_wp2_with fail
    go_ret
    refine ⟨rfl, HEND.out _ ?_⟩
    assumption

end recordTells
end Go.Proofs.Ytelfckhiafnniaa

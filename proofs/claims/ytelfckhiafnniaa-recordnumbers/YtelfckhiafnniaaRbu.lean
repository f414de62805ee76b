/-
  RecordBursts, walked: a change within the sum, or within four bytes behind it, is always refused.
-/
import Derived.Test.YtelfckhiafnniaaRbk
import Derived.Test.YtelfckhiafnniaaBrt
namespace Go.Proofs.Ytelfckhiafnniaa
open Go.RowKit

/-- The list while it is changed, k bytes from a place on: what lies ahead and behind stays. -/
theorem chg_none {base : Int} {b : Bt} {ys : List Int} {p k : Nat} (hbyte : ∀ r ∈ b.recs, ∀ z ∈ r, 0 ≤ z ∧ z ≤ 255) (h : Chg (enc base b) ys p k) (hk : k ≤ 4) (hp : p = 8 ∨ 12 ≤ p) (hne : ys ≠ enc base b) : None' ys := by
  intro base' c _ _ hd _ e
  apply hne
  rcases hp with rfl | hp
  · -- within the sum: what is behind it is the same, so the sum is
    have h12 : ys.drop 12 = (enc base b).drop 12 := by
      have := congrArg (List.drop (4 - k)) h.behind
      rw [List.drop_drop, List.drop_drop] at this
      rw [show 12 = 8 + k + (4 - k) by omega]
      exact this
    have h8 := h.ahead
    have hbody : body c = body b := by
      rw [e, enc_drop, enc_drop] at h12
      exact h12
    have e8 : be 8 (ub base') = be 8 (ub base) := by
      rw [e, enc_base, enc_base] at h8
      exact h8
    rw [e]
    unfold enc
    rw [e8, hbody]
  · -- behind the sum: base and sum are the same, the sums of the two bodies are one
    have h12 : ys.take 12 = (enc base b).take 12 := by
      have := congrArg (List.take 12) h.ahead
      rw [List.take_take, List.take_take, Nat.min_eq_left hp] at this
      exact this
    have hs : be 4 (more 0 (body c)) = be 4 (more 0 (body b)) := by
      have := congrArg (List.drop 8) h12
      rw [List.drop_take, List.drop_take, e, enc_sum, enc_sum] at this
      exact this
    have hm : more 0 (body c) = more 0 (body b) := be_inj (by have := more_lt 0 (body c); omega) (by have := more_lt 0 (body b); omega) hs
    have hl : (body c).length = (body b).length := by
      have := h.len
      rw [e, enc_length, enc_length] at this
      omega
    have a1 : (body c).take (p - 12) = (body b).take (p - 12) := by
      have := congrArg (List.drop 12) h.ahead
      rw [List.drop_take, List.drop_take, e, enc_drop, enc_drop] at this
      exact this
    have dd : ∀ l : List Int, l.drop (p + k) = (l.drop 12).drop (p - 12 + k) := fun l => by rw [List.drop_drop]; congr 1; omega
    have a2 : (body c).drop (p - 12 + k) = (body b).drop (p - 12 + k) := by
      have := h.behind
      rw [e, dd, dd, enc_drop, enc_drop] at this
      exact this
    have hb2 := burst_eq (body b) (body c) (p - 12) k (body_byte hbyte) (body_byte hd.byte) hl a1 a2 hk hm.symm
    have e8 : be 8 (ub base') = be 8 (ub base) := by
      have := congrArg (List.take 8) h12
      rw [List.take_take, List.take_take, e, show min 8 12 = 8 from rfl, enc_base, enc_base] at this
      exact this
    rw [e]
    unfold enc
    rw [e8, hb2]

namespace recordBursts

set_option maxRecDepth 100000 in
set_option maxHeartbeats 8000000 in
theorem walk (base p e f x : Int) (c : Nat) (hbase : I64 base) (hp : I64 p) (he : I64 e) (hf : I64 f) (a : Option Addr) (n cap : Nat) (bss : List (List Int)) (w : World) (hR : Rl w a n cap bss) :
    Calls Try.prog 6 #[.int .i64 base, bv p e f (.slice a n cap), .int .i64 x, .int .u32 c] w fun e w' => e = .returned (.bool true) ∧ Below w.heap.size w w' := by
  obtain ⟨W1, hW1, hb1, hs1, hc1⟩ := box_new w p e f (.slice a n cap)
  obtain ⟨q0, q1, q2, q3⟩ := hc1 W1 (Below.refl _ _)
  have HW1 := hide hW1
  rw [hW1] at q0 q1 q2 q3
  clear hc1 hW1
  have hd : Bd ⟨p, e, f, bss⟩ := hR.bd hp he hf
  have CE := encode_any base p e f a n cap bss W1 (hR.keep hb1) hd
  rcases encD_cases base ⟨p, e, f, bss⟩ with ⟨hright, hlen, hE⟩ | hE | hE
  · rw [hE] at CE
    have hlE := enc_length base ⟨p, e, f, bss⟩
    have hbl := (body_length hright hd).1
    obtain ⟨N, hN⟩ : ∃ N, N = (enc base ⟨p, e, f, bss⟩).length := ⟨_, rfl⟩
    have hN1 : 16 ≤ N := by omega
    have hN2 : N ≤ 60000 := by omega
    have HN := hide hN
    clear hN hlE hbl
    by_cases hc0 : c = 0
    · subst hc0
      go_enter Try.func6, Try.ntmps6
      go_wp2_with fail
      rw [← HW1.out]
      refine CE.mono ?_
      rintro e' w2 ⟨v2, rfl, _, hb2⟩
      go_wp2_with fail
      refine (awake_any _).mono ?_
      rintro e' w3 ⟨rfl, hb3⟩
      go_wp2_with fail
      go_ret
      exact ⟨rfl, hb1.trans ((hb2.trans (hb3.mono hb2.size)).mono (by omega))⟩
    have hcz : ((c : Int) == 0) = false := by simp; omega
    by_cases hodd : bits .and .i64 x 1 = 0
    · have hod : (bits .and .i64 x 1 == 0) = true := by simp [hodd]
      go_enter Try.func6, Try.ntmps6
      go_wp2_with fail
      rw [← HW1.out]
      refine CE.mono ?_
      rintro e' w2 ⟨v2, rfl, hown2, hb2⟩
      replace hown2 : w2.ownsRow W1.heap.size 5 1 v2 (enc base ⟨p, e, f, bss⟩).length (U (enc base ⟨p, e, f, bss⟩)) := hown2
      rw [← HN.out] at hown2
      obtain ⟨g2, d2, hv2⟩ := own_shape hown2 (by omega)
      subst hv2
      have hB2 := own_bs hown2 (enc_byte hd.byte)
      have hs2 := hb2.size
      have hb12 : Below w.heap.size w w2 := hb1.trans (hb2.mono (by omega))
      have hd2 := hB2.le
      have hd2' := hB2.reach
      clear hown2 hb2 CE
      go_wp2_with fail
      refine (copy_any _ _ _ _ w2 hB2 (by omega)).mono ?_
      rintro e' w3 ⟨c3, d3, rfl, hown3, hb3⟩
      obtain ⟨g, d, hsh⟩ := own_shape hown3 (by omega)
      simp only [Value.slice.injEq, true_and] at hsh
      obtain ⟨rfl, rfl⟩ := hsh
      obtain ⟨hg0, hdd, hmm, rest, hrl, hg⟩ := own_heap hown3
      have HG := hide hg
      clear hown3 hg
      go_wp2_with fail
      go_loopw [12] (fun i wr => ∃ (k : Nat) (ys : List Int), k ≤ 4 ∧ 8 + k ≤ N ∧ i = .int .i64 k ∧ Hid (Chg (enc base ⟨p, e, f, bss⟩) ys 8 k) ∧ Hid ((U ys ++ rest).length = d3) ∧ Hid (wr.heap[g]? = some (.cells (U ys ++ rest).toArray 5 (0, 0))) ∧ Below w2.heap.size w2 wr)
        (fun i _ => 4 - (intOf i).toNat)
      case atStart => exact ⟨0, _, Nat.zero_le _, by omega, rfl, hide ⟨rfl, enc_byte hd.byte, rfl, rfl⟩, hide hrl, HG, hb3⟩
      case round =>
        obtain ⟨k, ys, hk, hpk, rfl, hch, hL, hG, hb⟩ := hrel
        have hyl : ys.length = N := by rw [hch.out.len, ← HN.out]
        have HYL := hide hyl
        by_cases hlt : k < 4 ∧ 8 + k < N
        · obtain ⟨hlt1, hlt2⟩ := hlt
          have hcell := U_cell (i := 8 + k) hG.out (by omega)
          have hfz : wr.frozen? ⟨g, 8 + k, none⟩ = false := heap_free hG.out
          have hy := getD_byte hch.out.byte (8 + k)
          rw [List.getD] at hcell
          generalize ys[8 + k]?.getD 0 = y at hcell hy
          clear hyl
          go_wp2_with fail
          go_roundw
          case rel =>
            refine ⟨k + 1, ys.set (8 + k) (bits .xor .u8 y ((c : Int) / 2 ^ (8 * k) % 256)), by omega, by omega, by go_num, hide (hch.out.step _ (xor_u8_range _ _ hy.1 hy.2 (Int.emod_nonneg _ (by decide)) (by omega))), hide ?_, hide ?_, hb.setCell (Nat.le_trans (by omega) hg0) _⟩
            · rw [← hL.out, List.length_append, List.length_append, U_length, U_length, List.length_set]
            · rw [heap_set hG.out, U_set _ _ _ _ (by rw [HYL.out]; exact hlt2)]
          case measure => simp [intOf]; omega
        · obtain ⟨wl, hwl⟩ : ∃ wl : World, wl = wr := ⟨_, rfl⟩
          subst hwl
          have HY := bs_of hG.out hL.out hyl (by unfold maxLen at hmm ⊢; omega) hch.out.byte
          have HB := hB2.keep hb
          have hbs := hb.size
          have HB1 : Hid (∀ V, Below wl.heap.size wl V → Below w.heap.size w V) := hide (fun V hV => hb12.trans ((hb.trans (hV.mono hbs)).mono (by omega)))
          by_cases hys : ys = enc base ⟨p, e, f, bss⟩
          · rw [hys] at HY
            have CD := decode_yes HY hbase hright hd hlen
            clear hG hL hch HG hyl HYL
            have h4 : k = 4 := by omega
            all_goals
              go_wp2_with fail
              refine CD.mono ?_
              rintro e' w4 ⟨va, vn, vc, rs4, rfl, _, _, hb4⟩
              obtain ⟨W4, hW4, hbW4, hsW4, _⟩ := box_new w4 p e f (.slice va vn vc)
              have HW4 := hide hW4
              have hb44 : Below wl.heap.size wl W4 := hb4.trans (hbW4.mono hb4.size)
              clear hW4
              go_wp2_with fail
              rw [← HW4.out]
              refine (same_true rfl (HY.keep hb44) (HB.keep hb44)).mono ?_
              rintro e' w5 ⟨rfl, hw5⟩
              subst hw5
              go_wp2_with fail
              refine (awake_any _).mono ?_
              rintro e' w6 ⟨rfl, hb6⟩
              go_wp2_with fail
              go_ret
              exact ⟨rfl, HB1.out _ (hb44.trans (hb6.mono hb44.size))⟩
          · have CD := decode_no HY (chg_none hd.byte hch.out hk (by omega) hys)
            have CS : ∀ V, Below wl.heap.size wl V → Calls Try.prog 22 #[.slice (some ⟨g, 0, none⟩) N d3, .slice (some ⟨g2, 0, none⟩) N d2] V fun e w' => e = .returned (.bool false) ∧ w' = V := by
              intro V hV
              have := same_any _ _ _ _ _ _ _ _ V (HY.keep hV) (HB.keep hV)
              rwa [decide_eq_false hys] at this
            have HCS := hide CS
            clear hG hL hch HG hyl HYL CS hys
            have h4 : k = 4 := by omega
            all_goals
              go_wp2_with fail
              refine CD.mono ?_
              rintro e' w4 ⟨va, vc, rfl, hb4⟩
              obtain ⟨W4, hW4, hbW4, hsW4, _⟩ := box_new w4 0 0 0 (.slice va 0 vc)
              have HW4 := hide hW4
              have hb44 : Below wl.heap.size wl W4 := hb4.trans (hbW4.mono hb4.size)
              clear hW4
              go_wp2_with fail
              rw [← HW4.out]
              refine (HCS.out W4 hb44).mono ?_
              rintro e' w5 ⟨rfl, hw5⟩
              subst hw5
              go_wp2_with fail
              refine (awake_any _).mono ?_
              rintro e' w6 ⟨rfl, hb6⟩
              go_wp2_with fail
              go_ret
              exact ⟨rfl, HB1.out _ (hb44.trans (hb6.mono hb44.size))⟩
    · have hod : (bits .and .i64 x 1 == 0) = false := by simp [hodd]
      go_enter Try.func6, Try.ntmps6
      go_wp2_with fail
      rw [← HW1.out]
      refine CE.mono ?_
      rintro e' w2 ⟨v2, rfl, hown2, hb2⟩
      replace hown2 : w2.ownsRow W1.heap.size 5 1 v2 (enc base ⟨p, e, f, bss⟩).length (U (enc base ⟨p, e, f, bss⟩)) := hown2
      rw [← HN.out] at hown2
      obtain ⟨g2, d2, hv2⟩ := own_shape hown2 (by omega)
      subst hv2
      have hB2 := own_bs hown2 (enc_byte hd.byte)
      have hs2 := hb2.size
      have hb12 : Below w.heap.size w w2 := hb1.trans (hb2.mono (by omega))
      have hd2 := hB2.le
      have hd2' := hB2.reach
      clear hown2 hb2 CE
      have hsub : (N : Int) - 12 = ((N - 12 : Nat) : Int) := by omega
      go_wp2_with fail
      refine (pick_any x (N - 12) w2 (by omega) (by omega)).mono ?_
      rintro e' w2' ⟨q, hq, rfl, hw2'⟩
      subst hw2'
      obtain ⟨P, hP⟩ : ∃ P, P = 12 + q := ⟨_, rfl⟩
      have hP1 : 12 ≤ P := by omega
      have hP2 : P < N := by omega
      have hcast : (12 : Int) + (q : Int) = (P : Int) := by omega
      clear hsub
      have HP := hide hP
      clear hP
      go_wp2_with fail
      refine (copy_any _ _ _ _ w2' hB2 (by omega)).mono ?_
      rintro e' w3 ⟨c3, d3, rfl, hown3, hb3⟩
      obtain ⟨g, d, hsh⟩ := own_shape hown3 (by omega)
      simp only [Value.slice.injEq, true_and] at hsh
      obtain ⟨rfl, rfl⟩ := hsh
      obtain ⟨hg0, hdd, hmm, rest, hrl, hg⟩ := own_heap hown3
      have HG := hide hg
      clear hown3 hg
      go_wp2_with fail
      go_loopw [12] (fun i wr => ∃ (k : Nat) (ys : List Int), k ≤ 4 ∧ P + k ≤ N ∧ i = .int .i64 k ∧ Hid (Chg (enc base ⟨p, e, f, bss⟩) ys P k) ∧ Hid ((U ys ++ rest).length = d3) ∧ Hid (wr.heap[g]? = some (.cells (U ys ++ rest).toArray 5 (0, 0))) ∧ Below w2'.heap.size w2' wr)
        (fun i _ => 4 - (intOf i).toNat)
      case atStart => exact ⟨0, _, Nat.zero_le _, by omega, rfl, hide ⟨rfl, enc_byte hd.byte, rfl, rfl⟩, hide hrl, HG, hb3⟩
      case round =>
        obtain ⟨k, ys, hk, hpk, rfl, hch, hL, hG, hb⟩ := hrel
        have hyl : ys.length = N := by rw [hch.out.len, ← HN.out]
        have HYL := hide hyl
        by_cases hlt : k < 4 ∧ P + k < N
        · obtain ⟨hlt1, hlt2⟩ := hlt
          have hcell := U_cell (i := P + k) hG.out (by omega)
          have hfz : wr.frozen? ⟨g, P + k, none⟩ = false := heap_free hG.out
          have hy := getD_byte hch.out.byte (P + k)
          rw [List.getD] at hcell
          generalize ys[P + k]?.getD 0 = y at hcell hy
          clear hyl
          go_wp2_with fail
          go_roundw
          case rel =>
            refine ⟨k + 1, ys.set (P + k) (bits .xor .u8 y ((c : Int) / 2 ^ (8 * k) % 256)), by omega, by omega, by go_num, hide (hch.out.step _ (xor_u8_range _ _ hy.1 hy.2 (Int.emod_nonneg _ (by decide)) (by omega))), hide ?_, hide ?_, hb.setCell (Nat.le_trans (by omega) hg0) _⟩
            · rw [← hL.out, List.length_append, List.length_append, U_length, U_length, List.length_set]
            · rw [heap_set hG.out, U_set _ _ _ _ (by rw [HYL.out]; exact hlt2)]
          case measure => simp [intOf]; omega
        · obtain ⟨wl, hwl⟩ : ∃ wl : World, wl = wr := ⟨_, rfl⟩
          subst hwl
          have HY := bs_of hG.out hL.out hyl (by unfold maxLen at hmm ⊢; omega) hch.out.byte
          have HB := hB2.keep hb
          have hbs := hb.size
          have HB1 : Hid (∀ V, Below wl.heap.size wl V → Below w.heap.size w V) := hide (fun V hV => hb12.trans ((hb.trans (hV.mono hbs)).mono (by omega)))
          by_cases hys : ys = enc base ⟨p, e, f, bss⟩
          · rw [hys] at HY
            have CD := decode_yes HY hbase hright hd hlen
            clear hG hL hch HG hyl HYL
            rcases (show k < 4 ∧ P + k = N ∨ k = 4 from by omega) with ⟨h4, h5⟩ | h4
            all_goals
              go_wp2_with fail
              refine CD.mono ?_
              rintro e' w4 ⟨va, vn, vc, rs4, rfl, _, _, hb4⟩
              obtain ⟨W4, hW4, hbW4, hsW4, _⟩ := box_new w4 p e f (.slice va vn vc)
              have HW4 := hide hW4
              have hb44 : Below wl.heap.size wl W4 := hb4.trans (hbW4.mono hb4.size)
              clear hW4
              go_wp2_with fail
              rw [← HW4.out]
              refine (same_true rfl (HY.keep hb44) (HB.keep hb44)).mono ?_
              rintro e' w5 ⟨rfl, hw5⟩
              subst hw5
              go_wp2_with fail
              refine (awake_any _).mono ?_
              rintro e' w6 ⟨rfl, hb6⟩
              go_wp2_with fail
              go_ret
              exact ⟨rfl, HB1.out _ (hb44.trans (hb6.mono hb44.size))⟩
          · have CD := decode_no HY (chg_none hd.byte hch.out hk (by omega) hys)
            have CS : ∀ V, Below wl.heap.size wl V → Calls Try.prog 22 #[.slice (some ⟨g, 0, none⟩) N d3, .slice (some ⟨g2, 0, none⟩) N d2] V fun e w' => e = .returned (.bool false) ∧ w' = V := by
              intro V hV
              have := same_any _ _ _ _ _ _ _ _ V (HY.keep hV) (HB.keep hV)
              rwa [decide_eq_false hys] at this
            have HCS := hide CS
            clear hG hL hch HG hyl HYL CS hys
            rcases (show k < 4 ∧ P + k = N ∨ k = 4 from by omega) with ⟨h4, h5⟩ | h4
            all_goals
              go_wp2_with fail
              refine CD.mono ?_
              rintro e' w4 ⟨va, vc, rfl, hb4⟩
              obtain ⟨W4, hW4, hbW4, hsW4, _⟩ := box_new w4 0 0 0 (.slice va 0 vc)
              have HW4 := hide hW4
              have hb44 : Below wl.heap.size wl W4 := hb4.trans (hbW4.mono hb4.size)
              clear hW4
              go_wp2_with fail
              rw [← HW4.out]
              refine (HCS.out W4 hb44).mono ?_
              rintro e' w5 ⟨rfl, hw5⟩
              subst hw5
              go_wp2_with fail
              refine (awake_any _).mono ?_
              rintro e' w6 ⟨rfl, hb6⟩
              go_wp2_with fail
              go_ret
              exact ⟨rfl, HB1.out _ (hb44.trans (hb6.mono hb44.size))⟩
  · rw [hE] at CE
    go_enter Try.func6, Try.ntmps6
    go_wp2_with fail
    rw [← HW1.out]
    refine CE.mono ?_
    rintro e' w2 ⟨v2, rfl, _, hb2⟩
    go_wp2_with fail
    refine (awake_any _).mono ?_
    rintro e' w3 ⟨rfl, hb3⟩
    go_wp2_with fail
    go_ret
    exact ⟨rfl, hb1.trans ((hb2.trans (hb3.mono hb2.size)).mono (by omega))⟩
  · rw [hE] at CE
    go_enter Try.func6, Try.ntmps6
    go_wp2_with fail
    rw [← HW1.out]
    refine CE.mono ?_
    rintro e' w2 ⟨v2, rfl, _, hb2⟩
    go_wp2_with fail
    refine (awake_any _).mono ?_
    rintro e' w3 ⟨rfl, hb3⟩
    go_wp2_with fail
    go_ret
    exact ⟨rfl, hb1.trans ((hb2.trans (hb3.mono hb2.size)).mono (by omega))⟩

end recordBursts

end Go.Proofs.Ytelfckhiafnniaa

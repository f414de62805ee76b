/-
  What the document's own Right and Encode of this layer do.
-/
import Derived.Test.YtelfckhiafnniaaRee
import Derived.Test.YtelfckhiafnniaaVri
import Derived.Test.YtelfckhiafnniaaOrb
import Derived.Test.YtelfckhiafnniaaTlr
import Derived.Test.YtelfckhiafnniaaRbk
namespace Go.Proofs.Ytelfckhiafnniaa
open Go.RowKit

set_option maxHeartbeats 400000 in
theorem refPut_own (a : Option Addr) (len cap : Nat) (zs : List Int) (v : Nat) (hv : v < 18446744073709551616) (w : World) (hB : Bs w a len cap zs) (hlen : len ≤ 140737488355318) :
    Calls Try.prog 38 #[.slice a len cap, .int .u64 (v : Int)] w fun e W' => ∃ g d, e = .returned (.slice (some ⟨g, 0, none⟩) (len + (vb v).length) d) ∧
      W'.ownsRow w.heap.size 5 1 (.slice (some ⟨g, 0, none⟩) (len + (vb v).length) d) (len + (vb v).length) (U (zs ++ vb v)) ∧ Below w.heap.size w W' := by
  obtain ⟨i0, hi, hz0, hz1, hz2⟩ := info_parts info5
  have h10 := vb_len10 hv
  have hp := vb_pos v
  have RB := hide (fun w => refBytes_any v hv w)
  obtain ⟨k, hk⟩ : ∃ k, k = (vb v).length := ⟨_, rfl⟩
  rw [← hk] at h10 hp RB ⊢
  clear hk
  go_enter Try.func38, Try.ntmps38
  go_wp2_with fail
  refine (copy_any _ _ _ zs _ hB (by omega)).mono ?_
  rintro e w1 ⟨c1, d1, rfl, ho1, hb1⟩
  have HO := hide ho1
  clear ho1
  go_wp2_with fail
  refine (RB.out _).mono ?_
  rintro e w2 ⟨g2, d2, rfl, ho2, hb2⟩
  have c2 : Below w.heap.size w w2 := hb1.trans (hb2.mono hb1.size)
  have B2 := own_bs ho2 (vb_byte v)
  clear ho2
  have HO2 : Hid (w2.ownsRow w.heap.size 5 1 (.slice c1 len d1) len (U zs)) := hide (own_keep HO.out hb2)
  go_wp2_with (at_builtin; refine wpList_append_bs rfl (.tmp 6) (.tmp 8) 22 rfl w.heap.size 5 i0 Try.underlying22 hi hz0 hz1 hz2 _ len _ rfl HO2.out _ k d2 (vb v) rfl B2 (by omega) (by omega) c2.size ?_; intro g3 d3 w3 ho3 hgr3)
  go_ret
  rw [← U_append] at ho3
  exact ⟨g3, d3, rfl, ho3, c2.grown hgr3 c2.size (fun _ hk => own_ge HO2.out hk)⟩

set_option maxHeartbeats 1000000 in
theorem rright_any (pid ep first : Int) (a : Option Addr) (n cap : Nat) (bss : List (List Int)) (w : World) (hR : Rl w a n cap bss) :
    Calls Try.prog 21 #[bv pid ep first (.slice a n cap)] w fun e w' => e = .returned (.bool (rightB bss)) ∧ Below w.heap.size w w' := by
  have hl := hR.len
  have hle := hR.le
  have hre := hR.reach
  obtain ⟨W, hW, hb, hsW, hc⟩ := box_new w pid ep first (.slice a n cap)
  obtain ⟨q0, q1, q2, q3⟩ := hc W (Below.refl _ _)
  have hRW := hR.keep hb
  have HW := hide hW
  clear hW hc
  go_enter Try.func21, Try.ntmps21
  go_wp2_with fail
  rw [← HW.out]
  go_loopw [3] (fun i wr => ∃ k : Nat, k ≤ n ∧ i = .int .i64 k ∧ wr = W ∧ Hid ((bss.take k).all (fun r => decide (r.length ≤ 1024)) = true)) (fun i _ => n - (intOf i).toNat)
  case atStart => exact ⟨0, Nat.zero_le _, rfl, rfl, hide (by simp)⟩
  case round =>
    obtain ⟨k, hk, rfl, hwr, hall⟩ := hrel
    subst hwr
    by_cases hlt : k < n
    · obtain ⟨b1, o1, rfl, hc1⟩ := hRW.lies (by omega)
      obtain ⟨p1, m1, d1, hk1, hB1⟩ := hc1 k hlt
      have key := hide (all_take_succ (bss := bss) (k := k) (by omega))
      have hlm := hB1.len
      have hle1 := hB1.le
      have hre1 := hB1.reach
      by_cases hm : 1024 < m1
      · go_wp2_with fail
        go_ret
        refine ⟨?_, hb⟩
        have : bss.all (fun r => decide (r.length ≤ 1024)) = false := by
          cases hh : bss.all (fun r => decide (r.length ≤ 1024)) with
          | false => rfl
          | true =>
            have h2 := List.all_eq_true.1 hh (bss.getD k []) (by simp [List.getD, List.getElem?_eq_getElem (show k < bss.length by omega)])
            simp only [decide_eq_true_eq] at h2
            omega
        unfold rightB
        rw [this, Bool.and_false]
        rfl
      · go_wp2_with fail
        go_roundw
        case rel => exact ⟨k + 1, by omega, by go_num, by first | rfl | trivial, hide (by rw [key.out, hall.out, decide_eq_true (by omega)]; rfl)⟩
        case measure => simp [intOf]; omega
    · obtain rfl : k = n := by omega
      have e1 : rightB bss = decide ((k : Int) ≤ 256) := by
        have := hall.out
        rw [List.take_of_length_le (by omega)] at this
        unfold rightB
        rw [this, Bool.and_true, hl]
        by_cases h : k ≤ 256
        · rw [decide_eq_true h, decide_eq_true (by omega)]
        · rw [decide_eq_false h, decide_eq_false (by omega)]
      have E1 := hide e1
      clear e1
      go_wp2_with fail
      go_ret
      refine ⟨?_, hb⟩
      rw [E1.out]
      rfl

set_option maxRecDepth 100000 in
set_option maxHeartbeats 4000000 in
theorem rencode_any (base pid ep first : Int) (a : Option Addr) (n cap : Nat) (bss : List (List Int)) (w : World) (hR : Rl w a n cap bss) (hd : Bd ⟨pid, ep, first, bss⟩) :
    Calls Try.prog 18 #[.int .i64 base, bv pid ep first (.slice a n cap)] w fun e w' => ∃ v, e = .returned (.tuple #[v, .int .i64 (encD base ⟨pid, ep, first, bss⟩).2]) ∧
      w'.ownsRow w.heap.size 5 1 v (encD base ⟨pid, ep, first, bss⟩).1.length (U (encD base ⟨pid, ep, first, bss⟩).1) ∧ Below w.heap.size w w' := by
  obtain ⟨i0, hi, hz0, hz1, hz2⟩ := info_parts info5
  have hl := hR.len
  have hle := hR.le
  have hre := hR.reach
  obtain ⟨W, hW, hb, hsW, hc⟩ := box_new w pid ep first (.slice a n cap)
  obtain ⟨q0, q1, q2, q3⟩ := hc W (Below.refl _ _)
  rw [hW] at q0 q1 q2 q3
  have HC := hide hc
  have HW := hide hW
  clear hW hc
  have CR := rright_any pid ep first a n cap bss W (hR.keep hb)
  cases hr : rightB bss with
  | false =>
    have e : encD base ⟨pid, ep, first, bss⟩ = ([], 2) := by simp [encD, hr]
    rw [e]
    rw [hr] at CR
    go_enter Try.func18, Try.ntmps18
    go_wp2_with fail
    rw [← HW.out]
    refine CR.mono ?_
    rintro e w1 ⟨rfl, hb1⟩
    go_wp2_with fail
    go_ret2
    exact ⟨_, rfl, World.ownsRow_nil _ _ _ _, hb.trans (hb1.mono (by omega))⟩
  | true =>
    rw [hr] at CR
    have hright := (rightB_iff (pid := pid) (ep := ep) (first := first)).1 hr
    have hcnt : n ≤ 256 := by have := hright.count; simp only at this; omega
    have hbl := body_length hright hd
    have hsz2 := hright.size
    simp only at hsz2
    have p10 := vb_len10 (fo_lt hd.pid.1 hd.pid.2)
    have e10 := vb_len10 (fo_lt hd.ep.1 hd.ep.2)
    have f10 := vb_len10 (fo_lt hd.first.1 hd.first.2)
    have n10 := vb_len10 (show n < 18446744073709551616 by omega)
    have HE : Hid (encD base ⟨pid, ep, first, bss⟩ = if 60000 < 12 + (body ⟨pid, ep, first, bss⟩).length then ([], 3) else (enc base ⟨pid, ep, first, bss⟩, 0)) := hide (by simp [encD, hr])
    have HN : Hid (enc base ⟨pid, ep, first, bss⟩ = be 8 (ub base) ++ be 4 (more 0 (body ⟨pid, ep, first, bss⟩)) ++ body ⟨pid, ep, first, bss⟩) := hide (by simp [enc])
    go_enter Try.func18, Try.ntmps18
    go_wp2_with fail
    rw [← HW.out]
    refine CR.mono ?_
    rintro e w1 ⟨rfl, hb1⟩
    obtain ⟨c0, c1, c2, c3⟩ := HC.out w1 hb1
    go_wp2_with fail
    refine (refPutInt_any none 0 0 [] pid hd.pid.1 hd.pid.2 w1 (Bs.nil _) (by omega)).mono ?_
    rintro e w2 ⟨g2, d2, rfl, hB2, hbx⟩
    have hb2 := hb1.trans (hbx.mono hb1.size)
    rw [Nat.zero_add, List.nil_append] at hB2
    rw [Nat.zero_add]
    obtain ⟨c0, c1, c2, c3⟩ := HC.out w2 hb2
    clear hbx
    go_wp2_with fail
    refine (refPutInt_any _ _ _ _ ep hd.ep.1 hd.ep.2 w2 hB2 (by omega)).mono ?_
    rintro e w3 ⟨g3, d3, rfl, hB3, hbx⟩
    have hb3 := hb2.trans (hbx.mono hb2.size)
    obtain ⟨c0, c1, c2, c3⟩ := HC.out w3 hb3
    clear hbx hB2
    go_wp2_with fail
    refine (refPutInt_any _ _ _ _ first hd.first.1 hd.first.2 w3 hB3 (by omega)).mono ?_
    rintro e w4 ⟨g4, d4, rfl, hB4, hbx⟩
    have hb4 := hb3.trans (hbx.mono hb3.size)
    obtain ⟨c0, c1, c2, c3⟩ := HC.out w4 hb4
    clear hbx hB3
    go_wp2_with fail
    refine (refPut_own _ _ _ _ n (by omega) w4 hB4 (by omega)).mono ?_
    rintro e w5 ⟨g5, d5, rfl, ho5, hbx⟩
    have hb5 : Below W.heap.size W w5 := hb4.trans (hbx.mono hb4.size)
    have ho5' := own_less ho5 hb4.size
    clear hbx hB4 ho5 c0 c1 c2 c3
    obtain ⟨Hh, hH⟩ : ∃ H, H = vb (fo pid) ++ vb (fo ep) ++ vb (fo first) ++ vb n := ⟨_, rfl⟩
    have hHl : Hh.length = (vb (fo pid)).length + (vb (fo ep)).length + (vb (fo first)).length + (vb n).length := by rw [hH]; simp only [List.length_append]
    have hHl2 : Hh.length ≤ 40 := by omega
    have hHB : body ⟨pid, ep, first, bss⟩ = Hh ++ rbs bss := by rw [hH]; simp only [body, hl, List.append_assoc]
    rw [← hH, ← hHl] at ho5'
    rw [← hHl]
    have HO5 := hide ho5'
    have HHB := hide hHB
    have hRW := hR.keep hb
    clear ho5' hH hHl hHB p10 e10 f10 n10
    go_wp2_with fail
    go_loopw [6, 7] (fun v i wr => ∃ k : Nat, k ≤ n ∧ i = .int .i64 k ∧ Hid (wr.ownsRow W.heap.size 5 1 v (Hh ++ rbs (bss.take k)).length (U (Hh ++ rbs (bss.take k)))) ∧ Below W.heap.size W wr) (fun _ i _ => n - (intOf i).toNat)
    case atStart => exact ⟨0, Nat.zero_le _, rfl, hide (by simpa [rbs] using HO5.out), hb5⟩
    case round =>
      obtain ⟨k, hk, rfl, ho, hbr⟩ := hrel
      have hs := hbr.size
      obtain ⟨c0, c1, c2, c3⟩ := HC.out wr hbr
      have hvl := rbs_length (l := bss.take k) (fun r hr => hsz2 r (List.mem_of_mem_take hr))
      rw [List.length_take] at hvl
      have hvl2 : (Hh ++ rbs (bss.take k)).length ≤ 300000 := by rw [List.length_append]; omega
      by_cases hlt : k < n
      · obtain ⟨b1, o1, rfl, hc1⟩ := hRW.lies (by omega)
        obtain ⟨p1, m1, d1, hk0, hBk⟩ := hc1 k hlt
        have hk1 := hk0
        rw [← hbr.cell (cell_lt hk0)] at hk1
        have key := hide (rbs_take_succ bss k (by omega))
        have hm1 : m1 ≤ 1024 := by
          have := hsz2 (bss.getD k []) (by simp [List.getD, List.getElem?_eq_getElem (show k < bss.length by omega)])
          rw [hBk.len] at this
          exact this
        have hBl := hBk.len
        have hle1 := hBk.le
        have hre1 := hBk.reach
        clear hc1
        generalize bss.getD k [] = r at hBk hBl key
        go_wp2_with fail
        refine (refBytes_any m1 (by omega) wr).mono ?_
        rintro e w6 ⟨g6, d6, rfl, ho6, hb6⟩
        have hs6 := hb6.size
        have hB6 := own_bs ho6 (vb_byte m1)
        have h106 := vb_len10 (show m1 < 18446744073709551616 by omega)
        have ho6' := hide (keep_own ho.out hb6)
        clear ho6
        go_wp2_with (at_builtin; first
          | (refine wpList_append_val rfl (.tmp 36) (.tmp 44) 22 rfl W.heap.size 5 i0 Try.underlying22 hi hz0 hz1 hz2 _ _ _ rfl ho6'.out _ _ _ _ rfl hB6 (by omega) (by omega) ?_; intro v7 w7 hown7 hgrow7; have hb7 : Below W.heap.size W w7 := (hbr.trans (hb6.mono hs)).grown hgrow7 (by omega) (fun j hj => own_from ho6'.out hj); have HO7 := hide hown7; have hB7 := hBk.keep hb7; have hs7 := hb7.size; obtain ⟨c0, c1, c2, c3⟩ := HC.out w7 hb7; have hk7 := (hb7.cell (cell_lt hk0)).trans hk0; clear hown7 hgrow7)
          | (refine wpList_append_val rfl (.tmp 46) (.tmp 51) 22 rfl W.heap.size 5 i0 Try.underlying22 hi hz0 hz1 hz2 _ _ _ rfl HO7.out _ _ _ _ rfl hB7 (by omega) (by omega) ?_; intro v8 w8 hown8 hgrow8; have HO8 := hide hown8; clear hown8))
        go_roundw
        case rel =>
          refine ⟨k + 1, by omega, by go_num, hide ?_, hb7.grown hgrow8 (by omega) (fun j hj => own_from HO7.out hj)⟩
          have h := HO8.out
          rw [← U_append, ← U_append] at h
          have e : Hh ++ rbs (bss.take (k + 1)) = Hh ++ rbs (bss.take k) ++ vb m1 ++ r := by rw [key.out, hBl]; simp
          rw [e]
          simpa [hBl, Nat.add_assoc] using h
        case measure => simp [intOf]; omega
      · obtain rfl : k = n := by omega
        rw [List.take_of_length_le (by omega), ← HHB.out] at ho
        obtain ⟨g6, d6, hv6⟩ := own_shape ho.out (by omega)
        subst hv6
        have hby := body_byte (b := ⟨pid, ep, first, bss⟩) hd.byte
        have hB6 := own_bs ho.out hby
        have hd6 := hB6.le
        have hd6' := hB6.reach
        have hbl1 := hbl.1
        have hbl2 := hbl.2
        obtain ⟨wq, hwq⟩ : ∃ wq : World, wq = wr := ⟨_, rfl⟩
        subst hwq
        have hbw : Below w.heap.size w wq := hb.trans (hbr.mono (by omega))
        clear ho hbl hb5 HO5 HHB hRW hright hr hvl hvl2 hsz2
        generalize body ⟨pid, ep, first, bss⟩ = B at hB6 hbl1 hbl2 HE HN hby
        by_cases hlong : 60000 < 12 + B.length
        · rw [if_pos hlong] at HE
          go_wp2_with fail
          go_ret2
          rw [HE.out]
          exact ⟨_, rfl, World.ownsRow_nil _ _ _ _, hbw⟩
        · rw [if_neg hlong] at HE
          have hub : IntKind.u64.wrap base = ((ub base : Nat) : Int) := by rw [IntKind.wrap_u64]; unfold ub; omega
          have hul := ub_lt base
          go_wp2_with fail
          refine (radd_any none 0 0 [] (ub base) 8 wq (Bs.nil _) (by omega) (by omega) (by omega) (by omega)).mono ?_
          rintro e w7 ⟨g7, d7, rfl, ho7, hb7⟩
          have hs7 := hb7.size
          have hB7 := own_bs ho7 (app_byte (by simp) (be_byte _ _))
          rw [List.nil_append] at hB7
          clear ho7
          go_wp2_with fail
          refine (ref_any 0 _ _ _ B w7 (by decide) (hB6.keep hb7)).mono ?_
          rintro e w8 ⟨rfl, hw8⟩
          subst hw8
          have hm := more_lt 0 B
          go_wp2_with fail
          refine (radd_any _ _ _ (be 8 (ub base)) (more 0 B) 4 _ hB7 (by omega) (by omega) (by omega) (by omega)).mono ?_
          rintro e w9 ⟨g9, d9, rfl, ho9, hb9⟩
          have hs9 := hb9.size
          have hB9 := (hB6.keep hb7).keep hb9
          have HO9 := hide ho9
          have hbw9 : Below w.heap.size w w9 := (hbw.trans (hb7.mono hbw.size)).trans (hb9.mono (hbw.trans (hb7.mono hbw.size)).size)
          have hsw := hbw.size
          clear ho9
          go_wp2_with (at_builtin; refine wpList_append_bs rfl (.tmp 65) (.tmp 66) 22 rfl w8.heap.size 5 i0 Try.underlying22 hi hz0 hz1 hz2 _ _ _ rfl HO9.out _ _ _ _ rfl hB9 (by omega) (by omega) (by omega) ?_; intro g10 d10 w10 ho10 hg10; have HO10 := hide ho10; clear ho10)
          go_ret2
          rw [HE.out]
          refine ⟨_, rfl, own_less (base := w8.heap.size) ?_ (by omega), hbw9.grown hg10 (by omega) (fun k hk => by have := own_from HO9.out hk; omega)⟩
          have h := HO10.out
          rw [← U_append] at h
          rw [HN.out, List.length_append, List.length_append, be_length, be_length]
          exact h

end Go.Proofs.Ytelfckhiafnniaa

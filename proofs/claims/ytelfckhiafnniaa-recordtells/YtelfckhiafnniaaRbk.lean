/-
  Decode of bytes that are none; RecordBack, walked.
-/
import Derived.Test.YtelfckhiafnniaaRaw
import Derived.Test.YtelfckhiafnniaaPik
import Derived.Test.YtelfckhiafnniaaCpy
namespace Go.Proofs.Ytelfckhiafnniaa
open Go.RowKit

/-- Bytes that are no right batch's. -/
def None' (zs : List Int) : Prop := ∀ base b, I64 base → Right b → Bd b → zs.length ≤ 60000 → zs ≠ enc base b

theorem decode_no {a : Option Addr} {n cap : Nat} {zs : List Int} {w : World} (hB : Bs w a n cap zs) (h : None' zs) :
    Calls Try.prog 10 #[.slice a n cap] w fun e w' => ∃ va vc, e = .returned (.tuple #[.int .i64 0, bv 0 0 0 (.slice va 0 vc), .int .i64 50]) ∧ Below w.heap.size w w' := by
  refine (decode_any a n cap _ w hB).mono ?_
  rintro e w' ⟨hb, base', b', er, v, rs, rfl, hD, hL, hr⟩
  rcases hD with ⟨_, h2, h3, h4, h5, h6⟩ | ⟨rfl, rfl, rfl, _⟩
  · exact absurd h6 (h _ _ h3 h4 h5 h2)
  · have hrs : rs = [] := by simpa using hr
    subst hrs
    obtain ⟨va, vc, hv⟩ := own_val hL.own
    subst hv
    exact ⟨va, vc, rfl, hb⟩

theorem none_cut {base : Int} {b : Bt} {k : Nat} (hk : k < (enc base b).length) : None' ((enc base b).take k) := by
  intro base' c _ _ _ _ e
  have h := enc_more (base := base') (b := c) (base' := base) (c := b) (x := (enc base b).drop k) (by rw [← e, List.take_append_drop])
  have := congrArg List.length h
  rw [List.length_drop, List.length_nil] at this
  omega

theorem none_more {base : Int} {b : Bt} {z : Int} : None' (enc base b ++ [z]) := by
  intro base' c _ _ _ _ e
  have h := enc_more e
  cases h

theorem encD_cases (base : Int) (b : Bt) : (Right b ∧ 12 + (body b).length ≤ 60000 ∧ encD base b = (enc base b, 0)) ∨ encD base b = ([], 2) ∨ encD base b = ([], 3) := by
  unfold encD
  by_cases hr : rightB b.recs = true
  · rw [if_pos hr]
    have hright : Right b := (rightB_iff (pid := b.pid) (ep := b.ep) (first := b.first)).1 hr
    by_cases hl : 60000 < 12 + (body b).length
    · rw [if_pos hl]
      exact .inr (.inr rfl)
    · rw [if_neg hl]
      exact .inl ⟨hright, by omega, rfl⟩
  · rw [if_neg hr]
    exact .inr (.inl rfl)

theorem Rl.bd {w : World} {a : Option Addr} {n cap : Nat} {bss : List (List Int)} {p e f : Int} (h : Rl w a n cap bss) (hp : I64 p) (he : I64 e) (hf : I64 f) : Bd ⟨p, e, f, bss⟩ := ⟨hp, he, hf, h.byte⟩

/-- A new struct variable with its cells. -/
theorem box_new (w : World) (p e f : Int) (v : Value) : ∃ W, W = w.alloc (.cells #[.int .i64 p, .int .i64 e, .int .i64 f, v] 28) ∧ Below w.heap.size w W ∧ W.heap.size = w.heap.size + 1 ∧
    ∀ W', Below W.heap.size W W' → W'.cell? ⟨w.heap.size, 0, none⟩ = some (.int .i64 p) ∧ W'.cell? ⟨w.heap.size, 1, none⟩ = some (.int .i64 e) ∧ W'.cell? ⟨w.heap.size, 2, none⟩ = some (.int .i64 f) ∧ W'.cell? ⟨w.heap.size, 3, none⟩ = some v := by
  refine ⟨_, rfl, fresh _ _, by simp, fun W' h => ?_⟩
  obtain ⟨a0, a1, a2, a3, _⟩ := row4 ((h.block w.heap.size (by simp)).trans (heap_alloc_new w _))
  exact ⟨a0, a1, a2, a3⟩

namespace recordBack

set_option maxRecDepth 100000 in
set_option maxHeartbeats 8000000 in
theorem walk (base p e f cut : Int) (hbase : I64 base) (hp : I64 p) (he : I64 e) (hf : I64 f) (a : Option Addr) (n cap : Nat) (bss : List (List Int)) (b : Option Addr) (m bcap : Nat) (ys : List Int) (w : World) (hR : Rl w a n cap bss) (hY : Bs w b m bcap ys) :
    Calls Try.prog 5 #[.int .i64 base, bv p e f (.slice a n cap), .slice b m bcap, .int .i64 cut] w fun e w' => e = .returned (.bool true) ∧ Below w.heap.size w w' := by
  obtain ⟨i0, hi, hz0, hz1, hz2⟩ := info_parts info5
  have hle := hR.le
  have hre := hR.reach
  have hyl := hY.len
  have hyle := hY.le
  have hyre := hY.reach
  obtain ⟨W1, hW1, hb1, hs1, hc1⟩ := box_new w p e f (.slice a n cap)
  have HC1 := hide hc1
  obtain ⟨q0, q1, q2, q3⟩ := hc1 W1 (Below.refl _ _)
  have HW1 := hide hW1
  clear hc1 hW1
  by_cases hbig : 300 < n ∨ 70000 < m
  · rcases hbig with hbig | hbig
    · go_enter Try.func5, Try.ntmps5
      go_wp2_with fail
      rw [← HW1.out]
      refine (awake_any _).mono ?_
      rintro e' w2 ⟨rfl, hb2⟩
      go_wp2_with fail
      go_ret
      exact ⟨rfl, hb1.trans (hb2.mono (by omega))⟩
    · by_cases hbig' : 300 < n
      · go_enter Try.func5, Try.ntmps5
        go_wp2_with fail
        rw [← HW1.out]
        refine (awake_any _).mono ?_
        rintro e' w2 ⟨rfl, hb2⟩
        go_wp2_with fail
        go_ret
        exact ⟨rfl, hb1.trans (hb2.mono (by omega))⟩
      · go_enter Try.func5, Try.ntmps5
        go_wp2_with fail
        rw [← HW1.out]
        refine (awake_any _).mono ?_
        rintro e' w2 ⟨rfl, hb2⟩
        go_wp2_with fail
        go_ret
        exact ⟨rfl, hb1.trans (hb2.mono (by omega))⟩
  · have hn1 : n ≤ 300 := by omega
    have hm1 : m ≤ 70000 := by omega
    clear hbig
    have hd : Bd ⟨p, e, f, bss⟩ := hR.bd hp he hf
    have CE := encode_any base p e f a n cap bss W1 (hR.keep hb1) hd
    -- the second half: any bytes
    have REST : ∀ V, Below W1.heap.size W1 V → Calls Try.prog 10 #[.slice b m bcap] V fun e' w' => ∃ base' c er v rs, e' = .returned (.tuple #[.int .i64 base', bv c.pid c.ep c.first v, .int .i64 er]) ∧ Dec ys base' c er ∧ LL w' V.heap.size v rs ∧ rs.map (·.2) = c.recs ∧ Below V.heap.size V w' := by
      intro V hV
      refine (decode_any b m bcap ys V ((hY.keep hb1).keep hV)).mono ?_
      rintro e' w' ⟨h1, base', c, er, v, rs, h2, h3, h4, h5⟩
      exact ⟨base', c, er, v, rs, h2, h3, h4, h5, h1⟩
    have HREST := hide REST
    have HEND : Hid (∀ V, Below W1.heap.size W1 V → Below w.heap.size w V) := hide (fun V h => hb1.trans (h.mono (by omega)))
    have HYV : Hid (∀ V, Below W1.heap.size W1 V → Bs V b m bcap ys) := hide (fun V h => (hY.keep hb1).keep h)
    clear REST
    rcases encD_cases base ⟨p, e, f, bss⟩ with ⟨hright, hlen, hE⟩ | hE | hE
    · rw [hE] at CE
      have hlE := enc_length base ⟨p, e, f, bss⟩
      have hbl := (body_length hright hd).1
      go_enter Try.func5, Try.ntmps5
      go_wp2_with fail
      rw [← HW1.out]
      refine CE.mono ?_
      rintro e' w2 ⟨v2, rfl, hown2, hb2⟩
      obtain ⟨N, hN⟩ : ∃ N, N = (enc base ⟨p, e, f, bss⟩).length := ⟨_, rfl⟩
      replace hown2 : w2.ownsRow W1.heap.size 5 1 v2 (enc base ⟨p, e, f, bss⟩).length (U (enc base ⟨p, e, f, bss⟩)) := hown2
      rw [← hN] at hown2 hlE
      have hN1 : 16 ≤ N := by omega
      have hN2 : N ≤ 60000 := by omega
      have HN := hide hN
      clear hN hlE
      obtain ⟨g2, d2, hv2⟩ := own_shape hown2 (by omega)
      subst hv2
      have hB2 := own_bs hown2 (enc_byte hd.byte)
      have hd2 := hB2.le
      have hd2' := hB2.reach
      have hs2 := hb2.size
      clear hown2 CE
      go_wp2_with fail
      refine (decode_yes hB2 hbase hright hd hlen).mono ?_
      rintro e' w3 ⟨va, vn, vc, rs, rfl, hL3, hr3, hb3⟩
      have hR3 := hL3.rl
      rw [hr3] at hR3
      have hs3 := hb3.size
      obtain ⟨W3, hW3, hbW3, hsW3, hc3⟩ := box_new w3 p e f (.slice va vn vc)
      have HC3 := hide hc3
      have HW3 := hide hW3
      have hB3 := (hB2.keep hb3).keep hbW3
      have hR3' := hR3.keep hbW3
      have hb13 : Below W1.heap.size W1 W3 := (hb2.trans (hb3.mono hs2)).trans (hbW3.mono (by omega))
      clear hL3 hr3 hc3 hW3 hB2 hb2 hb3 hbW3 hR3
      go_wp2_with fail
      rw [← HW3.out]
      refine (pick_any cut N W3 (by omega) (by omega)).mono ?_
      rintro e' w4 ⟨k, hk, rfl, rfl⟩
      go_wp2_with fail
      refine (decode_no (hB3.head k (by omega)) (none_cut (by rw [← HN.out]; omega))).mono ?_
      rintro e' w5 ⟨vb5, vc5, rfl, hb5⟩
      have hs5 := hb5.size
      obtain ⟨W5, hW5, hbW5, hsW5, _⟩ := box_new w5 0 0 0 (.slice vb5 0 vc5)
      have HW5 := hide hW5
      have hb35 : Below w4.heap.size w4 W5 := hb5.trans (hbW5.mono hs5)
      clear hW5 hb5 hbW5
      have hs35 := hb35.size
      go_wp2_with fail
      rw [← HW5.out]
      refine (copy_any _ _ _ _ W5 (hB3.keep hb35) (by omega)).mono ?_
      rintro e' w6 ⟨c6, d6, rfl, hown6, hb6⟩
      have hs6 := hb6.size
      have hz : ∀ z ∈ [cut % 256], 0 ≤ z ∧ z ≤ 255 := by simp only [List.mem_singleton, forall_eq]; omega
      have HO6 := hide hown6
      go_wp2_with (at_builtin; refine wpList_append_bs rfl (.tmp 61) (.tmp 64) 22 rfl W5.heap.size 5 i0 Try.underlying22 hi hz0 hz1 hz2 _ _ _ rfl (HO6.out.alloc _) _ 1 1 [cut % 256] rfl (row_lit w6 _ rfl [cut % 256] 1 rfl (by decide) hz) (by omega) (by omega) (by simp; omega) ?_; intro g7 d7 w7 hown7 hgrow7; have HO7 := hide hown7; have HG7 := hide hgrow7; clear hown7 hgrow7)
      have hB7 : Bs w7 (some ⟨g7, 0, none⟩) (N + 1) d7 (enc base ⟨p, e, f, bss⟩ ++ [cut % 256]) := own_bs (by rw [U_append]; exact HO7.out) (app_byte (enc_byte hd.byte) hz)
      have hb7 : Below W5.heap.size W5 w7 := (hb6.alloc hs6 _).grown HG7.out (by simp; omega) (fun k hk => own_from HO6.out hk)
      have hs7 := hb7.size
      clear HO6 HO7 HG7 hown6 hb6
      refine (decode_no hB7 none_more).mono ?_
      rintro e' w8 ⟨vb8, vc8, rfl, hb8⟩
      have hs8 := hb8.size
      obtain ⟨W8, hW8, hbW8, hsW8, _⟩ := box_new w8 0 0 0 (.slice vb8 0 vc8)
      have HW8 := hide hW8
      have hb48 : Below w4.heap.size w4 W8 := hb35.trans ((hb7.trans ((hb8.trans (hbW8.mono hs8)).mono hs7)).mono hs35)
      have hb18 : Below W1.heap.size W1 W8 := hb13.trans (hb48.mono hb13.size)
      obtain ⟨t0, t1, t2, t3⟩ := HC3.out W8 hb48
      obtain ⟨u0, u1, u2, u3⟩ := HC1.out W8 hb18
      rw [HW8.out] at t0 t1 t2 t3 u0 u1 u2 u3
      have CS := ksameb_any p e f va a vn vc n cap bss W8 (hR3'.keep hb48) ((hR.keep hb1).keep hb18)
      have n1 : (base != base) = false := by simp
      have hs48 := hb48.size
      have hs18 := hb18.size
      clear hW8 hb8 hbW8 hB7 hb7 hB3 hR3'
      go_wp2_with fail
      rw [← HW8.out]
      refine CS.mono ?_
      rintro e' w9 ⟨rfl, hb9⟩
      have hV : Below W1.heap.size W1 w9 := hb18.trans (hb9.mono hs18)
      clear CS hb9 hb48 hb18 t0 t1 t2 t3 u0 u1 u2 u3 HW8 HC3 hb35 hb13
      go_wp2_with fail
      refine (HREST.out w9 hV).mono ?_
      rintro e' x1 ⟨base', c, er, v, rs', rfl, hD, hL, hr, hbx⟩
      have hV1 : Below W1.heap.size W1 x1 := hV.trans (hbx.mono hV.size)
      have hsV := hV.size
      have hsx := hbx.size
      obtain ⟨xa, xc, hxv⟩ := own_val hL.own
      subst hxv
      have hRx := hL.rl
      rw [hr] at hRx
      have hxn : rs'.length = c.recs.length := by rw [← hr, List.length_map]
      rw [hxn] at hRx ⊢
      clear hL hr hxn hbx
      obtain ⟨X1, hX1, hbX1, hsX1, hcX⟩ := box_new x1 c.pid c.ep c.first (.slice xa c.recs.length xc)
      have hV2 : Below W1.heap.size W1 X1 := hV1.trans (hbX1.mono hV1.size)
      have hRX := hRx.keep hbX1
      have HX1 := hide hX1
      have HCX := hide hcX
      clear hX1 hcX
      rcases hD with ⟨rfl, h2, h3, h4, h5, h6⟩ | ⟨rfl, rfl, rfl, h4⟩
      · have CE2 := encode_any base' c.pid c.ep c.first xa c.recs.length xc c.recs X1 hRX h5
        have hce : encD base' ⟨c.pid, c.ep, c.first, c.recs⟩ = (ys, 0) := by
          rw [h6]
          exact encD_of h4 (by rw [h6, enc_length] at h2; exact h2)
        rw [hce] at CE2
        obtain ⟨c0, c1, c2, c3⟩ := HCX.out X1 (Below.refl _ _)
        rw [HX1.out] at c0 c1 c2 c3
        have hys : 12 ≤ m := by rw [← hyl, h6, enc_length]; omega
        have CRt := (rightB_iff (pid := c.pid) (ep := c.ep) (first := c.first)).2 h4
        clear hRx hbX1 h2 h3 h4 h5 h6 hce
        generalize c.recs.length = cn at *
        generalize c.pid = cp at *
        generalize c.ep = ce at *
        generalize c.first = cf at *
        go_wp2_with fail
        rw [← HX1.out]
        refine CE2.mono ?_
        rintro e' x2 ⟨v2', rfl, hownx, hbx2⟩
        replace hownx : x2.ownsRow X1.heap.size 5 1 v2' ys.length (U ys) := hownx
        rw [hyl] at hownx
        obtain ⟨gx, dx, hvx⟩ := own_shape hownx (by omega)
        subst hvx
        have hBx := own_bs hownx hY.byte
        obtain ⟨c0, c1, c2, c3⟩ := HCX.out x2 hbx2
        have hV3 : Below W1.heap.size W1 x2 := hV2.trans (hbx2.mono hV2.size)
        have CR2 := right_any cp ce cf xa cn xc c.recs x2 (hRX.keep hbx2)
        rw [CRt] at CR2
        clear CE2 hownx hbx2 hRX
        go_wp2_with fail
        refine CR2.mono ?_
        rintro e' x3 ⟨rfl, hbx3⟩
        have hV4 : Below W1.heap.size W1 x3 := hV3.trans (hbx3.mono hV3.size)
        go_wp2_with fail
        refine (same_true rfl (hBx.keep hbx3) (HYV.out x3 hV4)).mono ?_
        rintro e' x4 ⟨rfl, hx4⟩
        subst hx4
        go_wp2_with fail
        refine (awake_any _).mono ?_
        rintro e' x5 ⟨rfl, hbx5⟩
        have F := HEND.out x5 (hV4.trans (hbx5.mono hV4.size))
        go_wp2_with fail
        go_ret
        exact ⟨rfl, F⟩
      · obtain ⟨c0, c1, c2, c3⟩ := HCX.out X1 (Below.refl _ _)
        have HX2 : Hid (X1 = x1.alloc (.cells #[.int .i64 0, .int .i64 0, .int .i64 0, .slice xa 0 xc] 28)) := HX1
        rw [HX2.out] at c0 c1 c2 c3
        go_wp2_with fail
        rw [← HX2.out]
        refine (awake_any _).mono ?_
        rintro e' x5 ⟨rfl, hbx5⟩
        have F := HEND.out x5 (hV2.trans (hbx5.mono hV2.size))
        go_wp2_with fail
        go_ret
        exact ⟨rfl, F⟩
    · rw [hE] at CE
      go_enter Try.func5, Try.ntmps5
      go_wp2_with fail
      rw [← HW1.out]
      refine CE.mono ?_
      rintro e' w2 ⟨v2, rfl, hown2, hV⟩
      go_wp2_with fail
      refine (HREST.out w2 hV).mono ?_
      rintro e' x1 ⟨base', c, er, v, rs', rfl, hD, hL, hr, hbx⟩
      have hV1 : Below W1.heap.size W1 x1 := hV.trans (hbx.mono hV.size)
      have hsV := hV.size
      have hsx := hbx.size
      obtain ⟨xa, xc, hxv⟩ := own_val hL.own
      subst hxv
      have hRx := hL.rl
      rw [hr] at hRx
      have hxn : rs'.length = c.recs.length := by rw [← hr, List.length_map]
      rw [hxn] at hRx ⊢
      clear hL hr hxn hbx
      obtain ⟨X1, hX1, hbX1, hsX1, hcX⟩ := box_new x1 c.pid c.ep c.first (.slice xa c.recs.length xc)
      have hV2 : Below W1.heap.size W1 X1 := hV1.trans (hbX1.mono hV1.size)
      have hRX := hRx.keep hbX1
      have HX1 := hide hX1
      have HCX := hide hcX
      clear hX1 hcX
      rcases hD with ⟨rfl, h2, h3, h4, h5, h6⟩ | ⟨rfl, rfl, rfl, h4⟩
      · have CE2 := encode_any base' c.pid c.ep c.first xa c.recs.length xc c.recs X1 hRX h5
        have hce : encD base' ⟨c.pid, c.ep, c.first, c.recs⟩ = (ys, 0) := by
          rw [h6]
          exact encD_of h4 (by rw [h6, enc_length] at h2; exact h2)
        rw [hce] at CE2
        obtain ⟨c0, c1, c2, c3⟩ := HCX.out X1 (Below.refl _ _)
        rw [HX1.out] at c0 c1 c2 c3
        have hys : 12 ≤ m := by rw [← hyl, h6, enc_length]; omega
        have CRt := (rightB_iff (pid := c.pid) (ep := c.ep) (first := c.first)).2 h4
        clear hRx hbX1 h2 h3 h4 h5 h6 hce
        generalize c.recs.length = cn at *
        generalize c.pid = cp at *
        generalize c.ep = ce at *
        generalize c.first = cf at *
        go_wp2_with fail
        rw [← HX1.out]
        refine CE2.mono ?_
        rintro e' x2 ⟨v2', rfl, hownx, hbx2⟩
        replace hownx : x2.ownsRow X1.heap.size 5 1 v2' ys.length (U ys) := hownx
        rw [hyl] at hownx
        obtain ⟨gx, dx, hvx⟩ := own_shape hownx (by omega)
        subst hvx
        have hBx := own_bs hownx hY.byte
        obtain ⟨c0, c1, c2, c3⟩ := HCX.out x2 hbx2
        have hV3 : Below W1.heap.size W1 x2 := hV2.trans (hbx2.mono hV2.size)
        have CR2 := right_any cp ce cf xa cn xc c.recs x2 (hRX.keep hbx2)
        rw [CRt] at CR2
        clear CE2 hownx hbx2 hRX
        go_wp2_with fail
        refine CR2.mono ?_
        rintro e' x3 ⟨rfl, hbx3⟩
        have hV4 : Below W1.heap.size W1 x3 := hV3.trans (hbx3.mono hV3.size)
        go_wp2_with fail
        refine (same_true rfl (hBx.keep hbx3) (HYV.out x3 hV4)).mono ?_
        rintro e' x4 ⟨rfl, hx4⟩
        subst hx4
        go_wp2_with fail
        refine (awake_any _).mono ?_
        rintro e' x5 ⟨rfl, hbx5⟩
        have F := HEND.out x5 (hV4.trans (hbx5.mono hV4.size))
        go_wp2_with fail
        go_ret
        exact ⟨rfl, F⟩
      · obtain ⟨c0, c1, c2, c3⟩ := HCX.out X1 (Below.refl _ _)
        have HX2 : Hid (X1 = x1.alloc (.cells #[.int .i64 0, .int .i64 0, .int .i64 0, .slice xa 0 xc] 28)) := HX1
        rw [HX2.out] at c0 c1 c2 c3
        go_wp2_with fail
        rw [← HX2.out]
        refine (awake_any _).mono ?_
        rintro e' x5 ⟨rfl, hbx5⟩
        have F := HEND.out x5 (hV2.trans (hbx5.mono hV2.size))
        go_wp2_with fail
        go_ret
        exact ⟨rfl, F⟩
    · rw [hE] at CE
      go_enter Try.func5, Try.ntmps5
      go_wp2_with fail
      rw [← HW1.out]
      refine CE.mono ?_
      rintro e' w2 ⟨v2, rfl, hown2, hV⟩
      go_wp2_with fail
      refine (HREST.out w2 hV).mono ?_
      rintro e' x1 ⟨base', c, er, v, rs', rfl, hD, hL, hr, hbx⟩
      have hV1 : Below W1.heap.size W1 x1 := hV.trans (hbx.mono hV.size)
      have hsV := hV.size
      have hsx := hbx.size
      obtain ⟨xa, xc, hxv⟩ := own_val hL.own
      subst hxv
      have hRx := hL.rl
      rw [hr] at hRx
      have hxn : rs'.length = c.recs.length := by rw [← hr, List.length_map]
      rw [hxn] at hRx ⊢
      clear hL hr hxn hbx
      obtain ⟨X1, hX1, hbX1, hsX1, hcX⟩ := box_new x1 c.pid c.ep c.first (.slice xa c.recs.length xc)
      have hV2 : Below W1.heap.size W1 X1 := hV1.trans (hbX1.mono hV1.size)
      have hRX := hRx.keep hbX1
      have HX1 := hide hX1
      have HCX := hide hcX
      clear hX1 hcX
      rcases hD with ⟨rfl, h2, h3, h4, h5, h6⟩ | ⟨rfl, rfl, rfl, h4⟩
      · have CE2 := encode_any base' c.pid c.ep c.first xa c.recs.length xc c.recs X1 hRX h5
        have hce : encD base' ⟨c.pid, c.ep, c.first, c.recs⟩ = (ys, 0) := by
          rw [h6]
          exact encD_of h4 (by rw [h6, enc_length] at h2; exact h2)
        rw [hce] at CE2
        obtain ⟨c0, c1, c2, c3⟩ := HCX.out X1 (Below.refl _ _)
        rw [HX1.out] at c0 c1 c2 c3
        have hys : 12 ≤ m := by rw [← hyl, h6, enc_length]; omega
        have CRt := (rightB_iff (pid := c.pid) (ep := c.ep) (first := c.first)).2 h4
        clear hRx hbX1 h2 h3 h4 h5 h6 hce
        generalize c.recs.length = cn at *
        generalize c.pid = cp at *
        generalize c.ep = ce at *
        generalize c.first = cf at *
        go_wp2_with fail
        rw [← HX1.out]
        refine CE2.mono ?_
        rintro e' x2 ⟨v2', rfl, hownx, hbx2⟩
        replace hownx : x2.ownsRow X1.heap.size 5 1 v2' ys.length (U ys) := hownx
        rw [hyl] at hownx
        obtain ⟨gx, dx, hvx⟩ := own_shape hownx (by omega)
        subst hvx
        have hBx := own_bs hownx hY.byte
        obtain ⟨c0, c1, c2, c3⟩ := HCX.out x2 hbx2
        have hV3 : Below W1.heap.size W1 x2 := hV2.trans (hbx2.mono hV2.size)
        have CR2 := right_any cp ce cf xa cn xc c.recs x2 (hRX.keep hbx2)
        rw [CRt] at CR2
        clear CE2 hownx hbx2 hRX
        go_wp2_with fail
        refine CR2.mono ?_
        rintro e' x3 ⟨rfl, hbx3⟩
        have hV4 : Below W1.heap.size W1 x3 := hV3.trans (hbx3.mono hV3.size)
        go_wp2_with fail
        refine (same_true rfl (hBx.keep hbx3) (HYV.out x3 hV4)).mono ?_
        rintro e' x4 ⟨rfl, hx4⟩
        subst hx4
        go_wp2_with fail
        refine (awake_any _).mono ?_
        rintro e' x5 ⟨rfl, hbx5⟩
        have F := HEND.out x5 (hV4.trans (hbx5.mono hV4.size))
        go_wp2_with fail
        go_ret
        exact ⟨rfl, F⟩
      · obtain ⟨c0, c1, c2, c3⟩ := HCX.out X1 (Below.refl _ _)
        have HX2 : Hid (X1 = x1.alloc (.cells #[.int .i64 0, .int .i64 0, .int .i64 0, .slice xa 0 xc] 28)) := HX1
        rw [HX2.out] at c0 c1 c2 c3
        go_wp2_with fail
        rw [← HX2.out]
        refine (awake_any _).mono ?_
        rintro e' x5 ⟨rfl, hbx5⟩
        have F := HEND.out x5 (hV2.trans (hbx5.mono hV2.size))
        go_wp2_with fail
        go_ret
        exact ⟨rfl, F⟩

end recordBack
end Go.Proofs.Ytelfckhiafnniaa

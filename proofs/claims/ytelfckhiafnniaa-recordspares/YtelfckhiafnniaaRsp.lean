/-
  RecordSpares, walked: answers share no memory with one another or with what was handed in.
-/
import Derived.Test.YtelfckhiafnniaaRbk
import Derived.Test.YtelfckhiafnniaaApd
namespace Go.Proofs.Ytelfckhiafnniaa
open Go.RowKit

/-- Rows of bytes that are owned and lie apart, in whatever lists. -/
structure Ow (w : World) (base : Nat) (qs : List (Value × List Int)) : Prop where
  row : ∀ q ∈ qs, w.ownsRow base 5 1 q.1 q.2.length (U q.2)
  apart : qs.Pairwise (fun r s => r.1.ownBlock = none ∨ r.1.ownBlock ≠ s.1.ownBlock)

theorem Ow.bar {S : Nat → Prop} {w w' : World} {base : Nat} {qs : List (Value × List Int)} (h : Ow w base qs) (hb : Bar S w w') (hS : ∀ q ∈ qs, ∀ b, q.1.ownBlock = some b → ¬ S b) : Ow w' base qs :=
  ⟨fun q hq => own_bar (h.row q hq) hb (hS q hq), h.apart⟩

theorem Ow.keep {w w' : World} {base : Nat} {qs : List (Value × List Int)} (h : Ow w base qs) (hb : Below w.heap.size w w') : Ow w' base qs := h.bar (S := fun _ => False) (Bar.of_fresh hb) (fun _ _ _ _ h => h)

theorem Ow.less {w : World} {base base' : Nat} {qs : List (Value × List Int)} (h : Ow w base qs) (hb : base' ≤ base) : Ow w base' qs := ⟨fun q hq => own_less (h.row q hq) hb, h.apart⟩

theorem LL.ow {w : World} {base : Nat} {v : Value} {rs : List (Value × List Int)} (h : LL w base v rs) : Ow w base rs := ⟨h.row, h.apart⟩

/-- A list of slices that grows leaves the rows of bytes. -/
theorem Ow.grow {w w' : World} {base base' n : Nat} {u : Value} {xs : List Value} {qs : List (Value × List Int)} (h : Ow w base qs) (hu : w.ownsRow base' 22 1 u n xs) (hg : w.grownBy w' u.ownBlock) : Ow w' base qs :=
  h.bar (Bar.of_grown hg) (fun q hq b hb => own_types (h.row q hq) hu (by decide) hb)

/-- Rows that came later lie apart from those that were there. -/
theorem Ow.append {w w' : World} {base : Nat} {qs rs : List (Value × List Int)} (h : Ow w base qs) (hb : Below w.heap.size w w') (hr : Ow w' w.heap.size rs) (hbase : base ≤ w.heap.size) : Ow w' base (qs ++ rs) := by
  refine ⟨fun q hq => ?_, List.pairwise_append.2 ⟨h.apart, hr.apart, fun q hq r hr' => ?_⟩⟩
  · rcases List.mem_append.1 hq with hq | hq
    · exact (h.keep hb).row q hq
    · exact own_less (hr.row q hq) hbase
  · cases hqb : q.1.ownBlock with
    | none => exact .inl rfl
    | some x =>
      refine .inr (fun e => ?_)
      have h1 := ((h.row q hq).lt x hqb).2
      have h2 := ((hr.row r hr').lt x e.symm).1
      omega

theorem Ow.one {w : World} {base n cap : Nat} {a : Option Addr} {zs : List Int} (h : w.ownsRow base 5 1 (.slice a n cap) n (U zs)) : Ow w base [(.slice a n cap, zs)] := by
  have hl : zs.length = n := by have := h.1; rw [U_length] at this; omega
  refine ⟨fun q hq => ?_, by simp⟩
  simp only [List.mem_singleton] at hq
  subst hq
  simp only [hl]
  exact h

/-- ApartBytes over a list that the call owns. -/
theorem apart_own (base : Nat) (qs : List (Value × List Int)) (w : World) {g m cap : Nat} (hL : w.ownsRow base 22 1 (.slice (some ⟨g, 0, none⟩) m cap) m (qs.map (·.1))) (hq : Ow w base qs) (hb : base ≤ w.heap.size) (hn : qs.length ≤ 1000) (hln : ∀ q ∈ qs, q.2.length ≤ 140737488355000) :
    Calls Try.prog 27 #[.slice (some ⟨g, 0, none⟩) m cap] w fun e w' => e = .returned (.bool true) ∧ Below base w w' := by
  have hm : qs.length = m := by have := hL.1; rw [List.length_map] at this; omega
  subst hm
  have hlt := own_lt hL
  have key : ∀ j k, j < k → (hk : k < qs.length) → qs[j]!.1.ownBlock = none ∨ qs[j]!.1.ownBlock ≠ qs[k]!.1.ownBlock := by
    intro j k hjk hk
    have := List.pairwise_iff_getElem.1 hq.apart j k (by omega) hk hjk
    simpa [getElem!_pos qs j (by omega), getElem!_pos qs k hk] using this
  refine apart_any base g qs.length (fun k => qs[k]!.1) (fun k => qs[k]!.2.length) (fun k => U qs[k]!.2) w hn ?_ hb hlt.2 cap ?_ ?_ ?_ ?_
  · intro k hk
    simp only [getElem!_pos qs k hk]
    exact hln _ (List.getElem_mem _)
  · intro k hk
    have := hL.cells (g := g) rfl k qs[k].1 (by simp [List.getElem?_eq_getElem hk])
    simp only [getElem!_pos qs k hk]
    rw [← this, Addr.add_lit, Nat.zero_add]
  · intro k hk
    simp only [getElem!_pos qs k hk]
    exact hq.row _ (List.getElem_mem _)
  · intro k hk e
    simp only [getElem!_pos qs k hk] at e
    exact own_types (hq.row _ (List.getElem_mem hk)) hL (by decide) e rfl
  · intro j k hj hk hne
    rcases Nat.lt_or_ge j k with h | h
    · exact key j k h hk
    · rcases key k j (by omega) hj with h | h
      · simp only [h]
        cases qs[j]!.1.ownBlock <;> simp
      · exact .inr (fun e => h e.symm)

namespace recordSpares

set_option maxRecDepth 100000 in
set_option maxHeartbeats 8000000 in
theorem walk (base p e f : Int) (hbase : I64 base) (hp : I64 p) (he : I64 e) (hf : I64 f) (a : Option Addr) (n cap : Nat) (bss : List (List Int)) (w : World) (hR : Rl w a n cap bss) :
    Calls Try.prog 7 #[.int .i64 base, bv p e f (.slice a n cap)] w fun e w' => e = .returned (.bool true) ∧ Below w.heap.size w w' := by
  obtain ⟨i1, hi', hy0, hy1, hy2⟩ := info_parts info22
  have hnl := hR.len
  obtain ⟨W1, hW1, hb1, hs1, hc1⟩ := box_new w p e f (.slice a n cap)
  have HC1 := hide hc1
  obtain ⟨q0, q1, q2, q3⟩ := hc1 W1 (Below.refl _ _)
  have HW1 := hide hW1
  rw [hW1] at q0 q1 q2 q3
  clear hc1 hW1
  have hd : Bd ⟨p, e, f, bss⟩ := hR.bd hp he hf
  have CE := encode_any base p e f a n cap bss W1 (hR.keep hb1) hd
  rcases encD_cases base ⟨p, e, f, bss⟩ with ⟨hright, hlen, hE⟩ | hE | hE
  · rw [hE] at CE
    have hcnt : n ≤ 256 := by have := hright.count; simp only at this; omega
    have hsz := hright.size
    simp only at hsz
    have hlE := enc_length base ⟨p, e, f, bss⟩
    have hbl := (body_length hright hd).1
    obtain ⟨N, hN⟩ : ∃ N, N = (enc base ⟨p, e, f, bss⟩).length := ⟨_, rfl⟩
    have hN1 : 16 ≤ N := by omega
    have hN2 : N ≤ 60000 := by omega
    have HN := hide hN
    clear hN hlE hbl
    go_enter Try.func7, Try.ntmps7
    go_wp2_with fail
    rw [← HW1.out]
    refine CE.mono ?_
    rintro e' w2 ⟨v2, rfl, hown2, hb2⟩
    replace hown2 : w2.ownsRow W1.heap.size 5 1 v2 (enc base ⟨p, e, f, bss⟩).length (U (enc base ⟨p, e, f, bss⟩)) := hown2
    rw [← HN.out] at hown2
    obtain ⟨g2, d2, hv2⟩ := own_shape hown2 (by omega)
    subst hv2
    have hs2 := hb2.size
    obtain ⟨q0, q1, q2, q3⟩ := HC1.out w2 hb2
    have CE2 := encode_any base p e f a n cap bss w2 ((hR.keep hb1).keep hb2) hd
    rw [hE] at CE2
    clear CE
    go_wp2_with fail
    refine CE2.mono ?_
    rintro e' w3 ⟨v3, rfl, hown3, hb3⟩
    replace hown3 : w3.ownsRow w2.heap.size 5 1 v3 (enc base ⟨p, e, f, bss⟩).length (U (enc base ⟨p, e, f, bss⟩)) := hown3
    rw [← HN.out] at hown3
    obtain ⟨g3, d3, hv3⟩ := own_shape hown3 (by omega)
    subst hv3
    have hs3 := hb3.size
    have hB3 := own_bs (keep_own hown2 hb3) (enc_byte hd.byte)
    have O3 : Ow w3 W1.heap.size ([(.slice (some ⟨g2, 0, none⟩) N d2, enc base ⟨p, e, f, bss⟩)] ++ [(.slice (some ⟨g3, 0, none⟩) N d3, enc base ⟨p, e, f, bss⟩)]) := (Ow.one hown2).append hb3 (Ow.one hown3) hs2
    clear CE2 hown2 hown3
    go_wp2_with fail
    refine (decode_yes hB3 hbase hright hd hlen).mono ?_
    rintro e' w4 ⟨va, vn, vc, rs4, rfl, hL4, hr4, hb4⟩
    have hs4 := hb4.size
    have O4 := O3.append hb4 hL4.ow (by omega)
    obtain ⟨W4, hW4, hbW4, hsW4, hc4⟩ := box_new w4 p e f (.slice va vn vc)
    have HC4 := hide hc4
    have HW4 := hide hW4
    clear hW4 hc4
    have hB4 := (hB3.keep hb4).keep hbW4
    have L4 := hL4.keep hbW4
    have O4' := O4.keep hbW4
    go_wp2_with fail
    rw [← HW4.out]
    refine (decode_yes hB4 hbase hright hd hlen).mono ?_
    rintro e' w5 ⟨ua, un, uc, rs5, rfl, hL5, hr5, hb5⟩
    have hs5 := hb5.size
    have O5 := O4'.append hb5 hL5.ow (by omega)
    have L5a := L4.keep hb5
    obtain ⟨W5, hW5, hbW5, hsW5, hc5⟩ := box_new w5 p e f (.slice ua un uc)
    have HC5 := hide hc5
    have HW5 := hide hW5
    have hb45 : Below W4.heap.size W4 W5 := hb5.trans (hbW5.mono hs5)
    have hb15 : Below W1.heap.size W1 W5 := (hb2.trans ((hb3.trans ((hb4.trans ((hbW4.trans (hb45.mono (by omega))).mono hs4)).mono hs3)).mono hs2))
    have HC4b : Hid (∀ V, Below W5.heap.size W5 V → V.cell? ⟨w4.heap.size, 3, none⟩ = some (.slice va vn vc)) := hide (fun V hV => (HC4.out V (hb45.trans (hV.mono hb45.size))).2.2.2)
    obtain ⟨t0, t1, t2, t3⟩ := HC4.out W5 hb45
    obtain ⟨u0, u1, u2, u3⟩ := HC5.out W5 (Below.refl _ _)
    rw [hW5] at t0 t1 t2 t3 u0 u1 u2 u3
    have L5x := L5a.keep hbW5
    have L5y := hL5.keep hbW5
    have O5' := O5.keep hbW5
    have R5x := L5x.rl
    rw [hr4] at R5x
    have R5y := L5y.rl
    rw [hr5] at R5y
    have CS := ksameb_any p e f va ua vn vc un uc bss W5 R5x R5y
    clear hW5 hc5 hb2 hb3 hb4 hb5 hbW4 hbW5 O3 O4 O4' O5 L4 hL4 hL5 hB3 hB4 L5a R5x R5y hb45
    go_wp2_with fail
    rw [← HW5.out]
    refine CS.mono ?_
    rintro e' w6 ⟨rfl, hb6⟩
    have hs6 := hb6.size
    have hsW5' := hb15.size
    have hb16 : Below W1.heap.size W1 w6 := hb15.trans (hb6.mono hb15.size)
    have O6 := O5'.keep hb6
    have L6x := L5x.keep hb6
    have L6y := L5y.keep hb6
    have hl4 : rs4.length = n := by have := congrArg List.length hr4; simp only [List.length_map] at this; omega
    have hl5 : rs5.length = n := by have := congrArg List.length hr5; simp only [List.length_map] at this; omega
    have hvn : vn = n := by
      obtain ⟨_, _, hv⟩ := own_val L6x.own
      simp only [Value.slice.injEq] at hv
      omega
    have hun : un = n := by
      obtain ⟨_, _, hv⟩ := own_val L6y.own
      simp only [Value.slice.injEq] at hv
      omega
    subst hvn
    subst hun
    have hbA := fresh w6 (.cells #[.slice (some ⟨g2, 0, none⟩) N d2, .slice (some ⟨g3, 0, none⟩) N d3] 22)
    have hA : (w6.alloc (.cells #[.slice (some ⟨g2, 0, none⟩) N d2, .slice (some ⟨g3, 0, none⟩) N d3] 22)).ownsRow w6.heap.size 22 1 (.slice (some ⟨w6.heap.size, 0, none⟩) 2 2) 2 [.slice (some ⟨g2, 0, none⟩) N d2, .slice (some ⟨g3, 0, none⟩) N d3] :=
      ⟨rfl, .inr ⟨w6.heap.size, 2, _, rfl, Nat.le_refl _, heap_alloc_new w6 _, Nat.le_refl _, by unfold maxLen; omega, rfl, rfl⟩⟩
    have H4 : Hid (∀ V, Below w6.heap.size w6 V → V.cell? ⟨w4.heap.size, 3, none⟩ = some (.slice va un vc) ∧ V.cell? ⟨w5.heap.size, 3, none⟩ = some (.slice ua un uc) ∧ V.cell? ⟨w.heap.size, 3, none⟩ = some (.slice a un cap)) := hide (fun V hV => by
      have hV5 : Below W5.heap.size W5 V := hb6.trans (hV.mono hs6)
      have h4 := HC4b.out V hV5
      exact ⟨h4, (HC5.out V hV5).2.2.2, (HC1.out V (hb16.trans (hV.mono hb16.size))).2.2.2⟩)
    obtain ⟨x4, x5, x1⟩ := H4.out _ hbA
    have VX := (L6x.keep hbA).vl
    have HA := hide hA
    clear hA CS t0 t1 t2 t3 u0 u1 u2 u3
    go_wp2_with (at_builtin; first
      | (refine wpList_append_lists rfl (.tmp 56) (.tmp 58) 26 rfl w6.heap.size 22 i1 (.slice none 0 0) Try.underlying26 hi' hy0 hy1 hy2 rfl _ 2 _ rfl HA.out _ _ _ _ rfl VX (by omega) (by simp) ?_; intro v7 w7 hown7 hgrow7; have hb7 : Below w6.heap.size w6 w7 := hbA.grown hgrow7 (by simp) (fun k hk => own_from HA.out hk); have HO7 := hide hown7; obtain ⟨y4, y5, y1⟩ := H4.out _ hb7; have VY := (L6y.keep hb7).vl; have hs7 := hb7.size; clear hown7 hgrow7)
      | (refine wpList_append_lists rfl (.tmp 60) (.tmp 62) 26 rfl w6.heap.size 22 i1 (.slice none 0 0) Try.underlying26 hi' hy0 hy1 hy2 rfl _ _ _ rfl HO7.out _ _ _ _ rfl VY (by omega) (by omega) ?_; intro v8 w8 hown8 hgrow8; have hb8 : Below w6.heap.size w6 w8 := hb7.grown hgrow8 (by omega) (fun k hk => own_from HO7.out hk); have HO8 := hide hown8; obtain ⟨z4, z5, z1⟩ := H4.out _ hb8; have hs8 := hb8.size; clear hown8 hgrow8))
    have hR8 := (hR.keep hb1).keep (hb16.trans (hb8.mono hb16.size))
    refine (krecs_any a un cap bss w8 hR8 (by omega) (fun b hb => Nat.le_trans (hsz b hb) (by omega))).mono ?_
    rintro e' w9 ⟨v9, rs9, rfl, hL9, hr9, hb9⟩
    have hs9 := hb9.size
    have hl9 : rs9.length = un := by have := congrArg List.length hr9; simp only [List.length_map] at this; omega
    obtain ⟨ka, kc, hv9⟩ := own_val hL9.own
    rw [hl9] at hv9
    subst hv9
    have VZ := hL9.vl
    have HO9 := hide (keep_own HO8.out hb9)
    have O9 := (O6.keep hb8).append hb9 hL9.ow (by omega)
    go_wp2_with (at_builtin; refine wpList_append_lists rfl (.tmp 64) (.tmp 67) 26 rfl w6.heap.size 22 i1 (.slice none 0 0) Try.underlying26 hi' hy0 hy1 hy2 rfl _ _ _ rfl HO9.out _ _ _ _ rfl VZ (by omega) (by omega) ?_; intro v10 w10 hown10 hgrow10; have hb10 : Below w6.heap.size w6 w10 := (hb8.trans (hb9.mono hs8)).grown hgrow10 (by omega) (fun k hk => own_from HO9.out hk); have HO10 := hide hown10; have O10 := O9.grow HO9.out hgrow10; have hs10 := hb10.size; clear hown10 hgrow10)
    obtain ⟨g10, d10, hv10⟩ := own_shape HO10.out (by omega)
    subst hv10
    have CA := apart_own W1.heap.size _ w10 (m := 2 + un + un + un) (own_less (by simpa using HO10.out) (by omega : W1.heap.size ≤ w6.heap.size)) O10 (by omega) (by simp [hl4, hl5, hl9]; omega) ?hln
    case hln =>
      intro q hq
      have hbd : ∀ (rs : List (Value × List Int)), rs.map (·.2) = bss → ∀ r ∈ rs, r.2.length ≤ 140737488355000 := fun rs hrs r hr => Nat.le_trans (hsz r.2 (by rw [← hrs]; exact List.mem_map.2 ⟨r, hr, rfl⟩)) (by omega)
      simp only [List.mem_append, List.mem_singleton] at hq
      rcases hq with (((rfl | rfl) | hq) | hq) | hq
      · simp only; rw [← HN.out]; omega
      · simp only; rw [← HN.out]; omega
      · exact hbd rs4 hr4 q hq
      · exact hbd rs5 hr5 q hq
      · exact hbd rs9 hr9 q hq
    have hb110 : Below W1.heap.size W1 w10 := hb16.trans (hb10.mono hb16.size)
    refine CA.mono ?_
    rintro e' w11 ⟨rfl, hb11⟩
    go_wp2_with fail
    refine (awake_any _).mono ?_
    rintro e' w12 ⟨rfl, hb12⟩
    have F : Below W1.heap.size W1 w12 := (hb110.trans hb11).trans (hb12.mono (by have := hb11.size; omega))
    go_wp2_with fail
    go_ret
    exact ⟨rfl, hb1.trans (F.mono (by omega))⟩
  · rw [hE] at CE
    go_enter Try.func7, Try.ntmps7
    go_wp2_with fail
    rw [← HW1.out]
    refine CE.mono ?_
    rintro e' w2 ⟨v2, rfl, _, hb2⟩
    go_wp2_with fail
    refine (awake_any _).mono ?_
    rintro e' w3 ⟨rfl, hb3⟩
    go_wp2_with fail
    go_ret
    exact ⟨rfl, hb1.trans ((hb2.trans (hb3.mono hb2.size)).mono (by omega))⟩
  · rw [hE] at CE
    go_enter Try.func7, Try.ntmps7
    go_wp2_with fail
    rw [← HW1.out]
    refine CE.mono ?_
    rintro e' w2 ⟨v2, rfl, _, hb2⟩
    go_wp2_with fail
    refine (awake_any _).mono ?_
    rintro e' w3 ⟨rfl, hb3⟩
    go_wp2_with fail
    go_ret
    exact ⟨rfl, hb1.trans ((hb2.trans (hb3.mono hb2.size)).mono (by omega))⟩

end recordSpares

end Go.Proofs.Ytelfckhiafnniaa

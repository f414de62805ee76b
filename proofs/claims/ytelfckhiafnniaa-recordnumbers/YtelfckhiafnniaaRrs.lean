/-
  'rest' of the fifth layer's statements: a byte behind is refused, though the sum is of it, too.
-/
import Derived.Test.YtelfckhiafnniaaRma
import Derived.Test.YtelfckhiafnniaaTlr
namespace Go.Proofs.Ytelfckhiafnniaa
open Go.RowKit

theorem none_rest {zs : List Int} {b : Bt} {z : Int} (h : zs.drop 12 = body b ++ [z]) : None' zs := by
  intro base c _ _ _ _ e
  rw [e, enc_drop] at h
  have := (body_app (b := c) (x := []) (c := b) (y := [z]) (by simpa using h)).2
  cases this

/-- Encode of the chapter's batch. -/
theorem encode_one {g : Nat} {w : World} (hR : Rl w (some ⟨g, 0, none⟩) 1 1 [[97]]) : Calls Try.prog 8 #[.int .i64 7, bv 1 0 2 (.slice (some ⟨g, 0, none⟩) 1 1)] w fun e w' => ∃ g2 d2, e = .returned (.tuple #[.slice (some ⟨g2, 0, none⟩) 18 d2, .int .i64 0]) ∧ w'.ownsRow w.heap.size 5 1 (.slice (some ⟨g2, 0, none⟩) 18 d2) 18 (U (enc 7 oneB)) ∧ Below w.heap.size w w' := by
  refine (encode_any 7 1 0 2 _ _ _ [[97]] w hR one_bd).mono ?_
  rintro e w2 ⟨v2, rfl, hown2, hb2⟩
  rw [show (⟨1, 0, 2, [[97]]⟩ : Bt) = oneB from rfl, one_enc] at hown2 ⊢
  rw [one_len] at hown2
  obtain ⟨g2, d2, hv2⟩ := own_shape hown2 (by decide)
  subst hv2
  exact ⟨g2, d2, rfl, hown2, hb2⟩

set_option maxRecDepth 100000 in
set_option maxHeartbeats 4000000 in
theorem rest_any (w : World) : Calls Try.prog 12 #[] w fun e w' => e = .returned (.bool true) ∧ Below w.heap.size w w' := by
  obtain ⟨i0, hi, hz0, hz1, hz2⟩ := info_parts info5
  go_enter Try.func12, Try.ntmps12
  go_wp2_with fail
  refine (one_any w).mono ?_
  rintro e w1 ⟨g1, rfl, hR1, hb1⟩
  have hs1 := hb1.size
  go_wp2_with fail
  refine (encode_one hR1).mono ?_
  rintro e w2 ⟨g2, d2, rfl, hown2, hb2⟩
  have hs2 := hb2.size
  have hB2 := own_bs hown2 (enc_byte one_bd.byte)
  have hd2 := hB2.le
  have hd2' := hB2.reach
  have h12 := hB2.drop 12 (by decide)
  rw [enc_drop, one_body, Nat.zero_add] at h12
  have h8 := hB2.head 8 (by decide)
  rw [one_head] at h8
  have hn12 : ¬ d2 = 12 := by omega
  have hbw : Below w.heap.size w w2 := hb1.trans (hb2.mono hs1)
  clear hown2 hb1 hb2 hR1 hB2
  go_wp2_with fail
  refine (copy_any _ _ _ _ w2 h12 (by omega)).mono ?_
  rintro e w3 ⟨c3, d3, rfl, hown3, hb3⟩
  have hs3 := hb3.size
  have HO3 := hide hown3
  clear hown3
  go_wp2_with (at_builtin; refine wpList_append_bs rfl (.tmp 19) (.tmp 20) 22 rfl w2.heap.size 5 i0 Try.underlying22 hi hz0 hz1 hz2 _ _ _ rfl (HO3.out.alloc _) _ 1 1 [0] rfl (row_lit w3 _ rfl [0] 1 rfl (by decide) (by decide)) (by omega) (by omega) (by simp; omega) ?_; intro g4 d4 w4 hown4 hgrow4; have hb4 : Below w2.heap.size w2 w4 := (hb3.alloc hs3 _).grown hgrow4 (by simp; omega) (fun k hk => own_from HO3.out hk); have HO4 := hide hown4; clear hown4 hgrow4)
  have hB4 : Bs w4 (some ⟨g4, 0, none⟩) 7 d4 ([2, 0, 4, 1, 1, 97] ++ [0]) := own_bs (by rw [U_append]; exact HO4.out) (by decide)
  have hs4 := hb4.size
  refine (ref_any 0 _ _ _ _ w4 (by decide) hB4).mono ?_
  rintro e w4' ⟨rfl, hw4⟩
  subst hw4
  have hml := more_lt 0 ([2, 0, 4, 1, 1, 97] ++ [0])
  generalize more 0 ([2, 0, 4, 1, 1, 97] ++ [0]) = M at hml
  go_wp2_with fail
  refine (copy_any _ _ _ _ w4' (h8.keep hb4) (by omega)).mono ?_
  rintro e w5 ⟨c5, d5, rfl, hown5, hb5⟩
  have hs5 := hb5.size
  have HO5 := hide hown5
  have HB5 := hide (hB4.keep hb5)
  clear hown5
  have hL4 : ∀ z ∈ [(M : Int) / 16777216, (M : Int) / 65536 % 256, (M : Int) / 256 % 256, (M : Int) % 256], 0 ≤ z ∧ z ≤ 255 := by
    intro z hz
    simp only [List.mem_cons, List.not_mem_nil, or_false] at hz
    rcases hz with rfl | rfl | rfl | rfl <;> omega
  go_wp2_with (at_builtin; first
    | (refine wpList_append_bs rfl (.tmp 26) (.tmp 38) 22 rfl w4'.heap.size 5 i0 Try.underlying22 hi hz0 hz1 hz2 _ _ _ rfl (HO5.out.alloc _) _ 4 4 [(M : Int) / 16777216, (M : Int) / 65536 % 256, (M : Int) / 256 % 256, (M : Int) % 256] rfl (row_lit w5 _ rfl [(M : Int) / 16777216, (M : Int) / 65536 % 256, (M : Int) / 256 % 256, (M : Int) % 256] 4 rfl (by decide) hL4) (by omega) (by omega) (by simp; omega) ?_; intro g6 d6 w6 hown6 hgrow6; have hb6 : Below w4'.heap.size w4' w6 := (hb5.alloc hs5 _).grown hgrow6 (by simp; omega) (fun k hk => own_from HO5.out hk); have HO6 := hide hown6; have HB6 := hide (hB4.keep hb6); clear hown6 hgrow6)
    | (refine wpList_append_bs rfl (.tmp 41) (.tmp 42) 22 rfl w4'.heap.size 5 i0 Try.underlying22 hi hz0 hz1 hz2 _ _ _ rfl HO6.out _ 7 _ _ rfl HB6.out (by omega) (by omega) (by have := hb6.size; omega) ?_; intro g7 d7 w7 hown7 hgrow7; have hb7 : Below w4'.heap.size w4' w7 := hb6.grown hgrow7 (by have := hb6.size; omega) (fun k hk => own_from HO6.out hk); have HO7 := hide hown7; clear hown7 hgrow7))
  have hB7 : Bs w7 (some ⟨g7, 0, none⟩) 19 d7 ([0, 0, 0, 0, 0, 0, 0, 7] ++ [(M : Int) / 16777216, (M : Int) / 65536 % 256, (M : Int) / 256 % 256, (M : Int) % 256] ++ ([2, 0, 4, 1, 1, 97] ++ [0])) :=
    own_bs (by rw [U_append, U_append]; exact HO7.out) (app_byte (app_byte (by decide) hL4) (by decide))
  refine (decode_no hB7 (none_rest (b := oneB) (z := 0) (by rw [one_body]; rfl))).mono ?_
  rintro e w8 ⟨va, vc, rfl, hb8⟩
  have F : Below w.heap.size w (w8.alloc (.cells #[.int .i64 0, .int .i64 0, .int .i64 0, .slice va 0 vc] 28)) := by
    have h1 : Below w2.heap.size w2 w8 := hb4.trans ((hb7.trans (hb8.mono hb7.size)).mono hs4)
    have h2 : Below w.heap.size w w8 := hbw.trans (h1.mono hbw.size)
    exact h2.alloc h2.size _
  go_wp2_with fail
  go_ret
  exact ⟨rfl, F⟩

end Go.Proofs.Ytelfckhiafnniaa

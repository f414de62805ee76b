/-
  FrameNumbers, walked: the longest frame, a reader that has ended.
-/
import Derived.Test.YtalknfbhnhpdhaaFaw
namespace Go.Proofs.Ytalknfbhnhpdhaa
open Go.RowKit

theorem made_bs {w w1 : World} {n : Nat} (hn : n ≤ 281474976710656) (h : w1.ownsRow w.heap.size 5 1 (.slice (some ⟨w.heap.size, 0, none⟩) n n) n (madeCells (Value.int .u8 0).cells (n * 1)).toList) :
    ∃ zs, Bs w1 (some ⟨w.heap.size, 0, none⟩) n n zs :=
  ⟨List.replicate n 0, Bs.own (cur := U (List.replicate n 0)) (own_full h) (by simp [U]) (by simp) (Nat.le_refl _) (by omega) (fun z hz => by have := List.eq_of_mem_replicate hz; omega) (by rw [List.take_of_length_le (by simp [U])]; rfl)⟩

/-- A list of rows stays through a feed of a reader that has none of them. -/
theorem LL.fed {w w' : World} {base base' R : Nat} {v lv : Value} {l : List Int} {rs : List (Value × List Int)} {ended : Bool} (h : LL w base v rs) (hR : Rd w base' R lv l ended) (hs : ∀ q ∈ rs, ∀ b, q.1.ownBlock = some b → lv.ownBlock ≠ some b) (hb : Bar (Fd R lv) w w') : LL w' base v rs := by
  have key : ∀ {t : TypeId} {u : Value} {n : Nat} {xs : List Value} {b : Nat}, w.ownsRow base t 1 u n xs → t ≠ 32 → u.ownBlock = some b → b ≠ R := by
    intro t u n xs b h1 ht hb e
    rcases h1.2 with ⟨h2, _⟩ | ⟨g, cap, cur, h2, _, hg, _⟩
    · rw [h2] at hb
      cases hb
    · rw [h2] at hb
      simp only [Value.ownBlock, Option.some.injEq] at hb
      rw [hb, e, hR.obj] at hg
      simp only [Option.some.injEq, Obj.cells.injEq] at hg
      exact ht hg.2.1.symm
  refine h.bar hb (fun b hv hf => ?_) (fun q hq b hv hf => ?_)
  · rcases hf with e | e
    · exact key h.own (by decide) hv e
    · exact own_types h.own hR.own (by decide) hv e
  · rcases hf with e | e
    · exact key (h.row q hq) (by decide) hv e
    · exact hs q hq b hv e

theorem ex4 : parse ([] ++ [0, 0, 0, 1, 7, 0, 1, 0, 1]) = none := by decide
theorem ex5 : fr [] = [0, 0, 0, 0] := by decide

namespace frameNumbers

set_option maxRecDepth 100000 in
set_option maxHeartbeats 2000000 in
theorem walk (w : World) : Calls Try.prog 3 #[] w fun e w' => e = .returned (.bool true) ∧ Below w.heap.size w w' := by
  obtain ⟨i0, hi, hz0, hz1, hz2⟩ := info_parts info5
  go_enter Try.func3, Try.ntmps3
  go_wp2_with (at_make; refine wpList_make_full _ rfl _ _ 22 rfl w.heap.size 5 i0 (.int .u8 0) 1 Try.underlying22 hi hz0 hz1 .i64 .i64 _ _ 65537 rfl rfl (by decide) (by decide) (by rw [hz2]; decide) (by unfold maxLen; decide) (Nat.le_refl _) ?_; intro w1 hown hgrow; have hb1 : Below w.heap.size w w1 := (Below.refl _ _).grown hgrow (Nat.le_refl _) (fun k hk => by cases hk); clear hown hgrow)
  refine (put_no _ _ _ w1 (by omega) (by omega)).mono ?_
  rintro e w1 ⟨rfl, rfl⟩
  have hs1 := hb1.size
  go_wp2_with (at_make; refine wpList_make_full _ rfl _ _ 22 rfl w1.heap.size 5 i0 (.int .u8 0) 1 Try.underlying22 hi hz0 hz1 .i64 .i64 _ _ 65536 rfl rfl (by decide) (by decide) (by rw [hz2]; decide) (by unfold maxLen; decide) (Nat.le_refl _) ?_; intro w2 hown hgrow; obtain ⟨zs, hZ⟩ := made_bs (by decide) hown; have hb2 : Below w1.heap.size w1 w2 := (Below.refl _ _).grown hgrow (Nat.le_refl _) (fun k hk => by cases hk); clear hown hgrow)
  refine (put_yes _ _ _ zs _ hZ (by omega)).mono ?_
  rintro e w3 ⟨gb, db, rfl, hown3, hb3⟩
  have hl := hZ.len
  have hzb := hZ.byte
  have hs2 := hb2.size
  have hgb := own_lt hown3
  replace hb3 : Below w.heap.size w w3 := hb1.trans ((hb2.trans (hb3.mono hs2)).mono hs1)
  have hs3 := hb3.size
  replace hown3 := own_less hown3 (Nat.le_trans hs1 hs2)
  clear hb1 hb2 hZ
  go_wp2_with fail
  refine (put_yes _ _ _ [] _ (Bs.nil w3) (by decide)).mono ?_
  rintro e w4 ⟨gc, dc, rfl, hown4, hb4⟩
  rw [ex5] at hown4
  have hgc := own_lt hown4
  have hB4 := own_bs hown4 (by decide)
  have hs4 := hb4.size
  replace hown3 := keep_own hown3 hb4
  replace hb4 := hb3.trans (hb4.mono hs3)
  clear hown4 hb3
  go_wp2_with fail
  refine (new_any w4).mono ?_
  rintro e w5 ⟨rfl, hR5, hb5⟩
  have hs5 := hb5.size
  replace hown3 := keep_own hown3 hb5
  replace hB4 := hB4.keep hb5
  replace hb5 := hb4.trans (hb5.mono (by omega))
  clear hb4
  go_wp2_with (at_builtin; refine wpList_append_bs rfl _ _ 22 rfl w.heap.size 5 i0 Try.underlying22 hi hz0 hz1 hz2 _ (4 + 65536) _ rfl hown3 _ _ _ [0, 0, 0, 0] rfl hB4 (by omega) (by omega) (by omega) ?_; intro g6 d6 w6 hown6 hgrow6)
  rw [← U_append, show 4 + 65536 + 4 = 65544 by omega] at hown6
  have hgb' : w5.grownBy w6 (some gb) := hgrow6
  have hb6 := hb5.grown hgb' (by omega) (fun k hk => by cases hk; omega)
  have hs6 := hgb'.size
  have hR6 := hR5.bar (Bar.of_grown hgb') (by simp only [Option.some.injEq]; omega) (by simp [Value.ownBlock])
  have hC6 := hB4.bar (Bar.of_grown hgb') (by rintro ad ⟨⟩; simp only [Option.some.injEq]; omega)
  have hB6 := own_bs hown6 (fun z hz => by
    rcases List.mem_append.1 hz with h | h
    · rcases List.mem_append.1 h with h | h
      · exact be_byte _ _ z h
      · exact hzb z h
    · simp only [List.mem_cons, List.not_mem_nil, or_false, or_self] at h
      omega)
  have hp6 : parse ([] ++ (fr zs ++ [0, 0, 0, 0])) = some ([zs, []], []) := by
    have := parse_flat [zs, []] (by simp [hl]) [] (by decide)
    simpa [flat, ex5] using this
  clear hown6 hgrow6 hgb' hown3 hB4 hR5 hb5
  refine (feed_is hR6 (by omega) hB6 (by simp) hp6).mono ?_
  rintro e w7 ⟨c7, d7, l7, r7, rfl, hr7, hR7, hL7, _, hsep, _, hb7⟩
  have hC7 := hC6.bar (Bar.of_below hb7 (S := fun k => w4.heap.size ≤ k) (fun i h _ => h)) (by rintro ad ⟨⟩; simp only; omega)
  have hb7' := hb6.trans (hb7.mono (by omega))
  have hs7 := hb7.size
  clear hb7 hb6 hC6 hR6 hB6 hp6
  go_wp2_with fail
  have hL8 := hL7.keep (fresh w7 (.cells (U [0, 0, 0, 1, 7, 0, 1, 0, 1]).toArray 5))
  have hR8 := hR7.keep (fresh w7 (.cells (U [0, 0, 0, 1, 7, 0, 1, 0, 1]).toArray 5))
  refine (feed_not hR8 (by simp; omega) (row_lit w7 _ rfl [0, 0, 0, 1, 7, 0, 1, 0, 1] 9 rfl (by decide) (by decide)) (by decide) ex4).mono ?_
  rintro e w8 ⟨rfl, hR9, hbar8, hb8⟩
  have hL9 := (hL8.fed hR8 hsep hbar8).rl
  rw [hr7] at hL9
  have hC9 := (hC7.alloc (.cells (U [0, 0, 0, 1, 7, 0, 1, 0, 1]).toArray 5)).bar (Bar.of_below hb8 (S := fun k => w4.heap.size ≤ k) (fun i h _ => h)) (by rintro ad ⟨⟩; simp only; omega)
  have hb9 := hb7'.trans (((fresh w7 _).mono (by omega)).trans (hb8.mono (by omega)))
  have hs9 := hb9.size
  have hs8 := hb8.size
  clear hL8 hR8 hbar8 hb8 hb7' hC7 hR7 hL7 hsep
  go_wp2_with fail
  refine (feed_ended hR9 _).mono ?_
  rintro e w8 ⟨rfl, rfl⟩
  go_wp2_with fail
  refine (feed_nil _ _).mono ?_
  rintro e w8 ⟨rfl, rfl⟩
  go_wp2_with fail
  have hf9 := fresh w8 (.cells #[.pointer none, .slice none 0 0, .bool false] 32)
  have hR10 := hR9.keep hf9
  have hL10 := hL9.keep hf9
  have hC10 := hC9.keep hf9
  have hb10 := hb9.trans (hf9.mono hs9)
  refine (feed_zero (R := w8.heap.size) _ (cell_of_row _ _ 0 _ 32 (0, 0) (heap_alloc_new w8 _))).mono ?_
  rintro e w9 ⟨rfl, hw9⟩
  rw [← hw9] at hR10 hL10 hC10 hb10
  clear hf9 hw9 hR9 hL9 hC9 hb9
  have hs10 := hb10.size
  go_wp2_with fail
  refine (same_true rfl (hC10.alloc _) (row_lit w9 _ rfl [0, 0, 0, 0] 4 rfl (by decide) (by decide))).mono ?_
  rintro e w10 ⟨rfl, hw10⟩
  have hf10 := fresh w9 (.cells (U [0, 0, 0, 0]).toArray 5)
  have hR11 := hR10.keep hf10
  have hL11 := hL10.keep hf10
  have hb11 := hb10.trans (hf10.mono hs10)
  rw [← hw10] at hR11 hL11 hb11
  clear hf10 hw10 hR10 hL10 hC10 hb10
  obtain ⟨b, off, rfl, hc⟩ := hL11.lies (by simp)
  obtain ⟨p0, m0, k0, hcell0, hB0⟩ := hc 0 (by simp)
  obtain ⟨p1, m1, k1, hcell1, hB1⟩ := hc 1 (by simp)
  have hm0 : m0 = 65536 := hB0.len.symm.trans hl
  have hm1 : m1 = 0 := hB1.len.symm
  subst hm0
  subst hm1
  rw [Nat.add_zero] at hcell0
  have hd := hL11.le
  have hdr := hL11.reach
  have hl1 := left_any hR11
  clear hc hL11 hB0 hB1 hr7 hzb hR11
  have hs11 := hb11.size
  go_wp2_with fail
  refine hl1.mono ?_
  rintro e w11 ⟨rfl, rfl⟩
  go_wp2_with fail
  refine (left_nil _).mono ?_
  rintro e w11 ⟨rfl, rfl⟩
  go_wp2_with fail
  refine (awake_any _).mono ?_
  rintro e w12 ⟨rfl, hb12⟩
  go_wp2_with fail
  go_ret
  exact ⟨rfl, hb11.trans (hb12.mono hs11)⟩

end frameNumbers
end Go.Proofs.Ytalknfbhnhpdhaa

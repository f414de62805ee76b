/-
  What Made and 'many' do: batches of so many records of so many bytes.
-/
import Derived.Test.YtelfckhiafnniaaRbk
import Derived.Test.YtelfckhiafnniaaBrt
import Derived.Deep.RegionLaw
import Derived.Deep.AppendLies
namespace Go.Proofs.Ytelfckhiafnniaa
open Go.RowKit

theorem mod256 (y : Int) : 0 ≤ y % 256 ∧ y % 256 ≤ 255 := by omega

set_option maxHeartbeats 1000000 in
theorem made_any (s : Int) (n : Nat) (hn : n ≤ 100000) (h0 : 0 < n) (w : World) :
    Calls Try.prog 32 #[.int .i64 s, .int .i64 n] w fun e w' => ∃ zs : List Int, e = .returned (.slice (some ⟨w.heap.size, 0, none⟩) n n) ∧ w'.ownsRow w.heap.size 5 1 (.slice (some ⟨w.heap.size, 0, none⟩) n n) n (U zs) ∧ zs.length = n ∧ (∀ z ∈ zs, 0 ≤ z ∧ z ≤ 255) ∧ Below w.heap.size w w' := by
  obtain ⟨i0, hi, hz0, hz1, hz2⟩ := info_parts info5
  go_enter Try.func32, Try.ntmps32
  go_wp2_with (at_make; refine wpList_make_full _ rfl (.tmp 8) (.tmp 8) 22 rfl w.heap.size 5 i0 (.int .u8 0) 1 Try.underlying22 hi hz0 hz1 .i64 .i64 _ _ n rfl rfl (by omega) (by omega) (by rw [hz2]; omega) (by unfold maxLen; omega) (Nat.le_refl _) ?_; intro w1 hown hgrow; have hg := hide (own_full hown); have hb : Below w.heap.size w w1 := (Below.refl _ _).grown hgrow (Nat.le_refl _) (fun k hk => by cases hk); clear hown hgrow)
  go_loopw [6, 7] (fun x i wr => ∃ (k : Nat) (X : Int) (zs : List Int), k ≤ n ∧ i = .int .i64 k ∧ x = .int .u64 X ∧ zs.length = n ∧ Hid (∀ z ∈ zs, 0 ≤ z ∧ z ≤ 255) ∧ Hid (wr.heap[w.heap.size]? = some (.cells (U zs).toArray 5 (0, 0))) ∧ Below w.heap.size w wr)
    (fun _ i _ => n - (intOf i).toNat)
  case atStart => exact ⟨0, _, _, Nat.zero_le _, rfl, rfl, List.length_replicate, hide (by intro z hz; have := List.eq_of_mem_replicate hz; omega), hg, hb⟩
  case round =>
    obtain ⟨k, X, zs, hk, rfl, rfl, hl, hby, hG, hbr⟩ := hrel
    by_cases hlt : k < n
    · obtain ⟨u, hu⟩ := heap_cell (i := k) hG.out (by rw [U_length]; omega)
      have hfz : wr.frozen? ⟨w.heap.size, k, none⟩ = false := heap_free hG.out
      have hfin : ∀ z, 0 ≤ z ∧ z ≤ 255 → (zs.set k z).length = n ∧ (∀ y ∈ zs.set k z, 0 ≤ y ∧ y ≤ 255) ∧ (wr.setCell ⟨w.heap.size, k, none⟩ (.int .u8 z)).heap[w.heap.size]? = some (.cells (U (zs.set k z)).toArray 5 (0, 0)) := by
        intro z hz
        refine ⟨by simpa using hl, fun y hy => ?_, ?_⟩
        · rcases List.mem_or_eq_of_mem_set hy with hy | rfl
          · exact hby.out y hy
          · exact hz
        · rw [heap_set hG.out]
          have := U_set zs k z [] (by omega)
          simp only [List.append_nil] at this
          rw [this]
      have HF := hide hfin
      clear hfin
      go_wp2_with fail
      all_goals
        go_roundw
        case rel =>
          exact ⟨k + 1, _, zs.set k _, by omega, by go_num, rfl, (HF.out _ (mod256 _)).1, hide (HF.out _ (mod256 _)).2.1, hide (HF.out _ (mod256 _)).2.2, hbr.setCell (by simp) _⟩
        case measure => simp [intOf]; omega
    · obtain rfl : k = n := by omega
      go_wp2_with fail
      go_ret
      exact ⟨zs, rfl, row_own w.heap.size (Nat.le_refl _) hG.out (by rw [U_length, hl]) hl (Nat.le_refl _) (by omega) (by rw [List.take_of_length_le (by rw [U_length, hl]; exact Nat.le_refl _)]), hl, hby.out, hbr⟩

/-- The state of 'many': the batch that grows. -/
structure Mn (w : World) (size : Nat) (u : Value) (k : Nat) (wr : World) : Prop where
  bel : Below w.heap.size w wr
  res : wr.heap[w.heap.size]? = some (.cells #[.int .i64 0, .int .i64 0, .int .i64 0, .slice none 0 0] 28 (0, 0))
  bat : wr.heap[w.heap.size + 1]? = some (.cells #[.int .i64 0, .int .i64 0, .int .i64 0, u] 28 (0, 0))
  ll : ∃ rs, LL wr (w.heap.size + 2) u rs ∧ rs.length = k ∧ ∀ r ∈ rs, r.2.length = size

section
variable {w W w5 : World} {size k : Nat} {u : Value}

theorem Mn.keep (h : Mn w size u k W) (hb : Below W.heap.size W w5) : Mn w size u k w5 := by
  obtain ⟨rs, hl, h1, h2⟩ := h.ll
  exact ⟨h.bel.trans (hb.mono h.bel.size), (hb.block _ (some_lt h.res)).trans h.res, (hb.block _ (some_lt h.bat)).trans h.bat, rs, hl.keep hb, h1, h2⟩

theorem Mn.c3 (h : Mn w size u k W) : W.cell? ⟨w.heap.size + 1, 3, none⟩ = some u := (row4 h.bat).2.2.2.1

theorem Mn.turn {v5 : Value} {l5 : List Int} (h : Mn w size u k W) (hv : w5.ownsRow W.heap.size 5 1 v5 l5.length (U l5)) (hby : ∀ z ∈ l5, 0 ≤ z ∧ z ≤ 255) (hsz : l5.length = size) (hb : Below W.heap.size W w5) :
    ∃ xs, w5.cell? ⟨w.heap.size + 1, 3, none⟩ = some u ∧ (w5.alloc (.cells #[v5] 22)).cell? ⟨w.heap.size + 1, 3, none⟩ = some u ∧ (w5.alloc (.cells #[v5] 22)).ownsRow (w.heap.size + 2) 22 1 u k xs ∧ w.heap.size + 2 ≤ w5.heap.size + 1 ∧
      ∀ (v6 : Value) (w6 : World), w6.ownsRow (w.heap.size + 2) 22 1 v6 (k + 1) (xs ++ [v5]) → (w5.alloc (.cells #[v5] 22)).grownBy w6 u.ownBlock →
        w6.cell? ⟨w.heap.size + 1, 3, none⟩ = some u ∧ w6.frozen? ⟨w.heap.size + 1, 3, none⟩ = false ∧ Mn w size v6 (k + 1) (w6.setCell ⟨w.heap.size + 1, 3, none⟩ v6) := by
  have h5 := h.keep hb
  have hs5 := hb.size
  have hsW := some_lt h.bat
  have h5' := h5.keep (fresh w5 (.cells #[v5] 22))
  obtain ⟨rs, hl0, hk, hr⟩ := h.ll
  have hl := (hl0.keep hb).keep (fresh w5 (.cells #[v5] 22))
  refine ⟨rs.map (·.1), h5.c3, h5'.c3, by rw [← hk]; exact hl.own, by omega, fun v6 w6 h6 hg => ?_⟩
  have hbar : Bar (fun k => u.ownBlock = some k) (w5.alloc (.cells #[v5] 22)) w6 := Bar.of_grown hg
  have hub : ∀ k, u.ownBlock = some k → w.heap.size + 2 ≤ k := fun k hk => own_from hl.own hk
  have hbat := (hbar.block _ (some_lt h5'.bat) (fun hh => by have := hub _ hh; omega)).trans h5'.bat
  have hres := (hbar.block _ (some_lt h5'.res) (fun hh => by have := hub _ hh; omega)).trans h5'.res
  have hv' : (w5.alloc (.cells #[v5] 22)).ownsRow (w.heap.size + 2) 5 1 v5 l5.length (U l5) := own_less (hv.alloc _) (by omega)
  have hL6 : LL w6 (w.heap.size + 2) v6 (rs ++ [(v5, l5)]) := by
    refine hl.more (n := k + 1) (qs := [(v5, l5)]) (by simpa using hv') (by simpa using hby) (by simp) ?_ (by simp [hk]) (by simpa using h6) hg
    intro r hr' q hq
    simp only [List.mem_singleton] at hq
    subst hq
    cases hrb : r.1.ownBlock with
    | none => exact .inl rfl
    | some x =>
      refine .inr (fun e => ?_)
      have h1 := ((hl0.row r hr').lt x hrb).2
      have h2 := (hv.lt x e.symm).1
      omega
  obtain ⟨_, _, _, c3, _, _, _, f3⟩ := row4 hbat
  refine ⟨c3, f3, ?_⟩
  have hset := Bar.set w6 (w.heap.size + 1) 3 v6
  have hbel : Below w.heap.size w w6 := h5'.bel.trans (hbar.below (fun i hi => by have := hub i hi; omega) (by simp; omega))
  refine ⟨hbel.setCell (by simp) _, (hset.block _ (some_lt hres) (by omega)).trans hres, ?_, rs ++ [(v5, l5)], hL6.bar hset (fun b hb' hh => ?_) (fun r hr b hb' hh => ?_), by simp [hk], fun r hr' => ?_⟩
  · rw [heap_setCell_same w6 _ 3 _ 28 _ hbat]
    rfl
  · have := own_from hL6.own hb'
    omega
  · have := own_from (hL6.row r hr) hb'
    omega
  · rcases List.mem_append.1 hr' with hr' | hr'
    · exact hr r hr'
    · simp only [List.mem_singleton] at hr'
      subst hr'
      exact hsz

end

set_option maxRecDepth 100000 in
set_option maxHeartbeats 4000000 in
theorem many_any (n size : Nat) (hn : n ≤ 1000) (hs0 : 0 < size) (hs : size ≤ 100000) (w : World) :
    Calls Try.prog 9 #[.int .i64 n, .int .i64 size] w fun e w' => ∃ va vc rs, e = .returned (bv 0 0 0 (.slice va n vc)) ∧ LL w' w.heap.size (.slice va n vc) rs ∧ rs.length = n ∧ (∀ r ∈ rs, r.2.length = size) ∧ Below w.heap.size w w' := by
  obtain ⟨i1, hi', hy0, hy1, hy2⟩ := info_parts info22
  have hM0 : Hid (Mn w size (.slice none 0 0) 0 ((w.alloc (.cells #[.int .i64 0, .int .i64 0, .int .i64 0, .slice none 0 0] 28)).alloc (.cells #[.int .i64 0, .int .i64 0, .int .i64 0, .slice none 0 0] 28))) := hide ⟨(fresh w _).alloc (by simp) _, by
      rw [Below.heap_alloc _ _ _ (by simp)]
      exact heap_alloc_new w _, by
      have := heap_alloc_new (w.alloc (.cells #[.int .i64 0, .int .i64 0, .int .i64 0, .slice none 0 0] 28)) (.cells #[.int .i64 0, .int .i64 0, .int .i64 0, .slice none 0 0] 28)
      rw [World.size_alloc] at this
      exact this, [], LL.nil _ _, rfl, by simp⟩
  go_enter Try.func9, Try.ntmps9
  go_wp2_with fail
  go_loopw [6] (fun i wr => ∃ (k : Nat) (u : Value), k ≤ n ∧ i = .int .i64 k ∧ Hid (Mn w size u k wr)) (fun i _ => n - (intOf i).toNat)
  case atStart => exact ⟨0, _, Nat.zero_le _, rfl, hM0⟩
  case round =>
    obtain ⟨k, u, hk, rfl, hM⟩ := hrel
    clear hM0
    by_cases hlt : k < n
    · have hc3 := hM.out.c3
      have hcall : ∀ W, Below wr.heap.size wr W → Calls Try.prog 32 #[.int .i64 k, .int .i64 size] W fun e w5 =>
          ∃ c5 xs, e = .returned (.slice c5 size size) ∧ w5.cell? ⟨w.heap.size + 1, 3, none⟩ = some u ∧ (w5.alloc (.cells #[.slice c5 size size] 22)).cell? ⟨w.heap.size + 1, 3, none⟩ = some u ∧ Hid ((w5.alloc (.cells #[.slice c5 size size] 22)).ownsRow (w.heap.size + 2) 22 1 u k xs) ∧ w.heap.size + 2 ≤ w5.heap.size + 1 ∧
            Hid (∀ (v6 : Value) (w6 : World), w6.ownsRow (w.heap.size + 2) 22 1 v6 (k + 1) (xs ++ [.slice c5 size size]) → (w5.alloc (.cells #[.slice c5 size size] 22)).grownBy w6 u.ownBlock →
              w6.cell? ⟨w.heap.size + 1, 3, none⟩ = some u ∧ w6.frozen? ⟨w.heap.size + 1, 3, none⟩ = false ∧ Mn w size v6 (k + 1) (w6.setCell ⟨w.heap.size + 1, 3, none⟩ v6)) := by
        intro W hb
        have hMW := hM.out.keep hb
        refine (made_any k size hs hs0 W).mono ?_
        rintro e w5 ⟨zs, rfl, hown5, hl5, hby5, hb5⟩
        obtain ⟨xs, c5, d5, ho, hs', ht⟩ := hMW.turn (l5 := zs) (by rw [hl5]; exact hown5) hby5 hl5 hb5
        exact ⟨_, xs, rfl, c5, d5, hide ho, hs', hide ht⟩
      have HC := hide hcall
      clear hcall
      go_wp2_with fail
      go_region_law (first
        | (refine step_append_lies _ (by rfl) (.tmp 13) (.tmp 17) 26 (by rfl) (w.heap.size + 2) 22 i1 (.slice none 0 0) 1 24 Try.underlying26 hi' hy0 hy1 hy2 rfl (by omega) u k xs5 (by simp [Act.eval]) ho5.out ⟨_, 0, none⟩ 1 1 [.slice c5 size size] (by simp [Act.eval]) rfl (cell_one_new _ _ _) (by simp [Value.oneCell']) (by omega) (by unfold maxLen; omega) (by omega) (by simp; omega) _ rfl ?_; intro g6 d6 w6 hown6 hgrow6 _ _; obtain ⟨c6, f6, hM6⟩ := ht5.out _ w6 hown6 hgrow6; have HM6 := hide hM6; clear hM6 hown6 hgrow6)
        | (go_simp; refine (HC.out _ ?_).mono ?_; exact (Below.refl _ wr).drew; rintro e w5 ⟨c5, xs5, rfl, cc5, cd5, ho5, hs5, ht5⟩))
      all_goals
        go_wp2_with fail
        go_roundw
        case rel => exact ⟨k + 1, _, by omega, by go_num, HM6⟩
        case measure => simp [intOf]; omega
    · obtain rfl : k = n := by omega
      obtain ⟨rs, hl, hrl, hrs⟩ := hM.out.ll
      obtain ⟨va, vc, hv⟩ := own_val hl.own
      rw [hrl] at hv
      subst hv
      obtain ⟨a0, a1, a2, a3, _⟩ := row4 hM.out.bat
      obtain ⟨r0, r1, r2, r3, g0, g1, g2, g3⟩ := row4 hM.out.res
      have F : Hid (LL (put4 wr w.heap.size (.int .i64 0) (.int .i64 0) (.int .i64 0) (.slice va k vc)) w.heap.size (.slice va k vc) rs ∧ Below w.heap.size w (put4 wr w.heap.size (.int .i64 0) (.int .i64 0) (.int .i64 0) (.slice va k vc))) :=
        hide ⟨(hl.put4 (by omega) _ _ _ _).less (by omega), below_put4 hM.out.bel (Nat.le_refl _) _ _ _ _⟩
      clear hl hM
      go_wp2_with fail
      refine bodyPost_ret (v := .agg #[.int .i64 0, .int .i64 0, .int .i64 0, .slice va k vc]) (by simp [results, Try.results9, go_sem, r0, r1, r2, r3]) rfl ?_
      exact ⟨va, vc, rs, rfl, F.out.1, hrl, hrs, F.out.2⟩

end Go.Proofs.Ytelfckhiafnniaa

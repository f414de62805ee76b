/-
  SumsBursts returns true: the change, and the law by steps.
-/
import Derived.Test.YtclhkngeicmlkaaSum
import Derived.Test.YtclhkngeicmlkaaSam
import Derived.Test.YtclhkngeicmlkaaCpy
import Derived.Test.YtclhkngeicmlkaaPik
namespace Go.Proofs.Ytclhkngeicmlkaa.sumsBursts
open Go.RowKit

theorem xor_u8_range (a b : Int) (h1 : 0 ≤ a) (h2 : a ≤ 255) (h3 : 0 ≤ b) (h4 : b ≤ 255) : 0 ≤ bits .xor .u8 a b ∧ bits .xor .u8 a b ≤ 255 := by
  rw [u8_xor a b h1 (by omega) h3 (by omega)]
  have := xor_lt256 (x := a.toNat) (y := b.toNat) (by omega) (by omega)
  omega

theorem cut3 (zs : List Int) (p k : Nat) : zs = zs.take p ++ (zs.drop p).take k ++ zs.drop (p + k) := by
  rw [List.append_assoc, ← List.drop_drop, List.take_append_drop, List.take_append_drop]

theorem burst_eq (zs ys : List Int) (p k : Nat) (hz : ∀ z ∈ zs, 0 ≤ z ∧ z ≤ 255) (hy : ∀ z ∈ ys, 0 ≤ z ∧ z ≤ 255) (hl : ys.length = zs.length) (h1 : ys.take p = zs.take p) (h2 : ys.drop (p + k) = zs.drop (p + k)) (hk : k ≤ 4)
    (h : more 0 zs = more 0 ys) : zs = ys := by
  have e : (zs.drop p).take k = (ys.drop p).take k := by
    refine burst (zs.take p) _ _ (zs.drop (p + k)) (take_byte (drop_byte hz _) _) (take_byte (drop_byte hy _) _) (drop_byte hz _) (by simp [hl]) (by simp; omega) ?_
    rw [← cut3 zs p k, ← h1, ← h2, ← cut3 ys p k]
    exact h
  rw [cut3 zs p k, cut3 ys p k, e, h1, h2]

/-- The list while it is changed: k bytes from place p on may be others. -/
structure Chg (zs ys : List Int) (p k : Nat) : Prop where
  len : ys.length = zs.length
  byte : ∀ z ∈ ys, 0 ≤ z ∧ z ≤ 255
  ahead : ys.take p = zs.take p
  behind : ys.drop (p + k) = zs.drop (p + k)

theorem Chg.step {zs ys : List Int} {p k : Nat} (h : Chg zs ys p k) (v : Int) (hv : 0 ≤ v ∧ v ≤ 255) : Chg zs (ys.set (p + k) v) p (k + 1) := by
  refine ⟨by rw [List.length_set, h.len], ?_, ?_, ?_⟩
  · intro z hz
    rcases List.mem_or_eq_of_mem_set hz with hz | rfl
    · exact h.byte z hz
    · exact hv
  · rw [List.take_set_of_le (by omega), h.ahead]
  · rw [List.drop_set_of_lt (by omega), ← Nat.add_assoc, ← List.drop_drop, h.behind, List.drop_drop]

theorem U_set (ys : List Int) (i : Nat) (v : Int) (rest : List Value) (h : i < ys.length) : (U ys ++ rest).set i (.int .u8 v) = U (ys.set i v) ++ rest := by
  rw [List.set_append_left _ _ (by rw [U_length]; exact h)]
  simp [U]

theorem U_cell {w : World} {g i : Nat} {ys : List Int} {rest : List Value} {t : TypeId} (hg : w.heap[g]? = some (.cells (U ys ++ rest).toArray t (0, 0))) (h : i < ys.length) : w.cell? ⟨g, i, none⟩ = some (.int .u8 (ys.getD i 0)) := by
  rw [cell_of_row w g i _ t (0, 0) hg]
  simp [U, List.getElem?_append_left, h, List.getD]

theorem own_heap {w : World} {base n cap g : Nat} {e : TypeId} {zs : List Int} (h : w.ownsRow base e 1 (.slice (some ⟨g, 0, none⟩) n cap) n (U zs)) :
    base ≤ g ∧ n ≤ cap ∧ cap ≤ maxLen ∧ ∃ rest : List Value, (U zs ++ rest).length = cap ∧ w.heap[g]? = some (.cells (U zs ++ rest).toArray e (0, 0)) := by
  rcases h.2 with ⟨h1, _⟩ | ⟨g', cap', cur, h1, hb, hh, hc, hm, hs, ht⟩
  · cases h1
  · simp only [Value.slice.injEq, Option.some.injEq, Addr.mk.injEq] at h1
    obtain ⟨⟨rfl, _, _⟩, _, rfl⟩ := h1
    rw [Nat.mul_one] at ht hs
    have e1 : U zs ++ cur.toList.drop n = cur.toList := by rw [← ht, List.take_append_drop]
    refine ⟨hb, hc, hm, cur.toList.drop n, ?_, ?_⟩
    · rw [e1]; simpa using hs
    · rw [e1]; simpa using hh

theorem bs_of {w : World} {g n cap : Nat} {ys : List Int} {rest : List Value} {t : TypeId} (hg : w.heap[g]? = some (.cells (U ys ++ rest).toArray t (0, 0))) (hc : (U ys ++ rest).length = cap) (hl : ys.length = n) (hm : cap ≤ maxLen) (hb : ∀ z ∈ ys, 0 ≤ z ∧ z ≤ 255) :
    Bs w (some ⟨g, 0, none⟩) n cap ys := by
  unfold maxLen at hm
  refine Bs.own hg hc hl (by rw [List.length_append, U_length] at hc; omega) (by omega) hb ?_
  rw [List.take_left' (by rw [U_length, hl])]
  rfl

set_option maxRecDepth 100000 in
set_option maxHeartbeats 2000000 in
theorem walk (a : Option Addr) (n cap : Nat) (zs : List Int) (x : Int) (c : Nat) (w : World) (hB : Bs w a n cap zs) :
    Calls Try.prog 5 #[.slice a n cap, .int .i64 x, .int .u32 c] w fun e w' => e = .returned (.bool true) ∧ Below w.heap.size w w' := by
  have hr := hB.reach
  have hle := hB.le
  have hl := hB.len
  by_cases hn : 20000 < n
  · go_enter Try.func5, Try.ntmps5
    go_wp2_with fail
    refine (awake_any w).mono ?_
    rintro e w1 ⟨rfl, b1⟩
    go_wp2_with fail
    go_ret
    exact ⟨rfl, b1⟩
  by_cases hn0 : n = 0
  · subst hn0
    go_enter Try.func5, Try.ntmps5
    go_wp2_with fail
    refine (awake_any w).mono ?_
    rintro e w1 ⟨rfl, b1⟩
    go_wp2_with fail
    go_ret
    exact ⟨rfl, b1⟩
  have q1 : decide (20000 < (n : Int)) = false := decide_eq_false (by omega)
  have q2 : ((n : Int) == 0) = false := by simp; omega
  go_enter Try.func5, Try.ntmps5
  go_wp2_with fail
  refine (pick_any x n w (by omega) (by omega)).mono ?_
  rintro e w1 ⟨p, hp, rfl, rfl⟩
  go_wp2_with fail
  refine (copy_any a n cap zs w1 hB (by omega)).mono ?_
  rintro e w2 ⟨c', d, rfl, hown, b2⟩
  obtain ⟨g, d', hsh⟩ := own_shape hown (by omega)
  simp only [Value.slice.injEq, true_and] at hsh
  obtain ⟨rfl, rfl⟩ := hsh
  obtain ⟨hg0, hd, hm, rest, hlen, hg⟩ := own_heap hown
  have HG := hide hg
  clear hown hg
  go_wp2_with fail
  go_loopw [8] (fun i wr => ∃ (k : Nat) (ys : List Int), k ≤ 4 ∧ p + k ≤ n ∧ i = .int .i64 k ∧ Chg zs ys p k ∧ Hid ((U ys ++ rest).length = d) ∧ Hid (wr.heap[g]? = some (.cells (U ys ++ rest).toArray 5 (0, 0))) ∧ Below w1.heap.size w1 wr)
    (fun i _ => 4 - (intOf i).toNat)
  case atStart => exact ⟨0, zs, Nat.zero_le _, by omega, rfl, ⟨rfl, hB.byte, rfl, rfl⟩, hide hlen, HG, b2⟩
  case round =>
    obtain ⟨k, ys, hk, hpk, rfl, hch, hL, hG, hb⟩ := hrel
    by_cases hlt : k < 4 ∧ p + k < n
    · obtain ⟨hlt1, hlt2⟩ := hlt
      have hcell := U_cell (i := p + k) hG.out (by rw [hch.len, hl]; exact hlt2)
      have hfz : wr.frozen? ⟨g, p + k, none⟩ = false := heap_free hG.out
      have hy := getD_byte hch.byte (p + k)
      rw [List.getD] at hcell
      generalize ys[p + k]?.getD 0 = y at hcell hy
      go_wp2_with fail
      go_roundw
      case rel =>
        refine ⟨k + 1, ys.set (p + k) (bits .xor .u8 y ((c : Int) / 2 ^ (8 * k) % 256)), by omega, by omega, by go_num, hch.step _ (xor_u8_range _ _ hy.1 hy.2 (Int.emod_nonneg _ (by decide)) (by omega)), hide ?_, hide ?_, hb.setCell hg0 _⟩
        · rw [← hL.out, List.length_append, List.length_append, U_length, U_length, List.length_set]
        · rw [heap_set hG.out, U_set _ _ _ _ (by rw [hch.len, hl]; exact hlt2)]
      case measure => simp [intOf]; omega
    · obtain ⟨wl, hwl⟩ : ∃ wl : World, wl = wr := ⟨_, rfl⟩
      subst hwl
      have HB := hB.keep hb
      have HY := bs_of hG.out hL.out (by rw [hch.len, hl]) hm hch.byte
      have hX : more 0 zs = more 0 ys → zs = ys := burst_eq zs ys p k hB.byte hch.byte hch.len hch.ahead hch.behind hk
      have h1 := crc_any _ _ _ _ _ HB
      have h2 : ∀ w', Below wl.heap.size wl w' → Calls Try.prog 7 #[.slice (some ⟨g, 0, none⟩) n d] w' fun e w'' => e = .returned (.int .u32 (more 0 ys)) ∧ Below w'.heap.size w' w'' := fun w' hb' => crc_any _ _ _ _ _ (HY.keep hb')
      have h3 : ∀ w', Below wl.heap.size wl w' → Calls Try.prog 16 #[.slice a n cap, .slice (some ⟨g, 0, none⟩) n d] w' fun e w'' => e = .returned (.bool (decide (zs = ys))) ∧ w'' = w' := fun w' hb' => same_any _ _ _ _ _ _ _ _ _ (HB.keep hb') (HY.keep hb')
      have hdec : ((more 0 zs : Int) == (more 0 ys : Int)) = decide (zs = ys) := by
        by_cases hzy : zs = ys
        · subst hzy; simp
        · have : ¬ (more 0 zs = more 0 ys) := fun h => hzy (hX h)
          simp [hzy]; omega
      have H1 := hide h1
      have H2 := hide h2
      have H3 := hide h3
      clear h1 h2 h3 hX HB HY hch hG hL HG
      generalize more 0 zs = X at H1 hdec
      generalize more 0 ys = Y at H2 hdec
      generalize decide (zs = ys) = B at H3 hdec
      rcases (show k < 4 ∧ p + k = n ∨ k = 4 from by omega) with ⟨h4, h5⟩ | h4
      all_goals
        go_wp2_with fail
        refine H1.out.mono ?_
        rintro e w3 ⟨rfl, b3⟩
        go_wp2_with fail
        refine (H2.out w3 b3).mono ?_
        rintro e w4 ⟨rfl, b4⟩
        replace b4 := b3.trans (b4.mono b3.size)
        go_wp2_with fail
        refine (H3.out w4 b4).mono ?_
        rintro e w5 ⟨rfl, h6⟩
        subst h6
        go_wp2_with fail
        refine (awake_any _).mono ?_
        rintro e w6 ⟨rfl, b6⟩
        go_wp2_with fail
        go_ret
        replace b6 := b4.trans (b6.mono b4.size)
        exact ⟨rfl, hb.trans (b6.mono hb.size)⟩

end Go.Proofs.Ytclhkngeicmlkaa.sumsBursts

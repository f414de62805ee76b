/-
  The document's Without: a list of numbers without the one at a place.
-/
import Derived.Test.YtennciddjkijaaaCub
import Derived.Test.YtennciddjkijaaaQvsI
namespace Go.Proofs.Ytennciddjkijaaa.QI
open Go.RowKit
set_option maxRecDepth 100000
set_option maxRecDepth 20000
set_option linter.unusedSimpArgs false

/-- The first k things without the one at place i. -/
theorem wo_take {xs : List Int} {i : Int} {k : Nat} (hk : k < xs.length) (hne : (k : Int) ≠ i) : wo (xs.take (k + 1)) i = wo (xs.take k) i ++ [xs.getD k 0] := by
  have e : xs.take (k + 1) = xs.take k ++ [xs.getD k 0] := by
    rw [List.take_succ_eq_append_getElem hk]
    simp [List.getD, List.getElem?_eq_getElem hk]
  have hl : (xs.take k).length = k := by rw [List.length_take]; omega
  have hl' : (xs.take (k + 1)).length = k + 1 := by rw [List.length_take]; omega
  unfold wo
  rw [hl, hl']
  by_cases h : 0 ≤ i ∧ i < (k : Int)
  · rw [if_pos (by omega), if_pos h, e, List.eraseIdx_append_of_lt_length (by rw [hl]; omega)]
  · rw [if_neg h, if_neg (by omega), e]

theorem wo_skip {xs : List Int} {k : Nat} (hk : k < xs.length) : wo (xs.take (k + 1)) (k : Int) = wo (xs.take k) (k : Int) := by
  have e : xs.take (k + 1) = xs.take k ++ [xs.getD k 0] := by
    rw [List.take_succ_eq_append_getElem hk]
    simp [List.getD, List.getElem?_eq_getElem hk]
  have hl : (xs.take k).length = k := by rw [List.length_take]; omega
  have hl' : (xs.take (k + 1)).length = k + 1 := by rw [List.length_take]; omega
  unfold wo
  rw [hl, hl', if_pos (by omega), if_neg (by omega), e, Int.toNat_natCast, List.eraseIdx_append_of_length_le (by omega), hl]
  simp

theorem W_one' (x : Int) : W [x] = [(Value.int .i64) x] := rfl

theorem wo_length_le (xs : List Int) (i : Int) : (wo xs i).length ≤ xs.length := by
  unfold wo
  split
  · rw [List.length_eraseIdx]
    split <;> omega
  · exact Nat.le_refl _

set_option maxHeartbeats 1000000 in
theorem without_any {w : World} {a : Option Addr} {n cap : Nat} {xs : List Int} (hA : Ls w a n cap xs) (hn : n ≤ Mx) (i : Int) :
    Calls Try.prog 70 #[.slice a n cap, .int .i64 i] w fun e w' => ∃ v, e = .returned v ∧ w'.ownsRow w.heap.size 3 1 v (wo xs i).length (W (wo xs i)) ∧ Below w.heap.size w w' := by
  obtain ⟨i0, hi, hz0, hz1, hz2⟩ := info_parts infoE
  have hla := hA.len
  have hea := hA.le
  have hra := hA.reach
  unfold Mx at hn
  have HL := hide hla
  have HA := hide hA
  clear hla hA
  go_enter Try.func70, Try.ntmps70
  go_wp2_with fail
  go_loopw [5, 6] (fun v j wr => ∃ k : Nat, k ≤ n ∧ j = .int .i64 k ∧ Hid (wr.ownsRow w.heap.size 3 1 v (wo (xs.take k) i).length (W (wo (xs.take k) i))) ∧ Below w.heap.size w wr) (fun _ j _ => n - (intOf j).toNat)
  case atStart =>
    have e : wo (xs.take 0) i = [] := by
      unfold wo
      rw [List.take_zero, if_neg (by simp only [List.length_nil]; omega)]
    exact ⟨0, Nat.zero_le _, rfl, hide (by rw [e]; exact ⟨rfl, .inl ⟨rfl, rfl⟩⟩), Below.refl _ _⟩
  case round =>
    obtain ⟨k, hk, rfl, hown, hb⟩ := hrel
    by_cases hlt : k < n
    · have hkx : k < xs.length := by rw [HL.out]; exact hlt
      by_cases hik : (k : Int) = i
      · have HO : Hid (wr.ownsRow w.heap.size 3 1 u5 (wo (xs.take (k + 1)) i).length (W (wo (xs.take (k + 1)) i))) := hide (by rw [← hik, wo_skip hkx, hik]; exact hown.out)
        subst hik
        clear hown hkx
        go_wp2_with fail
        go_roundw
        case rel => exact ⟨k + 1, by omega, by go_num, HO, hb⟩
        case measure => simp [intOf]; omega
      · obtain ⟨b1, o1, rfl, hc1⟩ := (HA.out.keep hb).lies (by omega)
        have hk1 := hc1 k hlt
        have hsn := wo_take hkx hik
        have hml : (wo (xs.take k) i).length ≤ k := Nat.le_trans (wo_length_le _ _) (List.length_take_le _ _)
        have HS := hide hsn
        clear hc1 hsn
        generalize xs.getD k 0 = x at *
        generalize wo (xs.take k) i = ys at *
        obtain ⟨m, hm⟩ : ∃ m, Hid (m = ys.length) := ⟨_, hide rfl⟩
        rw [← hm.out] at hml hown
        have hwl := hb.size
        have FB : Hid (∀ w6, (wr.alloc (.cells #[.int .i64 x] 3)).grownBy w6 u5.ownBlock → Below w.heap.size w w6) := hide (fun w6 h2 => (hb.alloc hwl _).grown h2 (by simp; omega) (fun y hy => (hown.out.lt y hy).1))
        have HO5 := hide (hown.out.alloc (.cells #[.int .i64 x] 3))
        clear hown hkx
        go_wp2_with (at_builtin; refine wpList_append_own _ rfl _ _ 34 rfl w.heap.size 3 i0 (.int .i64 0) 1 8 Try.underlying34 hi hz0 hz1 hz2 rfl (by omega) _ _ _ rfl HO5.out ⟨_, 0, none⟩ 1 1 [.int .i64 x] rfl rfl (cell_one_new _ _ _) (by simp [Value.oneCell']) (by unfold maxLen; omega) (by omega) (by simp; omega) ?_; intro v6 w6 hown6 hgrow6 _)
        have HO6 := hide hown6
        have HB6 := hide (FB.out w6 hgrow6)
        clear hown6 hgrow6
        go_roundw
        case rel => exact ⟨k + 1, by omega, by go_num, hide (by rw [HS.out, W_append, W_one', List.length_append, ← hm.out]; exact HO6.out), HB6.out⟩
        case measure => simp [intOf]; omega
    · obtain rfl : k = n := by omega
      have HO := hown
      clear hown
      go_wp2_with fail
      go_ret
      rw [List.take_of_length_le (by rw [HL.out]; exact Nat.le_refl _)] at HO
      exact ⟨_, rfl, HO.out, hb⟩

end Go.Proofs.Ytennciddjkijaaa.QI

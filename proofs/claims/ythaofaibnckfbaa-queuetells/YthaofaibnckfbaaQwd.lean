/-
  What QueueTells asks beside the queue: CopyInts, the document's Without and Odd.
-/
import Derived.Test.YthaofaibnckfbaaQwa
import Derived.Test.YthaofaibnckfbaaQbsI
import Derived.Test.YthaofaibnckfbaaQop
namespace Go.Proofs.Ythaofaibnckfbaa.QI
open Go.RowKit

set_option maxHeartbeats 1000000 in
theorem copy_any {w : World} {a : Option Addr} {n cap : Nat} {xs : List Int} (hA : Ls w a n cap xs) (hn : n ≤ Mx) :
    Calls Try.prog 7 #[.slice a n cap] w fun e w' => ∃ c d, e = .returned (.slice c n d) ∧ w'.ownsRow w.heap.size 3 1 (.slice c n d) xs.length (W xs) ∧ Below w.heap.size w w' := by
  obtain ⟨i0, hi, hz0, hz1, hz2⟩ := info_parts infoE
  have hla := hA.len
  have hea := hA.le
  have hra := hA.reach
  unfold Mx at hn
  have HL := hide hla
  have HA := hide hA
  clear hla hA
  go_enter Try.func7, Try.ntmps7
  go_wp2_with fail
  go_loopw [3, 4] (fun v i wr => ∃ k : Nat, k ≤ n ∧ i = .int .i64 k ∧ Hid (wr.ownsRow w.heap.size 3 1 v k (W (xs.take k))) ∧ Below w.heap.size w wr) (fun _ i _ => n - (intOf i).toNat)
  case atStart => exact ⟨0, Nat.zero_le _, rfl, hide ⟨rfl, .inl ⟨rfl, rfl⟩⟩, Below.refl _ _⟩
  case round =>
    obtain ⟨k, hk, rfl, hown, hb⟩ := hrel
    by_cases hlt : k < n
    · have hkx : k < xs.length := by rw [HL.out]; exact hlt
      obtain ⟨b1, o1, rfl, hc1⟩ := (HA.out.keep hb).lies (by omega)
      have hk1 := hc1 k hlt
      have hsn : Hid (W (xs.take (k + 1)) = W (xs.take k) ++ [.int .i64 (xs.getD k 0)]) := hide (by
        rw [List.take_succ_eq_append_getElem hkx, W_append]
        simp [W, List.getD, List.getElem?_eq_getElem hkx])
      clear hc1
      generalize xs.getD k 0 = x at *
      have hwl := hb.size
      have FB : Hid (∀ w6, (wr.alloc (.cells #[.int .i64 x] 3)).grownBy w6 u3.ownBlock → Below w.heap.size w w6) := hide (fun w6 h2 => (hb.alloc hwl _).grown h2 (by simp; omega) (fun y hy => (hown.out.lt y hy).1))
      have HO5 := hide (hown.out.alloc (.cells #[.int .i64 x] 3))
      clear hown hkx
      go_wp2_with (at_builtin; refine wpList_append_own _ rfl _ _ 22 rfl w.heap.size 3 i0 (.int .i64 0) 1 8 Try.underlying22 hi hz0 hz1 hz2 rfl (by omega) _ _ _ rfl HO5.out ⟨_, 0, none⟩ 1 1 [.int .i64 x] rfl rfl (cell_one_new _ _ _) (by simp [Value.oneCell']) (by unfold maxLen; omega) (by omega) (by simp; omega) ?_; intro v6 w6 hown6 hgrow6 _)
      have HO6 := hide hown6
      have HB6 := hide (FB.out w6 hgrow6)
      clear hown6 hgrow6
      go_roundw
      case rel => exact ⟨k + 1, by omega, by go_num, hide (by rw [hsn.out]; exact HO6.out), HB6.out⟩
      case measure => simp [intOf]; omega
    · obtain rfl : k = n := by omega
      obtain ⟨va, vc, rfl⟩ := row_val hown.out
      have HO := hown
      clear hown
      go_wp2_with fail
      go_ret
      rw [List.take_of_length_le (by rw [HL.out]; exact Nat.le_refl _)] at HO
      exact ⟨_, _, rfl, by rw [HL.out]; exact HO.out, hb⟩

/-- The first k things without the one at place i. -/
theorem wo_take {xs : List Int} {i : Int} {k : Nat} (hk : k < xs.length) (hne : (k : Int) ≠ i) : wo (xs.take (k + 1)) i = wo (xs.take k) i ++ [xs.getD k 0] := by
  have e : xs.take (k + 1) = xs.take k ++ [xs.getD k 0] := by
    rw [List.take_succ_eq_append_getElem hk]
    simp [List.getD, List.getElem?_eq_getElem hk]
  have hl : (xs.take k).length = k := by rw [List.length_take]; omega
  have hl' : (xs.take (k + 1)).length = k + 1 := by rw [List.length_take]; omega
  unfold wo
  rw [hl, hl']
  by_cases h : 0 ≤ i ∧ i < (k : Int)
  · rw [if_pos (by omega), if_pos h, e, List.eraseIdx_append_of_lt_length (by rw [hl]; omega)]
  · rw [if_neg h, if_neg (by omega), e]

theorem wo_skip {xs : List Int} {k : Nat} (hk : k < xs.length) : wo (xs.take (k + 1)) (k : Int) = wo (xs.take k) (k : Int) := by
  have e : xs.take (k + 1) = xs.take k ++ [xs.getD k 0] := by
    rw [List.take_succ_eq_append_getElem hk]
    simp [List.getD, List.getElem?_eq_getElem hk]
  have hl : (xs.take k).length = k := by rw [List.length_take]; omega
  have hl' : (xs.take (k + 1)).length = k + 1 := by rw [List.length_take]; omega
  unfold wo
  rw [hl, hl', if_pos (by omega), if_neg (by omega), e, Int.toNat_natCast, List.eraseIdx_append_of_length_le (by omega), hl]
  simp

theorem wo_length_le (xs : List Int) (i : Int) : (wo xs i).length ≤ xs.length := by
  unfold wo
  split
  · rw [List.length_eraseIdx]
    split <;> omega
  · exact Nat.le_refl _

set_option maxHeartbeats 1000000 in
theorem without_any {w : World} {a : Option Addr} {n cap : Nat} {xs : List Int} (hA : Ls w a n cap xs) (hn : n ≤ Mx) (i : Int) :
    Calls Try.prog 10 #[.slice a n cap, .int .i64 i] w fun e w' => ∃ v, e = .returned v ∧ w'.ownsRow w.heap.size 3 1 v (wo xs i).length (W (wo xs i)) ∧ Below w.heap.size w w' := by
  obtain ⟨i0, hi, hz0, hz1, hz2⟩ := info_parts infoE
  have hla := hA.len
  have hea := hA.le
  have hra := hA.reach
  unfold Mx at hn
  have HL := hide hla
  have HA := hide hA
  clear hla hA
  go_enter Try.func10, Try.ntmps10
  go_wp2_with fail
  go_loopw [5, 6] (fun v j wr => ∃ k : Nat, k ≤ n ∧ j = .int .i64 k ∧ Hid (wr.ownsRow w.heap.size 3 1 v (wo (xs.take k) i).length (W (wo (xs.take k) i))) ∧ Below w.heap.size w wr) (fun _ j _ => n - (intOf j).toNat)
  case atStart =>
    have e : wo (xs.take 0) i = [] := by
      unfold wo
      rw [List.take_zero, if_neg (by simp only [List.length_nil]; omega)]
    exact ⟨0, Nat.zero_le _, rfl, hide (by rw [e]; exact ⟨rfl, .inl ⟨rfl, rfl⟩⟩), Below.refl _ _⟩
  case round =>
    obtain ⟨k, hk, rfl, hown, hb⟩ := hrel
    by_cases hlt : k < n
    · have hkx : k < xs.length := by rw [HL.out]; exact hlt
      by_cases hik : (k : Int) = i
      · have HO : Hid (wr.ownsRow w.heap.size 3 1 u5 (wo (xs.take (k + 1)) i).length (W (wo (xs.take (k + 1)) i))) := hide (by rw [← hik, wo_skip hkx, hik]; exact hown.out)
        subst hik
        clear hown hkx
        go_wp2_with fail
        go_roundw
        case rel => exact ⟨k + 1, by omega, by go_num, HO, hb⟩
        case measure => simp [intOf]; omega
      · obtain ⟨b1, o1, rfl, hc1⟩ := (HA.out.keep hb).lies (by omega)
        have hk1 := hc1 k hlt
        have hsn := wo_take hkx hik
        have hml : (wo (xs.take k) i).length ≤ k := Nat.le_trans (wo_length_le _ _) (List.length_take_le _ _)
        have HS := hide hsn
        clear hc1 hsn
        generalize xs.getD k 0 = x at *
        generalize wo (xs.take k) i = ys at *
        obtain ⟨m, hm⟩ : ∃ m, Hid (m = ys.length) := ⟨_, hide rfl⟩
        rw [← hm.out] at hml hown
        have hwl := hb.size
        have FB : Hid (∀ w6, (wr.alloc (.cells #[.int .i64 x] 3)).grownBy w6 u5.ownBlock → Below w.heap.size w w6) := hide (fun w6 h2 => (hb.alloc hwl _).grown h2 (by simp; omega) (fun y hy => (hown.out.lt y hy).1))
        have HO5 := hide (hown.out.alloc (.cells #[.int .i64 x] 3))
        clear hown hkx
        go_wp2_with (at_builtin; refine wpList_append_own _ rfl _ _ 22 rfl w.heap.size 3 i0 (.int .i64 0) 1 8 Try.underlying22 hi hz0 hz1 hz2 rfl (by omega) _ _ _ rfl HO5.out ⟨_, 0, none⟩ 1 1 [.int .i64 x] rfl rfl (cell_one_new _ _ _) (by simp [Value.oneCell']) (by unfold maxLen; omega) (by omega) (by simp; omega) ?_; intro v6 w6 hown6 hgrow6 _)
        have HO6 := hide hown6
        have HB6 := hide (FB.out w6 hgrow6)
        clear hown6 hgrow6
        go_roundw
        case rel => exact ⟨k + 1, by omega, by go_num, hide (by rw [HS.out, W_append, W_one', List.length_append, ← hm.out]; exact HO6.out), HB6.out⟩
        case measure => simp [intOf]; omega
    · obtain rfl : k = n := by omega
      have HO := hown
      clear hown
      go_wp2_with fail
      go_ret
      rw [List.take_of_length_le (by rw [HL.out]; exact Nat.le_refl _)] at HO
      exact ⟨_, rfl, HO.out, hb⟩

/-- Odd numbers. -/
def od (x : Int) : Bool := decide (x.tmod 2 ≠ 0)

theorem tmod2 (x : Int) : -1 ≤ x.tmod 2 ∧ x.tmod 2 ≤ 1 := by
  rcases Int.le_total 0 x with h | h
  · rw [Int.tmod_eq_emod_of_nonneg h]
    omega
  · obtain ⟨y, rfl⟩ : ∃ y, x = -y := ⟨-x, by omega⟩
    rw [Int.neg_tmod, Int.tmod_eq_emod_of_nonneg (by omega)]
    omega

theorem asks_odd : Asks 14 od where
  enter := fun _ _ => by go_simp
  call := by
    intro x w
    obtain ⟨r, hr⟩ : ∃ r, x.tmod 2 = r := ⟨_, rfl⟩
    have hb := tmod2 x
    have ho : od x = decide (r ≠ 0) := by unfold od; rw [hr]
    rw [hr] at hb
    rw [ho]
    obtain ⟨h1, h2⟩ := hb
    clear ho
    by_cases h0 : r = 0
    · subst h0
      go_enter Try.func14, Try.ntmps14
      go_wp2_with fail
      go_ret
      exact ⟨rfl, rfl⟩
    · go_enter Try.func14, Try.ntmps14
      go_wp2_with fail
      go_ret
      refine ⟨?_, rfl⟩
      simp [h0]

set_option maxHeartbeats 1000000 in
theorem odd_any {w : World} {a : Option Addr} {n cap : Nat} {xs : List Int} (hA : Ls w a n cap xs) (hn : n ≤ Mx) :
    Calls Try.prog 15 #[.slice a n cap] w fun e w' => ∃ v, e = .returned (.tuple #[v, .int .i64 ((xs.length : Int) - ((xs.filter fun x => !od x).length : Int))]) ∧ w'.ownsRow w.heap.size 3 1 v (xs.filter fun x => !od x).length (W (xs.filter fun x => !od x)) ∧ Below w.heap.size w w' := by
  obtain ⟨i0, hi, hz0, hz1, hz2⟩ := info_parts infoE
  have hla := hA.len
  have hea := hA.le
  have hra := hA.reach
  unfold Mx at hn
  have HL := hide hla
  have HA := hide hA
  clear hla hA
  go_enter Try.func15, Try.ntmps15
  go_wp2_with fail
  go_loopw [4, 5, 6] (fun v c j wr => ∃ k m : Nat, k ≤ n ∧ j = .int .i64 k ∧ m ≤ k ∧ c = .int .i64 ((k : Int) - (m : Int)) ∧ Hid (m = ((xs.take k).filter fun x => !od x).length) ∧ Hid (wr.ownsRow w.heap.size 3 1 v m (W ((xs.take k).filter fun x => !od x))) ∧ Below w.heap.size w wr) (fun _ _ j _ => n - (intOf j).toNat)
  case atStart => exact ⟨0, 0, Nat.zero_le _, rfl, Nat.zero_le _, rfl, hide rfl, hide ⟨rfl, .inl ⟨rfl, rfl⟩⟩, Below.refl _ _⟩
  case round =>
    obtain ⟨k, m, hk, rfl, hmk, rfl, hm, hown, hb⟩ := hrel
    by_cases hlt : k < n
    · have hkx : k < xs.length := by rw [HL.out]; exact hlt
      obtain ⟨b1, o1, rfl, hc1⟩ := (HA.out.keep hb).lies (by omega)
      have hk1 := hc1 k hlt
      have hsn : (xs.take (k + 1)).filter (fun x => !od x) = (xs.take k).filter (fun x => !od x) ++ if od (xs.getD k 0) then [] else [xs.getD k 0] := by
        rw [List.take_succ_eq_append_getElem hkx, List.filter_append]
        simp only [List.getD, List.getElem?_eq_getElem hkx, Option.getD_some]
        by_cases hh : od xs[k] = true
        · simp [hh]
        · simp only [Bool.not_eq_true] at hh
          simp [hh]
      have HS := hide hsn
      clear hc1 hsn hkx
      generalize xs.getD k 0 = x at *
      generalize ((xs.take k).filter fun x => !od x) = ys at *
      obtain ⟨r, hr⟩ : ∃ r, x.tmod 2 = r := ⟨_, rfl⟩
      have hbr := tmod2 x
      have ho : od x = decide (r ≠ 0) := by unfold od; rw [hr]
      rw [hr] at hbr
      obtain ⟨hr1, hr2⟩ := hbr
      by_cases h0 : r = 0
      · subst h0
        have HS' : Hid ((xs.take (k + 1)).filter (fun x => !od x) = ys ++ [x]) := hide (by rw [HS.out, ho]; simp)
        have hwl := hb.size
        have FB : Hid (∀ w6, (wr.alloc (.cells #[.int .i64 x] 3)).grownBy w6 u4.ownBlock → Below w.heap.size w w6) := hide (fun w6 h2 => (hb.alloc hwl _).grown h2 (by simp; omega) (fun y hy => (hown.out.lt y hy).1))
        have HO5 := hide (hown.out.alloc (.cells #[.int .i64 x] 3))
        clear hown ho HS
        go_wp2_with (at_builtin; refine wpList_append_own _ rfl _ _ 22 rfl w.heap.size 3 i0 (.int .i64 0) 1 8 Try.underlying22 hi hz0 hz1 hz2 rfl (by omega) _ _ _ rfl HO5.out ⟨_, 0, none⟩ 1 1 [.int .i64 x] rfl rfl (cell_one_new _ _ _) (by simp [Value.oneCell']) (by unfold maxLen; omega) (by omega) (by simp; omega) ?_; intro v6 w6 hown6 hgrow6 _)
        have HO6 := hide hown6
        have HB6 := hide (FB.out w6 hgrow6)
        clear hown6 hgrow6
        go_roundw
        case rel => exact ⟨k + 1, m + 1, by omega, by go_num, by omega, by go_num, hide (by rw [HS'.out, List.length_append, ← hm.out]; rfl), hide (by rw [HS'.out, W_append, W_one']; exact HO6.out), HB6.out⟩
        case measure => simp [intOf]; omega
      · have HS' : Hid ((xs.take (k + 1)).filter (fun x => !od x) = ys) := hide (by rw [HS.out, ho]; simp [h0])
        clear ho HS
        go_wp2_with fail
        go_roundw
        case rel => exact ⟨k + 1, m, by omega, by go_num, by omega, by go_num, hide (by rw [HS'.out]; exact hm.out), hide (by rw [HS'.out]; exact hown.out), hb⟩
        case measure => simp [intOf]; omega
    · obtain rfl : k = n := by omega
      have HO := hown
      clear hown
      go_wp2_with fail
      go_ret2
      rw [List.take_of_length_le (by rw [HL.out]; exact Nat.le_refl _)] at HO hm
      exact ⟨u4, by rw [HL.out, hm.out]; rfl, by rw [← hm.out]; exact HO.out, hb⟩

end Go.Proofs.Ythaofaibnckfbaa.QI

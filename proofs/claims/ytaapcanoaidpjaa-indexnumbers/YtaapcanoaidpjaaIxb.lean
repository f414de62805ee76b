/-
  areSizes: whether numbers are sizes.
-/
import Derived.Test.YtaapcanoaidpjaaIxa
namespace Go.Proofs.Ytaapcanoaidpjaa
open Go.RowKit

/-- A size: from 0 to 2^30. -/
def Sz (z : Int) : Prop := 0 ≤ z ∧ z ≤ 1073741824
instance (z : Int) : Decidable (Sz z) := by unfold Sz; infer_instance

theorem not_size_any (z : Int) (w : World) : Calls Try.prog 22 #[.int .i64 z] w fun e w' => e = .returned (.bool (!decide (Sz z))) ∧ w' = w := by
  by_cases h1 : z < 0
  · go_enter Try.func22, Try.ntmps22
    go_wp2
    go_ret
    refine ⟨?_, rfl⟩
    rw [decide_eq_false (by unfold Sz; omega)]
    rfl
  · by_cases h2 : 1073741824 < z
    · go_enter Try.func22, Try.ntmps22
      go_wp2
      go_ret
      refine ⟨?_, rfl⟩
      rw [decide_eq_false (by unfold Sz; omega)]
      rfl
    · go_enter Try.func22, Try.ntmps22
      go_wp2
      go_ret
      refine ⟨?_, rfl⟩
      rw [decide_eq_true (by unfold Sz; omega)]
      rfl

set_option maxHeartbeats 1000000 in
theorem index_any (fn : Value) (hfn : fn = .func (.func 22) #[] #[]) (a : Option Addr) (n cap : Nat) (zs : List Int) (w : World) (hA : Is w a n cap zs) :
    Calls Try.prog 23 #[.slice a n cap, fn] w fun e w' => (∃ r : Int, e = .returned (.int .i64 r) ∧ (r < 0 ↔ ∀ z ∈ zs, Sz z) ∧ -1 ≤ r) ∧ w' = w := by
  subst hfn
  have hla := hA.len
  have hea := hA.le
  have hra := hA.reach
  go_enter Try.func23, Try.ntmps23
  go_wp2_with fail
  go_loopw [8] (fun i wr => ∃ k : Nat, k ≤ n ∧ i = .int .i64 k ∧ wr = w ∧ Hid (∀ z ∈ zs.take k, Sz z)) (fun i _ => n - (intOf i).toNat)
  case atStart => exact ⟨0, Nat.zero_le _, rfl, rfl, hide (by simp)⟩
  case round =>
    obtain ⟨k, hk, rfl, rfl, hall⟩ := hrel
    by_cases hlt : k < n
    · obtain ⟨b1, o1, rfl, hc1⟩ := hA.lies (by omega)
      have hk1 := hc1 k hlt
      have hmem : zs.getD k 0 ∈ zs := by simp [List.getD, List.getElem?_eq_getElem (by omega : k < zs.length)]
      have hnext := take_snoc (d := (0 : Int)) zs k (by omega)
      generalize zs.getD k 0 = z at *
      have C := not_size_any z wr
      clear hc1
      by_cases hs : Sz z
      · simp only [hs, decide_true, Bool.not_true] at C
        have HN := hide hnext
        clear hnext hmem
        have HS := hide hs
        clear hs
        go_wp2_with fail
        refine C.mono ?_
        rintro e w1 ⟨rfl, rfl⟩
        go_wp2_with fail
        go_roundw
        case rel =>
          refine ⟨k + 1, by omega, by go_num, by trivial, hide ?_⟩
          rw [HN.out]
          intro x hx
          rcases List.mem_append.1 hx with h | h
          · exact hall.out x h
          · simp only [List.mem_singleton] at h
            subst h
            exact HS.out
        case measure => simp [intOf]; omega
      · simp only [hs, decide_false, Bool.not_false] at C
        have HM := hide hmem
        have HS := hide hs
        clear hnext hmem hs
        go_wp2_with fail
        refine C.mono ?_
        rintro e w1 ⟨rfl, rfl⟩
        go_wp2_with fail
        go_ret
        exact ⟨⟨_, rfl, ⟨fun h => by omega, fun h => absurd (h _ HM.out) HS.out⟩, by omega⟩, rfl⟩
    · obtain rfl : k = n := by omega
      have HA : Hid (∀ z ∈ zs, Sz z) := hide (by have := hall.out; rwa [List.take_of_length_le (by omega)] at this)
      clear hall
      go_wp2_with fail
      go_ret
      exact ⟨⟨_, rfl, ⟨fun _ => HA.out, fun _ => by omega⟩, by omega⟩, rfl⟩

/-- Sizes: at most 65536 of them. -/
def Szs (zs : List Int) : Prop := zs.length ≤ 65536 ∧ ∀ z ∈ zs, Sz z
instance (zs : List Int) : Decidable (Szs zs) := by unfold Szs; infer_instance

set_option maxHeartbeats 1000000 in
theorem contains_any (a : Option Addr) (n cap : Nat) (zs : List Int) (w : World) (hA : Is w a n cap zs) :
    Calls Try.prog 21 #[.slice a n cap, .func (.func 22) #[] #[]] w fun e w' => e = .returned (.bool (!decide (∀ z ∈ zs, Sz z))) ∧ w' = w := by
  have C := index_any _ rfl a n cap zs w hA
  go_enter Try.func21, Try.ntmps21
  go_wp2_with fail
  refine C.mono ?_
  rintro e w1 ⟨⟨r, rfl, hr, hr1⟩, rfl⟩
  by_cases h : ∀ z ∈ zs, Sz z
  · have h0 := hr.2 h
    have HD := hide (decide_eq_true h)
    clear hr h
    have h1 : ¬ (0 : Int) ≤ r := by omega
    go_wp2_with fail
    go_ret
    refine ⟨?_, rfl⟩
    rw [HD.out]
    simp <;> omega
  · have h0 : 0 ≤ r := by
      have := mt hr.1 h
      omega
    have HD := hide (decide_eq_false h)
    clear hr h
    go_wp2_with fail
    go_ret
    refine ⟨?_, rfl⟩
    rw [HD.out]
    simp <;> omega

set_option maxHeartbeats 1000000 in
theorem areSizes_any (a : Option Addr) (n cap : Nat) (zs : List Int) (w : World) (hA : Is w a n cap zs) :
    Calls Try.prog 17 #[.slice a n cap] w fun e w' => e = .returned (.bool (decide (Szs zs))) ∧ w' = w := by
  have hla := hA.len
  have hea := hA.le
  have hra := hA.reach
  have C := contains_any a n cap zs w hA
  by_cases hn : n ≤ 65536
  · by_cases h : ∀ z ∈ zs, Sz z
    · simp only [decide_eq_true h, Bool.not_true] at C
      have HD := hide (decide_eq_true (show Szs zs from ⟨by omega, h⟩))
      clear h
      go_enter Try.func17, Try.ntmps17
      go_wp2_with fail
      refine C.mono ?_
      rintro e w1 ⟨rfl, rfl⟩
      go_wp2_with fail
      go_ret
      exact ⟨by rw [HD.out]; rfl, rfl⟩
    · simp only [decide_eq_false h, Bool.not_false] at C
      have HD := hide (decide_eq_false (show ¬ Szs zs from fun x => h x.2))
      clear h
      go_enter Try.func17, Try.ntmps17
      go_wp2_with fail
      refine C.mono ?_
      rintro e w1 ⟨rfl, rfl⟩
      go_wp2_with fail
      go_ret
      exact ⟨by rw [HD.out]; rfl, rfl⟩
  · have HD := hide (decide_eq_false (show ¬ Szs zs from fun x => hn (by have := x.1; omega)))
    clear C
    go_enter Try.func17, Try.ntmps17
    go_wp2_with fail
    go_ret
    exact ⟨by rw [HD.out]; rfl, rfl⟩

end Go.Proofs.Ytaapcanoaidpjaa

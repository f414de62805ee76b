/-
  Many steps: the tale, what pick a step has, Run.
-/
import Derived.Test.YtennciddjkijaaaCum
import Derived.Test.YtennciddjkijaaaCop
namespace Go.Proofs.Ytennciddjkijaaa
open Go.RowKit QI
set_option maxRecDepth 100000
set_option linter.unusedSimpArgs false

/-- The pick of a step. -/
def pk (us : List Nat) (k : Nat) : Nat := if us.length = 0 then 0 else us.getD (k % us.length) 0
/-- The tale behind so many steps. -/
def tlk (ps : List (List Dop)) (us : List Nat) (σ : Sg) : Nat → Sg
  | 0 => σ
  | k + 1 => (tlk ps us σ k).step ps (pk us k)

section
variable {w w' : World} {L B C : Nat} {σ τ : Sg} {F D Pb : Nat → Prop} {R : Nat} {bs : List Nat} {pa : Option Addr} {np pcap N : Nat} {ps : List (List Dop)} {us : List Nat} {ua : Option Addr} {ul uc : Nat}

theorem pk_le (hU : Uls w ua ul uc us) (k : Nat) : pk us k ≤ 18446744073709551615 := by
  unfold pk
  split
  · omega
  · rename_i h
    refine hU.few _ ?_
    have hl : k % us.length < us.length := Nat.mod_lt _ (by omega)
    simp [List.getD, List.getElem?_eq_getElem hl]

/-- Each tale that a runtime could have can be gone on with. -/
theorem Wt.tale (h : Wt w L B pa np pcap ps Pb R bs σ N F D) (hU : Uls w ua ul uc us) (k : Nat) (hN : N + k ≤ 400) : ∃ w' bs' F' D', Wt w' L B pa np pcap ps Pb R bs' (tlk ps us σ k) (N + k) F' D' := by
  induction k with
  | zero => exact ⟨w, bs, F, D, h⟩
  | succ k ih =>
    obtain ⟨w1, bs1, F1, D1, h1⟩ := ih (by omega)
    obtain ⟨e, w2, _, ⟨_, F2, D2, bs2, h2, _⟩, _⟩ := wstep h1 (by omega) (pk us k) (pk_le hU k) []
    exact ⟨w2, bs2, F2, D2, h2⟩
theorem Wt.tale_sk (h : Wt w L B pa np pcap ps Pb R bs σ N F D) (hU : Uls w ua ul uc us) (k : Nat) (hN : N + k ≤ 400) : Sk np (N + k) (tlk ps us σ k) := by
  obtain ⟨w1, bs1, F1, D1, h1⟩ := h.tale hU k hN
  exact h1.sk

set_option maxHeartbeats 1000000 in
theorem pickOf_any (hU : Uls w ua ul uc us) (k : Nat) (hk : k ≤ 1000000) :
    Calls Try.prog 56 #[.slice ua ul uc, .int .i64 k] w fun e w' => e = .returned (.int .u64 (pk us k : Nat)) ∧ w' = w := by
  have hl := hU.len
  have hle := hU.le
  have hre := hU.reach
  unfold pk
  by_cases h0 : ul = 0
  · subst h0
    rw [if_pos hl]
    clear hU
    go_enter Try.func56, Try.ntmps56
    go_wp2_with fail
    go_ret
    exact ⟨rfl, rfl⟩
  · rw [if_neg (by omega), hl]
    obtain ⟨ub, uo, hua, hcu⟩ := hU.lies (by omega)
    have hm : k % ul < ul := Nat.mod_lt _ (by omega)
    have hc := hcu _ hm
    subst hua
    have ht : (k : Int).tmod (ul : Int) = ((k % ul : Nat) : Int) := by
      rw [Int.tmod_eq_emod_of_nonneg (by omega)]
      simp
    generalize us.getD (k % ul) 0 = x at *
    obtain ⟨q, hq⟩ : ∃ q, Hid (q = k % ul) := ⟨_, hide rfl⟩
    rw [← hq.out] at hm hc ht
    have hwq : IntKind.i64.wrap (q : Int) = (q : Int) := by simp [IntKind.wrap, IntKind.signed, IntKind.bits]; omega
    have hrem : ∀ V : World, (Op.intDiv .rem .i64 (k : Int) (ul : Int)).run Try.prog V = .ok (.int .i64 (q : Int)) V := fun V => by
      simp [Op.intDiv, ht, hwq, show ul ≠ 0 by omega]
    have hne : ul ≠ 0 := by omega
    have h00 : ((ul : Int) == 0) = false := by rw [beq_eq_false_iff_ne]; omega
    have hqi : (q : Int) < (ul : Int) := by omega
    have hul9 : (ul : Int) ≤ 9223372036854775807 := by omega
    clear hU hl hcu
    go_enter Try.func56, Try.ntmps56
    go_wp2_with fail
    go_ret
    exact ⟨rfl, rfl⟩

/-- Where many steps end. -/
structure Ends (ps : List (List Dop)) (us : List Nat) (σ : Sg) (most : Int) (n : Nat) : Prop where
  le : n ≤ 300
  more : ∀ j, j < n → (tlk ps us σ j).line ≠ [] ∧ (j : Int) < most
  stop : ¬ ((n : Int) < most) ∨ (tlk ps us σ n).line = []

set_option maxHeartbeats 2000000 in
theorem Bo.run {W X : World} {m n : Nat} {most : Int} (h : Bo W B R C pa m pcap ps σ τ N X) (hN : N ≤ 6) (hU : Uls W ua ul uc us) (hn : Ends ps us σ most n) :
    Calls Try.prog 22 #[.pointer (some ⟨R, 0, none⟩), .slice ua ul uc, .int .i64 most] X fun e w' => e = .returned (.int .i64 n) ∧ ∃ N', Bo W B R C pa m pcap ps (tlk ps us σ n) τ N' w' := by
  have HB0 : Hid (Bo W B R C pa m pcap ps (tlk ps us σ 0) τ (N + 0) X) := hide h
  have HU := hide hU
  have HN := hide hn
  have hn3 := hn.le
  clear h hU hn
  go_enter Try.func22, Try.ntmps22
  go_wp2_with fail
  go_loopw [7] (fun dv wr => ∃ k : Nat, k ≤ n ∧ dv = .int .i64 k ∧ Hid (Bo W B R C pa m pcap ps (tlk ps us σ k) τ (N + k) wr)) (fun dv _ => n - (intOf dv).toNat)
  case atStart => exact ⟨0, Nat.zero_le _, rfl, HB0⟩
  case round =>
    obtain ⟨k, hk, rfl, hbo⟩ := hrel
    have CP : Hid (Calls Try.prog 56 #[.slice ua ul uc, .int .i64 k] wr fun e w' => e = .returned (.int .u64 (pk us k : Nat)) ∧ w' = wr) := hide (pickOf_any (HU.out.low hbo.out.bel) k (by omega))
    have hpk := pk_le HU.out k
    have CS : Hid (Calls Try.prog 11 #[.pointer (some ⟨R, 0, none⟩), .int .u64 (pk us k : Nat)] wr fun e w' => e = .returned (.bool (decide ((tlk ps us σ k).line ≠ []))) ∧ Bo W B R C pa m pcap ps (tlk ps us σ (k + 1)) τ (N + (k + 1)) w') := hide (hbo.out.step (by omega) _ hpk)
    by_cases hlt : k < n
    · obtain ⟨h1, h2⟩ := HN.out.more k hlt
      rw [show decide ((tlk ps us σ k).line ≠ []) = true by simpa using h1] at CS
      clear hbo h1 hpk HB0
      generalize pk us k = x at *
      go_wp2_with fail
      refine CP.out.mono ?_
      rintro e w1 ⟨rfl, rfl⟩
      go_wp2_with fail
      refine CS.out.mono ?_
      rintro e w2 ⟨rfl, b2⟩
      have HB2 := hide b2
      clear b2 CS CP
      go_wp2_with fail
      go_roundw
      case rel => exact ⟨k + 1, by omega, by go_num, HB2⟩
      case measure => simp [intOf]; omega
    · obtain rfl : k = n := by omega
      by_cases hm : (k : Int) < most
      · have hl : (tlk ps us σ k).line = [] := HN.out.stop.elim (fun h => absurd hm h) id
        have e1 : tlk ps us σ (k + 1) = tlk ps us σ k := by
          show (tlk ps us σ k).step ps _ = _
          unfold Sg.step
          rw [if_pos (by simp [hl])]
        rw [e1, show decide ((tlk ps us σ k).line ≠ []) = false by simpa using hl] at CS
        clear hbo hpk hl HB0 e1 HN
        generalize pk us k = x at *
        go_wp2_with fail
        refine CP.out.mono ?_
        rintro e w1 ⟨rfl, rfl⟩
        go_wp2_with fail
        refine CS.out.mono ?_
        rintro e w2 ⟨rfl, b2⟩
        have HB2 := hide b2
        clear b2 CS CP
        go_wp2_with fail
        go_ret
        exact ⟨rfl, _, HB2.out⟩
      · have HB2 := hbo
        clear hbo hpk HB0 CS CP HN
        go_wp2_with fail
        go_ret
        exact ⟨rfl, _, HB2.out⟩
end

end Go.Proofs.Ytennciddjkijaaa

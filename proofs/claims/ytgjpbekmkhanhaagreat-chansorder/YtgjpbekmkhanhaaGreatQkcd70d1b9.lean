/-
  Many turns: what pick a turn has, Run; the law's world between steps: what is asked of it.
-/
import Derived.Test.YtgjpbekmkhanhaaGreatQk17c358e3
import Derived.Test.YtgjpbekmkhanhaaGreatQkeec43b33
import Derived.Test.YtgjpbekmkhanhaaGreatQk6afa3907
namespace Go.Proofs.YtgjpbekmkhanhaaGreat.CH
open Go.RowKit QW
set_option maxRecDepth 100000
set_option linter.unusedSimpArgs false
set_option linter.unusedVariables false

/-- A slice of picks as it is read. -/
structure Us (W : World) (a : Option Addr) (n cap : Nat) (us : List Nat) : Prop where
  len : us.length = n
  le : n ≤ cap
  reach : cap ≤ 9223372036854775807
  few : ∀ u ∈ us, u ≤ 18446744073709551615
  lies : 0 < n → ∃ b off, a = some ⟨b, off, none⟩ ∧ ∀ i, i < n → W.cell? ⟨b, off + i, none⟩ = some (.int .u64 (us.getD i 0 : Nat))
theorem Us.low {w w' : World} {a : Option Addr} {n cap : Nat} {xs : List Nat} (h : Us w a n cap xs) (hb : Below w.heap.size w w') : Us w' a n cap xs := by
  refine ⟨h.len, h.le, h.reach, h.few, fun hn => ?_⟩
  obtain ⟨b, off, h1, h2⟩ := h.lies hn
  exact ⟨b, off, h1, fun i hi => (hb.cell (cell_lt (h2 i hi))).trans (h2 i hi)⟩

/-- The pick of a step. -/
def pk (us : List Nat) (k : Nat) : Nat := if us.length = 0 then 0 else us.getD (k % us.length) 0
section
variable {w : World} {ua : Option Addr} {ul uc : Nat} {us : List Nat}
theorem pk_le (hU : Us w ua ul uc us) (k : Nat) : pk us k ≤ 18446744073709551615 := by
  unfold pk
  split
  · omega
  · rename_i h
    refine hU.few _ ?_
    have hl : k % us.length < us.length := Nat.mod_lt _ (by omega)
    simp [List.getD, List.getElem?_eq_getElem hl]

theorem pickOf_any (hU : Us w ua ul uc us) (k : Nat) (hk : k ≤ 1000000) :
    Calls Tryz.prog 90 #[.slice ua ul uc, .int .i64 k] w fun e w' => e = .returned (.int .u64 (pk us k : Nat)) ∧ w' = w := by
  have hl := hU.len
  have hle := hU.le
  have hre := hU.reach
  unfold pk
  by_cases h0 : ul = 0
  · subst h0
    rw [if_pos hl]
    clear hU
    go_enter Tryz.func90, Tryz.ntmps90
    go_wp2_with fail
    go_ret
    exact ⟨rfl, rfl⟩
  · rw [if_neg (by omega), hl]
    obtain ⟨ub, uo, hua, hcu⟩ := hU.lies (by omega)
    have hm : k % ul < ul := Nat.mod_lt _ (by omega)
    have hc := hcu _ hm
    subst hua
    have ht : (k : Int).tmod (ul : Int) = ((k % ul : Nat) : Int) := by
      rw [Int.tmod_eq_emod_of_nonneg (by omega)]
      simp
    generalize us.getD (k % ul) 0 = x at *
    obtain ⟨q, hq⟩ : ∃ q, Hid (q = k % ul) := ⟨_, hide rfl⟩
    rw [← hq.out] at hm hc ht
    have hwq : IntKind.i64.wrap (q : Int) = (q : Int) := by simp [IntKind.wrap, IntKind.signed, IntKind.bits]; omega
    have hrem : ∀ V : World, (Op.intDiv .rem .i64 (k : Int) (ul : Int)).run Tryz.prog V = .ok (.int .i64 (q : Int)) V := fun V => by
      simp [Op.intDiv, ht, hwq, show ul ≠ 0 by omega]
    have hne : ul ≠ 0 := by omega
    have h00 : ((ul : Int) == 0) = false := by rw [beq_eq_false_iff_ne]; omega
    have hqi : (q : Int) < (ul : Int) := by omega
    have hul9 : (ul : Int) ≤ 9223372036854775807 := by omega
    clear hU hl hcu
    go_enter Tryz.func90, Tryz.ntmps90
    go_wp2_with fail
    go_ret
    exact ⟨rfl, rfl⟩

set_option maxHeartbeats 1000000 in
/-- Run, of any world: I k holds ahead of the k-th step, J behind the last one. -/
theorem run_gen {R m : Nat} (hm : m ≤ 1000000) (I : Nat → World → Prop) (J : World → Prop) (hU : ∀ k V, I k V → Us V ua ul uc us)
    (hS : ∀ k V, I k V → k < m → Calls Tryz.prog 12 #[.pointer (some ⟨R, 0, none⟩), .int .u64 (pk us k : Nat)] V fun e w' => ∃ b : Bool, e = .returned (.bool b) ∧ (b = true → I (k + 1) w') ∧ (b = false → J w')) (hE : ∀ V, I m V → J V) (h0 : I 0 w) :
    Calls Tryz.prog 47 #[.pointer (some ⟨R, 0, none⟩), .slice ua ul uc, .int .i64 m] w fun e w' => ∃ k : Nat, k ≤ m ∧ e = .returned (.int .i64 k) ∧ Hid (J w') := by
  have HB0 : Hid (I 0 w) := hide h0
  have HU := hide hU
  have HS := hide hS
  have HE := hide hE
  clear hU hS hE h0
  go_enter Tryz.func47, Tryz.ntmps47
  go_wp2_with fail
  go_loopw [7] (fun dv wr => ∃ k : Nat, k ≤ m ∧ dv = .int .i64 k ∧ Hid (I k wr)) (fun dv _ => m - (intOf dv).toNat)
  case atStart => exact ⟨0, Nat.zero_le _, rfl, HB0⟩
  case round =>
    clear HB0
    obtain ⟨k, hk, rfl, hi⟩ := hrel
    by_cases hlt : k < m
    · have hii : decide ((k : Int) < (m : Int)) = true := by simp; omega
      have CP : Hid (Calls Tryz.prog 90 #[.slice ua ul uc, .int .i64 k] wr fun e w' => e = .returned (.int .u64 (pk us k : Nat)) ∧ w' = wr) := hide (pickOf_any (HU.out k wr hi.out) k (by omega))
      have CS := hide (HS.out k wr hi.out hlt)
      clear hi HU HE HS
      generalize pk us k = x at *
      go_wp2_with fail
      refine CP.out.mono ?_
      rintro e w1 ⟨rfl, rfl⟩
      go_wp2_with fail
      refine CS.out.mono ?_
      rintro e w2 ⟨b, rfl, h1, h2⟩
      clear CS CP
      cases b with
      | true =>
        have H1 := hide (h1 rfl)
        clear h1 h2
        go_wp2_with fail
        go_roundw
        case rel => exact ⟨k + 1, by omega, by go_num, H1⟩
        case measure => simp [intOf]; omega
      | false =>
        have H1 := hide (h2 rfl)
        clear h1 h2
        go_wp2_with fail
        go_ret
        exact ⟨k, hk, rfl, H1⟩
    · obtain rfl : k = m := by omega
      have hii : decide ((k : Int) < (k : Int)) = false := by simp
      have H1 := hide (HE.out wr hi.out)
      clear hi HU HE HS
      go_wp2_with fail
      go_ret
      exact ⟨k, hk, rfl, H1⟩
end

end Go.Proofs.YtgjpbekmkhanhaaGreat.CH

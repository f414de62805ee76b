/-
  VarintOrder returns true: no number's bytes are the beginning of another one's, a greater one has no fewer bytes, and cut short none is read.
-/
import Derived.Test.YthhmpfgjeepglaaVaw
import Derived.Test.YthhmpfgjeepglaaPik
namespace Go.Proofs.Ythhmpfgjeepglaa.varintOrder
open Go.RowKit

theorem run_min {P : Program} {w : World} (ts : Array TypeId) (t : TypeId) (x y m : Nat) (hm : m = min x y) :
    (Builtin.min_ ts t #[.int .u64 x, .int .u64 y]).run P w = .ok (.int .u64 m) w := by
  subst hm
  simp [Builtin.min_, Builtin.min2]
  omega

theorem run_max {P : Program} {w : World} (ts : Array TypeId) (t : TypeId) (x y m : Nat) (hm : m = max x y) :
    (Builtin.max_ ts t #[.int .u64 x, .int .u64 y]).run P w = .ok (.int .u64 m) w := by
  subst hm
  simp [Builtin.max_, Builtin.max2]
  omega

theorem prefix_eq {m n : Nat} (hm : m < 18446744073709551616) (hn : n < 18446744073709551616) (h : vb m <+: vb n) : m = n := by
  have h1 := (getv_iff (vb_byte n) m).2 ⟨hm, h⟩
  have h2 := (getv_iff (vb_byte n) n).2 ⟨hn, List.prefix_refl _⟩
  rw [h1] at h2
  simpa using h2

theorem cut_none {n : Nat} (hn : n < 18446744073709551616) (p : Nat) (hp : p < (vb n).length) : gv ((vb n).take p) 0 = none := by
  cases h : gv ((vb n).take p) 0 with
  | none => rfl
  | some m =>
    obtain ⟨_, _, hm, hpre⟩ := gv_some (take_byte (vb_byte n) p) h
    simp only [Int.toNat_zero, List.drop_zero] at hpre
    have e := prefix_eq hm hn (hpre.trans (List.take_prefix _ _))
    subst e
    have := hpre.length_le
    simp at this
    omega

set_option maxHeartbeats 1000000 in
theorem walk (x y : Nat) (c : Int) (hx : x < 18446744073709551616) (hy : y < 18446744073709551616) (w : World) :
    Calls Try.prog 6 #[.int .u64 x, .int .u64 y, .int .i64 c] w fun e w' => e = .returned (.bool true) ∧ Below w.heap.size w w' := by
  obtain ⟨lo, hlo⟩ : ∃ lo, lo = min x y := ⟨_, rfl⟩
  obtain ⟨hi, hhi⟩ : ∃ hi, hi = max x y := ⟨_, rfl⟩
  have kmin : ∀ w', (Builtin.min_ #[25, 25] 25 #[.int .u64 x, .int .u64 y]).run Try.prog w' = .ok (.int .u64 lo) w' := fun w' => run_min _ _ x y lo hlo
  have kmax : ∀ w', (Builtin.max_ #[25, 25] 25 #[.int .u64 x, .int .u64 y]).run Try.prog w' = .ok (.int .u64 hi) w' := fun w' => run_max _ _ x y hi hhi
  have l1 : lo < 18446744073709551616 := by omega
  have l2 : hi < 18446744073709551616 := by omega
  have m1 := vb_len_mono hi lo (by omega)
  have m2 := vb_pos lo
  have m3 := vb_len10 l2
  have hsm : Hid (decide (vb lo = (vb hi).take (vb lo).length) = decide (x = y)) := by
    refine hide (decide_eq_decide.2 ⟨fun h => ?_, fun h => ?_⟩)
    · have := prefix_eq l1 l2 (h ▸ List.take_prefix _ _)
      omega
    · have : lo = hi := by omega
      rw [this]; simp
  have hcut := hide (cut_none l2)
  clear hlo hhi
  obtain ⟨A, hA⟩ : ∃ A, A = (vb lo).length := ⟨_, rfl⟩
  obtain ⟨B, hB⟩ : ∃ B, B = (vb hi).length := ⟨_, rfl⟩
  have P1 := hide (fun w => put_lit lo l1 (vb lo) A rfl hA.symm w)
  have P2 := hide (fun w => put_lit hi l2 (vb hi) B rfl hB.symm w)
  rw [← hA, ← hB] at m1
  rw [← hA] at m2 hsm
  rw [← hB] at m3 hcut
  clear hA hB
  have f1 : ¬ (B : Int) < (A : Int) := by omega
  have f2 : ¬ (A : Int) < 1 := by omega
  have f3 : ¬ (10 : Int) < (B : Int) := by omega
  go_enter Try.func6, Try.ntmps6
  go_wp2_with fail
  refine (P1.out _).mono ?_
  rintro e w1 ⟨g1, rfl, hB1, hb1⟩
  go_wp2_with fail
  refine (P2.out _).mono ?_
  rintro e w2 ⟨g2, rfl, hB2, hb2⟩
  have c2 : Below w.heap.size w w2 := hb1.trans (hb2.mono hb1.size)
  have S := same_any _ _ _ _ _ _ _ _ w2 (hB1.keep hb2) (hB2.head A m1)
  rw [hsm.out] at S
  have hq : ∃ q : Bool, decide (x = y) = q ∧ ((x : Int) == (y : Int)) = q := by
    by_cases h : x = y
    · subst h; exact ⟨true, by simp, by simp⟩
    · exact ⟨false, by simp [h], by simp; omega⟩
  obtain ⟨q, q1, q2⟩ := hq
  rw [q1] at S
  have HS := hide S
  clear S q1 hsm
  go_wp2_with fail
  refine (HS.out).mono ?_
  rintro e w3 ⟨rfl, rfl⟩
  cases q
  all_goals go_wp2_with fail
  all_goals refine (pick_any c B _ (by omega) (by omega)).mono ?_
  all_goals rintro e w4 ⟨p, hp, rfl, rfl⟩
  all_goals have hp' : (p : Int) ≤ (B : Int) := by omega
  all_goals go_wp2_with fail
  all_goals refine (get_no (hB2.head p (by omega)) (hcut.out p hp)).mono ?_
  all_goals rintro e w5 ⟨rfl, hb5⟩
  all_goals have c5 : Below w.heap.size w w5 := c2.trans (hb5.mono c2.size)
  all_goals clear hb5
  all_goals go_wp2_with fail
  all_goals refine (awake_any _).mono ?_
  all_goals rintro e w6 ⟨rfl, hb6⟩
  all_goals go_wp2_with fail
  all_goals go_ret
  all_goals exact ⟨rfl, c5.trans (hb6.mono c5.size)⟩

end Go.Proofs.Ythhmpfgjeepglaa.varintOrder

/-
  mayFollow, Right.
-/
import Derived.Test.YtaapcanoaidpjaaIxb
import Derived.Deep.RegionWith
namespace Go.Proofs.Ytaapcanoaidpjaa
open Go.RowKit

/-- Whether a pair may stand behind another. -/
def Fl (p q : Int × Int) : Prop := p.1 < q.1 ∧ p.2 ≤ q.2 ∧ q.1 ≤ 4611686018427387904 ∧ q.2 ≤ 4611686018427387904
instance (p q : Int × Int) : Decidable (Fl p q) := by unfold Fl; infer_instance

set_option maxHeartbeats 1000000 in
theorem follow_any (x1 y1 x2 y2 : Int) (w : World) :
    Calls Try.prog 20 #[.agg #[.int .i64 x1, .int .i64 y1], .agg #[.int .i64 x2, .int .i64 y2]] w fun e w' => e = .returned (.bool (decide (Fl (x1, y1) (x2, y2)))) ∧ Below w.heap.size w w' := by
  have hfin : ∀ p q : Obj, Below w.heap.size w ((w.alloc p).alloc q) := fun p q => ((Below.refl _ w).alloc (Nat.le_refl _) p).alloc (by simp) q
  have HF := hide hfin
  clear hfin
  by_cases h1 : x1 < x2
  · by_cases h2 : y1 ≤ y2
    · by_cases h3 : x2 ≤ 4611686018427387904
      · by_cases h4 : y2 ≤ 4611686018427387904
        · have HD := hide (decide_eq_true (show Fl (x1, y1) (x2, y2) from ⟨h1, h2, h3, h4⟩))
          go_enter Try.func20, Try.ntmps20
          go_wp2
          go_ret
          exact ⟨by rw [HD.out]; rfl, HF.out _ _⟩
        · have HD := hide (decide_eq_false (show ¬ Fl (x1, y1) (x2, y2) from fun h => h4 h.2.2.2))
          go_enter Try.func20, Try.ntmps20
          go_wp2
          go_ret
          exact ⟨by rw [HD.out]; rfl, HF.out _ _⟩
      · have HD := hide (decide_eq_false (show ¬ Fl (x1, y1) (x2, y2) from fun h => h3 h.2.2.1))
        go_enter Try.func20, Try.ntmps20
        go_wp2
        go_ret
        exact ⟨by rw [HD.out]; rfl, HF.out _ _⟩
    · have HD := hide (decide_eq_false (show ¬ Fl (x1, y1) (x2, y2) from fun h => h2 h.2.1))
      go_enter Try.func20, Try.ntmps20
      go_wp2
      go_ret
      exact ⟨by rw [HD.out]; rfl, HF.out _ _⟩
  · have HD := hide (decide_eq_false (show ¬ Fl (x1, y1) (x2, y2) from fun h => h1 h.1))
    go_enter Try.func20, Try.ntmps20
    go_wp2
    go_ret
    exact ⟨by rw [HD.out]; rfl, HF.out _ _⟩

/-- A right index: its first pair is (0, 0), and each may stand behind the one ahead. -/
def Up (ps : List (Int × Int)) (k : Nat) : Prop := ∀ i, i < k → Fl (ps.getD i (0, 0)) (ps.getD (i + 1) (0, 0))
def Rt (ps : List (Int × Int)) : Prop := 0 < ps.length ∧ ps.getD 0 (0, 0) = (0, 0) ∧ Up ps (ps.length - 1)
instance (ps : List (Int × Int)) (k : Nat) : Decidable (Up ps k) := by unfold Up; infer_instance
instance (ps : List (Int × Int)) : Decidable (Rt ps) := by unfold Rt; infer_instance

theorem Up.next {ps : List (Int × Int)} {k : Nat} (h : Up ps k) (h2 : Fl (ps.getD k (0, 0)) (ps.getD (k + 1) (0, 0))) : Up ps (k + 1) := by
  intro i hi
  by_cases e : i < k
  · exact h i e
  · obtain rfl : i = k := by omega
    exact h2

set_option maxHeartbeats 2000000 in
theorem right_any (a : Option Addr) (n cap : Nat) (ps : List (Int × Int)) (w : World) (hA : Pr w a n cap ps) :
    Calls Try.prog 9 #[.slice a n cap] w fun e w' => e = .returned (.bool (decide (Rt ps))) ∧ Below w.heap.size w w' := by
  have hla := hA.len
  have hea := hA.le
  have hra := hA.reach
  have hgd := eqGuard27
  by_cases h0 : n = 0
  · subst h0
    have HD := hide (decide_eq_false (show ¬ Rt ps from fun h => by have := h.1; omega))
    go_enter Try.func9, Try.ntmps9
    go_wp2_with fail
    go_ret
    exact ⟨by rw [HD.out]; rfl, Below.refl _ _⟩
  · obtain ⟨b1, o1, rfl, hc1⟩ := hA.lies (by omega)
    obtain ⟨hk1, hk2⟩ := hc1 0 (by omega)
    have HC := hide hc1
    clear hc1
    simp only [Nat.zero_mul, Nat.add_zero] at hk1 hk2
    obtain ⟨p, hp⟩ : ∃ p, p = ps.getD 0 (0, 0) := ⟨_, rfl⟩
    rw [← hp] at hk1 hk2
    have HP := hide hp
    clear hp
    obtain ⟨x1, y1⟩ := p
    simp only at hk1 hk2
    have qn := fun w => neq_pair w x1 y1 0 0
    have hz : ((n : Int) == 0) = false := by simp; omega
    by_cases he : (x1, y1) = (0, 0)
    · simp only [Prod.mk.injEq] at he
      obtain ⟨rfl, rfl⟩ := he
      simp only [beq_self_eq_true, Bool.and_self, Bool.not_true] at qn
      by_cases hcap : cap = 1
      · obtain rfl : n = 1 := by omega
        have HD := hide (decide_eq_true (show Rt ps from ⟨by omega, HP.out.symm, fun i hi => by omega⟩))
        subst hcap
        go_enter Try.func9, Try.ntmps9
        go_wp2_with fail
        go_loopw [18] (fun i wr => i = .int .i64 0 ∧ wr = w) (fun _ _ => 0)
        case atStart => exact ⟨rfl, rfl⟩
        case round =>
          obtain ⟨rfl, rfl⟩ := hrel
          go_wp2_with fail
          go_ret
          exact ⟨by rw [HD.out]; rfl, Below.refl _ _⟩
      · go_enter Try.func9, Try.ntmps9
        go_wp2_with fail
        go_loopw [18] (fun i wr => ∃ k : Nat, k ≤ n - 1 ∧ i = .int .i64 k ∧ Below w.heap.size w wr ∧ Hid (Up ps k)) (fun i _ => n - (intOf i).toNat)
        case atStart => exact ⟨0, Nat.zero_le _, rfl, Below.refl _ _, hide (fun i hi => by omega)⟩
        case round =>
          obtain ⟨k, hk, rfl, hb, hup⟩ := hrel
          have hbs := hb.size
          by_cases hlt : k + 1 < n
          · obtain ⟨hc1, hc2⟩ := HC.out k (by omega)
            obtain ⟨hc3, hc4⟩ := HC.out (k + 1) (by omega)
            have hl1 := cell_lt hc1
            rw [← hb.cell (cell_lt hc1)] at hc1
            rw [← hb.cell (cell_lt hc2)] at hc2
            rw [← hb.cell (cell_lt hc3)] at hc3
            rw [← hb.cell (cell_lt hc4)] at hc4
            have HU := hide (fun h => hup.out.next (k := k) h)
            have HX := hide (fun (hn : ¬ Fl (ps.getD k (0, 0)) (ps.getD (k + 1) (0, 0))) => fun (h : Rt ps) => hn (h.2.2 k (by omega)))
            generalize ps.getD k (0, 0) = p1 at *
            generalize ps.getD (k + 1) (0, 0) = p2 at *
            obtain ⟨x1, y1⟩ := p1
            obtain ⟨x2, y2⟩ := p2
            rw [show o1 + (k + 1) * 2 = o1 + 2 + k * 2 by omega] at hc3 hc4
            simp only at hc1 hc2 hc3 hc4
            have hbV : Below w.heap.size w (wr.alloc (.cells #[.int .i64 x2, .int .i64 y2] 27)) := hb.alloc hbs _
            have hstay := (Below.refl _ wr).alloc (Nat.le_refl _) (.cells #[.int .i64 x2, .int .i64 y2] 27)
            have g1 := (hstay.cell (cell_lt hc1)).trans hc1
            have g2 := (hstay.cell (cell_lt hc2)).trans hc2
            have g3 : (wr.alloc (.cells #[.int .i64 x2, .int .i64 y2] 27)).cell? ⟨wr.heap.size, 0, none⟩ = some (.int .i64 x2) := by simp [go_sem]
            have g4 : (wr.alloc (.cells #[.int .i64 x2, .int .i64 y2] 27)).cell? ⟨wr.heap.size, 1, none⟩ = some (.int .i64 y2) := by simp [go_sem]
            clear hstay
            go_wp2_with fail
            generalize wr.alloc (.cells #[.int .i64 x2, .int .i64 y2] 27) = V at *
            have hVs := hbV.size
            clear hc1 hc2 hc3 hc4 hl1
            have C := follow_any x1 y1 x2 y2
            by_cases hf : Fl (x1, y1) (x2, y2)
            · have HU' := hide (HU.out hf)
              simp only [decide_eq_true hf] at C
              clear hf HX HU
              go_region_with (go_at_call 20; refine (C _).mono ?_; rintro e w1 ⟨rfl, hb1⟩)
              all_goals
                go_wp2_with fail
                go_roundw
                case rel => exact ⟨k + 1, by omega, by go_num, (below_drewN hbV 1).trans (hb1.mono hVs), HU'⟩
                case measure => simp [intOf]; omega
            · have HD := hide (decide_eq_false (HX.out hf))
              simp only [decide_eq_false hf] at C
              clear hf HX HU
              go_region_with (go_at_call 20; refine (C _).mono ?_; rintro e w1 ⟨rfl, hb1⟩)
              all_goals
                go_wp2_with fail
                go_ret
                exact ⟨by rw [HD.out]; rfl, (below_drewN hbV 1).trans (hb1.mono hVs)⟩
          · have HD := hide (decide_eq_true (show Rt ps from ⟨by omega, HP.out.symm, fun i hi => hup.out i (by omega)⟩))
            clear HC hup
            go_wp2_with fail
            go_ret
            exact ⟨by rw [HD.out]; rfl, hb⟩
    · have hb : (x1 == 0 && y1 == 0) = false := by
        simp only [Prod.mk.injEq] at he
        simp only [Bool.and_eq_false_iff, beq_eq_false_iff_ne]
        by_cases h : x1 = 0
        · exact .inr (fun e => he ⟨h, e⟩)
        · exact .inl h
      simp only [hb, Bool.not_false] at qn
      clear hb
      have HD := hide (decide_eq_false (show ¬ Rt ps from fun h => he (HP.out.trans h.2.1)))
      go_enter Try.func9, Try.ntmps9
      go_wp2_with fail
      go_ret
      exact ⟨by rw [HD.out]; rfl, Below.refl _ _⟩

end Go.Proofs.Ytaapcanoaidpjaa

/-
  The document's Right, Find and Build; CopyInts, SameInts.
-/
import Derived.Test.YtaapcanoaidpjaaIxe
namespace Go.Proofs.Ytaapcanoaidpjaa
open Go.RowKit
set_option maxRecDepth 100000

/-- What the document asks at each place. -/
def Ok (ps : List (Int × Int)) (i : Nat) : Prop :=
  (i = 0 → (ps.getD i (0, 0)).1 = 0 ∧ (ps.getD i (0, 0)).2 = 0) ∧ (∀ j, i = j + 1 → (ps.getD j (0, 0)).1 < (ps.getD i (0, 0)).1 ∧ (ps.getD j (0, 0)).2 ≤ (ps.getD i (0, 0)).2) ∧ (ps.getD i (0, 0)).1 ≤ 4611686018427387904 ∧ (ps.getD i (0, 0)).2 ≤ 4611686018427387904

theorem Rt_iff (ps : List (Int × Int)) : Rt ps ↔ 0 < ps.length ∧ ∀ i, i < ps.length → Ok ps i := by
  constructor
  · intro h
    refine ⟨h.1, fun i hi => ?_⟩
    cases i with
    | zero =>
      have := h.2.1
      refine ⟨fun _ => by rw [this]; exact ⟨rfl, rfl⟩, fun j hj => by omega, by rw [this]; decide, by rw [this]; decide⟩
    | succ i =>
      have := h.2.2 i (by omega)
      exact ⟨fun h => by omega, fun j hj => (show i = j by omega) ▸ ⟨this.1, this.2.1⟩, this.2.2.1, this.2.2.2⟩
  · intro h
    have h0 := (h.2 0 h.1).1 rfl
    refine ⟨h.1, Prod.ext h0.1 h0.2, fun i hi => ?_⟩
    have h1 := h.2 (i + 1) (by omega)
    have h2 := h1.2.1 i rfl
    exact ⟨h2.1, h2.2, h1.2.2.1, h1.2.2.2⟩

theorem Ok_zero (ps : List (Int × Int)) : Ok ps 0 ↔ ((ps.getD 0 (0, 0)).1 = 0 ∧ (ps.getD 0 (0, 0)).2 = 0) := by
  unfold Ok
  constructor
  · intro h; exact h.1 rfl
  · intro h; exact ⟨fun _ => h, fun j hj => by omega, by omega, by omega⟩

theorem Ok_succ (ps : List (Int × Int)) (k : Nat) : Ok ps (k + 1) ↔ ((ps.getD k (0, 0)).1 < (ps.getD (k + 1) (0, 0)).1 ∧ (ps.getD k (0, 0)).2 ≤ (ps.getD (k + 1) (0, 0)).2 ∧ (ps.getD (k + 1) (0, 0)).1 ≤ 4611686018427387904 ∧ (ps.getD (k + 1) (0, 0)).2 ≤ 4611686018427387904) := by
  unfold Ok
  constructor
  · intro h
    have := h.2.1 k rfl
    exact ⟨this.1, this.2, h.2.2⟩
  · intro h
    exact ⟨fun e => by omega, fun j hj => (show k = j by omega) ▸ ⟨h.1, h.2.1⟩, h.2.2⟩

set_option maxHeartbeats 4000000 in
theorem right_ref (a : Option Addr) (n cap : Nat) (ps : List (Int × Int)) (w : World) (hA : Pr w a n cap ps) :
    Calls Try.prog 14 #[.slice a n cap] w fun e w' => e = .returned (.bool (decide (Rt ps))) ∧ ∃ q, w' = w.drewN q := by
  have hla := hA.len
  have hea := hA.le
  have hra := hA.reach
  go_enter Try.func14, Try.ntmps14
  go_wp2_with fail
  go_loopw [3] (fun i wr => ∃ k q : Nat, k ≤ n ∧ i = .int .i64 k ∧ wr = w.drewN q ∧ Hid (∀ i, i < k → Ok ps i)) (fun i _ => n - (intOf i).toNat)
  case atStart => exact ⟨0, 0, Nat.zero_le _, rfl, rfl, hide (fun i hi => by omega)⟩
  case round =>
    obtain ⟨k, q, hk, rfl, hwr, hok⟩ := hrel
    have hA' := hA.keep (below_drewN (Below.refl _ w) q)
    rw [← hwr] at hA'
    have HR := hide hwr
    clear hwr
    by_cases hlt : k < n
    · obtain ⟨bl, ol, rfl, hc⟩ := hA'.lies (by omega)
      have HX := hide (fun (h : ¬ Ok ps k) => show decide (Rt ps) = false from decide_eq_false (fun hr => h (((Rt_iff ps).1 hr).2 k (by omega))))
      have HN : Hid (Ok ps k → ∀ i, i < k + 1 → Ok ps i) := hide (fun h i hi => by
        by_cases e : i < k
        · exact hok.out i e
        · obtain rfl : i = k := by omega
          exact h)
      clear hok
      obtain ⟨hk1, hk2⟩ := hc k hlt
      cases k with
      | zero =>
        simp only [Nat.zero_mul, Nat.add_zero] at hk1 hk2
        have hO := Ok_zero ps
        generalize ps.getD 0 (0, 0) = p at *
        obtain ⟨x, y⟩ := p
        simp only at hk1 hk2 hO
        have HO := hide hO
        clear hO hc
        by_cases hx : x = 0
        · by_cases hy : y = 0
          · have HN' := hide (HN.out (HO.out.2 ⟨hx, hy⟩))
            clear HX HN HO
            subst hx
            subst hy
            go_wp2_with fail
            go_quiet (fail)
            go_wp2_with fail
            go_roundw
            case rel => exact ⟨1, q + nq, by omega, by rfl, by rw [HR.out, World.drewN_drewN], HN'⟩
            case measure => simp [intOf]; omega
          · have HD := hide (HX.out (fun h => hy (HO.out.1 h).2))
            have hy' : (y != 0) = true := by simpa using hy
            clear HX HN HO
            subst hx
            go_wp2_with fail
            go_ret
            exact ⟨by rw [HD.out]; rfl, q, HR.out⟩
        · have HD := hide (HX.out (fun h => hx (HO.out.1 h).1))
          have hx' : (x != 0) = true := by simpa using hx
          clear HX HN HO
          go_wp2_with fail
          go_ret
          exact ⟨by rw [HD.out]; rfl, q, HR.out⟩
      | succ k =>
        obtain ⟨hk3, hk4⟩ := hc k (by omega)
        have hO := Ok_succ ps k
        generalize ps.getD k (0, 0) = p1 at *
        generalize ps.getD (k + 1) (0, 0) = p2 at *
        obtain ⟨x1, y1⟩ := p1
        obtain ⟨x2, y2⟩ := p2
        simp only at hk1 hk2 hk3 hk4 hO
        have HO := hide hO
        clear hO hc
        by_cases h1 : x1 < x2
        · have d1 : decide (x2 ≤ x1) = false := decide_eq_false (by omega)
          by_cases h2 : y1 ≤ y2
          · have d2 : decide (y2 < y1) = false := decide_eq_false (by omega)
            by_cases h3 : x2 ≤ 4611686018427387904
            · by_cases h4 : y2 ≤ 4611686018427387904
              · have HN' := hide (HN.out (HO.out.2 ⟨h1, h2, h3, h4⟩))
                clear HX HN HO
                go_wp2_with fail
                go_quiet (fail)
                go_wp2_with fail
                go_roundw
                case rel => exact ⟨k + 1 + 1, q + nq, by omega, by go_num, by rw [HR.out, World.drewN_drewN], HN'⟩
                case measure => simp [intOf]; omega
              · have HD := hide (HX.out (fun h => h4 (HO.out.1 h).2.2.2))
                clear HX HN HO
                go_wp2_with fail
                go_quiet (fail)
                go_wp2_with fail
                go_ret
                exact ⟨by rw [HD.out]; rfl, q + nq, by rw [HR.out, World.drewN_drewN]⟩
            · have HD := hide (HX.out (fun h => h3 (HO.out.1 h).2.2.1))
              clear HX HN HO
              go_wp2_with fail
              go_quiet (fail)
              go_wp2_with fail
              go_ret
              exact ⟨by rw [HD.out]; rfl, q + nq, by rw [HR.out, World.drewN_drewN]⟩
          · have HD := hide (HX.out (fun h => h2 (HO.out.1 h).2.1))
            have d2 : decide (y2 < y1) = true := decide_eq_true (by omega)
            clear HX HN HO
            go_wp2_with fail
            go_quiet (fail)
            go_wp2_with fail
            go_ret
            exact ⟨by rw [HD.out]; rfl, q + nq, by rw [HR.out, World.drewN_drewN]⟩
        · have HD := hide (HX.out (fun h => h1 (HO.out.1 h).1))
          have d1 : decide (x2 ≤ x1) = true := decide_eq_true (by omega)
          clear HX HN HO
          go_wp2_with fail
          go_quiet (fail)
          go_wp2_with fail
          go_ret
          exact ⟨by rw [HD.out]; rfl, q + nq, by rw [HR.out, World.drewN_drewN]⟩
    · obtain rfl : k = n := by omega
      have hall : Rt ps ↔ 0 < k := by
        rw [Rt_iff, hla]
        exact ⟨fun h => h.1, fun h => ⟨h, hok.out⟩⟩
      by_cases h0 : 0 < k
      · have HD := hide (decide_eq_true (hall.2 h0))
        clear hall hok
        go_wp2_with fail
        go_ret
        exact ⟨by rw [HD.out]; simp <;> omega, q, HR.out⟩
      · have HD := hide (decide_eq_false (fun h => h0 (hall.1 h)))
        clear hall hok
        obtain rfl : k = 0 := by omega
        go_wp2_with fail
        go_ret
        exact ⟨by rw [HD.out]; rfl, q, HR.out⟩

end Go.Proofs.Ytaapcanoaidpjaa

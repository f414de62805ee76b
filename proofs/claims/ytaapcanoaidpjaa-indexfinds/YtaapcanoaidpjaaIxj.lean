/-
  What Build tells is right, and from the pair that is found fewer bytes than every are ahead: as facts on lists.
-/
import Derived.Test.YtaapcanoaidpjaaIxi
namespace Go.Proofs.Ytaapcanoaidpjaa
open Go.RowKit
set_option maxRecDepth 100000

/-- The place of the k-th size. -/
def pl (zs : List Int) : Nat → Int
  | 0 => 0
  | k + 1 => pl zs k + zs.getD k 0

theorem bst_pl (ev : Int) (zs : List Int) (k : Nat) : (bst ev zs k).1 = pl zs k := by
  induction k with
  | zero => rfl
  | succ k ih =>
    simp only [bst, pl]
    split <;> simp only [ih]

theorem pl_bound {zs : List Int} (hz : ∀ z ∈ zs, Sz z) (k : Nat) (hk : k ≤ zs.length) : 0 ≤ pl zs k ∧ pl zs k ≤ 1073741824 * (k : Int) := by
  induction k with
  | zero => simp [pl]
  | succ k ih =>
    have := ih (by omega)
    have hs : Sz (zs.getD k 0) := hz _ (by simp [List.getD, List.getElem?_eq_getElem (by omega : k < zs.length)])
    unfold Sz at hs
    simp only [pl]
    omega

theorem pl_mono {zs : List Int} (hz : ∀ z ∈ zs, Sz z) {i k : Nat} (hik : i ≤ k) (hk : k ≤ zs.length) : pl zs i ≤ pl zs k := by
  obtain ⟨d, rfl⟩ : ∃ d, k = i + d := ⟨k - i, by omega⟩
  induction d with
  | zero => exact Int.le_refl _
  | succ d ih =>
    have := ih (by omega) (by omega)
    have hs : Sz (zs.getD (i + d) 0) := hz _ (by simp [List.getD, List.getElem?_eq_getElem (by omega : i + d < zs.length)])
    unfold Sz at hs
    have e : pl zs (i + (d + 1)) = pl zs (i + d) + zs.getD (i + d) 0 := rfl
    omega

/-- What is known of the pairs behind k sizes. -/
structure Iv (ev : Int) (zs : List Int) (k : Nat) (ps : List (Int × Int)) (l : Int) : Prop where
  pos : 0 < ps.length
  head : ps.getD 0 (0, 0) = (0, 0)
  at' : ∀ t, t < ps.length → ∃ i : Nat, ps.getD t (0, 0) = ((i : Int), pl zs i) ∧ i ≤ k
  rise : ∀ t, t + 1 < ps.length → (ps.getD t (0, 0)).1 < (ps.getD (t + 1) (0, 0)).1
  last : l = (ps.getD (ps.length - 1) (0, 0)).2
  less : ∀ t, t < ps.length → 0 < k → (ps.getD t (0, 0)).1 < (k : Int)
  near : ∀ j : Nat, j < k → ∀ t, Lp ps (j : Int) t → pl zs j - (ps.getD t (0, 0)).2 < ev

theorem getD_app_l {α : Type} {d : α} (l m : List α) (t : Nat) (h : t < l.length) : (l ++ m).getD t d = l.getD t d := by
  simp [List.getD, List.getElem?_append_left h]
theorem getD_app_r {α : Type} {d : α} (l : List α) (x : α) : (l ++ [x]).getD l.length d = x := by simp [List.getD]

theorem bst_iv (ev : Int) (hev : 1 ≤ ev) (zs : List Int) (k : Nat) (hk : k ≤ zs.length) {p l : Int} {ps : List (Int × Int)} (h : bst ev zs k = (p, l, ps)) : Iv ev zs k ps l := by
  induction k generalizing p l ps with
  | zero =>
    simp only [bst, Prod.mk.injEq] at h
    obtain ⟨rfl, rfl, rfl⟩ := h
    refine ⟨by simp, rfl, fun t ht => ⟨0, ?_, Nat.le_refl _⟩, fun t ht => by simp at ht, rfl, fun t ht h0 => by omega, fun j hj => by omega⟩
    obtain rfl : t = 0 := by simpa using ht
    rfl
  | succ k ih =>
    obtain ⟨p0, l0, ps0, h0⟩ : ∃ p0 l0 ps0, bst ev zs k = (p0, l0, ps0) := ⟨_, _, _, rfl⟩
    have hp0 : p0 = pl zs k := by rw [← bst_pl ev zs k, h0]
    have I := ih (by omega) h0
    by_cases hv : ev ≤ p0 - l0
    · rw [bst_yes h0 hv] at h
      simp only [Prod.mk.injEq] at h
      obtain ⟨rfl, rfl, rfl⟩ := h
      have hk0 : 0 < k := by
        rcases Nat.eq_zero_or_pos k with rfl | h
        · simp only [bst, Prod.mk.injEq] at h0
          omega
        · exact h
      have hlen : (ps0 ++ [((k : Int), p0)]).length = ps0.length + 1 := by simp
      have hlastp : (ps0 ++ [((k : Int), p0)]).getD ps0.length (0, 0) = ((k : Int), p0) := getD_app_r _ _
      refine ⟨by omega, ?_, fun t ht => ?_, fun t ht => ?_, ?_, fun t ht _ => ?_, fun j hj t hL => ?_⟩
      · rw [getD_app_l _ _ _ I.pos]; exact I.head
      · by_cases e : t < ps0.length
        · rw [getD_app_l _ _ _ e]
          obtain ⟨i, h1, h2⟩ := I.at' t e
          exact ⟨i, h1, by omega⟩
        · obtain rfl : t = ps0.length := by omega
          rw [hlastp, hp0]
          exact ⟨k, rfl, by omega⟩
      · by_cases e : t + 1 < ps0.length
        · rw [getD_app_l _ _ _ e, getD_app_l _ _ _ (by omega)]
          exact I.rise t e
        · obtain e2 : t + 1 = ps0.length := by omega
          rw [e2, hlastp, getD_app_l _ _ _ (by omega)]
          exact I.less t (by omega) hk0
      · rw [hlen, Nat.add_sub_cancel, hlastp]
      · by_cases e : t < ps0.length
        · rw [getD_app_l _ _ _ e]
          have := I.less t e hk0
          omega
        · obtain rfl : t = ps0.length := by omega
          rw [hlastp]
          simp only
          omega
      · obtain ⟨h1, h2, h3⟩ := hL
        by_cases e : j < k
        · have htl : t < ps0.length := by
            rcases Nat.lt_or_ge t ps0.length with h | h
            · exact h
            · obtain rfl : t = ps0.length := by omega
              rw [hlastp] at h2
              simp only at h2
              omega
          rw [getD_app_l _ _ _ htl] at h2 ⊢
          refine I.near j e t ⟨htl, h2, fun i hi hl => ?_⟩
          have := h3 i hi (by omega)
          rwa [getD_app_l _ _ _ hl] at this
        · obtain rfl : j = k := by omega
          have htl : t = ps0.length := by
            rcases Nat.lt_or_ge t ps0.length with h | h
            · have := h3 ps0.length h (by omega)
              rw [hlastp] at this
              simp only at this
              omega
            · omega
          subst htl
          rw [hlastp, hp0]
          simp only
          omega
    · rw [bst_not h0 hv] at h
      simp only [Prod.mk.injEq] at h
      obtain ⟨rfl, rfl, rfl⟩ := h
      refine ⟨I.pos, I.head, fun t ht => ?_, I.rise, I.last, fun t ht _ => ?_, fun j hj t hL => ?_⟩
      · obtain ⟨i, h1, h2⟩ := I.at' t ht
        exact ⟨i, h1, by omega⟩
      · obtain ⟨i, h1, h2⟩ := I.at' t ht
        rw [h1]
        simp only
        omega
      · by_cases e : j < k
        · exact I.near j e t hL
        · obtain rfl : j = k := by omega
          obtain ⟨h1, h2, h3⟩ := hL
          have htl : t = ps0.length - 1 := by
            rcases Nat.lt_or_ge t (ps0.length - 1) with h | h
            · have := h3 (ps0.length - 1) h (by omega)
              obtain ⟨i, h4, h5⟩ := I.at' (ps0.length - 1) (by omega)
              rw [h4] at this
              simp only at this
              omega
            · omega
          subst htl
          rw [← I.last, ← hp0]
          omega

theorem Iv.rt {ev : Int} {zs : List Int} {k : Nat} {ps : List (Int × Int)} {l : Int} (h : Iv ev zs k ps l) (hz : ∀ z ∈ zs, Sz z) (hk : k ≤ zs.length) (hk2 : k ≤ 65536) : Rt ps := by
  refine ⟨h.pos, h.head, fun t ht => ?_⟩
  have h1 := h.rise t (by omega)
  obtain ⟨i, e1, b1⟩ := h.at' t (by omega)
  obtain ⟨j, e2, b2⟩ := h.at' (t + 1) (by omega)
  rw [e1, e2] at h1
  simp only at h1
  rw [e1, e2]
  have h2 := pl_mono hz (show i ≤ j by omega) (by omega)
  have h3 := pl_bound hz j (by omega)
  exact ⟨h1, h2, by simp only; omega, by simp only; omega⟩

end Go.Proofs.Ytaapcanoaidpjaa

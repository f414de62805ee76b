/-
  Frames as functions on lists of bytes: what frames are whole at the begin of bytes, and what is left behind them.
-/
import Derived.Test.YtkdolabhcbjipaaGreatKit
namespace Go.Proofs.YtkdolabhcbjipaaGreat
open Go.RowKit
set_option maxRecDepth 100000

/-- A frame's bytes. -/
def fr (b : List Int) : List Int := be 4 b.length ++ b

abbrev Got := Option (List (List Int) × List Int)

def ahead (bs : List (List Int)) (x : Got) : Got := x.map (fun y => (bs ++ y.1, y.2))

theorem ahead_nil (x : Got) : ahead [] x = x := by cases x <;> simp [ahead]
theorem ahead_ahead (a b : List (List Int)) (x : Got) : ahead a (ahead b x) = ahead (a ++ b) x := by cases x <;> simp [ahead]
theorem ahead_none (a : List (List Int)) : ahead a none = none := rfl
theorem ahead_some (a b : List (List Int)) (r : List Int) : ahead a (some (b, r)) = some (a ++ b, r) := rfl

/-- The frames that are whole from the begin on, and the rest; none: a length that may not be stands behind them. -/
def pf : Nat → List Int → Got
  | 0, zs => some ([], zs)
  | k + 1, zs =>
    if zs.length < 4 then some ([], zs)
    else if 65536 < un (zs.take 4) then none
    else if zs.length < 4 + un (zs.take 4) then some ([], zs)
    else ahead [(zs.drop 4).take (un (zs.take 4))] (pf k (zs.drop (4 + un (zs.take 4))))

theorem pf_enough (k : Nat) : ∀ (j : Nat) (zs : List Int), zs.length ≤ k → zs.length ≤ j → pf k zs = pf j zs := by
  induction k with
  | zero =>
    intro j zs h1 _
    cases j with
    | zero => rfl
    | succ j => simp [pf]; omega
  | succ k ih =>
    intro j zs h1 h2
    cases j with
    | zero => simp [pf]; omega
    | succ j =>
      simp only [pf]
      rw [ih j (zs.drop (4 + un (zs.take 4)))]
      · simp; omega
      · simp; omega

def parse (zs : List Int) : Got := pf zs.length zs

theorem parse_eq (zs : List Int) : parse zs =
    if zs.length < 4 then some ([], zs)
    else if 65536 < un (zs.take 4) then none
    else if zs.length < 4 + un (zs.take 4) then some ([], zs)
    else ahead [(zs.drop 4).take (un (zs.take 4))] (parse (zs.drop (4 + un (zs.take 4)))) := by
  unfold parse
  rw [pf_enough zs.length (zs.length + 1) zs (Nat.le_refl _) (Nat.le_succ _)]
  simp only [pf]
  rw [pf_enough zs.length _ (zs.drop (4 + un (zs.take 4))) (by simp) (Nat.le_refl _)]

theorem parse_few {zs : List Int} (h : zs.length < 4) : parse zs = some ([], zs) := by rw [parse_eq, if_pos h]
theorem parse_long {zs : List Int} (h : 4 ≤ zs.length) (h2 : 65536 < un (zs.take 4)) : parse zs = none := by rw [parse_eq, if_neg (by omega), if_pos h2]
theorem parse_begun {zs : List Int} (h : 4 ≤ zs.length) (h1 : un (zs.take 4) ≤ 65536) (h2 : zs.length < 4 + un (zs.take 4)) : parse zs = some ([], zs) := by
  rw [parse_eq, if_neg (by omega), if_neg (by omega), if_pos h2]
theorem parse_one {zs : List Int} {m : Nat} (hm : un (zs.take 4) = m) (h1 : m ≤ 65536) (h2 : 4 + m ≤ zs.length) : parse zs = ahead [(zs.drop 4).take m] (parse (zs.drop (4 + m))) := by
  subst hm
  rw [parse_eq, if_neg (by omega), if_neg (by omega), if_neg (by omega)]

theorem fr_length (b : List Int) : (fr b).length = 4 + b.length := by simp [fr, be_length]

theorem parse_fr (b t : List Int) (h : b.length ≤ 65536) : parse (fr b ++ t) = ahead [b] (parse t) := by
  have e : (fr b ++ t).take 4 = be 4 b.length := by
    rw [fr, List.append_assoc, List.take_left' (be_length 4 _)]
  have hu : un ((fr b ++ t).take 4) = b.length := by
    rw [e, un_be, Nat.mod_eq_of_lt (by omega)]
  rw [parse_one hu h (by simp [fr_length])]
  congr 1
  · rw [fr, List.append_assoc, List.drop_left' (be_length 4 _), List.take_left' rfl]
  · rw [List.drop_left' (by rw [fr_length])]

def flat (bs : List (List Int)) : List Int := (bs.map fr).flatten

theorem flat_snoc (bs : List (List Int)) (b : List Int) : flat (bs ++ [b]) = flat bs ++ fr b := by simp [flat]

theorem parse_flat (bs : List (List Int)) (hb : ∀ b ∈ bs, b.length ≤ 65536) (t : List Int) (ht : t.length < 4) : parse (flat bs ++ t) = some (bs, t) := by
  induction bs with
  | nil => simpa [flat] using parse_few ht
  | cons b bs ih =>
    have e : flat (b :: bs) ++ t = fr b ++ (flat bs ++ t) := by simp [flat]
    rw [e, parse_fr _ _ (hb b (by simp)), ih (fun c hc => hb c (by simp [hc]))]
    rfl

theorem parse_app (k : Nat) : ∀ (x y : List Int), x.length ≤ k →
    parse (x ++ y) = (match parse x with | none => none | some (bs, r) => ahead bs (parse (r ++ y))) := by
  induction k with
  | zero =>
    intro x y h
    have : x = [] := List.eq_nil_of_length_eq_zero (by omega)
    subst this
    rw [parse_few (zs := []) (by simp)]
    simp [ahead_nil]
  | succ k ih =>
    intro x y h
    by_cases c1 : x.length < 4
    · rw [parse_few c1]
      simp [ahead_nil]
    · have e : (x ++ y).take 4 = x.take 4 := by rw [List.take_append_of_le_length (by omega)]
      by_cases c2 : 65536 < un (x.take 4)
      · rw [parse_long (by omega) c2, parse_long (by simp; omega) (by rw [e]; exact c2)]
      · by_cases c3 : x.length < 4 + un (x.take 4)
        · rw [parse_begun (by omega) (by omega) c3]
          simp [ahead_nil]
        · rw [parse_one (zs := x) rfl (by omega) (by omega)]
          rw [parse_one (zs := x ++ y) (m := un (x.take 4)) (by rw [e]) (by omega) (by simp; omega)]
          rw [List.drop_append_of_le_length (by omega), List.drop_append_of_le_length (by omega), List.take_append_of_le_length (by simp; omega), ih _ _ (by simp; omega)]
          cases parse (x.drop (4 + un (x.take 4))) with
          | none => rfl
          | some q =>
            obtain ⟨b2, r2⟩ := q
            rw [ahead_some]
            exact ahead_ahead _ _ _

theorem parse_some {x y : List Int} {bs : List (List Int)} {r : List Int} (h : parse x = some (bs, r)) : parse (x ++ y) = ahead bs (parse (r ++ y)) := by
  rw [parse_app x.length x y (Nat.le_refl _), h]

theorem parse_none {x y : List Int} (h : parse x = none) : parse (x ++ y) = none := by
  rw [parse_app x.length x y (Nat.le_refl _), h]

theorem parse_rest {k : Nat} : ∀ {zs r : List Int} {bs : List (List Int)}, zs.length ≤ k → parse zs = some (bs, r) → r.length ≤ zs.length ∧ 4 * bs.length + r.length ≤ zs.length ∧ (∀ b ∈ bs, b.length ≤ 65536) := by
  induction k with
  | zero =>
    intro zs r bs hk h
    rw [parse_few (by omega)] at h
    cases h
    simp
  | succ k ih =>
    intro zs r bs hk h
    by_cases c1 : zs.length < 4
    · rw [parse_few c1] at h
      cases h
      simp
    · by_cases c2 : 65536 < un (zs.take 4)
      · rw [parse_long (by omega) c2] at h
        cases h
      · by_cases c3 : zs.length < 4 + un (zs.take 4)
        · rw [parse_begun (by omega) (by omega) c3] at h
          cases h
          simp
        · rw [parse_one (zs := zs) rfl (by omega) (by omega)] at h
          cases hq : parse (zs.drop (4 + un (zs.take 4))) with
          | none => rw [hq] at h; cases h
          | some q =>
            obtain ⟨b2, r2⟩ := q
            rw [hq, ahead_some] at h
            cases h
            have := ih (by simp; omega) hq
            simp only [List.length_drop] at this
            refine ⟨by omega, by simp; omega, ?_⟩
            intro b hb
            simp only [List.singleton_append, List.mem_cons] at hb
            rcases hb with rfl | hb
            · simp; omega
            · exact this.2.2 b hb

end Go.Proofs.YtkdolabhcbjipaaGreat

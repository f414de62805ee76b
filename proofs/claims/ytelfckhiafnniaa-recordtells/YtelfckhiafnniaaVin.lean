/-
  Numbers in groups of seven bits, as functions on lists; nothing of the program.
-/
import Derived.Test.YtelfckhiafnniaaKit
namespace Go.Proofs.Ytelfckhiafnniaa
open Go.RowKit

/-- The bytes of a number, f groups at the most behind the first. -/
def vbf : Nat → Nat → List Int
  | 0, n => [(n : Int)]
  | f + 1, n => if n < 128 then [(n : Int)] else ((n % 128 + 128 : Nat) : Int) :: vbf f (n / 128)

theorem vbf_eq (f : Nat) : ∀ f' n, n ≤ f → n ≤ f' → vbf f n = vbf f' n := by
  induction f with
  | zero =>
    intro f' n h _
    obtain rfl : n = 0 := by omega
    cases f' <;> simp [vbf]
  | succ f ih =>
    intro f' n h h'
    cases f' with
    | zero =>
      obtain rfl : n = 0 := by omega
      simp [vbf]
    | succ f' =>
      rw [vbf, vbf]
      by_cases hn : n < 128
      · rw [if_pos hn, if_pos hn]
      · rw [if_neg hn, if_neg hn, ih f' (n / 128) (by omega) (by omega)]

/-- The bytes of a number. -/
def vb (n : Nat) : List Int := vbf n n

theorem vb_lt {n : Nat} (h : n < 128) : vb n = [(n : Int)] := by
  unfold vb
  cases n with
  | zero => rfl
  | succ n => rw [vbf, if_pos h]
theorem vb_ge {n : Nat} (h : 128 ≤ n) : vb n = ((n % 128 + 128 : Nat) : Int) :: vb (n / 128) := by
  unfold vb
  cases n with
  | zero => omega
  | succ n => rw [vbf, if_neg (by omega), vbf_eq n ((n + 1) / 128) ((n + 1) / 128) (by omega) (Nat.le_refl _)]

/-- The number that groups say, the lowest first. -/
def num : List Int → Nat
  | [] => 0
  | z :: l => (z % 128).toNat + 128 * num l

theorem num_vb (n : Nat) : num (vb n) = n := by
  induction n using Nat.strongRecOn with
  | _ n ih =>
    by_cases h : n < 128
    · rw [vb_lt h]; simp only [num]; omega
    · rw [vb_ge (by omega)]
      simp only [num]
      rw [ih (n / 128) (by omega)]
      omega

theorem vb_inj {m n : Nat} (h : vb m = vb n) : m = n := by rw [← num_vb m, ← num_vb n, h]

theorem vb_ne (n : Nat) : vb n ≠ [] := by
  by_cases h : n < 128
  · rw [vb_lt h]; simp
  · rw [vb_ge (by omega)]; simp

theorem vb_pos (n : Nat) : 1 ≤ (vb n).length := List.length_pos_iff.2 (vb_ne n)

theorem vb_byte (n : Nat) : ∀ z ∈ vb n, 0 ≤ z ∧ z ≤ 255 := by
  induction n using Nat.strongRecOn with
  | _ n ih =>
    by_cases h : n < 128
    · rw [vb_lt h]; simp; omega
    · rw [vb_ge (by omega)]
      intro z hz
      rcases List.mem_cons.1 hz with rfl | hz
      · omega
      · exact ih _ (by omega) z hz

theorem vb_len_le (k : Nat) : ∀ n, n < 128 ^ (k + 1) → (vb n).length ≤ k + 1 := by
  induction k with
  | zero => intro n h; rw [vb_lt (by omega)]; simp
  | succ k ih =>
    intro n h
    by_cases h1 : n < 128
    · rw [vb_lt h1]; simp
    · rw [vb_ge (by omega), List.length_cons]
      have := ih (n / 128) (by rw [Nat.pow_succ] at h; omega)
      omega

theorem vb_len10 {n : Nat} (h : n < 18446744073709551616) : (vb n).length ≤ 10 := vb_len_le 9 n (by omega)

theorem vb_len_mono (n : Nat) : ∀ m, m ≤ n → (vb m).length ≤ (vb n).length := by
  induction n using Nat.strongRecOn with
  | _ n ih =>
    intro m hm
    by_cases h : m < 128
    · rw [vb_lt h]; exact vb_pos n
    · rw [vb_ge (n := m) (by omega), vb_ge (n := n) (by omega)]
      have := ih (n / 128) (by omega) (m / 128) (by omega)
      simpa using this

/-- What is walked: up to the first last group, and no more than k. -/
def upto : Nat → List Int → List Int
  | 0, _ => []
  | _ + 1, [] => []
  | k + 1, z :: l => if z < 128 then [z] else z :: upto k l

theorem upto_vb (n : Nat) : ∀ (k : Nat) (t : List Int), (vb n).length ≤ k → upto k (vb n ++ t) = vb n := by
  induction n using Nat.strongRecOn with
  | _ n ih =>
    intro k t hk
    cases k with
    | zero => have := vb_pos n; omega
    | succ k =>
      by_cases h : n < 128
      · rw [vb_lt h]; simp [upto]; omega
      · rw [vb_ge (by omega)] at hk ⊢
        simp only [List.length_cons] at hk
        rw [List.cons_append, upto, if_neg (by omega), ih (n / 128) (by omega) k t (by omega)]

theorem upto_prefix (k : Nat) : ∀ l, upto k l <+: l := by
  induction k with
  | zero => intro l; simp [upto]
  | succ k ih =>
    intro l
    cases l with
    | nil => simp [upto]
    | cons z l =>
      rw [upto]
      split
      · exact ⟨l, rfl⟩
      · exact List.cons_prefix_cons.2 ⟨rfl, ih l⟩

theorem upto_len (k : Nat) (l : List Int) : (upto k l).length ≤ k := by
  induction k generalizing l with
  | zero => simp [upto]
  | succ k ih =>
    cases l with
    | nil => simp [upto]
    | cons z l =>
      rw [upto]
      split
      · simp
      · have := ih l; simp; omega

/-- Whether a number of so many bytes may end so. -/
def mayEnd (last : Int) (size : Nat) : Bool := if 128 ≤ last then false else if size = 10 then decide (last = 1) else if 1 < size then decide (0 < last) else true

def last (l : List Int) : Int := l.getLast?.getD 0

theorem last_cons (z : Int) {l : List Int} (h : l ≠ []) : last (z :: l) = last l := by
  unfold last
  cases l with
  | nil => exact absurd rfl h
  | cons y l => simp [List.getLast?_cons_cons]

theorem last_snoc (l : List Int) (z : Int) : last (l ++ [z]) = z := by simp [last]

/-- Groups of which each but the last is marked, and the last is not. -/
def Form : List Int → Prop
  | [] => False
  | [z] => 0 ≤ z ∧ z < 128
  | z :: l => (128 ≤ z ∧ z ≤ 255) ∧ Form l

theorem form_cons {z y : Int} {l : List Int} : Form (z :: y :: l) ↔ (128 ≤ z ∧ z ≤ 255) ∧ Form (y :: l) := Iff.rfl

theorem num_pos : ∀ {l : List Int}, Form l → 0 < last l → 0 < num l
  | [], h, _ => h.elim
  | [z], h, hl => by simp only [Form] at h; simp [last] at hl; simp only [num]; omega
  | z :: y :: l, h, hl => by
    have := num_pos (l := y :: l) h.2 (by rwa [last_cons z (by simp)] at hl)
    rw [num]
    omega

theorem vb_num : ∀ {l : List Int}, Form l → (1 < l.length → 0 < last l) → vb (num l) = l
  | [], h, _ => h.elim
  | [z], h, _ => by
    simp only [Form] at h
    have e : num [z] = z.toNat := by simp only [num]; omega
    rw [e, vb_lt (by omega)]
    simp; omega
  | z :: y :: l, h, hl => by
    have h1 := h.1
    have hp : 0 < last (y :: l) := by have := hl (by simp); rwa [last_cons z (by simp)] at this
    have hn := num_pos h.2 hp
    have ih := vb_num h.2 (fun _ => hp)
    have e : num (z :: y :: l) = (z % 128).toNat + 128 * num (y :: l) := rfl
    have e2 : num (z :: y :: l) / 128 = num (y :: l) := by omega
    rw [vb_ge (by omega), e2, ih]
    congr 1
    omega

theorem upto_form (k : Nat) : ∀ l : List Int, (∀ z ∈ l, 0 ≤ z ∧ z ≤ 255) → upto k l ≠ [] → last (upto k l) < 128 → Form (upto k l) := by
  induction k with
  | zero => intro l _ h; simp [upto] at h
  | succ k ih =>
    intro l hb hne hl
    cases l with
    | nil => simp [upto] at hne
    | cons z l =>
      have hz := hb z (by simp)
      rw [upto] at hne hl ⊢
      by_cases h : z < 128
      · rw [if_pos h]; exact ⟨hz.1, h⟩
      · rw [if_neg h] at hl ⊢
        cases e : upto k l with
        | nil => rw [e] at hl; simp [last] at hl; omega
        | cons y t =>
          rw [e, last_cons z (by simp)] at hl
          have := ih l (fun z hz => hb z (by simp [hz])) (by rw [e]; simp) (by rw [e]; exact hl)
          rw [e] at this
          exact ⟨by omega, this⟩

theorem num_lt : ∀ l : List Int, num l < 128 ^ l.length
  | [] => by simp [num]
  | z :: l => by
    have := num_lt l
    rw [num, List.length_cons, Nat.pow_succ]
    omega

theorem num_snoc (l : List Int) (z : Int) : num (l ++ [z]) = num l + 128 ^ l.length * (z % 128).toNat := by
  induction l with
  | nil => simp [num]
  | cons y l ih =>
    rw [List.cons_append, num, ih, num, List.length_cons, Nat.pow_succ, Nat.mul_add]
    have : 128 * (128 ^ l.length * (z % 128).toNat) = 128 ^ l.length * 128 * (z % 128).toNat := by rw [Nat.mul_comm (128 ^ l.length) 128, Nat.mul_assoc]
    omega

/-- The number that stands at a list's begin. -/
def getv (l : List Int) : Option Nat := if upto 10 l ≠ [] ∧ mayEnd (last (upto 10 l)) (upto 10 l).length = true then some (num (upto 10 l)) else none

theorem getv_iff {l : List Int} (hb : ∀ z ∈ l, 0 ≤ z ∧ z ≤ 255) (n : Nat) : getv l = some n ↔ n < 18446744073709551616 ∧ vb n <+: l := by
  unfold getv
  constructor
  · intro h
    split at h
    · next hc =>
      obtain ⟨hne, hm⟩ := hc
      simp only [Option.some.injEq] at h
      unfold mayEnd at hm
      have h128 : last (upto 10 l) < 128 := by
        by_cases hh : 128 ≤ last (upto 10 l)
        · rw [if_pos hh] at hm; cases hm
        · omega
      rw [if_neg (by omega)] at hm
      have hf := upto_form 10 l hb hne h128
      have hlen := upto_len 10 l
      have hv : vb n = upto 10 l := by
        rw [← h]
        refine vb_num hf (fun h1 => ?_)
        by_cases h10 : (upto 10 l).length = 10
        · rw [if_pos h10] at hm; simp at hm; omega
        · rw [if_neg h10, if_pos h1] at hm; simpa using hm
      refine ⟨?_, hv ▸ upto_prefix 10 l⟩
      by_cases h10 : (upto 10 l).length = 10
      · rw [if_pos h10] at hm
        simp only [decide_eq_true_eq] at hm
        have e := List.dropLast_concat_getLast hne
        have hl : last (upto 10 l) = (upto 10 l).getLast hne := by simp [last, List.getLast?_eq_some_getLast hne]
        rw [← hl, hm] at e
        have h9 := num_lt (upto 10 l).dropLast
        rw [List.length_dropLast, h10] at h9
        rw [← h, ← e, num_snoc, List.length_dropLast, h10]
        simp only [show (10 : Nat) - 1 = 9 from rfl] at h9 ⊢
        omega
      · have h9 := num_lt (upto 10 l)
        have : 128 ^ (upto 10 l).length ≤ 128 ^ 9 := Nat.pow_le_pow_right (by omega) (by omega)
        omega
    · cases h
  · rintro ⟨hn, t, rfl⟩
    have h10 := vb_len10 hn
    rw [upto_vb n 10 t h10, num_vb]
    refine if_pos ⟨vb_ne n, ?_⟩
    unfold mayEnd
    have hl : ∀ m, 0 ≤ last (vb m) ∧ last (vb m) < 128 ∧ (1 < (vb m).length → 0 < last (vb m)) := by
      intro m
      induction m using Nat.strongRecOn with
      | _ m ih =>
        by_cases h : m < 128
        · rw [vb_lt h]; simp [last]; omega
        · rw [vb_ge (by omega), last_cons _ (vb_ne _)]
          have := ih (m / 128) (by omega)
          refine ⟨this.1, this.2.1, fun _ => ?_⟩
          by_cases h1 : 1 < (vb (m / 128)).length
          · exact this.2.2 h1
          · by_cases h2 : m / 128 < 128
            · rw [vb_lt h2]; simp [last]; omega
            · exact absurd (by rw [vb_ge (n := m / 128) (by omega), List.length_cons]; have := vb_pos (m / 128 / 128); omega) h1
    have h1 := hl n
    rw [if_neg (by omega)]
    by_cases h2 : (vb n).length = 10
    · rw [if_pos h2]
      have e := List.dropLast_concat_getLast (vb_ne n)
      have hl : last (vb n) = (vb n).getLast (vb_ne n) := by simp [last, List.getLast?_eq_some_getLast (vb_ne n)]
      rw [← hl] at e
      have h3 := num_vb n
      rw [← e, num_snoc, List.length_dropLast, h2] at h3
      simp only [show (10 : Nat) - 1 = 9 from rfl] at h3
      have := h1.2.2 (by omega)
      simp only [decide_eq_true_eq]
      omega
    · rw [if_neg h2]
      split
      · simpa using h1.2.2 (by assumption)
      · rfl

/-- A number with a sign, folded; and back. -/
def fo (n : Int) : Nat := if n < 0 then (-2 * n - 1).toNat else (2 * n).toNat
def unfo (m : Nat) : Int := if m % 2 = 1 then -((m / 2 : Nat) : Int) - 1 else ((m / 2 : Nat) : Int)

theorem unfo_fo (n : Int) : unfo (fo n) = n := by
  unfold unfo fo
  split <;> split <;> omega

theorem fo_lt {n : Int} (h1 : -9223372036854775808 ≤ n) (h2 : n ≤ 9223372036854775807) : fo n < 18446744073709551616 := by unfold fo; split <;> omega

end Go.Proofs.Ytelfckhiafnniaa

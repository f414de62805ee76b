/-
  SumsBursts returns true: the change, and the law by steps.
-/
import Derived.Test.YtelfckhiafnniaaSuc
import Derived.Test.YtelfckhiafnniaaSam
import Derived.Test.YtelfckhiafnniaaCpy
import Derived.Test.YtelfckhiafnniaaPik
namespace Go.Proofs.Ytelfckhiafnniaa
open Go.RowKit

theorem xor_u8_range (a b : Int) (h1 : 0 ≤ a) (h2 : a ≤ 255) (h3 : 0 ≤ b) (h4 : b ≤ 255) : 0 ≤ bits .xor .u8 a b ∧ bits .xor .u8 a b ≤ 255 := by
  rw [u8_xor a b h1 (by omega) h3 (by omega)]
  have := xor_lt256 (x := a.toNat) (y := b.toNat) (by omega) (by omega)
  omega

theorem cut3 (zs : List Int) (p k : Nat) : zs = zs.take p ++ (zs.drop p).take k ++ zs.drop (p + k) := by
  rw [List.append_assoc, ← List.drop_drop, List.take_append_drop, List.take_append_drop]

theorem burst_eq (zs ys : List Int) (p k : Nat) (hz : ∀ z ∈ zs, 0 ≤ z ∧ z ≤ 255) (hy : ∀ z ∈ ys, 0 ≤ z ∧ z ≤ 255) (hl : ys.length = zs.length) (h1 : ys.take p = zs.take p) (h2 : ys.drop (p + k) = zs.drop (p + k)) (hk : k ≤ 4)
    (h : more 0 zs = more 0 ys) : zs = ys := by
  have e : (zs.drop p).take k = (ys.drop p).take k := by
    refine burst (zs.take p) _ _ (zs.drop (p + k)) (take_byte (drop_byte hz _) _) (take_byte (drop_byte hy _) _) (drop_byte hz _) (by simp [hl]) (by simp; omega) ?_
    rw [← cut3 zs p k, ← h1, ← h2, ← cut3 ys p k]
    exact h
  rw [cut3 zs p k, cut3 ys p k, e, h1, h2]

/-- The list while it is changed: k bytes from place p on may be others. -/
structure Chg (zs ys : List Int) (p k : Nat) : Prop where
  len : ys.length = zs.length
  byte : ∀ z ∈ ys, 0 ≤ z ∧ z ≤ 255
  ahead : ys.take p = zs.take p
  behind : ys.drop (p + k) = zs.drop (p + k)

theorem Chg.step {zs ys : List Int} {p k : Nat} (h : Chg zs ys p k) (v : Int) (hv : 0 ≤ v ∧ v ≤ 255) : Chg zs (ys.set (p + k) v) p (k + 1) := by
  refine ⟨by rw [List.length_set, h.len], ?_, ?_, ?_⟩
  · intro z hz
    rcases List.mem_or_eq_of_mem_set hz with hz | rfl
    · exact h.byte z hz
    · exact hv
  · rw [List.take_set_of_le (by omega), h.ahead]
  · rw [List.drop_set_of_lt (by omega), ← Nat.add_assoc, ← List.drop_drop, h.behind, List.drop_drop]

theorem U_set (ys : List Int) (i : Nat) (v : Int) (rest : List Value) (h : i < ys.length) : (U ys ++ rest).set i (.int .u8 v) = U (ys.set i v) ++ rest := by
  rw [List.set_append_left _ _ (by rw [U_length]; exact h)]
  simp [U]

theorem U_cell {w : World} {g i : Nat} {ys : List Int} {rest : List Value} {t : TypeId} (hg : w.heap[g]? = some (.cells (U ys ++ rest).toArray t (0, 0))) (h : i < ys.length) : w.cell? ⟨g, i, none⟩ = some (.int .u8 (ys.getD i 0)) := by
  rw [cell_of_row w g i _ t (0, 0) hg]
  simp [U, List.getElem?_append_left, h, List.getD]

theorem own_heap {w : World} {base n cap g : Nat} {e : TypeId} {zs : List Int} (h : w.ownsRow base e 1 (.slice (some ⟨g, 0, none⟩) n cap) n (U zs)) :
    base ≤ g ∧ n ≤ cap ∧ cap ≤ maxLen ∧ ∃ rest : List Value, (U zs ++ rest).length = cap ∧ w.heap[g]? = some (.cells (U zs ++ rest).toArray e (0, 0)) := by
  rcases h.2 with ⟨h1, _⟩ | ⟨g', cap', cur, h1, hb, hh, hc, hm, hs, ht⟩
  · cases h1
  · simp only [Value.slice.injEq, Option.some.injEq, Addr.mk.injEq] at h1
    obtain ⟨⟨rfl, _, _⟩, _, rfl⟩ := h1
    rw [Nat.mul_one] at ht hs
    have e1 : U zs ++ cur.toList.drop n = cur.toList := by rw [← ht, List.take_append_drop]
    refine ⟨hb, hc, hm, cur.toList.drop n, ?_, ?_⟩
    · rw [e1]; simpa using hs
    · rw [e1]; simpa using hh

theorem bs_of {w : World} {g n cap : Nat} {ys : List Int} {rest : List Value} {t : TypeId} (hg : w.heap[g]? = some (.cells (U ys ++ rest).toArray t (0, 0))) (hc : (U ys ++ rest).length = cap) (hl : ys.length = n) (hm : cap ≤ maxLen) (hb : ∀ z ∈ ys, 0 ≤ z ∧ z ≤ 255) :
    Bs w (some ⟨g, 0, none⟩) n cap ys := by
  unfold maxLen at hm
  refine Bs.own hg hc hl (by rw [List.length_append, U_length] at hc; omega) (by omega) hb ?_
  rw [List.take_left' (by rw [U_length, hl])]
  rfl

end Go.Proofs.Ytelfckhiafnniaa

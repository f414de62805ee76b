/-
  What OverBytes does.
-/
import Derived.Test.YthakbelcefogaaaFow
import Derived.Test.YthakbelcefogaaaCpy
namespace Go.Proofs.Ythakbelcefogaaa
open Go.RowKit
set_option maxRecDepth 100000

set_option maxHeartbeats 400000 in
theorem over_any (base g n d : Nat) (X : List Value) (w : World) (h : w.ownsRow base 5 1 (.slice (some ⟨g, 0, none⟩) (n + 3) d) (n + 3) X) (hn : n ≤ 140737488351232) :
    Calls Try.prog 19 #[.slice (some ⟨g, 0, none⟩) n d] w fun e w' => e = .returned (.tuple #[]) ∧ Bar (fun k => k = g) w w' := by
  have hd : n + 3 ≤ d ∧ d ≤ 9223372036854775807 := by
    rcases h.2 with ⟨h1, _⟩ | ⟨g', c, cur, h1, _, _, h2, h3, _⟩
    · cases h1
    · simp only [Value.slice.injEq] at h1
      obtain ⟨_, _, rfl⟩ := h1
      unfold maxLen at h3
      exact ⟨h2, by omega⟩
  obtain ⟨hd1, hd2⟩ := hd
  go_enter Try.func19, Try.ntmps19
  go_wp2_with fail
  go_loopw [3] (fun i wr => ∃ (k : Nat) (Y : List Value), k ≤ n + 3 ∧ i = .int .i64 k ∧ Hid (wr.ownsRow base 5 1 (.slice (some ⟨g, 0, none⟩) (n + 3) d) (n + 3) Y) ∧ Bar (fun k => k = g) w wr) (fun i _ => n + 3 - (intOf i).toNat)
  case atStart => exact ⟨0, X, Nat.zero_le _, rfl, hide h, Bar.refl _ _⟩
  case round =>
    obtain ⟨k, Y, hk, rfl, hown, hb⟩ := hrel
    by_cases hlt : k < n + 3
    · have hyl : Y.length = n + 3 := by have := hown.out.1; omega
      have hc := hown.out.cells (g := g) rfl k _ (List.getElem?_eq_getElem (by omega : k < Y.length))
      simp only [Addr.add_lit, Nat.zero_add] at hc
      have hf : wr.frozen? ⟨g, k, none⟩ = false := by
        rcases hown.out.2 with ⟨h1, _⟩ | ⟨g', c, cur, h1, _, hg, _⟩
        · cases h1
        · simp only [Value.slice.injEq, Option.some.injEq, Addr.mk.injEq] at h1
          obtain ⟨⟨rfl, _, _⟩, _, rfl⟩ := h1
          exact frozen_of_row wr g k cur 5 hg
      obtain ⟨hs, hg⟩ := hown.out.stored k (.int .u8 (mb 9 k))
      have HS := hide hs
      have HG := hide hg
      clear hs hg
      go_wp2_with (go_at_call 39; refine (mark_any 9 k (by omega) (by omega) _).mono ?_; rintro e w1 ⟨rfl, rfl⟩)
      go_roundw
      case rel => exact ⟨k + 1, _, by omega, by go_num, HS, hb.trans (Bar.of_grown HG.out) (fun i hi => .inl (by simp only [Option.some.injEq] at hi; exact hi.symm))⟩
      case measure => simp [intOf]; omega
    · go_wp2_with fail
      go_end0
      exact ⟨rfl, hb⟩

end Go.Proofs.Ythakbelcefogaaa

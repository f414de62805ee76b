/-
  What the lending of bytes, and the look whether they were kept, do.
-/
import Derived.Test.YthakbelcefogaaaCpy
import Derived.Test.YthakbelcefogaaaSam
namespace Go.Proofs.Ythakbelcefogaaa
open Go.RowKit
set_option maxRecDepth 100000

set_option maxHeartbeats 400000 in
theorem lent_any (a : Option Addr) (n cap : Nat) (zs : List Int) (w : World) (hB : Bs w a n cap zs) (hn : n + 3 ≤ 140737488355328) :
    Calls Try.prog 17 #[.slice a n cap] w fun e w' => ∃ g d, e = .returned (.slice (some ⟨g, 0, none⟩) n d) ∧ Bs w' (some ⟨g, 0, none⟩) (n + 3) d (zs ++ [77, 78, 79]) ∧ Below w.heap.size w w' := by
  obtain ⟨i0, hi, hz0, hz1, hz2⟩ := info_parts info5
  have hby : ∀ z ∈ zs ++ [77, 78, 79], 0 ≤ z ∧ z ≤ 255 := by
    intro z hz
    rcases List.mem_append.1 hz with h | h
    · exact hB.byte z h
    · simp only [List.mem_cons, List.not_mem_nil, or_false] at h; omega
  go_enter Try.func17, Try.ntmps17
  go_wp2_with fail
  refine (copy_any _ _ _ zs _ hB (by omega)).mono ?_
  rintro e w1 ⟨c, d, rfl, hown, hb⟩
  go_wp2_with (at_builtin; refine wpList_append_bs rfl (.tmp 5) (.tmp 6) 27 rfl w.heap.size 5 i0 Try.underlying27 hi hz0 hz1 hz2 (.slice c n d) n (U zs) rfl (hown.alloc _) _ _ _ [77, 78, 79] rfl (row_lit w1 _ rfl [77, 78, 79] 3 rfl (by decide) (by decide)) (by omega) (by omega) (by have := hb.size; simp; omega) ?_; intro g cc w2 hown2 hgrow; rw [← U_append] at hown2; have hB2 := own_bs hown2 hby; have hcc := hB2.le; have hcm := hB2.reach)
  go_ret
  refine ⟨g, cc, rfl, hB2, (hb.alloc hb.size _).grown hgrow (by have := hb.size; simp; omega) ?_⟩
  intro k hk
  exact (hown.lt k hk).1

set_option maxHeartbeats 400000 in
theorem kept_any (g n d : Nat) (a : Option Addr) (cap : Nat) (zs : List Int) (w : World) (hB : Bs w (some ⟨g, 0, none⟩) (n + 3) d (zs ++ [77, 78, 79])) (hA : Bs w a n cap zs) :
    Calls Try.prog 18 #[.slice (some ⟨g, 0, none⟩) n d, .slice a n cap] w fun e w' => e = .returned (.bool true) ∧ w' = w := by
  have hd := hB.le
  have hr := hB.reach
  have hl := hA.len
  have hh := hB.head n (by omega)
  rw [List.take_left' hl] at hh
  have hs := same_any _ _ _ _ _ _ _ _ w hh hA
  rw [decide_eq_true rfl] at hs
  have HS := hide hs
  obtain ⟨b, off, hb, hc⟩ := hB.lies (by omega)
  simp only [Option.some.injEq, Addr.mk.injEq, and_true] at hb
  obtain ⟨rfl, rfl⟩ := hb
  have c0 : w.cell? ⟨g, n, none⟩ = some (.int .u8 77) := by have := hc n (by omega); simpa [List.getD, ← hl] using this
  have c1 : w.cell? ⟨g, n + 1, none⟩ = some (.int .u8 78) := by have := hc (n + 1) (by omega); simpa [List.getD, ← hl] using this
  have c2 : w.cell? ⟨g, n + 2, none⟩ = some (.int .u8 79) := by have := hc (n + 2) (by omega); simpa [List.getD, ← hl] using this
  clear hs hc hh hl hA hB
  go_enter Try.func18, Try.ntmps18
  go_wp2_with (go_at_call 25; refine HS.out.mono ?_; rintro e w' ⟨rfl, rfl⟩)
  go_ret
  exact ⟨rfl, rfl⟩

end Go.Proofs.Ythakbelcefogaaa

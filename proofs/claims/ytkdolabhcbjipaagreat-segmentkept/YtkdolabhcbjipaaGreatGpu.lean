/-
  What 'copied' and Put of the program's frame do, for any slice of bytes.
-/
import Derived.Test.YtkdolabhcbjipaaGreatFow
import Derived.Test.YtkdolabhcbjipaaGreatFpa
import Derived.Test.YtkdolabhcbjipaaGreatGoa
namespace Go.Proofs.YtkdolabhcbjipaaGreat
open Go.RowKit
set_option maxRecDepth 100000

set_option maxHeartbeats 400000 in
theorem fcopied_any (a : Option Addr) (n cap : Nat) (zs : List Int) (w : World) (hB : Bs w a n cap zs) (hn : n ≤ 140737488355328) :
    Calls Tryz.prog 76 #[.slice a n cap] w fun e w' => ∃ g d, e = .returned (.slice (some ⟨g, 0, none⟩) n d) ∧ w'.ownsRow w.heap.size 5 1 (.slice (some ⟨g, 0, none⟩) n d) n (U zs) ∧ Below w.heap.size w w' := by
  obtain ⟨i0, hi, hz0, hz1, hz2⟩ := info_parts info5
  go_enter Tryz.func76, Tryz.ntmps76
  go_wp2_with (at_builtin; refine wpList_append_went rfl (.tmp 3) (.tmp 4) 30 rfl w.heap.size 5 i0 Tryz.underlying30 hi hz0 hz1 hz2 _ 0 [] rfl (World.ownsRow_made w #[] 0 (Nat.le_refl _) (by decide) rfl) _ _ _ zs rfl (hB.alloc _) (by omega) (by simp) ?_; intro v' w' hown hgrow hwent)
  simp only [Nat.zero_add, List.nil_append] at hown
  have hb : ∃ g, v'.ownBlock = some g := by
    rcases hwent with h | h
    · exact ⟨_, h⟩
    · exact ⟨_, h⟩
  obtain ⟨g, hg⟩ := hb
  obtain ⟨d, rfl⟩ := own_some hown hg
  have hbel : Below w.heap.size w w' := ((Below.refl _ w).alloc (Nat.le_refl _) _).grown hgrow (by simp) (fun k hk => own_from (World.ownsRow_made (size := 1) (e := 5) w #[] 0 (Nat.le_refl _) (by decide) rfl) hk)
  clear hgrow hwent hg
  go_wp2_with fail
  go_ret
  exact ⟨g, d, rfl, hown, hbel⟩

set_option maxHeartbeats 400000 in
theorem add32_row (v : Nat) (w : World) (hv : v ≤ 4294967295) :
    Calls Tryz.prog 56 #[.slice none 0 0, .int .u32 v] w fun e w' => e = .returned (.slice (some ⟨w.heap.size, 0, none⟩) 4 4) ∧
      w'.ownsRow w.heap.size 5 1 (.slice (some ⟨w.heap.size, 0, none⟩) 4 4) 4 (U (be 4 v)) ∧ Below w.heap.size w w' := by
  go_enter Tryz.func56, Tryz.ntmps56
  go_wp2_with (go_at_call 78; refine (addNumber_any _ _ _ [] _ 4 _ (Bs.nil _) (by omega) (by omega)).mono ?_; rintro e w1 ⟨rfl, hg1, hb1⟩; have HG1 := hide hg1; clear hg1)
  go_ret
  exact ⟨rfl, row_own _ (Nat.le_refl _) HG1.out (by simp [U, be_length]) (be_length 4 v) (Nat.le_refl _) (by omega) (by rw [List.take_of_length_le (by simp [U, be_length]), List.nil_append]), hb1⟩

set_option maxHeartbeats 400000 in
theorem fput_yes (a : Option Addr) (n cap : Nat) (zs : List Int) (w : World) (hB : Bs w a n cap zs) (hn : n ≤ 65536) :
    Calls Tryz.prog 34 #[.slice a n cap] w fun e w' => ∃ g d, e = .returned (.tuple #[.slice (some ⟨g, 0, none⟩) (4 + n) d, .int .i64 0]) ∧
      w'.ownsRow w.heap.size 5 1 (.slice (some ⟨g, 0, none⟩) (4 + n) d) (4 + n) (U (fr zs)) ∧ Below w.heap.size w w' := by
  obtain ⟨i0, hi, hz0, hz1, hz2⟩ := info_parts info5
  have hl := hB.len
  go_enter Tryz.func34, Tryz.ntmps34
  go_wp2_with fail
  refine (add32_row n _ (by omega)).mono ?_
  rintro e w1 ⟨rfl, hown1, hb1⟩
  have hB1 := hB.keep hb1
  have hs1 := hb1.size
  go_wp2_with (at_builtin; refine wpList_append_bs rfl (.tmp 10) (.tmp 11) 30 rfl w.heap.size 5 i0 Tryz.underlying30 hi hz0 hz1 hz2 _ 4 _ rfl hown1 _ _ _ zs rfl hB1 (by omega) (by omega) (by omega) ?_; intro g d w' hown hgrow)
  have hbel : Below w.heap.size w w' := hb1.grown hgrow hs1 (fun k hk => own_from hown1 hk)
  clear hgrow hown1
  go_wp2_with fail
  go_ret2
  refine ⟨g, d, rfl, ?_, hbel⟩
  rw [← U_append] at hown
  rw [fr, hl]
  exact hown

set_option maxHeartbeats 400000 in
theorem fput_no (a : Option Addr) (n cap : Nat) (w : World) (hn : 65536 < n) (hr : n ≤ 9223372036854775807) :
    Calls Tryz.prog 34 #[.slice a n cap] w fun e w' => e = .returned (.tuple #[.slice none 0 0, .int .i64 3]) ∧ w' = w := by
  go_enter Tryz.func34, Tryz.ntmps34
  go_wp2_with fail
  go_ret2
  exact ⟨rfl, rfl⟩

end Go.Proofs.YtkdolabhcbjipaaGreat

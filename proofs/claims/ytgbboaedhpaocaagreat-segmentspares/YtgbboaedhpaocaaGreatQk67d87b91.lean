/-
  SegmentSpares' walk.
-/
import Derived.Test.YtgbboaedhpaocaaGreatQkfb0fb780
import Derived.Test.YtgbboaedhpaocaaGreatMxcb0a4d53
import Derived.Test.YtgbboaedhpaocaaGreatApb
import Derived.Test.YtgbboaedhpaocaaGreatCpy
namespace Go.Proofs.YtgbboaedhpaocaaGreat
open Go.RowKit
set_option maxRecDepth 100000
set_option maxRecDepth 100000
set_option linter.unusedVariables false

theorem cl_new (s : ByteArray) : Cl ⟨[], []⟩ 0 s := ⟨by omega, rfl, rfl, rfl, by decide⟩

/-- Sectors put on a new disk. -/
theorem sputs_new {s : ByteArray} (hs : 1 ≤ s.size ∧ s.size ≤ 64) (zs : List Int) : ∀ k, k + 1 ≤ 4096 → Dsk.sputs s zs (List.range' 0 (k + 1)) newDsk = (0, more ⟨[], []⟩ 0 0 s ((List.range (k + 1)).map (sec zs))) := by
  intro k
  induction k with
  | zero =>
    intro _
    have e := put_first (n := 0) (r := sec zs 0) (cl_new s) hs
    show (if (newDsk.put s ((0 : Nat) : Int) 64 (sec zs 0)).1 = 0 then (0, (newDsk.put s ((0 : Nat) : Int) 64 (sec zs 0)).2) else newDsk.put s ((0 : Nat) : Int) 64 (sec zs 0)) = _
    have e2 : newDsk.put s ((0 : Nat) : Int) 64 (sec zs 0) = (0, more ⟨[], []⟩ 0 0 s [sec zs 0]) := e
    rw [e2]
    rfl
  | succ k ih =>
    intro hk
    rw [List.range'_1_concat, sputs_app, ih (by omega), if_pos rfl]
    have e := put_next (n := 0) (rs := (List.range (k + 1)).map (sec zs)) (r := sec zs (k + 1)) (cl_new s) hs (by simp; omega)
    rw [List.length_map, List.length_range] at e
    show (if ((more ⟨[], []⟩ 0 0 s ((List.range (k + 1)).map (sec zs))).put s ((0 + (k + 1) : Nat) : Int) 64 (sec zs (0 + (k + 1)))).1 = 0 then _ else _) = _
    rw [Nat.zero_add, e, if_pos rfl]
    have e3 : (List.range (k + 1 + 1)).map (sec zs) = (List.range (k + 1)).map (sec zs) ++ [sec zs (k + 1)] := by rw [List.range_succ, List.map_append]; rfl
    rw [e3]
    rfl

theorem sapp_new {b : List Int} (h : b.length ≤ 3000) : ∃ d, newDsk.sapp sS [] false b = ⟨0, 0, d, [b], false⟩ := by
  unfold Dsk.sapp
  have hl : (flat [] ++ fr b).length = 4 + b.length := by rw [List.length_append, fr_length]; simp [flat]
  rw [if_neg (by simp), if_neg (by omega), if_neg (by rw [hl]; unfold nsec; omega)]
  have e0 : newDsk.sput sS (flat [] ++ fr b) ((flat []).length / 62) = Dsk.sputs sS (flat [] ++ fr b) (List.range' 0 (nsec (4 + b.length))) newDsk := by
    unfold Dsk.sput
    rw [hl]
    rfl
  obtain ⟨k, hk⟩ : ∃ k, nsec (4 + b.length) = k + 1 := ⟨nsec (4 + b.length) - 1, by unfold nsec; omega⟩
  have hk49 : k + 1 ≤ 49 := by rw [← hk]; unfold nsec; omega
  rw [e0, hk, sputs_new (by decide) _ k (by omega)]
  exact ⟨_, by rw [if_neg (by simp)]; rfl⟩

theorem apart3v (base : Nat) (v1 v2 v3 : Value) (n1 n2 n3 : Nat) (X1 X2 X3 : List Value) (w : World) (h1 : w.ownsRow base 5 1 v1 n1 X1) (h2 : w.ownsRow base 5 1 v2 n2 X2) (h3 : w.ownsRow base 5 1 v3 n3 X3) (hb : base ≤ w.heap.size)
    (d1 : v1.ownBlock = none ∨ v1.ownBlock ≠ v2.ownBlock) (d2 : v1.ownBlock = none ∨ v1.ownBlock ≠ v3.ownBlock) (d3 : v2.ownBlock = none ∨ v2.ownBlock ≠ v3.ownBlock) (e1 : v2.ownBlock = none ∨ v2.ownBlock ≠ v1.ownBlock) (e2 : v3.ownBlock = none ∨ v3.ownBlock ≠ v1.ownBlock) (e3 : v3.ownBlock = none ∨ v3.ownBlock ≠ v2.ownBlock)
    (m1 : n1 ≤ 140737488355000) (m2 : n2 ≤ 140737488355000) (m3 : n3 ≤ 140737488355000) :
    Calls Tryz.prog 39 #[.slice (some ⟨w.heap.size, 0, none⟩) 3 3] (w.alloc (.cells #[v1, v2, v3] 30)) fun e w' => e = .returned (.bool true) ∧ Tb (fun g => v1.ownBlock = some g ∨ v2.ownBlock = some g ∨ v3.ownBlock = some g) w w' := by
  have l1 : ∀ g, v1.ownBlock = some g → g < w.heap.size := fun g hg => (h1.lt g hg).2
  have l2 : ∀ g, v2.ownBlock = some g → g < w.heap.size := fun g hg => (h2.lt g hg).2
  have l3 : ∀ g, v3.ownBlock = some g → g < w.heap.size := fun g hg => (h3.lt g hg).2
  refine (apart_tells base w.heap.size 3 (fun k => match k with | 0 => v1 | 1 => v2 | _ => v3) (fun k => match k with | 0 => n1 | 1 => n2 | _ => n3) (fun k => match k with | 0 => X1 | 1 => X2 | _ => X3)
    _ (by decide) ?_ (by simp; omega) (by simp) ?_ ?_ ?_ ?_).mono ?_
  · intro k hk
    match k, hk with
    | 0, _ => exact m1
    | 1, _ => exact m2
    | 2, _ => exact m3
  · intro k hk
    rw [cell_of_row _ w.heap.size k _ 30 (0, 0) (heap_alloc_new w _)]
    match k, hk with
    | 0, _ => rfl
    | 1, _ => rfl
    | 2, _ => rfl
  · intro k hk
    match k, hk with
    | 0, _ => exact h1.alloc _
    | 1, _ => exact h2.alloc _
    | 2, _ => exact h3.alloc _
  · intro k hk e
    match k, hk with
    | 0, _ => exact Nat.lt_irrefl _ (l1 _ e)
    | 1, _ => exact Nat.lt_irrefl _ (l2 _ e)
    | 2, _ => exact Nat.lt_irrefl _ (l3 _ e)
  · intro j k hj hk hne
    match j, k, hj, hk with
    | 0, 0, _, _ => exact absurd rfl hne
    | 0, 1, _, _ => exact d1
    | 0, 2, _, _ => exact d2
    | 1, 0, _, _ => exact e1
    | 1, 1, _, _ => exact absurd rfl hne
    | 1, 2, _, _ => exact d3
    | 2, 0, _, _ => exact e2
    | 2, 1, _, _ => exact e3
    | 2, 2, _, _ => exact absurd rfl hne
  · rintro e w' ⟨rfl, hb', ht⟩
    refine ⟨rfl, ⟨hb'.os, hb'.tape, hb'.output, Nat.le_trans (by simp) hb'.size, fun i hi hs => ?_⟩⟩
    rw [ht i (by simp; omega) (fun k hk => ?_), Below.heap_alloc _ _ i hi]
    match k, hk with
    | 0, _ => exact fun e => hs (.inl e)
    | 1, _ => exact fun e => hs (.inr (.inl e))
    | 2, _ => exact fun e => hs (.inr (.inr e))

namespace segmentSpares

set_option maxHeartbeats 4000000 in
theorem walk (a : Option Addr) (len cap : Nat) (zs0 : List Int) (w : World) (hB0 : Bs w a len cap zs0) : Calls Tryz.prog 8 #[.slice a len cap] w fun e w' => e = .returned (.bool true) ∧ Below w.heap.size w w' := by
  obtain ⟨L, hL⟩ : ∃ L, Hid (L = min len 3000) := ⟨_, hide rfl⟩
  have hL1 : L ≤ 3000 := by rw [hL.out]; omega
  have hL2 : L ≤ len := by rw [hL.out]; omega
  have hmn : (min (len : Int) 3000).toNat = L := by rw [hL.out]; omega
  obtain ⟨b, hb⟩ : ∃ b, Hid (b = zs0.take L) := ⟨_, hide rfl⟩
  have hB : Bs w a L cap b := by rw [hb.out]; exact hB0.head L hL2
  have hbl := hB.len
  have hc1 := hB0.le
  have hc2 := hB0.reach
  obtain ⟨s, hs⟩ : ∃ s, Hid (s = sS) := ⟨_, hide rfl⟩
  have hss : s.size ≤ 1000000 := by rw [hs.out]; decide
  obtain ⟨d1, hd1⟩ := sapp_new (b := b) (by omega)
  have HBY := hide hB.byte
  have hbw1 : Bw d1 1000 := by
    have := sapp_bw (s := sS) (bs := []) (br := false) (b := b) bw_new (by simp) hB.byte (by omega)
    rw [hd1] at this
    exact this.wide (by rw [List.length_append, fr_length]; simp [flat]; unfold nsec; omega)
  go_enter Tryz.func8, Tryz.ntmps8
  go_wp2_with fail
  refine (ay_new (w := w)).mono ?_
  rintro e W1 ⟨R, rfl, hR, hA1⟩
  go_wp2_with fail
  rw [show ({ data := #[115] } : ByteArray) = s from hs.out.symm]
  refine (open_on (s := s) hA1 bw_new (by omega) hss).mono ?_
  rintro e W2 ⟨pv, rfl, _, _, hO, _⟩
  rw [hs.out] at hO
  obtain ⟨S, rfl, _, hX2⟩ := hO aw_o.1
  rw [hs.out, aw_o.1]
  rw [aw_o2, aw_o.2] at hX2
  clear hA1
  have hbel2 := hX2.below
  go_wp2_with fail
  refine (copy_any a L cap b W2 (hB.keep hbel2) (by omega)).mono ?_
  rintro e W3 ⟨ia, ic, rfl, hr3, t3⟩
  have hX3 := hX2.new (Tb.of_fresh t3)
  have hp3 : ∀ g, (Value.slice ia L ic).ownBlock = some g → g < w.heap.size ∨ (W2.heap.size ≤ g ∧ g < W3.heap.size) := fun g hg => .inr (hr3.lt g hg)
  have s23 := t3.size
  clear hX2 t3
  go_wp2_with fail
  refine (append_on hX3 bw_new (by omega) (by decide) (own_bs hr3 HBY.out)).mono ?_
  rintro e W4 ⟨rfl, hX4, n4⟩
  rw [hd1] at hX4
  rw [hd1]
  have hr4 := n4.row hr3 hp3
  have s34 := Tb.size n4
  clear hX3
  obtain ⟨Q, sv, ev, q1, q2, q3, q4, q5, q6, q7⟩ := hX4
  have hX4 : Sgx w _ R S d1 sS [b] false W4 := ⟨Q, sv, ev, q1, q2, q3, q4, q5, q6, q7⟩
  have hread : ∀ (V : World), Sg V R S sS sv ev [b] false → Calls Tryz.prog 18 #[.pointer (some ⟨S, 0, none⟩), .int .i64 0] V fun e w' => ∃ g c, e = .returned (.tuple #[.slice (some ⟨g, 0, none⟩) L c, .int .i64 0]) ∧ w'.ownsRow V.heap.size 5 1 (.slice (some ⟨g, 0, none⟩) L c) L (U b) ∧ Below V.heap.size V w' := fun V hV => by
    have := sread_yes (i := 0) hV (by simp)
    rw [← hbl]
    exact this
  have HRD := hide hread
  have C5 := hread W4 q4
  clear hread
  go_wp2_with fail
  refine C5.mono ?_
  rintro e W5 ⟨gx, cx, rfl, hr5, t5⟩
  have g5 := q4.tb (Tb.of_fresh (S := fun _ => False) t5) (fun h => h) (fun _ _ h => h) (fun _ _ h => h)
  have C6 := HRD.out W5 g5
  clear C5
  go_wp2_with fail
  refine C6.mono ?_
  rintro e W6 ⟨gy, cy, rfl, hr6, t6⟩
  clear C6
  have T46 : Tb (fun _ => False) W4 W6 := (Tb.of_fresh t5).trans (T := fun _ => False) (Tb.of_fresh t6) (fun _ _ h => h)
  have hX6 := hX4.new T46
  have hx6 := row_tb hr5 (Tb.of_fresh (S := fun _ => False) t6) (fun _ _ h => h)
  have hi6 := row_tb hr4 T46 (fun _ _ h => h)
  have lx := (hr5.lt gx rfl)
  have ly := (hr6.lt gy rfl)
  have hbel6 := hX6.below
  have hw2 := hbel2.size
  have li : ∀ g, (Value.slice ia L ic).ownBlock = some g → W2.heap.size ≤ g ∧ g < W3.heap.size := fun g hg => hr3.lt g hg
  have s45 := t5.size
  have s56 := t6.size
  have hBx := own_bs hx6 HBY.out
  have hBy := own_bs hr6 HBY.out
  have hBb := hB.keep hbel6
  have S1 := same_true rfl hBx hBb
  have S2 := same_true rfl hBy hBb
  have AP := apart3v w.heap.size (.slice (some ⟨gx, 0, none⟩) L cx) (.slice (some ⟨gy, 0, none⟩) L cy) (.slice ia L ic) L L L _ _ _ W6 (own_less hx6 (by omega)) (own_less hr6 (by omega)) (own_less hi6 (by omega)) (by omega)
    (.inr (by simp only [Value.ownBlock, ne_eq, Option.some.injEq]; omega)) (.inr (fun e => by have := li gx e.symm; omega)) (.inr (fun e => by have := li gy e.symm; omega)) (.inr (by simp only [Value.ownBlock, ne_eq, Option.some.injEq]; omega))
    (by cases hv : (Value.slice ia L ic).ownBlock with
        | none => exact .inl rfl
        | some g => exact .inr (fun e => by have := li g hv; simp only [Value.ownBlock, Option.some.injEq] at e; omega))
    (by cases hv : (Value.slice ia L ic).ownBlock with
        | none => exact .inl rfl
        | some g => exact .inr (fun e => by have := li g hv; simp only [Value.ownBlock, Option.some.injEq] at e; omega)) (by omega) (by omega) (by omega)
  have FIN : Hid (∀ W8, Tb (fun g => (Value.slice (some ⟨gx, 0, none⟩) L cx).ownBlock = some g ∨ (Value.slice (some ⟨gy, 0, none⟩) L cy).ownBlock = some g ∨ (Value.slice ia L ic).ownBlock = some g) W6 W8 → Sg W8 R S sS sv ev [b] false ∧ Below w.heap.size w W8) := hide (fun W8 t8 => by
    have h8 := hX6.on (t8.mono (fun g _ hg => by
      rcases hg with hg | hg | hg
      · simp only [Value.ownBlock, Option.some.injEq] at hg
        exact ⟨.inr ⟨by omega, by omega⟩, by omega⟩
      · simp only [Value.ownBlock, Option.some.injEq] at hg
        exact ⟨.inr ⟨by omega, by omega⟩, by omega⟩
      · have := li g hg
        exact ⟨.inl (hp3 g hg), by omega⟩))
    refine ⟨?_, h8.below⟩
    have g6 := g5.tb (Tb.of_fresh (S := fun _ => False) t6) (fun h => h) (fun _ _ h => h) (fun _ _ h => h)
    have hnot : ∀ g, Q g → ¬ ((Value.slice (some ⟨gx, 0, none⟩) L cx).ownBlock = some g ∨ (Value.slice (some ⟨gy, 0, none⟩) L cy).ownBlock = some g ∨ (Value.slice ia L ic).ownBlock = some g) := fun g hg hh => by
      have hlt := q1.lt g (.inr hg)
      rcases hh with hh | hh | hh
      · simp only [Value.ownBlock, Option.some.injEq] at hh
        omega
      · simp only [Value.ownBlock, Option.some.injEq] at hh
        omega
      · exact q2 g hg (hp3 g hh)
    exact g6.tb t8 (hnot S q5) (fun g hg => hnot g (q6 g hg)) (fun g hg => hnot g (q7 g hg)))
  have HBB := hide hB
  clear hX6 hX4 hx6 hi6 hBx hBy hBb q1 q2 q3 q4 q5 q6 q7 g5 hr3 hr4 hr5 hr6 t5 t6 T46 n4 hp3 li
  go_wp2_with (first
    | (go_at_call_of 34 (Value.slice (some ⟨gx, 0, none⟩) L cx); refine S1.mono ?_; rintro e w1 ⟨rfl, hw1⟩; subst w1)
    | (go_at_call_of 34 (Value.slice (some ⟨gy, 0, none⟩) L cy); refine S2.mono ?_; rintro e w1 ⟨rfl, hw1⟩; subst w1)
    | (go_at_call 39; refine AP.mono ?_; rintro e W8 ⟨rfl, t8⟩; obtain ⟨g8, b8⟩ := FIN.out W8 t8; have C8 := HRD.out W8 g8; clear t8))
  refine C8.mono ?_
  rintro e W9 ⟨gz, cz, rfl, hr9, t9⟩
  have b9 := b8.trans (t9.mono b8.size)
  have S3 := same_true rfl (own_bs hr9 HBY.out) (HBB.out.keep b9)
  have B9 := hide b9
  clear C8 b9 hr9 t9 g8 b8
  go_wp2_with (first
    | (go_at_call 34; refine S3.mono ?_; rintro e w1 ⟨rfl, hw1⟩; subst w1)
    | (go_at_call 23; refine (sawake_any _).mono ?_; rintro e W10 ⟨rfl, b10⟩))
  go_ret
  exact ⟨rfl, B9.out.trans (b10.mono B9.out.size)⟩

end segmentSpares
end Go.Proofs.YtgbboaedhpaocaaGreat

/-
  FileSpares, walked: answers share no memory.
-/
import Derived.Test.YtiijfgidfcfjoabDxb
import Derived.Test.YtiijfgidfcfjoabDnb
import Derived.Test.YtiijfgidfcfjoabApb
namespace Go.Proofs.Ytiijfgidfcfjoab
open Go.RowKit
set_option maxRecDepth 100000
set_option linter.unusedVariables false

def sec64 (b : Int) : List Int := List.replicate 64 b

theorem fill_any (b : Int) (w : World) : Calls Try.prog 5 #[.int .u8 b, .int .i64 0] w fun e w' => ∃ v, e = .returned v ∧ w'.ownsRow w.heap.size 5 1 v 64 (U (sec64 b)) ∧ Below w.heap.size w w' := by
  have h := filled_any b 0 (by omega) w
  rw [fz0] at h
  exact h

section
variable {w W V : World} {R : Nat} {d : Dsk} {vs : List Value}

theorem ax_put_in {K base : Nat} {v : Value} {s : ByteArray} {at' : Int} {data : List Int} (h : Ax w vs R d W) (hin : v ∈ vs) (hv : W.ownsRow base 5 1 v 64 (U data)) (hby : ∀ z ∈ data, 0 ≤ z ∧ z ≤ 255) (hf : Few d K) (hs : 1 ≤ s.size ∧ s.size ≤ 64)
    (h1 : 0 ≤ at') (h2 : at' ≤ ((lk d.std.rw (d.find s)).getD []).length) (hfull : ¬ (at' = 4096 ∨ (d.find s = 0 ∧ 256 ≤ d.std.nm.length))) :
    Calls Try.prog 6 #[.pointer (some ⟨R, 0, none⟩), .string s, .int .i64 at', v] W fun e w' => e = .returned (.int .i64 (d.put s at' 64 data).1) ∧ Ax w vs R (d.put s at' 64 data).2 w' ∧ Kr vs W w' := by
  obtain ⟨g, cap, rfl⟩ := own_shape hv (by omega)
  obtain ⟨L, ⟨o, a1, a2⟩, a3, a6, a5⟩ := h
  have hk := hf.k
  refine (put_go a1 a2 hf.std (by omega) hf.last hf.made hf.file hs (own_bs hv hby) (by rw [(a6 _ hin g rfl).2]; exact notTD0) h1 h2 hfull).mono ?_
  rintro e w' ⟨rfl, L', b1, b2, b3⟩
  exact ⟨rfl, Ax.step a3 a6 a5 b1 b2 b3⟩

/-- The rows beside a disk are turned. -/
theorem Ax.turn (h : Ax w vs R d W) (hb : Tb (fun g => ∃ v ∈ vs, v.ownBlock = some g) W V) (hw : ∀ v ∈ vs, ∀ g, v.ownBlock = some g → w.heap.size ≤ g) : Ax w [] R d V := by
  obtain ⟨L, h1, h2, h3, h5⟩ := h
  refine ⟨L, h1.tb hb (Lx.refl _ _) (fun g ht => ?_), h2, fun v hv => by simp at hv, h5.trans hb (fun i hi e => ?_)⟩
  · rintro ⟨v, hv, e⟩
    rw [(h3 v hv g e).2] at ht
    exact notTD0 ht
  · obtain ⟨v, hv, e⟩ := e
    have := hw v hv i e
    omega

theorem ax_names {K : Nat} (h : Ax w vs R d W) (hf : Few d K) : Calls Try.prog 10 #[.pointer (some ⟨R, 0, none⟩)] W fun e w' => ∃ (v : Value) (ss : List (List UInt8)), e = .returned v ∧ ss.Perm (d.std.nm.map (·.1)) ∧ w'.ownsRow W.heap.size 9 1 v ss.length ((ss.mergeSort (fun x y => decide (x ≤ y))).map encStr) ∧ Below W.heap.size W w' := by
  obtain ⟨L, ⟨o, a1, a2⟩, a3, a6, a5⟩ := h
  exact names_any a1 hf.std hf.k
end

theorem cl0a : Cl ⟨[], []⟩ 0 aS := ⟨by decide, rfl, rfl, rfl, by decide⟩
def dSp (b : Int) : Dsk := more ⟨[], []⟩ 0 0 aS [sec64 b]
theorem dSp_bytes (b : Int) : (dSp b).bytes aS = sec64 b := by
  show [sec64 b].flatten = _
  simp
theorem dSp_few {b : Int} (hb : 0 ≤ b ∧ b ≤ 255) : Few (dSp b) 11 := few_more Sm.empty (by omega) (by omega) (by omega) (by simp) ⟨by simp, fun x hx => by
  simp only [List.mem_singleton] at hx
  subst hx
  exact ⟨by simp [sec64], fun y hy => by rw [(List.mem_replicate.1 hy).2]; exact hb⟩⟩
theorem dSp_put (b : Int) : (calm ⟨[], []⟩ 0 0).put aS 0 64 (sec64 b) = (0, dSp b) := put_first cl0a (by decide)

theorem apart3t (base g1 n1 c1 g2 n2 c2 g3 n3 c3 : Nat) (X1 X2 X3 : List Value) (w : World) (h1 : w.ownsRow base 5 1 (.slice (some ⟨g1, 0, none⟩) n1 c1) n1 X1) (h2 : w.ownsRow base 5 1 (.slice (some ⟨g2, 0, none⟩) n2 c2) n2 X2) (h3 : w.ownsRow base 5 1 (.slice (some ⟨g3, 0, none⟩) n3 c3) n3 X3)
    (d1 : g1 ≠ g2) (d2 : g1 ≠ g3) (d3 : g2 ≠ g3) (m1 : n1 ≤ 140737488355000) (m2 : n2 ≤ 140737488355000) (m3 : n3 ≤ 140737488355000) :
    Calls Try.prog 9 #[.slice (some ⟨w.heap.size, 0, none⟩) 3 3] (w.alloc (.cells #[.slice (some ⟨g1, 0, none⟩) n1 c1, .slice (some ⟨g2, 0, none⟩) n2 c2, .slice (some ⟨g3, 0, none⟩) n3 c3] 24)) fun e w' => e = .returned (.bool true) ∧ Tb (fun g => g = g1 ∨ g = g2 ∨ g = g3) w w' := by
  have l1 := own_lt h1
  have l2 := own_lt h2
  have l3 := own_lt h3
  have hb : base ≤ w.heap.size := by omega
  refine (apart_tells base w.heap.size 3 (fun k => match k with | 0 => .slice (some ⟨g1, 0, none⟩) n1 c1 | 1 => .slice (some ⟨g2, 0, none⟩) n2 c2 | _ => .slice (some ⟨g3, 0, none⟩) n3 c3) (fun k => match k with | 0 => n1 | 1 => n2 | _ => n3) (fun k => match k with | 0 => X1 | 1 => X2 | _ => X3)
    _ (by decide) ?_ (by simp; omega) (by simp) ?_ ?_ ?_ ?_).mono ?_
  · intro k hk
    match k, hk with
    | 0, _ => exact m1
    | 1, _ => exact m2
    | 2, _ => exact m3
  · intro k hk
    match k, hk with
    | 0, _ => simp [go_sem]
    | 1, _ => simp [go_sem]
    | 2, _ => simp [go_sem]
  · intro k hk
    match k, hk with
    | 0, _ => exact h1.alloc _
    | 1, _ => exact h2.alloc _
    | 2, _ => exact h3.alloc _
  · intro k hk
    match k, hk with
    | 0, _ => simp [Value.ownBlock]; omega
    | 1, _ => simp [Value.ownBlock]; omega
    | 2, _ => simp [Value.ownBlock]; omega
  · intro j k hj hk hne
    match j, k, hj, hk with
    | 0, 0, _, _ => exact absurd rfl hne
    | 0, 1, _, _ => exact .inr (by simpa [Value.ownBlock] using d1)
    | 0, 2, _, _ => exact .inr (by simpa [Value.ownBlock] using d2)
    | 1, 0, _, _ => exact .inr (by simpa [Value.ownBlock] using d1.symm)
    | 1, 1, _, _ => exact absurd rfl hne
    | 1, 2, _, _ => exact .inr (by simpa [Value.ownBlock] using d3)
    | 2, 0, _, _ => exact .inr (by simpa [Value.ownBlock] using d2.symm)
    | 2, 1, _, _ => exact .inr (by simpa [Value.ownBlock] using d3.symm)
    | 2, 2, _, _ => exact absurd rfl hne
  · rintro e w' ⟨rfl, hb', ht⟩
    refine ⟨rfl, ⟨hb'.os, hb'.tape, hb'.output, Nat.le_trans (by simp) hb'.size, fun i hi hs => ?_⟩⟩
    rw [ht i (by simp; omega) (fun k hk => ?_), Below.heap_alloc _ _ i hi]
    match k, hk with
    | 0, _ => simp only [Value.ownBlock, ne_eq, Option.some.injEq]; omega
    | 1, _ => simp only [Value.ownBlock, ne_eq, Option.some.injEq]; omega
    | 2, _ => simp only [Value.ownBlock, ne_eq, Option.some.injEq]; omega

theorem own_down {w : World} {base base' size n : Nat} {e : TypeId} {v : Value} {xs : List Value} (h : w.ownsRow base e size v n xs) (hb : base' ≤ base) : w.ownsRow base' e size v n xs := by
  refine ⟨h.1, ?_⟩
  rcases h.2 with hn | ⟨g, cap, cur, rfl, hbg, rest⟩
  · exact .inl hn
  · exact .inr ⟨g, cap, cur, rfl, by omega, rest⟩

theorem row_one {w : World} {base : Nat} {v : Value} (h : w.ownsRow base 9 1 v [[97]].length (([[97]].mergeSort (fun x y => decide (x ≤ y))).map encStr)) : ∃ g cap, v = .slice (some ⟨g, 0, none⟩) 1 cap ∧ base ≤ g ∧ g < w.heap.size ∧ 1 ≤ cap ∧ cap ≤ 9223372036854775807 ∧ w.cell? ⟨g, 0, none⟩ = some (.string ⟨#[97]⟩) ∧ w.frozen? ⟨g, 0, none⟩ = false := by
  have e : (([[97]] : List (List UInt8)).mergeSort (fun x y => decide (x ≤ y))).map encStr = [.string ⟨#[97]⟩] := by
    rw [List.mergeSort_singleton]
    rfl
  rw [e] at h
  obtain ⟨g, cap, hv⟩ := own_shape h (by decide)
  subst hv
  have hl := own_lt h
  have hc := h.cells (g := g) rfl 0 _ rfl
  rw [Addr.add_mid] at hc
  refine ⟨g, cap, rfl, hl.1, hl.2, ?_, ?_, hc, h.frozenAt 0⟩
  · rcases h.2 with ⟨h1, _⟩ | ⟨g', c', cur, h1, _, _, h2, h3, _⟩
    · cases h1
    · simp only [Value.slice.injEq] at h1
      rw [h1.2.2]
      exact h2
  · rcases h.2 with ⟨h1, _⟩ | ⟨g', c', cur, h1, _, _, h2, h3, _⟩
    · cases h1
    · simp only [Value.slice.injEq] at h1
      unfold maxLen at h3
      rw [h1.2.2]
      omega

theorem names_one {ss : List (List UInt8)} (h : ss.Perm [[97]]) : ss = [[97]] := List.perm_singleton.1 h

namespace fileSpares

set_option maxHeartbeats 4000000 in
theorem walk (b : Int) (hb0 : 0 ≤ b ∧ b ≤ 255) (w : World) : Calls Try.prog 3 #[.int .u8 b] w fun e w' => e = .returned (.bool true) ∧ Below w.heap.size w w' := by
  have HB := hide hb0
  obtain ⟨hbl, hbh⟩ := hb0
  have hby : Hid (∀ z ∈ sec64 b, 0 ≤ z ∧ z ≤ 255) := hide (fun z hz => by rw [(List.mem_replicate.1 hz).2]; exact HB.out)
  go_enter Try.func3, Try.ntmps3
  go_wp2_with fail
  refine aw_new.mono ?_
  rintro e w1 ⟨R, rfl, hR, a1⟩
  have A1 : Hid (Ax w [] R (calm ⟨[], []⟩ 0 0) w1) := hide a1.ax
  have hsz1 := a1.ax.below.size
  clear a1
  go_wp2_with fail
  refine (fill_any b w1).mono ?_
  rintro e w2 ⟨v2, rfl, r2, b2⟩
  have h2 := A1.out.with (Tb.of_fresh b2) r2
  have C3 := ax_put_in (s := aS) (at' := 0) h2 (by simp) r2 hby.out (few_calm (K := 10) Sm.empty (by omega) (by omega) (by omega) (by simp)) (by decide) (by omega) (by show (0 : Int) ≤ (0 : Nat); decide) (by decide)
  rw [dSp_put] at C3
  have HC3 := hide C3
  have R2 := hide r2
  have S2 : Hid (w1.heap.size ≤ w2.heap.size) := hide b2.size
  clear C3 h2 r2 b2 A1
  go_wp2_with fail
  refine HC3.out.mono ?_
  rintro e w3 ⟨rfl, h3, k3⟩
  have r3 := k3 _ (by simp) _ _ _ _ _ R2.out
  have C4 := ax_read (s := aS) h3 (dSp_few HB.out) (by decide) (by show (1 : Int) ≠ 0; decide) rfl
  rw [dSp_bytes] at C4
  have e64 : (sec64 b).length = 64 := by simp [sec64]
  rw [e64] at C4
  have HC4 := hide C4
  have H3 := hide h3
  have R3 := hide r3
  clear C4 h3 k3 r3 HC3 R2 e64
  go_wp2_with fail
  refine HC4.out.mono ?_
  rintro e w4 ⟨v4, rfl, r4, b4⟩
  have h4 := H3.out.with (Tb.of_fresh b4) r4
  have C5 := ax_read (s := aS) h4 (dSp_few HB.out) (by decide) (by show (1 : Int) ≠ 0; decide) rfl
  rw [dSp_bytes, show (sec64 b).length = 64 by simp [sec64]] at C5
  have HC5 := hide C5
  have H4 := hide h4
  have R4 := hide r4
  have R34 := hide (row_tb R3.out (Tb.of_fresh b4) (fun _ _ h => h) (S := fun _ => False))
  have L3 : Hid (∀ g, v2.ownBlock = some g → g < w3.heap.size) := hide (fun g hg => row_lt R3.out hg)
  have S34 : Hid (w3.heap.size ≤ w4.heap.size) := hide b4.size
  clear C5 h4 r4 b4 HC4 R3 H3
  go_wp2_with fail
  refine HC5.out.mono ?_
  rintro e w5 ⟨v5, rfl, r5, b5⟩
  have h5 := H4.out.with (Tb.of_fresh b5) r5
  obtain ⟨g2, c2, hv2⟩ := own_shape R34.out (by omega)
  subst hv2
  obtain ⟨g4, c4, hv4⟩ := own_shape R4.out (by omega)
  subst hv4
  obtain ⟨g5, c5, hv5⟩ := own_shape r5 (by omega)
  subst hv5
  have l4 := own_lt R4.out
  have l5 := own_lt r5
  have l2 := L3.out g2 rfl
  have l2' := (own_lt R34.out).1
  have q4 := row_tb R4.out (Tb.of_fresh b5) (fun _ _ h => h) (S := fun _ => False)
  have q2 := row_tb R34.out (Tb.of_fresh b5) (fun _ _ h => h) (S := fun _ => False)
  have CS := same_any _ _ _ _ _ _ _ _ w5 (own_bs q4 hby.out) (own_bs r5 hby.out)
  rw [decide_eq_true rfl] at CS
  have HCS := hide CS
  have H5 := hide h5
  have s34 := S34.out
  have s45 := b5.size
  have Q := hide (And.intro q4 (And.intro r5 q2))
  have hs3 := H5.out.below.size
  clear CS h5 HC5 R4 R34 q4 q2 r5 b5 L3 H4
  go_wp2_with fail
  refine HCS.out.mono ?_
  rintro e w6 ⟨rfl, rfl⟩
  clear HCS
  have CA := apart3t w.heap.size g4 64 c4 g5 64 c5 g2 64 c2 _ _ _ w6 (own_down Q.out.1 (by omega)) (own_down Q.out.2.1 (by omega)) (own_down Q.out.2.2 (by omega)) (by omega) (by omega) (by omega) (by omega) (by omega) (by omega)
  have HCA := hide CA
  clear CA
  go_wp2_with fail
  refine HCA.out.mono ?_
  rintro e w7 ⟨rfl, t7⟩
  have h7 := H5.out.turn (t7.mono (fun g _ hg => by
    rcases hg with rfl | rfl | rfl
    · exact ⟨.slice (some ⟨g, 0, none⟩) 64 c4, by simp, rfl⟩
    · exact ⟨.slice (some ⟨g, 0, none⟩) 64 c5, by simp, rfl⟩
    · exact ⟨.slice (some ⟨g, 0, none⟩) 64 c2, by simp, rfl⟩)) (fun v hv g hg => by
    simp only [List.mem_cons, List.not_mem_nil, or_false] at hv
    rcases hv with rfl | rfl | rfl <;> (simp only [Value.ownBlock, Option.some.injEq] at hg; omega))
  have C8 := ax_read (s := aS) h7 (dSp_few HB.out) (by decide) (by show (1 : Int) ≠ 0; decide) rfl
  rw [dSp_bytes, show (sec64 b).length = 64 by simp [sec64]] at C8
  have HC8 := hide C8
  have H7 := hide h7
  clear C8 h7 t7 HCA H5 Q
  go_wp2_with fail
  refine HC8.out.mono ?_
  rintro e w8 ⟨v8, rfl, r8, b8⟩
  have h8 := H7.out.with (Tb.of_fresh b8) r8
  have C9 := ax_names h8 (dSp_few HB.out)
  have HC9 := hide C9
  have H8 := hide h8
  have hs8 := h8.below.size
  have R8 := hide r8
  clear C9 h8 r8 b8 HC8 H7
  go_wp2_with fail
  refine HC9.out.mono ?_
  rintro e w9 ⟨v9, ss9, rfl, hp9, r9, b9⟩
  obtain rfl := names_one hp9
  have h9 := H8.out.kept (Tb.of_fresh b9)
  have C10 := ax_names h9 (dSp_few HB.out)
  have HC10 := hide C10
  have R89 := hide (row_tb R8.out (Tb.of_fresh b9) (fun _ _ h => h) (S := fun _ => False))
  have R9 := hide r9
  have S9 : Hid (Ax w _ R _ w9) := hide h9
  have L8 := hide (fun g (hg : v8.ownBlock = some g) => row_lt R8.out hg)
  clear C10 h9 b9 HC9 H8 R8 hp9 r9
  go_wp2_with fail
  refine HC10.out.mono ?_
  rintro e w10 ⟨v10, ss10, rfl, hp10, r10, b10⟩
  obtain rfl := names_one hp10
  have r9' := row_tb R9.out (Tb.of_fresh b10) (fun _ _ h => h) (S := fun _ => False)
  have r8' := row_tb R89.out (Tb.of_fresh b10) (fun _ _ h => h) (S := fun _ => False)
  have hB10 : Hid (Below w.heap.size w w10) := hide (S9.out.below.trans (b10.mono S9.out.below.size))
  have s9 := S9.out.below.size
  have s910 := b10.size
  obtain ⟨g8, c8, hv8⟩ := own_shape r8' (by omega)
  subst hv8
  have l8 := L8.out g8 rfl
  obtain ⟨g9, c9, hv9, x1, x2, x3, x4, x5, x6⟩ := row_one r9'
  subst hv9
  obtain ⟨g10, c10, hv10, y1, y2, y3, y4, y5, y6⟩ := row_one r10
  subst hv10
  have l9 : g9 < w9.heap.size := by
    obtain ⟨g', c', e', _, z2, _⟩ := row_one R9.out
    simp only [Value.slice.injEq, Option.some.injEq, Addr.mk.injEq, and_true] at e'
    omega
  obtain ⟨w11, hw11⟩ : ∃ w11, w11 = w10.setCell ⟨g9, 0, none⟩ (.string ⟨#[98]⟩) := ⟨_, rfl⟩
  have t11 : Tb (fun g => g = g9) w10 w11 := by rw [hw11]; exact Tb.set _ _ _ rfl
  have r11 := row_tb r8' t11 (fun g hg e => by simp only [Value.ownBlock, Option.some.injEq] at hg; omega)
  have y7 := t11.cell y5 (by simp only; omega)
  have hbx : Below w.heap.size w w11 := by rw [hw11]; exact hB10.out.setCell (by simp only; omega) _
  have HW := hide hw11
  have R11 := hide r11
  have HBX := hide hbx
  clear hw11 t11 r11 hbx r8' r9' r10 b10 y5 y6 R9 R89 L8 S9 HC10 hB10 hp10
  go_wp2_with fail
  rw [← HW.out]
  refine (fill_any b w11).mono ?_
  rintro e w12 ⟨v12, rfl, r12, b12⟩
  obtain ⟨g12, c12, hv12⟩ := own_shape r12 (by omega)
  subst hv12
  have y8 := (b12.cell (cell_lt y7)).trans y7
  have CE := same_any _ _ _ _ _ _ _ _ w12 (own_bs (row_tb R11.out (Tb.of_fresh b12) (fun _ _ h => h) (S := fun _ => False)) hby.out) (own_bs r12 hby.out)
  rw [decide_eq_true rfl] at CE
  have HCE := hide CE
  have HB12 : Hid (Below w.heap.size w w12) := hide (HBX.out.trans (b12.mono HBX.out.size))
  have hq : ((⟨#[97]⟩ : ByteArray).toList == (⟨#[97]⟩ : ByteArray).toList) = true := beq_self_eq_true _
  clear CE r12 b12 R11 HW HBX
  go_wp2_with fail
  refine HCE.out.mono ?_
  rintro e w13 ⟨rfl, rfl⟩
  clear HCE
  go_wp2_with fail
  refine (awake_any _).mono ?_
  rintro e w14 ⟨rfl, t14⟩
  go_wp2_with fail
  go_ret
  exact ⟨rfl, HB12.out.trans ((t14.below (fun _ h => h.elim) (Nat.le_refl _)).mono HB12.out.size)⟩

end fileSpares
end Go.Proofs.Ytiijfgidfcfjoab

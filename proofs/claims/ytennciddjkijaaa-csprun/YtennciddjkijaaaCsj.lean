/-
  The chapter's example.
-/
import Derived.Test.YtennciddjkijaaaCsi
namespace Go.Proofs.Ytennciddjkijaaa
open Go.RowKit QI
set_option maxRecDepth 100000
set_option linter.unusedSimpArgs false

theorem ls_lit (w : World) (g : Nat) (hg : w.heap.size = g) (x : Int) : Ls (w.alloc (.cells #[.int .i64 x] 3)) (some ⟨g, 0, none⟩) 1 1 [x] := by
  subst hg
  refine ⟨rfl, by omega, by omega, fun _ => ⟨_, 0, rfl, fun i hi => ?_⟩⟩
  obtain rfl : i = 0 := by omega
  exact cell_of_row _ _ 0 _ _ _ (heap_alloc_new w _)

def ps0 : List (List Dop) := [[(1, 0, 0)], [(2, 0, 0)]]
def sa1 : Sg := sg0.spawn 0
def sa2 : Sg := sa1.spawn 1
def sa3 : Sg := sa2.step ps0 0
def sa4 : Sg := sa3.step ps0 0
def sa5 : Sg := sa4.step ps0 0
def sa6 : Sg := sa5.step ps0 0
def sa7 : Sg := sa6.gets 1 ⟨1, 1, 3, 7⟩
def sa8 : Sg := sa7.step ps0 0

set_option maxHeartbeats 4000000 in
theorem awake_any (w : World) : Calls Try.prog 7 #[] w fun e w' => e = .returned (.bool true) ∧ Below w.heap.size w w' := by
  have CN := new_any w
  go_enter Try.func7, Try.ntmps7
  go_wp2_with fail
  refine CN.mono ?_
  rintro e w1 ⟨a, rfl, rt, hlo, hb1⟩
  -- the programs
  obtain ⟨V1, hV1⟩ : ∃ V, Hid (V = w1.alloc (.cells #[.int .i64 1, .int .i64 0, .int .i64 0] (67 : TypeId))) := ⟨_, hide rfl⟩
  have b1 : Below w1.heap.size w1 V1 := by rw [hV1.out]; exact (Below.refl _ w1).alloc (Nat.le_refl _) _
  have s1 : V1.heap.size = w1.heap.size + 1 := by rw [hV1.out]; simp
  obtain ⟨V2, hV2⟩ : ∃ V, Hid (V = V1.alloc (.cells #[.int .i64 2, .int .i64 0, .int .i64 0] (67 : TypeId))) := ⟨_, hide rfl⟩
  have b2 : Below V1.heap.size V1 V2 := by rw [hV2.out]; exact (Below.refl _ V1).alloc (Nat.le_refl _) _
  have s2 : V2.heap.size = V1.heap.size + 1 := by rw [hV2.out]; simp
  obtain ⟨g1, hg1⟩ : ∃ g, Hid (g = w1.heap.size) := ⟨_, hide rfl⟩
  obtain ⟨g2, hg2⟩ : ∃ g, Hid (g = V1.heap.size) := ⟨_, hide rfl⟩
  obtain ⟨g3, hg3⟩ : ∃ g, Hid (g = V2.heap.size) := ⟨_, hide rfl⟩
  obtain ⟨V3, hV3⟩ : ∃ V, Hid (V = V2.alloc (.cells #[.slice (some ⟨g1, 0, none⟩) 1 1, .slice (some ⟨g2, 0, none⟩) 1 1] (68 : TypeId))) := ⟨_, hide rfl⟩
  have b3 : Below V2.heap.size V2 V3 := by rw [hV3.out]; exact (Below.refl _ V2).alloc (Nat.le_refl _) _
  have s3 : V3.heap.size = V2.heap.size + 1 := by rw [hV3.out]; simp
  obtain ⟨B, hBB⟩ : ∃ g, Hid (g = V3.heap.size) := ⟨_, hide rfl⟩
  obtain ⟨V4, hV4⟩ : ∃ V, Hid (V = V3.alloc (.cells #[.pointer (some ⟨a.R, 0, none⟩), .slice (some ⟨g3, 0, none⟩) 2 2, .slice none 0 0, .slice none 0 0] (31 : TypeId))) := ⟨_, hide rfl⟩
  have b4 : Below V3.heap.size V3 V4 := by rw [hV4.out]; exact (Below.refl _ V3).alloc (Nat.le_refl _) _
  have hB4 : V4.heap[B]? = some (.cells #[.pointer (some ⟨a.R, 0, none⟩), .slice (some ⟨g3, 0, none⟩) 2 2, .slice none 0 0, .slice none 0 0] (31 : TypeId) (0, 0)) := by rw [hV4.out, hBB.out]; exact heap_alloc_new V3 _
  have e1 : V4.heap[g1]? = some (.cells #[.int .i64 1, .int .i64 0, .int .i64 0] (67 : TypeId) (0, 0)) := by
    rw [hg1.out, b4.block _ (by omega), b3.block _ (by omega), b2.block _ (by omega), hV1.out]; exact heap_alloc_new w1 _
  have e2 : V4.heap[g2]? = some (.cells #[.int .i64 2, .int .i64 0, .int .i64 0] (67 : TypeId) (0, 0)) := by
    rw [hg2.out, b4.block _ (by omega), b3.block _ (by omega), hV2.out]; exact heap_alloc_new V1 _
  have e3 : V4.heap[g3]? = some (.cells #[.slice (some ⟨g1, 0, none⟩) 1 1, .slice (some ⟨g2, 0, none⟩) 1 1] (68 : TypeId) (0, 0)) := by
    rw [hg3.out, b4.block _ (by omega), hV3.out]; exact heap_alloc_new V2 _
  have bw4 : Below w1.heap.size w1 V4 := b1.trans ((b2.trans ((b3.trans (b4.mono (by omega))).mono (by omega))).mono (by omega))
  have hwt : ∃ F D, Wt V4 w.heap.size B (some ⟨g3, 0, none⟩) 2 2 ps0 (fun k => k = g1 ∨ k = g2 ∨ k = g3) a.R [] sg0 0 F D ∧ (∀ k, D k → w.heap.size ≤ k) ∧ ∀ k, D k → own a rs0 k ∨ k = a.Q ∨ k = B := by
    have z1 := hb1.size
    have z2 := bw4.size
    have q1 := hg1.out
    have q2 := hg2.out
    have q3 := hg3.out
    have q4 := hBB.out
    refine Wt.new hB4 (rt.below bw4) hlo (by omega) (by omega) ?_ (fun k hk => ?_) (fun k hk => ?_) ⟨by omega, by omega⟩
    · have d1 : Dos (fun k => k = g1 ∨ k = g2 ∨ k = g3) V4 (some ⟨g1, 0, none⟩) 1 1 [(1, 0, 0)] := ⟨rfl, by omega, by omega, by simp [I6], fun _ => ⟨g1, 0, .inl rfl, rfl, fun i hi => by
        obtain rfl : i = 0 := by omega
        exact ⟨cell_of_row V4 _ 0 _ _ _ e1, cell_of_row V4 _ 1 _ _ _ e1, cell_of_row V4 _ 2 _ _ _ e1⟩⟩⟩
      have d2 : Dos (fun k => k = g1 ∨ k = g2 ∨ k = g3) V4 (some ⟨g2, 0, none⟩) 1 1 [(2, 0, 0)] := ⟨rfl, by omega, by omega, by simp [I6], fun _ => ⟨g2, 0, .inr (.inl rfl), rfl, fun i hi => by
        obtain rfl : i = 0 := by omega
        exact ⟨cell_of_row V4 _ 0 _ _ _ e2, cell_of_row V4 _ 1 _ _ _ e2, cell_of_row V4 _ 2 _ _ _ e2⟩⟩⟩
      exact ⟨rfl, by omega, by omega, fun _ => ⟨g3, 0, .inr (.inr rfl), rfl, fun i hi => by
        rcases (by omega : i = 0 ∨ i = 1) with rfl | rfl
        · exact ⟨_, _, _, cell_of_row V4 _ 0 _ _ _ e3, d1⟩
        · exact ⟨_, _, _, cell_of_row V4 _ 1 _ _ _ e3, d2⟩⟩⟩
    · rcases hk with rfl | rfl | rfl
      · exact heap_lt e1
      · exact heap_lt e2
      · exact heap_lt e3
    · have hlt : ¬ k < w1.heap.size := by rcases hk with rfl | rfl | rfl <;> omega
      refine ⟨fun ho => hlt ?_, by rcases hk with rfl | rfl | rfl <;> omega⟩
      rcases ho with ho | rfl
      · exact rt.m.own_lt ho
      · exact rt.m.sd.lt
  obtain ⟨F0, D0, wt0, hD0, _⟩ := hwt
  have HB0 : Hid (Below w.heap.size w V4) := hide (hb1.trans (bw4.mono hb1.size))
  -- each call leaves old memory as it was
  have HBx : Hid (∀ {W1 W2 : World} {F1 F2 D1 D2 : Nat → Prop} {x1 x2 : List Nat}, Below w.heap.size w W1 → (∀ k, D1 k → w.heap.size ≤ k) → Wx W1 F1 D1 x1 W2 F2 D2 x2 → Below w.heap.size w W2 ∧ ∀ k, D2 k → w.heap.size ≤ k) := hide (fun hb hD x => ⟨hb.trans (x.tb.below hD hb.size), fun k hk => (x.dom k hk).elim (hD k) (fun h' => Nat.le_trans hb.size h')⟩)
  obtain ⟨R, hR⟩ : ∃ R, Hid (R = a.R) := ⟨_, hide rfl⟩
  rw [← hR.out] at wt0 hV4 ⊢
  have HG1 : Hid (w1.heap.size = g1) := hide hg1.out.symm
  have HG2 : Hid (V1.heap.size = g2) := hide hg2.out.symm
  have HG3 : Hid (V2.heap.size = g3) := hide hg3.out.symm
  have HGB : Hid (V3.heap.size = B) := hide hBB.out.symm
  have c0 := wt0.c0
  have HD0 := hide hD0
  have C1 := wt0.spawn (by omega) (prog := 0) (by omega)
  rw [show (if sg0.opn = 256 then (5 : Int) else 0) = 0 from rfl] at C1
  have HC1 := hide C1
  clear C1 hD0 wt0 CN rt hlo hb1 b1 b2 b3 b4 s1 s2 s3 hB4 e1 e2 e3 bw4
  go_wp2_with (first | (rw [← hV1.out, HG1.out]) | (rw [← hV2.out, HG2.out]) | (rw [← hV3.out, HG3.out]) | (rw [← hV4.out, HGB.out]))
  refine HC1.out.mono ?_
  rintro e w2 ⟨rfl, F1, D1, bs1, wt1, wx1⟩
  obtain ⟨hb2, hD1⟩ := HBx.out HB0.out HD0.out wx1
  have c0 := wt1.c0
  have C2 := wt1.spawn (by omega) (prog := 1) (by omega)
  rw [show (if (sg0.spawn 0).opn = 256 then (5 : Int) else 0) = 0 from rfl] at C2
  have HC2 := hide C2
  have HB1 := hide hb2
  have HD1 := hide hD1
  clear C2 hb2 hD1 wt1 wx1 HC1 HB0 HD0 hV1 hV2 hV3 hV4 HG1 HG2 HG3 HGB
  go_wp2_with fail
  refine HC2.out.mono ?_
  rintro e w3 ⟨rfl, F2, D2, bs2, wt2, wx2⟩
  obtain ⟨hb3, hD2⟩ := HBx.out HB1.out HD1.out wx2
  have c0 := wt2.c0
  have C3 := wstep wt2 (by omega) 0 (by omega)
  rw [show (decide (((sg0.spawn 0).spawn 1).line ≠ [])) = true from rfl] at C3
  have HC3 := hide C3
  have HB2 := hide hb3
  have HD2 := hide hD2
  clear C3 hb3 hD2 wt2 wx2 HC2 HB1 HD1
  go_wp2_with fail
  refine HC3.out.mono ?_
  rintro e w4 ⟨rfl, F3, D3, bs3, wt3, wx3⟩
  obtain ⟨hb4, hD3⟩ := HBx.out HB2.out HD2.out wx3
  have c0 := wt3.c0
  have C4 := wstep wt3 (by omega) 0 (by omega)
  rw [show (decide ((Sg.step ps0 ((sg0.spawn 0).spawn 1) 0).line ≠ [])) = true from rfl] at C4
  have HC4 := hide C4
  have HB3 := hide hb4
  have HD3 := hide hD3
  clear C4 hb4 hD3 wt3 wx3 HC3 HB2 HD2
  go_wp2_with fail
  refine HC4.out.mono ?_
  rintro e w5 ⟨rfl, F4, D4, bs4, wt4, wx4⟩
  obtain ⟨hb5, hD4⟩ := HBx.out HB3.out HD3.out wx4
  have c0 := wt4.c0
  have HT4 : Hid (Wt w5 w.heap.size B (some ⟨g3, 0, none⟩) 2 2 ps0 (fun k => k = g1 ∨ k = g2 ∨ k = g3) R bs4 sa4 4 F4 D4) := hide wt4
  have C5 := HT4.out.ready
  rw [show sa4.line = [0] from rfl] at C5
  simp only [List.length_cons, List.length_nil, Nat.zero_add] at C5
  have HC5 := hide C5
  have HB4 := hide hb5
  have HD4 := hide hD4
  clear C5 hb5 hD4 wt4 wx4 HC4 HB3 HD3
  go_wp2_with fail
  refine HC5.out.mono ?_
  rintro e w6 ⟨p5, cap5, rfl, ho5, hb6⟩
  obtain ⟨q6, hq6⟩ : ∃ q, Hid (q = w6.heap.size) := ⟨_, hide rfl⟩
  obtain ⟨Y6, hY6⟩ : ∃ V, Hid (V = w6.alloc (.cells #[.int .i64 0] 3)) := ⟨_, hide rfl⟩
  have bY6 : Below w6.heap.size w6 Y6 := by rw [hY6.out]; exact (Below.refl _ w6).alloc (Nat.le_refl _) _
  have CS6 := same_yes p5 (some ⟨q6, 0, none⟩) 1 cap5 1 [0] Y6 ((own_ls ho5).keep bY6) (by rw [hY6.out]; exact ls_lit w6 q6 hq6.out.symm 0)
  have HB6 : Hid (∀ m, Below w5.heap.size w5 (Y6.drewN m)) := hide (fun m => hb6.trans ((below_drewN bY6 m).mono hb6.size))
  have HQ6 : Hid (w6.heap.size = q6) := hide hq6.out.symm
  clear ho5 hb6 bY6 HC5
  go_wp2_with (first | (rw [← hY6.out, HQ6.out]))
  refine CS6.mono ?_
  rintro e w7 ⟨rfl, m7, hw7⟩
  have wt7 := HT4.out.below (HB6.out m7)
  rw [← hw7] at wt7
  have HB7 : Hid (Below w.heap.size w w7) := hide (by rw [hw7]; exact HB4.out.trans ((HB6.out m7).mono HB4.out.size))
  have c0 := wt7.c0
  have C8 := wt7.parked
  rw [show sa4.pkd = [1] from rfl] at C8
  simp only [List.length_cons, List.length_nil, Nat.zero_add] at C8
  have HC8 := hide C8
  have HT7 := hide wt7
  clear wt7 C8 CS6 HB6 HT4 HB4 hY6 HQ6 hw7
  go_wp2_with fail
  refine HC8.out.mono ?_
  rintro e w8 ⟨p8, cap8, rfl, ho8, hb8⟩
  obtain ⟨q8, hq8⟩ : ∃ q, Hid (q = w8.heap.size) := ⟨_, hide rfl⟩
  obtain ⟨Y8, hY8⟩ : ∃ V, Hid (V = w8.alloc (.cells #[.int .i64 1] 3)) := ⟨_, hide rfl⟩
  have bY8 : Below w8.heap.size w8 Y8 := by rw [hY8.out]; exact (Below.refl _ w8).alloc (Nat.le_refl _) _
  have CS8 := same_yes p8 (some ⟨q8, 0, none⟩) 1 cap8 1 [1] Y8 ((own_ls ho8).keep bY8) (by rw [hY8.out]; exact ls_lit w8 q8 hq8.out.symm 1)
  have HB8 : Hid (∀ m, Below w7.heap.size w7 (Y8.drewN m)) := hide (fun m => hb8.trans ((below_drewN bY8 m).mono hb8.size))
  have HQ8 : Hid (w8.heap.size = q8) := hide hq8.out.symm
  clear ho8 hb8 bY8 HC8
  go_wp2_with (first | (rw [← hY8.out, HQ8.out]))
  refine CS8.mono ?_
  rintro e w9 ⟨rfl, m9, hw9⟩
  have wt9 := HT7.out.below (HB8.out m9)
  rw [← hw9] at wt9
  have HB9 : Hid (Below w.heap.size w w9) := hide (by rw [hw9]; exact HB7.out.trans ((HB8.out m9).mono HB7.out.size))
  have c0 := wt9.c0
  have C9 := wstep wt9 (by omega) 0 (by omega)
  rw [show (decide (sa4.line ≠ [])) = true from rfl] at C9
  have HC9 := hide C9
  clear wt9 C9 CS8 HB8 HT7 HB7 hY8 HQ8 hw9
  go_wp2_with fail
  refine HC9.out.mono ?_
  rintro e w10 ⟨rfl, F5, D5, bs5, wt10, wx10⟩
  obtain ⟨hb10, hD5⟩ := HBx.out HB9.out HD4.out wx10
  have c0 := wt10.c0
  have C10 := wstep wt10 (by omega) 0 (by omega)
  rw [show (decide ((Sg.step ps0 sa4 0).line ≠ [])) = false from rfl] at C10
  have HC10 := hide C10
  have HB10 := hide hb10
  have HD5 := hide hD5
  clear C10 hb10 hD5 wt10 wx10 HC9 HB9 HD4
  go_wp2_with fail
  refine HC10.out.mono ?_
  rintro e w11 ⟨rfl, F6, D6, bs6, wt11, wx11⟩
  obtain ⟨hb11, hD6⟩ := HBx.out HB10.out HD5.out wx11
  have c0 := wt11.c0
  obtain ⟨pt, ct, c2, hlen, hcells⟩ := wt11.c2
  rw [show (Sg.step ps0 (Sg.step ps0 sa4 0) 0).tk.length = 2 from rfl] at c2 hlen hcells
  obtain ⟨gt, hgt, hcell⟩ := hcells (by omega)
  subst hgt
  have hx0 : bs6[0]? = some bs6[0] := List.getElem?_eq_getElem (by omega)
  have hx1 : bs6[1]? = some bs6[1] := List.getElem?_eq_getElem (by omega)
  have t0 := hcell 0 _ hx0
  have t1 := hcell 1 _ hx1
  have CO := wt11.over (p := ⟨0, 2, 0, 0⟩) hx0 rfl
  have CW := wt11.wake (p := ⟨1, 1, 3, 0⟩) hx1 rfl rfl 7
  generalize bs6[0] = x0 at *
  generalize bs6[1] = x1 at *
  have HCW := hide CW
  have HB11 := hide hb11
  have HD6 := hide hD6
  clear CW hb11 hD6 wt11 wx11 HC10 HB10 HD5 hx0 hx1 hcell hcells hlen
  go_wp2_with fail
  refine CO.mono ?_
  rintro e w12 ⟨rfl, hw12⟩
  subst w12
  clear CO
  go_wp2_with fail
  refine HCW.out.mono ?_
  rintro e w12 ⟨rfl, F7, D7, wt12, wx12⟩
  obtain ⟨hb12, hD7⟩ := HBx.out HB11.out HD6.out wx12
  have c0 := wt12.c0
  have C13 := wstep wt12 (by omega) 0 (by omega)
  rw [show (decide ((Sg.gets (Sg.step ps0 (Sg.step ps0 sa4 0) 0) 1 ⟨1, 1, 3, 7⟩).line ≠ [])) = true from rfl] at C13
  have HC13 := hide C13
  have HB12 := hide hb12
  have HD7 := hide hD7
  clear C13 hb12 hD7 wt12 wx12 HCW HB11 HD6 c2 t0 t1
  go_wp2_with fail
  refine HC13.out.mono ?_
  rintro e w13 ⟨rfl, F8, D8, bs8, wt13, wx13⟩
  obtain ⟨hb13, hD8⟩ := HBx.out HB12.out HD7.out wx13
  obtain ⟨pe, ce, c3, hev⟩ := wt13.c3
  rw [show (Sg.step ps0 (Sg.gets (Sg.step ps0 (Sg.step ps0 sa4 0) 0) 1 ⟨1, 1, 3, 7⟩) 0).ev.length = 4 from rfl] at c3 hev
  obtain ⟨ge, hge, _, hcell⟩ := hev (by omega)
  subst hge
  have t3 := (hcell 3 (1, 1, 7) rfl).2.2
  simp only at t3
  have HB13 := hide hb13
  clear hb13 hD8 wt13 wx13 HC13 HB12 HD7 hcell hev
  go_wp2_with fail
  go_ret
  exact ⟨rfl, HB13.out⟩

end Go.Proofs.Ytennciddjkijaaa

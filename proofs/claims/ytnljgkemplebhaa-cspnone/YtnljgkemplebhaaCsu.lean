/-
  CspNone: the walk.
-/
import Derived.Test.YtnljgkemplebhaaCst
namespace Go.Proofs.Ytnljgkemplebhaa
open Go.RowKit QI
set_option maxRecDepth 100000
set_option linter.unusedSimpArgs false

theorem in_one {i : Nat} {s : Rs} {x : Tc} (h : s.ts[i]? = some x) (u : Tc) : (s.ts.set i u)[i]? = some u := by simp [get_set h]

theorem first60 {X : World} {g1 g2 : Nat} {fn : Nat} {c1 c2 c3 : Value} {why : Int} (hen : Ent fn) (e1 : X.heap[g1]? = some (.cells #[.func (.func fn) #[] #[c1, c2, c3]] (50 : TypeId) (0, 0))) (e2 : X.heap[g2]? = some (.cells #[.int .i64 why] 3 (0, 0))) (Ψ : World → Prop) (hC : Calls Try.prog fn #[.int .i64 why, c1, c2, c3] X fun e w' => e = .returned (.tuple #[]) ∧ Ψ w') :
    Calls Try.prog 60 #[.pointer (some ⟨g1, 0, none⟩), .pointer (some ⟨g2, 0, none⟩)] X fun e w' => e = .returned (.tuple #[]) ∧ Ψ w' := by
  have d1 : X.cell? ⟨g1, 0, none⟩ = some (.func (.func fn) #[] #[c1, c2, c3]) := cell_of_row X _ 0 _ _ _ e1
  have d2 : X.cell? ⟨g2, 0, none⟩ = some (.int .i64 why) := cell_of_row X _ 0 _ _ _ e2
  have HC := hide hC
  clear hC e1 e2
  unfold Ent at hen
  go_enter Try.func60, Try.ntmps60
  go_wp2_with fail
  refine HC.out.mono ?_
  rintro e w1 ⟨rfl, hΨ⟩
  go_wp2_with fail
  go_end0
  exact ⟨rfl, hΨ⟩

set_option maxHeartbeats 4000000 in
theorem cspNone.walk (why : Int) (W : World) : Calls Try.prog 5 #[.int .i64 why] W fun e w' => e = .returned (.bool true) ∧ Below W.heap.size W w' := by
  -- a task that nobody made
  obtain ⟨gz, hgz⟩ : ∃ g, Hid (g = W.heap.size) := ⟨_, hide rfl⟩
  obtain ⟨Z0, hZ0⟩ : ∃ Z, Hid (Z = W.alloc (.cells #[.pointer none, .pointer none, .int .i64 0, .nilFunc, .nilFunc] (52 : TypeId))) := ⟨_, hide rfl⟩
  have bZ0 : Below W.heap.size W Z0 := by rw [hZ0.out]; exact (Below.refl _ W).alloc (Nat.le_refl _) _
  have hz0 : Z0.heap[gz]? = some (.cells #[.pointer none, .pointer none, .int .i64 0, .nilFunc, .nilFunc] (52 : TypeId) (0, 0)) := by rw [hZ0.out, hgz.out]; exact heap_alloc_new W _
  have C1 := spawn_none (w := Z0) (p := none) (.func (.func 24) #[] #[]) (Fv.fn _ _ _) (fun V _ => rmade_nil V)
  have HGZ : Hid (W.heap.size = gz) := hide hgz.out.symm
  go_enter Try.func5, Try.ntmps5
  go_wp2_with (first | (rw [← hZ0.out, HGZ.out]))
  refine C1.mono ?_
  rintro e w1 ⟨rfl, hb1⟩
  have C2 := new_any w1
  have HB1 : Hid (Below W.heap.size W w1 ∧ w1.heap[gz]? = some (.cells #[.pointer none, .pointer none, .int .i64 0, .nilFunc, .nilFunc] (52 : TypeId) (0, 0))) := hide ⟨bZ0.trans (hb1.mono bZ0.size), (hb1.block _ (heap_lt hz0)).trans hz0⟩
  clear C1 hb1 bZ0 hz0 hZ0
  go_wp2_with fail
  refine C2.mono ?_
  rintro e w2 ⟨a, rfl, rt, hlo, hb2⟩
  obtain ⟨R, hR⟩ : ∃ R, Hid (R = a.R) := ⟨_, hide rfl⟩
  rw [← hR.out]
  obtain ⟨gx, hgx⟩ : ∃ g, Hid (g = w2.heap.size) := ⟨_, hide rfl⟩
  obtain ⟨V, hV⟩ : ∃ Z, Hid (Z = w2.alloc (.cells #[.pointer (some ⟨R, 0, none⟩)] (26 : TypeId))) := ⟨_, hide rfl⟩
  have bV : Below w2.heap.size w2 V := by rw [hV.out]; exact (Below.refl _ w2).alloc (Nat.le_refl _) _
  have ex : V.heap[gx]? = some (.cells #[.pointer (some ⟨R, 0, none⟩)] (26 : TypeId) (0, 0)) := by rw [hV.out, hgx.out]; exact heap_alloc_new w2 _
  have rtV := rt.below bV
  have C3 := spawn_nil rtV
  rw [← hR.out] at C3
  have hlw2 : ∀ k, own a rs0 k ∨ k = a.Q → k < w2.heap.size := fun k hk => hk.elim (fun h => rt.m.own_lt h) (fun h => by rw [h]; exact rt.m.sd.lt)
  have cx0 : V.cell? ⟨gx, 0, none⟩ = some (.pointer (some ⟨R, 0, none⟩)) := cell_of_row V _ 0 _ _ _ ex
  -- its variables, behind the Spawn of no function
  have HT : Hid (∀ w3, Rp V a rs0 w3 a rs0 → ∃ X, Hid (X = (((w3.alloc (.cells #[.bool true] 4)).alloc (.cells #[.int .i64 0] (37 : TypeId))).alloc (.cells #[.bool false] 4)).alloc (.cells #[.int .i64 (-1)] 3)) ∧ Hid (Bv W X a rs0 gx w3.heap.size (w3.heap.size + 1) (w3.heap.size + 1 + 1) (w3.heap.size + 1 + 1 + 1) R true 0 false (-1) ∧ Below W.heap.size W X ∧ X.heap[gz]? = some (.cells #[.pointer none, .pointer none, .int .i64 0, .nilFunc, .nilFunc] (52 : TypeId) (0, 0)) ∧ gz ≠ a.Q ∧ ¬ own a rs0 gz)) := hide (fun w3 x3 => by
    refine ⟨_, hide rfl, hide ?_⟩
    obtain ⟨e1, e2, e3, e4, b4⟩ := four_new w3 (.cells #[.bool true] 4) (.cells #[.int .i64 0] (37 : TypeId)) (.cells #[.bool false] 4) (.cells #[.int .i64 (-1)] 3)
    generalize (((w3.alloc (.cells #[.bool true] 4)).alloc (.cells #[.int .i64 0] (37 : TypeId))).alloc (.cells #[.bool false] 4)).alloc (.cells #[.int .i64 (-1)] 3) = X at *
    obtain ⟨hbW1, hzz⟩ := HB1.out
    have z1 := hbW1.size
    have z2 := hb2.size
    have z3 := bV.size
    have z4 := x3.x.tb.size
    have q1 := hgx.out
    have q2 := hgz.out
    have hlo' : ∀ k, own a rs0 k ∨ k = a.Q → W.heap.size ≤ k := fun k hk => Nat.le_trans z1 (hlo k hk)
    have hbV : Below W.heap.size W V := (hbW1.trans (hb2.mono z1)).trans (bV.mono (by omega))
    obtain ⟨hb3, hlo3⟩ := x3.low hbV hlo'
    have hng : ∀ k, w2.heap.size ≤ k → ¬ own a rs0 k ∧ k ≠ a.Q := fun k hk => ⟨fun h => by have := hlw2 k (.inl h); omega, fun h => by have := hlw2 k (.inr h); omega⟩
    have ex3 := (x3.cell ex (hng gx (by omega)).1).1
    have hzl : gz < w1.heap.size := heap_lt hzz
    have hzn : ¬ own a rs0 gz ∧ gz ≠ a.Q := ⟨fun h => by have := hlo gz (.inl h); omega, fun h => by have := hlo gz (.inr h); omega⟩
    have hz3 := (x3.cell ((bV.block _ (by omega)).trans ((hb2.block _ hzl).trans hzz)) hzn.1).1
    refine ⟨⟨x3.rt.below b4, hR.out.symm, (b4.block _ (heap_lt ex3)).trans ex3, e1, e2, e3, e4, fun k hk => ?_, by omega, hlo', hb3.trans (b4.mono hb3.size)⟩, hb3.trans (b4.mono hb3.size), (b4.block _ (heap_lt hz3)).trans hz3, hzn.2, hzn.1⟩
    have hk2 : w2.heap.size ≤ k ∧ W.heap.size ≤ k := by rcases hk with rfl | rfl | rfl | rfl | rfl <;> omega
    exact ⟨(hng k hk2.1).1, (hng k hk2.1).2, hk2.2⟩)
  have HGX : Hid (w2.heap.size = gx) := hide hgx.out.symm
  have HC3 := hide C3
  clear C2 C3 rt rtV hlo hb2 bV ex hlw2
  go_wp2_with (first | (rw [← hV.out, HGX.out]))
  refine HC3.out.mono ?_
  rintro e w3 ⟨rfl, x3⟩
  obtain ⟨X, hX, HX⟩ := HT.out w3 x3
  obtain ⟨cx, hcx⟩ : ∃ cx : Prop, Hid (cx = True) := ⟨_, hide rfl⟩
  have c3 : w3.cell? ⟨gx, 0, none⟩ = some (.pointer (some ⟨R, 0, none⟩)) := by
    have := HX.out.1.cx
    have hb : Below w3.heap.size w3 X := by rw [hX.out]; exact (four_new w3 _ _ _ _).2.2.2.2
    have hl : gx < w3.heap.size := Nat.lt_of_lt_of_le (cell_lt cx0) x3.x.tb.size
    rwa [hb.cell hl] at this
  obtain ⟨gi, hgi⟩ : ∃ g, Hid (g = w3.heap.size) := ⟨_, hide rfl⟩
  rw [← hgi.out] at HX
  have HGI : Hid (w3.heap.size = gi) := hide hgi.out.symm
  obtain ⟨bv, hbX, hzX, hzQ, hzO⟩ := HX.out
  have cX := bv.cx
  have CS1 := spawn_yes bv.rt (by simp [rs0, Rs.lives]) (by simp [rs0]) (.func 25) #[] #[.pointer (some ⟨gx, 0, none⟩), .pointer (some ⟨gi + 1 + 1, 0, none⟩), .pointer (some ⟨gi, 0, none⟩), .pointer (some ⟨gi + 1, 0, none⟩), .pointer (some ⟨gi + 1 + 1 + 1, 0, none⟩)]
  rw [bv.hR] at CS1
  have HCS1 := hide CS1
  have HBv := hide bv
  have Hz := hide (show X.heap[gz]? = some (.cells #[.pointer none, .pointer none, .int .i64 0, .nilFunc, .nilFunc] (52 : TypeId) (0, 0)) ∧ ¬ own a rs0 gz from ⟨hzX, hzO⟩)
  clear CS1 HC3 x3 HT HX bv hbX hzX hzQ hzO cx0 hV HGX
  go_wp2_with (first | (rw [← hX.out, HGI.out]))
  refine HCS1.out.mono ?_
  rintro e w5 ⟨b0, rfl, hsp⟩
  obtain ⟨a5, u1, u2, x5, hbw5, y1, y2, y3, y4, y5, y6⟩ := hsp
  have bv5 := HBv.out.rp x5
  have z5 := x5.cell Hz.out.1 Hz.out.2
  have c5 := bv5.cx
  obtain ⟨s5, hs5⟩ : ∃ s5, Hid (s5 = rs0.spawn b0 (spv u1 u2)) := ⟨_, hide rfl⟩
  rw [← hs5.out] at bv5 x5 y5 y6 z5
  have l5 : s5.ts = [⟨b0, spv u1 u2, .nilFunc⟩] ∧ s5.line = [0] ∧ s5.run = none := by rw [hs5.out]; exact ⟨rfl, rfl, rfl⟩
  have lv5 : s5.lives.length < 256 := by rw [hs5.out, lives_spawn rok0 rfl]; simp [rs0, Rs.lives]
  have CS2 := spawn_yes bv5.rt lv5 (by rw [l5.1]; simp) (.func 29) #[] #[]
  rw [bv5.hR] at CS2
  have HCS2 := hide CS2
  have H5 := hide (show Bv W w5 a5 s5 gx gi (gi + 1) (gi + 1 + 1) (gi + 1 + 1 + 1) R true 0 false (-1) ∧ (w5.heap[gz]? = some (.cells #[.pointer none, .pointer none, .int .i64 0, .nilFunc, .nilFunc] (52 : TypeId) (0, 0)) ∧ ¬ own a5 s5 gz) ∧ (w5.heap[u1]? = some (.cells #[.func (.func 25) #[] #[.pointer (some ⟨gx, 0, none⟩), .pointer (some ⟨gi + 1 + 1, 0, none⟩), .pointer (some ⟨gi, 0, none⟩), .pointer (some ⟨gi + 1, 0, none⟩), .pointer (some ⟨gi + 1 + 1 + 1, 0, none⟩)]] (55 : TypeId) (0, 0)) ∧ ¬ own a5 s5 u1) ∧ (w5.heap[u2]? = some (.cells #[.pointer (some ⟨b0, 0, none⟩)] (44 : TypeId) (0, 0)) ∧ ¬ own a5 s5 u2) from ⟨bv5, z5, ⟨y3, y5⟩, ⟨y4, y6⟩⟩)
  have HL5 := hide l5
  clear CS2 HCS1 HBv Hz bv5 z5 x5 hbw5 y1 y2 y3 y4 y5 y6 l5 lv5 c3 cX hX HGI HB1
  go_wp2_with fail
  refine HCS2.out.mono ?_
  rintro e w6 ⟨b1, rfl, hsp⟩
  obtain ⟨a6, v1, v2, x6, hbw6, y1, y2, y3, y4, y5, y6⟩ := hsp
  obtain ⟨bv5, z5, k1, k2⟩ := H5.out
  obtain ⟨l51, l52, l53⟩ := HL5.out
  have bv6 := bv5.rp x6
  have z6 := x6.cell z5.1 z5.2
  have k1' := x6.cell k1.1 k1.2
  have k2' := x6.cell k2.1 k2.2
  obtain ⟨s6, hs6⟩ : ∃ s6, Hid (s6 = s5.spawn b1 (spv v1 v2)) := ⟨_, hide rfl⟩
  rw [← hs6.out] at bv6 x6 y5 y6 z6 k1' k2'
  have t60 : s6.ts[0]? = some ⟨b0, spv u1 u2, .nilFunc⟩ := by rw [hs6.out]; simp [Rs.spawn, l51]
  have t61 : s6.ts[1]? = some ⟨b1, spv v1 v2, .nilFunc⟩ := by rw [hs6.out]; simp [Rs.spawn, l51]
  have l6 : s6.line = [0, 1] := by rw [hs6.out]; simp [Rs.spawn, l51, l52]
  have r6 : s6.run = none := by rw [hs6.out]; exact l53
  have n6 : s6.ts.length = 2 := by rw [hs6.out]; simp [Rs.spawn, l51]
  have CY := yield_no bv6.rt t60 (.inl (by rw [r6]; simp)) (.func 31) #[] #[]
  rw [if_neg (by rw [r6]; simp)] at CY
  simp only at CY
  have CW := wake_no bv6.rt t60 rfl why
  simp only at CW
  have H6 := hide (show Bv W w6 a6 s6 gx gi (gi + 1) (gi + 1 + 1) (gi + 1 + 1 + 1) R true 0 false (-1) ∧ (w6.heap[gz]? = some (.cells #[.pointer none, .pointer none, .int .i64 0, .nilFunc, .nilFunc] (52 : TypeId) (0, 0)) ∧ ¬ own a6 s6 gz) ∧ (w6.heap[u1]? = some (.cells #[.func (.func 25) #[] #[.pointer (some ⟨gx, 0, none⟩), .pointer (some ⟨gi + 1 + 1, 0, none⟩), .pointer (some ⟨gi, 0, none⟩), .pointer (some ⟨gi + 1, 0, none⟩), .pointer (some ⟨gi + 1 + 1 + 1, 0, none⟩)]] (55 : TypeId) (0, 0)) ∧ ¬ own a6 s6 u1) ∧ (w6.heap[u2]? = some (.cells #[.pointer (some ⟨b0, 0, none⟩)] (44 : TypeId) (0, 0)) ∧ ¬ own a6 s6 u2) ∧ (w6.heap[v1]? = some (.cells #[.func (.func 29) #[] #[]] (55 : TypeId) (0, 0)) ∧ ¬ own a6 s6 v1) ∧ (w6.heap[v2]? = some (.cells #[.pointer (some ⟨b1, 0, none⟩)] (44 : TypeId) (0, 0)) ∧ ¬ own a6 s6 v2) from ⟨bv6, z6, k1', k2', ⟨y3, y5⟩, ⟨y4, y6⟩⟩)
  have HL6 := hide (show s6.ts[0]? = some ⟨b0, spv u1 u2, .nilFunc⟩ ∧ s6.ts[1]? = some ⟨b1, spv v1 v2, .nilFunc⟩ ∧ s6.line = [0, 1] ∧ s6.run = none ∧ s6.ts.length = 2 from ⟨t60, t61, l6, r6, n6⟩)
  have HCW := hide CW
  clear CW HCS2 H5 HL5 bv5 bv6 z5 z6 k1 k2 k1' k2' x6 hbw6 y1 y2 y3 y4 y5 y6 t60 t61 l6 r6 n6 l51 l52 l53 c5
  go_wp2_with fail
  refine CY.mono ?_
  rintro e w7 ⟨rfl, hw7⟩
  subst w7
  clear CY
  go_wp2_with fail
  refine HCW.out.mono ?_
  rintro e w7 ⟨rfl, x7⟩
  obtain ⟨bv6, z6, k1, k2, k3, k4⟩ := H6.out
  obtain ⟨t60, t61, l6, r6, n6⟩ := HL6.out
  have bv7 := bv6.rp x7
  have z7 := x7.cell z6.1 z6.2
  have p1 := x7.cell k1.1 k1.2
  have p2 := x7.cell k2.1 k2.2
  have p3 := x7.cell k3.1 k3.2
  have p4 := x7.cell k4.1 k4.2
  have c7 := bv7.cx
  -- the first turn
  have CT : Hid (Calls Try.prog 11 #[.pointer (some ⟨R, 0, none⟩), .int .u64 0] w7 fun e w' => e = .returned (.bool true) ∧ Hid (∃ a8 s8 g6, Bv W w' a8 s8 gx gi (gi + 1) (gi + 1 + 1) (gi + 1 + 1 + 1) R false 0 true (-1) ∧ (w'.heap[gz]? = some (.cells #[.pointer none, .pointer none, .int .i64 0, .nilFunc, .nilFunc] (52 : TypeId) (0, 0)) ∧ ¬ own a8 s8 gz) ∧ (w'.heap[g6]? = some (.cells #[.pointer (some ⟨b0, 0, none⟩)] (44 : TypeId) (0, 0)) ∧ ¬ own a8 s8 g6) ∧ (w'.heap[v1]? = some (.cells #[.func (.func 29) #[] #[]] (55 : TypeId) (0, 0)) ∧ ¬ own a8 s8 v1) ∧ (w'.heap[v2]? = some (.cells #[.pointer (some ⟨b1, 0, none⟩)] (44 : TypeId) (0, 0)) ∧ ¬ own a8 s8 v2) ∧ s8.ts[0]? = some ⟨b0, .nilFunc, w28 g6 (gi + 1) (gi + 1 + 1 + 1)⟩ ∧ s8.ts[1]? = some ⟨b1, spv v1 v2, .nilFunc⟩ ∧ s8.line = [1] ∧ s8.run = none ∧ s8.ts.length = 2)) := hide (by
    have hst := step_spawned bv7.rt r6 0 (by omega) (j := 0) (i := 0) (hide (by simp)) (by rw [l6]; rfl) t60 ent25 p1.1 p2.1 p1.2 p2.2 (fun w3 a3 s3 => ∃ g6, Bv W w3 a3 s3 gx gi (gi + 1) (gi + 1 + 1) (gi + 1 + 1 + 1) R false 0 true (-1) ∧ (w3.heap[gz]? = some (.cells #[.pointer none, .pointer none, .int .i64 0, .nilFunc, .nilFunc] (52 : TypeId) (0, 0)) ∧ ¬ own a3 s3 gz) ∧ (w3.heap[g6]? = some (.cells #[.pointer (some ⟨b0, 0, none⟩)] (44 : TypeId) (0, 0)) ∧ ¬ own a3 s3 g6) ∧ (w3.heap[v1]? = some (.cells #[.func (.func 29) #[] #[]] (55 : TypeId) (0, 0)) ∧ ¬ own a3 s3 v1) ∧ (w3.heap[v2]? = some (.cells #[.pointer (some ⟨b1, 0, none⟩)] (44 : TypeId) (0, 0)) ∧ ¬ own a3 s3 v2) ∧ s3 = (s6.begin 0 0 ⟨b0, .nilFunc, .nilFunc⟩ (0 / s6.line.length)).put 0 ⟨b0, .nilFunc, w28 g6 (gi + 1) (gi + 1 + 1 + 1)⟩) (fun Y a1 x1 => by
      have bv8 := bv7.rp x1
      have z8 := x1.cell z7.1 z7.2
      have o3 := x1.cell p3.1 p3.2
      have o4 := x1.cell p4.1 p4.2
      have hti : (s6.begin 0 0 ⟨b0, .nilFunc, .nilFunc⟩ (0 / s6.line.length)).ts[0]? = some ⟨b0, .nilFunc, .nilFunc⟩ := in_one t60 _
      refine (none2 (i := 0) (b := b0) bv8 rfl hti rfl rfl).mono ?_
      rintro e w' ⟨rfl, hF⟩
      obtain ⟨g6, q1, q2, q3, q4⟩ := hF.out
      refine ⟨rfl, a1, _, ⟨b0, .nilFunc, w28 g6 (gi + 1) (gi + 1 + 1 + 1)⟩, q1.rt, rfl, in_one hti _, rfl, x1.x.R, g6, q1, q4 gz _ z8.1 z8.2 (ne_type z8.1 bv8.er (by decide)) (ne_type z8.1 bv8.ei (by decide)), ⟨q2, q3⟩, q4 v1 _ o3.1 o3.2 (ne_type o3.1 bv8.er (by decide)) (ne_type o3.1 bv8.ei (by decide)), q4 v2 _ o4.1 o4.2 (ne_type o4.1 bv8.er (by decide)) (ne_type o4.1 bv8.ei (by decide)), rfl⟩)
    rw [bv7.hR] at hst
    refine hst.mono ?_
    rintro e w' ⟨rfl, w3, a3, s3, ⟨g6, q1, q2, q3, q4, q5, hs3⟩, x3⟩
    refine ⟨rfl, hide ⟨a3, s3.done, g6, q1.rp x3, x3.cell q2.1 q2.2, x3.cell q3.1 q3.2, x3.cell q4.1 q4.2, x3.cell q5.1 q5.2, ?_, ?_, ?_, rfl, ?_⟩⟩
    · rw [hs3]
      exact in_one (s := s6.begin 0 0 ⟨b0, .nilFunc, .nilFunc⟩ (0 / s6.line.length)) (in_one t60 _) _
    · rw [hs3]
      simp [Rs.done, Rs.put, Rs.begin, t61]
    · rw [hs3]
      simp [Rs.done, Rs.put, Rs.begin, l6]
    · rw [hs3]
      simp [Rs.done, Rs.put, Rs.begin, n6])
  clear HCW H6 HL6 bv6 bv7 z6 z7 k1 k2 k3 k4 p1 p2 p3 p4 x7 t60 t61 l6 r6 n6
  go_wp2_with fail
  refine CT.out.mono ?_
  rintro e w8 ⟨rfl, h8⟩
  obtain ⟨a8, s8, g6, bv8, z8, k6, k3, k4, t80, t81, l8, r8, n8⟩ := h8.out
  have c8 := bv8.cx
  have ci : w8.cell? ⟨gi, 0, none⟩ = some (.bool false) := cell_of_row w8 _ 0 _ _ _ bv8.ei
  have cr : w8.cell? ⟨gi + 1 + 1, 0, none⟩ = some (.bool true) := cell_of_row w8 _ 0 _ _ _ bv8.er
  have CR := running_any bv8.rt
  rw [r8, bv8.hR] at CR
  simp only [Option.isSome_none] at CR
  have CRn := running_none (rmade_nil w8)
  -- the second task's turn
  have CT2 : Hid (Calls Try.prog 11 #[.pointer (some ⟨R, 0, none⟩), .int .u64 0] w8 fun e w' => e = .returned (.bool true) ∧ Hid (∃ a9 s9, Bv W w' a9 s9 gx gi (gi + 1) (gi + 1 + 1) (gi + 1 + 1 + 1) R false 0 true (-1) ∧ (w'.heap[gz]? = some (.cells #[.pointer none, .pointer none, .int .i64 0, .nilFunc, .nilFunc] (52 : TypeId) (0, 0)) ∧ ¬ own a9 s9 gz) ∧ (w'.heap[g6]? = some (.cells #[.pointer (some ⟨b0, 0, none⟩)] (44 : TypeId) (0, 0)) ∧ ¬ own a9 s9 g6) ∧ s9.ts[0]? = some ⟨b0, .nilFunc, w28 g6 (gi + 1) (gi + 1 + 1 + 1)⟩ ∧ s9.line = [] ∧ s9.run = none)) := hide (by
    have hst := step_spawned bv8.rt r8 0 (by omega) (j := 0) (i := 1) (hide (by simp)) (by rw [l8]; rfl) t81 ent29 k3.1 k4.1 k3.2 k4.2 (fun w3 a3 s3 => Bv W w3 a3 s3 gx gi (gi + 1) (gi + 1 + 1) (gi + 1 + 1 + 1) R false 0 true (-1) ∧ (w3.heap[gz]? = some (.cells #[.pointer none, .pointer none, .int .i64 0, .nilFunc, .nilFunc] (52 : TypeId) (0, 0)) ∧ ¬ own a3 s3 gz) ∧ (w3.heap[g6]? = some (.cells #[.pointer (some ⟨b0, 0, none⟩)] (44 : TypeId) (0, 0)) ∧ ¬ own a3 s3 g6) ∧ s3 = s8.begin 1 0 ⟨b1, .nilFunc, .nilFunc⟩ (0 / s8.line.length)) (fun Y a1 x1 => by
      refine (none3 Y _).mono ?_
      rintro e w' ⟨rfl, rfl⟩
      exact ⟨rfl, a1, _, ⟨b1, .nilFunc, .nilFunc⟩, x1.rt, rfl, in_one t81 _, rfl, x1.x.R, bv8.rp x1, x1.cell z8.1 z8.2, x1.cell k6.1 k6.2, rfl⟩)
    rw [bv8.hR] at hst
    refine hst.mono ?_
    rintro e w' ⟨rfl, w3, a3, s3, ⟨q1, q2, q3, hs3⟩, x3⟩
    refine ⟨rfl, hide ⟨a3, s3.done, q1.rp x3, x3.cell q2.1 q2.2, x3.cell q3.1 q3.2, ?_, ?_, rfl⟩⟩
    · rw [hs3]
      simp [Rs.done, Rs.begin, t80]
    · rw [hs3]
      simp [Rs.done, Rs.begin, l8])
  clear CT h8 bv8 z8 k6 k3 k4 t80 t81 l8 r8 n8
  go_wp2_with fail
  refine CR.mono ?_
  rintro e w9 ⟨rfl, hw9⟩
  subst w9
  clear CR
  go_wp2_with fail
  refine CRn.mono ?_
  rintro e w9 ⟨rfl, hw9⟩
  subst w9
  clear CRn
  go_wp2_with fail
  refine CT2.out.mono ?_
  rintro e w9 ⟨rfl, h9⟩
  obtain ⟨a9, s9, bv9, z9, k6, t90, l9, r9⟩ := h9.out
  have c9 := bv9.cx
  have CN9 := step_no bv9.rt r9 l9 0
  rw [bv9.hR] at CN9
  have CP := park_no bv9.rt t90 (.inl (by rw [r9]; simp)) (.func 33) #[] #[]
  rw [if_neg (by rw [r9]; simp)] at CP
  simp only at CP
  have CW1 := wake_yes bv9.rt t90 rfl why
  simp only at CW1
  have HCW1 := hide CW1
  have H9 := hide (show Bv W w9 a9 s9 gx gi (gi + 1) (gi + 1 + 1) (gi + 1 + 1 + 1) R false 0 true (-1) ∧ (w9.heap[gz]? = some (.cells #[.pointer none, .pointer none, .int .i64 0, .nilFunc, .nilFunc] (52 : TypeId) (0, 0)) ∧ ¬ own a9 s9 gz) ∧ (w9.heap[g6]? = some (.cells #[.pointer (some ⟨b0, 0, none⟩)] (44 : TypeId) (0, 0)) ∧ ¬ own a9 s9 g6) ∧ s9.ts[0]? = some ⟨b0, .nilFunc, w28 g6 (gi + 1) (gi + 1 + 1 + 1)⟩ ∧ s9.line = [] ∧ s9.run = none from ⟨bv9, z9, k6, t90, l9, r9⟩)
  clear CW1 CT2 h9 bv9 z9 k6 t90 l9 r9 ci cr c8
  go_wp2_with fail
  refine CN9.mono ?_
  rintro e w10 ⟨rfl, hw10⟩
  subst w10
  clear CN9
  go_wp2_with fail
  refine CP.mono ?_
  rintro e w10 ⟨rfl, hw10⟩
  subst w10
  clear CP
  go_wp2_with fail
  refine HCW1.out.mono ?_
  rintro e w10 ⟨rfl, a10, j1, j2, x10, m1, m2, m3, m4, m5, m6⟩
  obtain ⟨bv9, z9, k6, t90, l9, r9⟩ := H9.out
  have bv10 := bv9.rp x10
  have z10 := x10.cell z9.1 z9.2
  have k10 := x10.cell k6.1 k6.2
  obtain ⟨s10, hs10⟩ : ∃ s10, Hid (s10 = s9.gets 0 ⟨b0, .func (.func 60) #[] #[.pointer (some ⟨j1, 0, none⟩), .pointer (some ⟨j2, 0, none⟩)], .nilFunc⟩) := ⟨_, hide rfl⟩
  rw [← hs10.out] at bv10 z10 k10 m5 m6
  have t100 : s10.ts[0]? = some ⟨b0, .func (.func 60) #[] #[.pointer (some ⟨j1, 0, none⟩), .pointer (some ⟨j2, 0, none⟩)], .nilFunc⟩ := by rw [hs10.out]; exact in_one t90 _
  have l10 : s10.line = [0] := by rw [hs10.out]; simp [Rs.gets, l9]
  have r10 : s10.run = none := by rw [hs10.out]; exact r9
  have CW2 := wake_no bv10.rt t100 rfl why
  simp only at CW2
  have HCW2 := hide CW2
  have H10 := hide (show Bv W w10 a10 s10 gx gi (gi + 1) (gi + 1 + 1) (gi + 1 + 1 + 1) R false 0 true (-1) ∧ (w10.heap[gz]? = some (.cells #[.pointer none, .pointer none, .int .i64 0, .nilFunc, .nilFunc] (52 : TypeId) (0, 0)) ∧ ¬ own a10 s10 gz) ∧ (w10.heap[g6]? = some (.cells #[.pointer (some ⟨b0, 0, none⟩)] (44 : TypeId) (0, 0)) ∧ ¬ own a10 s10 g6) ∧ (w10.heap[j1]? = some (.cells #[w28 g6 (gi + 1) (gi + 1 + 1 + 1)] (50 : TypeId) (0, 0)) ∧ ¬ own a10 s10 j1) ∧ (w10.heap[j2]? = some (.cells #[.int .i64 why] 3 (0, 0)) ∧ ¬ own a10 s10 j2) ∧ s10.ts[0]? = some ⟨b0, .func (.func 60) #[] #[.pointer (some ⟨j1, 0, none⟩), .pointer (some ⟨j2, 0, none⟩)], .nilFunc⟩ ∧ s10.line = [0] ∧ s10.run = none from ⟨bv10, z10, k10, ⟨m3, m5⟩, ⟨m4, m6⟩, t100, l10, r10⟩)
  clear CW2 HCW1 H9 bv9 z9 k6 t90 l9 r9 bv10 z10 k10 m1 m2 m3 m4 m5 m6 x10 t100 l10 r10 c9
  go_wp2_with fail
  refine HCW2.out.mono ?_
  rintro e w11 ⟨rfl, x11⟩
  obtain ⟨bv10, z10, k10, k1, k2, t100, l10, r10⟩ := H10.out
  have bv11 := bv10.rp x11
  have z11 := x11.cell z10.1 z10.2
  have o6 := x11.cell k10.1 k10.2
  have o1 := x11.cell k1.1 k1.2
  have o2 := x11.cell k2.1 k2.2
  have c11 := bv11.cx
  have CT3 : Hid (Calls Try.prog 11 #[.pointer (some ⟨R, 0, none⟩), .int .u64 5] w11 fun e w' => e = .returned (.bool true) ∧ Hid (∃ a12 s12, Bv W w' a12 s12 gx gi (gi + 1) (gi + 1 + 1) (gi + 1 + 1 + 1) R false 1 true why ∧ w'.heap[gz]? = some (.cells #[.pointer none, .pointer none, .int .i64 0, .nilFunc, .nilFunc] (52 : TypeId) (0, 0)) ∧ s12.ts[0]? = some ⟨b0, .nilFunc, .nilFunc⟩ ∧ s12.run = none)) := hide (by
    have hst := step_yes bv11.rt r10 5 (by omega) (j := 0) (i := 0) (hide (by rw [l10]; rfl)) (by rw [l10]; rfl) t100 rfl ent60 (fun w3 a3 s3 => Bv W w3 a3 s3 gx gi (gi + 1) (gi + 1 + 1) (gi + 1 + 1 + 1) R false 1 true why ∧ (w3.heap[gz]? = some (.cells #[.pointer none, .pointer none, .int .i64 0, .nilFunc, .nilFunc] (52 : TypeId) (0, 0)) ∧ ¬ own a3 s3 gz) ∧ s3 = s10.begin 0 0 ⟨b0, .nilFunc, .nilFunc⟩ (5 / s10.line.length)) (fun Y a1 x1 => by
      have bvY := bv11.rp x1
      have zY := x1.cell z11.1 z11.2
      have y6 := x1.cell o6.1 o6.2
      have y1 := x1.cell o1.1 o1.2
      have y2 := x1.cell o2.1 o2.2
      have hti : (s10.begin 0 0 ⟨b0, .nilFunc, .nilFunc⟩ (5 / s10.line.length)).ts[0]? = some ⟨b0, .nilFunc, .nilFunc⟩ := in_one t100 _
      refine first60 ent28 y1.1 y2.1 _ ?_
      refine (none21 (i := 0) (b := b0) bvY hti rfl y6.1 why).mono ?_
      rintro e w' ⟨rfl, hF⟩
      obtain ⟨q1, q2⟩ := hF.out
      exact ⟨rfl, a1, _, ⟨b0, .nilFunc, .nilFunc⟩, q1.rt, rfl, hti, rfl, x1.x.R, q1, ⟨q2 gz _ zY.1 (ne_type zY.1 bvY.eo (by decide)) (ne_type zY.1 bvY.eg (by decide)), zY.2⟩, rfl⟩)
    rw [bv11.hR] at hst
    refine hst.mono ?_
    rintro e w' ⟨rfl, w3, a3, s3, ⟨q1, q2, hs3⟩, x3⟩
    refine ⟨rfl, hide ⟨a3, s3.done, q1.rp x3, (x3.cell q2.1 q2.2).1, ?_, rfl⟩⟩
    rw [hs3]
    exact in_one t100 _)
  clear HCW2 H10 bv10 bv11 z10 z11 k10 k1 k2 o6 o1 o2 x11 t100 l10 r10
  go_wp2_with fail
  refine CT3.out.mono ?_
  rintro e w12 ⟨rfl, h12⟩
  obtain ⟨a12, s12, bv12, z12, t12, r12⟩ := h12.out
  have co : w12.cell? ⟨gi + 1, 0, none⟩ = some (.int .i64 1) := cell_of_row w12 _ 0 _ _ _ bv12.eo
  have cg : w12.cell? ⟨gi + 1 + 1 + 1, 0, none⟩ = some (.int .i64 why) := cell_of_row w12 _ 0 _ _ _ bv12.eg
  have CO := over_any bv12.rt t12
  rw [show (!s12.live 0) = true by rw [live_goes t12, r12]; rfl] at CO
  simp only at CO
  have HCh := hide (choices_any w12)
  have H12 := hide (show Bv W w12 a12 s12 gx gi (gi + 1) (gi + 1 + 1) (gi + 1 + 1 + 1) R false 1 true why ∧ w12.heap[gz]? = some (.cells #[.pointer none, .pointer none, .int .i64 0, .nilFunc, .nilFunc] (52 : TypeId) (0, 0)) ∧ s12.run = none from ⟨bv12, z12, r12⟩)
  clear CT3 h12 bv12 z12 t12 r12 c11
  go_wp2_with fail
  refine CO.mono ?_
  rintro e w13 ⟨rfl, hw13⟩
  subst w13
  clear CO
  go_wp2_with fail
  refine HCh.out.mono ?_
  rintro e w13 ⟨rfl, hb13⟩
  have HMa := hide (many_any w13)
  have HB13 := hide hb13
  clear HCh hb13 co cg
  go_wp2_with fail
  refine HMa.out.mono ?_
  rintro e w14 ⟨rfl, hb14⟩
  obtain ⟨bv12, z12, r12⟩ := H12.out
  have hb124 : Below w12.heap.size w12 w14 := HB13.out.trans (hb14.mono HB13.out.size)
  have bv14 := bv12.below hb124
  have z14 := (hb124.block _ (heap_lt z12)).trans z12
  have c14 := bv14.cx
  have CM1 := rmade_nil w14
  have CM2 := rmade_yes (b := R) (by rw [← bv14.hR]; exact bv14.rt.m.cR 0)
  obtain ⟨gq, hgq⟩ : ∃ g, Hid (g = w14.heap.size) := ⟨_, hide rfl⟩
  obtain ⟨Q, hQ⟩ : ∃ Q, Hid (Q = w14.alloc (.cells #[.pointer none, .pointer none, .map none, .int .i64 0, .pointer none, .int .u64 0] (61 : TypeId))) := ⟨_, hide rfl⟩
  have bQ : Below w14.heap.size w14 Q := by rw [hQ.out]; exact (Below.refl _ w14).alloc (Nat.le_refl _) _
  have hQg : Q.heap[gq]? = some (.cells #[.pointer none, .pointer none, .map none, .int .i64 0, .pointer none, .int .u64 0] (61 : TypeId) (0, 0)) := by rw [hQ.out, hgq.out]; exact heap_alloc_new w14 _
  have CM3 := rmade_zero (w := Q) (b := gq) (cell_of_row Q _ 0 _ _ _ hQg)
  have bvQ := bv14.below bQ
  have zQ := (bQ.block _ (heap_lt z14)).trans z14
  have cQ := bvQ.cx
  have CS0 := step_none (rmade_nil Q) 0
  have CRu := run_none Q
  have CC1 := choice_no (running_none (rmade_nil Q)) 3 (.inl rfl)
  have CC2 := choice_no (running_any bvQ.rt) 3 (.inl (by rw [r12]; rfl))
  rw [bvQ.hR] at CC2
  have CRd := readys_none (rmade_nil Q)
  have CPk := parked_none (rmade_nil Q)
  have CYn := yield_none (tmade_nil Q) (.func 38) #[] #[]
  have cz0 : Q.cell? ⟨gz, 0, none⟩ = some (.pointer none) := cell_of_row Q _ 0 _ _ _ zQ
  have CPz := park_none (tmade_zero cz0) (.func 39) #[] #[]
  have CWz := wake_none (w := Q) (p := some ⟨gz, 0, none⟩) 1 (fun V hV => tmade_zero ((hV.cell (cell_lt cz0)).trans cz0))
  have HBQ := hide bvQ.bel
  have HGQ : Hid (w14.heap.size = gq) := hide hgq.out.symm
  clear HMa H12 HB13 hb14 bv12 z12 r12 hb124 bv14 z14 bQ hQg bvQ zQ cz0
  go_wp2_with fail
  refine CM1.mono ?_
  rintro e w15 ⟨rfl, hw15⟩
  subst w15
  clear CM1
  go_wp2_with fail
  refine CM2.mono ?_
  rintro e w15 ⟨rfl, hw15⟩
  subst w15
  clear CM2
  go_wp2_with (first | (rw [← hQ.out, HGQ.out]))
  refine CM3.mono ?_
  rintro e w15 ⟨rfl, hw15⟩
  subst w15
  clear CM3
  go_wp2_with fail
  refine CS0.mono ?_
  rintro e w15 ⟨rfl, hw15⟩
  subst w15
  clear CS0
  go_wp2_with fail
  refine CRu.mono ?_
  rintro e w15 ⟨rfl, hw15⟩
  subst w15
  clear CRu
  go_wp2_with fail
  refine CC1.mono ?_
  rintro e w15 ⟨rfl, hw15⟩
  subst w15
  clear CC1
  go_wp2_with fail
  refine CC2.mono ?_
  rintro e w15 ⟨rfl, hw15⟩
  subst w15
  clear CC2
  go_wp2_with fail
  refine CRd.mono ?_
  rintro e w15 ⟨rfl, hw15⟩
  subst w15
  clear CRd
  go_wp2_with fail
  refine CPk.mono ?_
  rintro e w15 ⟨rfl, hw15⟩
  subst w15
  clear CPk
  go_wp2_with fail
  refine CYn.mono ?_
  rintro e w15 ⟨rfl, hw15⟩
  subst w15
  clear CYn
  go_wp2_with fail
  refine CPz.mono ?_
  rintro e w15 ⟨rfl, hw15⟩
  subst w15
  clear CPz
  go_wp2_with fail
  refine CWz.mono ?_
  rintro e w15 ⟨rfl, hb15⟩
  have CI := id_none (tmade_nil w15)
  have CRt := runtime_none (tmade_nil w15)
  have COn := over_none (tmade_nil w15)
  have CA := awake_any w15
  have HB15 : Hid (Below W.heap.size W w15) := hide (HBQ.out.trans (hb15.mono HBQ.out.size))
  clear CWz hb15 HBQ
  go_wp2_with fail
  refine CI.mono ?_
  rintro e w16 ⟨rfl, hw16⟩
  subst w16
  clear CI
  go_wp2_with fail
  refine CRt.mono ?_
  rintro e w16 ⟨rfl, hw16⟩
  subst w16
  clear CRt
  go_wp2_with fail
  refine COn.mono ?_
  rintro e w16 ⟨rfl, hw16⟩
  subst w16
  clear COn
  go_wp2_with fail
  refine CA.mono ?_
  rintro e w16 ⟨rfl, hb16⟩
  have HB16 : Hid (Below W.heap.size W w16) := hide (HB15.out.trans (hb16.mono HB15.out.size))
  clear hb16 CA
  go_wp2_with fail
  go_ret
  exact ⟨rfl, HB16.out⟩

end Go.Proofs.Ytnljgkemplebhaa

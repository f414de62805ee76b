/-
  ChansNone: the walk.
-/
import Derived.Test.YtgjpbekmkhanhaaGreatMxafe87dcb
import Derived.Test.YtgjpbekmkhanhaaGreatMx7aa6455e
import Derived.BigQuiet
import Derived.Deep.CutBlock
import Derived.Deep.DeepCutAuto
namespace Go.Proofs.YtgjpbekmkhanhaaGreat.CH
open Go.RowKit QW
set_option maxRecDepth 100000
set_option linter.unusedSimpArgs false
set_option linter.unusedVariables false

set_option maxHeartbeats 8000000 in
theorem chansNone_any (w : World) (n : Int) :
    Calls Tryz.prog 4 #[.int .i64 n] w fun e w' => e = .returned (.bool true) ∧ Below w.heap.size w w' := by
  have CN := new_any w
  go_enter Tryz.func4, Tryz.ntmps4
  go_wp2_with fail
  refine CN.mono ?_
  rintro e w1 ⟨a, rfl, r1, o1, hb1⟩
  have CN2 := new_any w1
  clear CN
  go_wp2_with fail
  refine CN2.mono ?_
  rintro e w2 ⟨a', rfl, r2, o2, hb2⟩
  have CM := noMake_nil w2 0
  clear CN2
  go_wp2_with fail
  refine CM.mono ?_
  rintro e w3 ⟨rfl, h3⟩
  subst w3
  clear CM
  obtain ⟨w3, h3⟩ : ∃ V, V = w2.alloc (.cells #[.pointer none, .pointer none, .map none, .int .i64 0, .pointer none, .int .u64 0] (62 : TypeId)) := ⟨_, rfl⟩
  have hb3 : Below w2.heap.size w2 w3 := by rw [h3]; exact (Below.refl _ w2).alloc (Nat.le_refl _) _
  have z3 : w3.cell? ⟨w2.heap.size, 0, none⟩ = some (.pointer none) := by
    rw [h3]
    exact cell_of_row _ _ 0 _ _ _ (heap_alloc_new w2 _)
  have CZ := noMake_zero z3 0
  have hR3 : w3.cell? ⟨a.R, 0, none⟩ = some (.pointer (some ⟨a.R, 0, none⟩)) := ((r1.below hb2).below hb3).m.cR 0
  go_wp2_with fail
  rw [← h3]
  refine CZ.mono ?_
  rintro e w3' ⟨rfl, h3'⟩
  subst w3'
  clear CZ z3 h3
  by_cases hs : n < 0 ∨ 64 < n
  · have CM := noMake_size hR3 hs
    have HB : Hid (Below w.heap.size w w3) := hide (hb1.trans ((hb2.trans (hb3.mono hb2.size)).mono hb1.size))
    obtain ⟨W, hW⟩ : ∃ V, V = w3.alloc (.cells #[.pointer none] (48 : TypeId)) := ⟨_, rfl⟩
    have hWb : W.heap[w3.heap.size]? = some (.cells #[.pointer none] (48 : TypeId) (0, 0)) := by rw [hW]; exact heap_alloc_new w3 _
    have cW : W.cell? ⟨w3.heap.size, 0, none⟩ = some (.pointer none) := cell_of_row _ _ 0 _ _ _ hWb
    have HW : Hid (Below w.heap.size w W) := hide (HB.out.trans (by rw [hW]; exact ((Below.refl _ w3).alloc (Nat.le_refl _) _).mono HB.out.size))
    have CA := awake_any W
    have hd : decide (0 ≤ n) = decide (¬ n < 0) := by simp
    clear hR3 hb1 hb2 hb3 r1 r2 o1 o2 HB hWb
    go_wp2_with fail
    refine CM.mono ?_
    rintro e w3' ⟨rfl, h3'⟩
    subst w3'
    clear CM
    by_cases h0 : n < 0
    · have d1 : decide (n < 0) = true := by simp; omega
      go_wp2_with fail
      rw [← hW]
      refine CA.mono ?_
      rintro e w5 ⟨rfl, hb5⟩
      have HF : Hid (Below w.heap.size w w5) := hide (HW.out.trans (hb5.mono HW.out.size))
      clear hb5 CA cW HW hW
      go_wp2_with fail
      go_ret
      exact ⟨rfl, HF.out⟩
    · have d1 : decide (n < 0) = false := by simp; omega
      have d2 : decide (64 < n) = true := by simp; omega
      go_wp2_with fail
      rw [← hW]
      refine CA.mono ?_
      rintro e w5 ⟨rfl, hb5⟩
      have HF : Hid (Below w.heap.size w w5) := hide (HW.out.trans (hb5.mono HW.out.size))
      clear hb5 CA cW HW hW
      go_wp2_with fail
      go_ret
      exact ⟨rfl, HF.out⟩
  · obtain ⟨m, rfl⟩ : ∃ m : Nat, n = m := ⟨n.toNat, by omega⟩
    have d1 : decide ((m : Int) < 0) = false := by simp
    have d2 : decide ((64 : Int) < m) = false := by simp; omega
    have d3 : decide ((m : Int) ≤ 64) = true := by simp; omega
    have d4 : decide ((0 : Int) ≤ m) = true := by simp
    have CM := make_any (w := w3) nA 0 (r := a.R) (n := m) (by omega) (fun V hV => rmade_yes ((hV.cell (cell_lt hR3)).trans hR3))
    clear hR3
    go_wp2_with fail
    refine CM.mono ?_
    rintro e w4 ⟨z, rfl, hzr, hzs, hb4, D, hch, hD⟩
    clear CM hs hzs
    obtain ⟨V1, e1⟩ : ∃ V, V = w4.alloc (.cells #[.pointer (some ⟨z.C, 0, none⟩)] (48 : TypeId)) := ⟨_, rfl⟩
    obtain ⟨V2, e2⟩ : ∃ V, V = V1.alloc (.cells #[.pointer none] (48 : TypeId)) := ⟨_, rfl⟩
    obtain ⟨V3, e3⟩ : ∃ V, V = V2.alloc (.cells #[.pointer none, .pointer none, .int .i64 0, .bool false, .pointer none, .pointer none, .pointer none] (66 : TypeId)) := ⟨_, rfl⟩
    obtain ⟨V4, e4⟩ : ∃ V, V = V3.alloc (.cells #[.pointer (some ⟨w4.heap.size + 1 + 1, 0, none⟩)] (48 : TypeId)) := ⟨_, rfl⟩
    obtain ⟨V5, e5⟩ : ∃ V, V = V4.alloc (.cells #[.func (.func 20) #[] #[]] (67 : TypeId)) := ⟨_, rfl⟩
    obtain ⟨V6, e6⟩ : ∃ V, V = V5.alloc (.cells #[.func (.func 21) #[] #[]] (68 : TypeId)) := ⟨_, rfl⟩
    have CT := newticket_any V6 (.func 23) #[] #[]
    go_wp2_with fail
    rw [← e1, ← e2, ← e3, ← e4, ← e5, ← e6]
    refine CT.mono ?_
    rintro e V7 ⟨rfl, ht, hb7⟩
    obtain ⟨V8, e8⟩ : ∃ V, V = V7.alloc (.cells #[.slice none 0 0] (71 : TypeId)) := ⟨_, rfl⟩
    obtain ⟨p, hp⟩ : ∃ p : Np, p = ⟨z, D, w4.heap.size, w4.heap.size + 1, w4.heap.size + 1 + 1 + 1, w4.heap.size + 1 + 1, w4.heap.size + 1 + 1 + 1 + 1, w4.heap.size + 1 + 1 + 1 + 1 + 1, V7.heap.size, V6.heap.size⟩ := ⟨_, rfl⟩
    have HN : Hid (Nz w p V8 a a' rs0 rs0 0 none 0 []) := hide (by
      obtain ⟨q1, q2, q5, q3, q4⟩ := Bxn.start z D e1 e2 e3 e4 e5 e6 hb7 ht e8
      subst hp
      exact Nz.start hb1 r1 o1 hb2 r2 o2 hb3 hb4 hch hD hzr q1 q3 q4 q2 q5)
    have p1 : w4.heap.size = p.CB := by rw [hp]
    have p2 : w4.heap.size + 1 = p.NB := by rw [hp]
    have p3 : w4.heap.size + 1 + 1 = p.Z := by rw [hp]
    have p4 : w4.heap.size + 1 + 1 + 1 = p.ZB := by rw [hp]
    have p5 : w4.heap.size + 1 + 1 + 1 + 1 = p.TB := by rw [hp]
    have p6 : w4.heap.size + 1 + 1 + 1 + 1 + 1 = p.KB := by rw [hp]
    have p7 : V7.heap.size = p.LB := by rw [hp]
    have p8 : V6.heap.size = p.K := by rw [hp]
    rw [p8, p6, p5, p4, p2, p1]
    clear hp hb1 r1 o1 hb2 r2 o2 hb3 hb4 hch hD hzr ht hb7 CT
    go_wp2_with fail
    rw [← e8]
    refine (HN.out.spawn2 (.func 25) #[] (cap4 p)).mono ?_
    rintro e V9 ⟨b, rfl, a2, g1, g2, hR2, N9, q1, q2, n1, n2⟩
    have CS := N9.step2 (by omega) q1 q2 n1 n2
    rw [hR2] at CS
    clear HN e8 N9 q1 q2 n1 n2
    go_wp2_with fail
    refine CS.mono ?_
    rintro e V10 ⟨rfl, a3, va, vc, hR3, N10⟩
    have CP := N10.spawn1 (.func 28) #[] (cap5 p)
    clear CS N10
    go_wp2_with fail
    refine CP.mono ?_
    rintro e V11 ⟨b1, rfl, a4, g3, g4, hR4, N11, q1, q2, n1, n2⟩
    have CS := N11.step1 (by omega) q1 q2 n1 n2
    rw [hR4] at CS
    clear CP N11 q1 q2 n1 n2
    go_wp2_with fail
    refine CS.mono ?_
    rintro e V12 ⟨rfl, a5, va', vc', hR5, N12⟩
    simp only [List.nil_append, List.cons_append] at N12
    obtain ⟨V, hV⟩ : ∃ V, V = V12.alloc (.cells #[.int .i64 160, .int .i64 160, .int .i64 1, .int .i64 1, .int .i64 1, .int .i64 1] (55 : TypeId)) := ⟨_, rfl⟩
    have hbV : Below V12.heap.size V12 V := by rw [hV]; exact (Below.refl _ V12).alloc (Nat.le_refl _) _
    have hVr : V.heap[V12.heap.size]? = some (.cells #[.int .i64 160, .int .i64 160, .int .i64 1, .int .i64 1, .int .i64 1, .int .i64 1] (55 : TypeId) (0, 0)) := by rw [hV]; exact heap_alloc_new V12 _
    obtain ⟨W, hW⟩ : ∃ g, Hid (V12.heap.size = g) := ⟨_, hide rfl⟩
    rw [hW.out] at hVr
    have NV := N12.below hbV
    have lV : V.cell? ⟨p.LB, 0, none⟩ = some (.slice va' 6 vc') := cell_of_row _ _ 0 _ _ _ NV.nt.box
    rw [hV] at lV
    have HV := hide NV
    clear CS N12 hbV NV
    have e1 : ∀ (q : Nat) (U : World), (binOp .eql (60 : TypeId) (.pointer (some ⟨q, 0, none⟩)) (.pointer none)).run Tryz.prog U = .ok (.bool false) U := fun q U => eqlt_nil2 (te := (130 : TypeId)) _ Tryz.underlying60
    go_wp2_with fail
    rw [← hV]
    simp only [hW.out]
    have hVr := hide hVr
    clear lV hV hW e1
    go_loopw [118] (fun iv wr => ∃ i : Nat, i ≤ 6 ∧ iv = .int .i64 i ∧ Hid (Below V.heap.size V wr)) (fun iv _ => 6 - (intOf iv).toNat)
    case atStart => exact ⟨0, by omega, rfl, hide (Below.refl _ V)⟩
    case round =>
      obtain ⟨i, hi, rfl, hd⟩ := hrel
      by_cases hin : i < 6
      · have NN := HV.out.below hd.out
        obtain ⟨g, hg, _, hcap, hat⟩ := NN.nt.at' (by omega)
        subst hg
        have lr : wr.cell? ⟨p.LB, 0, none⟩ = some (.slice (some ⟨g, 0, none⟩) 6 vc') := cell_of_row _ _ 0 _ _ _ NN.nt.box
        have hwr := (hd.out.block _ (heap_lt hVr.out)).trans hVr.out
        obtain ⟨x, x1, x2⟩ : ∃ x : Int, wr.cell? ⟨g, i, none⟩ = some (.int .i64 x) ∧ wr.cell? ⟨W, i, none⟩ = some (.int .i64 x) := by
          rw [hat i hin, cell_of_row _ _ i _ _ _ hwr]
          rcases (by omega : i = 0 ∨ i = 1 ∨ i = 2 ∨ i = 3 ∨ i = 4 ∨ i = 5) with rfl | rfl | rfl | rfl | rfl | rfl <;> exact ⟨_, rfl, rfl⟩
        have d5 : decide ((i : Int) < 6) = true := by simp; omega
        clear NN hat hwr
        go_wp2_with fail
        have q0 : wr.drew.cell? ⟨p.LB, 0, none⟩ = some (.slice (some ⟨g, 0, none⟩) 6 vc') := lr
        have q1 : wr.drew.cell? ⟨g, i, none⟩ = some (.int .i64 x) := x1
        have q2 : wr.drew.cell? ⟨W, i, none⟩ = some (.int .i64 x) := x2
        go_region
        go_wp2_with fail
        go_roundw
        case rel => exact ⟨i + 1, by omega, by go_num, hide hd.out.drew⟩
        case measure => simp [intOf]; omega
      · obtain rfl : i = 6 := by omega
        have NN := HV.out.below hd.out
        have nb := cell_of_row _ _ 0 _ _ _ NN.bx.nb
        have zb := cell_of_row _ _ 0 _ _ _ NN.bx.zb
        have zz : wr.cell? ⟨p.Z, 0, none⟩ = some (.pointer none) := cell_of_row _ _ 0 _ _ _ NN.bx.zz
        have N1 := noTrySend_nil wr 1
        have N2 := noTryRecv_zero zz
        have HV' := hide NN
        clear NN HV hd hVr zz
        go_wp2_with fail
        refine N1.mono ?_
        rintro e X ⟨rfl, hX⟩
        subst X
        go_wp2_with fail
        refine N2.mono ?_
        rintro e X ⟨rfl, hX⟩
        subst X
        clear N1 N2
        have HSV : Hid (∀ V, Below wr.heap.size wr V → Svn p V) := hide (fun V hV => (HV'.out.below hV).bx.svn)
        have SV := HSV
        have s0 : Svn p wr.drew := SV.out _ (Below.refl _ wr).drew
        have C1 : Hid (∀ V, Below wr.heap.size wr V → Calls Tryz.prog 26 #[.pointer (some ⟨b1, 0, none⟩), .pointer (some ⟨p.z.C, 0, none⟩), .int .i64 1, .func (.func 20) #[] #[]] V fun e w' => e = .returned (.int .i64 152) ∧ Below V.heap.size V w') := hide (fun V hV => (HV'.out.below hV).send_over)
        have C2 : Hid (∀ V, Below wr.heap.size wr V → Calls Tryz.prog 27 #[.pointer none, .pointer (some ⟨p.z.C, 0, none⟩), .func (.func 21) #[] #[]] V fun e w' => e = .returned (.int .i64 1) ∧ Below V.heap.size V w') := hide (fun V hV => recv_refused (by decide) (.inr ⟨_, _, _, rfl, rfl⟩) (fun V' hV' => (refused_noTask V' (.pointer (some ⟨p.z.C, 0, none⟩)) false).mono fun e w' ⟨h1, h2⟩ => ⟨h1, by subst h2; exact Below.refl _ _⟩))
        have hRz : Hid (p.z.rt = a.R) := hide (HV'.out.zr.trans hR5)
        clear HSV
        go_wp2_with fail
        refine wp_region_held_drew (S := fun V => Svn p V) (by kernel_rfl) s0 (fun hHeld => ?_)
        try simp only [List.size_toArray, List.length_cons, List.length_nil, Nat.reduceAdd]
        refine wpAnyH_take (i := 0) (v := (.pointer (some ⟨b1, 0, none⟩))) rfl (by kernel_rfl) (by kernel_rfl) (by kernel_rfl) (fun _ _ _ h => h) (Or.inl ⟨by rfl, ?hy⟩) hHeld ?_
        case hy => (intro V hV; obtain ⟨hV1, hV2, hV3, hV4⟩ := hV; go_simp <;> first | done | rfl | (try simp_all; done) | omega)
        try simp only [Act.put, List.getElem_toArray, List.getElem_cons_succ, List.getElem_cons_zero, List.setIfInBounds_toArray, List.set_cons_succ, List.set_cons_zero]
        refine wpAnyH_take (i := 1) (v := (.pointer (some ⟨p.z.C, 0, none⟩))) rfl (by kernel_rfl) (by kernel_rfl) (by kernel_rfl) (fun _ _ _ h => h) (Or.inl ⟨by rfl, ?hy⟩) hHeld ?_
        case hy => (intro V hV; obtain ⟨hV1, hV2, hV3, hV4⟩ := hV; go_simp <;> first | done | rfl | (try simp_all; done) | omega)
        try simp only [Act.put, List.getElem_toArray, List.getElem_cons_succ, List.getElem_cons_zero, List.setIfInBounds_toArray, List.set_cons_succ, List.set_cons_zero]
        refine wpAnyH_take (i := 2) (v := (.func (.func 20) #[] #[])) rfl (by kernel_rfl) (by kernel_rfl) (by kernel_rfl) (fun _ _ _ h => h) (Or.inl ⟨by rfl, ?hy⟩) hHeld ?_
        case hy => (intro V hV; obtain ⟨hV1, hV2, hV3, hV4⟩ := hV; go_simp <;> first | done | rfl | (try simp_all; done) | omega)
        try simp only [Act.put, List.getElem_toArray, List.getElem_cons_succ, List.getElem_cons_zero, List.setIfInBounds_toArray, List.set_cons_succ, List.set_cons_zero]
        refine wpAnyH_take (i := 4) (v := (.pointer (some ⟨p.z.C, 0, none⟩))) rfl (by kernel_rfl) (by kernel_rfl) (by kernel_rfl) (fun _ _ _ h => h) (Or.inl ⟨by rfl, ?hy⟩) hHeld ?_
        case hy => (intro V hV; obtain ⟨hV1, hV2, hV3, hV4⟩ := hV; go_simp <;> first | done | rfl | (try simp_all; done) | omega)
        try simp only [Act.put, List.getElem_toArray, List.getElem_cons_succ, List.getElem_cons_zero, List.setIfInBounds_toArray, List.set_cons_succ, List.set_cons_zero]
        refine wpAnyH_take (i := 5) (v := (.func (.func 21) #[] #[])) rfl (by kernel_rfl) (by kernel_rfl) (by kernel_rfl) (fun _ _ _ h => h) (Or.inl ⟨by rfl, ?hy⟩) hHeld ?_
        case hy => (intro V hV; obtain ⟨hV1, hV2, hV3, hV4⟩ := hV; go_simp <;> first | done | rfl | (try simp_all; done) | omega)
        try simp only [Act.put, List.getElem_toArray, List.getElem_cons_succ, List.getElem_cons_zero, List.setIfInBounds_toArray, List.set_cons_succ, List.set_cons_zero]
        refine wpAnyH_ready (rs := [3]) (by kernel_rfl) (by simp) ?_
        refine AllReadyH.cons (by rfl) ?_ AllReadyH.nil
        intro K hK
        refine step_callw (by rfl) 26 #[.pointer (some ⟨b1, 0, none⟩), .pointer (some ⟨p.z.C, 0, none⟩), .int .i64 1, .func (.func 20) #[] #[]] (by go_simp) ?_
        refine (C1.out _ (Below.refl _ wr).drew).mono ?_
        rintro e X1 ⟨rfl, b1'⟩
        have b2' := (Below.refl _ wr).drew.trans b1'
        have s1 := SV.out _ b2'
        refine ⟨_, rfl, ?_⟩
        refine hK.out _ _ s1 (fun hHeld => ?_)
        clear hK K
        try simp only [Act.put, List.getElem_toArray, List.getElem_cons_succ, List.getElem_cons_zero, List.setIfInBounds_toArray, List.set_cons_succ, List.set_cons_zero]
        refine wpAnyH_ready (rs := [6]) (by kernel_rfl) (by simp) ?_
        refine AllReadyH.cons (by rfl) ?_ AllReadyH.nil
        intro K hK
        refine step_callw (by rfl) 27 #[.pointer none, .pointer (some ⟨p.z.C, 0, none⟩), .func (.func 21) #[] #[]] (by go_simp) ?_
        refine (C2.out _ b2').mono ?_
        rintro e X2 ⟨rfl, b3'⟩
        have b4' := b2'.trans (b3'.mono b2'.size)
        have s2 := SV.out _ b4'
        refine ⟨_, rfl, ?_⟩
        refine hK.out _ _ s2 (fun hHeld => ?_)
        clear hK K
        try simp only [Act.put, List.getElem_toArray, List.getElem_cons_succ, List.getElem_cons_zero, List.setIfInBounds_toArray, List.set_cons_succ, List.set_cons_zero]
        refine wpAnyH_ready (rs := [7]) (by kernel_rfl) (by simp) ?_
        refine AllReadyH.cons (by rfl) ?_ AllReadyH.nil
        intro K hK
        go_simp
        refine hK.out _ _ s2 (fun hHeld => ?_)
        clear hK K
        try simp only [Act.put, List.getElem_toArray, List.getElem_cons_succ, List.getElem_cons_zero, List.setIfInBounds_toArray, List.set_cons_succ, List.set_cons_zero]
        refine wpAnyH_ready (rs := [8]) (by kernel_rfl) (by simp) ?_
        refine AllReadyH.cons (by rfl) ?_ AllReadyH.nil
        intro K hK
        go_simp
        refine hK.out _ _ s2 (fun hHeld => ?_)
        clear hK K
        try simp only [Act.put, List.getElem_toArray, List.getElem_cons_succ, List.getElem_cons_zero, List.setIfInBounds_toArray, List.set_cons_succ, List.set_cons_zero]
        refine wpAnyH_done (by kernel_rfl) ?_ _
        try try simp only [Act.put, List.getElem_toArray, List.getElem_cons_succ, List.getElem_cons_zero, List.setIfInBounds_toArray, List.set_cons_succ, List.set_cons_zero]
        clear C1 C2 s0 s1
        have NX := HV'.out.below b4'
        obtain ⟨s2n, s2t, s2k, s2c⟩ := s2
        have zbX := cell_of_row _ _ 0 _ _ _ NX.bx.zb
        have zzX : X2.cell? ⟨p.Z, 0, none⟩ = some (.pointer none) := cell_of_row _ _ 0 _ _ _ NX.bx.zz
        have L1 := noCan_nil X2
        have L2 := noRuntime_nil X2
        have L3 := crun_any NX.c
        rw [hRz.out] at L3
        have L4 := noClose_nil X2
        have L5 := noLen_zero zzX
        have L6 := noCap_nil X2
        have L7 := noClosed_nil X2
        have L8 := noForget_nil X2 (.pointer (some ⟨p.K, 0, none⟩))
        have L9 := newticket_nil X2
        have HC := hide NX.clx
        obtain ⟨jR, hjR, _⟩ := infoR
        have eR : ∀ V : World, (binOp .neq (31 : TypeId) (.pointer (some ⟨a.R, 0, none⟩)) (.pointer (some ⟨a.R, 0, none⟩))).run Tryz.prog V = .ok (.bool false) V := fun V => neqt_self (te := (62 : TypeId)) _ Tryz.underlying31 hjR
        clear NX zzX b1' b2' b3' b4' SV HV' zb nb
        go_wp2_with fail
        refine L1.mono ?_
        rintro e Y ⟨rfl, hY⟩
        subst Y
        clear L1
        go_wp2_with fail
        refine L2.mono ?_
        rintro e Y ⟨rfl, hY⟩
        subst Y
        clear L2
        go_wp2_with fail
        refine L3.mono ?_
        rintro e Y ⟨rfl, hY⟩
        subst Y
        clear L3
        go_wp2_with fail
        refine L4.mono ?_
        rintro e Y ⟨rfl, hY⟩
        subst Y
        clear L4
        go_wp2_with fail
        refine L5.mono ?_
        rintro e Y ⟨rfl, hY⟩
        subst Y
        clear L5
        go_wp2_with fail
        refine L6.mono ?_
        rintro e Y ⟨rfl, hY⟩
        subst Y
        clear L6
        go_wp2_with fail
        refine L7.mono ?_
        rintro e Y ⟨rfl, hY⟩
        subst Y
        clear L7
        go_wp2_with fail
        refine L8.mono ?_
        rintro e Y ⟨rfl, hY⟩
        subst Y
        clear L8
        go_wp2_with fail
        refine L9.mono ?_
        rintro e Y ⟨rfl, hY⟩
        subst Y
        clear L9
        have SV : Hid (∀ V, Below X2.heap.size X2 V → Svn p V) := hide (fun V hV => (HC.out.below hV).svn)
        have s0 : Svn p X2.drew := SV.out _ (Below.refl _ X2).drew
        have C1 : Hid (∀ V, Below X2.heap.size X2 V → Calls Tryz.prog 38 #[.pointer none, .pointer (some ⟨p.K, 0, none⟩), .func (.func 21) #[] #[]] V fun e w' => e = .returned (.int .i64 1) ∧ Below V.heap.size V w') := hide (fun V hV => Clx.waitNone V _)
        have C2 : Hid (∀ V, Below X2.heap.size X2 V → Calls Tryz.prog 38 #[.pointer (some ⟨p.z.C, 0, none⟩), .pointer none, .func (.func 21) #[] #[]] V fun e w' => e = .returned (.int .i64 1) ∧ Below V.heap.size V w') := hide (fun V hV => (HC.out.below hV).waitNo)
        have C3 : Hid (∀ V, Below X2.heap.size X2 V → Calls Tryz.prog 39 #[.pointer (some ⟨p.z.C, 0, none⟩), .int .i64 1, .pointer (some ⟨p.K, 0, none⟩), .nilFunc] V fun e w' => e = .returned (.int .i64 1) ∧ Below V.heap.size V w') := hide (fun V hV => (HC.out.below hV).waitNil)
        go_wp2_with fail
        refine wp_region_held_drew (S := fun V => Svn p V) (by kernel_rfl) s0 (fun hHeld => ?_)
        try simp only [List.size_toArray, List.length_cons, List.length_nil, Nat.reduceAdd]
        refine wpAnyH_take (i := 0) (v := (.pointer none)) rfl (by kernel_rfl) (by kernel_rfl) (by kernel_rfl) (fun _ _ _ h => h) (Or.inl ⟨by rfl, ?hy⟩) hHeld ?_
        case hy => (intro V hV; obtain ⟨hV1, hV2, hV3, hV4⟩ := hV; go_simp <;> first | done | rfl | (try simp_all; done) | omega)
        try simp only [Act.put, List.getElem_toArray, List.getElem_cons_succ, List.getElem_cons_zero, List.setIfInBounds_toArray, List.set_cons_succ, List.set_cons_zero]
        refine wpAnyH_take (i := 1) (v := (.pointer (some ⟨p.K, 0, none⟩))) rfl (by kernel_rfl) (by kernel_rfl) (by kernel_rfl) (fun _ _ _ h => h) (Or.inl ⟨by rfl, ?hy⟩) hHeld ?_
        case hy => (intro V hV; obtain ⟨hV1, hV2, hV3, hV4⟩ := hV; go_simp <;> first | done | rfl | (try simp_all; done) | omega)
        try simp only [Act.put, List.getElem_toArray, List.getElem_cons_succ, List.getElem_cons_zero, List.setIfInBounds_toArray, List.set_cons_succ, List.set_cons_zero]
        refine wpAnyH_take (i := 2) (v := (.func (.func 21) #[] #[])) rfl (by kernel_rfl) (by kernel_rfl) (by kernel_rfl) (fun _ _ _ h => h) (Or.inl ⟨by rfl, ?hy⟩) hHeld ?_
        case hy => (intro V hV; obtain ⟨hV1, hV2, hV3, hV4⟩ := hV; go_simp <;> first | done | rfl | (try simp_all; done) | omega)
        try simp only [Act.put, List.getElem_toArray, List.getElem_cons_succ, List.getElem_cons_zero, List.setIfInBounds_toArray, List.set_cons_succ, List.set_cons_zero]
        refine wpAnyH_take (i := 4) (v := (.pointer (some ⟨p.z.C, 0, none⟩))) rfl (by kernel_rfl) (by kernel_rfl) (by kernel_rfl) (fun _ _ _ h => h) (Or.inl ⟨by rfl, ?hy⟩) hHeld ?_
        case hy => (intro V hV; obtain ⟨hV1, hV2, hV3, hV4⟩ := hV; go_simp <;> first | done | rfl | (try simp_all; done) | omega)
        try simp only [Act.put, List.getElem_toArray, List.getElem_cons_succ, List.getElem_cons_zero, List.setIfInBounds_toArray, List.set_cons_succ, List.set_cons_zero]
        refine wpAnyH_take (i := 5) (v := (.func (.func 21) #[] #[])) rfl (by kernel_rfl) (by kernel_rfl) (by kernel_rfl) (fun _ _ _ h => h) (Or.inl ⟨by rfl, ?hy⟩) hHeld ?_
        case hy => (intro V hV; obtain ⟨hV1, hV2, hV3, hV4⟩ := hV; go_simp <;> first | done | rfl | (try simp_all; done) | omega)
        try simp only [Act.put, List.getElem_toArray, List.getElem_cons_succ, List.getElem_cons_zero, List.setIfInBounds_toArray, List.set_cons_succ, List.set_cons_zero]
        refine wpAnyH_take (i := 7) (v := (.pointer (some ⟨p.z.C, 0, none⟩))) rfl (by kernel_rfl) (by kernel_rfl) (by kernel_rfl) (fun _ _ _ h => h) (Or.inl ⟨by rfl, ?hy⟩) hHeld ?_
        case hy => (intro V hV; obtain ⟨hV1, hV2, hV3, hV4⟩ := hV; go_simp <;> first | done | rfl | (try simp_all; done) | omega)
        try simp only [Act.put, List.getElem_toArray, List.getElem_cons_succ, List.getElem_cons_zero, List.setIfInBounds_toArray, List.set_cons_succ, List.set_cons_zero]
        refine wpAnyH_take (i := 8) (v := (.pointer (some ⟨p.K, 0, none⟩))) rfl (by kernel_rfl) (by kernel_rfl) (by kernel_rfl) (fun _ _ _ h => h) (Or.inl ⟨by rfl, ?hy⟩) hHeld ?_
        case hy => (intro V hV; obtain ⟨hV1, hV2, hV3, hV4⟩ := hV; go_simp <;> first | done | rfl | (try simp_all; done) | omega)
        try simp only [Act.put, List.getElem_toArray, List.getElem_cons_succ, List.getElem_cons_zero, List.setIfInBounds_toArray, List.set_cons_succ, List.set_cons_zero]
        refine wpAnyH_ready (rs := [3]) (by kernel_rfl) (by simp) ?_
        refine AllReadyH.cons (by rfl) ?_ AllReadyH.nil
        intro K hK
        refine step_callw (by rfl) 38 #[.pointer none, .pointer (some ⟨p.K, 0, none⟩), .func (.func 21) #[] #[]] (by go_simp) ?_
        refine (C1.out _ (Below.refl _ X2).drew).mono ?_
        rintro e X3 ⟨rfl, b1'⟩
        have b2' := (Below.refl _ X2).drew.trans b1'
        have s1 := SV.out _ b2'
        refine ⟨_, rfl, ?_⟩
        refine hK.out _ _ s1 (fun hHeld => ?_)
        clear hK K
        try simp only [Act.put, List.getElem_toArray, List.getElem_cons_succ, List.getElem_cons_zero, List.setIfInBounds_toArray, List.set_cons_succ, List.set_cons_zero]
        refine wpAnyH_ready (rs := [6]) (by kernel_rfl) (by simp) ?_
        refine AllReadyH.cons (by rfl) ?_ AllReadyH.nil
        intro K hK
        refine step_callw (by rfl) 38 #[.pointer (some ⟨p.z.C, 0, none⟩), .pointer none, .func (.func 21) #[] #[]] (by go_simp) ?_
        refine (C2.out _ b2').mono ?_
        rintro e X4 ⟨rfl, b3'⟩
        have b4' := b2'.trans (b3'.mono b2'.size)
        have s2 := SV.out _ b4'
        refine ⟨_, rfl, ?_⟩
        refine hK.out _ _ s2 (fun hHeld => ?_)
        clear hK K
        try simp only [Act.put, List.getElem_toArray, List.getElem_cons_succ, List.getElem_cons_zero, List.setIfInBounds_toArray, List.set_cons_succ, List.set_cons_zero]
        refine wpAnyH_ready (rs := [9]) (by kernel_rfl) (by simp) ?_
        refine AllReadyH.cons (by rfl) ?_ AllReadyH.nil
        intro K hK
        refine step_callw (by rfl) 39 #[.pointer (some ⟨p.z.C, 0, none⟩), .int .i64 1, .pointer (some ⟨p.K, 0, none⟩), .nilFunc] (by go_simp) ?_
        refine (C3.out _ b4').mono ?_
        rintro e X5 ⟨rfl, b5'⟩
        have b6' := b4'.trans (b5'.mono b4'.size)
        have s3 := SV.out _ b6'
        refine ⟨_, rfl, ?_⟩
        refine hK.out _ _ s3 (fun hHeld => ?_)
        clear hK K
        try simp only [Act.put, List.getElem_toArray, List.getElem_cons_succ, List.getElem_cons_zero, List.setIfInBounds_toArray, List.set_cons_succ, List.set_cons_zero]
        refine wpAnyH_ready (rs := [10]) (by kernel_rfl) (by simp) ?_
        refine AllReadyH.cons (by rfl) ?_ AllReadyH.nil
        intro K hK
        go_simp
        refine hK.out _ _ s3 (fun hHeld => ?_)
        clear hK K
        try simp only [Act.put, List.getElem_toArray, List.getElem_cons_succ, List.getElem_cons_zero, List.setIfInBounds_toArray, List.set_cons_succ, List.set_cons_zero]
        refine wpAnyH_ready (rs := [11]) (by kernel_rfl) (by simp) ?_
        refine AllReadyH.cons (by rfl) ?_ AllReadyH.nil
        intro K hK
        go_simp
        refine hK.out _ _ s3 (fun hHeld => ?_)
        clear hK K
        try simp only [Act.put, List.getElem_toArray, List.getElem_cons_succ, List.getElem_cons_zero, List.setIfInBounds_toArray, List.set_cons_succ, List.set_cons_zero]
        refine wpAnyH_ready (rs := [12]) (by kernel_rfl) (by simp) ?_
        refine AllReadyH.cons (by rfl) ?_ AllReadyH.nil
        intro K hK
        go_simp
        refine hK.out _ _ s3 (fun hHeld => ?_)
        clear hK K
        try simp only [Act.put, List.getElem_toArray, List.getElem_cons_succ, List.getElem_cons_zero, List.setIfInBounds_toArray, List.set_cons_succ, List.set_cons_zero]
        refine wpAnyH_done (by kernel_rfl) ?_ _
        try try simp only [Act.put, List.getElem_toArray, List.getElem_cons_succ, List.getElem_cons_zero, List.setIfInBounds_toArray, List.set_cons_succ, List.set_cons_zero]
        clear C1 C2 C3 s0 s1 s2 SV
        have HD := hide (HC.out.below b6')
        obtain ⟨_, _, _, s3c⟩ := s3
        have CC := HD.out.close
        clear HC b1' b2' b3' b4' b5' b6' s2n s2t s2k s2c
        go_wp2_with fail
        refine CC.mono ?_
        rintro e Y ⟨rfl, cY⟩
        obtain ⟨_, yt, yk, yc⟩ := cY.svn
        have CW := cY.waitRecv
        clear CC HD cY s3c
        go_wp2_with fail
        refine CW.mono ?_
        rintro e Y2 ⟨rfl, cY⟩
        obtain ⟨_, yt2, yk2, yc2⟩ := cY.svn
        have CW2 := cY.waitSend
        clear CW cY yt yk yc
        go_wp2_with fail
        refine CW2.mono ?_
        rintro e Y3 ⟨rfl, cY⟩
        have HB := hide cY.bel
        have CA := awake_any Y3
        clear CW2 cY yt2 yk2 yc2
        go_wp2_with fail
        refine CA.mono ?_
        rintro e Y4 ⟨rfl, b⟩
        have HF : Hid (Below w.heap.size w Y4) := hide (HB.out.trans (b.mono HB.out.size))
        clear CA b HB
        go_wp2_with fail
        go_ret
        exact ⟨rfl, HF.out⟩

end Go.Proofs.YtgjpbekmkhanhaaGreat.CH
namespace Go.Proofs.YtgjpbekmkhanhaaGreat.chansNone
open Go.RowKit
theorem walk {w : World} (n : Int) : Calls Tryz.prog 4 #[.int .i64 n] w fun e w' => e = .returned (.bool true) ∧ Below w.heap.size w w' := CH.chansNone_any w n
end Go.Proofs.YtgjpbekmkhanhaaGreat.chansNone

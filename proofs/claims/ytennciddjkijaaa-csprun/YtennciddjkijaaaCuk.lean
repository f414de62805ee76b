/-
  The document's world of tasks: a step, walked.
-/
import Derived.Test.YtennciddjkijaaaCuj
namespace Go.Proofs.Ytennciddjkijaaa
open Go.RowKit QI
set_option maxRecDepth 100000
set_option linter.unusedSimpArgs false

section
variable {w w' : World} {L C : Nat} {pv : Value} {σ σ' : Sg} {D Pb : Nat → Prop} {pa : Option Addr} {np pcap : Nat} {ps : List (List Dop)}

set_option maxHeartbeats 4000000 in
theorem rstep_yes (h : Rf w L C (.slice pa np pcap) σ D) (hP : Pg w Pb D pa np pcap ps) (hL : L ≤ w.heap.size) {i j n prog at' : Nat} {why : Int} (hn : n = σ.line.length) (hn0 : 0 < n) (p : Nat) (hp : p ≤ 18446744073709551615) (hj : p % n = j) (hx : σ.line.getD j 0 = (i : Int)) (hi : σ.tk[i]? = some ⟨prog, at', 1, why⟩) (hprog : prog < np) (hnp : np ≤ 1000) (hat : at' ≤ 1000000) (hev : σ.ev.length ≤ 999990) (htk : σ.tk.length ≤ 999990) (hln : n ≤ 999990) {d : Dop} (hd : d = dop ps ⟨prog, at', 1, why⟩) :
    Calls Try.prog 12 #[.pointer (some ⟨C, 0, none⟩), .int .u64 p] w fun e w' => e = .returned (.bool true) ∧ ∃ D', Rf w' L C (.slice pa np pcap) ((((({ σ with line := σ.line.eraseIdx j } : Sg).put i ⟨prog, at' + 1, 2, 0⟩).note i at' why).acts np i ⟨prog, at' + 1, 2, 0⟩ d (p / n)).fin i) D' ∧ Fx w D w' D' := by
  have hjn : j < n := by rw [← hj]; exact Nat.mod_lt _ hn0
  obtain ⟨la, lc, c2, hLs, hq⟩ := h.first hL hn hjn hi (by omega)
  have HQ := hide hq
  have CP := refpick hLs hn.symm (by omega) hn0 p hp
  rw [hj, hx] at CP
  have hdn : p / n ≤ 18446744073709551615 := Nat.le_trans (Nat.div_le_self _ _) hp
  obtain ⟨lf, hlf⟩ : ∃ lf, Hid (lf = p / n) := ⟨_, hide rfl⟩
  rw [← hlf.out] at CP hdn ⊢
  obtain ⟨q, hq'⟩ : ∃ q : Pt, Hid (q = ⟨prog, at' + 1, 2, 0⟩) := ⟨_, hide rfl⟩
  rw [← hq'.out]
  obtain ⟨σ1, hσ⟩ : ∃ σ1 : Sg, Hid (σ1 = ({ σ with line := σ.line.eraseIdx j } : Sg).note i at' why) := ⟨_, hide rfl⟩
  obtain ⟨σ2, hσ2⟩ : ∃ σ2 : Sg, Hid (σ2 = σ1.put i q) := ⟨_, hide rfl⟩
  have e2 : (({ σ with line := σ.line.eraseIdx j } : Sg).put i q).note i at' why = σ2 := by rw [hσ2.out, hσ.out]; rfl
  rw [e2]
  have hi1 : Hid (σ1.tk[i]? = some ⟨prog, at', 1, why⟩) := hide (by rw [hσ.out]; exact hi)
  have il : i < σ.tk.length := (List.getElem?_eq_some_iff.1 hi).1
  have H2 : Hid (σ2.tk[i]? = some q) := hide (by rw [hσ2.out, hσ.out]; simp [Sg.put, Sg.note, il])
  have hT1 : Hid (σ1.tk.length = σ.tk.length) := hide (by rw [hσ.out]; rfl)
  have hT2 : Hid (σ2.tk.length = σ.tk.length) := hide (by rw [hσ2.out, hσ.out]; simp [Sg.put, Sg.note])
  have hE2 : Hid (σ2.ev.length ≤ 999991) := hide (by rw [hσ2.out, hσ.out]; simp [Sg.put, Sg.note]; exact hev)
  have hL2 : Hid (σ2.line.length ≤ 999990) := hide (by rw [hσ2.out, hσ.out]; simp only [Sg.put, Sg.note]; rw [List.length_eraseIdx, if_pos (by omega)]; omega)
  have hqs : Hid (q.st = 2) := hide (by rw [hq'.out])
  obtain ⟨P, hPP⟩ : ∃ P : World → Prop, Hid (P = fun w' => ∃ D', Rf w' L C (.slice pa np pcap) ((σ2.acts np i q d lf).fin i) D' ∧ Fx w D w' D') := ⟨_, hide rfl⟩
  have HFin : Hid (∀ dv w', Rd w L C (.slice pa np pcap) D dv d ((σ2.acts np i q d lf).fin i) w' → P w') := hide (fun dv w' hr => by
    rw [hPP.out]
    obtain ⟨D', h1, h2, _⟩ := hr.ex
    exact ⟨D', h1, h2⟩)
  have eP : (fun (e : Ending) (w' : World) => e = .returned (.bool true) ∧ ∃ D', Rf w' L C (.slice pa np pcap) ((σ2.acts np i q d lf).fin i) D' ∧ Fx w D w' D') = fun e w' => e = .returned (.bool true) ∧ P w' := by rw [hPP.out]
  rw [eP]
  have HP := hide hP
  have HL := hide hL
  have Hd := hide hd
  have Hprog := hide hprog
  obtain ⟨T, hT⟩ : ∃ T, Hid (T = σ.tk.length) := ⟨_, hide rfl⟩
  rw [← hT.out] at il htk
  have HTk : Hid (σ2.tk.length ≤ 999990) := hide (by rw [hT2.out, ← hT.out]; exact htk)
  have hii : (i : Int) < (T : Int) := by omega
  have hT9 : (T : Int) ≤ 9223372036854775807 := by omega
  have hat9 : (at' : Int) ≤ 1000000 := by omega
  have hwat : IntKind.i64.wrap ((at' : Int) + 1) = (at' : Int) + 1 := by simp [IntKind.wrap, IntKind.signed, IntKind.bits]; omega
  have Hnp := hide hnp
  have Hdn := hide hdn
  have Hat := hide hat
  clear h hP hL hd hi hev htk hln hjn hLs hx hj hn hq eP e2 hprog hnp hdn hat
  go_enter Try.func12, Try.ntmps12
  go_wp2_with fail
  refine CP.mono ?_
  rintro e w1 ⟨va, vc, rfl, o1, b1⟩
  obtain ⟨k2, f2, Z, hZ, g, cap, z1, y0, y1, y2, y3, A, G, hG, hA, a1, a3, hn1⟩ := HQ.out w1 va vc o1 b1
  have HN := hide hn1
  clear o1 b1 HQ hn1 CP
  rw [← hT.out] at z1
  try simp only at y0 y1 y2 y3 a1 a3
  have hA' : Hid (A = Z.alloc (.cells #[.int .i64 prog, .int .i64 at', .int .i64 1, .int .i64 why] (72 : TypeId))) := hide hA.out
  go_wp2_with (first | (rw [← hZ.out]))
  rw [← hA'.out, hG.out]
  refine HN.out.mono ?_
  rintro e w2 ⟨rfl, D2, r2, x2, nd, g2⟩
  rw [← hσ.out] at r2
  have hL2w : L ≤ w2.heap.size := Nat.le_trans HL.out x2.tb.size
  obtain ⟨pb, po, da, dn, dc, hpa, hdn1, hdn2, HS, hno, hyes⟩ := (HP.out.fx x2).prep (i1 := ⟨prog, at', 1, why⟩) r2 Hprog.out Hd.out
  subst hpa
  obtain ⟨B, hB⟩ : ∃ B, Hid (B = w2.alloc (.cells #[.int .i64 0, .int .i64 0, .int .i64 0] (67 : TypeId))) := ⟨_, hide rfl⟩
  have bB : Below w2.heap.size w2 B := by rw [hB.out]; exact (Below.refl _ w2).alloc (Nat.le_refl _) _
  have hBd : B.heap[w2.heap.size]? = some (.cells #[.int .i64 0, .int .i64 0, .int .i64 0] (67 : TypeId) (0, 0)) := by rw [hB.out]; exact heap_alloc_new w2 _
  obtain ⟨dv, hdv⟩ : ∃ dv, Hid (dv = w2.heap.size) := ⟨_, hide rfl⟩
  have HDV : Hid (w2.heap.size = dv) := hide hdv.out.symm
  have HW : Hid (∀ Y, Below w2.heap.size w2 Y → Y.heap[dv]? = some (.cells #[.int .i64 d.1, .int .i64 d.2.1, .int .i64 d.2.2] (67 : TypeId) (0, 0)) → _) := hide (fun Y b hY => r2.work (i := i) x2 hL2w hi1.out HDV b hY)
  have HG : Hid (∀ V, Below w2.heap.size w2 V → V.cell? ⟨G, 0, none⟩ = some (.int .i64 prog) ∧ V.cell? ⟨G, 1, none⟩ = some (.int .i64 at')) := hide (fun V hV => by
    have := (hV.block _ (heap_lt g2)).trans g2
    exact ⟨cell_of_row V _ 0 _ _ _ this, cell_of_row V _ 1 _ _ _ this⟩)
  rw [← hdv.out] at hBd
  have HBB := hide bB
  obtain ⟨aC, ap⟩ := HS.out B bB
  obtain ⟨t0, t1⟩ := HG.out B bB
  have hpn' := Hprog.out
  try simp only at ap
  clear r2 x2 nd g2 bB HP hL2w hZ hA hA' hG HN z1 y0 y1 y2 y3 a1 a3 k2 f2 c2 Z A
  have z0 : B.cell? ⟨dv, 0, none⟩ = some (.int .i64 0) := cell_of_row B _ 0 _ _ _ hBd
  by_cases hlt : at' < dn
  · obtain ⟨db, dof, hda, i0, i1, i2, HY⟩ := hyes hlt
    subst hda
    obtain ⟨y0, y1, y2⟩ := HY.out B HBB.out
    clear hno hyes
    have hlti : decide ((at' : Int) < (dn : Int)) = true := by simpa using hlt
    go_wp2_with fail
    rw [← hB.out, HDV.out]
    go_quiet (fail)
    go_wp2_with fail
    have z1 : B.cell? ⟨dv, 1, none⟩ = some (.int .i64 0) := cell_of_row B _ 1 _ _ _ hBd
    have z2 : B.cell? ⟨dv, 2, none⟩ = some (.int .i64 0) := cell_of_row B _ 2 _ _ _ hBd
    have fz0 := frozen_of_row B dv 0 _ _ hBd
    have fz1 := frozen_of_row B dv 1 _ _ hBd
    have fz2 := frozen_of_row B dv 2 _ _ hBd
    obtain ⟨X, hX⟩ : ∃ X : Nat → World, Hid (X = fun m => (((B.drewN m).setCell ⟨dv, 0, none⟩ (.int .i64 d.1)).setCell ⟨dv, 1, none⟩ (.int .i64 d.2.1)).setCell ⟨dv, 2, none⟩ (.int .i64 d.2.2)) := ⟨_, hide rfl⟩
    have bX : Hid (∀ m, Below w2.heap.size w2 (X m)) := hide (fun m => by
      rw [hX.out]
      exact (((below_drewN HBB.out m).setCell (by simp [hdv.out]) _).setCell (by simp [hdv.out]) _).setCell (by simp [hdv.out]) _)
    have KS : Hid (∀ m, (X m).cell? ⟨G, 0, none⟩ = some (.int .i64 prog) ∧ (X m).cell? ⟨G, 1, none⟩ = some (.int .i64 at') ∧ (X m).cell? ⟨C, 0, none⟩ = some (.slice (some ⟨pb, po, none⟩) np pcap) ∧ (X m).cell? ⟨pb, po + prog, none⟩ = some (.slice (some ⟨db, dof, none⟩) dn dc) ∧ (X m).cell? ⟨db, dof + at' * 3, none⟩ = some (.int .i64 d.1) ∧ (X m).cell? ⟨db, dof + at' * 3 + 1, none⟩ = some (.int .i64 d.2.1) ∧ (X m).cell? ⟨db, dof + at' * 3 + 2, none⟩ = some (.int .i64 d.2.2)) := hide (fun m => by
      obtain ⟨k4, k5⟩ := HS.out _ (bX.out m)
      obtain ⟨k1, k2⟩ := HG.out _ (bX.out m)
      obtain ⟨k6, k7, k8⟩ := HY.out _ (bX.out m)
      exact ⟨k1, k2, k4, k5, k6, k7, k8⟩)
    have hXd : Hid (∀ m, (X m).heap[dv]? = some (.cells #[.int .i64 d.1, .int .i64 d.2.1, .int .i64 d.2.2] (67 : TypeId) (0, 0))) := hide (fun m => by
      rw [hX.out]
      have q0 : (B.drewN m).heap[dv]? = _ := hBd
      have q1 := heap_setCell_same (B.drewN m) dv 0 _ _ (.int .i64 d.1) q0
      have q2 := heap_setCell_same _ dv 1 _ _ (.int .i64 d.2.1) q1
      have q3 := heap_setCell_same _ dv 2 _ _ (.int .i64 d.2.2) q2
      exact q3)
    rw [hX.out] at KS
    have KS' : Hid (∀ m, (((((B.drewN m).setCell ⟨dv, 0, none⟩ (.int .i64 d.1)).setCell ⟨dv, 1, none⟩ (.int .i64 d.2.1)).setCell ⟨dv, 2, none⟩ (.int .i64 d.2.2))).cell? ⟨G, 0, none⟩ = some (.int .i64 prog) ∧ _) := KS
    go_region_held3 (fun V => V.cell? ⟨G, 0, none⟩ = some (.int .i64 prog) ∧ V.cell? ⟨G, 1, none⟩ = some (.int .i64 at') ∧ V.cell? ⟨C, 0, none⟩ = some (.slice (some ⟨pb, po, none⟩) np pcap) ∧ V.cell? ⟨pb, po + prog, none⟩ = some (.slice (some ⟨db, dof, none⟩) dn dc) ∧ V.cell? ⟨db, dof + at' * 3, none⟩ = some (.int .i64 d.1) ∧ V.cell? ⟨db, dof + at' * 3 + 1, none⟩ = some (.int .i64 d.2.1) ∧ V.cell? ⟨db, dof + at' * 3 + 2, none⟩ = some (.int .i64 d.2.2))
      (first | exact KS'.out _ | exact ⟨t0, t1, aC, ap, y0, y1, y2⟩)
      (fail)

    have hXe : X (nq + 1) = (((B.drewN (nq + 1)).setCell ⟨dv, 0, none⟩ (.int .i64 d.1)).setCell ⟨dv, 1, none⟩ (.int .i64 d.2.1)).setCell ⟨dv, 2, none⟩ (.int .i64 d.2.2) := by rw [hX.out]
    rw [← hXe]
    obtain ⟨Y, hY⟩ : ∃ Y, Hid (Y = X (nq + 1)) := ⟨_, hide rfl⟩
    have hbY := bX.out (nq + 1)
    have hdY := hXd.out (nq + 1)
    rw [← hY.out] at hbY hdY ⊢
    obtain ⟨g, cap, c1, d1, f1, X1, hX1, cX1, d3, f3, X2, hX2, cX2, d2, f2, X3, hX3, hr⟩ := HW.out Y hbY hdY
    clear hXe hbY hdY hXd KS KS' bX hX HS HY y0 y1 y2 z0 z1 z2 fz0 fz1 fz2 t0 t1 aC ap hBd HBB hB hlti hlt hdn1 hdn2 hdv HDV hpn' HG HW hY
    rename_i hHeld
    clear hHeld
    rw [hT1.out, ← hT.out] at c1 cX1 cX2
    rw [← hq'.out, ← hσ2.out] at hr
    try simp only at d1 d3 d2
    have HR := hide hr
    obtain ⟨k, y, z⟩ := d
    have v0 : X3.cell? ⟨dv, 0, none⟩ = some (.int .i64 k) := hr.v0
    have v1 : X3.cell? ⟨dv, 1, none⟩ = some (.int .i64 y) := hr.v1
    have v2 : X3.cell? ⟨dv, 2, none⟩ = some (.int .i64 z) := hr.v2
    have v3 : X3.cell? ⟨C, 0, none⟩ = some (.slice (some ⟨pb, po, none⟩) np pcap) := hr.c0
    clear hr
    try simp only at i0 i1 i2
    by_cases k1 : k = 1
    · subst k1
      have HC : Hid (Calls Try.prog 48 #[.pointer (some ⟨C, 0, none⟩), .int .i64 i] X3 fun e w' => e = .returned (.tuple #[]) ∧ Rd w L C (.slice (some ⟨pb, po, none⟩) np pcap) D dv (1, y, z) (σ2.gets i q) w') := hide (HR.out.call (fun D hr => rready_any hr HR.out.lo (by have := hL2.out; omega) (by have := HTk.out; omega) H2.out))
      go_wp2_with (first | (rw [← hX1.out]) | (rw [← hX2.out]) | (rw [← hX3.out]))
      refine HC.out.mono ?_
      rintro e w9 ⟨rfl, r9⟩
      have v9 := r9.v0
      try simp only at v9
      have HP9 := hide (HFin.out dv w9 (by
        rw [show (σ2.acts np i q (1, y, z) lf).fin i = _ from (by simp only [Sg.acts, if_true]; exact gets_fin _ _ _)]
        exact r9))
      clear r9 HC
      go_wp2_with fail
      go_ret
      exact ⟨rfl, HP9.out⟩
    by_cases k2 : k = 2
    · subst k2
      obtain ⟨g2, cap2, s1, s2, s3, X4, hX4, r4⟩ := HR.out.state H2.out 3
      rw [hT2.out, ← hT.out] at s1
      have hX4' : Hid (X4 = X3.setCell ⟨g2, i * 4 + 2, none⟩ (.int .i64 3)) := hide hX4.out
      have HP9 := hide (HFin.out dv X4 (by
        rw [show (σ2.acts np i q (2, y, z) lf).fin i = _ from (by simp only [Sg.acts]; exact put_fin3 _ _ _)]
        exact r4))
      clear r4 hX4
      go_wp2_with (first | (rw [← hX1.out]) | (rw [← hX2.out]) | (rw [← hX3.out]) | (rw [← hX4'.out]))
      go_ret
      exact ⟨rfl, HP9.out⟩
    by_cases k3 : k = 3
    · subst k3
      obtain ⟨cv, hcv⟩ : ∃ cv : Int, Hid (cv = if σ2.waits y then 0 else 152) := ⟨_, hide rfl⟩
      have HC : Hid (Calls Try.prog 49 #[.pointer (some ⟨C, 0, none⟩), .int .i64 y, .int .i64 z] X3 fun e w' => e = .returned (.int .i64 cv) ∧ Rd w L C (.slice (some ⟨pb, po, none⟩) np pcap) D dv (3, y, z) (σ2.wake y z) w') := hide (by rw [hcv.out]; exact HR.out.call (fun D hr => rwake_any hr HR.out.lo (by have := hL2.out; omega) (by have := HTk.out; omega) y z))
      obtain ⟨z1, z2, z3⟩ := wake_sz σ2 y z
      have Z1 := hide z1
      have Z2 := hide z2
      have Z3 := hide z3
      clear z1 z2 z3
      go_wp2_with (first | (rw [← hX1.out]) | (rw [← hX2.out]) | (rw [← hX3.out]))
      refine HC.out.mono ?_
      rintro e w9 ⟨rfl, r9⟩
      have HC2 : Hid (Calls Try.prog 47 #[.pointer (some ⟨C, 0, none⟩), .int .i64 i, .int .i64 (-2), .int .i64 cv] w9 fun e w' => e = .returned (.tuple #[]) ∧ Rd w L C (.slice (some ⟨pb, po, none⟩) np pcap) D dv (3, y, z) ((σ2.wake y z).note i (-2) cv) w') := hide (r9.call (fun D hr => rnote_any hr r9.lo (by rw [Z3.out]; have := hE2.out; omega) i (-2) cv))
      clear r9 HC
      go_wp2_with fail
      refine HC2.out.mono ?_
      rintro e w10 ⟨rfl, r10⟩
      clear HC2
      have HC3 : Hid (Calls Try.prog 48 #[.pointer (some ⟨C, 0, none⟩), .int .i64 i] w10 fun e w' => e = .returned (.tuple #[]) ∧ Rd w L C (.slice (some ⟨pb, po, none⟩) np pcap) D dv (3, y, z) (((σ2.wake y z).note i (-2) cv).gets i q) w') := hide (r10.call (fun D hr => rready_any hr r10.lo (by simp only [Sg.note]; have := Z2.out; have := hL2.out; omega) (by simp only [Sg.note]; have := Z1.out; have := HTk.out; omega) (by exact wake_keep H2.out hqs.out y z)))
      clear r10
      go_wp2_with fail
      refine HC3.out.mono ?_
      rintro e w11 ⟨rfl, r11⟩
      have HP9 := hide (HFin.out dv w11 (by
        rw [show (σ2.acts np i q (3, y, z) lf).fin i = _ from (by simp only [Sg.acts, ← hcv.out]; exact gets_fin _ _ _)]
        exact r11))
      clear r11
      go_wp2_with fail
      go_ret
      exact ⟨rfl, HP9.out⟩
    by_cases k4 : k = 4
    · subst k4
      by_cases ho : σ2.opn = 256
      · have ho' : decide (σ2.opn ≠ 256) = false := by simp [ho]
        have HC : Hid (∀ V, Below X3.heap.size X3 V → Calls Try.prog 10 #[.pointer (some ⟨C, 0, none⟩), .int .i64 (pck y np : Nat)] V fun e w' => e = .returned (.bool false) ∧ (w'.cell? ⟨dv, 1, none⟩ = some (.int .i64 y) ∧ w'.cell? ⟨C, 0, none⟩ = some (.slice (some ⟨pb, po, none⟩) np pcap)) ∧ Rd w L C (.slice (some ⟨pb, po, none⟩) np pcap) D dv (4, y, z) (σ2.spawn (pck y np)) w') := hide (fun V hV => by
          refine ((HR.out.below hV).call (Q := fun e => e = .returned (.bool _)) (fun D hr => rspawn_any hr (HR.out.below hV).lo (by have := hL2.out; omega) (by have := HTk.out; omega) (pck y np))).mono ?_
          rintro e w' ⟨rfl, r9⟩
          exact ⟨by rw [ho'], ⟨r9.v1, r9.c0⟩, r9⟩)
        obtain ⟨z1, z2, z3⟩ := spawn_sz σ2 (pck y np)
        have Z1 := hide z1
        have Z2 := hide z2
        have Z3 := hide z3
        clear z1 z2 z3
        have HK := hide (fun p => spawn_keep H2.out p)
        have hnp0 : 0 < np := by have := Hprog.out; omega
        have HPk : Hid (∀ V, Calls Try.prog 50 #[.int .i64 y, .int .i64 np] V fun e w' => e = .returned (.int .i64 (pck y np : Nat)) ∧ w' = V) := hide (fun V => rpick_any y np V hnp0 (by have := Hnp.out; omega))
        have HA : Hid ((σ2.acts np i q (4, y, z) lf) = ((σ2.spawn (pck y np)).note i (-3) 5).gets i q) := hide (by simp [Sg.acts, ho])
        obtain ⟨σ3, hσ3⟩ : ∃ σ3 : Sg, Hid (σ3 = σ2.spawn (pck y np)) := ⟨_, hide rfl⟩
        have HK3 : Hid (σ3.tk[i]? = some q) := hide (by rw [hσ3.out]; exact HK.out _)
        rw [← hσ3.out] at HC Z1 Z2 Z3 HA
        clear HK hσ3
        generalize pck y np = pk at *
        go_wp2_with (first | (rw [← hX1.out]) | (rw [← hX2.out]) | (rw [← hX3.out]))
        go_region_held3 (fun V => (V.cell? ⟨dv, 1, none⟩ = some (.int .i64 y) ∧ V.cell? ⟨C, 0, none⟩ = some (.slice (some ⟨pb, po, none⟩) np pcap)))
          (first | exact ⟨v1, v3⟩ | exact s8)
          (first | (go_at_call 50; refine (HPk.out _).mono ?_; rintro e w7 ⟨rfl, rfl⟩) | (go_at_call 10; refine (HC.out _ ?_).mono ?_; exact (Below.refl _ X3).drew; rintro e w9 ⟨rfl, s8, r9⟩))
        have HC2 : Hid (∀ V, Below w9.heap.size w9 V → Calls Try.prog 47 #[.pointer (some ⟨C, 0, none⟩), .int .i64 i, .int .i64 (-3), .int .i64 5] V fun e w' => e = .returned (.tuple #[]) ∧ Rd w L C (.slice (some ⟨pb, po, none⟩) np pcap) D dv (4, y, z) (σ3.note i (-3) 5) w') := hide (fun V hV => (r9.below hV).call (fun D hr => rnote_any hr (r9.below hV).lo (by rw [Z3.out]; have := hE2.out; omega) i (-3) 5))
        clear r9 HC HPk
        go_wp2_with fail
        refine (HC2.out _ (by first | exact Below.refl _ _ | exact (Below.refl _ _).drew | exact below_drewN (Below.refl _ _) _)).mono ?_
        rintro e w10 ⟨rfl, r10⟩
        clear HC2
        have HC3 : Hid (Calls Try.prog 48 #[.pointer (some ⟨C, 0, none⟩), .int .i64 i] w10 fun e w' => e = .returned (.tuple #[]) ∧ Rd w L C (.slice (some ⟨pb, po, none⟩) np pcap) D dv (4, y, z) ((σ3.note i (-3) 5).gets i q) w') := hide (r10.call (fun D hr => rready_any hr r10.lo (by simp only [Sg.note]; have := Z2.out; have := hL2.out; omega) (by simp only [Sg.note]; have := Z1.out; have := HTk.out; omega) (by exact HK3.out)))
        clear r10
        go_wp2_with fail
        refine HC3.out.mono ?_
        rintro e w11 ⟨rfl, r11⟩
        have HP9 := hide (HFin.out dv w11 (by
          rw [show (σ2.acts np i q (4, y, z) lf).fin i = _ from (by exact (congrArg (fun s => Sg.fin s i) HA.out).trans (gets_fin _ _ _))]
          exact r11))
        clear r11
        go_wp2_with fail
        go_ret
        exact ⟨rfl, HP9.out⟩
      · have ho' : decide (σ2.opn ≠ 256) = true := by simp [ho]
        have HC : Hid (∀ V, Below X3.heap.size X3 V → Calls Try.prog 10 #[.pointer (some ⟨C, 0, none⟩), .int .i64 (pck y np : Nat)] V fun e w' => e = .returned (.bool true) ∧ (w'.cell? ⟨dv, 1, none⟩ = some (.int .i64 y) ∧ w'.cell? ⟨C, 0, none⟩ = some (.slice (some ⟨pb, po, none⟩) np pcap)) ∧ Rd w L C (.slice (some ⟨pb, po, none⟩) np pcap) D dv (4, y, z) (σ2.spawn (pck y np)) w') := hide (fun V hV => by
          refine ((HR.out.below hV).call (Q := fun e => e = .returned (.bool _)) (fun D hr => rspawn_any hr (HR.out.below hV).lo (by have := hL2.out; omega) (by have := HTk.out; omega) (pck y np))).mono ?_
          rintro e w' ⟨rfl, r9⟩
          exact ⟨by rw [ho'], ⟨r9.v1, r9.c0⟩, r9⟩)
        obtain ⟨z1, z2, z3⟩ := spawn_sz σ2 (pck y np)
        have Z1 := hide z1
        have Z2 := hide z2
        have Z3 := hide z3
        clear z1 z2 z3
        have HK := hide (fun p => spawn_keep H2.out p)
        have hnp0 : 0 < np := by have := Hprog.out; omega
        have HPk : Hid (∀ V, Calls Try.prog 50 #[.int .i64 y, .int .i64 np] V fun e w' => e = .returned (.int .i64 (pck y np : Nat)) ∧ w' = V) := hide (fun V => rpick_any y np V hnp0 (by have := Hnp.out; omega))
        have HA : Hid ((σ2.acts np i q (4, y, z) lf) = ((σ2.spawn (pck y np)).note i (-3) 0).gets i q) := hide (by simp [Sg.acts, ho])
        obtain ⟨σ3, hσ3⟩ : ∃ σ3 : Sg, Hid (σ3 = σ2.spawn (pck y np)) := ⟨_, hide rfl⟩
        have HK3 : Hid (σ3.tk[i]? = some q) := hide (by rw [hσ3.out]; exact HK.out _)
        rw [← hσ3.out] at HC Z1 Z2 Z3 HA
        clear HK hσ3
        generalize pck y np = pk at *
        go_wp2_with (first | (rw [← hX1.out]) | (rw [← hX2.out]) | (rw [← hX3.out]))
        go_region_held3 (fun V => (V.cell? ⟨dv, 1, none⟩ = some (.int .i64 y) ∧ V.cell? ⟨C, 0, none⟩ = some (.slice (some ⟨pb, po, none⟩) np pcap)))
          (first | exact ⟨v1, v3⟩ | exact s8)
          (first | (go_at_call 50; refine (HPk.out _).mono ?_; rintro e w7 ⟨rfl, rfl⟩) | (go_at_call 10; refine (HC.out _ ?_).mono ?_; exact (Below.refl _ X3).drew; rintro e w9 ⟨rfl, s8, r9⟩))
        have HC2 : Hid (∀ V, Below w9.heap.size w9 V → Calls Try.prog 47 #[.pointer (some ⟨C, 0, none⟩), .int .i64 i, .int .i64 (-3), .int .i64 0] V fun e w' => e = .returned (.tuple #[]) ∧ Rd w L C (.slice (some ⟨pb, po, none⟩) np pcap) D dv (4, y, z) (σ3.note i (-3) 0) w') := hide (fun V hV => (r9.below hV).call (fun D hr => rnote_any hr (r9.below hV).lo (by rw [Z3.out]; have := hE2.out; omega) i (-3) 0))
        clear r9 HC HPk
        go_wp2_with fail
        refine (HC2.out _ (by first | exact Below.refl _ _ | exact (Below.refl _ _).drew | exact below_drewN (Below.refl _ _) _)).mono ?_
        rintro e w10 ⟨rfl, r10⟩
        clear HC2
        have HC3 : Hid (Calls Try.prog 48 #[.pointer (some ⟨C, 0, none⟩), .int .i64 i] w10 fun e w' => e = .returned (.tuple #[]) ∧ Rd w L C (.slice (some ⟨pb, po, none⟩) np pcap) D dv (4, y, z) ((σ3.note i (-3) 0).gets i q) w') := hide (r10.call (fun D hr => rready_any hr r10.lo (by simp only [Sg.note]; have := Z2.out; have := hL2.out; omega) (by simp only [Sg.note]; have := Z1.out; have := HTk.out; omega) (by exact HK3.out)))
        clear r10
        go_wp2_with fail
        refine HC3.out.mono ?_
        rintro e w11 ⟨rfl, r11⟩
        have HP9 := hide (HFin.out dv w11 (by
          rw [show (σ2.acts np i q (4, y, z) lf).fin i = _ from (by exact (congrArg (fun s => Sg.fin s i) HA.out).trans (gets_fin _ _ _))]
          exact r11))
        clear r11
        go_wp2_with fail
        go_ret
        exact ⟨rfl, HP9.out⟩
    by_cases k5 : k = 5
    · subst k5
      have HC : Hid (Calls Try.prog 48 #[.pointer (some ⟨C, 0, none⟩), .int .i64 i] X3 fun e w' => e = .returned (.tuple #[]) ∧ Rd w L C (.slice (some ⟨pb, po, none⟩) np pcap) D dv (5, y, z) (σ2.gets i q) w') := hide (HR.out.call (fun D hr => rready_any hr HR.out.lo (by have := hL2.out; omega) (by have := HTk.out; omega) H2.out))
      go_wp2_with (first | (rw [← hX1.out]) | (rw [← hX2.out]) | (rw [← hX3.out]))
      refine HC.out.mono ?_
      rintro e w9 ⟨rfl, r9⟩
      have v9 := r9.v0
      try simp only at v9
      have HC2 : Hid (Calls Try.prog 47 #[.pointer (some ⟨C, 0, none⟩), .int .i64 i, .int .i64 (-1), .int .i64 151] w9 fun e w' => e = .returned (.tuple #[]) ∧ Rd w L C (.slice (some ⟨pb, po, none⟩) np pcap) D dv (5, y, z) ((σ2.gets i q).note i (-1) 151) w') := hide (r9.call (fun D hr => rnote_any hr r9.lo (by simp [Sg.gets]; have := hE2.out; omega) i (-1) 151))
      clear r9 HC
      go_wp2_with fail
      refine HC2.out.mono ?_
      rintro e w10 ⟨rfl, r10⟩
      have HP9 := hide (HFin.out dv w10 (by
        rw [show (σ2.acts np i q (5, y, z) lf).fin i = _ from (by simp only [Sg.acts]; exact note_fin _ _ _ _ _ (gets_fin _ _ _))]
        exact r10))
      clear r10 HC2
      go_wp2_with fail
      go_ret
      exact ⟨rfl, HP9.out⟩
    by_cases k6 : k = 6
    · subst k6
      by_cases hy : 0 < y
      · obtain ⟨m, rfl⟩ := Int.eq_ofNat_of_zero_le (Int.le_of_lt hy)
        have hm0 : m ≠ 0 := by omega
        have hm9 : m ≤ 9223372036854775807 := by unfold I6 at i1; omega
        have HV : Hid ((if (0 : Int) < (m : Int) then ((lf % (m : Int).toNat : Nat) : Int) else 0) = ((lf % m : Nat) : Int)) := hide (by rw [if_pos hy, Int.toNat_natCast])
        have hmd : lf % m < m := Nat.mod_lt _ (by omega)
        have ht : (lf : Int).tmod (m : Int) = ((lf % m : Nat) : Int) := by
          rw [Int.tmod_eq_emod_of_nonneg (by omega)]
          simp
        obtain ⟨KK, hKK⟩ : ∃ KK, Hid (KK = lf % m) := ⟨_, hide rfl⟩
        rw [← hKK.out] at ht hmd HV
        have hrem : ∀ V : World, (Op.intDiv .rem .u64 (lf : Int) (m : Int)).run Try.prog V = .ok (.int .u64 (KK : Int)) V := fun V => by
          simp [Op.intDiv, ht, show m ≠ 0 by omega]
        have hwm : IntKind.u64.wrap (m : Int) = (m : Int) := by simp [IntKind.wrap, IntKind.signed, IntKind.bits]; omega
        have hwK : IntKind.i64.wrap (KK : Int) = (KK : Int) := by simp [IntKind.wrap, IntKind.signed, IntKind.bits]; omega
        have hne : m ≠ 0 := by omega
        have h00 : ((m : Int) == 0) = false := by rw [beq_eq_false_iff_ne]; omega
        have HC : Hid (Calls Try.prog 47 #[.pointer (some ⟨C, 0, none⟩), .int .i64 i, .int .i64 (-4), .int .i64 (KK : Int)] X3 fun e w' => e = .returned (.tuple #[]) ∧ Rd w L C (.slice (some ⟨pb, po, none⟩) np pcap) D dv (6, (m : Int), z) (σ2.note i (-4) (KK : Int)) w') := hide (HR.out.call (fun D hr => rnote_any hr HR.out.lo (by have := hE2.out; omega) i (-4) (KK : Int)))
        go_wp2_with (first | (rw [← hX1.out]) | (rw [← hX2.out]) | (rw [← hX3.out]))
        refine HC.out.mono ?_
        rintro e w10 ⟨rfl, r10⟩
        have HC3 : Hid (Calls Try.prog 48 #[.pointer (some ⟨C, 0, none⟩), .int .i64 i] w10 fun e w' => e = .returned (.tuple #[]) ∧ Rd w L C (.slice (some ⟨pb, po, none⟩) np pcap) D dv (6, (m : Int), z) ((σ2.note i (-4) (KK : Int)).gets i q) w') := hide (r10.call (fun D hr => rready_any hr r10.lo (by simp [Sg.note]; have := hL2.out; omega) (by simp [Sg.note]; have := HTk.out; omega) (by exact H2.out)))
        clear r10
        go_wp2_with fail
        refine HC3.out.mono ?_
        rintro e w11 ⟨rfl, r11⟩
        have HP9 := hide (HFin.out dv w11 (by
          rw [show (σ2.acts np i q (6, (m : Int), z) lf).fin i = _ from (by simp only [Sg.acts, HV.out]; exact gets_fin _ _ _)]
          exact r11))
        clear r11
        go_wp2_with fail
        go_ret
        exact ⟨rfl, HP9.out⟩
      · have HV : Hid ((if (0 : Int) < y then ((lf % y.toNat : Nat) : Int) else 0) = 0) := hide (if_neg hy)
        have hy' : y ≤ 0 := by omega
        clear hy
        have HC : Hid (Calls Try.prog 47 #[.pointer (some ⟨C, 0, none⟩), .int .i64 i, .int .i64 (-4), .int .i64 0] X3 fun e w' => e = .returned (.tuple #[]) ∧ Rd w L C (.slice (some ⟨pb, po, none⟩) np pcap) D dv (6, y, z) (σ2.note i (-4) 0) w') := hide (HR.out.call (fun D hr => rnote_any hr HR.out.lo (by have := hE2.out; omega) i (-4) 0))
        go_wp2_with (first | (rw [← hX1.out]) | (rw [← hX2.out]) | (rw [← hX3.out]))
        refine HC.out.mono ?_
        rintro e w10 ⟨rfl, r10⟩
        have HC3 : Hid (Calls Try.prog 48 #[.pointer (some ⟨C, 0, none⟩), .int .i64 i] w10 fun e w' => e = .returned (.tuple #[]) ∧ Rd w L C (.slice (some ⟨pb, po, none⟩) np pcap) D dv (6, y, z) ((σ2.note i (-4) 0).gets i q) w') := hide (r10.call (fun D hr => rready_any hr r10.lo (by simp [Sg.note]; have := hL2.out; omega) (by simp [Sg.note]; have := HTk.out; omega) (by exact H2.out)))
        clear r10
        go_wp2_with fail
        refine HC3.out.mono ?_
        rintro e w11 ⟨rfl, r11⟩
        have HP9 := hide (HFin.out dv w11 (by
          rw [show (σ2.acts np i q (6, y, z) lf).fin i = _ from (by simp only [Sg.acts, HV.out]; exact gets_fin _ _ _)]
          exact r11))
        clear r11
        go_wp2_with fail
        go_ret
        exact ⟨rfl, HP9.out⟩
    by_cases k7 : k = 7
    · subst k7
      have HC : Hid (Calls Try.prog 47 #[.pointer (some ⟨C, 0, none⟩), .int .i64 i, .int .i64 (-5), .int .i64 152] X3 fun e w' => e = .returned (.tuple #[]) ∧ Rd w L C (.slice (some ⟨pb, po, none⟩) np pcap) D dv (7, y, z) (σ2.note i (-5) 152) w') := hide (HR.out.call (fun D hr => rnote_any hr HR.out.lo (by have := hE2.out; omega) i (-5) 152))
      go_wp2_with (first | (rw [← hX1.out]) | (rw [← hX2.out]) | (rw [← hX3.out]))
      refine HC.out.mono ?_
      rintro e w10 ⟨rfl, r10⟩
      have HC3 : Hid (Calls Try.prog 48 #[.pointer (some ⟨C, 0, none⟩), .int .i64 i] w10 fun e w' => e = .returned (.tuple #[]) ∧ Rd w L C (.slice (some ⟨pb, po, none⟩) np pcap) D dv (7, y, z) ((σ2.note i (-5) 152).gets i q) w') := hide (r10.call (fun D hr => rready_any hr r10.lo (by simp [Sg.note]; have := hL2.out; omega) (by simp [Sg.note]; have := HTk.out; omega) (by exact H2.out)))
      clear r10
      go_wp2_with fail
      refine HC3.out.mono ?_
      rintro e w11 ⟨rfl, r11⟩
      have HP9 := hide (HFin.out dv w11 (by
        rw [show (σ2.acts np i q (7, y, z) lf).fin i = _ from (by simp only [Sg.acts]; exact gets_fin _ _ _)]
        exact r11))
      clear r11
      go_wp2_with fail
      go_ret
      exact ⟨rfl, HP9.out⟩
    have b1 : (k == 1) = false := by simpa using k1
    have b2 : (k == 2) = false := by simpa using k2
    have b3 : (k == 3) = false := by simpa using k3
    have b4 : (k == 4) = false := by simpa using k4
    have b5 : (k == 5) = false := by simpa using k5
    have b6 : (k == 6) = false := by simpa using k6
    have b7 : (k == 7) = false := by simpa using k7
    have e0 : σ2.acts np i q (k, y, z) lf = σ2 := by
      have : ¬ k = 1 ∧ ¬ k = 2 ∧ ¬ k = 3 ∧ ¬ k = 4 ∧ ¬ k = 5 ∧ ¬ k = 6 ∧ ¬ k = 7 := ⟨k1, k2, k3, k4, k5, k6, k7⟩
      simp [Sg.acts, this]
    clear k1 k2 k3 k4 k5 k6 k7
    obtain ⟨g2, cap2, s1, s2, s3, X4, hX4, r4⟩ := HR.out.state H2.out 0
    rw [hT2.out, ← hT.out] at s1
    have hX4' : Hid (X4 = X3.setCell ⟨g2, i * 4 + 2, none⟩ (.int .i64 0)) := hide hX4.out
    have HP9 := hide (HFin.out dv X4 (by
      rw [show (σ2.acts np i q (k, y, z) lf).fin i = _ from (by exact (congrArg (fun s => Sg.fin s i) e0).trans (fin_put H2.out hqs.out))]
      exact r4))
    clear r4 hX4
    go_wp2_with (first | (rw [← hX1.out]) | (rw [← hX2.out]) | (rw [← hX3.out]) | (rw [← hX4'.out]))
    go_ret
    exact ⟨rfl, HP9.out⟩
  · have hd0 := hno (show dn ≤ at' by omega)
    clear hyes hno
    subst hd0
    have hlti : decide ((at' : Int) < (dn : Int)) = false := by simpa using hlt
    go_wp2_with fail
    rw [← hB.out, HDV.out]
    go_quiet (fail)
    obtain ⟨Y, hY⟩ : ∃ Y, Hid (Y = B.drewN nq) := ⟨_, hide rfl⟩
    have hbY : Below w2.heap.size w2 Y := by rw [hY.out]; exact below_drewN HBB.out _
    have hdY : Y.heap[dv]? = some (.cells #[.int .i64 0, .int .i64 0, .int .i64 0] (67 : TypeId) (0, 0)) := by rw [hY.out]; exact hBd
    rw [← hY.out]
    obtain ⟨g, cap, c1, d1, f1, X1, hX1, cX1, d3, f3, X2, hX2, cX2, d2, f2, X3, hX3, hr⟩ := HW.out Y hbY hdY
    clear hbY hdY HS z0 t0 t1 aC ap hBd HBB hB hlti hlt hdn1 hdn2 hdv HDV hpn' HG HW hY
    rw [hT1.out, ← hT.out] at c1 cX1 cX2
    rw [← hq'.out, ← hσ2.out] at hr
    try simp only at d1 d3 d2
    have HR := hide hr
    have v0 : X3.cell? ⟨dv, 0, none⟩ = some (.int .i64 0) := hr.v0
    clear hr
    have e0 : σ2.acts np i q (0, 0, 0) lf = σ2 := rfl
    obtain ⟨g2, cap2, s1, s2, s3, X4, hX4, r4⟩ := HR.out.state H2.out 0
    rw [hT2.out, ← hT.out] at s1
    have hX4' : Hid (X4 = X3.setCell ⟨g2, i * 4 + 2, none⟩ (.int .i64 0)) := hide hX4.out
    have HP9 := hide (HFin.out dv X4 (by
      rw [show (σ2.acts np i q (0, 0, 0) lf).fin i = _ from (by exact (congrArg (fun s => Sg.fin s i) e0).trans (fin_put H2.out hqs.out))]
      exact r4))
    clear r4 hX4
    go_wp2_with (first | (rw [← hX1.out]) | (rw [← hX2.out]) | (rw [← hX3.out]) | (rw [← hX4'.out]))
    go_ret
    exact ⟨rfl, HP9.out⟩
end

end Go.Proofs.Ytennciddjkijaaa

/-
  The law's world: a task's turn, walked.
-/
import Derived.Test.YtennciddjkijaaaCsq
namespace Go.Proofs.Ytennciddjkijaaa
open Go.RowKit QI
set_option maxRecDepth 100000
set_option linter.unusedSimpArgs false

theorem dok0 : (Try.prog.info? (67 : TypeId)).map (·.size) = some 3 := by kernel_rfl

section
variable {w : World} {L B : Nat} {σ : Sg} {F D Pb : Nat → Prop} {R : Nat} {bs : List Nat} {left : Nat} {pa : Option Addr} {np pcap : Nat} {ps : List (List Dop)}

/-- A turn's first part: its variables, the event, what it is to do. -/
structure Pre (w X : World) (L B : Nat) (pv : Value) (R : Nat) (bs : List Nat) (σ : Sg) (i left : Nat) (F D : Nat → Prop) (F' D' : Nat → Prop) (h1 h2 h3 h4 dv b prog at' : Nat) (d : Dop) : Prop where
  wd : Wd X L B pv R bs σ (some i) left F' D'
  wx : Wx w F D bs X F' D' bs
  bx : Bx F' X h1 h2 h3 h4 B b prog at'
  fd : F' dv
  dv : X.heap[dv]? = some (.cells #[.int .i64 d.1, .int .i64 d.2.1, .int .i64 d.2.2] (67 : TypeId) (0, 0))

set_option maxHeartbeats 4000000 in
theorem wturn {i b prog at' : Nat} {why : Int} (h : Wd w L B (.slice pa np pcap) R bs σ (some i) left F D) (hP : Pg w Pb D pa np pcap ps) (hL : L ≤ w.heap.size) (hb : bs[i]? = some b) (hp : σ.tk[i]? = some ⟨prog, at' + 1, 2, 0⟩) (hprog : prog < np) (hnp : np ≤ 1000) (hat : at' ≤ 1000000) (hev : σ.ev.length ≤ 999990) (htk : σ.tk.length ≤ 999990) {d : Dop} (hd : d = (ps.getD prog []).getD at' (0, 0, 0)) :
    Calls Try.prog 43 (targs B b prog at' why) w fun e w' => e = .returned (.tuple #[]) ∧ TnW w L B (.slice pa np pcap) R bs ((σ.note i at' why).acts np i ⟨prog, at' + 1, 2, 0⟩ d left) i F D w' := by
  -- the four variables
  obtain ⟨W1, hW1⟩ : ∃ W1, Hid (W1 = w.alloc (.cells #[.pointer (some ⟨B, 0, none⟩)] (25 : TypeId))) := ⟨_, hide rfl⟩
  have b1 : Below w.heap.size w W1 := by rw [hW1.out]; exact (Below.refl _ w).alloc (Nat.le_refl _) _
  have s1 : W1.heap.size = w.heap.size + 1 := by rw [hW1.out]; simp
  obtain ⟨W2, hW2⟩ : ∃ W2, Hid (W2 = W1.alloc (.cells #[.pointer (some ⟨b, 0, none⟩)] (44 : TypeId))) := ⟨_, hide rfl⟩
  have b2 : Below W1.heap.size W1 W2 := by rw [hW2.out]; exact (Below.refl _ W1).alloc (Nat.le_refl _) _
  have s2 : W2.heap.size = W1.heap.size + 1 := by rw [hW2.out]; simp
  obtain ⟨W3, hW3⟩ : ∃ W3, Hid (W3 = W2.alloc (.cells #[.int .i64 prog] 3)) := ⟨_, hide rfl⟩
  have b3 : Below W2.heap.size W2 W3 := by rw [hW3.out]; exact (Below.refl _ W2).alloc (Nat.le_refl _) _
  have s3 : W3.heap.size = W2.heap.size + 1 := by rw [hW3.out]; simp
  obtain ⟨W4, hW4⟩ : ∃ W4, Hid (W4 = W3.alloc (.cells #[.int .i64 at'] 3)) := ⟨_, hide rfl⟩
  have b4 : Below W3.heap.size W3 W4 := by rw [hW4.out]; exact (Below.refl _ W3).alloc (Nat.le_refl _) _
  have s4 : W4.heap.size = W3.heap.size + 1 := by rw [hW4.out]; simp
  have bw4 : Below w.heap.size w W4 := b1.trans ((b2.trans ((b3.trans (b4.mono (by omega))).mono (by omega))).mono (by omega))
  have e1 : W4.heap[w.heap.size]? = some (.cells #[.pointer (some ⟨B, 0, none⟩)] (25 : TypeId) (0, 0)) := by
    rw [b4.block _ (by omega), b3.block _ (by omega), b2.block _ (by omega), hW1.out]; exact heap_alloc_new w _
  have e2 : W4.heap[W1.heap.size]? = some (.cells #[.pointer (some ⟨b, 0, none⟩)] (44 : TypeId) (0, 0)) := by
    rw [b4.block _ (by omega), b3.block _ (by omega), hW2.out]; exact heap_alloc_new W1 _
  have e3 : W4.heap[W2.heap.size]? = some (.cells #[.int .i64 prog] 3 (0, 0)) := by
    rw [b4.block _ (by omega), hW3.out]; exact heap_alloc_new W2 _
  have e4 : W4.heap[W3.heap.size]? = some (.cells #[.int .i64 at'] 3 (0, 0)) := by
    rw [hW4.out]; exact heap_alloc_new W3 _
  obtain ⟨h1, hh1⟩ : ∃ h1, Hid (h1 = w.heap.size) := ⟨_, hide rfl⟩
  obtain ⟨h2, hh2⟩ : ∃ h2, Hid (h2 = W1.heap.size) := ⟨_, hide rfl⟩
  obtain ⟨h3, hh3⟩ : ∃ h3, Hid (h3 = W2.heap.size) := ⟨_, hide rfl⟩
  obtain ⟨h4, hh4⟩ : ∃ h4, Hid (h4 = W3.heap.size) := ⟨_, hide rfl⟩
  rw [← hh1.out] at e1
  rw [← hh2.out] at e2
  rw [← hh3.out] at e3
  rw [← hh4.out] at e4
  obtain ⟨wd4, wx4⟩ := h.box (w' := W4) (N := fun k => k = h1 ∨ k = h2 ∨ k = h3 ∨ k = h4) bw4 hL (fun k hk => by have := hh1.out; have := hh2.out; have := hh3.out; have := hh4.out; omega)
  have bx4 : Bx (fun k => F k ∨ (k = h1 ∨ k = h2 ∨ k = h3 ∨ k = h4)) W4 h1 h2 h3 h4 B b prog at' := ⟨by simp, by simp, by simp, by simp, e1, e2, e3, e4⟩
  have hL4 : L ≤ W4.heap.size := by omega
  have CI := wid wd4 hb
  have CN := note_any wd4 hL4 (by omega) i at' why
  have pg4 := hP.step wx4
  have c1 : W4.cell? ⟨h1, 0, none⟩ = some (.pointer (some ⟨B, 0, none⟩)) := cell_of_row W4 _ 0 _ _ _ e1
  have c2 : W4.cell? ⟨h2, 0, none⟩ = some (.pointer (some ⟨b, 0, none⟩)) := cell_of_row W4 _ 0 _ _ _ e2
  have c4 : W4.cell? ⟨h4, 0, none⟩ = some (.int .i64 at') := cell_of_row W4 _ 0 _ _ _ e4
  -- behind the event: what is to be done
  have HQ : Hid (∀ w5 D5, Wd w5 L B (.slice pa np pcap) R bs (σ.note i at' why) (some i) left (fun k => F k ∨ (k = h1 ∨ k = h2 ∨ k = h3 ∨ k = h4)) D5 → Wx W4 (fun k => F k ∨ (k = h1 ∨ k = h2 ∨ k = h3 ∨ k = h4)) (fun k => D k ∨ (k = h1 ∨ k = h2 ∨ k = h3 ∨ k = h4)) bs w5 (fun k => F k ∨ (k = h1 ∨ k = h2 ∨ k = h3 ∨ k = h4)) D5 bs →
      ∃ A : World, Hid (A = w5.alloc (.cells #[.int .i64 0, .int .i64 0, .int .i64 0] (67 : TypeId))) ∧ Below w5.heap.size w5 A ∧
        (∃ pb po da dn dc, pa = some ⟨pb, po, none⟩ ∧ dn ≤ dc ∧ dn ≤ 9223372036854775807 ∧ Hid (∀ V, Below w5.heap.size w5 V → V.cell? ⟨h1, 0, none⟩ = some (.pointer (some ⟨B, 0, none⟩)) ∧ V.cell? ⟨h3, 0, none⟩ = some (.int .i64 prog) ∧ V.cell? ⟨h4, 0, none⟩ = some (.int .i64 at') ∧ V.cell? ⟨B, 1, none⟩ = some (.slice pa np pcap) ∧ V.cell? ⟨pb, po + prog, none⟩ = some (.slice da dn dc)) ∧
          (dn ≤ at' → d = (0, 0, 0)) ∧ (at' < dn → ∃ db dof, da = some ⟨db, dof, none⟩ ∧ I6 d.1 ∧ I6 d.2.1 ∧ I6 d.2.2 ∧ Hid (∀ V, Below w5.heap.size w5 V → V.cell? ⟨db, dof + at' * 3, none⟩ = some (.int .i64 d.1) ∧ V.cell? ⟨db, dof + at' * 3 + 1, none⟩ = some (.int .i64 d.2.1) ∧ V.cell? ⟨db, dof + at' * 3 + 2, none⟩ = some (.int .i64 d.2.2)))) ∧
        A.heap[w5.heap.size]? = some (.cells #[.int .i64 0, .int .i64 0, .int .i64 0] (67 : TypeId) (0, 0)) ∧
        Hid (∀ X, Below w5.heap.size w5 X → X.heap[w5.heap.size]? = some (.cells #[.int .i64 d.1, .int .i64 d.2.1, .int .i64 d.2.2] (67 : TypeId) (0, 0)) → ∃ F' D', Pre w X L B (.slice pa np pcap) R bs (σ.note i at' why) i left F D F' D' h1 h2 h3 h4 w5.heap.size b prog at' d)) := hide (by
    intro w5 D5 wd5 wx5
    have hag := wx5.kp
    have hz5 := wx5.tb.size
    obtain ⟨A, hA⟩ : ∃ A, Hid (A = w5.alloc (.cells #[.int .i64 0, .int .i64 0, .int .i64 0] (67 : TypeId))) := ⟨_, hide rfl⟩
    have bA : Below w5.heap.size w5 A := by rw [hA.out]; exact (Below.refl _ w5).alloc (Nat.le_refl _) _
    have hAd : A.heap[w5.heap.size]? = some (.cells #[.int .i64 0, .int .i64 0, .int .i64 0] (67 : TypeId) (0, 0)) := by rw [hA.out]; exact heap_alloc_new w5 _
    have pg5 := pg4.step wx5
    have f1 : w5.heap[h1]? = _ := (hag h1 (by simp)).trans e1
    have f2 : w5.heap[h2]? = _ := (hag h2 (by simp)).trans e2
    have f3 : w5.heap[h3]? = _ := (hag h3 (by simp)).trans e3
    have f4 : w5.heap[h4]? = _ := (hag h4 (by simp)).trans e4
    refine ⟨A, hA, bA, ?_, hAd, hide (fun X bX hX => ?_)⟩
    · obtain ⟨pb, po, hPb, hpa, hc⟩ := pg5.pgs.lies (by omega)
      obtain ⟨da, dn, dc, k1, k2⟩ := hc prog hprog
      refine ⟨pb, po, da, dn, dc, hpa, k2.le, by have := k2.reach; have := k2.le; omega, hide (fun V hV => ⟨cell_of_row V _ 0 _ _ _ ((hV.block _ (heap_lt f1)).trans f1), cell_of_row V _ 0 _ _ _ ((hV.block _ (heap_lt f3)).trans f3), cell_of_row V _ 0 _ _ _ ((hV.block _ (heap_lt f4)).trans f4), (wd5.below hV).c1, (hV.cell (cell_lt k1)).trans k1⟩), fun hle => ?_, fun hlt => ?_⟩
      · rw [hd]
        have := k2.len
        simp [List.getD, List.getElem?_eq_none (show ((ps[prog]?).getD []).length ≤ at' by simpa [List.getD] using (by omega : (ps.getD prog []).length ≤ at'))]
      · obtain ⟨db, dof, _, hda, hcc⟩ := k2.lies (by omega)
        obtain ⟨j1, j2, j3⟩ := hcc at' hlt
        rw [← hd] at j1 j2 j3
        have hmem : d ∈ ps.getD prog [] := by
          rw [hd]
          have hl2 : at' < (ps.getD prog []).length := by rw [k2.len]; exact hlt
          generalize ps.getD prog [] = l at hl2
          have : l.getD at' (0, 0, 0) = l[at'] := by simp [List.getD, List.getElem?_eq_getElem hl2]
          rw [this]
          exact List.getElem_mem hl2
        obtain ⟨i1, i2, i3⟩ := k2.i6 d hmem
        exact ⟨db, dof, hda, i1, i2, i3, hide (fun V hV => ⟨(hV.cell (cell_lt j1)).trans j1, (hV.cell (cell_lt j2)).trans j2, (hV.cell (cell_lt j3)).trans j3⟩)⟩
    · obtain ⟨wd6, wx6⟩ := wd5.box (w' := X) (N := fun k => k = w5.heap.size) bX (by omega) (fun k hk => by subst hk; exact ⟨Nat.le_refl _, heap_lt hX⟩)
      exact ⟨_, _, wd6, (wx4.trans wx5).trans wx6, ⟨by simp, by simp, by simp, by simp, (bX.block _ (heap_lt f1)).trans f1, (bX.block _ (heap_lt f2)).trans f2, (bX.block _ (heap_lt f3)).trans f3, (bX.block _ (heap_lt f4)).trans f4⟩, by simp, hX⟩)
  have HH1 : Hid (w.heap.size = h1) := hide hh1.out.symm
  have HH2 : Hid (W1.heap.size = h2) := hide hh2.out.symm
  have HH3 : Hid (W2.heap.size = h3) := hide hh3.out.symm
  have HH4 : Hid (W3.heap.size = h4) := hide hh4.out.symm
  have HCN := hide CN
  have hPg4 := hide pg4
  clear CN pg4 e1 e2 e3 e4 s1 s2 s3 s4 b1 b2 b3 b4 bw4 wd4 wx4 bx4
  obtain ⟨P, hPP⟩ : ∃ P : World → Prop, Hid (P = TnW w L B (.slice pa np pcap) R bs ((σ.note i at' why).acts np i ⟨prog, at' + 1, 2, 0⟩ d left) i F D) := ⟨_, hide rfl⟩
  rw [← hPP.out]
  have HLw := hide hL
  have HL4 := hide hL4
  have Hb := hide hb
  have Hp := hide hp
  have Hat := hide hat
  have Hev := hide hev
  have Htk := hide htk
  have Hd := hide hd
  have Hnp := hide hnp
  have hpn : Hid (prog < np) := hide hprog
  clear h hP hL hL4 hb hp hat hev htk hd hnp hprog
  unfold targs
  go_enter Try.func43, Try.ntmps43
  go_wp2_with (first | (rw [← hW1.out, HH1.out]) | (rw [← hW2.out, HH2.out]) | (rw [← hW3.out, HH3.out]) | (rw [← hW4.out, HH4.out]))
  refine CI.mono ?_
  rintro e w5 ⟨rfl, hw5⟩
  subst w5
  go_wp2_with fail
  refine HCN.out.mono ?_
  rintro e w5 ⟨rfl, D5, wd5, wx5⟩
  obtain ⟨A, hA, bA, ⟨pb, po, da, dn, dc, hpa, hdn1, hdn2, HS, hno, hyes⟩, hAd, HX⟩ := HQ.out w5 D5 wd5 wx5
  obtain ⟨a1, a3, a4, aB, ap⟩ := HS.out A bA
  obtain ⟨dv, hdv⟩ : ∃ dv, Hid (dv = w5.heap.size) := ⟨_, hide rfl⟩
  have HDV : Hid (w5.heap.size = dv) := hide hdv.out.symm
  rw [← hdv.out] at hAd HX
  have HBA := hide bA
  clear wd5 wx5 HQ HCN CI c1 c2 c4 hW1 hW2 hW3 hW4 bA
  have z0 : A.cell? ⟨dv, 0, none⟩ = some (.int .i64 0) := cell_of_row A _ 0 _ _ _ hAd
  have hpn' := hpn.out
  rw [hpa] at aB
  by_cases hlt : at' < dn
  · obtain ⟨db, dof, hda, i0, i1, i2, HY⟩ := hyes hlt
    subst hda
    obtain ⟨y0, y1, y2⟩ := HY.out A HBA.out
    clear hno hyes
    have hlti : decide ((at' : Int) < (dn : Int)) = true := by simpa using hlt
    go_wp2_with fail
    rw [← hA.out, HDV.out]
    go_quiet (fail)
    go_wp2_with fail
    have z1 : A.cell? ⟨dv, 1, none⟩ = some (.int .i64 0) := cell_of_row A _ 1 _ _ _ hAd
    have z2 : A.cell? ⟨dv, 2, none⟩ = some (.int .i64 0) := cell_of_row A _ 2 _ _ _ hAd
    have fz0 := frozen_of_row A dv 0 _ _ hAd
    have fz1 := frozen_of_row A dv 1 _ _ hAd
    have fz2 := frozen_of_row A dv 2 _ _ hAd
    obtain ⟨X, hX⟩ : ∃ X : Nat → World, Hid (X = fun m => (((A.drewN m).setCell ⟨dv, 0, none⟩ (.int .i64 d.1)).setCell ⟨dv, 1, none⟩ (.int .i64 d.2.1)).setCell ⟨dv, 2, none⟩ (.int .i64 d.2.2)) := ⟨_, hide rfl⟩
    have bX : Hid (∀ m, Below w5.heap.size w5 (X m)) := hide (fun m => by
      rw [hX.out]
      exact (((below_drewN HBA.out m).setCell (by simp [hdv.out]) _).setCell (by simp [hdv.out]) _).setCell (by simp [hdv.out]) _)
    have KS : Hid (∀ m, (X m).cell? ⟨h1, 0, none⟩ = some (.pointer (some ⟨B, 0, none⟩)) ∧ (X m).cell? ⟨h3, 0, none⟩ = some (.int .i64 prog) ∧ (X m).cell? ⟨h4, 0, none⟩ = some (.int .i64 at') ∧ (X m).cell? ⟨B, 1, none⟩ = some (.slice (some ⟨pb, po, none⟩) np pcap) ∧ (X m).cell? ⟨pb, po + prog, none⟩ = some (.slice (some ⟨db, dof, none⟩) dn dc) ∧ (X m).cell? ⟨db, dof + at' * 3, none⟩ = some (.int .i64 d.1) ∧ (X m).cell? ⟨db, dof + at' * 3 + 1, none⟩ = some (.int .i64 d.2.1) ∧ (X m).cell? ⟨db, dof + at' * 3 + 2, none⟩ = some (.int .i64 d.2.2)) := hide (fun m => by
      obtain ⟨k1, k2, k3, k4, k5⟩ := HS.out _ (bX.out m)
      obtain ⟨k6, k7, k8⟩ := HY.out _ (bX.out m)
      rw [hpa] at k4
      exact ⟨k1, k2, k3, k4, k5, k6, k7, k8⟩)
    have hXd : Hid (∀ m, (X m).heap[dv]? = some (.cells #[.int .i64 d.1, .int .i64 d.2.1, .int .i64 d.2.2] (67 : TypeId) (0, 0))) := hide (fun m => by
      rw [hX.out]
      have q0 : (A.drewN m).heap[dv]? = _ := hAd
      have q1 := heap_setCell_same (A.drewN m) dv 0 _ _ (.int .i64 d.1) q0
      have q2 := heap_setCell_same _ dv 1 _ _ (.int .i64 d.2.1) q1
      have q3 := heap_setCell_same _ dv 2 _ _ (.int .i64 d.2.2) q2
      exact q3)
    rw [hX.out] at KS
    have KS' : Hid (∀ m, (((((A.drewN m).setCell ⟨dv, 0, none⟩ (.int .i64 d.1)).setCell ⟨dv, 1, none⟩ (.int .i64 d.2.1)).setCell ⟨dv, 2, none⟩ (.int .i64 d.2.2))).cell? ⟨h1, 0, none⟩ = some (.pointer (some ⟨B, 0, none⟩)) ∧ _) := KS
    go_region_held3 (fun V => V.cell? ⟨h1, 0, none⟩ = some (.pointer (some ⟨B, 0, none⟩)) ∧ V.cell? ⟨h3, 0, none⟩ = some (.int .i64 prog) ∧ V.cell? ⟨h4, 0, none⟩ = some (.int .i64 at') ∧ V.cell? ⟨B, 1, none⟩ = some (.slice (some ⟨pb, po, none⟩) np pcap) ∧ V.cell? ⟨pb, po + prog, none⟩ = some (.slice (some ⟨db, dof, none⟩) dn dc) ∧ V.cell? ⟨db, dof + at' * 3, none⟩ = some (.int .i64 d.1) ∧ V.cell? ⟨db, dof + at' * 3 + 1, none⟩ = some (.int .i64 d.2.1) ∧ V.cell? ⟨db, dof + at' * 3 + 2, none⟩ = some (.int .i64 d.2.2))
      (first | exact KS'.out _ | exact ⟨a1, a3, a4, aB, ap, y0, y1, y2⟩)
      (fail)

    have hXe : X (nq + 1) = (((A.drewN (nq + 1)).setCell ⟨dv, 0, none⟩ (.int .i64 d.1)).setCell ⟨dv, 1, none⟩ (.int .i64 d.2.1)).setCell ⟨dv, 2, none⟩ (.int .i64 d.2.2) := by rw [hX.out]
    rw [← hXe]
    obtain ⟨Y, hY⟩ : ∃ Y, Hid (Y = X (nq + 1)) := ⟨_, hide rfl⟩
    have hbY := bX.out (nq + 1)
    have hdY := hXd.out (nq + 1)
    rw [← hY.out] at hbY hdY ⊢
    obtain ⟨F', D', pre⟩ : ∃ F' D', Pre w Y L B (.slice pa np pcap) R bs (σ.note i at' why) i left F D F' D' h1 h2 h3 h4 dv b prog at' d := HX.out Y (by rw [hdv.out]; exact hbY) hdY
    clear hXe hbY hdY hXd KS KS' bX hX HX HS HY y0 y1 y2 z0 z1 z2 fz0 fz1 fz2 a1 a3 a4 aB ap hAd HBA hA hlti hlt hdn1 hdn2 hdv HDV hpn' hpa
    rename_i hHeld
    clear hHeld
    have HP := hide hPg4.out
    obtain ⟨k, n, y⟩ := d
    try simp only at pre
    have p1 : Y.cell? ⟨h1, 0, none⟩ = some (.pointer (some ⟨B, 0, none⟩)) := cell_of_row Y _ 0 _ _ _ pre.bx.e1
    have p2 : Y.cell? ⟨h2, 0, none⟩ = some (.pointer (some ⟨b, 0, none⟩)) := cell_of_row Y _ 0 _ _ _ pre.bx.e2
    have v0 : Y.cell? ⟨dv, 0, none⟩ = some (.int .i64 k) := cell_of_row Y _ 0 _ _ _ pre.dv
    have v1 : Y.cell? ⟨dv, 1, none⟩ = some (.int .i64 n) := cell_of_row Y _ 1 _ _ _ pre.dv
    have v2 : Y.cell? ⟨dv, 2, none⟩ = some (.int .i64 y) := cell_of_row Y _ 2 _ _ _ pre.dv
    have hLY : Hid (L ≤ Y.heap.size) := hide (Nat.le_trans HLw.out pre.wx.tb.size)
    have hpY : Hid ((σ.note i at' why).tk[i]? = some ⟨prog, at' + 1, 2, 0⟩) := Hp
    have HPre := hide pre
    clear pre
    try simp only at i0 i1 i2
    by_cases k1 : k = 1
    · subst k1
      have HY : Hid (Calls Try.prog 30 #[.pointer (some ⟨b, 0, none⟩), .func (.func 65) #[] #[.pointer (some ⟨h1, 0, none⟩), .pointer (some ⟨h2, 0, none⟩), .pointer (some ⟨h3, 0, none⟩), .pointer (some ⟨h4, 0, none⟩)]] Y fun e w' => e = .returned (.int .i64 0) ∧ P w') := hide (by
        refine (wyield HPre.out.wd hLY.out Hb.out hpY.out HPre.out.bx Hat.out).mono ?_
        rintro e w' ⟨rfl, D9, wd9, wx9⟩
        refine ⟨rfl, ?_⟩
        rw [hPP.out]
        exact TnW.of (HPre.out.wx.trans wx9) wd9)
      clear v1 v2 HPre p1
      go_wp2_with fail
      refine HY.out.mono ?_
      rintro e w' ⟨rfl, hP⟩
      go_wp2_with fail
      go_end0
      exact ⟨rfl, hP⟩
    by_cases k2 : k = 2
    · subst k2
      have HY : Hid (Calls Try.prog 27 #[.pointer (some ⟨b, 0, none⟩), .func (.func 66) #[] #[.pointer (some ⟨h1, 0, none⟩), .pointer (some ⟨h2, 0, none⟩), .pointer (some ⟨h3, 0, none⟩), .pointer (some ⟨h4, 0, none⟩)]] Y fun e w' => e = .returned (.int .i64 0) ∧ P w') := hide (by
        refine (wpark HPre.out.wd hLY.out Hb.out hpY.out HPre.out.bx Hat.out).mono ?_
        rintro e w' ⟨rfl, D9, wd9, wx9⟩
        refine ⟨rfl, ?_⟩
        rw [hPP.out]
        exact TnW.of (HPre.out.wx.trans wx9) wd9)
      clear v1 v2 HPre p1
      go_wp2_with fail
      refine HY.out.mono ?_
      rintro e w' ⟨rfl, hP⟩
      go_wp2_with fail
      go_end0
      exact ⟨rfl, hP⟩
    by_cases k3 : k = 3
    · subst k3
      have HM : Hid (Mid w bs F D ⟨L, B, .slice pa np pcap, R, i, h1, h2, h3, h4, dv, b, prog, at', (3, n, y)⟩ (σ.note i at' why) left Y) := hide ⟨⟨F', D', bs, HPre.out.wd, HPre.out.wx, HPre.out.bx, HPre.out.fd, HPre.out.dv, Hb.out⟩, hpY.out, hLY.out, (by simp [Sg.note]; have := Hev.out; omega), (by simp [Sg.note]; have := Htk.out; omega), Hat.out⟩
      obtain ⟨cv, hcv⟩ : ∃ cv : Int, Hid (cv = if (σ.note i at' why).waits n then 0 else 152) := ⟨_, hide rfl⟩
      obtain ⟨ta, tc, ct, hta⟩ := HM.out.tasks
      have HTa := hide hta
      obtain ⟨T, hT⟩ : ∃ T, Hid (T = (σ.note i at' why).tk.length) := ⟨_, hide rfl⟩
      rw [← hT.out] at ct
      have S0 : (Y.cell? ⟨h1, 0, none⟩ = some (.pointer (some ⟨B, 0, none⟩)) ∧ Y.cell? ⟨h2, 0, none⟩ = some (.pointer (some ⟨b, 0, none⟩)) ∧ Y.cell? ⟨dv, 1, none⟩ = some (.int .i64 n) ∧ Y.cell? ⟨dv, 2, none⟩ = some (.int .i64 y) ∧ Y.cell? ⟨B, 0, none⟩ = some (.pointer (some ⟨R, 0, none⟩)) ∧ Y.cell? ⟨B, 1, none⟩ = some (.slice pa np pcap)) := HM.out.cs
      have hTl : Hid (T ≤ 1000000) := hide (by rw [hT.out]; simp [Sg.note]; have := Htk.out; omega)
      clear hta v1 v2 p1 p2
      obtain ⟨p1, p2, v1, v2, cB0, cB1⟩ := S0
      by_cases hr : 0 ≤ n ∧ n < (T : Int)
      · obtain ⟨m, rfl⟩ := Int.eq_ofNat_of_zero_le hr.1
        have hmT : m < T := by omega
        obtain ⟨g, b', hg, cg, hW⟩ := HTa.out m (by rw [← hT.out]; exact hmT)
        try simp only at cg
        subst hg
        have HW : Hid (∀ V, Below Y.heap.size Y V → Calls Try.prog 32 #[.pointer (some ⟨b', 0, none⟩), .int .i64 y] V fun e w' => e = .returned (.int .i64 cv) ∧ (w'.cell? ⟨h1, 0, none⟩ = some (.pointer (some ⟨B, 0, none⟩)) ∧ w'.cell? ⟨dv, 1, none⟩ = some (.int .i64 (m : Int)) ∧ w'.cell? ⟨dv, 2, none⟩ = some (.int .i64 y) ∧ w'.cell? ⟨B, 2, none⟩ = some (.slice (some ⟨g, 0, none⟩) T tc) ∧ w'.cell? ⟨g, m, none⟩ = some (.pointer (some ⟨b', 0, none⟩))) ∧ Hid (∀ V', Below w'.heap.size w' V' → Calls Try.prog 64 #[.pointer (some ⟨B, 0, none⟩), .int .i64 i, .int .i64 (-2), .int .i64 cv] V' fun e w'' => e = .returned (.tuple #[]) ∧ (w''.cell? ⟨h1, 0, none⟩ = some (.pointer (some ⟨B, 0, none⟩)) ∧ w''.cell? ⟨h2, 0, none⟩ = some (.pointer (some ⟨b, 0, none⟩)) ∧ w''.cell? ⟨dv, 1, none⟩ = some (.int .i64 (m : Int)) ∧ w''.cell? ⟨dv, 2, none⟩ = some (.int .i64 y) ∧ w''.cell? ⟨B, 0, none⟩ = some (.pointer (some ⟨R, 0, none⟩)) ∧ w''.cell? ⟨B, 1, none⟩ = some (.slice pa np pcap)) ∧ Hid (∀ V'', Below w''.heap.size w'' V'' → Calls Try.prog 30 #[.pointer (some ⟨b, 0, none⟩), .func (.func 65) #[] #[.pointer (some ⟨h1, 0, none⟩), .pointer (some ⟨h2, 0, none⟩), .pointer (some ⟨h3, 0, none⟩), .pointer (some ⟨h4, 0, none⟩)]] V'' fun e w3 => e = .returned (.int .i64 0) ∧ P w3))) := hide (fun V hV => by
          rw [hcv.out, hT.out]
          refine (hW V hV y).mono ?_
          rintro e w' ⟨rfl, m8, j1, j2⟩
          obtain ⟨c1, c2, c3, c4, c5, c6⟩ := m8.cs
          exact ⟨rfl, ⟨c1, c3, c4, j1, j2⟩, hide (fun V' hV' => by
            refine ((m8.below hV').note (-2) _ (by have h1 : ((σ.note i at' why).wake m y).ev = (σ.note i at' why).ev := (by unfold Sg.wake; split <;> rfl); rw [h1]; simp [Sg.note]; have := Hev.out; omega)).mono ?_
            rintro e w'' ⟨rfl, m9⟩
            exact ⟨rfl, m9.cs, hide (fun V'' hV'' => by
              refine (m9.below hV'').yield.mono ?_
              rintro e w3 ⟨rfl, ht⟩
              refine ⟨rfl, ?_⟩
              rw [hPP.out]
              exact ht)⟩)⟩)
        have q1 : decide ((m : Int) < (T : Int)) = true := by simpa using hmT
        have hT9 : (T : Int) ≤ 9223372036854775807 := by have := hTl.out; omega
        clear HPre HM HTa hW hr
        go_wp2_with fail
        go_quiet (fail)
        go_wp2_with fail
        go_region_held3 (fun V => V.cell? ⟨h1, 0, none⟩ = some (.pointer (some ⟨B, 0, none⟩)) ∧ V.cell? ⟨dv, 1, none⟩ = some (.int .i64 (m : Int)) ∧ V.cell? ⟨dv, 2, none⟩ = some (.int .i64 y) ∧ V.cell? ⟨B, 2, none⟩ = some (.slice (some ⟨g, 0, none⟩) T tc) ∧ V.cell? ⟨g, m, none⟩ = some (.pointer (some ⟨b', 0, none⟩)))
          (first | exact ⟨p1, v1, v2, ct, cg⟩ | exact s8)
          (first | (go_at_call 32; refine (HW.out _ ?_).mono ?_; (first | exact below_drewN (Below.refl _ Y) _ | exact (below_drewN (Below.refl _ Y) _).drew | exact (Below.refl _ Y).drew); rintro e w8 ⟨rfl, s8, HNY⟩))
        obtain ⟨k1, k2, k3, k4, k5⟩ := s8
        clear HW
        go_wp2_with fail
        refine (HNY.out _ (Below.refl _ _)).mono ?_
        rintro e w9 ⟨rfl, ⟨s1, s2, s3, s4, s5, s6⟩, HYl⟩
        clear HNY
        go_wp2_with fail
        refine (HYl.out _ (Below.refl _ _)).mono ?_
        rintro e w' ⟨rfl, hP⟩
        go_wp2_with fail
        go_end0
        exact ⟨rfl, hP⟩
      · have hwf : (σ.note i at' why).waits n = false := by
          simp only [Sg.waits, Bool.and_eq_false_iff, decide_eq_false_iff_not]
          by_cases h0 : 0 ≤ n
          · right
            have h1 : T ≤ n.toNat := by omega
            rw [hT.out] at h1
            simp [List.getD, List.getElem?_eq_none h1, pt0]
          · left; exact h0
        have HNY : Hid (∀ V', Below Y.heap.size Y V' → Calls Try.prog 64 #[.pointer (some ⟨B, 0, none⟩), .int .i64 i, .int .i64 (-2), .int .i64 152] V' fun e w'' => e = .returned (.tuple #[]) ∧ (w''.cell? ⟨h1, 0, none⟩ = some (.pointer (some ⟨B, 0, none⟩)) ∧ w''.cell? ⟨h2, 0, none⟩ = some (.pointer (some ⟨b, 0, none⟩)) ∧ w''.cell? ⟨dv, 1, none⟩ = some (.int .i64 n) ∧ w''.cell? ⟨dv, 2, none⟩ = some (.int .i64 y) ∧ w''.cell? ⟨B, 0, none⟩ = some (.pointer (some ⟨R, 0, none⟩)) ∧ w''.cell? ⟨B, 1, none⟩ = some (.slice pa np pcap)) ∧ Hid (∀ V'', Below w''.heap.size w'' V'' → Calls Try.prog 30 #[.pointer (some ⟨b, 0, none⟩), .func (.func 65) #[] #[.pointer (some ⟨h1, 0, none⟩), .pointer (some ⟨h2, 0, none⟩), .pointer (some ⟨h3, 0, none⟩), .pointer (some ⟨h4, 0, none⟩)]] V'' fun e w3 => e = .returned (.int .i64 0) ∧ P w3)) := hide (fun V' hV' => by
          refine ((HM.out.below hV').note (-2) 152 (by simp [Sg.note]; have := Hev.out; omega)).mono ?_
          rintro e w'' ⟨rfl, m9⟩
          exact ⟨rfl, m9.cs, hide (fun V'' hV'' => by
            refine (m9.below hV'').yield.mono ?_
            rintro e w3 ⟨rfl, ht⟩
            refine ⟨rfl, ?_⟩
            rw [hPP.out]
            have e9 : (σ.note i at' why).acts np i ⟨prog, at' + 1, 2, 0⟩ (3, n, y) left = ((σ.note i at' why).note i (-2) 152).gets i ⟨prog, at' + 1, 2, 0⟩ := (by simp [Sg.acts, Sg.wake, hwf])
            rw [e9]
            exact ht)⟩)
        have hT9 : (T : Int) ≤ 9223372036854775807 := by have := hTl.out; omega
        clear HPre HM HTa
        by_cases h0 : 0 ≤ n
        · have q1 : decide (n < (T : Int)) = false := by simp; omega
          clear hr
          go_wp2_with fail
          go_quiet (fail)
          go_wp2_with fail
          refine (HNY.out _ (by first | exact below_drewN (Below.refl _ _) _ | exact Below.refl _ _)).mono ?_
          rintro e w9 ⟨rfl, ⟨s1, s2, s3, s4, s5, s6⟩, HYl⟩
          clear HNY
          go_wp2_with fail
          refine (HYl.out _ (Below.refl _ _)).mono ?_
          rintro e w' ⟨rfl, hP⟩
          go_wp2_with fail
          go_end0
          exact ⟨rfl, hP⟩
        · have q1 : decide ((0 : Int) ≤ n) = false := by simpa using h0
          clear hr
          go_wp2_with fail
          go_quiet (fail)
          go_wp2_with fail
          refine (HNY.out _ (by first | exact below_drewN (Below.refl _ _) _ | exact Below.refl _ _)).mono ?_
          rintro e w9 ⟨rfl, ⟨s1, s2, s3, s4, s5, s6⟩, HYl⟩
          clear HNY
          go_wp2_with fail
          refine (HYl.out _ (Below.refl _ _)).mono ?_
          rintro e w' ⟨rfl, hP⟩
          go_wp2_with fail
          go_end0
          exact ⟨rfl, hP⟩
    by_cases k4 : k = 4
    · subst k4
      have HM : Hid (Mid w bs F D ⟨L, B, .slice pa np pcap, R, i, h1, h2, h3, h4, dv, b, prog, at', (4, n, y)⟩ (σ.note i at' why) left Y) := hide ⟨⟨F', D', bs, HPre.out.wd, HPre.out.wx, HPre.out.bx, HPre.out.fd, HPre.out.dv, Hb.out⟩, hpY.out, hLY.out, (by simp [Sg.note]; have := Hev.out; omega), (by simp [Sg.note]; have := Htk.out; omega), Hat.out⟩
      obtain ⟨cv, hcv⟩ : ∃ cv : Int, Hid (cv = if (σ.note i at' why).opn = 256 then 5 else 0) := ⟨_, hide rfl⟩
      have hnp0 : 0 < np := by have := hpn.out; omega
      have HPk : Hid (∀ V, Calls Try.prog 67 #[.int .i64 n, .int .i64 np] V fun e w' => e = .returned (.int .i64 (pck n np : Nat)) ∧ w' = V) := hide (fun V => kpick_any n np V hnp0 (by have := Hnp.out; omega))
      have HW : Hid (∀ V, Below Y.heap.size Y V → Calls Try.prog 9 #[.pointer (some ⟨B, 0, none⟩), .int .i64 (pck n np : Nat)] V fun e w' => e = .returned (.int .i64 cv) ∧ (w'.cell? ⟨h1, 0, none⟩ = some (.pointer (some ⟨B, 0, none⟩)) ∧ w'.cell? ⟨h2, 0, none⟩ = some (.pointer (some ⟨b, 0, none⟩)) ∧ w'.cell? ⟨dv, 1, none⟩ = some (.int .i64 n) ∧ w'.cell? ⟨dv, 2, none⟩ = some (.int .i64 y) ∧ w'.cell? ⟨B, 0, none⟩ = some (.pointer (some ⟨R, 0, none⟩)) ∧ w'.cell? ⟨B, 1, none⟩ = some (.slice pa np pcap)) ∧ Hid (∀ V', Below w'.heap.size w' V' → Calls Try.prog 64 #[.pointer (some ⟨B, 0, none⟩), .int .i64 i, .int .i64 (-3), .int .i64 cv] V' fun e w'' => e = .returned (.tuple #[]) ∧ (w''.cell? ⟨h1, 0, none⟩ = some (.pointer (some ⟨B, 0, none⟩)) ∧ w''.cell? ⟨h2, 0, none⟩ = some (.pointer (some ⟨b, 0, none⟩)) ∧ w''.cell? ⟨dv, 1, none⟩ = some (.int .i64 n) ∧ w''.cell? ⟨dv, 2, none⟩ = some (.int .i64 y) ∧ w''.cell? ⟨B, 0, none⟩ = some (.pointer (some ⟨R, 0, none⟩)) ∧ w''.cell? ⟨B, 1, none⟩ = some (.slice pa np pcap)) ∧ Hid (∀ V'', Below w''.heap.size w'' V'' → Calls Try.prog 30 #[.pointer (some ⟨b, 0, none⟩), .func (.func 65) #[] #[.pointer (some ⟨h1, 0, none⟩), .pointer (some ⟨h2, 0, none⟩), .pointer (some ⟨h3, 0, none⟩), .pointer (some ⟨h4, 0, none⟩)]] V'' fun e w3 => e = .returned (.int .i64 0) ∧ P w3))) := hide (fun V hV => by
        rw [hcv.out]
        refine ((HM.out.below hV).spawn (pck n np) (by simp [Sg.note]; have := Htk.out; omega)).mono ?_
        rintro e w' ⟨rfl, m8⟩
        exact ⟨rfl, m8.cs, hide (fun V' hV' => by
          refine ((m8.below hV').note (-3) _ (by have h1 : ((σ.note i at' why).spawn (pck n np)).ev = (σ.note i at' why).ev := (by unfold Sg.spawn; split <;> rfl); rw [h1]; simp [Sg.note]; have := Hev.out; omega)).mono ?_
          rintro e w'' ⟨rfl, m9⟩
          exact ⟨rfl, m9.cs, hide (fun V'' hV'' => by
            refine (m9.below hV'').yield.mono ?_
            rintro e w3 ⟨rfl, ht⟩
            refine ⟨rfl, ?_⟩
            rw [hPP.out]
            exact ht)⟩)⟩)
      have S0 : (Y.cell? ⟨h1, 0, none⟩ = some (.pointer (some ⟨B, 0, none⟩)) ∧ Y.cell? ⟨h2, 0, none⟩ = some (.pointer (some ⟨b, 0, none⟩)) ∧ Y.cell? ⟨dv, 1, none⟩ = some (.int .i64 n) ∧ Y.cell? ⟨dv, 2, none⟩ = some (.int .i64 y) ∧ Y.cell? ⟨B, 0, none⟩ = some (.pointer (some ⟨R, 0, none⟩)) ∧ Y.cell? ⟨B, 1, none⟩ = some (.slice pa np pcap)) := HM.out.cs
      generalize pck n np = pk at *
      clear v1 v2 HPre p1 p2 HM
      go_wp2_with fail
      go_region_held3 (fun V => (V.cell? ⟨h1, 0, none⟩ = some (.pointer (some ⟨B, 0, none⟩)) ∧ V.cell? ⟨h2, 0, none⟩ = some (.pointer (some ⟨b, 0, none⟩)) ∧ V.cell? ⟨dv, 1, none⟩ = some (.int .i64 n) ∧ V.cell? ⟨dv, 2, none⟩ = some (.int .i64 y) ∧ V.cell? ⟨B, 0, none⟩ = some (.pointer (some ⟨R, 0, none⟩)) ∧ V.cell? ⟨B, 1, none⟩ = some (.slice pa np pcap)))
        (first | exact S0 | exact s8 | exact sN)
        (first | (go_at_call 67; refine (HPk.out _).mono ?_; rintro e w7 ⟨rfl, rfl⟩) | (go_at_call 9; refine (HW.out _ ?_).mono ?_; exact (Below.refl _ Y).drew; rintro e w8 ⟨rfl, s8, HNY⟩) | (go_at_call 64; refine (HNY.out _ ?_).mono ?_; exact Below.refl _ _; rintro e w9 ⟨rfl, sN, HYl⟩))
      clear HW HNY sN s8 S0
      go_wp2_with fail
      refine (HYl.out _ (by first | exact Below.refl _ _ | exact (Below.refl _ _).drew | exact below_drewN (Below.refl _ _) _)).mono ?_
      rintro e w' ⟨rfl, hP⟩
      go_wp2_with fail
      go_end0
      exact ⟨rfl, hP⟩
    by_cases k5 : k = 5
    · subst k5
      have HY : Hid (Calls Try.prog 30 #[.pointer (some ⟨b, 0, none⟩), .func (.func 65) #[] #[.pointer (some ⟨h1, 0, none⟩), .pointer (some ⟨h2, 0, none⟩), .pointer (some ⟨h3, 0, none⟩), .pointer (some ⟨h4, 0, none⟩)]] Y fun e w' => e = .returned (.int .i64 0) ∧ (w'.cell? ⟨h1, 0, none⟩ = some (.pointer (some ⟨B, 0, none⟩)) ∧ w'.cell? ⟨h2, 0, none⟩ = some (.pointer (some ⟨b, 0, none⟩))) ∧ Hid (∀ V, Below w'.heap.size w' V → Calls Try.prog 30 #[.pointer (some ⟨b, 0, none⟩), .func (.func 65) #[] #[.pointer (some ⟨h1, 0, none⟩), .pointer (some ⟨h2, 0, none⟩), .pointer (some ⟨h3, 0, none⟩), .pointer (some ⟨h4, 0, none⟩)]] V fun e w'' => e = .returned (.int .i64 151) ∧ w'' = V) ∧ Hid (∀ V, Below w'.heap.size w' V → Calls Try.prog 64 #[.pointer (some ⟨B, 0, none⟩), .int .i64 i, .int .i64 (-1), .int .i64 151] V fun e w'' => e = .returned (.tuple #[]) ∧ (w''.cell? ⟨h1, 0, none⟩ = some (.pointer (some ⟨B, 0, none⟩)) ∧ w''.cell? ⟨h2, 0, none⟩ = some (.pointer (some ⟨b, 0, none⟩))) ∧ Hid (P w''))) := hide (by
        refine (wyield HPre.out.wd hLY.out Hb.out hpY.out HPre.out.bx Hat.out).mono ?_
        rintro e w' ⟨rfl, D7, wd7, wx7⟩
        have g1 := (wx7.kp _ HPre.out.bx.f1).trans HPre.out.bx.e1
        have g2 := (wx7.kp _ HPre.out.bx.f2).trans HPre.out.bx.e2
        refine ⟨rfl, ⟨cell_of_row w' _ 0 _ _ _ g1, cell_of_row w' _ 0 _ _ _ g2⟩, hide (fun V hV => ?_), hide (fun V hV => ?_)⟩
        · exact wbusy (wd7.below hV) Hb.out (p := ⟨prog, at' + 1, 1, 0⟩) (by have := hpY.out; simp [Sg.gets, pt_set this]) rfl _ _ _
        · refine (note_any (wd7.below hV) (Nat.le_trans (Nat.le_trans hLY.out wx7.tb.size) hV.size) (by simp [Sg.note, Sg.gets]; have := Hev.out; omega) i (-1) 151).mono ?_
          rintro e w'' ⟨rfl, D9, wd9, wx9⟩
          have j1 := (wx9.kp _ HPre.out.bx.f1).trans ((hV.block _ (heap_lt g1)).trans g1)
          have j2 := (wx9.kp _ HPre.out.bx.f2).trans ((hV.block _ (heap_lt g2)).trans g2)
          refine ⟨rfl, ⟨cell_of_row w'' _ 0 _ _ _ j1, cell_of_row w'' _ 0 _ _ _ j2⟩, hide ?_⟩
          rw [hPP.out]
          exact TnW.of ((HPre.out.wx.trans (wx7.fresh hV)).trans wx9) wd9)
      clear v1 v2 HPre
      go_wp2_with fail
      refine HY.out.mono ?_
      rintro e w6 ⟨rfl, ⟨s1, s2⟩, HB6, HN6⟩
      clear HY
      go_wp2_with fail
      go_region_held3 (fun V => V.cell? ⟨h1, 0, none⟩ = some (.pointer (some ⟨B, 0, none⟩)) ∧ V.cell? ⟨h2, 0, none⟩ = some (.pointer (some ⟨b, 0, none⟩)))
        (first | exact ⟨s1, s2⟩ | exact sN)
        (first | (go_at_call 30; refine (HB6.out _ ?_).mono ?_; exact (Below.refl _ w6).drew; rintro e w7 ⟨rfl, rfl⟩) | (go_at_call 64; refine (HN6.out _ ?_).mono ?_; exact (Below.refl _ w6).drew; rintro e w7 ⟨rfl, sN, hPN⟩))
      have hP := hPN.out
      go_wp2_with fail
      go_end0
      exact ⟨rfl, hP⟩
    by_cases k6 : k = 6
    · subst k6
      have HM : Hid (Mid w bs F D ⟨L, B, .slice pa np pcap, R, i, h1, h2, h3, h4, dv, b, prog, at', (6, n, y)⟩ (σ.note i at' why) left Y) := hide ⟨⟨F', D', bs, HPre.out.wd, HPre.out.wx, HPre.out.bx, HPre.out.fd, HPre.out.dv, Hb.out⟩, hpY.out, hLY.out, (by simp [Sg.note]; have := Hev.out; omega), (by simp [Sg.note]; have := Htk.out; omega), Hat.out⟩
      obtain ⟨cv, hcv⟩ : ∃ cv : Int, Hid (cv = if 0 < n then ((left % n.toNat : Nat) : Int) else 0) := ⟨_, hide rfl⟩
      have HW : Hid (∀ V, Below Y.heap.size Y V → Calls Try.prog 37 #[.pointer (some ⟨R, 0, none⟩), .int .i64 n] V fun e w' => e = .returned (.int .i64 cv) ∧ (w'.cell? ⟨h1, 0, none⟩ = some (.pointer (some ⟨B, 0, none⟩)) ∧ w'.cell? ⟨h2, 0, none⟩ = some (.pointer (some ⟨b, 0, none⟩)) ∧ w'.cell? ⟨dv, 1, none⟩ = some (.int .i64 n) ∧ w'.cell? ⟨dv, 2, none⟩ = some (.int .i64 y) ∧ w'.cell? ⟨B, 0, none⟩ = some (.pointer (some ⟨R, 0, none⟩)) ∧ w'.cell? ⟨B, 1, none⟩ = some (.slice pa np pcap)) ∧ Hid (∀ V', Below w'.heap.size w' V' → Calls Try.prog 64 #[.pointer (some ⟨B, 0, none⟩), .int .i64 i, .int .i64 (-4), .int .i64 cv] V' fun e w'' => e = .returned (.tuple #[]) ∧ (w''.cell? ⟨h1, 0, none⟩ = some (.pointer (some ⟨B, 0, none⟩)) ∧ w''.cell? ⟨h2, 0, none⟩ = some (.pointer (some ⟨b, 0, none⟩)) ∧ w''.cell? ⟨dv, 1, none⟩ = some (.int .i64 n) ∧ w''.cell? ⟨dv, 2, none⟩ = some (.int .i64 y) ∧ w''.cell? ⟨B, 0, none⟩ = some (.pointer (some ⟨R, 0, none⟩)) ∧ w''.cell? ⟨B, 1, none⟩ = some (.slice pa np pcap)) ∧ Hid (∀ V'', Below w''.heap.size w'' V'' → Calls Try.prog 30 #[.pointer (some ⟨b, 0, none⟩), .func (.func 65) #[] #[.pointer (some ⟨h1, 0, none⟩), .pointer (some ⟨h2, 0, none⟩), .pointer (some ⟨h3, 0, none⟩), .pointer (some ⟨h4, 0, none⟩)]] V'' fun e w3 => e = .returned (.int .i64 0) ∧ P w3))) := hide (fun V hV => by
        rw [hcv.out]
        refine ((HM.out.below hV).choice n i1).mono ?_
        rintro e w' ⟨rfl, l8, m8⟩
        exact ⟨rfl, m8.cs, hide (fun V' hV' => by
          refine ((m8.below hV').note (-4) _ (by simp [Sg.note]; have := Hev.out; omega)).mono ?_
          rintro e w'' ⟨rfl, m9⟩
          exact ⟨rfl, m9.cs, hide (fun V'' hV'' => by
            refine (m9.below hV'').yield.mono ?_
            rintro e w3 ⟨rfl, ht⟩
            refine ⟨rfl, ?_⟩
            rw [hPP.out]
            exact ht)⟩)⟩)
      have S0 : (Y.cell? ⟨h1, 0, none⟩ = some (.pointer (some ⟨B, 0, none⟩)) ∧ Y.cell? ⟨h2, 0, none⟩ = some (.pointer (some ⟨b, 0, none⟩)) ∧ Y.cell? ⟨dv, 1, none⟩ = some (.int .i64 n) ∧ Y.cell? ⟨dv, 2, none⟩ = some (.int .i64 y) ∧ Y.cell? ⟨B, 0, none⟩ = some (.pointer (some ⟨R, 0, none⟩)) ∧ Y.cell? ⟨B, 1, none⟩ = some (.slice pa np pcap)) := HM.out.cs
      clear v1 v2 HPre p1 p2 HM
      go_wp2_with fail
      go_region_held3 (fun V => (V.cell? ⟨h1, 0, none⟩ = some (.pointer (some ⟨B, 0, none⟩)) ∧ V.cell? ⟨h2, 0, none⟩ = some (.pointer (some ⟨b, 0, none⟩)) ∧ V.cell? ⟨dv, 1, none⟩ = some (.int .i64 n) ∧ V.cell? ⟨dv, 2, none⟩ = some (.int .i64 y) ∧ V.cell? ⟨B, 0, none⟩ = some (.pointer (some ⟨R, 0, none⟩)) ∧ V.cell? ⟨B, 1, none⟩ = some (.slice pa np pcap)))
        (first | exact S0 | exact s8 | exact sN)
        (first | (go_at_call 37; refine (HW.out _ ?_).mono ?_; exact (Below.refl _ Y).drew; rintro e w8 ⟨rfl, s8, HNY⟩) | (go_at_call 64; refine (HNY.out _ ?_).mono ?_; exact Below.refl _ _; rintro e w9 ⟨rfl, sN, HYl⟩))
      clear HW HNY sN s8 S0
      go_wp2_with fail
      refine (HYl.out _ (by first | exact Below.refl _ _ | exact (Below.refl _ _).drew | exact below_drewN (Below.refl _ _) _)).mono ?_
      rintro e w' ⟨rfl, hP⟩
      go_wp2_with fail
      go_end0
      exact ⟨rfl, hP⟩
    by_cases k7 : k = 7
    · subst k7
      have HM : Hid (Mid w bs F D ⟨L, B, .slice pa np pcap, R, i, h1, h2, h3, h4, dv, b, prog, at', (7, n, y)⟩ (σ.note i at' why) left Y) := hide ⟨⟨F', D', bs, HPre.out.wd, HPre.out.wx, HPre.out.bx, HPre.out.fd, HPre.out.dv, Hb.out⟩, hpY.out, hLY.out, (by simp [Sg.note]; have := Hev.out; omega), (by simp [Sg.note]; have := Htk.out; omega), Hat.out⟩
      have HW : Hid (∀ V, Below Y.heap.size Y V → Calls Try.prog 32 #[.pointer (some ⟨b, 0, none⟩), .int .i64 y] V fun e w' => e = .returned (.int .i64 152) ∧ (w'.cell? ⟨h1, 0, none⟩ = some (.pointer (some ⟨B, 0, none⟩)) ∧ w'.cell? ⟨h2, 0, none⟩ = some (.pointer (some ⟨b, 0, none⟩)) ∧ w'.cell? ⟨dv, 1, none⟩ = some (.int .i64 n) ∧ w'.cell? ⟨dv, 2, none⟩ = some (.int .i64 y) ∧ w'.cell? ⟨B, 0, none⟩ = some (.pointer (some ⟨R, 0, none⟩)) ∧ w'.cell? ⟨B, 1, none⟩ = some (.slice pa np pcap)) ∧ Hid (∀ V', Below w'.heap.size w' V' → Calls Try.prog 64 #[.pointer (some ⟨B, 0, none⟩), .int .i64 i, .int .i64 (-5), .int .i64 152] V' fun e w'' => e = .returned (.tuple #[]) ∧ (w''.cell? ⟨h1, 0, none⟩ = some (.pointer (some ⟨B, 0, none⟩)) ∧ w''.cell? ⟨h2, 0, none⟩ = some (.pointer (some ⟨b, 0, none⟩)) ∧ w''.cell? ⟨dv, 1, none⟩ = some (.int .i64 n) ∧ w''.cell? ⟨dv, 2, none⟩ = some (.int .i64 y) ∧ w''.cell? ⟨B, 0, none⟩ = some (.pointer (some ⟨R, 0, none⟩)) ∧ w''.cell? ⟨B, 1, none⟩ = some (.slice pa np pcap)) ∧ Hid (∀ V'', Below w''.heap.size w'' V'' → Calls Try.prog 30 #[.pointer (some ⟨b, 0, none⟩), .func (.func 65) #[] #[.pointer (some ⟨h1, 0, none⟩), .pointer (some ⟨h2, 0, none⟩), .pointer (some ⟨h3, 0, none⟩), .pointer (some ⟨h4, 0, none⟩)]] V'' fun e w3 => e = .returned (.int .i64 0) ∧ P w3))) := hide (fun V hV => by
        refine ((HM.out.below hV).self y).mono ?_
        rintro e w' ⟨rfl, m8⟩
        exact ⟨rfl, m8.cs, hide (fun V' hV' => by
          refine ((m8.below hV').note (-5) 152 (by simp [Sg.note]; have := Hev.out; omega)).mono ?_
          rintro e w'' ⟨rfl, m9⟩
          exact ⟨rfl, m9.cs, hide (fun V'' hV'' => by
            refine (m9.below hV'').yield.mono ?_
            rintro e w3 ⟨rfl, ht⟩
            refine ⟨rfl, ?_⟩
            rw [hPP.out]
            exact ht)⟩)⟩)
      have S0 : (Y.cell? ⟨h1, 0, none⟩ = some (.pointer (some ⟨B, 0, none⟩)) ∧ Y.cell? ⟨h2, 0, none⟩ = some (.pointer (some ⟨b, 0, none⟩)) ∧ Y.cell? ⟨dv, 1, none⟩ = some (.int .i64 n) ∧ Y.cell? ⟨dv, 2, none⟩ = some (.int .i64 y) ∧ Y.cell? ⟨B, 0, none⟩ = some (.pointer (some ⟨R, 0, none⟩)) ∧ Y.cell? ⟨B, 1, none⟩ = some (.slice pa np pcap)) := HM.out.cs
      clear v1 v2 HPre p1 p2 HM
      go_wp2_with fail
      go_region_held3 (fun V => (V.cell? ⟨h1, 0, none⟩ = some (.pointer (some ⟨B, 0, none⟩)) ∧ V.cell? ⟨h2, 0, none⟩ = some (.pointer (some ⟨b, 0, none⟩)) ∧ V.cell? ⟨dv, 1, none⟩ = some (.int .i64 n) ∧ V.cell? ⟨dv, 2, none⟩ = some (.int .i64 y) ∧ V.cell? ⟨B, 0, none⟩ = some (.pointer (some ⟨R, 0, none⟩)) ∧ V.cell? ⟨B, 1, none⟩ = some (.slice pa np pcap)))
        (first | exact S0 | exact s8 | exact sN)
        (first | (go_at_call 32; refine (HW.out _ ?_).mono ?_; exact (Below.refl _ Y).drew; rintro e w8 ⟨rfl, s8, HNY⟩) | (go_at_call 64; refine (HNY.out _ ?_).mono ?_; exact Below.refl _ _; rintro e w9 ⟨rfl, sN, HYl⟩))
      clear HW HNY sN s8 S0
      go_wp2_with fail
      refine (HYl.out _ (by first | exact Below.refl _ _ | exact (Below.refl _ _).drew | exact below_drewN (Below.refl _ _) _)).mono ?_
      rintro e w' ⟨rfl, hP⟩
      go_wp2_with fail
      go_end0
      exact ⟨rfl, hP⟩
    have b1 : (k == 1) = false := by simpa using k1
    have b2 : (k == 2) = false := by simpa using k2
    have b3 : (k == 3) = false := by simpa using k3
    have b4 : (k == 4) = false := by simpa using k4
    have b5 : (k == 5) = false := by simpa using k5
    have b6 : (k == 6) = false := by simpa using k6
    have b7 : (k == 7) = false := by simpa using k7
    clear k1 k2 k3 k4 k5 k6 k7
    have HF : Hid (∀ m, P (Y.drewN m)) := hide (fun m => by
      rw [hPP.out]
      have e0 : (σ.note i at' why).acts np i ⟨prog, at' + 1, 2, 0⟩ (k, n, y) left = σ.note i at' why := by
        have : ¬ k = 1 ∧ ¬ k = 2 ∧ ¬ k = 3 ∧ ¬ k = 4 ∧ ¬ k = 5 ∧ ¬ k = 6 ∧ ¬ k = 7 := by simp only [beq_eq_false_iff_ne] at b1 b2 b3 b4 b5 b6 b7; exact ⟨b1, b2, b3, b4, b5, b6, b7⟩
        simp [Sg.acts, this]
      rw [e0]
      exact TnW.of (HPre.out.wx.fresh (below_drewN (Below.refl _ Y) m)) (HPre.out.wd.below (below_drewN (Below.refl _ Y) m)))
    clear v1 v2 HPre p1 p2
    go_wp2_with fail
    go_end0
    exact ⟨rfl, HF.out 0⟩
  · have hd0 := hno (by omega)
    clear hyes hno
    have hlti : decide ((at' : Int) < (dn : Int)) = false := by simpa using hlt
    go_wp2_with fail
    rw [← hA.out, HDV.out]
    go_quiet (fail)
    go_wp2_with fail
    go_end0
    refine ⟨rfl, ?_⟩
    rw [hPP.out]
    rw [hdv.out] at HX hAd
    obtain ⟨F', D', pre⟩ := HX.out _ (below_drewN HBA.out _) (by rw [hd0]; exact hAd)
    have e0 : (σ.note i at' why).acts np i ⟨prog, at' + 1, 2, 0⟩ d left = σ.note i at' why := by rw [hd0]; rfl
    rw [e0]
    exact TnW.of pre.wx pre.wd
end

end Go.Proofs.Ytennciddjkijaaa

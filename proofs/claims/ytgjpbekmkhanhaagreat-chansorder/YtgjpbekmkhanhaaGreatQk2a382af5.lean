/-
  ChansOrder: the walk.
-/
import Derived.Test.YtgjpbekmkhanhaaGreatMxbbef71a3
import Derived.Test.YtgjpbekmkhanhaaGreatQk9c3bb477
import Derived.Test.YtgjpbekmkhanhaaGreatMx7aa6455e
import Derived.BigQuiet
import Derived.Deep.CutBlock
import Derived.Deep.DeepCutAuto
namespace Go.Proofs.YtgjpbekmkhanhaaGreat.CG
open Go.RowKit QW CH
set_option maxRecDepth 100000
set_option linter.unusedSimpArgs false
set_option linter.unusedVariables false

section
variable {w : World} {ua : Option Addr} {ul uc : Nat} {us : List Nat}

set_option maxHeartbeats 8000000 in
theorem chansOrder_any (x0 x1 x2 : Int) (hU : Us w ua ul uc us) :
    Calls Tryz.prog 5 #[.agg #[.int .i64 x0, .int .i64 x1, .int .i64 x2], .slice ua ul uc] w fun e w' => e = .returned (.bool true) ∧ Below w.heap.size w w' := by
  obtain ⟨w1, hw1⟩ : ∃ V, V = w.alloc (.cells #[.int .i64 x0, .int .i64 x1, .int .i64 x2] (89 : TypeId)) := ⟨_, rfl⟩
  have hr1 : w1.heap[w.heap.size]? = some (.cells #[.int .i64 x0, .int .i64 x1, .int .i64 x2] (89 : TypeId) (0, 0)) := by rw [hw1]; exact heap_alloc_new w _
  have hb1 : Below w.heap.size w w1 := by rw [hw1]; exact (Below.refl _ w).alloc (Nat.le_refl _) _
  have c0 : w1.cell? ⟨w.heap.size, 0, none⟩ = some (.int .i64 x0) := cell_of_row _ _ 0 _ _ _ hr1
  have c1 : w1.cell? ⟨w.heap.size, 1, none⟩ = some (.int .i64 x1) := cell_of_row _ _ 1 _ _ _ hr1
  have c2 : w1.cell? ⟨w.heap.size, 2, none⟩ = some (.int .i64 x2) := cell_of_row _ _ 2 _ _ _ hr1
  obtain ⟨g, hg⟩ : ∃ g, Hid (w.heap.size = g) := ⟨_, hide rfl⟩
  rw [hg.out] at c0 c1 c2
  have HU := hide hU
  have HB1 := hide hb1
  obtain ⟨n0, hn0⟩ : ∃ n, n = pck x0 4 := ⟨_, rfl⟩
  obtain ⟨n1, hn1⟩ : ∃ n, n = pck x1 4 := ⟨_, rfl⟩
  obtain ⟨sz, hsz⟩ : ∃ n, n = pck x2 5 := ⟨_, rfl⟩
  have C0 : Hid (∀ V, Calls Tryz.prog 40 #[.int .i64 x0, .int .i64 4] V fun e w' => e = .returned (.int .i64 n0) ∧ w' = V) := hide (fun V => by rw [hn0]; exact kpick_any x0 4 V (by omega) (by omega))
  have C1 : Hid (∀ V, Calls Tryz.prog 40 #[.int .i64 x1, .int .i64 4] V fun e w' => e = .returned (.int .i64 n1) ∧ w' = V) := hide (fun V => by rw [hn1]; exact kpick_any x1 4 V (by omega) (by omega))
  have C2 : Hid (∀ V, Calls Tryz.prog 40 #[.int .i64 x2, .int .i64 5] V fun e w' => e = .returned (.int .i64 sz) ∧ w' = V) := hide (fun V => by rw [hsz]; exact kpick_any x2 5 V (by omega) (by omega))
  have l0 : n0 < 4 := by rw [hn0]; exact pck_lt x0 (by omega)
  have l1 : n1 < 4 := by rw [hn1]; exact pck_lt x1 (by omega)
  have l2 : sz < 5 := by rw [hsz]; exact pck_lt x2 (by omega)
  clear hU hr1 hb1 hn0 hn1 hsz
  go_enter Tryz.func5, Tryz.ntmps5
  go_wp2_with fail
  rw [← hw1]
  simp only [hg.out]
  clear hw1
  rename_i Kx hKx
  have wA : IntKind.i64.wrap (1 + (n0 : Int)) = 1 + n0 := by rw [IntKind.wrap_i64]; omega
  have wB : IntKind.i64.wrap (1 + (n1 : Int)) = 1 + n1 := by rw [IntKind.wrap_i64]; omega
  have d0 : w1.drew.cell? ⟨g, 0, none⟩ = some (.int .i64 x0) := c0
  have d1 : w1.drew.cell? ⟨g, 1, none⟩ = some (.int .i64 x1) := c1
  have d2 : w1.drew.cell? ⟨g, 2, none⟩ = some (.int .i64 x2) := c2
  refine (fun hfin => ?reg) (?rest : Kx ?act w1.drew)
  case reg =>
    refine wp_region_held_drew (S := fun V => V = w1.drew) (by kernel_rfl) rfl (fun hHeld => ?_)
    try simp only [List.size_toArray, List.length_cons, List.length_nil, Nat.reduceAdd]
    refine wpAnyH_take (i := 0) (v := (.pointer (some ⟨g, 0, none⟩))) rfl (by kernel_rfl) (by kernel_rfl) (by kernel_rfl) (fun _ _ _ h => h) (Or.inl ⟨by rfl, ?hy⟩) hHeld ?_
    case hy => (intro V hV; subst hV; go_simp <;> first | done | exact wA | exact wB)
    try simp only [Act.put, List.getElem_toArray, List.getElem_cons_succ, List.getElem_cons_zero, List.setIfInBounds_toArray, List.set_cons_succ, List.set_cons_zero]
    refine wpAnyH_take (i := 1) (v := (.int .i64 x0)) rfl (by kernel_rfl) (by kernel_rfl) (by kernel_rfl) (fun _ _ _ h => h) (Or.inl ⟨by rfl, ?hy⟩) hHeld ?_
    case hy => (intro V hV; subst hV; go_simp <;> first | done | exact wA | exact wB)
    try simp only [Act.put, List.getElem_toArray, List.getElem_cons_succ, List.getElem_cons_zero, List.setIfInBounds_toArray, List.set_cons_succ, List.set_cons_zero]
    refine wpAnyH_take (i := 4) (v := (.pointer (some ⟨g, 1, none⟩))) rfl (by kernel_rfl) (by kernel_rfl) (by kernel_rfl) (fun _ _ _ h => h) (Or.inl ⟨by rfl, ?hy⟩) hHeld ?_
    case hy => (intro V hV; subst hV; go_simp <;> first | done | exact wA | exact wB)
    try simp only [Act.put, List.getElem_toArray, List.getElem_cons_succ, List.getElem_cons_zero, List.setIfInBounds_toArray, List.set_cons_succ, List.set_cons_zero]
    refine wpAnyH_take (i := 5) (v := (.int .i64 x1)) rfl (by kernel_rfl) (by kernel_rfl) (by kernel_rfl) (fun _ _ _ h => h) (Or.inl ⟨by rfl, ?hy⟩) hHeld ?_
    case hy => (intro V hV; subst hV; go_simp <;> first | done | exact wA | exact wB)
    try simp only [Act.put, List.getElem_toArray, List.getElem_cons_succ, List.getElem_cons_zero, List.setIfInBounds_toArray, List.set_cons_succ, List.set_cons_zero]
    refine wpAnyH_take (i := 8) (v := (.pointer (some ⟨g, 2, none⟩))) rfl (by kernel_rfl) (by kernel_rfl) (by kernel_rfl) (fun _ _ _ h => h) (Or.inl ⟨by rfl, ?hy⟩) hHeld ?_
    case hy => (intro V hV; subst hV; go_simp <;> first | done | exact wA | exact wB)
    try simp only [Act.put, List.getElem_toArray, List.getElem_cons_succ, List.getElem_cons_zero, List.setIfInBounds_toArray, List.set_cons_succ, List.set_cons_zero]
    refine wpAnyH_take (i := 9) (v := (.int .i64 x2)) rfl (by kernel_rfl) (by kernel_rfl) (by kernel_rfl) (fun _ _ _ h => h) (Or.inl ⟨by rfl, ?hy⟩) hHeld ?_
    case hy => (intro V hV; subst hV; go_simp <;> first | done | exact wA | exact wB)
    try simp only [Act.put, List.getElem_toArray, List.getElem_cons_succ, List.getElem_cons_zero, List.setIfInBounds_toArray, List.set_cons_succ, List.set_cons_zero]
    refine wpAnyH_ready (rs := [2]) (by kernel_rfl) (by simp) ?_
    refine AllReadyH.cons (by rfl) ?_ AllReadyH.nil
    intro K hK
    refine step_callw (by rfl) 40 #[.int .i64 x0, .int .i64 4] (by go_simp) ?_
    refine (C0.out _).mono ?_
    rintro e X ⟨rfl, hX⟩
    subst hX
    refine ⟨_, rfl, ?_⟩
    refine hK.out _ _ rfl (fun hHeld => ?_)
    clear hK K
    try simp only [Act.put, List.getElem_toArray, List.getElem_cons_succ, List.getElem_cons_zero, List.setIfInBounds_toArray, List.set_cons_succ, List.set_cons_zero]
    refine wpAnyH_take (i := 3) (v := (.int .i64 (1 + (n0 : Int)))) rfl (by kernel_rfl) (by kernel_rfl) (by kernel_rfl) (fun _ _ _ h => h) (Or.inl ⟨by rfl, ?hy⟩) hHeld ?_
    case hy => (intro V hV; subst hV; go_simp <;> first | done | exact wA | exact wB)
    try simp only [Act.put, List.getElem_toArray, List.getElem_cons_succ, List.getElem_cons_zero, List.setIfInBounds_toArray, List.set_cons_succ, List.set_cons_zero]
    refine wpAnyH_ready (rs := [6]) (by kernel_rfl) (by simp) ?_
    refine AllReadyH.cons (by rfl) ?_ AllReadyH.nil
    intro K hK
    refine step_callw (by rfl) 40 #[.int .i64 x1, .int .i64 4] (by go_simp) ?_
    refine (C1.out _).mono ?_
    rintro e X ⟨rfl, hX⟩
    subst hX
    refine ⟨_, rfl, ?_⟩
    refine hK.out _ _ rfl (fun hHeld => ?_)
    clear hK K
    try simp only [Act.put, List.getElem_toArray, List.getElem_cons_succ, List.getElem_cons_zero, List.setIfInBounds_toArray, List.set_cons_succ, List.set_cons_zero]
    refine wpAnyH_take (i := 7) (v := (.int .i64 (1 + (n1 : Int)))) rfl (by kernel_rfl) (by kernel_rfl) (by kernel_rfl) (fun _ _ _ h => h) (Or.inl ⟨by rfl, ?hy⟩) hHeld ?_
    case hy => (intro V hV; subst hV; go_simp <;> first | done | exact wA | exact wB)
    try simp only [Act.put, List.getElem_toArray, List.getElem_cons_succ, List.getElem_cons_zero, List.setIfInBounds_toArray, List.set_cons_succ, List.set_cons_zero]
    refine wpAnyH_ready (rs := [10]) (by kernel_rfl) (by simp) ?_
    refine AllReadyH.cons (by rfl) ?_ AllReadyH.nil
    intro K hK
    refine step_callw (by rfl) 40 #[.int .i64 x2, .int .i64 5] (by go_simp) ?_
    refine (C2.out _).mono ?_
    rintro e X ⟨rfl, hX⟩
    subst hX
    refine ⟨_, rfl, ?_⟩
    refine hK.out _ _ rfl (fun hHeld => ?_)
    clear hK K
    try simp only [Act.put, List.getElem_toArray, List.getElem_cons_succ, List.getElem_cons_zero, List.setIfInBounds_toArray, List.set_cons_succ, List.set_cons_zero]
    refine wpAnyH_ready (rs := [11]) (by kernel_rfl) (by simp) ?_
    refine AllReadyH.cons (by rfl) ?_ AllReadyH.nil
    intro K hK
    go_simp
    refine hK.out _ _ rfl (fun hHeld => ?_)
    clear hK K
    try simp only [Act.put, List.getElem_toArray, List.getElem_cons_succ, List.getElem_cons_zero, List.setIfInBounds_toArray, List.set_cons_succ, List.set_cons_zero]
    refine wpAnyH_ready (rs := [12]) (by kernel_rfl) (by simp) ?_
    refine AllReadyH.cons (by rfl) ?_ AllReadyH.nil
    intro K hK
    go_simp
    refine hK.out _ _ rfl (fun hHeld => ?_)
    clear hK K
    try simp only [Act.put, List.getElem_toArray, List.getElem_cons_succ, List.getElem_cons_zero, List.setIfInBounds_toArray, List.set_cons_succ, List.set_cons_zero]
    refine wpAnyH_ready (rs := [13]) (by kernel_rfl) (by simp) ?_
    refine AllReadyH.cons (by rfl) ?_ AllReadyH.nil
    intro K hK
    go_simp
    refine hK.out _ _ rfl (fun hHeld => ?_)
    clear hK K
    try simp only [Act.put, List.getElem_toArray, List.getElem_cons_succ, List.getElem_cons_zero, List.setIfInBounds_toArray, List.set_cons_succ, List.set_cons_zero]
    refine wpAnyH_done (by kernel_rfl) ?_ _
    try try simp only [Act.put, List.getElem_toArray, List.getElem_cons_succ, List.getElem_cons_zero, List.setIfInBounds_toArray, List.set_cons_succ, List.set_cons_zero]
    exact hfin
  case rest =>
    clear C0 C1 C2 d0 d1 d2 c0 c1 c2 wA wB
    obtain ⟨nS, hnS⟩ : ∃ n : Nat, (1 + (n0 : Int)) = n := ⟨n0 + 1, by omega⟩
    obtain ⟨nR, hnR⟩ : ∃ n : Nat, (1 + (n1 : Int)) = n := ⟨n1 + 1, by omega⟩
    rw [hnS, hnR]
    have m0 : 1 ≤ nS ∧ nS ≤ 4 := by omega
    have m1 : 1 ≤ nR ∧ nR ≤ 4 := by omega
    clear hnS hnR l0 l1
    have HBx : Hid (Below w.heap.size w w1.drew) := hide HB1.out.drew
    have HUx : Hid (Us w1.drew ua ul uc us) := hide (HU.out.low HBx.out)
    clear HB1 HUx hg
    generalize w1.drew = w2 at *
    have CN := new_any w2
    apply hKx
    go_wp2_with fail
    refine CN.mono ?_
    rintro e w3 ⟨a, rfl, r1, o1, hb1⟩
    have hR3 : w3.cell? ⟨a.R, 0, none⟩ = some (.pointer (some ⟨a.R, 0, none⟩)) := r1.m.cR 0
    have CM := make_any (w := w3) (fun _ => true) 0 (r := a.R) (n := sz) (by omega) (fun V hV => rmade_yes ((hV.cell (cell_lt hR3)).trans hR3))
    clear CN hR3
    go_wp2_with fail
    refine CM.mono ?_
    rintro e w4 ⟨z, rfl, hzr, hzs, hb4, D, hch, hD⟩
    clear CM
    obtain ⟨V1, e1⟩ : ∃ V, V = w4.alloc (.cells #[.pointer (some ⟨z.C, 0, none⟩)] (48 : TypeId)) := ⟨_, rfl⟩
    obtain ⟨V2, e2⟩ : ∃ V, V = V1.alloc (.cells #[.slice none 0 0] (23 : TypeId)) := ⟨_, rfl⟩
    obtain ⟨V3, e3⟩ : ∃ V, V = V2.alloc (.cells #[.int .i64 0] 3) := ⟨_, rfl⟩
    obtain ⟨V4, e4⟩ : ∃ V, V = V3.alloc (.cells #[.bool false] 4) := ⟨_, rfl⟩
    obtain ⟨o, ho⟩ : ∃ o : Ow, o = ⟨w4.heap.size, w4.heap.size + 1 + 1, w4.heap.size + 1 + 1 + 1, w4.heap.size + 1, w4.heap.size + 1 + 1 + 1 + 1, w4.heap.size + 1 + 1 + 1 + 1 + 1, z.C, nS⟩ := ⟨_, rfl⟩
    have oC : o.C = z.C := by rw [ho]
    have oS : o.nS = nS := by rw [ho]
    have p1 : w4.heap.size = o.CB := by rw [ho]
    have p2 : w4.heap.size + 1 = o.GB := by rw [ho]
    have p3 : w4.heap.size + 1 + 1 = o.TB := by rw [ho]
    have p4 : w4.heap.size + 1 + 1 + 1 = o.BB := by rw [ho]
    have p5 : w4.heap.size + 1 + 1 + 1 + 1 = o.SB := by rw [ho]
    have p6 : w4.heap.size + 1 + 1 + 1 + 1 + 1 = o.RB := by rw [ho]
    obtain ⟨V5, e5⟩ : ∃ V, V = V4.alloc (.cells #[.func (.func 41) #[] #[.pointer (some ⟨o.BB, 0, none⟩), .pointer (some ⟨o.CB, 0, none⟩), .pointer (some ⟨o.TB, 0, none⟩), .pointer (some ⟨o.SB, 0, none⟩)]] (91 : TypeId)) := ⟨_, rfl⟩
    obtain ⟨V6, e6⟩ : ∃ V, V = V5.alloc (.cells #[.func (.func 43) #[] #[.pointer (some ⟨o.BB, 0, none⟩), .pointer (some ⟨o.CB, 0, none⟩), .pointer (some ⟨o.GB, 0, none⟩), .pointer (some ⟨o.RB, 0, none⟩)]] (76 : TypeId)) := ⟨_, rfl⟩
    have HS : Hid (Ob w o a.R z 0 (sgN 0 z.size) V6) := hide (Ob.begun (HBx.out.trans (hb1.mono HBx.out.size)) r1 (fun k hk => Nat.le_trans HBx.out.size (o1 k hk)) hb4 hch hD hzr (by omega) (fun _ => rfl) oC p1 p2 p3 p4 p5 p6 e1 e2 e3 e4 e5 e6)
    have z6 : w4.heap.size + 1 + 1 + 1 + 1 + 1 + 1 = V6.heap.size := by
      have q1 : V1.heap.size = w4.heap.size + 1 := by rw [e1]; simp
      have q2 : V2.heap.size = V1.heap.size + 1 := by rw [e2]; simp
      have q3 : V3.heap.size = V2.heap.size + 1 := by rw [e3]; simp
      have q4 : V4.heap.size = V3.heap.size + 1 := by rw [e4]; simp
      have q5 : V5.heap.size = V4.heap.size + 1 := by rw [e5]; simp
      have q6 : V6.heap.size = V5.heap.size + 1 := by rw [e6]; simp
      omega
    obtain ⟨R, hR⟩ : ∃ R, Hid (a.R = R) := ⟨_, hide rfl⟩
    rw [hR.out] at HS
    have HP := hide (And.intro z6 (And.intro p6 (And.intro p5 (And.intro p4 (And.intro p3 (And.intro p2 p1))))))
    have HE := hide (And.intro e1 (And.intro e2 (And.intro e3 (And.intro e4 (And.intro e5 e6)))))
    have OC := hide oC
    have OS := hide oS
    clear hb1 r1 o1 hb4 hch hD hzr ho oC oS z6 p1 p2 p3 p4 p5 p6 e1 e2 e3 e4 e5 e6
    go_wp2_with fail
    obtain ⟨z6, p6, p5, p4, p3, p2, p1⟩ := HP.out
    obtain ⟨e1, e2, e3, e4, e5, e6⟩ := HE.out
    clear HP HE
    rw [z6, p6, p5, p4, p3, p2, p1, ← e1, ← e2, ← e3, ← e4, ← e5, ← e6]
    simp only [hR.out]
    clear e1 e2 e3 e4 e5 e6 z6 p1 p2 p3 p4 p5 p6 hR
    go_loopw [16] (fun iv wr => ∃ (i iB : Nat) (wO : World), i ≤ nS ∧ iv = .pointer (some ⟨iB, 0, none⟩) ∧ wr.cell? ⟨iB, 0, none⟩ = some (.int .i64 i) ∧ Hid (Ob w o R z 0 (sgN i z.size) wO ∧ Below wO.heap.size wO wr ∧ wr.heap[iB]? = some (.cells #[.int .i64 i] 3 (0, 0)) ∧ wO.heap.size ≤ iB)) (fun iv wr => nS - boxNat iv wr)
    case atStart =>
      have hn : (V6.alloc (.cells #[.int .i64 0] 3)).heap[V6.heap.size]? = some (.cells #[.int .i64 0] 3 (0, 0)) := heap_alloc_new V6 _
      exact ⟨0, V6.heap.size, V6, by omega, rfl, cell_of_row _ _ 0 _ _ _ hn, hide ⟨HS.out, (Below.refl _ V6).alloc (Nat.le_refl _) _, hn, Nat.le_refl _⟩⟩
    case round =>
      clear HS
      obtain ⟨i, iB, wO, hi, rfl, hci, hd⟩ := hrel
      by_cases hin : i < nS
      · have hii : decide ((i : Int) < nS) = true := by simp; omega
        have CS := hd.out.1.spawnS hd.out.2.1 (iB := iB) (by rw [show (sgN i z.size).tk.length = i by simp [sgN]]; exact hd.out.2.2.1) hd.out.2.2.2 (by rw [show (sgN i z.size).tk.length = i by simp [sgN], OS.out]; exact hin) (by rw [OS.out]; omega)
        rw [sgN_add] at CS
        have hbx := hd.out.2.2.1
        clear hd
        go_wp2_with fail
        refine CS.mono ?_
        rintro e w5 ⟨b, rfl, hO, hk⟩
        have hci5 : w5.cell? ⟨iB, 0, none⟩ = some (.int .i64 i) := cell_of_row _ _ 0 _ _ _ (hk.trans hbx)
        have HN : Hid (Ob w o R z 0 (sgN (i + 1) z.size) w5) := hide hO
        have hw1 : IntKind.i64.wrap ((i : Int) + 1) = (i : Int) + 1 := by rw [IntKind.wrap_i64]; omega
        clear CS hO hk hbx
        go_wp2_with fail
        go_roundw
        case rel =>
          have hn : (w5.alloc (.cells #[.int .i64 ((i + 1 : Nat) : Int)] 3)).heap[w5.heap.size]? = some (.cells #[.int .i64 ((i + 1 : Nat) : Int)] 3 (0, 0)) := heap_alloc_new w5 _
          exact ⟨i + 1, w5.heap.size, w5, by omega, rfl, cell_of_row _ _ 0 _ _ _ hn, hide ⟨HN.out, (Below.refl _ w5).alloc (Nat.le_refl _) _, hn, Nat.le_refl _⟩⟩
        case measure =>
          rw [boxNat_of hci, boxNat_of (x := (i : Int) + 1) (cell_of_row _ _ 0 _ _ _ (heap_alloc_new w5 _))]
          omega
      · obtain rfl : i = nS := by omega
        have hii : decide ((i : Int) < i) = false := by simp
        have HO : Hid (Ob w o R z 0 (sgN i z.size) wr) := hide (hd.out.1.below hd.out.2.1)
        clear hd
        go_wp2_with fail
        clear hci
        go_loopw [17] (fun iv wr => ∃ k : Nat, k ≤ nR ∧ iv = .int .i64 k ∧ Hid (Ob w o R z 0 (sgN (i + k) z.size) wr)) (fun iv _ => nR - (intOf iv).toNat)
        case atStart => exact ⟨0, by omega, rfl, HO⟩
        case round =>
          clear HO
          obtain ⟨k, hk, rfl, hd⟩ := hrel
          by_cases hkn : k < nR
          · have hkk : decide ((k : Int) < nR) = true := by simp; omega
            obtain ⟨lab, hE⟩ := hd.out.e
            have cR := cell_of_row _ _ 0 _ _ _ hE.rb.1
            have CS := hd.out.spawnR (by rw [OS.out]; simp [sgN]) (by simp [sgN]; omega)
            rw [sgN_add] at CS
            clear hE hd
            go_wp2_with fail
            refine CS.mono ?_
            rintro e w5 ⟨b, rfl, hO⟩
            have HN : Hid (Ob w o R z 0 (sgN (i + (k + 1)) z.size) w5) := hide hO
            clear CS hO cR
            go_wp2_with fail
            go_roundw
            case rel => exact ⟨k + 1, by omega, by go_num, HN⟩
            case measure => simp [intOf]; omega
          · obtain rfl : k = nR := by omega
            have hkk : decide ((k : Int) < k) = false := by simp
            have HZ : Hid (Oz w o R z k 0 (sgN (i + k) z.size) wr) := hide ⟨hd.out, [], by rw [OS.out]; exact Oj.start i k z.size⟩
            clear hd hii hi
            go_wp2_with fail
            go_loopw [18] (fun iv wr => ∃ (j : Nat) (σ : Sg), j ≤ ul ∧ j ≤ 200 ∧ iv = .int .i64 j ∧ Hid (Oz w o R z k j σ wr)) (fun iv _ => 200 - (intOf iv).toNat)
            case atStart => exact ⟨0, _, by omega, by omega, rfl, HZ⟩
            case round =>
              clear HZ
              obtain ⟨j, σ, hj1, hj2, rfl, hd⟩ := hrel
              by_cases hjn : j < ul ∧ j < 200
              · obtain ⟨hj3, hj4⟩ := hjn
                have hja : decide ((j : Int) < ul) = true := by simp; omega
                have hjb : decide ((j : Int) < 200) = true := by simp; omega
                have hUs : Us wr ua ul uc us := HU.out.low hd.out.1.bel
                obtain ⟨ub, uo, hua, hcell⟩ := hUs.lies (by omega)
                subst hua
                have hcu := hcell j hj3
                have hup : us.getD j 0 ≤ 18446744073709551615 := hUs.few _ (by
                  have hl := hUs.len
                  rw [List.getD, List.getElem?_eq_getElem (by omega)]
                  exact List.getElem_mem _)
                have hule := hUs.le
                have hure := hUs.reach
                have CS := hd.out.step OC.out.symm (by unfold Mx; omega) (us.getD j 0) hup (by rw [OS.out]; omega) (by omega)
                obtain ⟨u, hu⟩ : ∃ u, u = us.getD j 0 := ⟨_, rfl⟩
                rw [← hu] at CS hcu
                clear hcell hUs hd hu hup
                go_wp2_with fail
                refine CS.mono ?_
                rintro e w5 ⟨rfl, h5, _⟩
                generalize σ.stepf (opf o.nS) u = τ at h5
                obtain ⟨lab, hE⟩ := h5.1.e
                have cC := cell_of_row _ _ 0 _ _ _ hE.cb.1
                have CW := h5.waits OC.out.symm
                obtain ⟨ls, hls⟩ : ∃ n, n = (τ.c 0).snd.length := ⟨_, rfl⟩
                obtain ⟨lr, hlr⟩ : ∃ n, n = (τ.c 0).rcv.length := ⟨_, rfl⟩
                obtain ⟨lb, hlb⟩ : ∃ n, n = (τ.c 0).buf.length := ⟨_, rfl⟩
                obtain ⟨gl, hgl⟩ : ∃ n, n = (gotL o.nS τ.ev).length := ⟨_, rfl⟩
                rw [← hls, ← hlr] at CW
                obtain ⟨dl, hj⟩ := h5.2
                have hfew := hj.few.1
                have hask := hj.asks
                rw [← hls, ← hlr, ← hlb, hzs] at hask
                rw [← hgl, OS.out] at hfew
                have HL := hide (And.intro hlb hgl)
                have HA := hide hask
                have HF := hide hfew
                clear CS hcu hE h5 hj hls hlr hlb hgl hask hfew
                go_wp2_with fail
                refine CW.mono ?_
                rintro e w6 ⟨rfl, h6⟩
                obtain ⟨hlb, hgl⟩ := HL.out
                have hask := HA.out
                have hfew := HF.out
                obtain ⟨lab6, hE⟩ := h6.1.e
                obtain ⟨gv, hgb, _, hrow, _⟩ := hE.gb
                obtain ⟨ga, gc, rfl⟩ := row_val hrow
                have cG := cell_of_row _ _ 0 _ _ _ hgb
                have cB := cell_of_row _ _ 0 _ _ _ hE.bb.1
                have cC6 := cell_of_row _ _ 0 _ _ _ hE.cb.1
                have CL := h6.1.len OC.out.symm
                rw [← hlb] at CL
                rw [← hgl] at cG
                have H6 := hide h6
                have f6 : decide (6 * (i : Int) < gl) = false := by simp; omega
                have w6' : IntKind.i64.wrap (6 * (i : Int)) = 6 * (i : Int) := by rw [IntKind.wrap_i64]; omega
                clear CW cC hlb hgl h6 hE hgb hrow hfew HL HA HF
                rcases hask with ⟨a1, a2, a3⟩ | ⟨a1, a2, a3⟩ | ⟨a1, a2, a3⟩
                · subst a2 a3
                  have f1 : decide ((sz : Int) < 0) = false := by simp
                  have f2 : decide ((0 : Int) < lr) = true := by simp; omega
                  go_wp2_with fail
                  refine CL.mono ?_
                  rintro e X ⟨rfl, hX⟩
                  subst X
                  go_wp2_with fail
                  refine CL.mono ?_
                  rintro e X ⟨rfl, hX⟩
                  subst X
                  go_wp2_with fail
                  go_roundw
                  case rel => exact ⟨j + 1, τ, by omega, by omega, by go_num, H6⟩
                  case measure => simp [intOf]; omega
                · subst a1 a2
                  have f1 : decide ((sz : Int) < lb) = false := by simp; omega
                  go_wp2_with fail
                  refine CL.mono ?_
                  rintro e X ⟨rfl, hX⟩
                  subst X
                  go_wp2_with fail
                  go_roundw
                  case rel => exact ⟨j + 1, τ, by omega, by omega, by go_num, H6⟩
                  case measure => simp [intOf]; omega
                · subst a1 a3
                  have f2 : decide ((0 : Int) < ls) = true := by simp; omega
                  go_wp2_with fail
                  refine CL.mono ?_
                  rintro e X ⟨rfl, hX⟩
                  subst X
                  go_wp2_with fail
                  refine CL.mono ?_
                  rintro e X ⟨rfl, hX⟩
                  subst X
                  go_wp2_with fail
                  go_roundw
                  case rel => exact ⟨j + 1, τ, by omega, by omega, by go_num, H6⟩
                  case measure => simp [intOf]; omega
              · have hjj : ul ≤ j ∨ (j < ul ∧ j = 200) := by omega
                have CRun := hd.out.run OC.out.symm (by omega) (by rw [OS.out]; omega) (by omega)
                clear hd hj1 hj2 hjn
                rcases hjj with hja | ⟨hja, rfl⟩
                all_goals
                  go_wp2_with fail
                  refine CRun.mono ?_
                  rintro e w5 ⟨kk, hkk2, rfl, hJ⟩
                  obtain ⟨N', σe, hze, hle⟩ := hJ.out
                  obtain ⟨ga, gc, gs, hF⟩ := hze.fin OC.out.symm hle (by omega)
                  have HF := hide hF
                  have cG := cell_of_row _ _ 0 _ _ _ hF.gb
                  obtain ⟨M, hM⟩ : ∃ M, Hid (w5.heap.size = M) := ⟨_, hide rfl⟩
                  obtain ⟨X, hX⟩ : ∃ X, Hid (X = w5.alloc (.map #[] 0)) := ⟨_, hide rfl⟩
                  have hmk : (Instr.makeMap (95 : TypeId) none).run Tryz.prog w5 = .ok (.map (some M)) X := by rw [hX.out, ← hM.out]; exact mkN w5
                  have bX : Below w5.heap.size w5 X := by rw [hX.out]; exact (Below.refl _ w5).alloc (Nat.le_refl _) _
                  have cGX := cell_of_row _ _ 0 _ _ _ ((bX.block _ (heap_lt hF.gb)).trans hF.gb)
                  have HM0 : Hid (Below w5.heap.size w5 X ∧ Mc X M (gs.take 0) ∧ w5.heap.size ≤ M) := hide ⟨bX, by rw [hX.out, ← hM.out]; exact Mc.new w5, by rw [hM.out]; exact Nat.le_refl _⟩
                  have hgl24 : gs.length ≤ 24 := by have := hF.num; rw [OS.out] at this; omega
                  clear CRun hJ hze hF bX hle cG hM hX hja
                  go_wp2_with fail
                  clear hmk
                  go_loopw [128] (fun iv wx => ∃ q : Nat, q ≤ gs.length ∧ iv = .int .i64 q ∧ Hid (Below w5.heap.size w5 wx ∧ Mc wx M (gs.take q) ∧ w5.heap.size ≤ M)) (fun iv _ => gs.length - (intOf iv).toNat)
                  case atStart => exact ⟨0, by omega, rfl, HM0⟩
                  case round =>
                    clear HM0 cGX
                    obtain ⟨q, hq, rfl, hd⟩ := hrel
                    by_cases hqn : q < gs.length
                    · have hqq : decide ((q : Int) < gs.length) = true := by simp; omega
                      obtain ⟨G, hga, hgc1, hgc2, hcell⟩ := HF.out.row (by omega)
                      subst hga
                      obtain ⟨si, sn, hs1, hs2, hs3, hs4, hs5⟩ := HF.out.at' hqn
                      have cv : wr.cell? ⟨G, q, none⟩ = some (.int .i64 (gs.getD q 0)) := (hd.out.1.cell (cell_lt (hcell q hqn))).trans (hcell q hqn)
                      rw [OS.out] at hs1
                      have ev : gs.getD q 0 = 100 * (si : Int) + sn := hs3
                      have e100 : gs.getD q 0 / 100 = (si : Int) := by rw [ev]; omega
                      have I6s : I6 (si : Int) := by unfold I6; omega
                      have hlk := hd.out.2.1.look I6s
                      obtain ⟨Y, hput, hMY, tY⟩ := hd.out.2.1.put (gs.getD q 0) (by rw [e100]; exact I6s) (by rw [List.length_take]; omega)
                      rw [e100] at hput
                      rw [← take_one hqn] at hMY
                      have HY : Hid (Below w5.heap.size w5 Y ∧ Mc Y M (gs.take (q + 1)) ∧ w5.heap.size ≤ M) := hide ⟨hd.out.1.trans (tY.below (fun b hb => by subst hb; exact hd.out.2.2) hd.out.1.size), hMY, hd.out.2.2⟩
                      rw [ev] at cv
                      obtain ⟨ct, hct⟩ : ∃ n, n = cnt (gs.take q) si := ⟨_, rfl⟩
                      rw [← hct] at hlk hput hs4 hs5
                      have ht1 : (100 * (si : Int) + sn).tmod 100 = sn := by rw [Int.tmod_eq_emod_of_nonneg (by omega)]; omega
                      have ht2 : (100 * (si : Int) + sn).tdiv 100 = si := by rw [Int.tdiv_eq_ediv_of_nonneg (by omega)]; omega
                      have hw9 : IntKind.i64.wrap ((ct : Int) + 1) = (ct : Int) + 1 := by rw [IntKind.wrap_i64]; omega
                      clear hd hcell hMY tY ev e100 hs3 hct
                      by_cases hec : ct = sn
                      · subst hec
                        go_wp2_with fail
                        go_roundw
                        case rel => exact ⟨q + 1, by omega, by go_num, HY⟩
                        case measure => simp [intOf]; omega
                      · have hk1 : ¬ ((k : Int) = 1) := by
                          intro h
                          exact hec (hs4 (by omega))
                        have hne : ((sn : Int) != ct) = true := by simp; omega
                        have hkb : ((k : Int) == 1) = false := by simp; omega
                        clear hk1 hec hs4
                        go_wp2_with fail
                        go_roundw
                        case rel => exact ⟨q + 1, by omega, by go_num, HY⟩
                        case measure => simp [intOf]; omega
                    · obtain rfl : q = gs.length := by omega
                      have HM5 : Hid (Below w5.heap.size w5 wr ∧ Mc wr M gs) := hide ⟨hd.out.1, by have := hd.out.2.1; rwa [List.take_length] at this⟩
                      clear hd
                      go_wp2_with fail
                      go_loopw [24, 25] (fun av iv wr => ∃ q : Nat, q ≤ i ∧ av = .int .i64 (6 * (q : Int)) ∧ iv = .int .i64 q ∧ Hid (Below w5.heap.size w5 wr ∧ Mc wr M gs)) (fun _ iv _ => i - (intOf iv).toNat)
                      case atStart => exact ⟨0, by omega, by simp, rfl, HM5⟩
                      case round =>
                        clear HM5
                        obtain ⟨q, hq, rfl, rfl, hd⟩ := hrel
                        by_cases hqn : q < i
                        · have hqq : decide ((q : Int) < i) = true := by simp; omega
                          have hlk := hd.out.2.look (k := (q : Int)) (by unfold I6; omega)
                          rw [HF.out.cnts q (by rw [OS.out]; exact hqn)] at hlk
                          have hlk6 : (Instr.lookup (95 : TypeId) (.map (some M)) (.int .i64 (q : Int)) false).run Tryz.prog wr = .ok (.int .i64 6) wr := hlk
                          have hw8 : IntKind.i64.wrap (6 * (q : Int) + 6) = 6 * (q : Int) + 6 := by rw [IntKind.wrap_i64]; omega
                          clear hlk
                          go_wp2_with fail
                          go_roundw
                          case rel => exact ⟨q + 1, by omega, by first | (congr 1; omega) | congr 1, by go_num, hd⟩
                          case measure => simp [intOf]; omega
                        · obtain rfl : q = i := by omega
                          have hnum : gs.length = 6 * q := by have := HF.out.num; rw [OS.out] at this; exact this
                          have cG6 := cell_of_row _ _ 0 _ _ _ ((hd.out.1.block _ (heap_lt HF.out.gb)).trans HF.out.gb)
                          have cT6 := cell_of_row _ _ 0 _ _ _ ((hd.out.1.block _ (heap_lt HF.out.tb)).trans HF.out.tb)
                          have cC6 := cell_of_row _ _ 0 _ _ _ ((hd.out.1.block _ (heap_lt HF.out.cb)).trans HF.out.cb)
                          have hnum2 : ((gs.length : Nat) : Int) = 6 * (q : Int) := by omega
                          have CL := HF.out.len wr hd.out.1
                          have CA := awake_any wr
                          have HBF := hide (HF.out.bel.trans (hd.out.1.mono HF.out.bel.size))
                          clear hd hnum
                          go_wp2_with fail
                          refine CL.mono ?_
                          rintro e Z ⟨rfl, hZ⟩
                          subst Z
                          clear CL
                          go_wp2_with fail
                          refine CA.mono ?_
                          rintro e Z ⟨rfl, bZ⟩
                          have HFF : Hid (Below w.heap.size w Z) := hide (HBF.out.trans (bZ.mono HBF.out.size))
                          clear CA bZ HBF
                          go_wp2_with fail
                          go_ret
                          exact ⟨rfl, HFF.out⟩
end

end Go.Proofs.YtgjpbekmkhanhaaGreat.CG
namespace Go.Proofs.YtgjpbekmkhanhaaGreat.chansOrder
open Go.RowKit CH
theorem walk {w : World} {ua : Option Addr} {ul uc : Nat} {us : List Nat} (x0 x1 x2 : Int) (hU : Us w ua ul uc us) : Calls Tryz.prog 5 #[.agg #[.int .i64 x0, .int .i64 x1, .int .i64 x2], .slice ua ul uc] w fun e w' => e = .returned (.bool true) ∧ Below w.heap.size w w' := CG.chansOrder_any x0 x1 x2 hU
end Go.Proofs.YtgjpbekmkhanhaaGreat.chansOrder

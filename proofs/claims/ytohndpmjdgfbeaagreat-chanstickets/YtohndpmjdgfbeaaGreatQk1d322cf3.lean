/-
  ChansTickets: the walk.
-/
import Derived.Test.YtohndpmjdgfbeaaGreatMxed0bb509
import Derived.Test.YtohndpmjdgfbeaaGreatMx99ef4fa6
import Derived.Test.YtohndpmjdgfbeaaGreatOpr
import Derived.BigQuiet
import Derived.Deep.CutBlock
import Derived.Deep.DeepCutAuto
namespace Go.Proofs.YtohndpmjdgfbeaaGreat.CH
open Go.RowKit QW
set_option maxRecDepth 100000
set_option linter.unusedSimpArgs false
set_option linter.unusedVariables false

def opc (x : Int × Int × Int) : List Value := [.int .i64 x.1, .int .i64 x.2.1, .int .i64 x.2.2]
section
variable {w : World} {ga : Option Addr} {gn gcap : Nat} {gs : List (Int × Int × Int)}

theorem bwA {W0 W : World} {o : Obj} (h : Below W0.heap.size W0 W) : Below W0.heap.size W0 (W.alloc o) := h.alloc h.size _
theorem bwD {W0 W : World} (h : Below W0.heap.size W0 W) : Below W0.heap.size W0 W.drew := h.drew
theorem bwN (w : World) (n : Nat) : Below w.heap.size w (w.drewN n) := ⟨rfl, rfl, rfl, Nat.le_refl _, fun _ _ => rfl⟩
theorem bwS {W0 W : World} {b : Nat} {v : Value} (h : Below W0.heap.size W0 W) (hb : W0.heap.size ≤ b) : Below W0.heap.size W0 (W.setCell ⟨b, 0, none⟩ v) :=
  h.trans ((Tb.set (w := W) b 0 v (S := fun k => k = b) rfl).below (fun k hk => by subst hk; exact hb) h.size)
def x3 (x0 x1 x2 : Int) : Nat → Int
  | 0 => x0
  | 1 => x1
  | _ => x2
theorem Tw.enter2 {w0 w V : World} {p : Kp} {m : Nat} {Q : Nat → Prop} {x0 x1 x2 : Int} (h : Tw w0 p m Q w) (hV : V = w.alloc (.cells #[.int .i64 x0, .int .i64 x1, .int .i64 x2] (102 : TypeId))) (n : Nat) (X : World) (hb : Below V.heap.size V X) (hX : X.heap[V.heap.size]? = some (.cells #[.int .i64 n] 3 (0, 0))) : Twn w0 p m w.heap.size V.heap.size n (x3 x0 x1 x2) X := by
  have bV : Below w.heap.size w V := by rw [hV]; exact (Below.refl _ w).alloc (Nat.le_refl _) _
  have ho : V.heap[w.heap.size]? = some (.cells #[.int .i64 x0, .int .i64 x1, .int .i64 x2] (102 : TypeId) (0, 0)) := by rw [hV]; exact heap_alloc_new w _
  exact h.enter (bV.trans (hb.mono bV.size)) (Nat.le_refl _) bV.size ((hb.block _ (heap_lt ho)).trans ho) hX

set_option maxHeartbeats 8000000 in
theorem chansTickets_any (hG : Lr opc 3 (fun _ => True) w ga gn gcap gs) :
    Calls Tryz.prog 7 #[.slice ga gn gcap] w fun e w' => e = .returned (.bool true) ∧ Below w.heap.size w w' := by
  have CN := new_any w
  have HG := hide hG
  have hg1 := hG.le
  have hg2 := hG.reach
  clear hG
  go_enter Tryz.func7, Tryz.ntmps7
  go_wp2_with fail
  refine CN.mono ?_
  rintro e w1 ⟨a, rfl, rt, _, hb1⟩
  have hR : w1.cell? ⟨a.R, 0, none⟩ = some (.pointer (some ⟨a.R, 0, none⟩)) := rt.m.cR 0
  generalize a.R = R at *
  obtain ⟨W, hW⟩ : ∃ W, W = w1.alloc (.cells #[.pointer none, .pointer none] (99 : TypeId)) := ⟨_, rfl⟩
  have HA0 := hide (Ta.start (c := fun _ => ⟨0, 0, 0, 0, 0, 0, 0, 0⟩) (D := fun _ _ => False) hb1 hR hW)
  clear CN rt hb1 hR
  go_wp2_with fail
  rw [← hW]
  clear hW
  obtain ⟨P, hP⟩ : ∃ g, Hid (w1.heap.size = g) := ⟨_, hide rfl⟩
  rw [hP.out] at HA0 ⊢
  clear hP
  go_loopw [21] (fun iv wr => ∃ (i : Nat) (c : Nat → Zc) (D : Nat → Nat → Prop), i ≤ 2 ∧ iv = .int .i64 i ∧ Hid (Ta w wr R P i c D)) (fun iv _ => 2 - (intOf iv).toNat)
  case atStart => exact ⟨0, _, _, by omega, rfl, HA0⟩
  case round =>
    clear HA0
    obtain ⟨i, c, D, hi, rfl, hd⟩ := hrel
    by_cases hin : i < 2
    · have hii : decide ((i : Int) < 2) = true := by simp; omega
      have hrr := hd.out.rr
      have CM := make_any (w := wr) trw 0 (r := R) (n := i) (by omega) (fun V hV => rmade_yes ((hV.cell (cell_lt hrr)).trans hrr))
      have hpp := hide hd.out.pp
      clear hrr
      go_wp2_with fail
      refine CM.mono ?_
      rintro e w2 ⟨z, rfl, _, hz, hb2, D', hch, hD⟩
      have hp2 := (hb2.block P (heap_lt hpp.out)).trans hpp.out
      have fP := frozen_of_row w2 P i _ _ hp2
      obtain ⟨v0, cP⟩ : ∃ v0, w2.cell? ⟨P, i, none⟩ = some v0 := by
        rw [cell_of_row _ _ i _ _ _ hp2]
        rcases (by omega : i = 0 ∨ i = 1) with rfl | rfl <;> exact ⟨_, rfl⟩
      have HS := hide (hd.out.step hin hb2 hch hD hz rfl)
      clear CM hz hb2 hch hD hp2 hpp hd
      go_wp2_with fail
      go_roundw
      case rel => exact ⟨i + 1, _, _, by omega, by go_num, HS⟩
      case measure => simp [intOf]; omega
    · obtain rfl : i = 2 := by omega
      obtain ⟨V, hV⟩ : ∃ V, V = ((wr.alloc (.cells #[.int .i64 0, .int .i64 0, .int .i64 0, .int .i64 0] (100 : TypeId))).alloc (.cells #[.int .i64 0, .int .i64 0, .int .i64 0, .int .i64 0] (100 : TypeId))).alloc (.cells #[.pointer none, .pointer none, .pointer none, .pointer none] (101 : TypeId)) := ⟨_, rfl⟩
      have HT0 := hide (Tt.start (K := fun _ => 0) (I := fun _ => 0) hd.out hV)
      obtain ⟨F, hF⟩ : ∃ g, Hid (wr.heap.size = g) := ⟨_, hide rfl⟩
      obtain ⟨G, hGG⟩ : ∃ g, Hid (F + 1 = g) := ⟨_, hide rfl⟩
      obtain ⟨KB, hKB⟩ : ∃ g, Hid (F + 2 = g) := ⟨_, hide rfl⟩
      have hKB2 : G + 1 = KB := by have := hKB.out; have := hGG.out; omega
      rw [hF.out, hGG.out, hKB.out] at HT0
      clear hd
      go_wp2_with fail
      rw [← hV]
      simp only [hF.out, hKB2, hGG.out]
      clear hV hF hKB hKB2 hGG
      go_loopw [36] (fun iv wr => ∃ (i : Nat) (K I : Nat → Nat), i ≤ 4 ∧ iv = .int .i64 i ∧ Hid (Tt w wr c D P F G KB i K I)) (fun iv _ => 4 - (intOf iv).toNat)
      case atStart => exact ⟨0, _, _, by omega, rfl, HT0⟩
      case round =>
        clear HT0
        obtain ⟨i, K, I, hi, rfl, hd⟩ := hrel
        by_cases hin : i < 4
        · have hii : decide ((i : Int) < 4) = true := by simp; omega
          obtain ⟨b, hb⟩ : ∃ g, Hid (wr.heap.size = g) := ⟨_, hide rfl⟩
          obtain ⟨V, hV⟩ : ∃ V, V = wr.alloc (.cells #[.int .i64 i] 3) := ⟨_, rfl⟩
          have bV : Below wr.heap.size wr V := by rw [hV]; exact (Below.refl _ wr).alloc (Nat.le_refl _) _
          have hBX : V.heap[b]? = some (.cells #[.int .i64 i] 3 (0, 0)) := by rw [hV, ← hb.out]; exact heap_alloc_new wr _
          have cB : V.cell? ⟨b, 0, none⟩ = some (.int .i64 i) := cell_of_row _ _ 0 _ _ _ hBX
          have HD := hide (hd.out.below bV)
          have HK := hide (fun (X : World) (hX : Below V.heap.size V X) => newticket_any X (.func 48) #[] #[.pointer (some ⟨F, 0, none⟩), .pointer (some ⟨b, 0, none⟩)])
          have HS : Hid (∀ X k, Below V.heap.size V X → V.heap.size ≤ k → Tkt X k (F48 F b) → (∃ v0, X.cell? ⟨KB, i, none⟩ = some v0) ∧ X.frozen? ⟨KB, i, none⟩ = false ∧ X.cell? ⟨b, 0, none⟩ = some (.int .i64 i) ∧ (X.setCell ⟨KB, i, none⟩ (.pointer (some ⟨k, 0, none⟩))).cell? ⟨b, 0, none⟩ = some (.int .i64 i) ∧ (X.setCell ⟨KB, i, none⟩ (.pointer (some ⟨k, 0, none⟩))).cell? ⟨KB, i, none⟩ = some (.pointer (some ⟨k, 0, none⟩)) ∧ Hid (Tt w (X.setCell ⟨KB, i, none⟩ (.pointer (some ⟨k, 0, none⟩))) c D P F G KB (i + 1) (upa K i k) (upa I i b))) := hide (fun X k hX hk ht => by
            have h' := hd.out.below (bV.trans (hX.mono bV.size))
            have hbx := (hX.block b (heap_lt hBX)).trans hBX
            have hF := heap_lt hd.out.fb
            have hbs := hb.out
            have hVs := bV.size
            refine ⟨?_, frozen_of_row X KB i _ _ h'.kb, cell_of_row _ _ 0 _ _ _ hbx, ?_, ?_, hide (h'.step hin hbx (by omega) ht (by omega) (fun j hj e => by have := (hd.out.tk j hj).1.lt; omega) rfl)⟩
            · rw [cell_of_row _ _ i _ _ _ h'.kb]
              rcases (by omega : i = 0 ∨ i = 1 ∨ i = 2 ∨ i = 3) with rfl | rfl | rfl | rfl <;> exact ⟨_, rfl⟩
            · have t : Tb (fun k => k = KB) X (X.setCell ⟨KB, i, none⟩ (.pointer (some ⟨k, 0, none⟩))) := Tb.set KB i _ rfl
              rw [cellq_heap (t.block b (heap_lt hbx) (fun e => ty_ne h'.kb hbx (by decide) e.symm))]
              exact cell_of_row _ _ 0 _ _ _ hbx
            · rw [cell_of_row _ _ i _ _ _ (heap_setCell_same X KB i _ _ _ h'.kb)]
              rcases (by omega : i = 0 ∨ i = 1 ∨ i = 2 ∨ i = 3) with rfl | rfl | rfl | rfl <;> rfl)
          clear hd bV hBX HK HD
          have hi0 : (0 : Int) ≤ (i : Int) := by omega
          have hi4 : (i : Int) < 4 := by omega
          go_wp2_with fail
          rw [← hV]
          simp only [hb.out]
          clear hV
          go_region_held3 (fun X => X.cell? ⟨b, 0, none⟩ = some (.int .i64 i))
            (first | exact cB | exact x3 | exact x4)
            ((go_at_call 22; refine (newticket_any _ _ _ _).mono ?_; rintro e X ⟨rfl, ht, hb3⟩; obtain ⟨⟨v0, x1⟩, x2, x3, x4, x5, HX⟩ := HS.out X V.heap.size ((Below.refl _ V).drew.trans hb3) (Nat.le_refl _) ht))
          clear HS ht hb3 x1 x2 x3 cB
          go_wp2_with fail
          go_roundw
          case rel => exact ⟨i + 1, _, _, by omega, by go_num, HX⟩
          case measure => simp [intOf]; omega
        · obtain rfl : i = 4 := by omega
          obtain ⟨V, hV⟩ : ∃ V, V = wr.alloc (.cells #[.int .i64 0, .int .i64 0, .int .i64 0, .int .i64 0] (100 : TypeId)) := ⟨_, rfl⟩
          have HW0 := hide (Tw.start hd.out hV)
          obtain ⟨T, hT⟩ : ∃ g, Hid (wr.heap.size = g) := ⟨_, hide rfl⟩
          rw [hT.out] at HW0
          clear hd
          go_wp2_with fail
          rw [← hV]
          simp only [hT.out]
          clear hV hT
          obtain ⟨p, rfl, rfl, rfl, rfl, rfl, HP0⟩ : ∃ p : Kp, p.P = P ∧ p.G = G ∧ p.KB = KB ∧ p.F = F ∧ p.T = T ∧ Hid (∃ Q, Tw w p 0 Q V) := ⟨_, rfl, rfl, rfl, rfl, rfl, HW0⟩
          clear HW0
          go_loopw [13] (fun iv wr => ∃ i : Nat, i ≤ gn ∧ i ≤ 60 ∧ iv = .int .i64 i ∧ Hid (∃ Q, Tw w p i Q wr)) (fun iv _ => gn - (intOf iv).toNat)
          case atStart => exact ⟨0, by omega, by omega, rfl, HP0⟩
          case round =>
            clear HP0
            obtain ⟨i, hi, hi60, rfl, hd⟩ := hrel
            by_cases hig : i < gn
            · have hi1 : decide ((i : Int) < (gn : Int)) = true := by simp; omega
              by_cases hi6 : i < 60
              · have hi2 : decide ((i : Int) < 60) = true := by simp; omega
                obtain ⟨Q, hw⟩ := hd.out
                obtain ⟨gb, go, hga, hgc⟩ := HG.out.lies (by omega)
                subst hga
                obtain ⟨x, hx⟩ : ∃ x, gs[i]? = some x := ⟨_, List.getElem?_eq_getElem (by have := HG.out.len; omega)⟩
                obtain ⟨x0, x1, x2⟩ := x
                have cg0 := hgc i _ hx 0 _ rfl
                have cg1 := hgc i _ hx 1 _ rfl
                have cg2 := hgc i _ hx 2 _ rfl
                have cg0' : wr.cell? ⟨gb, go + i * 3, none⟩ = some (.int .i64 x0) := (hw.bel.cell (cell_lt cg0)).trans cg0
                have cg1' : wr.cell? ⟨gb, go + i * 3 + 1, none⟩ = some (.int .i64 x1) := (hw.bel.cell (cell_lt cg1)).trans cg1
                have cg2' : wr.cell? ⟨gb, go + i * 3 + 2, none⟩ = some (.int .i64 x2) := (hw.bel.cell (cell_lt cg2)).trans cg2
                have CP1 : ∀ V, Calls Tryz.prog 40 #[.int .i64 x1, .int .i64 2] V fun e w' => e = .returned (.int .i64 (pck x1 2 : Nat)) ∧ w' = V := fun V => kpick_any x1 2 V (by omega) (by omega)
                have CP2 : ∀ V, Calls Tryz.prog 40 #[.int .i64 x2, .int .i64 4] V fun e w' => e = .returned (.int .i64 (pck x2 4 : Nat)) ∧ w' = V := fun V => kpick_any x2 4 V (by omega) (by omega)
                have CP0 : ∀ V, Calls Tryz.prog 40 #[.int .i64 x0, .int .i64 6] V fun e w' => e = .returned (.int .i64 (pck x0 6 : Nat)) ∧ w' = V := fun V => kpick_any x0 6 V (by omega) (by omega)
                have hp1 := pck_lt x1 (n := 2) (by omega)
                have hp2 := pck_lt x2 (n := 4) (by omega)
                have hp0 := pck_lt x0 (n := 6) (by omega)
                obtain ⟨V, hV⟩ : ∃ V, V = wr.alloc (.cells #[.int .i64 x0, .int .i64 x1, .int .i64 x2] (102 : TypeId)) := ⟨_, rfl⟩
                obtain ⟨o, ho⟩ : ∃ g, Hid (wr.heap.size = g) := ⟨_, hide rfl⟩
                clear cg0 cg1 cg2 hgc hx hd
                go_wp2_with fail
                rw [← hV]
                simp only [ho.out]
                have HE := hide (hw.enter2 hV)
                rw [ho.out] at HE
                generalize pck x1 2 = j at *
                generalize pck x2 4 = n at *
                generalize pck x0 6 = kd at *
                have HK : Hid (∀ X, Below V.heap.size V X → X.cell? ⟨o, 1, none⟩ = some (.int .i64 x1) ∧ X.cell? ⟨o, 2, none⟩ = some (.int .i64 x2) ∧ X.cell? ⟨p.P, j, none⟩ = some (.pointer (some ⟨(p.c j).C, 0, none⟩))) := hide (fun X hX => by
                  have bV : Below wr.heap.size wr V := by rw [hV]; exact (Below.refl _ wr).alloc (Nat.le_refl _) _
                  have ho2 : V.heap[o]? = some (.cells #[.int .i64 x0, .int .i64 x1, .int .i64 x2] (102 : TypeId) (0, 0)) := by rw [hV, ← ho.out]; exact heap_alloc_new wr _
                  have ho3 := (hX.block _ (heap_lt ho2)).trans ho2
                  exact ⟨cell_of_row _ _ 1 _ _ _ ho3, cell_of_row _ _ 2 _ _ _ ho3, ((hw.below bV).below hX).cC hp1⟩)
                have hj0 : (0 : Int) ≤ (j : Int) := by omega
                have hj2 : (j : Int) < 2 := by omega
                clear hV hw cg0' cg1' cg2'
                refine suff (G := ?G) (fun HC => ?h) ?g
                case h =>
                  go_region_held3 (fun X => X.cell? ⟨o, 1, none⟩ = some (.int .i64 x1) ∧ X.cell? ⟨o, 2, none⟩ = some (.int .i64 x2) ∧ X.cell? ⟨p.P, j, none⟩ = some (.pointer (some ⟨(p.c j).C, 0, none⟩)))
                    ((refine HK.out _ ?_; repeat' (first | with_reducible exact Below.refl _ _ | with_reducible refine bwD ?_ | with_reducible refine bwA ?_ | with_reducible refine bwS ?_ ?_ | exact (Nat.le_refl _ : _ ≤ _))))
                    ((go_at_call 40; first | (with_reducible refine (CP1 _).mono ?_; rintro e X ⟨rfl, rfl⟩) | (with_reducible refine (CP2 _).mono ?_; rintro e X ⟨rfl, rfl⟩)))
                  all_goals exact HC
                obtain ⟨Y, hY⟩ : ∃ Y, Y = (V.alloc (.cells #[.int .i64 n] 3)).drew := ⟨_, rfl⟩
                have HY := hide (HE.out n Y (by rw [hY]; exact ((Below.refl _ V).alloc (Nat.le_refl _) _).drew) (by rw [hY]; exact heap_alloc_new V _))
                obtain ⟨nb, hnb⟩ : ∃ g, Hid (V.heap.size = g) := ⟨_, hide rfl⟩
                rw [← hY, hnb.out]
                rw [hnb.out] at HY
                have c0 : Y.cell? ⟨o, 0, none⟩ = some (.int .i64 x0) := HY.out.cells.1
                clear hY hnb HE HK CP1 CP2
                go_upto_block 6 with (refine (CP0 _).mono ?_; rintro e X ⟨rfl, hX⟩; subst X)
                clear c0 CP0
                have hi0 : (0 : Int) ≤ (i : Int) := by omega
                have hn0 : (0 : Int) ≤ (n : Int) := by omega
                have hn4 : (n : Int) < 4 := by omega
                go_cut [17, 18] (fun _ _ wx => Hid (∃ Q, Tw w p (i + 1) Q wx))
                case first =>
                  have cn : Y.cell? ⟨nb, 0, none⟩ = some (.int .i64 n) := HY.out.cells.2.2.2
                  have cx : Y.cell? ⟨o, 2, none⟩ = some (.int .i64 x2) := HY.out.cells.2.2.1
                  obtain ⟨Qy, hty⟩ := HY.out.tw
                  have cK := hty.cK hp2
                  obtain ⟨g, cG⟩ := hty.cG hp2
                  rcases (by omega : kd = 0 ∨ kd = 1 ∨ kd = 2 ∨ kd = 3 ∨ kd = 4 ∨ kd = 5) with rfl | rfl | rfl | rfl | rfl | rfl
                  · by_cases hg : g = 0
                    · subst hg
                      have CW := HY.out.waitSend (by unfold Mx; omega) (i : Int) hp1 hp2
                      unfold F49 at CW
                      clear HY hty HG
                      go_wp2_with fail
                      refine CW.mono ?_
                      rintro e w3 ⟨⟨r, rfl⟩, h3⟩
                      have H3 := hide (h3.out (Nat.le_refl _))
                      clear CW h3 cn cx cK cG
                      go_wp2_with fail
                      go_meet
                      exact H3
                    · have H3 := hide (HY.out.out (Nat.le_succ i))
                      clear HY hty HG
                      go_wp2_with fail
                      go_meet
                      exact H3
                  · by_cases hg : g = 0
                    · subst hg
                      have CW := HY.out.waitRecv (by unfold Mx; omega) hp1 hp2
                      unfold F50 at CW
                      clear HY hty HG
                      go_wp2_with fail
                      refine CW.mono ?_
                      rintro e w3 ⟨⟨r, rfl⟩, h3⟩
                      have H3 := hide (h3.out (Nat.le_refl _))
                      clear CW h3 cn cx cK cG
                      go_wp2_with fail
                      go_meet
                      exact H3
                    · have H3 := hide (HY.out.out (Nat.le_succ i))
                      clear HY hty HG
                      go_wp2_with fail
                      go_meet
                      exact H3
                  · have CW := HY.out.trySend hp1 (i : Int)
                    clear HY hty HG
                    go_wp2_with fail
                    refine CW.mono ?_
                    rintro e w3 ⟨⟨r1, r2, rfl⟩, h3⟩
                    have H3 := hide (h3.out (Nat.le_succ i))
                    clear CW h3 cn cx cK cG
                    go_wp2_with fail
                    go_meet
                    exact H3
                  · have CW := HY.out.tryRecv hp1
                    clear HY hty HG
                    go_wp2_with fail
                    refine CW.mono ?_
                    rintro e w3 ⟨he, h3⟩
                    obtain ⟨r1, r2, r3, rfl⟩ := he.out
                    have H3 := hide (h3.out (Nat.le_succ i))
                    clear CW h3 cn cx cK cG
                    go_wp2_with fail
                    go_meet
                    exact H3
                  · have hfg := hty.fG n
                    have HC : Hid (∀ q : Nat, q < 2 → ∀ X, Twn w p i o nb n (x3 x0 x1 x2) X → Calls Tryz.prog 37 #[.pointer (some ⟨(p.c q).C, 0, none⟩), .pointer (some ⟨p.K n, 0, none⟩)] X fun e w' => (∃ r : Int, e = .returned (.int .i64 r)) ∧ (w'.cell? ⟨p.P, 0, none⟩ = some (.pointer (some ⟨(p.c 0).C, 0, none⟩)) ∧ w'.cell? ⟨p.P, 1, none⟩ = some (.pointer (some ⟨(p.c 1).C, 0, none⟩)) ∧ w'.cell? ⟨nb, 0, none⟩ = some (.int .i64 n) ∧ w'.cell? ⟨p.KB, n, none⟩ = some (.pointer (some ⟨p.K n, 0, none⟩))) ∧ Hid (Twn w p i o nb n (x3 x0 x1 x2) w')) := hide (fun q hq X hX => by
                      refine (hX.forget (by omega) hq hp2).mono ?_
                      rintro e w' ⟨he, h'⟩
                      obtain ⟨Q', ht'⟩ := h'.tw
                      exact ⟨he, ⟨ht'.cC (by omega), ht'.cC (by omega), h'.cells.2.2.2, ht'.cK hp2⟩, hide h'⟩)
                    have cP0 := hty.cC (j := 0) (by omega)
                    have cP1 := hty.cC (j := 1) (by omega)
                    have HYD := hide (HY.out.below (Below.refl _ Y).drew)
                    clear hty HG cG hfg cx
                    go_wp2_with fail
                    go_region_held3 (fun X => X.cell? ⟨p.P, 0, none⟩ = some (.pointer (some ⟨(p.c 0).C, 0, none⟩)) ∧ X.cell? ⟨p.P, 1, none⟩ = some (.pointer (some ⟨(p.c 1).C, 0, none⟩)) ∧ X.cell? ⟨nb, 0, none⟩ = some (.int .i64 n) ∧ X.cell? ⟨p.KB, n, none⟩ = some (.pointer (some ⟨p.K n, 0, none⟩)))
                      (first | exact ⟨cP0, cP1, cn, cK⟩ | exact e1)
                      ((go_at_call 37; refine (HC.out 0 (by omega) _ HYD.out).mono ?_; rintro e X1 ⟨⟨r, rfl⟩, e1, h3⟩))
                    clear cP0 cP1 cn cK HY HYD
                    obtain ⟨cP0, cP1, cn, cK⟩ := e1
                    have HYD := hide (h3.out.below (Below.refl _ X1).drew)
                    clear h3
                    go_wp2_with fail
                    go_region_held3 (fun X => X.cell? ⟨p.P, 0, none⟩ = some (.pointer (some ⟨(p.c 0).C, 0, none⟩)) ∧ X.cell? ⟨p.P, 1, none⟩ = some (.pointer (some ⟨(p.c 1).C, 0, none⟩)) ∧ X.cell? ⟨nb, 0, none⟩ = some (.int .i64 n) ∧ X.cell? ⟨p.KB, n, none⟩ = some (.pointer (some ⟨p.K n, 0, none⟩)))
                      (first | exact ⟨cP0, cP1, cn, cK⟩ | exact e1)
                      ((go_at_call 37; refine (HC.out 1 (by omega) _ HYD.out).mono ?_; rintro e X2 ⟨⟨r', rfl⟩, e1, h3⟩))
                    clear cP0 cP1 cn cK HYD HC
                    obtain ⟨cP0, cP1, cn, cK⟩ := e1
                    obtain ⟨Q2, ht2⟩ := h3.out.tw
                    obtain ⟨g2, cG⟩ := ht2.cG hp2
                    have hfg := ht2.fG n
                    have cP2 : ∀ v, (X2.setCell ⟨p.G, n, none⟩ (.int .i64 v)).cell? ⟨p.P, 0, none⟩ = some (.pointer (some ⟨(p.c 0).C, 0, none⟩)) := fun v => by
                      obtain ⟨Q3, ht3⟩ := (h3.out.note hp2 v).tw
                      exact ht3.cC (by omega)
                    have CW := fun v => (h3.out.note hp2 v).waits (j := 0) (by omega)
                    clear h3 ht2
                    go_wp2_with fail
                    refine (CW _).mono ?_
                    rintro e w3 ⟨⟨a1, a2, rfl⟩, h3⟩
                    have hs1 : decide ((a1 : Int) < 0) = false := by simp
                    have hs2 : decide ((a2 : Int) < 0) = false := by simp
                    have H3 := hide (h3.out (Nat.le_succ i))
                    clear CW h3 cP0 cP1 cP2 cn cK cG hfg
                    go_wp2_with fail
                    go_meet
                    exact H3
                  · by_cases hr : x2.tmod 7 = 0
                    · have CW := HY.out.close hp1
                      clear HY hty HG
                      go_wp2_with fail
                      refine CW.mono ?_
                      rintro e w3 ⟨⟨r, rfl⟩, h3⟩
                      have H3 := hide (h3.out (Nat.le_succ i))
                      clear CW h3 cn cx cK cG
                      go_wp2_with fail
                      go_meet
                      exact H3
                    · have H3 := hide (HY.out.out (Nat.le_succ i))
                      clear HY hty HG
                      go_wp2_with fail
                      go_meet
                      exact H3
                case rest =>
                  have HC := hcut
                  clear hcut HY HG
                  go_wp2_with fail
                  go_loopw [147] (fun jv wr => ∃ q : Nat, q ≤ 4 ∧ jv = .int .i64 q ∧ Hid (∃ Q, Tw w p (i + 1) Q wr)) (fun jv _ => 4 - (intOf jv).toNat)
                  case atStart => exact ⟨0, by omega, rfl, HC⟩
                  case round =>
                    clear HC
                    obtain ⟨q, hq, rfl, HC⟩ := hrel
                    by_cases hq4 : q < 4
                    · have hii : decide ((q : Int) < 4) = true := by simp; omega
                      obtain ⟨Q', hw'⟩ := HC.out
                      obtain ⟨g, hg, cF, cT⟩ := hw'.told hq4
                      have hq0 : (0 : Int) ≤ (q : Int) := by omega
                      have hq4' : (q : Int) < 4 := by omega
                      have HN := hide (fun k => hw'.below (bwN wr k))
                      clear hw' HC
                      rcases hg with rfl | rfl
                      · go_wp2_with fail
                        go_quiet (fail)
                        go_wp2_with fail
                        go_roundw
                        case rel => exact ⟨q + 1, by omega, by go_num, hide ⟨_, HN.out _⟩⟩
                        case measure => simp [intOf]; omega
                      · go_wp2_with fail
                        go_quiet (fail)
                        go_wp2_with fail
                        go_roundw
                        case rel => exact ⟨q + 1, by omega, by go_num, hide ⟨_, HN.out _⟩⟩
                        case measure => simp [intOf]; omega
                    · obtain rfl : q = 4 := by omega
                      go_wp2_with fail
                      go_roundw
                      case rel =>
                        repeat apply Exists.intro
                        refine ⟨?relin, rfl⟩
                        exact ⟨i + 1, by omega, by omega, by go_num, HC⟩
                      case measure => simp [intOf]; omega
              · have hi2 : decide ((i : Int) < 60) = false := by simp; omega
                obtain ⟨Q, hw⟩ := hd.out
                have HB := hide hw.bel
                have CA := awake_any wr
                clear hd hw HG
                go_wp2_with fail
                refine CA.mono ?_
                rintro e w5 ⟨rfl, hb5⟩
                have HB5 := hide (HB.out.trans (hb5.mono HB.out.size))
                clear CA hb5 HB
                go_wp2_with fail
                go_ret
                exact ⟨rfl, HB5.out⟩
            · have hi1 : decide ((i : Int) < (gn : Int)) = false := by simp; omega
              obtain ⟨Q, hw⟩ := hd.out
              have HB := hide hw.bel
              have CA := awake_any wr
              clear hd hw HG
              go_wp2_with fail
              refine CA.mono ?_
              rintro e w5 ⟨rfl, hb5⟩
              have HB5 := hide (HB.out.trans (hb5.mono HB.out.size))
              clear CA hb5 HB
              go_wp2_with fail
              go_ret
              exact ⟨rfl, HB5.out⟩
end

end Go.Proofs.YtohndpmjdgfbeaaGreat.CH

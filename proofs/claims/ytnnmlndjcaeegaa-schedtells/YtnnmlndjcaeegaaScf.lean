/-
  SchedTells, its walk.
-/
import Derived.Test.YtnnmlndjcaeegaaSce
import Derived.Deep.CutBlock
import Derived.Deep.DeepCutAuto
namespace Go.Proofs.Ytnnmlndjcaeegaa.schedTells
open Go.RowKit Go.Proofs.Ytnnmlndjcaeegaa Go.Proofs.Ytnnmlndjcaeegaa.QI
set_option maxRecDepth 20000

theorem _root_.Go.Proofs.Ytnnmlndjcaeegaa.QI.Qt.cell {w w' : World} {R G : Nat} {zs : List Int} (k : Qt w w' R G zs) {ad : Addr} {v : Value} (hc : w.cell? ad = some v) (h1 : ad.block ≠ R) (h2 : ad.block ≠ G) : w'.cell? ad = some v := by
  obtain ⟨_, _, _, _, _, t⟩ := k
  exact t.cell hc (fun h => by omega)

theorem szero {w : World} : (w.alloc (.cells #[.pointer none, .pointer none] (47 : TypeId))).cell? ⟨w.heap.size, 0, none⟩ = some (.pointer none) := by
  rw [cell_of_row _ _ 0 _ _ _ (heap_alloc_new w _)]
  rfl

set_option maxHeartbeats 8000000 in
theorem walk (c : Option Addr) (m dap : Nat) (ps : List (Int × Int × Nat)) (w : World) (hB : Cal w c m dap ps) :
    Calls Try.prog 3 #[.slice c m dap] w fun e w' => e = .returned (.bool true) ∧ Below w.heap.size w w' := by
  have CN := sn_new w
  have heb := hB.le
  have hrb := hB.reach
  have HLB := hide hB.len
  have HB := hide hB
  clear hB
  go_enter Try.func3, Try.ntmps3
  go_wp2_with fail
  refine CN.mono ?_
  rintro e w1 ⟨Q, R, G1, rfl, n1⟩
  have HS1 : Hid (Tw w w1 Q R G1 [] (.slice none 0 0) []) := hide ⟨n1.s, n1.q, n1.ex, n1.r, n1.g, ⟨rfl, .inl ⟨rfl, rfl⟩⟩, (fun b h => by cases h), n1.bel⟩
  clear n1 CN
  go_upto_block 0 with fail
  go_cut [4, 5] (fun _ _ wx => Hid (Below w.heap.size w wx))
  case first =>
    go_wp2_with fail
    go_loopw [4, 5] (fun v i wr => ∃ (k G : Nat) (va : Option Addr) (vc L : Nat) (xs : List Int), k ≤ m ∧ k ≤ 400 ∧ i = .int .i64 k ∧ L ≤ 256 ∧ Hid (xs.length = L) ∧ Hid xs.Nodup ∧ v = .slice va L vc ∧ Hid (Tw w wr Q R G xs v xs)) (fun _ i _ => m - (intOf i).toNat)
    case atStart => exact ⟨0, G1, none, 0, 0, [], Nat.zero_le _, by omega, rfl, by omega, hide rfl, hide List.nodup_nil, rfl, HS1⟩
    case round =>
      obtain ⟨k, G, va, vc, L, xs, hk, hk4, rfl, hL2, HL, HN, rfl, hs⟩ := hrel
      clear HS1
      by_cases hlt1 : k < m
      · by_cases hlt2 : k < 400
        · obtain ⟨b1, o1, rfl, hc1⟩ := (HB.out.keep hs.out.t.bel).lies (by omega)
          obtain ⟨g1, g2, g3⟩ := hc1 k hlt1
          have hpp : (ps.getD k (0, 0, 0)).2.2 ≤ 18446744073709551615 := by
            have hkl : k < ps.length := by rw [HLB.out]; exact hlt1
            refine HB.out.few _ ?_
            simp [List.getD, List.getElem?_eq_getElem hkl]
          generalize ps.getD k (0, 0, 0) = pp at *
          obtain ⟨kd, z, p⟩ := pp
          simp only at g1 g2 g3 hpp
          obtain ⟨X, hX⟩ : ∃ X, Hid (X = wr.alloc (.cells #[.int .i64 kd, .int .i64 z, .int .u64 (p : Int)] (28 : TypeId))) := ⟨_, hide rfl⟩
          have s0 : Tw w X Q R G xs (.slice va L vc) xs := by rw [hX.out]; exact hs.out.below ((Below.refl _ wr).alloc (Nat.le_refl _) _)
          have x0 : X.cell? ⟨wr.heap.size, 0, none⟩ = some (.int .i64 kd) := by
            rw [hX.out, cell_of_row _ _ 0 _ _ _ (heap_alloc_new wr _)]
            rfl
          have x1 : X.cell? ⟨wr.heap.size, 1, none⟩ = some (.int .i64 z) := by
            rw [hX.out, cell_of_row _ _ 1 _ _ _ (heap_alloc_new wr _)]
            rfl
          have x2 : X.cell? ⟨wr.heap.size, 2, none⟩ = some (.int .u64 (p : Int)) := by
            rw [hX.out, cell_of_row _ _ 2 _ _ _ (heap_alloc_new wr _)]
            rfl
          have hRB : wr.heap.size ≠ R ∧ wr.heap.size ≠ G := by
            obtain ⟨N, h, q⟩ := hs.out.t.ex
            have := q.lt
            have := q.glt
            omega
          clear hc1 hs
          by_cases hd0 : kd = 0
          · subst hd0
            obtain ⟨ys, hys⟩ : ∃ ys, Hid (ys = rdL xs z) := ⟨_, hide rfl⟩
            obtain ⟨L5, hL5⟩ : ∃ L5, L5 = ys.length := ⟨_, rfl⟩
            have HL5 : Hid (ys.length = L5) := hide hL5.symm
            have HN5 : Hid ys.Nodup := hide (by rw [hys.out]; exact rdL_nodup HN.out z)
            have hl5 : L5 ≤ 256 := by rw [hL5, hys.out]; exact rdL_length (by rw [HL.out]; exact hL2) z
            clear hL5
            have CR : Hid (Calls Try.prog 7 #[.slice va L vc, .int .i64 z] X fun e w' => ∃ va5 vc5, e = .returned (.tuple #[.slice va5 L5 vc5, .int .i64 (rdE xs z)]) ∧ Tw w w' Q R G xs (.slice va5 L5 vc5) ys ∧ w'.cell? ⟨wr.heap.size, 1, none⟩ = some (.int .i64 z)) := hide ((s0.refready HL.out hL2 z).mono (by
              rintro e w' ⟨va5, vc5, rfl, s', b'⟩
              rw [← hys.out, HL5.out] at s' ⊢
              exact ⟨va5, vc5, rfl, s', (b'.cell (cell_lt x1)).trans x1⟩))
            clear s0 x2
            go_wp2_with fail
            rw [← hX.out]
            refine CR.out.mono ?_
            rintro e w4 ⟨va5, vc5, rfl, s4, c41⟩
            have CP : Hid (Calls Try.prog 8 #[.pointer (some ⟨Q, 0, none⟩), .int .i64 z] w4 fun e w' => e = .returned (.int .i64 (rdE xs z)) ∧ ∃ G5, Tw w w' Q R G5 ys (.slice va5 L5 vc5) ys) := hide (by
              obtain ⟨N4, h4, q4⟩ := s4.t.ex
              refine (ready_any s4.s q4 z).mono ?_
              rintro e w' ⟨rfl, kk⟩
              rw [← hys.out] at kk
              exact ⟨rfl, s4.turn kk⟩)
            generalize rdE xs z = ee at *
            clear CR s4 hX x0 x1
            go_wp2_with fail
            refine CP.out.mono ?_
            rintro e w5 ⟨rfl, G5, s5⟩
            have HS5 := hide s5
            clear CP s5 c41
            go_wp2_with fail

            obtain ⟨N5, h5, q5⟩ := HS5.out.t.ex
            have CLn := slen_yes HS5.out.s q5
            have CLi := slist_yes HS5.out.s q5
            rw [HL5.out] at CLn CLi
            refine CLn.mono ?_
            rintro e w6 ⟨rfl, hw6⟩
            subst w6
            clear CLn q5
            go_wp2_with fail
            refine CLi.mono ?_
            rintro e w7 ⟨a7, c7, rfl, ho7, hb7⟩
            have s7 := HS5.out.below hb7
            have r7 := s7.t.row
            rw [HL5.out] at r7
            have CS := same_yes a7 va5 L5 c7 vc5 ys w7 (own_ls ho7) (own_ls r7)
            have HS7 := hide s7
            clear ho7 hb7 s7 r7 CLi HS5
            go_wp2_with fail
            refine CS.mono ?_
            rintro e w8 ⟨rfl, q8, rfl⟩
            have HS8 := hide (HS7.out.drew q8)
            clear CS HS7
            go_wp2_with fail
            go_roundw
            case rel => exact ⟨k + 1, G5, va5, vc5, L5, ys, by omega, by omega, by go_num, hl5, HL5, HN5, rfl, HS8⟩
            case measure => simp [intOf]; omega
          by_cases hd1 : kd = 1
          · subst hd1
            obtain ⟨ys, hys⟩ : ∃ ys, Hid (ys = rdL xs z) := ⟨_, hide rfl⟩
            obtain ⟨L5, hL5⟩ : ∃ L5, L5 = ys.length := ⟨_, rfl⟩
            have HL5 : Hid (ys.length = L5) := hide hL5.symm
            have HN5 : Hid ys.Nodup := hide (by rw [hys.out]; exact rdL_nodup HN.out z)
            have hl5 : L5 ≤ 256 := by rw [hL5, hys.out]; exact rdL_length (by rw [HL.out]; exact hL2) z
            clear hL5
            have CR : Hid (Calls Try.prog 7 #[.slice va L vc, .int .i64 z] X fun e w' => ∃ va5 vc5, e = .returned (.tuple #[.slice va5 L5 vc5, .int .i64 (rdE xs z)]) ∧ Tw w w' Q R G xs (.slice va5 L5 vc5) ys ∧ w'.cell? ⟨wr.heap.size, 1, none⟩ = some (.int .i64 z)) := hide ((s0.refready HL.out hL2 z).mono (by
              rintro e w' ⟨va5, vc5, rfl, s', b'⟩
              rw [← hys.out, HL5.out] at s' ⊢
              exact ⟨va5, vc5, rfl, s', (b'.cell (cell_lt x1)).trans x1⟩))
            clear s0 x2
            go_wp2_with fail
            rw [← hX.out]
            refine CR.out.mono ?_
            rintro e w4 ⟨va5, vc5, rfl, s4, c41⟩
            have CP : Hid (Calls Try.prog 8 #[.pointer (some ⟨Q, 0, none⟩), .int .i64 z] w4 fun e w' => e = .returned (.int .i64 (rdE xs z)) ∧ ∃ G5, Tw w w' Q R G5 ys (.slice va5 L5 vc5) ys) := hide (by
              obtain ⟨N4, h4, q4⟩ := s4.t.ex
              refine (ready_any s4.s q4 z).mono ?_
              rintro e w' ⟨rfl, kk⟩
              rw [← hys.out] at kk
              exact ⟨rfl, s4.turn kk⟩)
            generalize rdE xs z = ee at *
            clear CR s4 hX x0 x1
            go_wp2_with fail
            refine CP.out.mono ?_
            rintro e w5 ⟨rfl, G5, s5⟩
            have HS5 := hide s5
            clear CP s5 c41
            go_wp2_with fail

            obtain ⟨N5, h5, q5⟩ := HS5.out.t.ex
            have CLn := slen_yes HS5.out.s q5
            have CLi := slist_yes HS5.out.s q5
            rw [HL5.out] at CLn CLi
            refine CLn.mono ?_
            rintro e w6 ⟨rfl, hw6⟩
            subst w6
            clear CLn q5
            go_wp2_with fail
            refine CLi.mono ?_
            rintro e w7 ⟨a7, c7, rfl, ho7, hb7⟩
            have s7 := HS5.out.below hb7
            have r7 := s7.t.row
            rw [HL5.out] at r7
            have CS := same_yes a7 va5 L5 c7 vc5 ys w7 (own_ls ho7) (own_ls r7)
            have HS7 := hide s7
            clear ho7 hb7 s7 r7 CLi HS5
            go_wp2_with fail
            refine CS.mono ?_
            rintro e w8 ⟨rfl, q8, rfl⟩
            have HS8 := hide (HS7.out.drew q8)
            clear CS HS7
            go_wp2_with fail
            go_roundw
            case rel => exact ⟨k + 1, G5, va5, vc5, L5, ys, by omega, by omega, by go_num, hl5, HL5, HN5, rfl, HS8⟩
            case measure => simp [intOf]; omega
          by_cases hd2 : kd = 2
          · subst hd2
            by_cases hL0 : L = 0
            · subst hL0
              obtain rfl : xs = [] := List.eq_nil_of_length_eq_zero HL.out
              obtain ⟨va5, hva5⟩ : ∃ va5, va5 = va := ⟨_, rfl⟩
              obtain ⟨vc5, hvc⟩ : ∃ vc5, vc5 = vc := ⟨_, rfl⟩
              subst hva5 hvc
              have CR := refpick_no (w := X) va5 vc5 (p : Int)
              have CP := s0.sn.pick0 (p : Int)
              have HS0 := hide s0
              clear s0 x1
              go_wp2_with fail
              rw [← hX.out]
              refine CR.mono ?_
              rintro e w4 ⟨rfl, hw4⟩
              subst w4
              clear CR hX x0
              go_wp2_with fail
              refine CP.mono ?_
              rintro e w5 ⟨rfl, hw5⟩
              subst w5
              obtain ⟨ys, hys⟩ : ∃ ys : List Int, Hid (ys = []) := ⟨_, hide rfl⟩
              have HL5 : Hid (ys.length = 0) := hide (by rw [hys.out]; rfl)
              have HN5 : Hid ys.Nodup := hide (by rw [hys.out]; exact List.nodup_nil)
              have hl5 : 0 ≤ 256 := by omega
              have HS5 : Hid (Tw w X Q R G ys (.slice va5 0 vc5) ys) := hide (by rw [hys.out]; exact HS0.out)
              obtain ⟨G5, hG5⟩ : ∃ G5, G5 = G := ⟨_, rfl⟩
              subst hG5
              clear CP HS0 x2
              go_wp2_with fail
              obtain ⟨N5, h5, q5⟩ := HS5.out.t.ex
              have CLn := slen_yes HS5.out.s q5
              have CLi := slist_yes HS5.out.s q5
              rw [HL5.out] at CLn CLi
              refine CLn.mono ?_
              rintro e w6 ⟨rfl, hw6⟩
              subst w6
              clear CLn q5
              go_wp2_with fail
              refine CLi.mono ?_
              rintro e w7 ⟨a7, c7, rfl, ho7, hb7⟩
              have s7 := HS5.out.below hb7
              have r7 := s7.t.row
              rw [HL5.out] at r7
              have CS := same_yes a7 va5 0 c7 vc5 ys w7 (own_ls ho7) (own_ls r7)
              have HS7 := hide s7
              clear ho7 hb7 s7 r7 CLi HS5
              go_wp2_with fail
              refine CS.mono ?_
              rintro e w8 ⟨rfl, q8, rfl⟩
              have HS8 := hide (HS7.out.drew q8)
              clear CS HS7
              go_wp2_with fail
              go_roundw
              case rel => exact ⟨k + 1, G5, va5, vc5, 0, ys, by omega, by omega, by go_num, hl5, HL5, HN5, rfl, HS8⟩
              case measure => simp [intOf]; omega

            · have hL1 : 0 < L := by omega
              have hmod : p % L < L := Nat.mod_lt _ hL1
              have hdl : p / L ≤ p := Nat.div_le_self _ _
              obtain ⟨ys, hys⟩ : ∃ ys, Hid (ys = xs.eraseIdx (p % L)) := ⟨_, hide rfl⟩
              obtain ⟨L5, hL5⟩ : ∃ L5, Hid (L5 = L - 1) := ⟨_, hide rfl⟩
              have HL5 : Hid (ys.length = L5) := hide (by rw [hys.out, List.length_eraseIdx, if_pos (by rw [HL.out]; exact hmod), HL.out, hL5.out])
              have HN5 : Hid ys.Nodup := hide (by rw [hys.out]; exact er_nodup HN.out _)
              have hl5 : L5 ≤ 256 := by rw [hL5.out]; omega
              have CR : Hid (Calls Try.prog 9 #[.slice va L vc, .int .u64 (p : Int)] X fun e w' => ∃ va5 vc5, e = .returned (.tuple #[.slice va5 L5 vc5, .int .i64 (xs.getD (p % L) 0), .int .u64 (p / L : Nat), .bool true]) ∧ Tw w w' Q R G xs (.slice va5 L5 vc5) ys ∧ w'.cell? ⟨wr.heap.size, 2, none⟩ = some (.int .u64 (p : Int))) := hide ((s0.refpick HL.out hL2 hL1 p hpp).mono (by
                rintro e w' ⟨va5, vc5, rfl, s', b'⟩
                rw [← hys.out, ← hL5.out] at s'
                rw [← hL5.out]
                exact ⟨va5, vc5, rfl, s', (b'.cell (cell_lt x2)).trans x2⟩))
              clear s0 x1
              go_wp2_with fail
              rw [← hX.out]
              refine CR.out.mono ?_
              rintro e w4 ⟨va5, vc5, rfl, s4, c42⟩
              have CP : Hid (Calls Try.prog 10 #[.pointer (some ⟨Q, 0, none⟩), .int .u64 (p : Int)] w4 fun e w' => e = .returned (.tuple #[.int .i64 (xs.getD (p % L) 0), .int .u64 (p / L : Nat), .bool true]) ∧ ∃ G5, Tw w w' Q R G5 ys (.slice va5 L5 vc5) ys) := hide (by
                obtain ⟨N4, h4, q4⟩ := s4.t.ex
                refine (pick_yes s4.s q4 (by rw [HL.out]; exact hL1) p hpp).mono ?_
                rw [HL.out]
                rintro e w' ⟨rfl, kk⟩
                rw [← hys.out] at kk
                exact ⟨rfl, s4.turn kk⟩)
              generalize xs.getD (p % L) 0 = x at *
              generalize p / L = dd at *
              clear CR s4 hX x0 x2
              go_wp2_with fail
              refine CP.out.mono ?_
              rintro e w5 ⟨rfl, G5, s5⟩
              have HS5 := hide s5
              clear CP s5 c42
              go_wp2_with fail
              obtain ⟨N5, h5, q5⟩ := HS5.out.t.ex
              have CLn := slen_yes HS5.out.s q5
              have CLi := slist_yes HS5.out.s q5
              rw [HL5.out] at CLn CLi
              refine CLn.mono ?_
              rintro e w6 ⟨rfl, hw6⟩
              subst w6
              clear CLn q5
              go_wp2_with fail
              refine CLi.mono ?_
              rintro e w7 ⟨a7, c7, rfl, ho7, hb7⟩
              have s7 := HS5.out.below hb7
              have r7 := s7.t.row
              rw [HL5.out] at r7
              have CS := same_yes a7 va5 L5 c7 vc5 ys w7 (own_ls ho7) (own_ls r7)
              have HS7 := hide s7
              clear ho7 hb7 s7 r7 CLi HS5
              go_wp2_with fail
              refine CS.mono ?_
              rintro e w8 ⟨rfl, q8, rfl⟩
              have HS8 := hide (HS7.out.drew q8)
              clear CS HS7
              go_wp2_with fail
              go_roundw
              case rel => exact ⟨k + 1, G5, va5, vc5, L5, ys, by omega, by omega, by go_num, hl5, HL5, HN5, rfl, HS8⟩
              case measure => simp [intOf]; omega
          by_cases hd3 : kd = 3
          · subst hd3
            obtain ⟨ys, hys⟩ : ∃ ys, Hid (ys = rid xs z) := ⟨_, hide rfl⟩
            obtain ⟨L5, hL5⟩ : ∃ L5, L5 = ys.length := ⟨_, rfl⟩
            have HL5 : Hid (ys.length = L5) := hide hL5.symm
            have HN5 : Hid ys.Nodup := hide (by rw [hys.out]; exact rid_nodup HN.out z)
            have hl5 : L5 ≤ 256 := by
              have h1 := rid_length xs z
              rw [← hys.out, HL.out, ← hL5] at h1
              omega
            clear hL5
            have hr0 := s0.t.row
            rw [HL.out] at hr0
            have CPl := place_any (own_ls hr0) z
            have HRW : Hid (rid xs z = wo xs (plI xs z)) := hide (rid_wo HN.out z)
            have HS0 := hide s0
            have hle0 := (own_ls hr0).le
            have hre0 := (own_ls hr0).reach
            have CG : Hid (Calls Try.prog 12 #[.pointer (some ⟨Q, 0, none⟩), .int .i64 z] X fun e w' => e = .returned (.bool (decide (0 ≤ plI xs z))) ∧ ∃ G5, Tw w w' Q R G5 ys (.slice va L vc) xs) := hide (by
              obtain ⟨N4, h4, q4⟩ := s0.t.ex
              refine (gone_any s0.s q4 z).mono ?_
              rintro e w' ⟨rfl, kk⟩
              rw [← hys.out] at kk
              exact ⟨by rw [rid_lt], s0.turn kk⟩)
            have HIX : Hid (∀ z', z' = plI xs z → rid xs z = wo xs z') := hide (fun z' h => by rw [h]; exact HRW.out)
            obtain ⟨ix, hix⟩ : ∃ ix, Hid (ix = plI xs z) := ⟨_, hide rfl⟩
            rw [← hix.out] at CPl CG
            have HYW : Hid (ys = wo xs ix) := hide (by rw [hys.out]; exact HIX.out ix hix.out)
            clear s0 hr0 x2 HRW HIX
            go_wp2_with fail
            rw [← hX.out]
            refine CPl.mono ?_
            rintro e w4 ⟨rfl, hw4⟩
            subst w4
            clear CPl hX x0
            go_wp2_with fail
            refine CG.out.mono ?_
            rintro e w5 ⟨rfl, G5, s5⟩
            have r5 := s5.t.row
            rw [HL.out] at r5
            have HW : Hid (Calls Try.prog 13 #[.slice va L vc, .int .i64 ix] w5 fun e w' => ∃ va5 vc5, e = .returned (.slice va5 L5 vc5) ∧ Tw w w' Q R G5 ys (.slice va5 L5 vc5) ys) := hide ((without_any (own_ls r5) (by unfold Mx; omega) ix).mono (by
              rintro e w' ⟨v, rfl, ho, hb⟩
              rw [← HYW.out] at ho
              obtain ⟨va5, vc5, rfl⟩ := row_val ho
              have s6 := s5.fresh ho hb
              rw [HL5.out] at s6
              exact ⟨va5, vc5, by rw [HL5.out], s6⟩))
            clear s5 r5 CG HS0
            by_cases hix0 : 0 ≤ ix
            · go_wp2_with fail
              refine HW.out.mono ?_
              rintro e w6 ⟨va5, vc5, rfl, s6⟩
              have HS5 := hide s6
              clear HW s6 x1
              go_wp2_with fail
              obtain ⟨N5, h5, q5⟩ := HS5.out.t.ex
              have CLn := slen_yes HS5.out.s q5
              have CLi := slist_yes HS5.out.s q5
              rw [HL5.out] at CLn CLi
              refine CLn.mono ?_
              rintro e w6 ⟨rfl, hw6⟩
              subst w6
              clear CLn q5
              go_wp2_with fail
              refine CLi.mono ?_
              rintro e w7 ⟨a7, c7, rfl, ho7, hb7⟩
              have s7 := HS5.out.below hb7
              have r7 := s7.t.row
              rw [HL5.out] at r7
              have CS := same_yes a7 va5 L5 c7 vc5 ys w7 (own_ls ho7) (own_ls r7)
              have HS7 := hide s7
              clear ho7 hb7 s7 r7 CLi HS5
              go_wp2_with fail
              refine CS.mono ?_
              rintro e w8 ⟨rfl, q8, rfl⟩
              have HS8 := hide (HS7.out.drew q8)
              clear CS HS7
              go_wp2_with fail
              go_roundw
              case rel => exact ⟨k + 1, G5, va5, vc5, L5, ys, by omega, by omega, by go_num, hl5, HL5, HN5, rfl, HS8⟩
              case measure => simp [intOf]; omega

            · go_wp2_with fail
              refine HW.out.mono ?_
              rintro e w6 ⟨va5, vc5, rfl, s6⟩
              have HS5 := hide s6
              clear HW s6 x1
              go_wp2_with fail
              obtain ⟨N5, h5, q5⟩ := HS5.out.t.ex
              have CLn := slen_yes HS5.out.s q5
              have CLi := slist_yes HS5.out.s q5
              rw [HL5.out] at CLn CLi
              refine CLn.mono ?_
              rintro e w6 ⟨rfl, hw6⟩
              subst w6
              clear CLn q5
              go_wp2_with fail
              refine CLi.mono ?_
              rintro e w7 ⟨a7, c7, rfl, ho7, hb7⟩
              have s7 := HS5.out.below hb7
              have r7 := s7.t.row
              rw [HL5.out] at r7
              have CS := same_yes a7 va5 L5 c7 vc5 ys w7 (own_ls ho7) (own_ls r7)
              have HS7 := hide s7
              clear ho7 hb7 s7 r7 CLi HS5
              go_wp2_with fail
              refine CS.mono ?_
              rintro e w8 ⟨rfl, q8, rfl⟩
              have HS8 := hide (HS7.out.drew q8)
              clear CS HS7
              go_wp2_with fail
              go_roundw
              case rel => exact ⟨k + 1, G5, va5, vc5, L5, ys, by omega, by omega, by go_num, hl5, HL5, HN5, rfl, HS8⟩
              case measure => simp [intOf]; omega
          by_cases hd4 : kd = 4
          · subst hd4
            obtain ⟨ys, hys⟩ : ∃ ys, ys = xs := ⟨_, rfl⟩
            obtain ⟨L5, hL5⟩ : ∃ L5, L5 = L := ⟨_, rfl⟩
            obtain ⟨va5, hva5⟩ : ∃ va5, va5 = va := ⟨_, rfl⟩
            obtain ⟨vc5, hvc⟩ : ∃ vc5, vc5 = vc := ⟨_, rfl⟩
            subst hys hL5 hva5 hvc
            have HL5 := HL
            have HN5 := HN
            have hl5 := hL2

            obtain ⟨G5, hG5⟩ : ∃ G5, G5 = G := ⟨_, rfl⟩
            subst hG5

            obtain ⟨N4, h4, q4⟩ := s0.t.ex
            have CL := slist_yes s0.s q4
            rw [HL5.out] at CL
            have HS0 := hide s0
            clear q4 s0 x2
            go_wp2_with fail
            rw [← hX.out]
            refine CL.mono ?_
            rintro e w4 ⟨a4, c4, rfl, ho4, hb4⟩
            have hle4 := (own_ls ho4).le
            have hre4 := (own_ls ho4).reach
            have hsp : Hid (0 < L5 → ∃ g cur, a4 = some ⟨g, 0, none⟩ ∧ X.heap.size ≤ g ∧ w4.heap[g]? = some (.cells cur 3 (0, 0)) ∧ cur.size = c4) := hide (fun h0 => by
              rcases ho4.2 with ⟨h1, h2⟩ | ⟨g, c', cur, h1, h2, h3, _, _, h5, _⟩
              · omega
              · simp only [Value.slice.injEq] at h1
                obtain ⟨h1, _, rfl⟩ := h1
                exact ⟨g, cur, h1, h2, h3, by rw [h5]; omega⟩)
            have HS9 := HS0
            have HB4 := hide hb4
            clear ho4 hb4 CL hX x0 x1 HS0
            go_wp2_with fail
            obtain ⟨wk, hwk⟩ : ∃ wk : World, wk = wr := ⟨_, rfl⟩
            subst hwk
            go_loopw [18] (fun i wr => ∃ j : Nat, j ≤ L5 ∧ i = .int .i64 j ∧ Hid (Below X.heap.size X wr) ∧ Hid (∀ g, a4 = some ⟨g, 0, none⟩ → 0 < L5 → ∃ cur, wr.heap[g]? = some (.cells cur 3 (0, 0)) ∧ cur.size = c4)) (fun i _ => L5 - (intOf i).toNat)
            case atStart => exact ⟨0, Nat.zero_le _, rfl, HB4, hide (fun g hg h0 => by
              obtain ⟨g', cur, h1, _, h3, h4⟩ := hsp.out h0
              rw [hg] at h1
              simp only [Option.some.injEq, Addr.mk.injEq, and_true] at h1
              rw [h1]
              exact ⟨cur, h3, h4⟩)⟩
            case round =>
              obtain ⟨j, hj, rfl, hbj, hrow⟩ := hrel
              by_cases hlt : j < L5
              · obtain ⟨g, _, hg, hge, _⟩ := hsp.out (by omega)
                obtain ⟨cur, hcur, hcs⟩ := hrow.out g hg (by omega)
                subst hg
                obtain ⟨u, hu⟩ : ∃ u, wr.cell? ⟨g, j, none⟩ = some u := ⟨cur[j]'(by omega), by
                  rw [cell_of_row wr g j _ _ _ hcur]
                  exact Array.getElem?_eq_getElem _⟩
                have hf := frozen_of_row wr g j _ _ hcur
                have hnew : Hid (∀ x, (wr.setCell ⟨g, j, none⟩ x).heap[g]? = some (.cells (cur.setIfInBounds j x) 3 (0, 0))) := hide (fun x => heap_setCell_same wr g j cur 3 x hcur)
                have HCS := hide hcs
                have HB' : Hid (∀ x, Below X.heap.size X (wr.setCell ⟨g, j, none⟩ x)) := hide (fun x => hbj.out.setCell hge x)
                clear hrow hcur hcs
                go_wp2_with fail
                go_roundw
                case rel => exact ⟨j + 1, by omega, by go_num, hide (HB'.out _), hide (fun g' hg' _ => by
                  simp only [Option.some.injEq, Addr.mk.injEq, and_true] at hg'
                  subst hg'
                  exact ⟨_, hnew.out _, by rw [Array.size_setIfInBounds]; exact HCS.out⟩)⟩
                case measure => simp [intOf]; omega
              · obtain rfl : L5 = j := by omega
                have HS5 := hide (HS9.out.below hbj.out)
                clear hrow
                go_wp2_with fail
                obtain ⟨N5, h5, q5⟩ := HS5.out.t.ex
                have CLn := slen_yes HS5.out.s q5
                have CLi := slist_yes HS5.out.s q5
                rw [HL5.out] at CLn CLi
                refine CLn.mono ?_
                rintro e w6 ⟨rfl, hw6⟩
                subst w6
                clear CLn q5
                go_wp2_with fail
                refine CLi.mono ?_
                rintro e w7 ⟨a7, c7, rfl, ho7, hb7⟩
                have s7 := HS5.out.below hb7
                have r7 := s7.t.row
                rw [HL5.out] at r7
                have CS := same_yes a7 va5 L5 c7 vc5 ys w7 (own_ls ho7) (own_ls r7)
                have HS7 := hide s7
                clear ho7 hb7 s7 r7 CLi HS5
                go_wp2_with fail
                refine CS.mono ?_
                rintro e w8 ⟨rfl, q8, rfl⟩
                have HS8 := hide (HS7.out.drew q8)
                clear CS HS7
                go_wp2_with fail
                go_roundw
                case rel => exact ⟨k + 1, G5, va5, vc5, L5, ys, by omega, by omega, by go_num, hl5, HL5, HN5, rfl, HS8⟩
                case measure => simp [intOf]; omega
          obtain ⟨ys, hys⟩ : ∃ ys, ys = xs := ⟨_, rfl⟩
          obtain ⟨L5, hL5⟩ : ∃ L5, L5 = L := ⟨_, rfl⟩
          obtain ⟨va5, hva5⟩ : ∃ va5, va5 = va := ⟨_, rfl⟩
          obtain ⟨vc5, hvc⟩ : ∃ vc5, vc5 = vc := ⟨_, rfl⟩
          subst hys hL5 hva5 hvc
          have HL5 := HL
          have HN5 := HN
          have hl5 := hL2

          obtain ⟨G5, hG5⟩ : ∃ G5, G5 = G := ⟨_, rfl⟩
          subst hG5

          have HS5 := hide s0
          clear s0
          go_wp2_with fail
          rw [← hX.out]
          clear hX x0 x1 x2

          obtain ⟨N5, h5, q5⟩ := HS5.out.t.ex
          have CLn := slen_yes HS5.out.s q5
          have CLi := slist_yes HS5.out.s q5
          rw [HL5.out] at CLn CLi
          refine CLn.mono ?_
          rintro e w6 ⟨rfl, hw6⟩
          subst w6
          clear CLn q5
          go_wp2_with fail
          refine CLi.mono ?_
          rintro e w7 ⟨a7, c7, rfl, ho7, hb7⟩
          have s7 := HS5.out.below hb7
          have r7 := s7.t.row
          rw [HL5.out] at r7
          have CS := same_yes a7 va5 L5 c7 vc5 ys w7 (own_ls ho7) (own_ls r7)
          have HS7 := hide s7
          clear ho7 hb7 s7 r7 CLi HS5
          go_wp2_with fail
          refine CS.mono ?_
          rintro e w8 ⟨rfl, q8, rfl⟩
          have HS8 := hide (HS7.out.drew q8)
          clear CS HS7
          go_wp2_with fail
          go_roundw
          case rel => exact ⟨k + 1, G5, va5, vc5, L5, ys, by omega, by omega, by go_num, hl5, HL5, HN5, rfl, HS8⟩
          case measure => simp [intOf]; omega
        · have HBE := hide hs.out.t.bel
          clear hs
          go_wp2_with fail
          go_meet
          exact HBE
      · have HBE := hide hs.out.t.bel
        clear hs
        go_wp2_with fail
        go_meet
        exact HBE
  case rest =>
    clear HS1
    obtain ⟨WK, hWK⟩ : ∃ WK : World, Hid (WK = wc) := ⟨_, hide rfl⟩
    have C1 := pick_no (slen_none (smade_nil wc)) 0
    go_wp2_with fail
    refine C1.mono ?_
    rintro e w2 ⟨rfl, hw2⟩
    subst w2
    clear C1
    have b1 := hide (hcut.out.alloc hcut.out.size (.cells #[.pointer none, .pointer none] (47 : TypeId)))
    obtain ⟨Y, hY⟩ : ∃ Y, Hid (Y = wc.alloc (.cells #[.pointer none, .pointer none] (47 : TypeId))) := ⟨_, hide rfl⟩
    have C2 : Hid (Calls Try.prog 10 #[.pointer (some ⟨wc.heap.size, 0, none⟩), .int .u64 0] Y fun e w' => e = .returned (.tuple #[.int .i64 0, .int .u64 0, .bool false]) ∧ w' = Y) := hide (by rw [hY.out]; exact pick_no (slen_none (smade_zero szero)) 0)
    rw [← hY.out] at b1
    go_wp2_with (first | (rw [← hY.out]))
    refine C2.out.mono ?_
    rintro e w3 ⟨rfl, hw3⟩
    subst w3
    clear C2 hcut
    have C3 := ready_none (smade_nil Y) 1
    go_wp2_with fail
    refine C3.mono ?_
    rintro e w4 ⟨rfl, hw4⟩
    subst w4
    clear C3 hY hWK WK
    have b2 := hide (b1.out.alloc b1.out.size (.cells #[.pointer none, .pointer none] (47 : TypeId)))
    obtain ⟨Z, hZ⟩ : ∃ Z, Hid (Z = Y.alloc (.cells #[.pointer none, .pointer none] (47 : TypeId))) := ⟨_, hide rfl⟩
    have C4 : Hid (Calls Try.prog 8 #[.pointer (some ⟨Y.heap.size, 0, none⟩), .int .i64 1] Z fun e w' => e = .returned (.int .i64 1) ∧ w' = Z) := hide (by rw [hZ.out]; exact ready_none (smade_zero szero) 1)
    rw [← hZ.out] at b2
    go_wp2_with (first | (rw [← hZ.out]))
    refine C4.out.mono ?_
    rintro e w5 ⟨rfl, hw5⟩
    subst w5
    clear C4 b1 hZ
    have C5 := slen_none (smade_nil Z)
    go_wp2_with fail
    refine C5.mono ?_
    rintro e w6 ⟨rfl, hw6⟩
    subst w6
    clear C5
    have C6 := gone_none (w := Z) 1 (fun w' _ => smade_nil w')
    go_wp2_with fail
    refine C6.mono ?_
    rintro e w7 ⟨rfl, b7⟩
    have b3 := hide (b2.out.trans (b7.mono b2.out.size))
    clear C6 b7 b2
    have C7 := slist_none (smade_nil w7)
    go_wp2_with fail
    refine C7.mono ?_
    rintro e w8 ⟨rfl, hw8⟩
    subst w8
    clear C7
    go_wp2_with fail
    refine (sawake_any w7).mono ?_
    rintro e w9 ⟨rfl, hb9⟩
    have HF := hide (b3.out.trans (hb9.mono b3.out.size))
    clear hb9
    go_wp2_with fail
    go_ret
    exact ⟨rfl, HF.out⟩

end Go.Proofs.Ytnnmlndjcaeegaa.schedTells

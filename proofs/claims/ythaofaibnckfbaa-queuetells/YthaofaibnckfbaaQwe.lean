/-
  QueueTells, its walk.
-/
import Derived.Test.YthaofaibnckfbaaQwd
namespace Go.Proofs.Ythaofaibnckfbaa.queueTells
open Go.RowKit Go.Proofs.Ythaofaibnckfbaa Go.Proofs.Ythaofaibnckfbaa.QI
set_option maxRecDepth 100000

theorem _root_.Go.Proofs.Ythaofaibnckfbaa.QI.Qt.cell {w w' : World} {R G : Nat} {zs : List Int} (k : Qt w w' R G zs) {ad : Addr} {v : Value} (hc : w.cell? ad = some v) (h1 : ad.block ≠ R) (h2 : ad.block ≠ G) : w'.cell? ad = some v := by
  obtain ⟨_, _, _, _, _, t⟩ := k
  exact t.cell hc (fun h => by omega)

set_option maxHeartbeats 8000000 in
theorem walk (a : Option Addr) (n cap : Nat) (l : List Int) (c : Option Addr) (m dap : Nat) (ps : List (Int × Int)) (w : World) (hA : Ls w a n cap l) (hn : n * 8 ≤ 140737488351232) (hB : Cal w c m dap ps) :
    Calls Try.prog 3 #[.slice a n cap, .slice c m dap] w fun e w' => e = .returned (.bool true) ∧ Below w.heap.size w w' := by
  have CO : Hid (Calls Try.prog 7 #[.slice a n cap] w fun e w' => ∃ c d, e = .returned (.slice c n d) ∧ Ls w' c n d l ∧ (∀ ad, c = some ad → ad.block < w'.heap.size) ∧ Below w.heap.size w w') := hide ((copy_any hA (by unfold Mx; omega)).mono (by
    rintro e w' ⟨c, d, rfl, ho, hb⟩
    have hln := hA.len
    refine ⟨c, d, rfl, ?_, fun ad h => ?_, hb⟩
    · rw [hln] at ho
      exact own_ls ho
    · subst h
      rcases ho.2 with ⟨h1, _⟩ | ⟨g, c', cur, h1, _, hg, _⟩
      · cases h1
      · simp only [Value.slice.injEq, Option.some.injEq] at h1
        rw [h1.1]
        exact heap_lt hg))
  have hla := hA.len
  have hea := hA.le
  have hra := hA.reach
  have heb := hB.le
  have hrb := hB.reach
  have hlb := hB.len
  have HL := hide hla
  have HLB := hide hlb
  have HA := hide hA
  have HB := hide hB
  clear hA hB hla hlb
  go_enter Try.func3, Try.ntmps3
  go_wp2_with fail
  refine CO.out.mono ?_
  rintro e w1 ⟨c1, d1, rfl, l1, hl1, b1⟩
  have CF := of_any l1 hl1 (by unfold Mx; omega)
  have HB1 := hide b1
  clear CO l1 hl1 b1
  go_wp2_with fail
  refine CF.mono ?_
  rintro e w2 ⟨rfl, q2, b2⟩
  have s2 : Two w w2 w1.heap.size (w1.heap.size + 1) l (.slice none 0 0) [] := ⟨⟨_, _, q2⟩, HB1.out.size, by have := HB1.out.size; omega, ⟨rfl, .inl ⟨rfl, rfl⟩⟩, (fun b h => by cases h), HB1.out.trans (b2.mono HB1.out.size)⟩
  have CC := copy_any (HA.out.keep s2.bel) (by unfold Mx; omega)
  have HS2 := hide s2
  obtain ⟨R, hR⟩ : ∃ R, Hid (R = w1.heap.size) := ⟨_, hide rfl⟩
  rw [← hR.out] at HS2 ⊢
  clear CF q2 b2 s2
  go_wp2_with fail
  refine CC.mono ?_
  rintro e w3 ⟨c3, d3, rfl, o3, b3⟩
  have HS3 := hide (HS2.out.fresh o3 b3)
  clear CC o3 b3 HS2
  go_wp2_with fail
  go_loopw [6, 7] (fun v i wr => ∃ (k G : Nat) (va : Option Addr) (vc L : Nat) (xs : List Int), k ≤ m ∧ k ≤ 300 ∧ i = .int .i64 k ∧ L ≤ n + k ∧ Hid (xs.length = L) ∧ v = .slice va L vc ∧ Hid (Two w wr R G xs v xs)) (fun _ i _ => m - (intOf i).toNat)
  case atStart => exact ⟨0, R + 1, c3, d3, n, l, Nat.zero_le _, by omega, rfl, by omega, HL, rfl, HS3⟩
  case round =>
    obtain ⟨k, G, va, vc, L, xs, hk, hk3, rfl, hxl, HL, rfl, hs⟩ := hrel
    by_cases hlt : k < m ∧ k < 300
    · obtain ⟨hlt1, hlt2⟩ := hlt
      obtain ⟨b1, o1, rfl, hc1⟩ := (HB.out.keep hs.out.bel).lies (by omega)
      obtain ⟨g1, g2⟩ := hc1 k hlt1
      generalize ps.getD k (0, 0) = p at *
      obtain ⟨kd, z⟩ := p
      simp only at g1 g2
      obtain ⟨X, hX⟩ : ∃ X, Hid (X = wr.alloc (.cells #[.int .i64 kd, .int .i64 z] (28 : TypeId))) := ⟨_, hide rfl⟩
      have s0 : Two w X R G xs (.slice va L vc) xs := by rw [hX.out]; exact hs.out.below ((Below.refl _ wr).alloc (Nat.le_refl _) _)
      have x0 : X.cell? ⟨wr.heap.size, 0, none⟩ = some (.int .i64 kd) := by
        rw [hX.out, cell_of_row _ _ 0 _ _ _ (heap_alloc_new wr _)]
        rfl
      have x1 : X.cell? ⟨wr.heap.size, 1, none⟩ = some (.int .i64 z) := by
        rw [hX.out, cell_of_row _ _ 1 _ _ _ (heap_alloc_new wr _)]
        rfl
      have hRB : wr.heap.size ≠ R ∧ wr.heap.size ≠ G := by
        obtain ⟨N, h, q⟩ := hs.out.ex
        have := q.lt
        have := q.glt
        omega
      obtain ⟨N, h, q⟩ := s0.ex
      clear hc1 hs
      by_cases hd0 : kd = 0
      · subst hd0
        obtain ⟨ys, hys⟩ : ∃ ys, Hid (ys = xs ++ [z]) := ⟨_, hide rfl⟩
        obtain ⟨L5, hL5⟩ : ∃ L5, L5 = L + 1 := ⟨_, rfl⟩
        have HL5 : Hid (ys.length = L5) := hide (by rw [hys.out, List.length_append, HL.out, hL5]; rfl)
        have hyl : L5 ≤ n + (k + 1) := by omega
        clear hL5

        have CPu : Hid (Calls Try.prog 8 #[.pointer (some ⟨R, 0, none⟩), .int .i64 z] X fun e w' => e = .returned (.tuple #[]) ∧ ∃ G', Two w w' R G' ys (.slice va L vc) xs ∧ w'.cell? ⟨wr.heap.size, 1, none⟩ = some (.int .i64 z)) := hide ((push_any q (by rw [HL.out]; unfold Mx; omega) z).mono (by
          rintro e w' ⟨rfl, hq⟩
          obtain ⟨G', s'⟩ := s0.turn hq
          rw [← hys.out] at s'
          exact ⟨rfl, G', s', hq.cell x1 hRB.1 hRB.2⟩))
        clear q s0
        go_wp2_with fail
        rw [← hX.out]
        refine CPu.out.mono ?_
        rintro e w4 ⟨rfl, G5, s4, c41⟩
        obtain ⟨v5, w5, hrun, s5⟩ := s4.app1 z (by rw [HL.out]; unfold Mx; omega) 22
        rw [← hys.out] at s5
        obtain ⟨va5, vc5, rfl⟩ := row_val s5.row
        rw [HL5.out] at s5 hrun
        have HS5 := hide s5
        clear s4 s5 CPu hX x0 x1
        go_wp2_with (at_builtin; refine wpList_append_run rfl 22 (.tmp 45) (.tmp 48) rfl _ _ _ rfl rfl hrun ?_)

        obtain ⟨N5, h5, q5⟩ := HS5.out.ex
        have CLn := len_yes q5
        have CLi := list_yes q5
        rw [HL5.out] at CLn CLi
        refine CLn.mono ?_
        rintro e w6 ⟨rfl, hw6⟩
        subst w6
        clear CLn q5
        go_wp2_with fail
        refine CLi.mono ?_
        rintro e w7 ⟨a7, c7, rfl, ho7, hb7⟩
        have s7 := HS5.out.below hb7
        have r7 := s7.row
        rw [HL5.out] at r7
        have CS := same_yes a7 va5 L5 c7 vc5 ys w7 (own_ls ho7) (own_ls r7)
        have HS7 := hide s7
        clear ho7 hb7 s7 r7 CLi HS5
        go_wp2_with fail
        refine CS.mono ?_
        rintro e w8 ⟨rfl, q8, rfl⟩
        have HS8 := hide (HS7.out.drew q8)
        clear CS HS7
        go_wp2_with fail
        go_roundw
        case rel => exact ⟨k + 1, G5, va5, vc5, L5, ys, by omega, by omega, by go_num, hyl, HL5, rfl, HS8⟩
        case measure => simp [intOf]; omega
      by_cases hd1 : kd = 1
      · subst hd1
        obtain ⟨ys, hys⟩ : ∃ ys, Hid (ys = xs ++ [z]) := ⟨_, hide rfl⟩
        obtain ⟨L5, hL5⟩ : ∃ L5, L5 = L + 1 := ⟨_, rfl⟩
        have HL5 : Hid (ys.length = L5) := hide (by rw [hys.out, List.length_append, HL.out, hL5]; rfl)
        have hyl : L5 ≤ n + (k + 1) := by omega
        clear hL5

        have CPu : Hid (Calls Try.prog 8 #[.pointer (some ⟨R, 0, none⟩), .int .i64 z] X fun e w' => e = .returned (.tuple #[]) ∧ ∃ G', Two w w' R G' ys (.slice va L vc) xs ∧ w'.cell? ⟨wr.heap.size, 1, none⟩ = some (.int .i64 z)) := hide ((push_any q (by rw [HL.out]; unfold Mx; omega) z).mono (by
          rintro e w' ⟨rfl, hq⟩
          obtain ⟨G', s'⟩ := s0.turn hq
          rw [← hys.out] at s'
          exact ⟨rfl, G', s', hq.cell x1 hRB.1 hRB.2⟩))
        clear q s0
        go_wp2_with fail
        rw [← hX.out]
        refine CPu.out.mono ?_
        rintro e w4 ⟨rfl, G5, s4, c41⟩
        obtain ⟨v5, w5, hrun, s5⟩ := s4.app1 z (by rw [HL.out]; unfold Mx; omega) 22
        rw [← hys.out] at s5
        obtain ⟨va5, vc5, rfl⟩ := row_val s5.row
        rw [HL5.out] at s5 hrun
        have HS5 := hide s5
        clear s4 s5 CPu hX x0 x1
        go_wp2_with (at_builtin; refine wpList_append_run rfl 22 (.tmp 45) (.tmp 48) rfl _ _ _ rfl rfl hrun ?_)

        obtain ⟨N5, h5, q5⟩ := HS5.out.ex
        have CLn := len_yes q5
        have CLi := list_yes q5
        rw [HL5.out] at CLn CLi
        refine CLn.mono ?_
        rintro e w6 ⟨rfl, hw6⟩
        subst w6
        clear CLn q5
        go_wp2_with fail
        refine CLi.mono ?_
        rintro e w7 ⟨a7, c7, rfl, ho7, hb7⟩
        have s7 := HS5.out.below hb7
        have r7 := s7.row
        rw [HL5.out] at r7
        have CS := same_yes a7 va5 L5 c7 vc5 ys w7 (own_ls ho7) (own_ls r7)
        have HS7 := hide s7
        clear ho7 hb7 s7 r7 CLi HS5
        go_wp2_with fail
        refine CS.mono ?_
        rintro e w8 ⟨rfl, q8, rfl⟩
        have HS8 := hide (HS7.out.drew q8)
        clear CS HS7
        go_wp2_with fail
        go_roundw
        case rel => exact ⟨k + 1, G5, va5, vc5, L5, ys, by omega, by omega, by go_num, hyl, HL5, rfl, HS8⟩
        case measure => simp [intOf]; omega
      by_cases hd2 : kd = 2
      · subst hd2
        have CQ := pop_any q
        cases hxs : xs with
        | nil =>
          subst hxs
          obtain rfl : L = 0 := by rw [← HL.out]; rfl
          simp only [List.headD_nil, List.isEmpty_nil, Bool.not_true, List.tail_nil] at CQ
          obtain ⟨ys, hys⟩ : ∃ ys : List Int, Hid (ys = []) := ⟨_, hide rfl⟩
          have HL5 : Hid (ys.length = 0) := hide (by rw [hys.out]; rfl)
          have hyl : 0 ≤ n + (k + 1) := by omega
          have HS0 := hide s0
          clear q s0
          go_wp2_with fail
          rw [← hX.out]
          refine CQ.mono ?_
          rintro e w4 ⟨rfl, hq⟩
          obtain ⟨G5, s5⟩ := HS0.out.turn hq
          rw [← hys.out] at s5
          have HS5 := hide s5
          obtain ⟨va5, hva⟩ : ∃ va5, va5 = va := ⟨_, rfl⟩
          obtain ⟨vc5, hvc⟩ : ∃ vc5, vc5 = vc := ⟨_, rfl⟩
          subst hva hvc
          clear hq s5 HS0 CQ hX x0 x1
          go_wp2_with fail
          obtain ⟨N5, h5, q5⟩ := HS5.out.ex
          have CLn := len_yes q5
          have CLi := list_yes q5
          rw [HL5.out] at CLn CLi
          refine CLn.mono ?_
          rintro e w6 ⟨rfl, hw6⟩
          subst w6
          clear CLn q5
          go_wp2_with fail
          refine CLi.mono ?_
          rintro e w7 ⟨a7, c7, rfl, ho7, hb7⟩
          have s7 := HS5.out.below hb7
          have r7 := s7.row
          rw [HL5.out] at r7
          have CS := same_yes a7 va5 0 c7 vc5 ys w7 (own_ls ho7) (own_ls r7)
          have HS7 := hide s7
          clear ho7 hb7 s7 r7 CLi HS5
          go_wp2_with fail
          refine CS.mono ?_
          rintro e w8 ⟨rfl, q8, rfl⟩
          have HS8 := hide (HS7.out.drew q8)
          clear CS HS7
          go_wp2_with fail
          go_roundw
          case rel => exact ⟨k + 1, G5, va5, vc5, 0, ys, by omega, by omega, by go_num, hyl, HL5, rfl, HS8⟩
          case measure => simp [intOf]; omega

        | cons x ys =>
          subst hxs
          simp only [List.headD_cons, List.isEmpty_cons, Bool.not_false, List.tail_cons] at CQ
          have hL0 : 0 < L := by rw [← HL.out]; simp
          have hr0 := s0.row
          rw [HL.out] at hr0
          obtain ⟨b0, off0, hva, hc0⟩ := (own_ls hr0).lies hL0
          have hc00 := hc0 0 hL0
          simp only [List.getD_cons_zero, Nat.add_zero] at hc00
          subst hva
          obtain ⟨L5, hL5⟩ : ∃ L5, L5 = ys.length := ⟨_, rfl⟩
          have HL5 : Hid (ys.length = L5) := hide hL5.symm
          have hyl : L5 ≤ n + (k + 1) := by have h1 := HL.out; rw [List.length_cons, ← hL5] at h1; omega
          have hle0 := (own_ls hr0).le
          have hre0 := (own_ls hr0).reach
          have HS0 := hide s0
          have hbn : b0 ≠ R ∧ b0 ≠ G := s0.apart b0 (by
            rcases s0.row.2 with ⟨h1, _⟩ | ⟨g, c', cur, h1, _⟩
            · cases h1
            · simp only [Value.slice.injEq, Option.some.injEq, Addr.mk.injEq] at h1
              rw [h1.1.1, h1.1.2.1]
              rfl)
          clear q s0 hr0 hc0 hL5
          go_wp2_with fail
          rw [← hX.out]
          refine CQ.mono ?_
          rintro e w4 ⟨rfl, hq⟩
          obtain ⟨G4, s4⟩ := HS0.out.turn hq
          have c4 := hq.cell hc00 hbn.1 hbn.2
          have r4 := s4.row
          rw [HL.out] at r4
          have HW : Hid (∀ V, Below w4.heap.size w4 V → Calls Try.prog 10 #[.slice (some ⟨b0, off0, none⟩) L vc, .int .i64 0] V fun e w' => ∃ va5 vc5, e = .returned (.slice va5 L5 vc5) ∧ Two w w' R G4 ys (.slice va5 L5 vc5) ys ∧ w'.cell? ⟨b0, off0, none⟩ = some (.int .i64 x)) := hide (fun V hV => (without_any ((own_ls r4).keep hV) (by unfold Mx; omega) 0).mono (by
            rintro e w' ⟨v, rfl, ho, hb⟩
            rw [show wo (x :: ys) 0 = ys by simp [wo]] at ho
            obtain ⟨va5, vc5, rfl⟩ := row_val ho
            have sV := s4.below hV
            have s5 := sV.fresh ho hb
            rw [HL5.out] at s5
            have hb' := hV.trans (hb.mono hV.size)
            exact ⟨va5, vc5, by rw [HL5.out], s5, (hb'.cell (cell_lt c4)).trans c4⟩))
          clear s4 r4 hq HS0 CQ hX x0 x1 hc00
          go_wp2_with fail
          go_region_held3 (fun V => V.cell? ⟨b0, off0, none⟩ = some (.int .i64 x))
            (first | exact c4 | exact c5)
            (first | (go_at_call 10; refine (HW.out _ ?_).mono ?_; exact (Below.refl _ _).drew; rintro e w5 ⟨va5, vc5, rfl, s5, c5⟩))
          have HS5 := hide s5
          obtain ⟨G5, hG5⟩ : ∃ G5, G5 = G4 := ⟨_, rfl⟩
          subst hG5
          clear s5 c5 c4 HW
          go_wp2_with fail
          obtain ⟨N5, h5, q5⟩ := HS5.out.ex
          have CLn := len_yes q5
          have CLi := list_yes q5
          rw [HL5.out] at CLn CLi
          refine CLn.mono ?_
          rintro e w6 ⟨rfl, hw6⟩
          subst w6
          clear CLn q5
          go_wp2_with fail
          refine CLi.mono ?_
          rintro e w7 ⟨a7, c7, rfl, ho7, hb7⟩
          have s7 := HS5.out.below hb7
          have r7 := s7.row
          rw [HL5.out] at r7
          have CS := same_yes a7 va5 L5 c7 vc5 ys w7 (own_ls ho7) (own_ls r7)
          have HS7 := hide s7
          clear ho7 hb7 s7 r7 CLi HS5
          go_wp2_with fail
          refine CS.mono ?_
          rintro e w8 ⟨rfl, q8, rfl⟩
          have HS8 := hide (HS7.out.drew q8)
          clear CS HS7
          go_wp2_with fail
          go_roundw
          case rel => exact ⟨k + 1, G5, va5, vc5, L5, ys, by omega, by omega, by go_num, hyl, HL5, rfl, HS8⟩
          case measure => simp [intOf]; omega
      by_cases hd3 : kd = 3
      · subst hd3
        obtain ⟨ys, hys⟩ : ∃ ys, Hid (ys = xs) := ⟨_, hide rfl⟩
        obtain ⟨L5, hL5⟩ : ∃ L5, L5 = L := ⟨_, rfl⟩
        have HL5 : Hid (ys.length = L5) := hide (by rw [hys.out, HL.out, hL5])
        have hyl : L5 ≤ n + (k + 1) := by omega
        subst hL5
        obtain rfl : ys = xs := hys.out

        have CA := at_any q z

        have hr0 := s0.row
        rw [HL.out] at hr0
        have hle0 := (own_ls hr0).le
        have hre0 := (own_ls hr0).reach

        obtain ⟨va5, hva5⟩ : ∃ va5, va5 = va := ⟨_, rfl⟩
        obtain ⟨vc5, hvc⟩ : ∃ vc5, vc5 = vc := ⟨_, rfl⟩
        obtain ⟨G5, hG5⟩ : ∃ G5, G5 = G := ⟨_, rfl⟩
        subst hva5 hvc hG5
        have HS0 := hide s0
        by_cases hz : 0 ≤ z ∧ z < (L5 : Int)
        · obtain ⟨j, rfl⟩ : ∃ j : Nat, z = (j : Int) := ⟨z.toNat, by omega⟩
          obtain ⟨b0, off0, hva, hc0⟩ := (own_ls hr0).lies (by omega)
          have hcj := hc0 j (by omega)
          subst hva
          rw [show atV ys (j : Int) = (ys.getD j 0, true) from if_pos (by rw [HL5.out]; omega)] at CA
          simp only at CA
          generalize ys.getD j 0 = x at *
          clear q s0 hr0 hc0
          rw [hX.out] at hcj
          go_wp2_with fail
          rw [← hX.out]
          refine CA.mono ?_
          rintro e w4 ⟨rfl, q4, rfl⟩
          have HS5 := hide (HS0.out.drew q4)
          clear CA HS0 hX x0 x1 hcj
          go_wp2_with fail
          obtain ⟨N5, h5, q5⟩ := HS5.out.ex
          have CLn := len_yes q5
          have CLi := list_yes q5
          rw [HL5.out] at CLn CLi
          refine CLn.mono ?_
          rintro e w6 ⟨rfl, hw6⟩
          subst w6
          clear CLn q5
          go_wp2_with fail
          refine CLi.mono ?_
          rintro e w7 ⟨a7, c7, rfl, ho7, hb7⟩
          have s7 := HS5.out.below hb7
          have r7 := s7.row
          rw [HL5.out] at r7
          have CS := same_yes a7 (some ⟨b0, off0, none⟩) L5 c7 vc5 ys w7 (own_ls ho7) (own_ls r7)
          have HS7 := hide s7
          clear ho7 hb7 s7 r7 CLi HS5
          go_wp2_with fail
          refine CS.mono ?_
          rintro e w8 ⟨rfl, q8, rfl⟩
          have HS8 := hide (HS7.out.drew q8)
          clear CS HS7
          go_wp2_with fail
          go_roundw
          case rel => exact ⟨k + 1, G5, (some ⟨b0, off0, none⟩), vc5, L5, ys, by omega, by omega, by go_num, hyl, HL5, rfl, HS8⟩
          case measure => simp [intOf]; omega

        · rw [show atV ys z = (0, false) from if_neg (by rw [HL5.out]; exact hz)] at CA
          clear q s0 hr0
          by_cases hz0 : 0 ≤ z
          · have hzl : ¬ z < (L5 : Int) := fun h => hz ⟨hz0, h⟩
            clear hz
            go_wp2_with fail
            rw [← hX.out]
            refine CA.mono ?_
            rintro e w4 ⟨rfl, q4, rfl⟩
            have HS5 := hide (HS0.out.drew q4)
            clear CA HS0 hX x0 x1
            go_wp2_with fail
            obtain ⟨N5, h5, q5⟩ := HS5.out.ex
            have CLn := len_yes q5
            have CLi := list_yes q5
            rw [HL5.out] at CLn CLi
            refine CLn.mono ?_
            rintro e w6 ⟨rfl, hw6⟩
            subst w6
            clear CLn q5
            go_wp2_with fail
            refine CLi.mono ?_
            rintro e w7 ⟨a7, c7, rfl, ho7, hb7⟩
            have s7 := HS5.out.below hb7
            have r7 := s7.row
            rw [HL5.out] at r7
            have CS := same_yes a7 va5 L5 c7 vc5 ys w7 (own_ls ho7) (own_ls r7)
            have HS7 := hide s7
            clear ho7 hb7 s7 r7 CLi HS5
            go_wp2_with fail
            refine CS.mono ?_
            rintro e w8 ⟨rfl, q8, rfl⟩
            have HS8 := hide (HS7.out.drew q8)
            clear CS HS7
            go_wp2_with fail
            go_roundw
            case rel => exact ⟨k + 1, G5, va5, vc5, L5, ys, by omega, by omega, by go_num, hyl, HL5, rfl, HS8⟩
            case measure => simp [intOf]; omega

          · clear hz
            go_wp2_with fail
            rw [← hX.out]
            refine CA.mono ?_
            rintro e w4 ⟨rfl, q4, rfl⟩
            have HS5 := hide (HS0.out.drew q4)
            clear CA HS0 hX x0 x1
            go_wp2_with fail
            obtain ⟨N5, h5, q5⟩ := HS5.out.ex
            have CLn := len_yes q5
            have CLi := list_yes q5
            rw [HL5.out] at CLn CLi
            refine CLn.mono ?_
            rintro e w6 ⟨rfl, hw6⟩
            subst w6
            clear CLn q5
            go_wp2_with fail
            refine CLi.mono ?_
            rintro e w7 ⟨a7, c7, rfl, ho7, hb7⟩
            have s7 := HS5.out.below hb7
            have r7 := s7.row
            rw [HL5.out] at r7
            have CS := same_yes a7 va5 L5 c7 vc5 ys w7 (own_ls ho7) (own_ls r7)
            have HS7 := hide s7
            clear ho7 hb7 s7 r7 CLi HS5
            go_wp2_with fail
            refine CS.mono ?_
            rintro e w8 ⟨rfl, q8, rfl⟩
            have HS8 := hide (HS7.out.drew q8)
            clear CS HS7
            go_wp2_with fail
            go_roundw
            case rel => exact ⟨k + 1, G5, va5, vc5, L5, ys, by omega, by omega, by go_num, hyl, HL5, rfl, HS8⟩
            case measure => simp [intOf]; omega
      by_cases hd4 : kd = 4
      · subst hd4
        obtain ⟨ys, hys⟩ : ∃ ys, Hid (ys = wo xs z) := ⟨_, hide rfl⟩
        obtain ⟨L5, hL5⟩ : ∃ L5, L5 = ys.length := ⟨_, rfl⟩
        have HL5 : Hid (ys.length = L5) := hide hL5.symm
        have hyl : L5 ≤ n + (k + 1) := by
          have h1 := wo_length_le xs z
          rw [← hys.out, HL.out, ← hL5] at h1
          omega
        clear hL5
        have CA := take_any q z

        have hr0 := s0.row
        rw [HL.out] at hr0
        have hle0 := (own_ls hr0).le
        have hre0 := (own_ls hr0).reach

        have HS0 := hide s0
        by_cases hz : 0 ≤ z ∧ z < (L : Int)
        · obtain ⟨j, rfl⟩ : ∃ j : Nat, z = (j : Int) := ⟨z.toNat, by omega⟩
          obtain ⟨b0, off0, hva, hc0⟩ := (own_ls hr0).lies (by omega)
          have hcj := hc0 j (by omega)
          subst hva
          rw [show atV xs (j : Int) = (xs.getD j 0, true) from if_pos (by rw [HL.out]; omega)] at CA
          simp only at CA
          generalize xs.getD j 0 = x at *
          clear q s0 hr0 hc0
          rw [hX.out] at hcj
          go_wp2_with fail
          rw [← hX.out]
          clear hcj
          refine CA.mono ?_
          rintro e w4 ⟨rfl, hq⟩
          obtain ⟨G5, s4⟩ := HS0.out.turn hq
          have c41 := hq.cell x1 hRB.1 hRB.2
          rw [← hys.out] at s4
          have r4 := s4.row
          rw [HL.out] at r4
          have HW : Hid (Calls Try.prog 10 #[.slice (some ⟨b0, off0, none⟩) L vc, .int .i64 (j : Int)] w4 fun e w' => ∃ va5 vc5, e = .returned (.slice va5 L5 vc5) ∧ Two w w' R G5 ys (.slice va5 L5 vc5) ys) := hide ((without_any (own_ls r4) (by unfold Mx; omega) (j : Int)).mono (by
            rintro e w' ⟨v, rfl, ho, hb⟩
            rw [← hys.out] at ho
            obtain ⟨va5, vc5, rfl⟩ := row_val ho
            have s5 := s4.fresh ho hb
            rw [HL5.out] at s5
            exact ⟨va5, vc5, by rw [HL5.out], s5⟩))
          clear s4 r4 hq HS0 CA hX x0 x1
          go_wp2_with fail
          refine HW.out.mono ?_
          rintro e w5 ⟨va5, vc5, rfl, s5⟩
          have HS5 := hide s5
          clear s5 HW
          go_wp2_with fail

          obtain ⟨N5, h5, q5⟩ := HS5.out.ex
          have CLn := len_yes q5
          have CLi := list_yes q5
          rw [HL5.out] at CLn CLi
          refine CLn.mono ?_
          rintro e w6 ⟨rfl, hw6⟩
          subst w6
          clear CLn q5
          go_wp2_with fail
          refine CLi.mono ?_
          rintro e w7 ⟨a7, c7, rfl, ho7, hb7⟩
          have s7 := HS5.out.below hb7
          have r7 := s7.row
          rw [HL5.out] at r7
          have CS := same_yes a7 va5 L5 c7 vc5 ys w7 (own_ls ho7) (own_ls r7)
          have HS7 := hide s7
          clear ho7 hb7 s7 r7 CLi HS5
          go_wp2_with fail
          refine CS.mono ?_
          rintro e w8 ⟨rfl, q8, rfl⟩
          have HS8 := hide (HS7.out.drew q8)
          clear CS HS7
          go_wp2_with fail
          go_roundw
          case rel => exact ⟨k + 1, G5, va5, vc5, L5, ys, by omega, by omega, by go_num, hyl, HL5, rfl, HS8⟩
          case measure => simp [intOf]; omega

        · rw [show atV xs z = (0, false) from if_neg (by rw [HL.out]; exact hz)] at CA
          clear q s0 hr0
          by_cases hz0 : 0 ≤ z
          · have hzl : ¬ z < (L : Int) := fun h => hz ⟨hz0, h⟩
            clear hz
            go_wp2_with fail
            rw [← hX.out]
            refine CA.mono ?_
            rintro e w4 ⟨rfl, hq⟩
            obtain ⟨G5, s4⟩ := HS0.out.turn hq
            have c41 := hq.cell x1 hRB.1 hRB.2
            rw [← hys.out] at s4
            have r4 := s4.row
            rw [HL.out] at r4
            have HW : Hid (Calls Try.prog 10 #[.slice va L vc, .int .i64 z] w4 fun e w' => ∃ va5 vc5, e = .returned (.slice va5 L5 vc5) ∧ Two w w' R G5 ys (.slice va5 L5 vc5) ys) := hide ((without_any (own_ls r4) (by unfold Mx; omega) z).mono (by
              rintro e w' ⟨v, rfl, ho, hb⟩
              rw [← hys.out] at ho
              obtain ⟨va5, vc5, rfl⟩ := row_val ho
              have s5 := s4.fresh ho hb
              rw [HL5.out] at s5
              exact ⟨va5, vc5, by rw [HL5.out], s5⟩))
            clear s4 r4 hq HS0 CA hX x0 x1
            go_wp2_with fail
            refine HW.out.mono ?_
            rintro e w5 ⟨va5, vc5, rfl, s5⟩
            have HS5 := hide s5
            clear s5 HW
            go_wp2_with fail

            obtain ⟨N5, h5, q5⟩ := HS5.out.ex
            have CLn := len_yes q5
            have CLi := list_yes q5
            rw [HL5.out] at CLn CLi
            refine CLn.mono ?_
            rintro e w6 ⟨rfl, hw6⟩
            subst w6
            clear CLn q5
            go_wp2_with fail
            refine CLi.mono ?_
            rintro e w7 ⟨a7, c7, rfl, ho7, hb7⟩
            have s7 := HS5.out.below hb7
            have r7 := s7.row
            rw [HL5.out] at r7
            have CS := same_yes a7 va5 L5 c7 vc5 ys w7 (own_ls ho7) (own_ls r7)
            have HS7 := hide s7
            clear ho7 hb7 s7 r7 CLi HS5
            go_wp2_with fail
            refine CS.mono ?_
            rintro e w8 ⟨rfl, q8, rfl⟩
            have HS8 := hide (HS7.out.drew q8)
            clear CS HS7
            go_wp2_with fail
            go_roundw
            case rel => exact ⟨k + 1, G5, va5, vc5, L5, ys, by omega, by omega, by go_num, hyl, HL5, rfl, HS8⟩
            case measure => simp [intOf]; omega

          · clear hz
            go_wp2_with fail
            rw [← hX.out]
            refine CA.mono ?_
            rintro e w4 ⟨rfl, hq⟩
            obtain ⟨G5, s4⟩ := HS0.out.turn hq
            have c41 := hq.cell x1 hRB.1 hRB.2
            rw [← hys.out] at s4
            have r4 := s4.row
            rw [HL.out] at r4
            have HW : Hid (Calls Try.prog 10 #[.slice va L vc, .int .i64 z] w4 fun e w' => ∃ va5 vc5, e = .returned (.slice va5 L5 vc5) ∧ Two w w' R G5 ys (.slice va5 L5 vc5) ys) := hide ((without_any (own_ls r4) (by unfold Mx; omega) z).mono (by
              rintro e w' ⟨v, rfl, ho, hb⟩
              rw [← hys.out] at ho
              obtain ⟨va5, vc5, rfl⟩ := row_val ho
              have s5 := s4.fresh ho hb
              rw [HL5.out] at s5
              exact ⟨va5, vc5, by rw [HL5.out], s5⟩))
            clear s4 r4 hq HS0 CA hX x0 x1
            go_wp2_with fail
            refine HW.out.mono ?_
            rintro e w5 ⟨va5, vc5, rfl, s5⟩
            have HS5 := hide s5
            clear s5 HW
            go_wp2_with fail

            obtain ⟨N5, h5, q5⟩ := HS5.out.ex
            have CLn := len_yes q5
            have CLi := list_yes q5
            rw [HL5.out] at CLn CLi
            refine CLn.mono ?_
            rintro e w6 ⟨rfl, hw6⟩
            subst w6
            clear CLn q5
            go_wp2_with fail
            refine CLi.mono ?_
            rintro e w7 ⟨a7, c7, rfl, ho7, hb7⟩
            have s7 := HS5.out.below hb7
            have r7 := s7.row
            rw [HL5.out] at r7
            have CS := same_yes a7 va5 L5 c7 vc5 ys w7 (own_ls ho7) (own_ls r7)
            have HS7 := hide s7
            clear ho7 hb7 s7 r7 CLi HS5
            go_wp2_with fail
            refine CS.mono ?_
            rintro e w8 ⟨rfl, q8, rfl⟩
            have HS8 := hide (HS7.out.drew q8)
            clear CS HS7
            go_wp2_with fail
            go_roundw
            case rel => exact ⟨k + 1, G5, va5, vc5, L5, ys, by omega, by omega, by go_num, hyl, HL5, rfl, HS8⟩
            case measure => simp [intOf]; omega
      by_cases hd5 : kd = 5
      · subst hd5
        obtain ⟨ys, hys⟩ : ∃ ys, Hid (ys = xs.filter fun x => !od x) := ⟨_, hide rfl⟩
        obtain ⟨L5, hL5⟩ : ∃ L5, L5 = ys.length := ⟨_, rfl⟩
        have HL5 : Hid (ys.length = L5) := hide hL5.symm
        have hyl : L5 ≤ n + (k + 1) := by
          have h1 := List.length_filter_le (fun x => !od x) xs
          rw [← hys.out, HL.out, ← hL5] at h1
          omega
        clear hL5
        have CD := drop_any q asks_odd
        rw [← hys.out] at CD
        obtain ⟨d, hd⟩ : ∃ d : Int, Hid (d = (xs.length : Int) - (ys.length : Int)) := ⟨_, hide rfl⟩
        rw [← hd.out] at CD
        have HS0 := hide s0
        clear q s0
        go_wp2_with fail
        rw [← hX.out]
        refine CD.mono ?_
        rintro e w4 ⟨rfl, hq⟩
        obtain ⟨G5, s4⟩ := HS0.out.turn hq
        have r4 := s4.row
        rw [HL.out] at r4
        have HW : Hid (Calls Try.prog 15 #[.slice va L vc] w4 fun e w' => ∃ va5 vc5, e = .returned (.tuple #[.slice va5 L5 vc5, .int .i64 d]) ∧ Two w w' R G5 ys (.slice va5 L5 vc5) ys) := hide ((odd_any (own_ls r4) (by unfold Mx; omega)).mono (by
          rintro e w' ⟨v, rfl, ho, hb⟩
          rw [← hys.out] at ho ⊢
          rw [← hd.out]
          obtain ⟨va5, vc5, rfl⟩ := row_val ho
          have s5 := s4.fresh ho hb
          rw [HL5.out] at s5
          exact ⟨va5, vc5, by rw [HL5.out], s5⟩))
        clear s4 r4 hq HS0 CD hX x0 x1
        go_wp2_with fail
        refine HW.out.mono ?_
        rintro e w5 ⟨va5, vc5, rfl, s5⟩
        have HS5 := hide s5
        clear s5 HW
        go_wp2_with fail

        obtain ⟨N5, h5, q5⟩ := HS5.out.ex
        have CLn := len_yes q5
        have CLi := list_yes q5
        rw [HL5.out] at CLn CLi
        refine CLn.mono ?_
        rintro e w6 ⟨rfl, hw6⟩
        subst w6
        clear CLn q5
        go_wp2_with fail
        refine CLi.mono ?_
        rintro e w7 ⟨a7, c7, rfl, ho7, hb7⟩
        have s7 := HS5.out.below hb7
        have r7 := s7.row
        rw [HL5.out] at r7
        have CS := same_yes a7 va5 L5 c7 vc5 ys w7 (own_ls ho7) (own_ls r7)
        have HS7 := hide s7
        clear ho7 hb7 s7 r7 CLi HS5
        go_wp2_with fail
        refine CS.mono ?_
        rintro e w8 ⟨rfl, q8, rfl⟩
        have HS8 := hide (HS7.out.drew q8)
        clear CS HS7
        go_wp2_with fail
        go_roundw
        case rel => exact ⟨k + 1, G5, va5, vc5, L5, ys, by omega, by omega, by go_num, hyl, HL5, rfl, HS8⟩
        case measure => simp [intOf]; omega
      by_cases hd6 : kd = 6
      · subst hd6
        obtain ⟨ys, hys⟩ : ∃ ys, Hid (ys = xs) := ⟨_, hide rfl⟩
        obtain ⟨L5, hL5⟩ : ∃ L5, L5 = L := ⟨_, rfl⟩
        have HL5 : Hid (ys.length = L5) := hide (by rw [hys.out, HL.out, hL5])
        have hyl : L5 ≤ n + (k + 1) := by omega
        subst hL5
        obtain rfl : ys = xs := hys.out

        obtain ⟨va5, hva5⟩ : ∃ va5, va5 = va := ⟨_, rfl⟩
        obtain ⟨vc5, hvc⟩ : ∃ vc5, vc5 = vc := ⟨_, rfl⟩
        obtain ⟨G5, hG5⟩ : ∃ G5, G5 = G := ⟨_, rfl⟩
        subst hva5 hvc hG5

        have CD := drop_nil q
        have HS5 := hide s0
        clear q s0
        go_wp2_with fail
        rw [← hX.out]
        refine CD.mono ?_
        rintro e w4 ⟨rfl, hw4⟩
        subst w4
        clear CD hX x0 x1
        go_wp2_with fail

        obtain ⟨N5, h5, q5⟩ := HS5.out.ex
        have CLn := len_yes q5
        have CLi := list_yes q5
        rw [HL5.out] at CLn CLi
        refine CLn.mono ?_
        rintro e w6 ⟨rfl, hw6⟩
        subst w6
        clear CLn q5
        go_wp2_with fail
        refine CLi.mono ?_
        rintro e w7 ⟨a7, c7, rfl, ho7, hb7⟩
        have s7 := HS5.out.below hb7
        have r7 := s7.row
        rw [HL5.out] at r7
        have CS := same_yes a7 va5 L5 c7 vc5 ys w7 (own_ls ho7) (own_ls r7)
        have HS7 := hide s7
        clear ho7 hb7 s7 r7 CLi HS5
        go_wp2_with fail
        refine CS.mono ?_
        rintro e w8 ⟨rfl, q8, rfl⟩
        have HS8 := hide (HS7.out.drew q8)
        clear CS HS7
        go_wp2_with fail
        go_roundw
        case rel => exact ⟨k + 1, G5, va5, vc5, L5, ys, by omega, by omega, by go_num, hyl, HL5, rfl, HS8⟩
        case measure => simp [intOf]; omega
      by_cases hd7 : kd = 7
      · subst hd7
        obtain ⟨ys, hys⟩ : ∃ ys, Hid (ys = xs) := ⟨_, hide rfl⟩
        obtain ⟨L5, hL5⟩ : ∃ L5, L5 = L := ⟨_, rfl⟩
        have HL5 : Hid (ys.length = L5) := hide (by rw [hys.out, HL.out, hL5])
        have hyl : L5 ≤ n + (k + 1) := by omega
        subst hL5
        obtain rfl : ys = xs := hys.out

        obtain ⟨va5, hva5⟩ : ∃ va5, va5 = va := ⟨_, rfl⟩
        obtain ⟨vc5, hvc⟩ : ∃ vc5, vc5 = vc := ⟨_, rfl⟩
        obtain ⟨G5, hG5⟩ : ∃ G5, G5 = G := ⟨_, rfl⟩
        subst hva5 hvc hG5

        have CL := list_yes q
        rw [HL5.out] at CL
        have HS0 := hide s0
        clear q s0
        go_wp2_with fail
        rw [← hX.out]
        refine CL.mono ?_
        rintro e w4 ⟨a4, c4, rfl, ho4, hb4⟩
        have hle4 := (own_ls ho4).le
        have hre4 := (own_ls ho4).reach
        have hsp : Hid (0 < L5 → ∃ g cur, a4 = some ⟨g, 0, none⟩ ∧ X.heap.size ≤ g ∧ w4.heap[g]? = some (.cells cur 3 (0, 0)) ∧ cur.size = c4) := hide (fun h0 => by
          rcases ho4.2 with ⟨h1, h2⟩ | ⟨g, c', cur, h1, h2, h3, _, _, h5, _⟩
          · omega
          · simp only [Value.slice.injEq] at h1
            obtain ⟨h1, _, rfl⟩ := h1
            exact ⟨g, cur, h1, h2, h3, by rw [h5]; omega⟩)
        have HS9 := HS0
        have HB4 := hide hb4
        clear ho4 hb4 CL hX x0 x1 HS0
        go_wp2_with fail
        obtain ⟨wk, hwk⟩ : ∃ wk : World, wk = wr := ⟨_, rfl⟩
        subst hwk
        go_loopw [14] (fun i wr => ∃ j : Nat, j ≤ L5 ∧ i = .int .i64 j ∧ Hid (Below X.heap.size X wr) ∧ Hid (∀ g, a4 = some ⟨g, 0, none⟩ → 0 < L5 → ∃ cur, wr.heap[g]? = some (.cells cur 3 (0, 0)) ∧ cur.size = c4)) (fun i _ => L5 - (intOf i).toNat)
        case atStart => exact ⟨0, Nat.zero_le _, rfl, HB4, hide (fun g hg h0 => by
          obtain ⟨g', cur, h1, _, h3, h4⟩ := hsp.out h0
          rw [hg] at h1
          simp only [Option.some.injEq, Addr.mk.injEq, and_true] at h1
          rw [h1]
          exact ⟨cur, h3, h4⟩)⟩
        case round =>
          obtain ⟨j, hj, rfl, hbj, hrow⟩ := hrel
          by_cases hlt : j < L5
          · obtain ⟨g, _, hg, hge, _⟩ := hsp.out (by omega)
            obtain ⟨cur, hcur, hcs⟩ := hrow.out g hg (by omega)
            subst hg
            obtain ⟨u, hu⟩ : ∃ u, wr.cell? ⟨g, j, none⟩ = some u := ⟨cur[j]'(by omega), by
              rw [cell_of_row wr g j _ _ _ hcur]
              exact Array.getElem?_eq_getElem _⟩
            have hf := frozen_of_row wr g j _ _ hcur
            have hnew : Hid (∀ x, (wr.setCell ⟨g, j, none⟩ x).heap[g]? = some (.cells (cur.setIfInBounds j x) 3 (0, 0))) := hide (fun x => heap_setCell_same wr g j cur 3 x hcur)
            have HCS := hide hcs
            have HB' : Hid (∀ x, Below X.heap.size X (wr.setCell ⟨g, j, none⟩ x)) := hide (fun x => hbj.out.setCell hge x)
            clear hrow hcur hcs
            go_wp2_with fail
            go_roundw
            case rel => exact ⟨j + 1, by omega, by go_num, hide (HB'.out _), hide (fun g' hg' _ => by
              simp only [Option.some.injEq, Addr.mk.injEq, and_true] at hg'
              subst hg'
              exact ⟨_, hnew.out _, by rw [Array.size_setIfInBounds]; exact HCS.out⟩)⟩
            case measure => simp [intOf]; omega
          · obtain rfl : L5 = j := by omega
            have HS5 := hide (HS9.out.below hbj.out)
            clear hrow
            go_wp2_with fail
            obtain ⟨N5, h5, q5⟩ := HS5.out.ex
            have CLn := len_yes q5
            have CLi := list_yes q5
            rw [HL5.out] at CLn CLi
            refine CLn.mono ?_
            rintro e w6 ⟨rfl, hw6⟩
            subst w6
            clear CLn q5
            go_wp2_with fail
            refine CLi.mono ?_
            rintro e w7 ⟨a7, c7, rfl, ho7, hb7⟩
            have s7 := HS5.out.below hb7
            have r7 := s7.row
            rw [HL5.out] at r7
            have CS := same_yes a7 va5 L5 c7 vc5 ys w7 (own_ls ho7) (own_ls r7)
            have HS7 := hide s7
            clear ho7 hb7 s7 r7 CLi HS5
            go_wp2_with fail
            refine CS.mono ?_
            rintro e w8 ⟨rfl, q8, rfl⟩
            have HS8 := hide (HS7.out.drew q8)
            clear CS HS7
            go_wp2_with fail
            go_roundw
            case rel => exact ⟨k + 1, G5, va5, vc5, L5, ys, by omega, by omega, by go_num, hyl, HL5, rfl, HS8⟩
            case measure => simp [intOf]; omega
      obtain ⟨ys, hys⟩ : ∃ ys, Hid (ys = xs) := ⟨_, hide rfl⟩
      obtain ⟨L5, hL5⟩ : ∃ L5, L5 = L := ⟨_, rfl⟩
      have HL5 : Hid (ys.length = L5) := hide (by rw [hys.out, HL.out, hL5])
      have hyl : L5 ≤ n + (k + 1) := by omega
      subst hL5
      obtain rfl : ys = xs := hys.out

      obtain ⟨va5, hva5⟩ : ∃ va5, va5 = va := ⟨_, rfl⟩
      obtain ⟨vc5, hvc⟩ : ∃ vc5, vc5 = vc := ⟨_, rfl⟩
      obtain ⟨G5, hG5⟩ : ∃ G5, G5 = G := ⟨_, rfl⟩
      subst hva5 hvc hG5

      have HS5 := hide s0
      clear q s0
      go_wp2_with fail
      rw [← hX.out]
      clear hX x0 x1

      obtain ⟨N5, h5, q5⟩ := HS5.out.ex
      have CLn := len_yes q5
      have CLi := list_yes q5
      rw [HL5.out] at CLn CLi
      refine CLn.mono ?_
      rintro e w6 ⟨rfl, hw6⟩
      subst w6
      clear CLn q5
      go_wp2_with fail
      refine CLi.mono ?_
      rintro e w7 ⟨a7, c7, rfl, ho7, hb7⟩
      have s7 := HS5.out.below hb7
      have r7 := s7.row
      rw [HL5.out] at r7
      have CS := same_yes a7 va5 L5 c7 vc5 ys w7 (own_ls ho7) (own_ls r7)
      have HS7 := hide s7
      clear ho7 hb7 s7 r7 CLi HS5
      go_wp2_with fail
      refine CS.mono ?_
      rintro e w8 ⟨rfl, q8, rfl⟩
      have HS8 := hide (HS7.out.drew q8)
      clear CS HS7
      go_wp2_with fail
      go_roundw
      case rel => exact ⟨k + 1, G5, va5, vc5, L5, ys, by omega, by omega, by go_num, hyl, HL5, rfl, HS8⟩
      case measure => simp [intOf]; omega
    · obtain ⟨N, h, q⟩ := hs.out.ex
      have HBE := hide hs.out.bel
      clear q hs
      by_cases h1 : k < m
      · have h2 : ¬ k < 300 := fun h => hlt ⟨h1, h⟩
        clear hlt
        go_wp2_with fail
        refine (awake_any wr).mono ?_
        rintro e w5 ⟨rfl, hb5⟩
        go_wp2_with fail
        go_ret
        exact ⟨rfl, HBE.out.trans (hb5.mono HBE.out.size)⟩
      · clear hlt
        go_wp2_with fail
        refine (awake_any wr).mono ?_
        rintro e w5 ⟨rfl, hb5⟩
        go_wp2_with fail
        go_ret
        exact ⟨rfl, HBE.out.trans (hb5.mono HBE.out.size)⟩

end Go.Proofs.Ythaofaibnckfbaa.queueTells

/-
  CspRun: the walk.
-/
import Derived.Test.YtennciddjkijaaaCuo
import Derived.Test.YtennciddjkijaaaCun
namespace Go.Proofs.Ytennciddjkijaaa
open Go.RowKit QI
set_option maxRecDepth 100000
set_option linter.unusedSimpArgs false

set_option maxHeartbeats 4000000 in
theorem cspRun.walk (pa : Option Addr) (len pcap : Nat) (ps : List (List Dop)) (ua : Option Addr) (ul uc : Nat) (us : List Nat) (most : Int) (W : World) (hP : Pgs (fun k => k < W.heap.size) W pa len pcap ps) (hU : Uls W ua ul uc us) (_hM : I6 most) :
    Calls Try.prog 4 #[.slice pa len pcap, .slice ua ul uc, .int .i64 most] W fun e w' => e = .returned (.bool true) ∧ Below W.heap.size W w' := by
  have hCA := fun V => awake_any V
  have hPle := hP.le
  have hPr := hP.reach
  have hUle := hU.le
  have hUr := hU.reach
  by_cases h0 : len = 0
  · subst h0
    have C := hCA W
    clear hP hU hCA
    go_enter Try.func4, Try.ntmps4
    go_wp2_with fail
    refine C.mono ?_
    rintro e w1 ⟨rfl, hb⟩
    have HB := hide hb
    clear hb
    go_wp2_with fail
    go_ret
    exact ⟨rfl, HB.out⟩
  obtain ⟨m, hm⟩ : ∃ m, Hid (m = min len 6) := ⟨_, hide rfl⟩
  have hm1 : 0 < m ∧ m ≤ 6 ∧ m ≤ len := by have := hm.out; omega
  have hPm : Hid (Pgs (fun k => k < W.heap.size) W pa m pcap (ps.take m)) := hide (hP.front hm1.2.2)
  have hmin : min (len : Int) 6 = (m : Int) := by have := hm.out; omega
  have CN : Hid (∀ V, Calls Try.prog 8 #[] V fun e w' => ∃ a, e = .returned (.pointer (some ⟨a.R, 0, none⟩)) ∧ Rt w' a rs0 ∧ (∀ k, own a rs0 k ∨ k = a.Q → V.heap.size ≤ k) ∧ Below V.heap.size V w') := hide (fun V => new_any V)
  have HU := hide hU
  obtain ⟨M, hMM⟩ : ∃ M, Hid (M = min most 300) := ⟨_, hide rfl⟩
  have hmin2 : min most 300 = M := hMM.out.symm
  have hM3 : M ≤ 300 := by have := hMM.out; omega
  have HA := hide hCA
  have hlen0 : ((len : Int) == 0) = false := by rw [beq_eq_false_iff_ne]; omega
  have hmc : (m : Int) ≤ (pcap : Int) := by omega
  obtain ⟨hm0, hm6, hml⟩ := hm1
  clear hP hU hCA
  go_enter Try.func4, Try.ntmps4
  go_wp2_with fail
  refine (CN.out _).mono ?_
  rintro e w1 ⟨a, rfl, rt, hlo, hb1⟩
  obtain ⟨B, hB⟩ : ∃ B, Hid (w1.heap.size = B) := ⟨_, hide rfl⟩
  obtain ⟨A, hA⟩ : ∃ A, Hid (A = w1.alloc (.cells #[.pointer (some ⟨a.R, 0, none⟩), .slice pa m pcap, .slice none 0 0, .slice none 0 0] (31 : TypeId))) := ⟨_, hide rfl⟩
  obtain ⟨C, hC⟩ : ∃ C, Hid (A.heap.size = C) := ⟨_, hide rfl⟩
  obtain ⟨X, hX⟩ : ∃ X, Hid (X = A.alloc (.cells #[.slice pa m pcap, .slice none 0 0, .slice none 0 0, .slice none 0 0] (36 : TypeId))) := ⟨_, hide rfl⟩
  have bo := Bo.new hPm.out ⟨hm0, by omega⟩ rt hlo hb1 hB hA hC hX
  obtain ⟨R, hR⟩ : ∃ R, Hid (R = a.R) := ⟨_, hide rfl⟩
  rw [← hR.out] at bo hA ⊢
  have c0 := bo.cB0
  have HB0 := hide bo
  have hpl : Hid ((ps.take m).length = m) := hide hPm.out.len
  clear bo rt hlo hb1 CN hPm h0
  go_wp2_with (first | (rw [← hA.out, hB.out]) | (rw [← hX.out, hC.out]))
  clear hMM hmin2
  go_loopw [9] (fun i wr => ∃ k : Nat, k ≤ m ∧ i = .int .i64 k ∧ Hid (Bo W B R C pa m pcap (ps.take m) (sgs k) (sgs k) k wr)) (fun i _ => m - (intOf i).toNat)
  case atStart => exact ⟨0, Nat.zero_le _, rfl, HB0⟩
  case round =>
    obtain ⟨k, hk, rfl, hbo⟩ := hrel
    by_cases hlt : k < m
    · have CS : Hid (Calls Try.prog 9 #[.pointer (some ⟨B, 0, none⟩), .int .i64 (k : Int)] wr fun e w' => (∃ x, e = .returned (.int .i64 x)) ∧ Bo W B R C pa m pcap (ps.take m) ((sgs k).spawn k) (sgs k) (k + 1) w') := hide (by
        refine (hbo.out.spawn (by omega) hlt).mono ?_
        rintro e w' ⟨rfl, h⟩
        exact ⟨⟨_, rfl⟩, h⟩)
      have hsk := hide hbo.out.sk
      have hki : (k : Int) < (m : Int) := by omega
      clear hbo HB0 c0 hA hX hB hC
      go_wp2_with fail
      refine CS.out.mono ?_
      rintro e w5 ⟨⟨x, rfl⟩, bo5⟩
      have CR : Hid (Calls Try.prog 10 #[.pointer (some ⟨C, 0, none⟩), .int .i64 (k : Int)] w5 fun e w' => (∃ b, e = .returned (.bool b)) ∧ Hid (Bo W B R C pa m pcap (ps.take m) (sgs (k + 1)) (sgs (k + 1)) (k + 1) w')) := hide (by
        refine (bo5.rspawn hsk.out (by omega) k).mono ?_
        rintro e w' ⟨rfl, h⟩
        exact ⟨⟨_, rfl⟩, hide h⟩)
      clear CS bo5
      go_wp2_with fail
      refine CR.out.mono ?_
      rintro e w6 ⟨⟨b, rfl⟩, HB3⟩
      clear CR
      go_wp2_with fail
      go_roundw
      case rel => exact ⟨k + 1, by omega, by go_num, HB3⟩
      case measure => simp [intOf]; omega
    · obtain rfl : k = m := by omega
      obtain ⟨wl, hwl⟩ : ∃ wl : World, wl = wr := ⟨_, rfl⟩
      subst hwl
      have hul := HU.out.len
      have HSK : Hid (∀ j, j ≤ 300 → Sk k (k + j) (tlk (ps.take k) us (sgs k) j)) := hide (fun j hj => by
        obtain ⟨F, D, bs, E, wt, _⟩ := hbo.out.ex
        exact wt.tale_sk (HU.out.low hbo.out.bel) j (by omega))
      have HB1 : Hid (Bo W B R C pa k pcap (ps.take k) (sgs k) (tlk (ps.take k) us (sgs k) 0) k wl) := hbo
      clear hbo HB0 c0 hA hX hB hC
      go_wp2_with fail
      go_loopw [10, 11] (fun nv pv wr => ∃ j : Nat, nv = .int .i64 j ∧ Hid (j ≤ 300 ∧ ∀ i, i < j → (tlk (ps.take k) us (sgs k) i).line ≠ [] ∧ (i : Int) < M) ∧ Hid (Bo W B R C pa k pcap (ps.take k) (sgs k) (tlk (ps.take k) us (sgs k) j) k wr)) (fun nv _ _ => 301 - (intOf nv).toNat)
      case atStart => exact ⟨0, rfl, hide ⟨Nat.zero_le _, fun i hi => by omega⟩, HB1⟩
      case round =>
        obtain ⟨j, rfl, hj, hbo⟩ := hrel
        have hj3 := hj.out.1
        by_cases hlt : (j : Int) < M
        · have hp := pk_le HU.out j
          have hj2 : j < 300 := by omega
          have CSx : ∀ x, x = pk us j → Hid (Calls Try.prog 12 #[.pointer (some ⟨C, 0, none⟩), .int .u64 (x : Nat)] wr fun e w' => e = .returned (.bool (decide ((tlk (ps.take k) us (sgs k) j).line ≠ []))) ∧ Bo W B R C pa k pcap (ps.take k) (sgs k) (tlk (ps.take k) us (sgs k) (j + 1)) k w') := fun x hx => hide (by
            subst hx
            exact hbo.out.rstep (HSK.out j (by omega)) (by omega) (by omega) hpl.out _ hp)
          have HE0 : Hid ((tlk (ps.take k) us (sgs k) j).line = [] → Ends (ps.take k) us (sgs k) M j ∧ tlk (ps.take k) us (sgs k) (j + 1) = tlk (ps.take k) us (sgs k) j) := hide (fun hl => ⟨⟨hj3, hj.out.2, .inr hl⟩, by
            show (tlk (ps.take k) us (sgs k) j).step _ _ = _
            unfold Sg.step
            rw [if_pos (by simp [hl])]⟩)
          have HJ1 : Hid ((tlk (ps.take k) us (sgs k) j).line ≠ [] → (j + 1 ≤ 300 ∧ ∀ i, i < j + 1 → (tlk (ps.take k) us (sgs k) i).line ≠ [] ∧ (i : Int) < M)) := hide (fun hl => ⟨by omega, fun i hi => by
            by_cases h : i = j
            · subst h; exact ⟨hl, hlt⟩
            · exact hj.out.2 i (by omega)⟩)
          have HB2 := hbo
          clear hbo hj HB1
          by_cases h0 : ul = 0
          · have hpx : 0 = pk us j := by unfold pk; rw [if_pos (by omega)]
            subst h0
            have CS := CSx 0 hpx
            clear CSx hpx
            by_cases hl : (tlk (ps.take k) us (sgs k) j).line = []
            · rw [show decide ((tlk (ps.take k) us (sgs k) j).line ≠ []) = false by simpa using hl] at CS
              obtain ⟨hE, hq⟩ := HE0.out hl
              rw [hq] at CS
              have HE := hide hE
              clear hE hq hl HE0 HJ1 HB2
              go_wp2_with fail
              refine CS.out.mono ?_
              rintro e w7 ⟨rfl, b7⟩
              have hbo := hide b7
              clear b7 CS
              obtain ⟨τ, hτ⟩ : ∃ τ, Hid (τ = tlk (ps.take k) us (sgs k) j) := ⟨_, hide rfl⟩
              rw [← hτ.out] at hbo
              have e0 := hbo.out.cB0
              obtain ⟨EL, hEL⟩ : ∃ EL, Hid (EL = τ.ev.length) := ⟨_, hide rfl⟩
              have HRn : Hid (∀ V, Below w7.heap.size w7 V → Calls Try.prog 22 #[.pointer (some ⟨R, 0, none⟩), .slice ua 0 uc, .int .i64 M] V fun e w' => e = .returned (.int .i64 (j : Int)) ∧ (w'.cell? ⟨B, 0, none⟩ = some (.pointer (some ⟨R, 0, none⟩))) ∧ (∃ ea ec fa fc, w'.cell? ⟨B, 3, none⟩ = some (.slice ea EL ec) ∧ w'.cell? ⟨C, 3, none⟩ = some (.slice fa EL fc) ∧ Hid (∀ V, Below w'.heap.size w' V → Calls Try.prog 19 #[.slice ea EL ec, .slice fa EL fc] V fun e w2 => e = .returned (.bool true) ∧ (w2.cell? ⟨B, 0, none⟩ = some (.pointer (some ⟨R, 0, none⟩))) ∧ Hid (∀ V, Below w2.heap.size w2 V → Calls Try.prog 7 #[] V fun e w3 => e = .returned (.bool true) ∧ (w3.cell? ⟨B, 0, none⟩ = some (.pointer (some ⟨R, 0, none⟩))) ∧ Hid (Below W.heap.size W w3))))) := hide (fun V hV => by
                refine ((hbo.out.below hV).run (by omega) HU.out HE.out).mono ?_
                rintro e w' ⟨rfl, N', b'⟩
                rw [← hτ.out] at b'
                obtain ⟨ea, ec, e1, ev1⟩ := b'.evs
                obtain ⟨fa, fc, e2, ev2⟩ := b'.revs
                rw [← hEL.out] at e1 ev1 e2 ev2
                refine ⟨rfl, b'.cB0, ea, ec, fa, fc, e1, e2, hide (fun V2 hV2 => ?_)⟩
                refine (sameEvents_yes ea fa EL ec fc τ.ev V2 (ev1.keep hV2) (ev2.keep hV2)).mono ?_
                rintro e w2 ⟨rfl, q, hq⟩
                have b2 := b'.below (Y := w2) (by rw [hq]; exact below_drewN hV2 _)
                refine ⟨rfl, b2.cB0, hide (fun V3 hV3 => ?_)⟩
                refine (HA.out V3).mono ?_
                rintro e w3 ⟨rfl, b3⟩
                have b4 := hV3.trans (b3.mono hV3.size)
                exact ⟨rfl, (b2.below b4).cB0, hide (b2.below b4).bel⟩)
              clear hbo hEL hτ HE
              go_wp2_with fail
              refine wp_region_held_drew (S := (fun V => (V.cell? ⟨B, 0, none⟩ = some (.pointer (some ⟨R, 0, none⟩))))) (by kernel_rfl) e0 (fun hHeld => ?_)
              try simp only [List.size_toArray, List.length_cons, List.length_nil, Nat.reduceAdd]
              refine wpAnyH_take (i := 0) (v := (.pointer (some ⟨B, 0, none⟩))) rfl (by kernel_rfl) (by kernel_rfl) (by kernel_rfl) (fun _ _ _ h => h) (Or.inl ⟨by rfl, ?hy⟩) hHeld ?_
              case hy => (intro V hV; go_simp <;> first | done | rfl | (try simp_all; done) | omega)
              simp only [Act.put, List.getElem_toArray, List.getElem_cons_succ, List.getElem_cons_zero, List.setIfInBounds_toArray, List.set_cons_succ, List.set_cons_zero]
              refine wpAnyH_take (i := 1) (v := (.pointer (some ⟨B, 0, none⟩))) rfl (by kernel_rfl) (by kernel_rfl) (by kernel_rfl) (fun _ _ _ h => h) (Or.inl ⟨by rfl, ?hy⟩) hHeld ?_
              case hy => (intro V hV; go_simp <;> first | done | rfl | (try simp_all; done) | omega)
              simp only [Act.put, List.getElem_toArray, List.getElem_cons_succ, List.getElem_cons_zero, List.setIfInBounds_toArray, List.set_cons_succ, List.set_cons_zero]
              refine wpAnyH_take (i := 2) (v := (.pointer (some ⟨B, 0, none⟩))) rfl (by kernel_rfl) (by kernel_rfl) (by kernel_rfl) (fun _ _ _ h => h) (Or.inl ⟨by rfl, ?hy⟩) hHeld ?_
              case hy => (intro V hV; go_simp <;> first | done | rfl | (try simp_all; done) | omega)
              simp only [Act.put, List.getElem_toArray, List.getElem_cons_succ, List.getElem_cons_zero, List.setIfInBounds_toArray, List.set_cons_succ, List.set_cons_zero]
              refine wpAnyH_take (i := 3) (v := (.pointer (some ⟨R, 0, none⟩))) rfl (by kernel_rfl) (by kernel_rfl) (by kernel_rfl) (fun _ _ _ h => h) (Or.inl ⟨by rfl, ?hy⟩) hHeld ?_
              case hy => (intro V hV; go_simp <;> first | done | rfl | (try simp_all; done) | omega)
              simp only [Act.put, List.getElem_toArray, List.getElem_cons_succ, List.getElem_cons_zero, List.setIfInBounds_toArray, List.set_cons_succ, List.set_cons_zero]
              refine wpAnyH_take (i := 4) (v := (.slice ua 0 uc)) rfl (by kernel_rfl) (by kernel_rfl) (by kernel_rfl) (fun _ _ _ h => h) (Or.inl ⟨by rfl, ?hy⟩) hHeld ?_
              case hy => (intro V hV; go_simp <;> first | done | rfl | (try simp_all; done) | omega)
              simp only [Act.put, List.getElem_toArray, List.getElem_cons_succ, List.getElem_cons_zero, List.setIfInBounds_toArray, List.set_cons_succ, List.set_cons_zero]
              refine wpAnyH_take (i := 5) (v := (.int .i64 M)) rfl (by kernel_rfl) (by kernel_rfl) (by kernel_rfl) (fun _ _ _ h => h) (Or.inl ⟨by rfl, ?hy⟩) hHeld ?_
              case hy => (intro V hV; go_simp <;> first | done | rfl | (try simp_all; done) | omega)
              simp only [Act.put, List.getElem_toArray, List.getElem_cons_succ, List.getElem_cons_zero, List.setIfInBounds_toArray, List.set_cons_succ, List.set_cons_zero]
              refine wpAnyH_take (i := 7) (v := (.int .i64 (j : Int))) rfl (by kernel_rfl) (by kernel_rfl) (by kernel_rfl) (fun _ _ _ h => h) (Or.inl ⟨by rfl, ?hy⟩) hHeld ?_
              case hy => (intro V hV; go_simp <;> first | done | rfl | (try simp_all; done) | omega)
              simp only [Act.put, List.getElem_toArray, List.getElem_cons_succ, List.getElem_cons_zero, List.setIfInBounds_toArray, List.set_cons_succ, List.set_cons_zero]
              refine wpAnyH_ready (rs := [6]) (by kernel_rfl) (by simp) ?_
              refine AllReadyH.cons (by rfl) ?_ AllReadyH.nil
              intro K hK
              refine step_callw (by rfl) 22 #[.pointer (some ⟨R, 0, none⟩), .slice ua 0 uc, .int .i64 M] (by go_simp) ?_
              refine (HRn.out _ (Below.refl _ _).drew).mono ?_
              rintro e w8 ⟨rfl, s8, ea, ec, fa, fc, e8, f8, HS8⟩
              refine ⟨_, rfl, ?_⟩
              refine hK.out _ _ s8 (fun hHeld => ?_)
              clear hK K
              simp only [Act.put, List.getElem_toArray, List.getElem_cons_succ, List.getElem_cons_zero, List.setIfInBounds_toArray, List.set_cons_succ, List.set_cons_zero]
              refine wpAnyH_take (i := 8) (v := (.bool true)) rfl (by kernel_rfl) (by kernel_rfl) (by kernel_rfl) (fun _ _ _ h => h) (Or.inl ⟨by rfl, ?hy⟩) hHeld ?_
              case hy => (intro V hV; go_simp <;> first | done | rfl | (try simp_all; done) | omega)
              simp only [Act.put, List.getElem_toArray, List.getElem_cons_succ, List.getElem_cons_zero, List.setIfInBounds_toArray, List.set_cons_succ, List.set_cons_zero]
              refine wpAnyH_take (i := 9) (v := (.bool true)) rfl (by kernel_rfl) (by kernel_rfl) (by kernel_rfl) (fun _ _ _ h => h) (Or.inl ⟨by rfl, ?hy⟩) hHeld ?_
              case hy => (intro V hV; go_simp <;> first | done | rfl | (try simp_all; done) | omega)
              simp only [Act.put, List.getElem_toArray, List.getElem_cons_succ, List.getElem_cons_zero, List.setIfInBounds_toArray, List.set_cons_succ, List.set_cons_zero]
              refine wpAnyH_take (i := 10) (v := (.pointer (some ⟨B, 0, none⟩))) rfl (by kernel_rfl) (by kernel_rfl) (by kernel_rfl) (fun _ _ _ h => h) (Or.inl ⟨by rfl, ?hy⟩) hHeld ?_
              case hy => (intro V hV; go_simp <;> first | done | rfl | (try simp_all; done) | omega)
              simp only [Act.put, List.getElem_toArray, List.getElem_cons_succ, List.getElem_cons_zero, List.setIfInBounds_toArray, List.set_cons_succ, List.set_cons_zero]
              refine wpAnyH_take (i := 11) (v := (.pointer (some ⟨B, 0, none⟩))) rfl (by kernel_rfl) (by kernel_rfl) (by kernel_rfl) (fun _ _ _ h => h) (Or.inl ⟨by rfl, ?hy⟩) hHeld ?_
              case hy => (intro V hV; go_simp <;> first | done | rfl | (try simp_all; done) | omega)
              simp only [Act.put, List.getElem_toArray, List.getElem_cons_succ, List.getElem_cons_zero, List.setIfInBounds_toArray, List.set_cons_succ, List.set_cons_zero]
              refine wpAnyH_take (i := 12) (v := (.pointer (some ⟨B, 3, none⟩))) rfl (by kernel_rfl) (by kernel_rfl) (by kernel_rfl) (fun _ _ _ h => h) (Or.inl ⟨by rfl, ?hy⟩) hHeld ?_
              case hy => (intro V hV; go_simp <;> first | done | rfl | (try simp_all; done) | omega)
              simp only [Act.put, List.getElem_toArray, List.getElem_cons_succ, List.getElem_cons_zero, List.setIfInBounds_toArray, List.set_cons_succ, List.set_cons_zero]
              refine wpAnyH_take (i := 14) (v := (.pointer (some ⟨C, 0, none⟩))) rfl (by kernel_rfl) (by kernel_rfl) (by kernel_rfl) (fun _ _ _ h => h) (Or.inl ⟨by rfl, ?hy⟩) hHeld ?_
              case hy => (intro V hV; go_simp <;> first | done | rfl | (try simp_all; done) | omega)
              simp only [Act.put, List.getElem_toArray, List.getElem_cons_succ, List.getElem_cons_zero, List.setIfInBounds_toArray, List.set_cons_succ, List.set_cons_zero]
              refine wpAnyH_take (i := 15) (v := (.pointer (some ⟨C, 0, none⟩))) rfl (by kernel_rfl) (by kernel_rfl) (by kernel_rfl) (fun _ _ _ h => h) (Or.inl ⟨by rfl, ?hy⟩) hHeld ?_
              case hy => (intro V hV; go_simp <;> first | done | rfl | (try simp_all; done) | omega)
              simp only [Act.put, List.getElem_toArray, List.getElem_cons_succ, List.getElem_cons_zero, List.setIfInBounds_toArray, List.set_cons_succ, List.set_cons_zero]
              refine wpAnyH_take (i := 16) (v := (.pointer (some ⟨C, 3, none⟩))) rfl (by kernel_rfl) (by kernel_rfl) (by kernel_rfl) (fun _ _ _ h => h) (Or.inl ⟨by rfl, ?hy⟩) hHeld ?_
              case hy => (intro V hV; go_simp <;> first | done | rfl | (try simp_all; done) | omega)
              simp only [Act.put, List.getElem_toArray, List.getElem_cons_succ, List.getElem_cons_zero, List.setIfInBounds_toArray, List.set_cons_succ, List.set_cons_zero]
              refine wpAnyH_ready (rs := [13, 17]) (by kernel_rfl) (by simp) ?_
              refine AllReadyH.cons (by rfl) ?oa (AllReadyH.cons (by rfl) ?ob AllReadyH.nil)
              case oa =>
                intro K hK
                refine step_loadw (v := .slice ea EL ec) (w' := w8) (by rfl) (by have := e8; go_simp) ?_
                refine hK.out _ _ s8 (fun hHeld => ?_)
                clear hK K
                simp only [Act.put, List.getElem_toArray, List.getElem_cons_succ, List.getElem_cons_zero, List.setIfInBounds_toArray, List.set_cons_succ, List.set_cons_zero]
                refine wpAnyH_ready (rs := [17]) (by kernel_rfl) (by simp) ?_
                refine AllReadyH.cons (by rfl) ?_ AllReadyH.nil
                intro K hK
                refine step_loadw (v := .slice fa EL fc) (w' := w8) (by rfl) (by have := f8; go_simp) ?_
                refine hK.out _ _ s8 (fun hHeld => ?_)
                clear hK K
                simp only [Act.put, List.getElem_toArray, List.getElem_cons_succ, List.getElem_cons_zero, List.setIfInBounds_toArray, List.set_cons_succ, List.set_cons_zero]
                refine wpAnyH_ready (rs := [18]) (by kernel_rfl) (by simp) ?_
                refine AllReadyH.cons (by rfl) ?_ AllReadyH.nil
                intro K hK
                refine step_callw (by rfl) 19 #[.slice ea EL ec, .slice fa EL fc] (by go_simp) ?_
                refine (HS8.out _ (Below.refl _ _)).mono ?_
                rintro e w9 ⟨rfl, s9, HA9⟩
                refine ⟨_, rfl, ?_⟩
                refine hK.out _ _ s9 (fun hHeld => ?_)
                clear hK K
                simp only [Act.put, List.getElem_toArray, List.getElem_cons_succ, List.getElem_cons_zero, List.setIfInBounds_toArray, List.set_cons_succ, List.set_cons_zero]
                refine wpAnyH_take (i := 19) (v := (.bool true)) rfl (by kernel_rfl) (by kernel_rfl) (by kernel_rfl) (fun _ _ _ h => h) (Or.inl ⟨by rfl, ?hy⟩) hHeld ?_
                case hy => (intro V hV; go_simp <;> first | done | rfl | (try simp_all; done) | omega)
                simp only [Act.put, List.getElem_toArray, List.getElem_cons_succ, List.getElem_cons_zero, List.setIfInBounds_toArray, List.set_cons_succ, List.set_cons_zero]
                refine wpAnyH_take (i := 20) (v := (.bool true)) rfl (by kernel_rfl) (by kernel_rfl) (by kernel_rfl) (fun _ _ _ h => h) (Or.inl ⟨by rfl, ?hy⟩) hHeld ?_
                case hy => (intro V hV; go_simp <;> first | done | rfl | (try simp_all; done) | omega)
                simp only [Act.put, List.getElem_toArray, List.getElem_cons_succ, List.getElem_cons_zero, List.setIfInBounds_toArray, List.set_cons_succ, List.set_cons_zero]
                refine wpAnyH_ready (rs := [21]) (by kernel_rfl) (by simp) ?_
                refine AllReadyH.cons (by rfl) ?_ AllReadyH.nil
                intro K hK
                refine step_callw (by rfl) 7 #[] (by go_simp) ?_
                refine (HA9.out _ (Below.refl _ _)).mono ?_
                rintro e w10 ⟨rfl, s10, b10⟩
                refine ⟨_, rfl, ?_⟩
                refine hK.out _ _ s10 (fun hHeld => ?_)
                clear hK K
                simp only [Act.put, List.getElem_toArray, List.getElem_cons_succ, List.getElem_cons_zero, List.setIfInBounds_toArray, List.set_cons_succ, List.set_cons_zero]
                refine wpAnyH_take (i := 22) (v := (.bool true)) rfl (by kernel_rfl) (by kernel_rfl) (by kernel_rfl) (fun _ _ _ h => h) (Or.inl ⟨by rfl, ?hy⟩) hHeld ?_
                case hy => (intro V hV; go_simp <;> first | done | rfl | (try simp_all; done) | omega)
                simp only [Act.put, List.getElem_toArray, List.getElem_cons_succ, List.getElem_cons_zero, List.setIfInBounds_toArray, List.set_cons_succ, List.set_cons_zero]
                refine wpAnyH_take (i := 23) (v := (.bool true)) rfl (by kernel_rfl) (by kernel_rfl) (by kernel_rfl) (fun _ _ _ h => h) (Or.inl ⟨by rfl, ?hy⟩) hHeld ?_
                case hy => (intro V hV; go_simp <;> first | done | rfl | (try simp_all; done) | omega)
                simp only [Act.put, List.getElem_toArray, List.getElem_cons_succ, List.getElem_cons_zero, List.setIfInBounds_toArray, List.set_cons_succ, List.set_cons_zero]
                refine wpAnyH_done (by kernel_rfl) ?_ _
                try simp only [Act.put, List.getElem_toArray, List.getElem_cons_succ, List.getElem_cons_zero, List.setIfInBounds_toArray, List.set_cons_succ, List.set_cons_zero]
                go_wp2_with fail
                go_ret
                exact ⟨rfl, b10.out⟩
              case ob =>
                intro K hK
                refine step_loadw (v := .slice fa EL fc) (w' := w8) (by rfl) (by have := f8; go_simp) ?_
                refine hK.out _ _ s8 (fun hHeld => ?_)
                clear hK K
                simp only [Act.put, List.getElem_toArray, List.getElem_cons_succ, List.getElem_cons_zero, List.setIfInBounds_toArray, List.set_cons_succ, List.set_cons_zero]
                refine wpAnyH_ready (rs := [13]) (by kernel_rfl) (by simp) ?_
                refine AllReadyH.cons (by rfl) ?_ AllReadyH.nil
                intro K hK
                refine step_loadw (v := .slice ea EL ec) (w' := w8) (by rfl) (by have := e8; go_simp) ?_
                refine hK.out _ _ s8 (fun hHeld => ?_)
                clear hK K
                simp only [Act.put, List.getElem_toArray, List.getElem_cons_succ, List.getElem_cons_zero, List.setIfInBounds_toArray, List.set_cons_succ, List.set_cons_zero]
                refine wpAnyH_ready (rs := [18]) (by kernel_rfl) (by simp) ?_
                refine AllReadyH.cons (by rfl) ?_ AllReadyH.nil
                intro K hK
                refine step_callw (by rfl) 19 #[.slice ea EL ec, .slice fa EL fc] (by go_simp) ?_
                refine (HS8.out _ (Below.refl _ _)).mono ?_
                rintro e w9 ⟨rfl, s9, HA9⟩
                refine ⟨_, rfl, ?_⟩
                refine hK.out _ _ s9 (fun hHeld => ?_)
                clear hK K
                simp only [Act.put, List.getElem_toArray, List.getElem_cons_succ, List.getElem_cons_zero, List.setIfInBounds_toArray, List.set_cons_succ, List.set_cons_zero]
                refine wpAnyH_take (i := 19) (v := (.bool true)) rfl (by kernel_rfl) (by kernel_rfl) (by kernel_rfl) (fun _ _ _ h => h) (Or.inl ⟨by rfl, ?hy⟩) hHeld ?_
                case hy => (intro V hV; go_simp <;> first | done | rfl | (try simp_all; done) | omega)
                simp only [Act.put, List.getElem_toArray, List.getElem_cons_succ, List.getElem_cons_zero, List.setIfInBounds_toArray, List.set_cons_succ, List.set_cons_zero]
                refine wpAnyH_take (i := 20) (v := (.bool true)) rfl (by kernel_rfl) (by kernel_rfl) (by kernel_rfl) (fun _ _ _ h => h) (Or.inl ⟨by rfl, ?hy⟩) hHeld ?_
                case hy => (intro V hV; go_simp <;> first | done | rfl | (try simp_all; done) | omega)
                simp only [Act.put, List.getElem_toArray, List.getElem_cons_succ, List.getElem_cons_zero, List.setIfInBounds_toArray, List.set_cons_succ, List.set_cons_zero]
                refine wpAnyH_ready (rs := [21]) (by kernel_rfl) (by simp) ?_
                refine AllReadyH.cons (by rfl) ?_ AllReadyH.nil
                intro K hK
                refine step_callw (by rfl) 7 #[] (by go_simp) ?_
                refine (HA9.out _ (Below.refl _ _)).mono ?_
                rintro e w10 ⟨rfl, s10, b10⟩
                refine ⟨_, rfl, ?_⟩
                refine hK.out _ _ s10 (fun hHeld => ?_)
                clear hK K
                simp only [Act.put, List.getElem_toArray, List.getElem_cons_succ, List.getElem_cons_zero, List.setIfInBounds_toArray, List.set_cons_succ, List.set_cons_zero]
                refine wpAnyH_take (i := 22) (v := (.bool true)) rfl (by kernel_rfl) (by kernel_rfl) (by kernel_rfl) (fun _ _ _ h => h) (Or.inl ⟨by rfl, ?hy⟩) hHeld ?_
                case hy => (intro V hV; go_simp <;> first | done | rfl | (try simp_all; done) | omega)
                simp only [Act.put, List.getElem_toArray, List.getElem_cons_succ, List.getElem_cons_zero, List.setIfInBounds_toArray, List.set_cons_succ, List.set_cons_zero]
                refine wpAnyH_take (i := 23) (v := (.bool true)) rfl (by kernel_rfl) (by kernel_rfl) (by kernel_rfl) (fun _ _ _ h => h) (Or.inl ⟨by rfl, ?hy⟩) hHeld ?_
                case hy => (intro V hV; go_simp <;> first | done | rfl | (try simp_all; done) | omega)
                simp only [Act.put, List.getElem_toArray, List.getElem_cons_succ, List.getElem_cons_zero, List.setIfInBounds_toArray, List.set_cons_succ, List.set_cons_zero]
                refine wpAnyH_done (by kernel_rfl) ?_ _
                try simp only [Act.put, List.getElem_toArray, List.getElem_cons_succ, List.getElem_cons_zero, List.setIfInBounds_toArray, List.set_cons_succ, List.set_cons_zero]
                go_wp2_with fail
                go_ret
                exact ⟨rfl, b10.out⟩
            · rw [show decide ((tlk (ps.take k) us (sgs k) j).line ≠ []) = true by simpa using hl] at CS
              have HJ := hide (HJ1.out hl)
              clear hl HE0 HJ1 HB2
              go_wp2_with fail
              refine CS.out.mono ?_
              rintro e w7 ⟨rfl, b7⟩
              have HN7 := hide b7
              clear b7 CS
              go_wp2_with fail
              go_roundw
              case rel => exact ⟨j + 1, by go_num, HJ, HN7⟩
              case measure => simp [intOf]; omega
          · have hbo0 := HB2.out
            have hm : j % ul < ul := Nat.mod_lt _ (by omega)
            obtain ⟨ub, uo, hua, hcu⟩ := HU.out.lies (by omega)
            have hcw := hcu _ hm
            have hc := ((hbo0.bel).cell (cell_lt hcw)).trans hcw
            subst hua
            obtain ⟨x, hx⟩ : ∃ x, Hid (x = us.getD (j % ul) 0) := ⟨_, hide rfl⟩
            have hpx : x = pk us j := by unfold pk; rw [if_neg (by omega), hul, hx.out]
            rw [← hx.out] at hc
            have ht : (j : Int).tmod (ul : Int) = ((j % ul : Nat) : Int) := by
              rw [Int.tmod_eq_emod_of_nonneg (by omega)]
              simp
            obtain ⟨q, hq⟩ : ∃ q, Hid (q = j % ul) := ⟨_, hide rfl⟩
            rw [← hq.out] at hm hc ht
            have hwq : IntKind.i64.wrap (q : Int) = (q : Int) := by simp [IntKind.wrap, IntKind.signed, IntKind.bits]; omega
            have hrem : ∀ V : World, (Op.intDiv .rem .i64 (j : Int) (ul : Int)).run Try.prog V = .ok (.int .i64 (q : Int)) V := fun V => by
              simp [Op.intDiv, ht, hwq, show ul ≠ 0 by omega]
            have h00 : ((ul : Int) == 0) = false := by rw [beq_eq_false_iff_ne]; omega
            have hgt : (0 : Int) < (ul : Int) := by omega
            have hqi : (q : Int) < (ul : Int) := by omega
            have hul9 : (ul : Int) ≤ 9223372036854775807 := by omega
            clear hcu hcw hx hq hbo0
            have CS := CSx x hpx
            clear CSx hpx
            by_cases hl : (tlk (ps.take k) us (sgs k) j).line = []
            · rw [show decide ((tlk (ps.take k) us (sgs k) j).line ≠ []) = false by simpa using hl] at CS
              obtain ⟨hE, hq⟩ := HE0.out hl
              rw [hq] at CS
              have HE := hide hE
              clear hE hq hl HE0 HJ1 HB2
              go_wp2_with fail
              refine CS.out.mono ?_
              rintro e w7 ⟨rfl, b7⟩
              have hbo := hide b7
              clear b7 CS
              obtain ⟨τ, hτ⟩ : ∃ τ, Hid (τ = tlk (ps.take k) us (sgs k) j) := ⟨_, hide rfl⟩
              rw [← hτ.out] at hbo
              have e0 := hbo.out.cB0
              obtain ⟨EL, hEL⟩ : ∃ EL, Hid (EL = τ.ev.length) := ⟨_, hide rfl⟩
              have HRn : Hid (∀ V, Below w7.heap.size w7 V → Calls Try.prog 22 #[.pointer (some ⟨R, 0, none⟩), .slice (some ⟨ub, uo, none⟩) ul uc, .int .i64 M] V fun e w' => e = .returned (.int .i64 (j : Int)) ∧ (w'.cell? ⟨B, 0, none⟩ = some (.pointer (some ⟨R, 0, none⟩))) ∧ (∃ ea ec fa fc, w'.cell? ⟨B, 3, none⟩ = some (.slice ea EL ec) ∧ w'.cell? ⟨C, 3, none⟩ = some (.slice fa EL fc) ∧ Hid (∀ V, Below w'.heap.size w' V → Calls Try.prog 19 #[.slice ea EL ec, .slice fa EL fc] V fun e w2 => e = .returned (.bool true) ∧ (w2.cell? ⟨B, 0, none⟩ = some (.pointer (some ⟨R, 0, none⟩))) ∧ Hid (∀ V, Below w2.heap.size w2 V → Calls Try.prog 7 #[] V fun e w3 => e = .returned (.bool true) ∧ (w3.cell? ⟨B, 0, none⟩ = some (.pointer (some ⟨R, 0, none⟩))) ∧ Hid (Below W.heap.size W w3))))) := hide (fun V hV => by
                refine ((hbo.out.below hV).run (by omega) HU.out HE.out).mono ?_
                rintro e w' ⟨rfl, N', b'⟩
                rw [← hτ.out] at b'
                obtain ⟨ea, ec, e1, ev1⟩ := b'.evs
                obtain ⟨fa, fc, e2, ev2⟩ := b'.revs
                rw [← hEL.out] at e1 ev1 e2 ev2
                refine ⟨rfl, b'.cB0, ea, ec, fa, fc, e1, e2, hide (fun V2 hV2 => ?_)⟩
                refine (sameEvents_yes ea fa EL ec fc τ.ev V2 (ev1.keep hV2) (ev2.keep hV2)).mono ?_
                rintro e w2 ⟨rfl, q, hq⟩
                have b2 := b'.below (Y := w2) (by rw [hq]; exact below_drewN hV2 _)
                refine ⟨rfl, b2.cB0, hide (fun V3 hV3 => ?_)⟩
                refine (HA.out V3).mono ?_
                rintro e w3 ⟨rfl, b3⟩
                have b4 := hV3.trans (b3.mono hV3.size)
                exact ⟨rfl, (b2.below b4).cB0, hide (b2.below b4).bel⟩)
              clear hbo hEL hτ HE
              go_wp2_with fail
              refine wp_region_held_drew (S := (fun V => (V.cell? ⟨B, 0, none⟩ = some (.pointer (some ⟨R, 0, none⟩))))) (by kernel_rfl) e0 (fun hHeld => ?_)
              try simp only [List.size_toArray, List.length_cons, List.length_nil, Nat.reduceAdd]
              refine wpAnyH_take (i := 0) (v := (.pointer (some ⟨B, 0, none⟩))) rfl (by kernel_rfl) (by kernel_rfl) (by kernel_rfl) (fun _ _ _ h => h) (Or.inl ⟨by rfl, ?hy⟩) hHeld ?_
              case hy => (intro V hV; go_simp <;> first | done | rfl | (try simp_all; done) | omega)
              simp only [Act.put, List.getElem_toArray, List.getElem_cons_succ, List.getElem_cons_zero, List.setIfInBounds_toArray, List.set_cons_succ, List.set_cons_zero]
              refine wpAnyH_take (i := 1) (v := (.pointer (some ⟨B, 0, none⟩))) rfl (by kernel_rfl) (by kernel_rfl) (by kernel_rfl) (fun _ _ _ h => h) (Or.inl ⟨by rfl, ?hy⟩) hHeld ?_
              case hy => (intro V hV; go_simp <;> first | done | rfl | (try simp_all; done) | omega)
              simp only [Act.put, List.getElem_toArray, List.getElem_cons_succ, List.getElem_cons_zero, List.setIfInBounds_toArray, List.set_cons_succ, List.set_cons_zero]
              refine wpAnyH_take (i := 2) (v := (.pointer (some ⟨B, 0, none⟩))) rfl (by kernel_rfl) (by kernel_rfl) (by kernel_rfl) (fun _ _ _ h => h) (Or.inl ⟨by rfl, ?hy⟩) hHeld ?_
              case hy => (intro V hV; go_simp <;> first | done | rfl | (try simp_all; done) | omega)
              simp only [Act.put, List.getElem_toArray, List.getElem_cons_succ, List.getElem_cons_zero, List.setIfInBounds_toArray, List.set_cons_succ, List.set_cons_zero]
              refine wpAnyH_take (i := 3) (v := (.pointer (some ⟨R, 0, none⟩))) rfl (by kernel_rfl) (by kernel_rfl) (by kernel_rfl) (fun _ _ _ h => h) (Or.inl ⟨by rfl, ?hy⟩) hHeld ?_
              case hy => (intro V hV; go_simp <;> first | done | rfl | (try simp_all; done) | omega)
              simp only [Act.put, List.getElem_toArray, List.getElem_cons_succ, List.getElem_cons_zero, List.setIfInBounds_toArray, List.set_cons_succ, List.set_cons_zero]
              refine wpAnyH_take (i := 4) (v := (.slice (some ⟨ub, uo, none⟩) ul uc)) rfl (by kernel_rfl) (by kernel_rfl) (by kernel_rfl) (fun _ _ _ h => h) (Or.inl ⟨by rfl, ?hy⟩) hHeld ?_
              case hy => (intro V hV; go_simp <;> first | done | rfl | (try simp_all; done) | omega)
              simp only [Act.put, List.getElem_toArray, List.getElem_cons_succ, List.getElem_cons_zero, List.setIfInBounds_toArray, List.set_cons_succ, List.set_cons_zero]
              refine wpAnyH_take (i := 5) (v := (.int .i64 M)) rfl (by kernel_rfl) (by kernel_rfl) (by kernel_rfl) (fun _ _ _ h => h) (Or.inl ⟨by rfl, ?hy⟩) hHeld ?_
              case hy => (intro V hV; go_simp <;> first | done | rfl | (try simp_all; done) | omega)
              simp only [Act.put, List.getElem_toArray, List.getElem_cons_succ, List.getElem_cons_zero, List.setIfInBounds_toArray, List.set_cons_succ, List.set_cons_zero]
              refine wpAnyH_take (i := 7) (v := (.int .i64 (j : Int))) rfl (by kernel_rfl) (by kernel_rfl) (by kernel_rfl) (fun _ _ _ h => h) (Or.inl ⟨by rfl, ?hy⟩) hHeld ?_
              case hy => (intro V hV; go_simp <;> first | done | rfl | (try simp_all; done) | omega)
              simp only [Act.put, List.getElem_toArray, List.getElem_cons_succ, List.getElem_cons_zero, List.setIfInBounds_toArray, List.set_cons_succ, List.set_cons_zero]
              refine wpAnyH_ready (rs := [6]) (by kernel_rfl) (by simp) ?_
              refine AllReadyH.cons (by rfl) ?_ AllReadyH.nil
              intro K hK
              refine step_callw (by rfl) 22 #[.pointer (some ⟨R, 0, none⟩), .slice (some ⟨ub, uo, none⟩) ul uc, .int .i64 M] (by go_simp) ?_
              refine (HRn.out _ (Below.refl _ _).drew).mono ?_
              rintro e w8 ⟨rfl, s8, ea, ec, fa, fc, e8, f8, HS8⟩
              refine ⟨_, rfl, ?_⟩
              refine hK.out _ _ s8 (fun hHeld => ?_)
              clear hK K
              simp only [Act.put, List.getElem_toArray, List.getElem_cons_succ, List.getElem_cons_zero, List.setIfInBounds_toArray, List.set_cons_succ, List.set_cons_zero]
              refine wpAnyH_take (i := 8) (v := (.bool true)) rfl (by kernel_rfl) (by kernel_rfl) (by kernel_rfl) (fun _ _ _ h => h) (Or.inl ⟨by rfl, ?hy⟩) hHeld ?_
              case hy => (intro V hV; go_simp <;> first | done | rfl | (try simp_all; done) | omega)
              simp only [Act.put, List.getElem_toArray, List.getElem_cons_succ, List.getElem_cons_zero, List.setIfInBounds_toArray, List.set_cons_succ, List.set_cons_zero]
              refine wpAnyH_take (i := 9) (v := (.bool true)) rfl (by kernel_rfl) (by kernel_rfl) (by kernel_rfl) (fun _ _ _ h => h) (Or.inl ⟨by rfl, ?hy⟩) hHeld ?_
              case hy => (intro V hV; go_simp <;> first | done | rfl | (try simp_all; done) | omega)
              simp only [Act.put, List.getElem_toArray, List.getElem_cons_succ, List.getElem_cons_zero, List.setIfInBounds_toArray, List.set_cons_succ, List.set_cons_zero]
              refine wpAnyH_take (i := 10) (v := (.pointer (some ⟨B, 0, none⟩))) rfl (by kernel_rfl) (by kernel_rfl) (by kernel_rfl) (fun _ _ _ h => h) (Or.inl ⟨by rfl, ?hy⟩) hHeld ?_
              case hy => (intro V hV; go_simp <;> first | done | rfl | (try simp_all; done) | omega)
              simp only [Act.put, List.getElem_toArray, List.getElem_cons_succ, List.getElem_cons_zero, List.setIfInBounds_toArray, List.set_cons_succ, List.set_cons_zero]
              refine wpAnyH_take (i := 11) (v := (.pointer (some ⟨B, 0, none⟩))) rfl (by kernel_rfl) (by kernel_rfl) (by kernel_rfl) (fun _ _ _ h => h) (Or.inl ⟨by rfl, ?hy⟩) hHeld ?_
              case hy => (intro V hV; go_simp <;> first | done | rfl | (try simp_all; done) | omega)
              simp only [Act.put, List.getElem_toArray, List.getElem_cons_succ, List.getElem_cons_zero, List.setIfInBounds_toArray, List.set_cons_succ, List.set_cons_zero]
              refine wpAnyH_take (i := 12) (v := (.pointer (some ⟨B, 3, none⟩))) rfl (by kernel_rfl) (by kernel_rfl) (by kernel_rfl) (fun _ _ _ h => h) (Or.inl ⟨by rfl, ?hy⟩) hHeld ?_
              case hy => (intro V hV; go_simp <;> first | done | rfl | (try simp_all; done) | omega)
              simp only [Act.put, List.getElem_toArray, List.getElem_cons_succ, List.getElem_cons_zero, List.setIfInBounds_toArray, List.set_cons_succ, List.set_cons_zero]
              refine wpAnyH_take (i := 14) (v := (.pointer (some ⟨C, 0, none⟩))) rfl (by kernel_rfl) (by kernel_rfl) (by kernel_rfl) (fun _ _ _ h => h) (Or.inl ⟨by rfl, ?hy⟩) hHeld ?_
              case hy => (intro V hV; go_simp <;> first | done | rfl | (try simp_all; done) | omega)
              simp only [Act.put, List.getElem_toArray, List.getElem_cons_succ, List.getElem_cons_zero, List.setIfInBounds_toArray, List.set_cons_succ, List.set_cons_zero]
              refine wpAnyH_take (i := 15) (v := (.pointer (some ⟨C, 0, none⟩))) rfl (by kernel_rfl) (by kernel_rfl) (by kernel_rfl) (fun _ _ _ h => h) (Or.inl ⟨by rfl, ?hy⟩) hHeld ?_
              case hy => (intro V hV; go_simp <;> first | done | rfl | (try simp_all; done) | omega)
              simp only [Act.put, List.getElem_toArray, List.getElem_cons_succ, List.getElem_cons_zero, List.setIfInBounds_toArray, List.set_cons_succ, List.set_cons_zero]
              refine wpAnyH_take (i := 16) (v := (.pointer (some ⟨C, 3, none⟩))) rfl (by kernel_rfl) (by kernel_rfl) (by kernel_rfl) (fun _ _ _ h => h) (Or.inl ⟨by rfl, ?hy⟩) hHeld ?_
              case hy => (intro V hV; go_simp <;> first | done | rfl | (try simp_all; done) | omega)
              simp only [Act.put, List.getElem_toArray, List.getElem_cons_succ, List.getElem_cons_zero, List.setIfInBounds_toArray, List.set_cons_succ, List.set_cons_zero]
              refine wpAnyH_ready (rs := [13, 17]) (by kernel_rfl) (by simp) ?_
              refine AllReadyH.cons (by rfl) ?oa (AllReadyH.cons (by rfl) ?ob AllReadyH.nil)
              case oa =>
                intro K hK
                refine step_loadw (v := .slice ea EL ec) (w' := w8) (by rfl) (by have := e8; go_simp) ?_
                refine hK.out _ _ s8 (fun hHeld => ?_)
                clear hK K
                simp only [Act.put, List.getElem_toArray, List.getElem_cons_succ, List.getElem_cons_zero, List.setIfInBounds_toArray, List.set_cons_succ, List.set_cons_zero]
                refine wpAnyH_ready (rs := [17]) (by kernel_rfl) (by simp) ?_
                refine AllReadyH.cons (by rfl) ?_ AllReadyH.nil
                intro K hK
                refine step_loadw (v := .slice fa EL fc) (w' := w8) (by rfl) (by have := f8; go_simp) ?_
                refine hK.out _ _ s8 (fun hHeld => ?_)
                clear hK K
                simp only [Act.put, List.getElem_toArray, List.getElem_cons_succ, List.getElem_cons_zero, List.setIfInBounds_toArray, List.set_cons_succ, List.set_cons_zero]
                refine wpAnyH_ready (rs := [18]) (by kernel_rfl) (by simp) ?_
                refine AllReadyH.cons (by rfl) ?_ AllReadyH.nil
                intro K hK
                refine step_callw (by rfl) 19 #[.slice ea EL ec, .slice fa EL fc] (by go_simp) ?_
                refine (HS8.out _ (Below.refl _ _)).mono ?_
                rintro e w9 ⟨rfl, s9, HA9⟩
                refine ⟨_, rfl, ?_⟩
                refine hK.out _ _ s9 (fun hHeld => ?_)
                clear hK K
                simp only [Act.put, List.getElem_toArray, List.getElem_cons_succ, List.getElem_cons_zero, List.setIfInBounds_toArray, List.set_cons_succ, List.set_cons_zero]
                refine wpAnyH_take (i := 19) (v := (.bool true)) rfl (by kernel_rfl) (by kernel_rfl) (by kernel_rfl) (fun _ _ _ h => h) (Or.inl ⟨by rfl, ?hy⟩) hHeld ?_
                case hy => (intro V hV; go_simp <;> first | done | rfl | (try simp_all; done) | omega)
                simp only [Act.put, List.getElem_toArray, List.getElem_cons_succ, List.getElem_cons_zero, List.setIfInBounds_toArray, List.set_cons_succ, List.set_cons_zero]
                refine wpAnyH_take (i := 20) (v := (.bool true)) rfl (by kernel_rfl) (by kernel_rfl) (by kernel_rfl) (fun _ _ _ h => h) (Or.inl ⟨by rfl, ?hy⟩) hHeld ?_
                case hy => (intro V hV; go_simp <;> first | done | rfl | (try simp_all; done) | omega)
                simp only [Act.put, List.getElem_toArray, List.getElem_cons_succ, List.getElem_cons_zero, List.setIfInBounds_toArray, List.set_cons_succ, List.set_cons_zero]
                refine wpAnyH_ready (rs := [21]) (by kernel_rfl) (by simp) ?_
                refine AllReadyH.cons (by rfl) ?_ AllReadyH.nil
                intro K hK
                refine step_callw (by rfl) 7 #[] (by go_simp) ?_
                refine (HA9.out _ (Below.refl _ _)).mono ?_
                rintro e w10 ⟨rfl, s10, b10⟩
                refine ⟨_, rfl, ?_⟩
                refine hK.out _ _ s10 (fun hHeld => ?_)
                clear hK K
                simp only [Act.put, List.getElem_toArray, List.getElem_cons_succ, List.getElem_cons_zero, List.setIfInBounds_toArray, List.set_cons_succ, List.set_cons_zero]
                refine wpAnyH_take (i := 22) (v := (.bool true)) rfl (by kernel_rfl) (by kernel_rfl) (by kernel_rfl) (fun _ _ _ h => h) (Or.inl ⟨by rfl, ?hy⟩) hHeld ?_
                case hy => (intro V hV; go_simp <;> first | done | rfl | (try simp_all; done) | omega)
                simp only [Act.put, List.getElem_toArray, List.getElem_cons_succ, List.getElem_cons_zero, List.setIfInBounds_toArray, List.set_cons_succ, List.set_cons_zero]
                refine wpAnyH_take (i := 23) (v := (.bool true)) rfl (by kernel_rfl) (by kernel_rfl) (by kernel_rfl) (fun _ _ _ h => h) (Or.inl ⟨by rfl, ?hy⟩) hHeld ?_
                case hy => (intro V hV; go_simp <;> first | done | rfl | (try simp_all; done) | omega)
                simp only [Act.put, List.getElem_toArray, List.getElem_cons_succ, List.getElem_cons_zero, List.setIfInBounds_toArray, List.set_cons_succ, List.set_cons_zero]
                refine wpAnyH_done (by kernel_rfl) ?_ _
                try simp only [Act.put, List.getElem_toArray, List.getElem_cons_succ, List.getElem_cons_zero, List.setIfInBounds_toArray, List.set_cons_succ, List.set_cons_zero]
                go_wp2_with fail
                go_ret
                exact ⟨rfl, b10.out⟩
              case ob =>
                intro K hK
                refine step_loadw (v := .slice fa EL fc) (w' := w8) (by rfl) (by have := f8; go_simp) ?_
                refine hK.out _ _ s8 (fun hHeld => ?_)
                clear hK K
                simp only [Act.put, List.getElem_toArray, List.getElem_cons_succ, List.getElem_cons_zero, List.setIfInBounds_toArray, List.set_cons_succ, List.set_cons_zero]
                refine wpAnyH_ready (rs := [13]) (by kernel_rfl) (by simp) ?_
                refine AllReadyH.cons (by rfl) ?_ AllReadyH.nil
                intro K hK
                refine step_loadw (v := .slice ea EL ec) (w' := w8) (by rfl) (by have := e8; go_simp) ?_
                refine hK.out _ _ s8 (fun hHeld => ?_)
                clear hK K
                simp only [Act.put, List.getElem_toArray, List.getElem_cons_succ, List.getElem_cons_zero, List.setIfInBounds_toArray, List.set_cons_succ, List.set_cons_zero]
                refine wpAnyH_ready (rs := [18]) (by kernel_rfl) (by simp) ?_
                refine AllReadyH.cons (by rfl) ?_ AllReadyH.nil
                intro K hK
                refine step_callw (by rfl) 19 #[.slice ea EL ec, .slice fa EL fc] (by go_simp) ?_
                refine (HS8.out _ (Below.refl _ _)).mono ?_
                rintro e w9 ⟨rfl, s9, HA9⟩
                refine ⟨_, rfl, ?_⟩
                refine hK.out _ _ s9 (fun hHeld => ?_)
                clear hK K
                simp only [Act.put, List.getElem_toArray, List.getElem_cons_succ, List.getElem_cons_zero, List.setIfInBounds_toArray, List.set_cons_succ, List.set_cons_zero]
                refine wpAnyH_take (i := 19) (v := (.bool true)) rfl (by kernel_rfl) (by kernel_rfl) (by kernel_rfl) (fun _ _ _ h => h) (Or.inl ⟨by rfl, ?hy⟩) hHeld ?_
                case hy => (intro V hV; go_simp <;> first | done | rfl | (try simp_all; done) | omega)
                simp only [Act.put, List.getElem_toArray, List.getElem_cons_succ, List.getElem_cons_zero, List.setIfInBounds_toArray, List.set_cons_succ, List.set_cons_zero]
                refine wpAnyH_take (i := 20) (v := (.bool true)) rfl (by kernel_rfl) (by kernel_rfl) (by kernel_rfl) (fun _ _ _ h => h) (Or.inl ⟨by rfl, ?hy⟩) hHeld ?_
                case hy => (intro V hV; go_simp <;> first | done | rfl | (try simp_all; done) | omega)
                simp only [Act.put, List.getElem_toArray, List.getElem_cons_succ, List.getElem_cons_zero, List.setIfInBounds_toArray, List.set_cons_succ, List.set_cons_zero]
                refine wpAnyH_ready (rs := [21]) (by kernel_rfl) (by simp) ?_
                refine AllReadyH.cons (by rfl) ?_ AllReadyH.nil
                intro K hK
                refine step_callw (by rfl) 7 #[] (by go_simp) ?_
                refine (HA9.out _ (Below.refl _ _)).mono ?_
                rintro e w10 ⟨rfl, s10, b10⟩
                refine ⟨_, rfl, ?_⟩
                refine hK.out _ _ s10 (fun hHeld => ?_)
                clear hK K
                simp only [Act.put, List.getElem_toArray, List.getElem_cons_succ, List.getElem_cons_zero, List.setIfInBounds_toArray, List.set_cons_succ, List.set_cons_zero]
                refine wpAnyH_take (i := 22) (v := (.bool true)) rfl (by kernel_rfl) (by kernel_rfl) (by kernel_rfl) (fun _ _ _ h => h) (Or.inl ⟨by rfl, ?hy⟩) hHeld ?_
                case hy => (intro V hV; go_simp <;> first | done | rfl | (try simp_all; done) | omega)
                simp only [Act.put, List.getElem_toArray, List.getElem_cons_succ, List.getElem_cons_zero, List.setIfInBounds_toArray, List.set_cons_succ, List.set_cons_zero]
                refine wpAnyH_take (i := 23) (v := (.bool true)) rfl (by kernel_rfl) (by kernel_rfl) (by kernel_rfl) (fun _ _ _ h => h) (Or.inl ⟨by rfl, ?hy⟩) hHeld ?_
                case hy => (intro V hV; go_simp <;> first | done | rfl | (try simp_all; done) | omega)
                simp only [Act.put, List.getElem_toArray, List.getElem_cons_succ, List.getElem_cons_zero, List.setIfInBounds_toArray, List.set_cons_succ, List.set_cons_zero]
                refine wpAnyH_done (by kernel_rfl) ?_ _
                try simp only [Act.put, List.getElem_toArray, List.getElem_cons_succ, List.getElem_cons_zero, List.setIfInBounds_toArray, List.set_cons_succ, List.set_cons_zero]
                go_wp2_with fail
                go_ret
                exact ⟨rfl, b10.out⟩
            · rw [show decide ((tlk (ps.take k) us (sgs k) j).line ≠ []) = true by simpa using hl] at CS
              have HJ := hide (HJ1.out hl)
              clear hl HE0 HJ1 HB2
              go_wp2_with fail
              refine CS.out.mono ?_
              rintro e w7 ⟨rfl, b7⟩
              have HN7 := hide b7
              clear b7 CS
              go_wp2_with fail
              go_roundw
              case rel => exact ⟨j + 1, by go_num, HJ, HN7⟩
              case measure => simp [intOf]; omega
        · have HE : Hid (Ends (ps.take k) us (sgs k) M j) := hide ⟨hj3, hj.out.2, .inl hlt⟩
          clear hj HB1
          have hbo1 := hbo
          clear hbo
          have hbo := hbo1
          clear hbo1
          obtain ⟨τ, hτ⟩ : ∃ τ, Hid (τ = tlk (ps.take k) us (sgs k) j) := ⟨_, hide rfl⟩
          rw [← hτ.out] at hbo
          have e0 := hbo.out.cB0
          obtain ⟨EL, hEL⟩ : ∃ EL, Hid (EL = τ.ev.length) := ⟨_, hide rfl⟩
          have HRn : Hid (∀ V, Below wr.heap.size wr V → Calls Try.prog 22 #[.pointer (some ⟨R, 0, none⟩), .slice ua ul uc, .int .i64 M] V fun e w' => e = .returned (.int .i64 (j : Int)) ∧ (w'.cell? ⟨B, 0, none⟩ = some (.pointer (some ⟨R, 0, none⟩))) ∧ (∃ ea ec fa fc, w'.cell? ⟨B, 3, none⟩ = some (.slice ea EL ec) ∧ w'.cell? ⟨C, 3, none⟩ = some (.slice fa EL fc) ∧ Hid (∀ V, Below w'.heap.size w' V → Calls Try.prog 19 #[.slice ea EL ec, .slice fa EL fc] V fun e w2 => e = .returned (.bool true) ∧ (w2.cell? ⟨B, 0, none⟩ = some (.pointer (some ⟨R, 0, none⟩))) ∧ Hid (∀ V, Below w2.heap.size w2 V → Calls Try.prog 7 #[] V fun e w3 => e = .returned (.bool true) ∧ (w3.cell? ⟨B, 0, none⟩ = some (.pointer (some ⟨R, 0, none⟩))) ∧ Hid (Below W.heap.size W w3))))) := hide (fun V hV => by
            refine ((hbo.out.below hV).run (by omega) HU.out HE.out).mono ?_
            rintro e w' ⟨rfl, N', b'⟩
            rw [← hτ.out] at b'
            obtain ⟨ea, ec, e1, ev1⟩ := b'.evs
            obtain ⟨fa, fc, e2, ev2⟩ := b'.revs
            rw [← hEL.out] at e1 ev1 e2 ev2
            refine ⟨rfl, b'.cB0, ea, ec, fa, fc, e1, e2, hide (fun V2 hV2 => ?_)⟩
            refine (sameEvents_yes ea fa EL ec fc τ.ev V2 (ev1.keep hV2) (ev2.keep hV2)).mono ?_
            rintro e w2 ⟨rfl, q, hq⟩
            have b2 := b'.below (Y := w2) (by rw [hq]; exact below_drewN hV2 _)
            refine ⟨rfl, b2.cB0, hide (fun V3 hV3 => ?_)⟩
            refine (HA.out V3).mono ?_
            rintro e w3 ⟨rfl, b3⟩
            have b4 := hV3.trans (b3.mono hV3.size)
            exact ⟨rfl, (b2.below b4).cB0, hide (b2.below b4).bel⟩)
          clear hbo hEL hτ HE
          go_wp2_with fail
          refine wp_region_held_drew (S := (fun V => (V.cell? ⟨B, 0, none⟩ = some (.pointer (some ⟨R, 0, none⟩))))) (by kernel_rfl) e0 (fun hHeld => ?_)
          try simp only [List.size_toArray, List.length_cons, List.length_nil, Nat.reduceAdd]
          refine wpAnyH_take (i := 0) (v := (.pointer (some ⟨B, 0, none⟩))) rfl (by kernel_rfl) (by kernel_rfl) (by kernel_rfl) (fun _ _ _ h => h) (Or.inl ⟨by rfl, ?hy⟩) hHeld ?_
          case hy => (intro V hV; go_simp <;> first | done | rfl | (try simp_all; done) | omega)
          simp only [Act.put, List.getElem_toArray, List.getElem_cons_succ, List.getElem_cons_zero, List.setIfInBounds_toArray, List.set_cons_succ, List.set_cons_zero]
          refine wpAnyH_take (i := 1) (v := (.pointer (some ⟨B, 0, none⟩))) rfl (by kernel_rfl) (by kernel_rfl) (by kernel_rfl) (fun _ _ _ h => h) (Or.inl ⟨by rfl, ?hy⟩) hHeld ?_
          case hy => (intro V hV; go_simp <;> first | done | rfl | (try simp_all; done) | omega)
          simp only [Act.put, List.getElem_toArray, List.getElem_cons_succ, List.getElem_cons_zero, List.setIfInBounds_toArray, List.set_cons_succ, List.set_cons_zero]
          refine wpAnyH_take (i := 2) (v := (.pointer (some ⟨B, 0, none⟩))) rfl (by kernel_rfl) (by kernel_rfl) (by kernel_rfl) (fun _ _ _ h => h) (Or.inl ⟨by rfl, ?hy⟩) hHeld ?_
          case hy => (intro V hV; go_simp <;> first | done | rfl | (try simp_all; done) | omega)
          simp only [Act.put, List.getElem_toArray, List.getElem_cons_succ, List.getElem_cons_zero, List.setIfInBounds_toArray, List.set_cons_succ, List.set_cons_zero]
          refine wpAnyH_take (i := 3) (v := (.pointer (some ⟨R, 0, none⟩))) rfl (by kernel_rfl) (by kernel_rfl) (by kernel_rfl) (fun _ _ _ h => h) (Or.inl ⟨by rfl, ?hy⟩) hHeld ?_
          case hy => (intro V hV; go_simp <;> first | done | rfl | (try simp_all; done) | omega)
          simp only [Act.put, List.getElem_toArray, List.getElem_cons_succ, List.getElem_cons_zero, List.setIfInBounds_toArray, List.set_cons_succ, List.set_cons_zero]
          refine wpAnyH_take (i := 4) (v := (.slice ua ul uc)) rfl (by kernel_rfl) (by kernel_rfl) (by kernel_rfl) (fun _ _ _ h => h) (Or.inl ⟨by rfl, ?hy⟩) hHeld ?_
          case hy => (intro V hV; go_simp <;> first | done | rfl | (try simp_all; done) | omega)
          simp only [Act.put, List.getElem_toArray, List.getElem_cons_succ, List.getElem_cons_zero, List.setIfInBounds_toArray, List.set_cons_succ, List.set_cons_zero]
          refine wpAnyH_take (i := 5) (v := (.int .i64 M)) rfl (by kernel_rfl) (by kernel_rfl) (by kernel_rfl) (fun _ _ _ h => h) (Or.inl ⟨by rfl, ?hy⟩) hHeld ?_
          case hy => (intro V hV; go_simp <;> first | done | rfl | (try simp_all; done) | omega)
          simp only [Act.put, List.getElem_toArray, List.getElem_cons_succ, List.getElem_cons_zero, List.setIfInBounds_toArray, List.set_cons_succ, List.set_cons_zero]
          refine wpAnyH_take (i := 7) (v := (.int .i64 (j : Int))) rfl (by kernel_rfl) (by kernel_rfl) (by kernel_rfl) (fun _ _ _ h => h) (Or.inl ⟨by rfl, ?hy⟩) hHeld ?_
          case hy => (intro V hV; go_simp <;> first | done | rfl | (try simp_all; done) | omega)
          simp only [Act.put, List.getElem_toArray, List.getElem_cons_succ, List.getElem_cons_zero, List.setIfInBounds_toArray, List.set_cons_succ, List.set_cons_zero]
          refine wpAnyH_ready (rs := [6]) (by kernel_rfl) (by simp) ?_
          refine AllReadyH.cons (by rfl) ?_ AllReadyH.nil
          intro K hK
          refine step_callw (by rfl) 22 #[.pointer (some ⟨R, 0, none⟩), .slice ua ul uc, .int .i64 M] (by go_simp) ?_
          refine (HRn.out _ (Below.refl _ _).drew).mono ?_
          rintro e w8 ⟨rfl, s8, ea, ec, fa, fc, e8, f8, HS8⟩
          refine ⟨_, rfl, ?_⟩
          refine hK.out _ _ s8 (fun hHeld => ?_)
          clear hK K
          simp only [Act.put, List.getElem_toArray, List.getElem_cons_succ, List.getElem_cons_zero, List.setIfInBounds_toArray, List.set_cons_succ, List.set_cons_zero]
          refine wpAnyH_take (i := 8) (v := (.bool true)) rfl (by kernel_rfl) (by kernel_rfl) (by kernel_rfl) (fun _ _ _ h => h) (Or.inl ⟨by rfl, ?hy⟩) hHeld ?_
          case hy => (intro V hV; go_simp <;> first | done | rfl | (try simp_all; done) | omega)
          simp only [Act.put, List.getElem_toArray, List.getElem_cons_succ, List.getElem_cons_zero, List.setIfInBounds_toArray, List.set_cons_succ, List.set_cons_zero]
          refine wpAnyH_take (i := 9) (v := (.bool true)) rfl (by kernel_rfl) (by kernel_rfl) (by kernel_rfl) (fun _ _ _ h => h) (Or.inl ⟨by rfl, ?hy⟩) hHeld ?_
          case hy => (intro V hV; go_simp <;> first | done | rfl | (try simp_all; done) | omega)
          simp only [Act.put, List.getElem_toArray, List.getElem_cons_succ, List.getElem_cons_zero, List.setIfInBounds_toArray, List.set_cons_succ, List.set_cons_zero]
          refine wpAnyH_take (i := 10) (v := (.pointer (some ⟨B, 0, none⟩))) rfl (by kernel_rfl) (by kernel_rfl) (by kernel_rfl) (fun _ _ _ h => h) (Or.inl ⟨by rfl, ?hy⟩) hHeld ?_
          case hy => (intro V hV; go_simp <;> first | done | rfl | (try simp_all; done) | omega)
          simp only [Act.put, List.getElem_toArray, List.getElem_cons_succ, List.getElem_cons_zero, List.setIfInBounds_toArray, List.set_cons_succ, List.set_cons_zero]
          refine wpAnyH_take (i := 11) (v := (.pointer (some ⟨B, 0, none⟩))) rfl (by kernel_rfl) (by kernel_rfl) (by kernel_rfl) (fun _ _ _ h => h) (Or.inl ⟨by rfl, ?hy⟩) hHeld ?_
          case hy => (intro V hV; go_simp <;> first | done | rfl | (try simp_all; done) | omega)
          simp only [Act.put, List.getElem_toArray, List.getElem_cons_succ, List.getElem_cons_zero, List.setIfInBounds_toArray, List.set_cons_succ, List.set_cons_zero]
          refine wpAnyH_take (i := 12) (v := (.pointer (some ⟨B, 3, none⟩))) rfl (by kernel_rfl) (by kernel_rfl) (by kernel_rfl) (fun _ _ _ h => h) (Or.inl ⟨by rfl, ?hy⟩) hHeld ?_
          case hy => (intro V hV; go_simp <;> first | done | rfl | (try simp_all; done) | omega)
          simp only [Act.put, List.getElem_toArray, List.getElem_cons_succ, List.getElem_cons_zero, List.setIfInBounds_toArray, List.set_cons_succ, List.set_cons_zero]
          refine wpAnyH_take (i := 14) (v := (.pointer (some ⟨C, 0, none⟩))) rfl (by kernel_rfl) (by kernel_rfl) (by kernel_rfl) (fun _ _ _ h => h) (Or.inl ⟨by rfl, ?hy⟩) hHeld ?_
          case hy => (intro V hV; go_simp <;> first | done | rfl | (try simp_all; done) | omega)
          simp only [Act.put, List.getElem_toArray, List.getElem_cons_succ, List.getElem_cons_zero, List.setIfInBounds_toArray, List.set_cons_succ, List.set_cons_zero]
          refine wpAnyH_take (i := 15) (v := (.pointer (some ⟨C, 0, none⟩))) rfl (by kernel_rfl) (by kernel_rfl) (by kernel_rfl) (fun _ _ _ h => h) (Or.inl ⟨by rfl, ?hy⟩) hHeld ?_
          case hy => (intro V hV; go_simp <;> first | done | rfl | (try simp_all; done) | omega)
          simp only [Act.put, List.getElem_toArray, List.getElem_cons_succ, List.getElem_cons_zero, List.setIfInBounds_toArray, List.set_cons_succ, List.set_cons_zero]
          refine wpAnyH_take (i := 16) (v := (.pointer (some ⟨C, 3, none⟩))) rfl (by kernel_rfl) (by kernel_rfl) (by kernel_rfl) (fun _ _ _ h => h) (Or.inl ⟨by rfl, ?hy⟩) hHeld ?_
          case hy => (intro V hV; go_simp <;> first | done | rfl | (try simp_all; done) | omega)
          simp only [Act.put, List.getElem_toArray, List.getElem_cons_succ, List.getElem_cons_zero, List.setIfInBounds_toArray, List.set_cons_succ, List.set_cons_zero]
          refine wpAnyH_ready (rs := [13, 17]) (by kernel_rfl) (by simp) ?_
          refine AllReadyH.cons (by rfl) ?oa (AllReadyH.cons (by rfl) ?ob AllReadyH.nil)
          case oa =>
            intro K hK
            refine step_loadw (v := .slice ea EL ec) (w' := w8) (by rfl) (by have := e8; go_simp) ?_
            refine hK.out _ _ s8 (fun hHeld => ?_)
            clear hK K
            simp only [Act.put, List.getElem_toArray, List.getElem_cons_succ, List.getElem_cons_zero, List.setIfInBounds_toArray, List.set_cons_succ, List.set_cons_zero]
            refine wpAnyH_ready (rs := [17]) (by kernel_rfl) (by simp) ?_
            refine AllReadyH.cons (by rfl) ?_ AllReadyH.nil
            intro K hK
            refine step_loadw (v := .slice fa EL fc) (w' := w8) (by rfl) (by have := f8; go_simp) ?_
            refine hK.out _ _ s8 (fun hHeld => ?_)
            clear hK K
            simp only [Act.put, List.getElem_toArray, List.getElem_cons_succ, List.getElem_cons_zero, List.setIfInBounds_toArray, List.set_cons_succ, List.set_cons_zero]
            refine wpAnyH_ready (rs := [18]) (by kernel_rfl) (by simp) ?_
            refine AllReadyH.cons (by rfl) ?_ AllReadyH.nil
            intro K hK
            refine step_callw (by rfl) 19 #[.slice ea EL ec, .slice fa EL fc] (by go_simp) ?_
            refine (HS8.out _ (Below.refl _ _)).mono ?_
            rintro e w9 ⟨rfl, s9, HA9⟩
            refine ⟨_, rfl, ?_⟩
            refine hK.out _ _ s9 (fun hHeld => ?_)
            clear hK K
            simp only [Act.put, List.getElem_toArray, List.getElem_cons_succ, List.getElem_cons_zero, List.setIfInBounds_toArray, List.set_cons_succ, List.set_cons_zero]
            refine wpAnyH_take (i := 19) (v := (.bool true)) rfl (by kernel_rfl) (by kernel_rfl) (by kernel_rfl) (fun _ _ _ h => h) (Or.inl ⟨by rfl, ?hy⟩) hHeld ?_
            case hy => (intro V hV; go_simp <;> first | done | rfl | (try simp_all; done) | omega)
            simp only [Act.put, List.getElem_toArray, List.getElem_cons_succ, List.getElem_cons_zero, List.setIfInBounds_toArray, List.set_cons_succ, List.set_cons_zero]
            refine wpAnyH_take (i := 20) (v := (.bool true)) rfl (by kernel_rfl) (by kernel_rfl) (by kernel_rfl) (fun _ _ _ h => h) (Or.inl ⟨by rfl, ?hy⟩) hHeld ?_
            case hy => (intro V hV; go_simp <;> first | done | rfl | (try simp_all; done) | omega)
            simp only [Act.put, List.getElem_toArray, List.getElem_cons_succ, List.getElem_cons_zero, List.setIfInBounds_toArray, List.set_cons_succ, List.set_cons_zero]
            refine wpAnyH_ready (rs := [21]) (by kernel_rfl) (by simp) ?_
            refine AllReadyH.cons (by rfl) ?_ AllReadyH.nil
            intro K hK
            refine step_callw (by rfl) 7 #[] (by go_simp) ?_
            refine (HA9.out _ (Below.refl _ _)).mono ?_
            rintro e w10 ⟨rfl, s10, b10⟩
            refine ⟨_, rfl, ?_⟩
            refine hK.out _ _ s10 (fun hHeld => ?_)
            clear hK K
            simp only [Act.put, List.getElem_toArray, List.getElem_cons_succ, List.getElem_cons_zero, List.setIfInBounds_toArray, List.set_cons_succ, List.set_cons_zero]
            refine wpAnyH_take (i := 22) (v := (.bool true)) rfl (by kernel_rfl) (by kernel_rfl) (by kernel_rfl) (fun _ _ _ h => h) (Or.inl ⟨by rfl, ?hy⟩) hHeld ?_
            case hy => (intro V hV; go_simp <;> first | done | rfl | (try simp_all; done) | omega)
            simp only [Act.put, List.getElem_toArray, List.getElem_cons_succ, List.getElem_cons_zero, List.setIfInBounds_toArray, List.set_cons_succ, List.set_cons_zero]
            refine wpAnyH_take (i := 23) (v := (.bool true)) rfl (by kernel_rfl) (by kernel_rfl) (by kernel_rfl) (fun _ _ _ h => h) (Or.inl ⟨by rfl, ?hy⟩) hHeld ?_
            case hy => (intro V hV; go_simp <;> first | done | rfl | (try simp_all; done) | omega)
            simp only [Act.put, List.getElem_toArray, List.getElem_cons_succ, List.getElem_cons_zero, List.setIfInBounds_toArray, List.set_cons_succ, List.set_cons_zero]
            refine wpAnyH_done (by kernel_rfl) ?_ _
            try simp only [Act.put, List.getElem_toArray, List.getElem_cons_succ, List.getElem_cons_zero, List.setIfInBounds_toArray, List.set_cons_succ, List.set_cons_zero]
            go_wp2_with fail
            go_ret
            exact ⟨rfl, b10.out⟩
          case ob =>
            intro K hK
            refine step_loadw (v := .slice fa EL fc) (w' := w8) (by rfl) (by have := f8; go_simp) ?_
            refine hK.out _ _ s8 (fun hHeld => ?_)
            clear hK K
            simp only [Act.put, List.getElem_toArray, List.getElem_cons_succ, List.getElem_cons_zero, List.setIfInBounds_toArray, List.set_cons_succ, List.set_cons_zero]
            refine wpAnyH_ready (rs := [13]) (by kernel_rfl) (by simp) ?_
            refine AllReadyH.cons (by rfl) ?_ AllReadyH.nil
            intro K hK
            refine step_loadw (v := .slice ea EL ec) (w' := w8) (by rfl) (by have := e8; go_simp) ?_
            refine hK.out _ _ s8 (fun hHeld => ?_)
            clear hK K
            simp only [Act.put, List.getElem_toArray, List.getElem_cons_succ, List.getElem_cons_zero, List.setIfInBounds_toArray, List.set_cons_succ, List.set_cons_zero]
            refine wpAnyH_ready (rs := [18]) (by kernel_rfl) (by simp) ?_
            refine AllReadyH.cons (by rfl) ?_ AllReadyH.nil
            intro K hK
            refine step_callw (by rfl) 19 #[.slice ea EL ec, .slice fa EL fc] (by go_simp) ?_
            refine (HS8.out _ (Below.refl _ _)).mono ?_
            rintro e w9 ⟨rfl, s9, HA9⟩
            refine ⟨_, rfl, ?_⟩
            refine hK.out _ _ s9 (fun hHeld => ?_)
            clear hK K
            simp only [Act.put, List.getElem_toArray, List.getElem_cons_succ, List.getElem_cons_zero, List.setIfInBounds_toArray, List.set_cons_succ, List.set_cons_zero]
            refine wpAnyH_take (i := 19) (v := (.bool true)) rfl (by kernel_rfl) (by kernel_rfl) (by kernel_rfl) (fun _ _ _ h => h) (Or.inl ⟨by rfl, ?hy⟩) hHeld ?_
            case hy => (intro V hV; go_simp <;> first | done | rfl | (try simp_all; done) | omega)
            simp only [Act.put, List.getElem_toArray, List.getElem_cons_succ, List.getElem_cons_zero, List.setIfInBounds_toArray, List.set_cons_succ, List.set_cons_zero]
            refine wpAnyH_take (i := 20) (v := (.bool true)) rfl (by kernel_rfl) (by kernel_rfl) (by kernel_rfl) (fun _ _ _ h => h) (Or.inl ⟨by rfl, ?hy⟩) hHeld ?_
            case hy => (intro V hV; go_simp <;> first | done | rfl | (try simp_all; done) | omega)
            simp only [Act.put, List.getElem_toArray, List.getElem_cons_succ, List.getElem_cons_zero, List.setIfInBounds_toArray, List.set_cons_succ, List.set_cons_zero]
            refine wpAnyH_ready (rs := [21]) (by kernel_rfl) (by simp) ?_
            refine AllReadyH.cons (by rfl) ?_ AllReadyH.nil
            intro K hK
            refine step_callw (by rfl) 7 #[] (by go_simp) ?_
            refine (HA9.out _ (Below.refl _ _)).mono ?_
            rintro e w10 ⟨rfl, s10, b10⟩
            refine ⟨_, rfl, ?_⟩
            refine hK.out _ _ s10 (fun hHeld => ?_)
            clear hK K
            simp only [Act.put, List.getElem_toArray, List.getElem_cons_succ, List.getElem_cons_zero, List.setIfInBounds_toArray, List.set_cons_succ, List.set_cons_zero]
            refine wpAnyH_take (i := 22) (v := (.bool true)) rfl (by kernel_rfl) (by kernel_rfl) (by kernel_rfl) (fun _ _ _ h => h) (Or.inl ⟨by rfl, ?hy⟩) hHeld ?_
            case hy => (intro V hV; go_simp <;> first | done | rfl | (try simp_all; done) | omega)
            simp only [Act.put, List.getElem_toArray, List.getElem_cons_succ, List.getElem_cons_zero, List.setIfInBounds_toArray, List.set_cons_succ, List.set_cons_zero]
            refine wpAnyH_take (i := 23) (v := (.bool true)) rfl (by kernel_rfl) (by kernel_rfl) (by kernel_rfl) (fun _ _ _ h => h) (Or.inl ⟨by rfl, ?hy⟩) hHeld ?_
            case hy => (intro V hV; go_simp <;> first | done | rfl | (try simp_all; done) | omega)
            simp only [Act.put, List.getElem_toArray, List.getElem_cons_succ, List.getElem_cons_zero, List.setIfInBounds_toArray, List.set_cons_succ, List.set_cons_zero]
            refine wpAnyH_done (by kernel_rfl) ?_ _
            try simp only [Act.put, List.getElem_toArray, List.getElem_cons_succ, List.getElem_cons_zero, List.setIfInBounds_toArray, List.set_cons_succ, List.set_cons_zero]
            go_wp2_with fail
            go_ret
            exact ⟨rfl, b10.out⟩

end Go.Proofs.Ytennciddjkijaaa

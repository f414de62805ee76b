/-
  NetPlays, its walk.
-/
import Derived.Test.YthakbelcefogaaaNpe
import Derived.Deep.CutBlock
import Derived.Deep.DeepCutAuto
namespace Go.Proofs.Ythakbelcefogaaa.netPlays
open Go.RowKit Go.Proofs.Ythakbelcefogaaa
set_option maxRecDepth 100000
set_option linter.unusedSimpArgs false

/-- Two empty nets, as they are at first. -/
theorem start {w W1 W2 : World} {R0 M0 R1 M1 : Nat} (h1 : An w R0 M0 newNt W1) (h2 : An W1 R1 M1 newNt W2) {X : World} (hX : X = (W2.alloc (.cells #[.pointer (some ⟨R0, 0, none⟩), .pointer (some ⟨R1, 0, none⟩)] (38 : TypeId))).alloc (.cells #[.slice none 0 0, .int .i64 0, .slice none 0 0, .int .i64 0] (41 : TypeId))) :
    Pz w X W2.heap.size (W2.heap.size + 1) (fun i => if i = 0 then R0 else R1) (fun i => if i = 0 then M0 else M1) (fun _ => newNt) (fun _ => newNt) (fun _ => none) (fun _ => 0) := by
  have bX : Below W2.heap.size W2 X := by rw [hX]; exact ((Below.refl _ W2).alloc (Nat.le_refl _) _).alloc (by simp) _
  have n1 := (h1.net.below h2.bel).below bX
  have n2 := h2.net.below bX
  have s01 := h1.bel.size
  have s12 := h2.bel.size
  have l1 := h1.net.lt
  have l2 := h1.net.mlt
  have o1 := h1.own
  have o2 := h1.mown
  have o3 := h2.own
  have o4 := h2.mown
  refine ⟨?_, ?_, fun i hi => ?_, fun i hi => ⟨[], Pl.nil _ _⟩, ?_, ?_, ⟨by omega, by omega, fun j hj => ?_⟩, (h1.bel.trans (h2.bel.mono s01)).trans (bX.mono (by omega))⟩
  · rw [hX, Below.heap_alloc _ _ _ (by simp)]
    exact heap_alloc_new W2 _
  · rw [hX]
    have e : ((W2.alloc (.cells #[.pointer (some ⟨R0, 0, none⟩), .pointer (some ⟨R1, 0, none⟩)] (38 : TypeId))).alloc (.cells #[.slice none 0 0, .int .i64 0, .slice none 0 0, .int .i64 0] (41 : TypeId))).heap[W2.heap.size + 1]? = some (.cells #[.slice none 0 0, .int .i64 0, .slice none 0 0, .int .i64 0] (41 : TypeId) (0, 0)) := by simpa using heap_alloc_new (W2.alloc (.cells #[.pointer (some ⟨R0, 0, none⟩), .pointer (some ⟨R1, 0, none⟩)] (38 : TypeId))) (.cells #[.slice none 0 0, .int .i64 0, .slice none 0 0, .int .i64 0] (41 : TypeId))
    exact e
  · match i, hi with
    | 0, _ => exact n1
    | 1, _ => exact n2
  · simp only [if_true, Nat.one_ne_zero, if_false]
    omega
  · simp only [if_true, Nat.one_ne_zero, if_false]
    omega
  · match j, hj with
    | 0, _ => simp only [if_true]; omega
    | 1, _ => simp only [Nat.one_ne_zero, if_false]; omega

set_option maxHeartbeats 60000000 in
theorem walk (many : Bool) (c : Option Addr) (m dap : Nat) (os : List Oc) (w : World) (hO : Lr Oc.cells 6 (fun o => I6 o.kd ∧ I6 o.on ∧ I6 o.fr ∧ I6 o.to ∧ I6 o.no ∧ Bs w o.a o.ln o.cap o.bd) w c m dap os) (hw : ∀ o ∈ os, o.ln ≤ 140737488351232) :
    Calls Try.prog 4 #[.bool many, .slice c m dap] w fun e w' => e = .returned (.bool true) ∧ Below w.heap.size w w' := by
  have hOl := hO.le
  have hOr := hO.reach
  have HLO := hide hO.len
  have HO := hide hO
  have HW := hide hw
  clear hO hw
  go_enter Try.func4, Try.ntmps4
  go_wp2_with fail
  refine (an_new w).mono ?_
  rintro e W1 ⟨R0, M0, rfl, h1⟩
  have HH1 := hide h1
  clear h1
  go_wp2_with fail
  refine (an_new W1).mono ?_
  rintro e W2 ⟨R1, M1, rfl, h2⟩
  obtain ⟨X, hX⟩ : ∃ X, Hid (X = (W2.alloc (.cells #[.pointer (some ⟨R0, 0, none⟩), .pointer (some ⟨R1, 0, none⟩)] (38 : TypeId))).alloc (.cells #[.slice none 0 0, .int .i64 0, .slice none 0 0, .int .i64 0] (41 : TypeId))) := ⟨_, hide rfl⟩
  have HP := hide (start HH1.out h2 hX.out)
  clear HH1 h2
  go_upto_block 0 with fail
  rw [← hX.out]
  clear hX
  obtain ⟨D, hD⟩ : ∃ D, Hid (D = W2.heap.size) := ⟨_, hide rfl⟩
  obtain ⟨L, hL⟩ : ∃ L, Hid (L = W2.heap.size + 1) := ⟨_, hide rfl⟩
  rw [← hL.out, ← hD.out] at HP
  have HDL : Hid (W2.heap.size = D ∧ W2.heap.size + 1 = L) := hide ⟨hD.out.symm, hL.out.symm⟩
  rw [HDL.out.2, HDL.out.1]
  go_cut [7] (fun _ wx => ∃ (R M : Nat → Nat) (np : Nat → Nt) (va : Nat → Option Addr) (vc : Nat → Nat), Hid (∀ j, j < 2 → (np j).last ≤ 250) ∧ Hid (Pz w wx D L R M np np va vc))
  case first =>
    as_aux_lemma =>
      go_wp2_with fail
      go_loopw [7] (fun kv wr => ∃ (k : Nat) (np : Nat → Nt) (va : Nat → Option Addr) (vc : Nat → Nat), k ≤ 250 ∧ kv = .int .i64 k ∧ Hid (∀ j, j < 2 → (np j).last ≤ (k : Int)) ∧ Hid (Pz w wr D L (fun i => if i = 0 then R0 else R1) (fun i => if i = 0 then M0 else M1) np np va vc)) (fun kv _ => 250 - (intOf kv).toNat)
      case atStart => exact ⟨0, _, _, _, by omega, rfl, hide (fun j _ => by show (0 : Int) ≤ _; omega), HP⟩
      case round =>
        obtain ⟨k, np, va, vc, hk, rfl, hlast, hz⟩ := hrel
        clear HP
        by_cases hgo : many = true ∧ k < 250
        · obtain ⟨rfl, hk2⟩ := hgo
          have hz0 := hz.out
          have hl0 := hlast.out 0 (by omega)
          have hno := (hz0.nw 0 (by omega)).ok.last
          obtain ⟨c1, c2, c3, f2, f3, _⟩ := hz0.cells (i := 0) (by omega)
          simp only [Nat.zero_mul, Nat.zero_add, if_true] at c1 c2 c3 f2 f3
          have hnil : ∀ V, Bs V none 0 0 [] := Bs.nil
          have C1 := hz0.send (i := 0) (by omega) (f := (k : Int)) (t := (k : Int)) (i6 (by omega)) (i6 (by omega)) (by omega) (hnil _)
          simp only [if_true] at C1
          have HZ0 := hz
          obtain ⟨N, hN⟩ : ∃ N, Hid (N = (np 0).m.length) := ⟨_, hide rfl⟩
          obtain ⟨la, hla⟩ : ∃ la, Hid (la = (np 0).last) := ⟨_, hide rfl⟩
          clear hz hz0
          go_wp2_with fail
          refine C1.mono ?_
          rintro e X1 ⟨rfl, z1, _⟩
          obtain ⟨d1, d2, d3, g2, g3, _⟩ := z1.cells (i := 0) (by omega)
          simp only [Nat.zero_mul, Nat.zero_add, if_true] at d1 d2 d3 g2 g3
          have C2 := z1.rsend (i := 0) (by omega) (f := (k : Int)) (t := (k : Int)) ⟨hno.1, by omega⟩ (hnil _)
          clear C1 c1 c2 c3 f2 f3
          go_wp2_with fail
          refine C2.mono ?_
          rintro e X2 ⟨a', c', rfl, hb2, z2, hfin⟩
          obtain ⟨b1, b2, b3, q2, q3, _⟩ := z2.cells (i := 0) (by omega)
          simp only [Nat.zero_mul, Nat.zero_add, if_true] at b1 b2 b3 q2 q3
          have HF := hide (hfin X2 z2 (Below.refl _ _) _ _ rfl rfl)
          simp only [Nat.zero_mul, Nat.zero_add] at HF
          have HLS : Hid (∀ j, j < 2 → (up np 0 ((np 0).sendN k k []) j).last ≤ ((k + 1 : Nat) : Int)) := hide (fun j hj => by
            have h1 := hlast.out j hj
            have h2 := Nt.send_last (np 0) k k []
            by_cases e : j = 0
            · subst e
              rw [up_same]
              omega
            · rw [up_other e]
              omega)
          clear C2 z1 z2 hfin d1 d2 d3 g2 g3 hb2
          go_wp2_with fail
          go_roundw
          case rel => exact ⟨k + 1, up np 0 ((np 0).sendN k k []), _, _, by omega, by go_num, HLS, HF⟩
          case measure => simp [intOf]; omega
        · have HZ : Hid (∃ (R M : Nat → Nat) (np : Nat → Nt) (va : Nat → Option Addr) (vc : Nat → Nat), Hid (∀ j, j < 2 → (np j).last ≤ 250) ∧ Hid (Pz w wr D L R M np np va vc)) := hide ⟨_, _, np, va, vc, hide (fun j hj => by have := hlast.out j hj; omega), hz⟩
          clear hz hlast
          cases many with
          | true =>
            have hk2 : ¬ k < 250 := fun h => hgo ⟨rfl, h⟩
            clear hgo
            go_wp2_with fail
            go_meet
            exact HZ.out
          | false =>
            clear hgo
            go_wp2_with fail
            go_meet
            exact HZ.out
  case rest =>
    as_aux_lemma =>
      obtain ⟨R', M', np', va', vc', hl', hz'⟩ := hcut
      clear HP
      go_upto_block 2 with fail
      go_cut [8] (fun _ wx => ∃ (R M : Nat → Nat) (np : Nat → Nt) (va : Nat → Option Addr) (vc : Nat → Nat), Hid (Pz w wx D L R M np np va vc))
      case first =>
        as_aux_lemma =>
          go_wp2_with fail
          go_loopw [8] (fun kv wr => ∃ (q : Nat) (R M : Nat → Nat) (np : Nat → Nt) (va : Nat → Option Addr) (vc : Nat → Nat), q ≤ m ∧ q ≤ 80 ∧ kv = .int .i64 q ∧ Hid (∀ j, j < 2 → (np j).last ≤ 250 + (q : Int)) ∧ Hid (Pz w wr D L R M np np va vc)) (fun kv _ => m - (intOf kv).toNat)
          case atStart =>
            exact ⟨0, R', M', np', va', vc', by omega, by omega, rfl, hide (fun j hj => by have := hl'.out j hj; omega), hz'⟩
          case round =>
            obtain ⟨q, R, M, np, va, vc, hq, hq8, rfl, hlast, hz⟩ := hrel
            clear hz' hl'
            by_cases hgo : q < m ∧ q < 80
            · obtain ⟨hq1, hq2⟩ := hgo
              obtain ⟨bo, oo, rfl, hco⟩ := HO.out.lies (by omega)
              have hqo : q < os.length := by rw [HLO.out]; exact hq1
              obtain ⟨o, ho⟩ : ∃ o, Hid (os[q]? = some o) := ⟨os[q], hide (List.getElem?_eq_getElem hqo)⟩
              have hom : o ∈ os := List.mem_of_getElem? ho.out
              obtain ⟨i1, i2, i3, i4, i5, hbs⟩ := HO.out.each o hom
              have hln := HW.out o hom
              have cc : ∀ j v, o.cells[j]? = some v → wr.cell? ⟨bo, oo + q * 6 + j, none⟩ = some v := fun j v hv => by
                have := hco q o ho.out j v hv
                exact (hz.out.bel.cell (cell_lt this)).trans this
              have o0 := cc 0 _ rfl
              have o1 := cc 1 _ rfl
              have o2 := cc 2 _ rfl
              have o3 := cc 3 _ rfl
              have o4 := cc 4 _ rfl
              have o5 := cc 5 _ rfl
              simp only [Nat.add_zero] at o0
              have HBS := hide hbs
              have HI := hide (And.intro i2 (And.intro i3 (And.intro i4 i5)))
              clear hco cc hqo hom hbs i2 i3 i4 i5
              obtain ⟨kd, onn, fr, tt, ba, bl, bc, bd, no⟩ := o
              simp only at o0 o1 o2 o3 o4 o5 hln i1
              obtain ⟨i, hi, hbit⟩ := bit_one onn
              have hi0 : (0 : Int) ≤ (i : Int) := by omega
              have hi2 : (i : Int) < 2 := by omega
              have hi3 : (i : Int) < ((2 : Nat) : Int) := by omega
              obtain ⟨X0, hX0⟩ : ∃ X0, Hid (X0 = wr.alloc (.cells #[.int .i64 kd, .int .i64 onn, .int .i64 fr, .int .i64 tt, .slice ba bl bc, .int .i64 no] (45 : TypeId))) := ⟨_, hide rfl⟩
              have bX0 : Below wr.heap.size wr X0 := by rw [hX0.out]; exact (Below.refl _ wr).alloc (Nat.le_refl _) _
              have hOB : X0.heap[wr.heap.size]? = some (.cells #[.int .i64 kd, .int .i64 onn, .int .i64 fr, .int .i64 tt, .slice ba bl bc, .int .i64 no] (45 : TypeId) (0, 0)) := by rw [hX0.out]; exact heap_alloc_new wr _
              have z0 := hz.out.fresh bX0
              have hOn : wr.heap.size ≠ D ∧ wr.heap.size ≠ L ∧ ∀ j, j < 2 → wr.heap.size ≠ R j ∧ wr.heap.size ≠ M j := by
                have h1 := heap_lt hz.out.d
                have h2 := heap_lt hz.out.l
                refine ⟨by omega, by omega, fun j hj => ?_⟩
                have h3 := (hz.out.nw j hj).lt
                have h4 := (hz.out.nw j hj).mlt
                omega
              obtain ⟨O, hO'⟩ : ∃ O, Hid (O = wr.heap.size) := ⟨_, hide rfl⟩
              rw [← hO'.out] at hOB hOn
              have HO' : Hid (wr.heap.size = O) := hide hO'.out.symm
              have HB0 : Hid (Bs X0 ba bl bc bd) := hide (HBS.out.keep z0.bel)
              have hll := hlast.out i hi
              have hok := (z0.nw i hi).ok
              have hlo := hok.last
              have hfew := hok.few
              have HUN := hide hok.un
              clear hok bX0 hz
              go_upto_block 4 with fail
              rw [← hX0.out, HO'.out]
              clear hX0 o0 o1 o2 o3 o4 o5
              go_cut [11] (fun s11 wx => s11 = .bool true ∧ ∃ (R5 M5 : Nat → Nat) (n5 : Nat → Nt) (va5 : Nat → Option Addr) (vc5 : Nat → Nat), Hid (∀ j, j < 2 → (n5 j).last ≤ 250 + ((q + 1 : Nat) : Int)) ∧ Hid (Pz w wx D L R5 M5 n5 n5 va5 vc5))
              case first =>
                as_aux_lemma =>
                  have c0 := cell_of_row X0 O 0 _ _ _ hOB
                  have c1 := cell_of_row X0 O 1 _ _ _ hOB
                  have c2 := cell_of_row X0 O 2 _ _ _ hOB
                  have c3 := cell_of_row X0 O 3 _ _ _ hOB
                  have c4 := cell_of_row X0 O 4 _ _ _ hOB
                  have c5 := cell_of_row X0 O 5 _ _ _ hOB
                  simp only [List.getElem?_toArray, List.getElem?_cons_succ, List.getElem?_cons_zero] at c0 c1 c2 c3 c4 c5
                  by_cases hd1 : kd = 1
                  · subst hd1
                    as_aux_lemma =>
                      obtain ⟨Ri, hRi⟩ : ∃ Ri, Hid (Ri = R i) := ⟨_, hide rfl⟩
                      obtain ⟨ai, hai⟩ : ∃ ai, Hid (ai = va i) := ⟨_, hide rfl⟩
                      obtain ⟨ci, hci⟩ : ∃ ci, Hid (ci = vc i) := ⟨_, hide rfl⟩
                      obtain ⟨Ni, hNi⟩ : ∃ Ni, Hid (Ni = (np i).m.length) := ⟨_, hide rfl⟩
                      obtain ⟨li, hli⟩ : ∃ li, Hid (li = (np i).last) := ⟨_, hide rfl⟩
                      have HST : Hid (∀ V n', Pz w V D L R M n' np va vc → V.heap[O]? = some (.cells #[.int .i64 1, .int .i64 onn, .int .i64 fr, .int .i64 tt, .slice ba bl bc, .int .i64 no] (45 : TypeId) (0, 0)) → V.cell? ⟨D, i, none⟩ = some (.pointer (some ⟨Ri, 0, none⟩)) ∧ V.cell? ⟨L, i * 2, none⟩ = some (.slice ai Ni ci) ∧ V.cell? ⟨L, i * 2 + 1, none⟩ = some (.int .i64 li) ∧ V.cell? ⟨O, 2, none⟩ = some (.int .i64 fr) ∧ V.cell? ⟨O, 3, none⟩ = some (.int .i64 tt) ∧ V.cell? ⟨O, 4, none⟩ = some (.slice ba bl bc) ∧ V.cell? ⟨O, 5, none⟩ = some (.int .i64 no)) := hide (fun V n' hV hO => by
                        obtain ⟨s1, s2, s3, _⟩ := hV.cells hi
                        rw [hRi.out, hai.out, hci.out, hNi.out, hli.out]
                        exact ⟨s1, s2, s3, cell_of_row V O 2 _ _ _ hO, cell_of_row V O 3 _ _ _ hO, cell_of_row V O 4 _ _ _ hO, cell_of_row V O 5 _ _ _ hO⟩)
                      obtain ⟨s1, s2, s3, s4, s5, s6, s7⟩ := HST.out X0 np z0 hOB
                      clear c1 c2 c3 c4 c5

                      have hIfr := HI.out.2.1
                      have hItt := HI.out.2.2.1
                      obtain ⟨d1, hd1⟩ : ∃ d1, Hid (d1 = ((np i).sendA bd).1) := ⟨_, hide rfl⟩
                      obtain ⟨d2, hd2⟩ : ∃ d2, Hid (d2 = ((np i).sendA bd).2) := ⟨_, hide rfl⟩
                      have hby : Hid (∀ z ∈ bd ++ [77, 78, 79], 0 ≤ z ∧ z ≤ 255) := hide (fun z hz => by
                        rcases List.mem_append.1 hz with h | h
                        · exact HB0.out.byte z h
                        · simp only [List.mem_cons, List.not_mem_nil, or_false] at h; omega)
                      have htk : Hid ((bd ++ [77, 78, 79]).take bl = bd) := hide (by
                        have := HB0.out.len
                        rw [List.take_append_of_le_length (by omega), List.take_of_length_le (by omega)])
                      have CL := lent_own ba bl bc bd X0 HB0.out (by omega)
                      have HZ0 := hide z0
                      go_wp2_with fail
                      refine CL.mono ?_
                      rintro e X1 ⟨gx, dx, rfl, hown1, hb1⟩
                      have z1 := z0.fresh hb1
                      have hO1 := (hb1.block O (heap_lt hOB)).trans hOB
                      have lx1 := z0.lists.below hb1
                      have hgx := own_lt hown1
                      have hB1 := own_bs hown1 hby.out
                      have hdx := hB1.le
                      have hdr := hB1.reach
                      obtain ⟨r1, r2, r3, r4, r5, r6, r7⟩ := HST.out X1 np z1 hO1
                      have s0l := z0.lt
                      have CS1 : Hid (∀ V, Below X1.heap.size X1 V → Calls Try.prog 10 #[.pointer (some ⟨Ri, 0, none⟩), .int .i64 fr, .int .i64 tt, .slice (some ⟨gx, 0, none⟩) bl dx] V fun e X => e = .returned (.tuple #[.int .i64 d1, .int .i64 d2]) ∧ (X.cell? ⟨D, i, none⟩ = some (.pointer (some ⟨Ri, 0, none⟩)) ∧ X.cell? ⟨L, i * 2, none⟩ = some (.slice ai Ni ci) ∧ X.cell? ⟨L, i * 2 + 1, none⟩ = some (.int .i64 li) ∧ X.cell? ⟨O, 2, none⟩ = some (.int .i64 fr) ∧ X.cell? ⟨O, 3, none⟩ = some (.int .i64 tt) ∧ X.cell? ⟨O, 4, none⟩ = some (.slice ba bl bc) ∧ X.cell? ⟨O, 5, none⟩ = some (.int .i64 no)) ∧ Hid (Pz w X D L R M (up np i ((np i).sendN fr tt bd)) np va vc) ∧ Hid (Oro X O #[.int .i64 1, .int .i64 onn, .int .i64 fr, .int .i64 tt, .slice ba bl bc, .int .i64 no]) ∧ Hid (Lpx X D L R M np va vc (fun g => g < X0.heap.size)) ∧ Hid (X.ownsRow X0.heap.size 5 1 (.slice (some ⟨gx, 0, none⟩) (bl + 3) dx) (bl + 3) (U (bd ++ [77, 78, 79]))) ∧ X1.heap.size ≤ X.heap.size) := hide (fun V hV => by
                        rw [hRi.out]
                        have hBV : Bs V (some ⟨gx, 0, none⟩) bl dx bd := by
                          have := (hB1.keep hV).head bl (by omega)
                          rwa [htk.out] at this
                        have hC := (z1.fresh hV).send hi hIfr hItt (by omega) hBV
                        rw [← hd1.out, ← hd2.out] at hC
                        refine hC.mono ?_
                        rintro e X ⟨rfl, zX, tX⟩
                        have hne : ∀ g, X0.heap.size ≤ g → ¬ (g = R i ∨ g = M i) := fun g hg h => by have := s0l.2.2 i hi; omega
                        have sV := hV.size
                        have sX := tX.size
                        have hOl := heap_lt hO1
                        have hO := (tX.block O (by omega) (fun h => by have := hOn.2.2 i hi; omega)).trans ((hV.block O hOl).trans hO1)
                        have sY := HST.out X _ zX hO
                        rw [hRi.out] at sY
                        refine ⟨rfl, sY, hide zX, hide hO, hide ((lx1.below hV).prog hi tX), hide ?_, by omega⟩
                        exact row_tb (row_tb hown1 (Tb.of_fresh (S := fun _ => False) hV) (fun _ _ h => h)) tX (fun g hg => hne g (hown1.lt g hg).1))
                      clear CL
                      go_wp2_with fail
                      go_region_held3 (fun V => V.cell? ⟨D, i, none⟩ = some (.pointer (some ⟨Ri, 0, none⟩)) ∧ V.cell? ⟨L, i * 2, none⟩ = some (.slice ai Ni ci) ∧ V.cell? ⟨L, i * 2 + 1, none⟩ = some (.int .i64 li) ∧ V.cell? ⟨O, 2, none⟩ = some (.int .i64 fr) ∧ V.cell? ⟨O, 3, none⟩ = some (.int .i64 tt) ∧ V.cell? ⟨O, 4, none⟩ = some (.slice ba bl bc) ∧ V.cell? ⟨O, 5, none⟩ = some (.int .i64 no))
                        (first | (with_reducible exact sx) | exact ⟨r1, r2, r3, r4, r5, r6, r7⟩)
                        (first | (go_at_call 10; refine (CS1.out _ ?_).mono ?_; exact (Below.refl _ _).drew; rintro e Xs ⟨rfl, sx, HZs, HOs, HLs, HWs, hss⟩))
                      have HRs := hide sx
                      clear sx r1 r2 r3 r4 r5 r6 r7 s1 s2 s3 s4 s5 s6 s7 z1 lx1 hB1 hown1 CS1
                      have zs := HZs.out
                      have hOs : Xs.heap[O]? = _ := HOs.out
                      have hXn : Xs.heap.size ≠ D ∧ Xs.heap.size ≠ L ∧ Xs.heap.size ≠ O ∧ Xs.heap.size + 1 ≠ D ∧ Xs.heap.size + 1 ≠ L ∧ Xs.heap.size + 1 ≠ O := by
                        have h1 := zs.lt
                        have h2 := heap_lt hOs
                        omega
                      have KL : Hid (∀ X' Y : World, (X'.cell? ⟨D, i, none⟩ = some (.pointer (some ⟨Ri, 0, none⟩)) ∧ X'.cell? ⟨L, i * 2, none⟩ = some (.slice ai Ni ci) ∧ X'.cell? ⟨L, i * 2 + 1, none⟩ = some (.int .i64 li) ∧ X'.cell? ⟨O, 2, none⟩ = some (.int .i64 fr) ∧ X'.cell? ⟨O, 3, none⟩ = some (.int .i64 tt) ∧ X'.cell? ⟨O, 4, none⟩ = some (.slice ba bl bc) ∧ X'.cell? ⟨O, 5, none⟩ = some (.int .i64 no)) → (∀ g, g < X'.heap.size → g ≠ Xs.heap.size → g ≠ Xs.heap.size + 1 → Y.heap[g]? = X'.heap[g]?) → (Y.cell? ⟨D, i, none⟩ = some (.pointer (some ⟨Ri, 0, none⟩)) ∧ Y.cell? ⟨L, i * 2, none⟩ = some (.slice ai Ni ci) ∧ Y.cell? ⟨L, i * 2 + 1, none⟩ = some (.int .i64 li) ∧ Y.cell? ⟨O, 2, none⟩ = some (.int .i64 fr) ∧ Y.cell? ⟨O, 3, none⟩ = some (.int .i64 tt) ∧ Y.cell? ⟨O, 4, none⟩ = some (.slice ba bl bc) ∧ Y.cell? ⟨O, 5, none⟩ = some (.int .i64 no))) := hide (fun X' Y hX hY => by
                        obtain ⟨x1, x2, x3, x4, x5, x6, x7⟩ := hX
                        have key : ∀ {ad : Addr} {v : Value}, X'.cell? ad = some v → ad.block ≠ Xs.heap.size → ad.block ≠ Xs.heap.size + 1 → Y.cell? ad = some v := fun hc h1 h2 => by rw [World.cell?_of_block (hY _ (cell_lt hc) h1 h2)]; exact hc
                        exact ⟨key x1 hXn.1.symm hXn.2.2.2.1.symm, key x2 hXn.2.1.symm hXn.2.2.2.2.1.symm, key x3 hXn.2.1.symm hXn.2.2.2.2.1.symm, key x4 hXn.2.2.1.symm hXn.2.2.2.2.2.symm, key x5 hXn.2.2.1.symm hXn.2.2.2.2.2.symm, key x6 hXn.2.2.1.symm hXn.2.2.2.2.2.symm, key x7 hXn.2.2.1.symm hXn.2.2.2.2.2.symm⟩)
                      have CR : Hid (∀ (V : World) (k : Nat), Below Xs.heap.size Xs V → V.heap.size = Xs.heap.size + k → Calls Try.prog 16 #[.agg #[.slice ai Ni ci, .int .i64 li], .int .i64 fr, .int .i64 tt, .slice ba bl bc] V fun e X => ∃ (a' : Option Addr) (N' c' : Nat) (l' : Int), e = .returned (.tuple #[.agg #[.slice a' N' c', .int .i64 l'], .int .i64 d1, .int .i64 d2]) ∧ (X.cell? ⟨D, i, none⟩ = some (.pointer (some ⟨Ri, 0, none⟩)) ∧ X.cell? ⟨L, i * 2, none⟩ = some (.slice ai Ni ci) ∧ X.cell? ⟨L, i * 2 + 1, none⟩ = some (.int .i64 li) ∧ X.cell? ⟨O, 2, none⟩ = some (.int .i64 fr) ∧ X.cell? ⟨O, 3, none⟩ = some (.int .i64 tt) ∧ X.cell? ⟨O, 4, none⟩ = some (.slice ba bl bc) ∧ X.cell? ⟨O, 5, none⟩ = some (.int .i64 no)) ∧ Below V.heap.size V X ∧
                          Hid (∀ V5 G r, Wa Xs X V5 (40 : TypeId) k G r → r = #[.slice a' N' c', .int .i64 l'] → (Hid (Lsn w V5 D L R M (up np i ((np i).sendN fr tt bd)) np va vc i G gx a' N' c' l') ∧ Hid (V5.ownsRow X0.heap.size 5 1 (.slice (some ⟨gx, 0, none⟩) (bl + 3) dx) (bl + 3) (U (bd ++ [77, 78, 79]))) ∧ Hid (Oro V5 O #[.int .i64 1, .int .i64 onn, .int .i64 fr, .int .i64 tt, .slice ba bl bc, .int .i64 no])))) := hide (fun V k hV hk => by
                        have hC := zs.rsend2 (n0 := X0.heap.size) HLs.out (by have := hb1.size; omega) hV hi (f := fr) (t := tt) ⟨hlo.1, by omega⟩ (HBS.out.keep (zs.fresh hV).bel)
                        rw [← hai.out, ← hci.out, ← hNi.out, ← hli.out, ← hd1.out, ← hd2.out] at hC
                        refine hC.mono ?_
                        rintro e X ⟨a', c', rfl, hb, hF⟩
                        have zX := (zs.fresh hV).fresh hb
                        have sV := hV.size
                        have sX := hb.size
                        have hOl := heap_lt hOs
                        have hOX := (hb.block O (by omega)).trans ((hV.block O hOl).trans hOs)
                        refine ⟨a', _, c', _, rfl, HST.out X _ zX hOX, hb, hide (fun V5 G r hW hr => ?_)⟩
                        have hblk : ∀ g, g < Xs.heap.size → V5.heap[g]? = Xs.heap[g]? := fun g hg => (hW.blk g (by omega) (.inl hg)).trans ((hb.block g (by omega)).trans (hV.block g hg))
                        obtain ⟨z5, zf⟩ := hF V5 k G r hW hk
                        refine ⟨hide ⟨hr ▸ hW.g, z5, fun x y hx hy => ?_⟩, hide (row_heap HWs.out (fun g hg => hblk g (HWs.out.lt g hg).2)), hide ((hblk O hOl).trans hOs)⟩
                        obtain ⟨z6, lx6⟩ := zf x y hx hy
                        refine ⟨_, _, z6, fun j hj => ?_⟩
                        obtain ⟨ts, hP⟩ := lx6 j hj
                        exact ⟨ts, hP.mono (fun g hg => ⟨hg.1, by rcases hg.2 with h | h <;> omega⟩)⟩)
                      go_upto_region 18 with fail
                      go_cut [15, 16, 17] (fun s15 s16 s17 V => s16 = .int .i64 d1 ∧ s17 = .int .i64 d2 ∧ ∃ (G3 : Nat) (a' : Option Addr) (N' c' : Nat) (l' : Int), s15 = .pointer (some ⟨G3, 0, none⟩) ∧ (Hid (Lsn w V D L R M (up np i ((np i).sendN fr tt bd)) np va vc i G3 gx a' N' c' l') ∧ Hid (V.ownsRow X0.heap.size 5 1 (.slice (some ⟨gx, 0, none⟩) (bl + 3) dx) (bl + 3) (U (bd ++ [77, 78, 79]))) ∧ Hid (Oro V O #[.int .i64 1, .int .i64 onn, .int .i64 fr, .int .i64 tt, .slice ba bl bc, .int .i64 no])))
                      case first =>
                        as_aux_lemma =>
                          go_region_held3 (fun V => V.cell? ⟨D, i, none⟩ = some (.pointer (some ⟨Ri, 0, none⟩)) ∧ V.cell? ⟨L, i * 2, none⟩ = some (.slice ai Ni ci) ∧ V.cell? ⟨L, i * 2 + 1, none⟩ = some (.int .i64 li) ∧ V.cell? ⟨O, 2, none⟩ = some (.int .i64 fr) ∧ V.cell? ⟨O, 3, none⟩ = some (.int .i64 tt) ∧ V.cell? ⟨O, 4, none⟩ = some (.slice ba bl bc) ∧ V.cell? ⟨O, 5, none⟩ = some (.int .i64 no))
                            (first | (with_reducible exact HSY.out) | (refine KL.out _ _ HSY.out ?_; intro g hg h1 h2; repeat (first | (with_reducible exact rfl) | refine (Below.heap_setCell _ _ _ g (by first | (with_reducible exact h1) | (with_reducible exact h2) | (with_reducible exact Nat.ne_of_lt hg) | (have h3 := hls; simp; omega))).trans ?_ | refine (Below.heap_alloc _ _ g (by first | exact hg | (simp; omega))).trans ?_)) | (refine KL.out _ _ HRs.out ?_; intro g hg h1 h2; repeat (first | exact rfl | refine (Below.heap_alloc _ _ g (by first | exact hg | (simp; omega))).trans ?_)))
                            (first
                            | (go_at_call 16; refine (CR.out _ 0 ?_ ?_).mono ?_; (with_reducible exact (Below.refl _ _).drew); exact rfl; rintro e X2 ⟨a', N', c', l', rfl, sy, hb2, HF⟩; have HSY := hide sy; have hs0 : Xs.heap.size ≤ X2.heap.size := hb2.size)
                            | (go_at_call 16; refine (CR.out _ 1 ?_ ?_).mono ?_; (with_reducible exact ((Below.refl _ _).alloc (Nat.le_refl _) _).drew); simp; rintro e X2 ⟨a', N', c', l', rfl, sy, hb2, HF⟩; have HSY := hide sy; have hls : Xs.heap.size < X2.heap.size := Nat.lt_of_lt_of_le (by simp) (hb2.size); have wr0 := (hb2.block Xs.heap.size (by simp)).trans (heap_alloc_new Xs _); have wc0 := cell_of_row X2 (Xs.heap.size) 0 _ _ _ wr0; have wf0 := frozen_of_row X2 (Xs.heap.size) 0 _ _ wr0; have wc1 := cell_of_row X2 (Xs.heap.size) 1 _ _ _ wr0; have wf1 := frozen_of_row X2 (Xs.heap.size) 1 _ _ wr0; (try simp only [List.getElem?_toArray, List.getElem?_cons_succ, List.getElem?_cons_zero, List.getElem?_nil] at wc0 wc1)))
                          all_goals
                            clear CR HST KL HRs hXn HSY
                            try clear wq0 wq1 wq2 wq3 wz0 wz1 wz2 wz3
                            try clear wc0 wc1 wc2 wc3 wf0 wf1 wf2 wf3
                            try clear wc0 wc1 wf0 wf1
                            try clear wd0 wd1 wd2 wd3 wg0 wg1 wg2 wg3
                            go_wp2_with fail
                            go_meet
                            first
                              | (have hw := wa1 (X1 := Xs) (X2 := X2) (T := (40 : TypeId)) (r := #[.slice a' N' c', .int .i64 l']) hs0; exact ⟨rfl, rfl, _, a', N', c', l', rfl, HF.out _ _ _ hw rfl⟩)
                              | (have hw := wa2 (X1 := Xs) (X2 := X2) (T := (40 : TypeId)) (x := .slice a' N' c') (y := .int .i64 l') wr0; exact ⟨rfl, rfl, _, a', N', c', l', rfl, HF.out _ _ _ hw rfl⟩)
                      case rest =>
                        as_aux_lemma =>
                          obtain ⟨rfl, rfl, G3, a', N', c', l', rfl, HL3, HW3, HO3⟩ := hcut
                          obtain ⟨Y3, hY3⟩ : ∃ Y3, Y3 = wc := ⟨_, rfl⟩
                          subst hY3
                          obtain ⟨hg3, z3, zf⟩ := HL3.out
                          obtain ⟨_, b2, b3, q2, q3, _⟩ := z3.cells hi
                          have k0 := cell_of_row Y3 G3 0 _ _ _ hg3
                          have k1 := cell_of_row Y3 G3 1 _ _ _ hg3
                          simp only [List.getElem?_toArray, List.getElem?_cons_succ, List.getElem?_cons_zero] at k0 k1
                          obtain ⟨va5, vc5, z5, lx5⟩ := zf _ _ rfl rfl
                          obtain ⟨Y4, hY4⟩ : ∃ Y4, Hid (Y4 = (Y3.setCell ⟨L, i * 2, none⟩ (.slice a' N' c')).setCell ⟨L, i * 2 + 1, none⟩ (.int .i64 l')) := ⟨_, hide rfl⟩
                          rw [← hY4.out] at z5 lx5
                          have ho4 : ∀ g, g ≠ L → Y4.heap[g]? = Y3.heap[g]? := fun g hg => by rw [hY4.out]; exact (Below.heap_setCell _ _ _ g hg).trans (Below.heap_setCell _ _ _ g hg)
                          have hs4 : Y4.heap.size = Y3.heap.size := by rw [hY4.out]; exact (size_set _ _ _).trans (size_set _ _ _)
                          have hrow4 : Y4.ownsRow X0.heap.size 5 1 (.slice (some ⟨gx, 0, none⟩) (bl + 3) dx) (bl + 3) (U (bd ++ [77, 78, 79])) := row_heap HW3.out (fun g hg => ho4 g (by have := (HW3.out.lt g hg).1; omega))
                          have hO4 : Y4.heap[O]? = _ := (ho4 O hOn.2.1).trans HO3.out
                          have c44 := cell_of_row Y4 O 4 _ _ _ hO4
                          simp only [List.getElem?_toArray, List.getElem?_cons_succ, List.getElem?_cons_zero] at c44
                          have CK := kept_any gx bl dx ba bc bd Y4 (own_bs hrow4 hby.out) (HBS.out.keep z5.bel)
                          have CO := over_any X0.heap.size gx bl dx _ Y4 hrow4 hln
                          have HZ7 : Hid (∀ Z, Bar (fun k => k = gx) Y4 Z → Pz w Z D L R M (up np i ((np i).sendN fr tt bd)) (up np i ((np i).sendN fr tt bd)) va5 vc5) := hide (fun Z hb => z5.beside (x := gx) (by have := HZ0.out.bel.size; omega) ⟨hb.os, hb.tape, hb.output, hb.size, hb.block⟩ (by omega) (by omega) (fun j hj => by have := s0l.2.2 j hj; omega) lx5)
                          have HL5 : Hid (∀ j, j < 2 → ((up np i ((np i).sendN fr tt bd)) j).last ≤ 250 + ((q + 1 : Nat) : Int)) := hide (fun j hj => by
                            have h1 := hlast.out j hj
                            have h2 := Nt.send_last (np i) fr tt bd
                            by_cases e : j = i
                            · subst e
                              rw [up_same]
                              omega
                            · rw [up_other e]
                              omega)
                          clear z3 zf z5 lx5 hg3 HL3 HW3 HO3 hrow4 hO4 ho4 zs hOs HZs HOs HLs HWs CR KL HRs
                          go_upto_region 20 with fail
                          rw [← hY4.out]
                          clear k0 k1 b2 b3 q2 q3
                          go_wp2_with fail
                          refine CK.mono ?_
                          rintro e w8 ⟨rfl, hw8⟩
                          subst w8
                          clear CK
                          go_wp2_with fail
                          refine CO.mono ?_
                          rintro e Z ⟨rfl, hbar⟩
                          have HZ8 := hide (HZ7.out Z hbar)
                          clear CO hbar c44
                          go_wp2_with fail
                          go_meet
                          exact ⟨rfl, R, M, _, va5, vc5, HL5, HZ8⟩
                  by_cases hd2 : kd = 2
                  · subst hd2
                    as_aux_lemma =>
                      obtain ⟨Ri, hRi⟩ : ∃ Ri, Hid (Ri = R i) := ⟨_, hide rfl⟩
                      obtain ⟨ai, hai⟩ : ∃ ai, Hid (ai = va i) := ⟨_, hide rfl⟩
                      obtain ⟨ci, hci⟩ : ∃ ci, Hid (ci = vc i) := ⟨_, hide rfl⟩
                      obtain ⟨Ni, hNi⟩ : ∃ Ni, Hid (Ni = (np i).m.length) := ⟨_, hide rfl⟩
                      obtain ⟨li, hli⟩ : ∃ li, Hid (li = (np i).last) := ⟨_, hide rfl⟩
                      have HST : Hid (∀ V n', Pz w V D L R M n' np va vc → V.heap[O]? = some (.cells #[.int .i64 2, .int .i64 onn, .int .i64 fr, .int .i64 tt, .slice ba bl bc, .int .i64 no] (45 : TypeId) (0, 0)) → V.cell? ⟨D, i, none⟩ = some (.pointer (some ⟨Ri, 0, none⟩)) ∧ V.cell? ⟨L, i * 2, none⟩ = some (.slice ai Ni ci) ∧ V.cell? ⟨L, i * 2 + 1, none⟩ = some (.int .i64 li) ∧ V.cell? ⟨O, 2, none⟩ = some (.int .i64 fr) ∧ V.cell? ⟨O, 3, none⟩ = some (.int .i64 tt) ∧ V.cell? ⟨O, 4, none⟩ = some (.slice ba bl bc) ∧ V.cell? ⟨O, 5, none⟩ = some (.int .i64 no)) := hide (fun V n' hV hO => by
                        obtain ⟨s1, s2, s3, _⟩ := hV.cells hi
                        rw [hRi.out, hai.out, hci.out, hNi.out, hli.out]
                        exact ⟨s1, s2, s3, cell_of_row V O 2 _ _ _ hO, cell_of_row V O 3 _ _ _ hO, cell_of_row V O 4 _ _ _ hO, cell_of_row V O 5 _ _ _ hO⟩)
                      obtain ⟨s1, s2, s3, s4, s5, s6, s7⟩ := HST.out X0 np z0 hOB
                      clear c1 c2 c3 c4 c5

                      have hIno := HI.out.2.2.2
                      obtain ⟨d1, hd1⟩ : ∃ d1, Hid (d1 = (np i).findE no) := ⟨_, hide rfl⟩
                      obtain ⟨e0, he0⟩ : ∃ e0, Hid (e0 = pno (np i) no) := ⟨_, hide rfl⟩
                      obtain ⟨fA, hfA⟩ : ∃ fA, Hid (fA = (np i).findA no) := ⟨_, hide rfl⟩
                      have HR0 := hide (And.intro s1 (And.intro s2 (And.intro s3 (And.intro s4 (And.intro s5 (And.intro s6 s7))))))
                      have hXn0 : X0.heap.size ≠ D ∧ X0.heap.size ≠ L ∧ X0.heap.size ≠ O ∧ X0.heap.size + 1 ≠ D ∧ X0.heap.size + 1 ≠ L ∧ X0.heap.size + 1 ≠ O := by
                        have h1 := z0.lt
                        have h2 := heap_lt hOB
                        omega
                      have KL0 : Hid (∀ X' Y : World, (X'.cell? ⟨D, i, none⟩ = some (.pointer (some ⟨Ri, 0, none⟩)) ∧ X'.cell? ⟨L, i * 2, none⟩ = some (.slice ai Ni ci) ∧ X'.cell? ⟨L, i * 2 + 1, none⟩ = some (.int .i64 li) ∧ X'.cell? ⟨O, 2, none⟩ = some (.int .i64 fr) ∧ X'.cell? ⟨O, 3, none⟩ = some (.int .i64 tt) ∧ X'.cell? ⟨O, 4, none⟩ = some (.slice ba bl bc) ∧ X'.cell? ⟨O, 5, none⟩ = some (.int .i64 no)) → (∀ g, g < X'.heap.size → g ≠ X0.heap.size → g ≠ X0.heap.size + 1 → Y.heap[g]? = X'.heap[g]?) → (Y.cell? ⟨D, i, none⟩ = some (.pointer (some ⟨Ri, 0, none⟩)) ∧ Y.cell? ⟨L, i * 2, none⟩ = some (.slice ai Ni ci) ∧ Y.cell? ⟨L, i * 2 + 1, none⟩ = some (.int .i64 li) ∧ Y.cell? ⟨O, 2, none⟩ = some (.int .i64 fr) ∧ Y.cell? ⟨O, 3, none⟩ = some (.int .i64 tt) ∧ Y.cell? ⟨O, 4, none⟩ = some (.slice ba bl bc) ∧ Y.cell? ⟨O, 5, none⟩ = some (.int .i64 no))) := hide (fun X' Y hX hY => by
                        obtain ⟨x1, x2, x3, x4, x5, x6, x7⟩ := hX
                        have key : ∀ {ad : Addr} {v : Value}, X'.cell? ad = some v → ad.block ≠ X0.heap.size → ad.block ≠ X0.heap.size + 1 → Y.cell? ad = some v := fun hc h1 h2 => by rw [World.cell?_of_block (hY _ (cell_lt hc) h1 h2)]; exact hc
                        exact ⟨key x1 hXn0.1.symm hXn0.2.2.2.1.symm, key x2 hXn0.2.1.symm hXn0.2.2.2.2.1.symm, key x3 hXn0.2.1.symm hXn0.2.2.2.2.1.symm, key x4 hXn0.2.2.1.symm hXn0.2.2.2.2.2.symm, key x5 hXn0.2.2.1.symm hXn0.2.2.2.2.2.symm, key x6 hXn0.2.2.1.symm hXn0.2.2.2.2.2.symm, key x7 hXn0.2.2.1.symm hXn0.2.2.2.2.2.symm⟩)
                      have CD : Hid (∀ (V : World) (k : Nat), Below X0.heap.size X0 V → V.heap.size = X0.heap.size + k → Calls Try.prog 13 #[.pointer (some ⟨Ri, 0, none⟩), .int .i64 no] V fun e X => ∃ (pa : Option Addr) (pn pc : Nat), e = .returned (.tuple #[.agg #[.int .i64 e0, .int .i64 fA.fr, .int .i64 fA.to, .slice pa pn pc], .int .i64 d1]) ∧ (X.cell? ⟨D, i, none⟩ = some (.pointer (some ⟨Ri, 0, none⟩)) ∧ X.cell? ⟨L, i * 2, none⟩ = some (.slice ai Ni ci) ∧ X.cell? ⟨L, i * 2 + 1, none⟩ = some (.int .i64 li) ∧ X.cell? ⟨O, 2, none⟩ = some (.int .i64 fr) ∧ X.cell? ⟨O, 3, none⟩ = some (.int .i64 tt) ∧ X.cell? ⟨O, 4, none⟩ = some (.slice ba bl bc) ∧ X.cell? ⟨O, 5, none⟩ = some (.int .i64 no)) ∧ V.heap.size ≤ X.heap.size ∧ (∀ g, X0.heap.size ≤ g → g < V.heap.size → X.heap[g]? = V.heap[g]?) ∧
                          Hid (∀ V5 H s, Wa X0 X V5 (31 : TypeId) k H s → s = #[.int .i64 e0, .int .i64 fA.fr, .int .i64 fA.to, .slice pa pn pc] → (Hid (Pkt V5 L H X0.heap.size e0 fA pa pn pc) ∧ Hid (Pz w V5 D L R M (up np i ((np i).drpN no)) np va vc) ∧ Hid (Oro V5 O #[.int .i64 2, .int .i64 onn, .int .i64 fr, .int .i64 tt, .slice ba bl bc, .int .i64 no])))) := hide (fun V k hV hk => by
                        rw [hRi.out]
                        have hC := z0.deliver2 hV hi hIno
                        rw [← hd1.out, ← he0.out, ← hfA.out] at hC
                        refine hC.mono ?_
                        rintro e X ⟨pa, pn, pc, rfl, hB, hlt, hn, tt'⟩
                        have zX := (z0.fresh hV).prog hi hn tt'
                        have hne : ∀ g, X0.heap.size ≤ g → ¬ (g = R i ∨ g = M i) := fun g hg h => by have := z0.lt.2.2 i hi; omega
                        have hOl := heap_lt hOB
                        have sV := hV.size
                        have sX := tt'.size
                        have hO := (tt'.block O (by omega) (fun h => by have := hOn.2.2 i hi; omega)).trans ((hV.block O hOl).trans hOB)
                        have sY := HST.out X _ zX hO
                        rw [hRi.out] at sY
                        refine ⟨pa, pn, pc, rfl, sY, tt'.size, fun g h1 h2 => tt'.block g h2 (hne g h1), hide (fun V5 H s hW hs => ?_)⟩
                        have hblk : ∀ g, g < X.heap.size → (g < X0.heap.size ∨ V.heap.size ≤ g) → V5.heap[g]? = X.heap[g]? := fun g hg h => hW.blk g hg (by rw [← hk]; exact h)
                        have z5 := z0.prog2 hV hi hn tt' hW.sz hblk (hW.bel w _ zX.bel z0.bel.size)
                        exact ⟨hide ⟨hs ▸ hW.g, hB.heap (fun ad e => hblk ad.block (hlt ad e).2 (.inr (hlt ad e).1)), fun ad e => ⟨Nat.lt_of_lt_of_le (hlt ad e).2 hW.sz, fun h => by have := (hlt ad e).1; have := z0.lt.2.1; omega⟩, hW.gn⟩, hide z5, hide ((hblk O (by omega) (.inl hOl)).trans hO)⟩)
                      go_upto_region 23 with fail
                      go_cut [18, 19] (fun s18 s19 V => s19 = .int .i64 d1 ∧ ∃ (H1 : Nat) (pa : Option Addr) (pn pc : Nat), s18 = .pointer (some ⟨H1, 0, none⟩) ∧ (Hid (Pkt V L H1 X0.heap.size e0 fA pa pn pc) ∧ Hid (Pz w V D L R M (up np i ((np i).drpN no)) np va vc) ∧ Hid (Oro V O #[.int .i64 2, .int .i64 onn, .int .i64 fr, .int .i64 tt, .slice ba bl bc, .int .i64 no])))
                      case first =>
                        as_aux_lemma =>
                          go_region_held3 (fun V => V.cell? ⟨D, i, none⟩ = some (.pointer (some ⟨Ri, 0, none⟩)) ∧ V.cell? ⟨L, i * 2, none⟩ = some (.slice ai Ni ci) ∧ V.cell? ⟨L, i * 2 + 1, none⟩ = some (.int .i64 li) ∧ V.cell? ⟨O, 2, none⟩ = some (.int .i64 fr) ∧ V.cell? ⟨O, 3, none⟩ = some (.int .i64 tt) ∧ V.cell? ⟨O, 4, none⟩ = some (.slice ba bl bc) ∧ V.cell? ⟨O, 5, none⟩ = some (.int .i64 no))
                            (first | (with_reducible exact HSY.out) | (refine KL0.out _ _ HSY.out ?_; intro g hg h1 h2; repeat (first | (with_reducible exact rfl) | refine (Below.heap_setCell _ _ _ g (by first | (with_reducible exact h1) | (with_reducible exact h2) | (with_reducible exact Nat.ne_of_lt hg) | (have h3 := hls; simp; omega))).trans ?_ | refine (Below.heap_alloc _ _ g (by first | exact hg | (simp; omega))).trans ?_)) | (refine KL0.out _ _ HR0.out ?_; intro g hg h1 h2; repeat (first | exact rfl | refine (Below.heap_alloc _ _ g (by first | exact hg | (simp; omega))).trans ?_)))
                            (first
                            | (go_at_call 13; refine (CD.out _ 0 ?_ ?_).mono ?_; (with_reducible exact (Below.refl _ _).drew); exact rfl; rintro e X2 ⟨pa, pn, pc, rfl, sy, hsz, hrow, HF⟩; have HSY := hide sy; have hs0 : X0.heap.size ≤ X2.heap.size := hsz)
                            | (go_at_call 13; refine (CD.out _ 1 ?_ ?_).mono ?_; (with_reducible exact ((Below.refl _ _).alloc (Nat.le_refl _) _).drew); simp; rintro e X2 ⟨pa, pn, pc, rfl, sy, hsz, hrow, HF⟩; have HSY := hide sy; have hls : X0.heap.size < X2.heap.size := Nat.lt_of_lt_of_le (by simp) (hsz); have wr0 := (hrow X0.heap.size (Nat.le_refl _) (by simp)).trans (heap_alloc_new X0 _); have wc0 := cell_of_row X2 (X0.heap.size) 0 _ _ _ wr0; have wf0 := frozen_of_row X2 (X0.heap.size) 0 _ _ wr0; have wc1 := cell_of_row X2 (X0.heap.size) 1 _ _ _ wr0; have wf1 := frozen_of_row X2 (X0.heap.size) 1 _ _ wr0; have wc2 := cell_of_row X2 (X0.heap.size) 2 _ _ _ wr0; have wf2 := frozen_of_row X2 (X0.heap.size) 2 _ _ wr0; have wc3 := cell_of_row X2 (X0.heap.size) 3 _ _ _ wr0; have wf3 := frozen_of_row X2 (X0.heap.size) 3 _ _ wr0; (try simp only [List.getElem?_toArray, List.getElem?_cons_succ, List.getElem?_cons_zero, List.getElem?_nil] at wc0 wc1 wc2 wc3)))
                          all_goals
                            clear s1 s2 s3 s4 s5 s6 s7 CD HST KL0 HR0 hXn0 HSY
                            try clear wq0 wq1 wq2 wq3 wz0 wz1 wz2 wz3
                            try clear wc0 wc1 wc2 wc3 wf0 wf1 wf2 wf3
                            try clear wc0 wc1 wf0 wf1
                            try clear wd0 wd1 wd2 wd3 wg0 wg1 wg2 wg3
                            go_wp2_with fail
                            go_meet
                            first
                              | (have hw := wa1 (X1 := X0) (X2 := X2) (T := (31 : TypeId)) (r := #[.int .i64 e0, .int .i64 fA.fr, .int .i64 fA.to, .slice pa pn pc]) hs0; exact ⟨rfl, _, pa, pn, pc, rfl, HF.out _ _ _ hw rfl⟩)
                              | (have hw := wa4 (X1 := X0) (X2 := X2) (T := (31 : TypeId)) (p := .int .i64 e0) (q := .int .i64 fA.fr) (t := .int .i64 fA.to) (u := .slice pa pn pc) wr0; exact ⟨rfl, _, pa, pn, pc, rfl, HF.out _ _ _ hw rfl⟩)
                      case rest =>
                        as_aux_lemma =>
                          obtain ⟨rfl, H1, pa, pn, pc, rfl, HRA, HZ1, HO1⟩ := hcut
                          obtain ⟨X1, hX1⟩ : ∃ X1, X1 = wc := ⟨_, rfl⟩
                          subst hX1
                          obtain ⟨hp1, hBp, hltp, hH1⟩ := HRA.out
                          have z1 := HZ1.out
                          have hO1 : X1.heap[O]? = _ := HO1.out
                          obtain ⟨r1, r2, r3, r4, r5, r6, r7⟩ := HST.out X1 _ z1 hO1
                          have HR1 := hide (And.intro r1 (And.intro r2 (And.intro r3 (And.intro r4 (And.intro r5 (And.intro r6 r7))))))
                          have hXn : X1.heap.size ≠ D ∧ X1.heap.size ≠ L ∧ X1.heap.size ≠ O ∧ X1.heap.size + 1 ≠ D ∧ X1.heap.size + 1 ≠ L ∧ X1.heap.size + 1 ≠ O := by
                            have h1 := z1.lt
                            have h2 := heap_lt hO1
                            omega
                          have KL : Hid (∀ X' Y : World, (X'.cell? ⟨D, i, none⟩ = some (.pointer (some ⟨Ri, 0, none⟩)) ∧ X'.cell? ⟨L, i * 2, none⟩ = some (.slice ai Ni ci) ∧ X'.cell? ⟨L, i * 2 + 1, none⟩ = some (.int .i64 li) ∧ X'.cell? ⟨O, 2, none⟩ = some (.int .i64 fr) ∧ X'.cell? ⟨O, 3, none⟩ = some (.int .i64 tt) ∧ X'.cell? ⟨O, 4, none⟩ = some (.slice ba bl bc) ∧ X'.cell? ⟨O, 5, none⟩ = some (.int .i64 no)) → (∀ g, g < X'.heap.size → g ≠ X1.heap.size → g ≠ X1.heap.size + 1 → Y.heap[g]? = X'.heap[g]?) → (Y.cell? ⟨D, i, none⟩ = some (.pointer (some ⟨Ri, 0, none⟩)) ∧ Y.cell? ⟨L, i * 2, none⟩ = some (.slice ai Ni ci) ∧ Y.cell? ⟨L, i * 2 + 1, none⟩ = some (.int .i64 li) ∧ Y.cell? ⟨O, 2, none⟩ = some (.int .i64 fr) ∧ Y.cell? ⟨O, 3, none⟩ = some (.int .i64 tt) ∧ Y.cell? ⟨O, 4, none⟩ = some (.slice ba bl bc) ∧ Y.cell? ⟨O, 5, none⟩ = some (.int .i64 no))) := hide (fun X' Y hX hY => by
                            obtain ⟨x1, x2, x3, x4, x5, x6, x7⟩ := hX
                            have key : ∀ {ad : Addr} {v : Value}, X'.cell? ad = some v → ad.block ≠ X1.heap.size → ad.block ≠ X1.heap.size + 1 → Y.cell? ad = some v := fun hc h1 h2 => by rw [World.cell?_of_block (hY _ (cell_lt hc) h1 h2)]; exact hc
                            exact ⟨key x1 hXn.1.symm hXn.2.2.2.1.symm, key x2 hXn.2.1.symm hXn.2.2.2.2.1.symm, key x3 hXn.2.1.symm hXn.2.2.2.2.1.symm, key x4 hXn.2.2.1.symm hXn.2.2.2.2.2.symm, key x5 hXn.2.2.1.symm hXn.2.2.2.2.2.symm, key x6 hXn.2.2.1.symm hXn.2.2.2.2.2.symm, key x7 hXn.2.2.1.symm hXn.2.2.2.2.2.symm⟩)
                          have CR : Hid (∀ (V : World) (k : Nat), Below X1.heap.size X1 V → V.heap.size = X1.heap.size + k → Calls Try.prog 20 #[.agg #[.slice ai Ni ci, .int .i64 li], .int .i64 no] V fun e X => ∃ (a' : Option Addr) (N' c' : Nat) (l' : Int) (qa : Option Addr) (qn qc : Nat), e = .returned (.tuple #[.agg #[.slice a' N' c', .int .i64 l'], .agg #[.int .i64 e0, .int .i64 fA.fr, .int .i64 fA.to, .slice qa qn qc], .int .i64 d1]) ∧ (X.cell? ⟨D, i, none⟩ = some (.pointer (some ⟨Ri, 0, none⟩)) ∧ X.cell? ⟨L, i * 2, none⟩ = some (.slice ai Ni ci) ∧ X.cell? ⟨L, i * 2 + 1, none⟩ = some (.int .i64 li) ∧ X.cell? ⟨O, 2, none⟩ = some (.int .i64 fr) ∧ X.cell? ⟨O, 3, none⟩ = some (.int .i64 tt) ∧ X.cell? ⟨O, 4, none⟩ = some (.slice ba bl bc) ∧ X.cell? ⟨O, 5, none⟩ = some (.int .i64 no)) ∧ Below V.heap.size V X ∧
                              Hid (∀ V5 G H r s, Way X1 X V5 k G H r s → r = #[.slice a' N' c', .int .i64 l'] → s = #[.int .i64 e0, .int .i64 fA.fr, .int .i64 fA.to, .slice qa qn qc] → (Hid (Lay w V5 D L R M (up np i ((np i).drpN no)) np va vc i G a' N' c' l') ∧ Hid (Pkt V5 L H X1.heap.size e0 fA qa qn qc) ∧ Hid (Old X1 V5)))) := hide (fun V k hV hk => by
                            have hC := z1.rdeliver3 hV (i := i) (k := no) hi hfew HUN.out
                            rw [← hai.out, ← hci.out, ← hNi.out, ← hli.out, ← hd1.out, ← he0.out, ← hfA.out] at hC
                            refine hC.mono ?_
                            rintro e X ⟨a', c', ts', qa, qn, qc, rfl, hBq, hltq, hb, hP'⟩
                            have zX := (z1.fresh hV).fresh hb
                            have hOX := (hb.block O (Nat.lt_of_lt_of_le (heap_lt hO1) hV.size)).trans ((hV.block O (heap_lt hO1)).trans hO1)
                            refine ⟨a', _, c', _, qa, qn, qc, rfl, HST.out X _ zX hOX, hb, hide (fun V5 G H r s hW hr hs => ?_)⟩
                            have sV := hV.size
                            have sX := hb.size
                            have hblk : ∀ g, g < X.heap.size → (g < X1.heap.size ∨ V.heap.size ≤ g) → V5.heap[g]? = X.heap[g]? := fun g hg h => hW.blk g hg (by rw [← hk]; exact h)
                            obtain ⟨z5, zf⟩ := z1.lay hV hb hi hP' hW.sz hblk (hW.bel w _ zX.bel z1.bel.size)
                            refine ⟨hide ⟨hr ▸ hW.g, z5, fun x y hx hy => ⟨_, _, zf x y hx hy⟩⟩, hide ⟨hs ▸ hW.h, hBq.heap (fun ad e => hblk ad.block (hltq ad e).2 ((hltq ad e).1.imp (fun h => h.2) id)), fun ad e => ⟨Nat.lt_of_lt_of_le (hltq ad e).2 hW.sz, ?_⟩, hW.hn⟩, hide (fun g hg => (hblk g (by omega) (.inl hg)).trans ((hb.block g (by omega)).trans (hV.block g hg)))⟩
                            rcases (hltq ad e).1 with h | h
                            · exact h.1.2.1
                            · have := z1.lt.2.1
                              omega)
                          go_upto_region 24 with fail
                          go_cut [20, 21, 22] (fun s20 s21 s22 V => s22 = .int .i64 d1 ∧ ∃ (G3 H3 : Nat) (a' : Option Addr) (N' c' : Nat) (l' : Int) (qa : Option Addr) (qn qc : Nat), s20 = .pointer (some ⟨G3, 0, none⟩) ∧ s21 = .pointer (some ⟨H3, 0, none⟩) ∧ (Hid (Lay w V D L R M (up np i ((np i).drpN no)) np va vc i G3 a' N' c' l') ∧ Hid (Pkt V L H3 X1.heap.size e0 fA qa qn qc) ∧ Hid (Old X1 V)))
                          case first =>
                            as_aux_lemma =>
                              go_region_held3 (fun V => V.cell? ⟨D, i, none⟩ = some (.pointer (some ⟨Ri, 0, none⟩)) ∧ V.cell? ⟨L, i * 2, none⟩ = some (.slice ai Ni ci) ∧ V.cell? ⟨L, i * 2 + 1, none⟩ = some (.int .i64 li) ∧ V.cell? ⟨O, 2, none⟩ = some (.int .i64 fr) ∧ V.cell? ⟨O, 3, none⟩ = some (.int .i64 tt) ∧ V.cell? ⟨O, 4, none⟩ = some (.slice ba bl bc) ∧ V.cell? ⟨O, 5, none⟩ = some (.int .i64 no))
                                (first | (with_reducible exact HSY.out) | (refine KL.out _ _ HSY.out ?_; intro g hg h1 h2; repeat (first | (with_reducible exact rfl) | refine (Below.heap_setCell _ _ _ g (by first | (with_reducible exact h1) | (with_reducible exact h2) | (with_reducible exact Nat.ne_of_lt hg) | (have h3 := hls; simp; omega))).trans ?_ | refine (Below.heap_alloc _ _ g (by first | exact hg | (simp; omega))).trans ?_)) | (refine KL.out _ _ HR1.out ?_; intro g hg h1 h2; repeat (first | exact rfl | refine (Below.heap_alloc _ _ g (by first | exact hg | (simp; omega))).trans ?_)))
                                (first
                                | (go_at_call 20; refine (CR.out _ 0 ?_ ?_).mono ?_; (with_reducible exact (Below.refl _ _).drew); exact rfl; rintro e X2 ⟨a', N', c', l', qa, qn, qc, rfl, sy, hb2, HF⟩; have HSY := hide sy; have hs0 : X1.heap.size ≤ X2.heap.size := hb2.size)
                                | (go_at_call 20; refine (CR.out _ 1 ?_ ?_).mono ?_; (with_reducible exact ((Below.refl _ _).alloc (Nat.le_refl _) _).drew); simp; rintro e X2 ⟨a', N', c', l', qa, qn, qc, rfl, sy, hb2, HF⟩; have HSY := hide sy; have hls : X1.heap.size < X2.heap.size := Nat.lt_of_lt_of_le (by simp) hb2.size; have hn1 : X1.heap.size ≠ X2.heap.size := Nat.ne_of_lt hls; have hn2 : X2.heap.size ≠ X1.heap.size := hn1.symm; have hn3 : ¬ X1.heap.size = X2.heap.size := hn1; have hn4 : ¬ X2.heap.size = X1.heap.size := hn2; have wr0 := (hb2.block X1.heap.size (by simp)).trans (heap_alloc_new X1 _); have wc0 := cell_of_row X2 X1.heap.size 0 _ _ _ wr0; have wc1 := cell_of_row X2 X1.heap.size 1 _ _ _ wr0; have wc2 := cell_of_row X2 X1.heap.size 2 _ _ _ wr0; have wc3 := cell_of_row X2 X1.heap.size 3 _ _ _ wr0; have wf0 := frozen_of_row X2 X1.heap.size 0 _ _ wr0; have wf1 := frozen_of_row X2 X1.heap.size 1 _ _ wr0; have wf2 := frozen_of_row X2 X1.heap.size 2 _ _ wr0; have wf3 := frozen_of_row X2 X1.heap.size 3 _ _ wr0; have wq0 := fun o => cell_of_row (X2.alloc o) X1.heap.size 0 _ _ _ (row_alloc wr0 o); have wz0 := fun o => frozen_of_row (X2.alloc o) X1.heap.size 0 _ _ (row_alloc wr0 o); have wq1 := fun o => cell_of_row (X2.alloc o) X1.heap.size 1 _ _ _ (row_alloc wr0 o); have wz1 := fun o => frozen_of_row (X2.alloc o) X1.heap.size 1 _ _ (row_alloc wr0 o); have wq2 := fun o => cell_of_row (X2.alloc o) X1.heap.size 2 _ _ _ (row_alloc wr0 o); have wz2 := fun o => frozen_of_row (X2.alloc o) X1.heap.size 2 _ _ (row_alloc wr0 o); have wq3 := fun o => cell_of_row (X2.alloc o) X1.heap.size 3 _ _ _ (row_alloc wr0 o); have wz3 := fun o => frozen_of_row (X2.alloc o) X1.heap.size 3 _ _ (row_alloc wr0 o); (try simp only [List.getElem?_toArray, List.getElem?_cons_succ, List.getElem?_cons_zero, List.getElem?_nil] at wc0 wc1 wc2 wc3 wq0 wq1 wq2 wq3))
                                | (go_at_call 20; refine (CR.out _ 2 ?_ ?_).mono ?_; (with_reducible exact (((Below.refl _ _).alloc (Nat.le_refl _) _).alloc (by simp) _).drew); simp; rintro e X2 ⟨a', N', c', l', qa, qn, qc, rfl, sy, hb2, HF⟩; have HSY := hide sy; have wr0 := (hb2.block X1.heap.size (by simp; omega)).trans ((Below.heap_alloc (X1.alloc _) _ X1.heap.size (by simp)).trans (heap_alloc_new X1 _)); have wr1 := (hb2.block (X1.heap.size + 1) (by simp)).trans (alloc_two X1 _ _); have wc0 := cell_of_row X2 X1.heap.size 0 _ _ _ wr0; have wc1 := cell_of_row X2 X1.heap.size 1 _ _ _ wr0; have wc2 := cell_of_row X2 X1.heap.size 2 _ _ _ wr0; have wc3 := cell_of_row X2 X1.heap.size 3 _ _ _ wr0; have wd0 := cell_of_row X2 (X1.heap.size + 1) 0 _ _ _ wr1; have wd1 := cell_of_row X2 (X1.heap.size + 1) 1 _ _ _ wr1; have wd2 := cell_of_row X2 (X1.heap.size + 1) 2 _ _ _ wr1; have wd3 := cell_of_row X2 (X1.heap.size + 1) 3 _ _ _ wr1; have wf0 := frozen_of_row X2 X1.heap.size 0 _ _ wr0; have wf1 := frozen_of_row X2 X1.heap.size 1 _ _ wr0; have wf2 := frozen_of_row X2 X1.heap.size 2 _ _ wr0; have wf3 := frozen_of_row X2 X1.heap.size 3 _ _ wr0; have wg0 := frozen_of_row X2 (X1.heap.size + 1) 0 _ _ wr1; have wg1 := frozen_of_row X2 (X1.heap.size + 1) 1 _ _ wr1; have wg2 := frozen_of_row X2 (X1.heap.size + 1) 2 _ _ wr1; have wg3 := frozen_of_row X2 (X1.heap.size + 1) 3 _ _ wr1; (try simp only [List.getElem?_toArray, List.getElem?_cons_succ, List.getElem?_cons_zero, List.getElem?_nil] at wc0 wc1 wc2 wc3 wd0 wd1 wd2 wd3)))
                              all_goals
                                clear r1 r2 r3 r4 r5 r6 r7 CR HST KL HR1 hXn HSY
                                try clear wq0 wq1 wq2 wq3 wz0 wz1 wz2 wz3
                                try clear wc0 wc1 wc2 wc3 wf0 wf1 wf2 wf3
                                try clear wc0 wc1 wf0 wf1
                                try clear wd0 wd1 wd2 wd3 wg0 wg1 wg2 wg3
                                go_wp2_with fail
                                go_meet
                                first
                                  | (have hw := way1 (X1 := X1) (X2 := X2) (x := .slice a' N' c') (y := .int .i64 l') (p := .int .i64 e0) (q := .int .i64 fA.fr) (t := .int .i64 fA.to) (u := .slice qa qn qc) hs0; exact ⟨rfl, _, _, a', N', c', l', qa, qn, qc, rfl, rfl, HF.out _ _ _ _ _ hw rfl rfl⟩)
                                  | (have hw := way2 (X1 := X1) (X2 := X2) (x := .slice a' N' c') (y := .int .i64 l') (p := .int .i64 e0) (q := .int .i64 fA.fr) (t := .int .i64 fA.to) (u := .slice qa qn qc) hs0; exact ⟨rfl, _, _, a', N', c', l', qa, qn, qc, rfl, rfl, HF.out _ _ _ _ _ hw rfl rfl⟩)
                                  | (have hw := way4 (X1 := X1) (X2 := X2) (x := .slice a' N' c') (y := .int .i64 l') (p := .int .i64 e0) (q := .int .i64 fA.fr) (t := .int .i64 fA.to) (u := .slice qa qn qc) wr0 wr1; exact ⟨rfl, _, _, a', N', c', l', qa, qn, qc, rfl, rfl, HF.out _ _ _ _ _ hw rfl rfl⟩)
                                  | (have hw := way6 (X1 := X1) (X2 := X2) (x := .slice a' N' c') (y := .int .i64 l') (p := .int .i64 e0) (q := .int .i64 fA.fr) (t := .int .i64 fA.to) (u := .slice qa qn qc) wr1 wr0; exact ⟨rfl, _, _, a', N', c', l', qa, qn, qc, rfl, rfl, HF.out _ _ _ _ _ hw rfl rfl⟩)
                                  | (have hw := way3 (X1 := X1) (X2 := X2) (x := .slice a' N' c') (y := .int .i64 l') (p := .int .i64 e0) (q := .int .i64 fA.fr) (t := .int .i64 fA.to) (u := .slice qa qn qc) wr0; exact ⟨rfl, _, _, a', N', c', l', qa, qn, qc, rfl, rfl, HF.out _ _ _ _ _ hw rfl rfl⟩)
                                  | (have hw := way5 (X1 := X1) (X2 := X2) (x := .slice a' N' c') (y := .int .i64 l') (p := .int .i64 e0) (q := .int .i64 fA.fr) (t := .int .i64 fA.to) (u := .slice qa qn qc) wr0; exact ⟨rfl, _, _, a', N', c', l', qa, qn, qc, rfl, rfl, HF.out _ _ _ _ _ hw rfl rfl⟩)
                          case rest =>
                            as_aux_lemma =>
                              obtain ⟨rfl, G3, H3, a', N', c', l', qa, qn, qc, rfl, rfl, HRB, HRC, HRD⟩ := hcut
                              obtain ⟨Y3, hY3⟩ : ∃ Y3, Y3 = wc := ⟨_, rfl⟩
                              subst hY3
                              obtain ⟨hg3, z3, zf⟩ := HRB.out
                              obtain ⟨hq3, hBq, hltq, hH3⟩ := HRC.out
                              have hold : ∀ g, g < X1.heap.size → Y3.heap[g]? = X1.heap[g]? := HRD.out
                              obtain ⟨_, b2, b3, q2, q3, _⟩ := z3.cells hi
                              have k0 := cell_of_row Y3 G3 0 _ _ _ hg3
                              have k1 := cell_of_row Y3 G3 1 _ _ _ hg3
                              simp only [List.getElem?_toArray, List.getElem?_cons_succ, List.getElem?_cons_zero] at k0 k1
                              obtain ⟨va5, vc5, z5⟩ := zf _ _ rfl rfl
                              obtain ⟨Y4, hY4⟩ : ∃ Y4, Hid (Y4 = (Y3.setCell ⟨L, i * 2, none⟩ (.slice a' N' c')).setCell ⟨L, i * 2 + 1, none⟩ (.int .i64 l')) := ⟨_, hide rfl⟩
                              rw [← hY4.out] at z5
                              have ho4 : ∀ g, g ≠ L → Y4.heap[g]? = Y3.heap[g]? := fun g hg => by rw [hY4.out]; exact (Below.heap_setCell _ _ _ g hg).trans (Below.heap_setCell _ _ _ g hg)
                              have hs4 : Y4.heap.size = Y3.heap.size := by rw [hY4.out]; exact (size_set _ _ _).trans (size_set _ _ _)
                              have hLl := z0.lt.2.1
                              have hLl1 := z1.lt.2.1
                              have hp4 := (ho4 H1 (by omega)).trans ((hold H1 (heap_lt hp1)).trans hp1)
                              have hq4 := (ho4 H3 (by omega)).trans hq3
                              have hBp4 : Bs Y4 pa pn pc fA.bd := hBp.heap (fun ad e => (ho4 _ (hltp ad e).2).trans (hold _ (hltp ad e).1))
                              have hBq4 : Bs Y4 qa qn qc fA.bd := hBq.heap (fun ad e => ho4 _ (hltq ad e).2)
                              have hX1Y : X1.heap.size ≤ Y4.heap.size := by have := heap_lt hq3; omega
                              have hltp4 : ∀ ad, pa = some ad → ad.block < Y4.heap.size := fun ad e => Nat.lt_of_lt_of_le (hltp ad e).1 hX1Y
                              have hltq4 : ∀ ad, qa = some ad → ad.block < Y4.heap.size := fun ad e => by rw [hs4]; exact (hltq ad e).1
                              obtain ⟨Y6, hY6⟩ : ∃ Y6, Hid (Y6 = (Y4.alloc (.cells #[.int .i64 e0, .int .i64 fA.fr, .int .i64 fA.to, .slice pa pn pc] (31 : TypeId))).alloc (.cells #[.int .i64 e0, .int .i64 fA.fr, .int .i64 fA.to, .slice qa qn qc] (31 : TypeId))) := ⟨_, hide rfl⟩
                              have b6 : Below Y4.heap.size Y4 Y6 := by rw [hY6.out]; exact ((Below.refl _ Y4).alloc (Nat.le_refl _) _).alloc (by simp) _
                              have CS : Hid (Calls Try.prog 21 #[.slice (some ⟨Y4.heap.size, 0, none⟩) 1 1, .slice (some ⟨Y4.heap.size + 1, 0, none⟩) 1 1] Y6 fun e Z => e = .returned (.bool true) ∧ ∃ qd, Z = Y6.drewN qd) := hide (by
                                have g1 : Y6.heap[Y4.heap.size]? = some (.cells #[.int .i64 e0, .int .i64 fA.fr, .int .i64 fA.to, .slice pa pn pc] (31 : TypeId) (0, 0)) := by rw [hY6.out]; exact row_alloc (heap_alloc_new Y4 _) _
                                have g2 : Y6.heap[Y4.heap.size + 1]? = some (.cells #[.int .i64 e0, .int .i64 fA.fr, .int .i64 fA.to, .slice qa qn qc] (31 : TypeId) (0, 0)) := by rw [hY6.out]; exact alloc_two Y4 _ _
                                exact samePackets_true (one_pl g1 (hBp4.keep b6) (fun ad e => Nat.lt_of_lt_of_le (hltp4 ad e) b6.size)) (one_pl g2 (hBq4.keep b6) (fun ad e => Nat.lt_of_lt_of_le (hltq4 ad e) b6.size)))
                              have HZ6 : Hid (∀ qd, Pz w (Y6.drewN qd) D L R M (up np i ((np i).drpN no)) (up np i ((np i).drpN no)) va5 vc5) := hide (fun qd => z5.fresh (below_drewN b6 qd))
                              have HL5 : Hid (∀ j, j < 2 → (up np i ((np i).drpN no) j).last ≤ 250 + ((q + 1 : Nat) : Int)) := hide (fun j hj => by
                                have h1 := hlast.out j hj
                                by_cases e : j = i
                                · subst e
                                  rw [up_same, Nt.drp_last]
                                  omega
                                · rw [up_other e]
                                  omega)
                              have HP4 := hide hp4
                              have HQ5 : Hid ((Y4.alloc (.cells #[.int .i64 e0, .int .i64 fA.fr, .int .i64 fA.to, .slice pa pn pc] (31 : TypeId))).heap[H3]? = some (.cells #[.int .i64 e0, .int .i64 fA.fr, .int .i64 fA.to, .slice qa qn qc] (31 : TypeId) (0, 0))) := hide (row_alloc hq4 _)
                              clear z3 zf z5 hg3 HRB HRC HRD HRA hp1 hq3 hp4 hq4 hBp hBq hBp4 hBq4 hltp hltq hltp4 hltq4 hold ho4 b6 r1 r2 r3 r4 r5 r6 r7 hs4 hX1Y hLl hLl1 hH1 hH3
                              go_upto_region 26 with fail
                              rw [← hY4.out]
                              clear k0 k1 b2 b3 q2 q3
                              go_wp2_with (first
                                | (refine wpList_load_roww rfl (31 : TypeId) _ rfl H1 rfl (31 : TypeId) _ (0, 0) _ HP4.out Try.underlying31 rfl (by kernel_rfl) ?_)
                                | (refine wpList_load_roww rfl (31 : TypeId) _ rfl H3 rfl (31 : TypeId) _ (0, 0) _ HQ5.out Try.underlying31 rfl (by kernel_rfl) ?_))
                              rw [← hY6.out]
                              refine CS.out.mono ?_
                              rintro e Z ⟨rfl, qd, rfl⟩
                              go_wp2_with fail
                              go_meet
                              exact ⟨rfl, R, M, _, va5, vc5, HL5, hide (HZ6.out qd)⟩
                  by_cases hd3 : kd = 3
                  · subst hd3
                    as_aux_lemma =>
                      obtain ⟨Ri, hRi⟩ : ∃ Ri, Hid (Ri = R i) := ⟨_, hide rfl⟩
                      obtain ⟨ai, hai⟩ : ∃ ai, Hid (ai = va i) := ⟨_, hide rfl⟩
                      obtain ⟨ci, hci⟩ : ∃ ci, Hid (ci = vc i) := ⟨_, hide rfl⟩
                      obtain ⟨Ni, hNi⟩ : ∃ Ni, Hid (Ni = (np i).m.length) := ⟨_, hide rfl⟩
                      obtain ⟨li, hli⟩ : ∃ li, Hid (li = (np i).last) := ⟨_, hide rfl⟩
                      have HST : Hid (∀ V n', Pz w V D L R M n' np va vc → V.heap[O]? = some (.cells #[.int .i64 3, .int .i64 onn, .int .i64 fr, .int .i64 tt, .slice ba bl bc, .int .i64 no] (45 : TypeId) (0, 0)) → V.cell? ⟨D, i, none⟩ = some (.pointer (some ⟨Ri, 0, none⟩)) ∧ V.cell? ⟨L, i * 2, none⟩ = some (.slice ai Ni ci) ∧ V.cell? ⟨L, i * 2 + 1, none⟩ = some (.int .i64 li) ∧ V.cell? ⟨O, 2, none⟩ = some (.int .i64 fr) ∧ V.cell? ⟨O, 3, none⟩ = some (.int .i64 tt) ∧ V.cell? ⟨O, 4, none⟩ = some (.slice ba bl bc) ∧ V.cell? ⟨O, 5, none⟩ = some (.int .i64 no)) := hide (fun V n' hV hO => by
                        obtain ⟨s1, s2, s3, _⟩ := hV.cells hi
                        rw [hRi.out, hai.out, hci.out, hNi.out, hli.out]
                        exact ⟨s1, s2, s3, cell_of_row V O 2 _ _ _ hO, cell_of_row V O 3 _ _ _ hO, cell_of_row V O 4 _ _ _ hO, cell_of_row V O 5 _ _ _ hO⟩)
                      obtain ⟨s1, s2, s3, s4, s5, s6, s7⟩ := HST.out X0 np z0 hOB
                      clear c1 c2 c3 c4 c5

                      have hIno := HI.out.2.2.2
                      have CD : Hid (∀ V, Below X0.heap.size X0 V → Calls Try.prog 12 #[.pointer (some ⟨Ri, 0, none⟩), .int .i64 no] V fun e X => e = .returned (.int .i64 ((np i).findE no)) ∧ (X.cell? ⟨D, i, none⟩ = some (.pointer (some ⟨Ri, 0, none⟩)) ∧ X.cell? ⟨L, i * 2, none⟩ = some (.slice ai Ni ci) ∧ X.cell? ⟨L, i * 2 + 1, none⟩ = some (.int .i64 li) ∧ X.cell? ⟨O, 2, none⟩ = some (.int .i64 fr) ∧ X.cell? ⟨O, 3, none⟩ = some (.int .i64 tt) ∧ X.cell? ⟨O, 4, none⟩ = some (.slice ba bl bc) ∧ X.cell? ⟨O, 5, none⟩ = some (.int .i64 no)) ∧ Pz w X D L R M (up np i ((np i).drpN no)) np va vc ∧ X.heap[O]? = some (.cells #[.int .i64 3, .int .i64 onn, .int .i64 fr, .int .i64 tt, .slice ba bl bc, .int .i64 no] (45 : TypeId) (0, 0))) := hide (fun V hV => by
                        rw [hRi.out]
                        refine ((z0.fresh hV).drop hi hIno).mono ?_
                        rintro e X ⟨rfl, zX, tX⟩
                        have hO := (tX.block O (Nat.lt_of_lt_of_le (heap_lt hOB) hV.size) (fun h => by have := hOn.2.2 i hi; omega)).trans ((hV.block O (heap_lt hOB)).trans hOB)
                        have := HST.out X _ zX hO
                        rw [hRi.out] at this
                        exact ⟨rfl, this, zX, hO⟩)
                      obtain ⟨d1, hd1⟩ : ∃ d1, Hid (d1 = (np i).findE no) := ⟨_, hide rfl⟩
                      rw [← hd1.out] at CD
                      go_wp2_with fail
                      go_region_held3 (fun V => V.cell? ⟨D, i, none⟩ = some (.pointer (some ⟨Ri, 0, none⟩)) ∧ V.cell? ⟨L, i * 2, none⟩ = some (.slice ai Ni ci) ∧ V.cell? ⟨L, i * 2 + 1, none⟩ = some (.int .i64 li) ∧ V.cell? ⟨O, 2, none⟩ = some (.int .i64 fr) ∧ V.cell? ⟨O, 3, none⟩ = some (.int .i64 tt) ∧ V.cell? ⟨O, 4, none⟩ = some (.slice ba bl bc) ∧ V.cell? ⟨O, 5, none⟩ = some (.int .i64 no))
                        (first | exact ⟨s1, s2, s3, s4, s5, s6, s7⟩ | exact sx)
                        (first | (go_at_call 12; refine (CD.out _ ?_).mono ?_; exact (Below.refl _ _).drew; rintro e X1 ⟨rfl, sx, z1, hO1⟩))
                      obtain ⟨r1, r2, r3, r4, r5, r6, r7⟩ := sx
                      have CR : Hid (∀ (V : World) (k : Nat), Below X1.heap.size X1 V → V.heap.size = X1.heap.size + k → Calls Try.prog 20 #[.agg #[.slice ai Ni ci, .int .i64 li], .int .i64 no] V fun e X => ∃ (a' : Option Addr) (N' c' : Nat) (l' : Int) (p0 p1 p2 : Int) (pa : Option Addr) (pn pc : Nat), e = .returned (.tuple #[.agg #[.slice a' N' c', .int .i64 l'], .agg #[.int .i64 p0, .int .i64 p1, .int .i64 p2, .slice pa pn pc], .int .i64 d1]) ∧ (X.cell? ⟨D, i, none⟩ = some (.pointer (some ⟨Ri, 0, none⟩)) ∧ X.cell? ⟨L, i * 2, none⟩ = some (.slice ai Ni ci) ∧ X.cell? ⟨L, i * 2 + 1, none⟩ = some (.int .i64 li) ∧ X.cell? ⟨O, 2, none⟩ = some (.int .i64 fr) ∧ X.cell? ⟨O, 3, none⟩ = some (.int .i64 tt) ∧ X.cell? ⟨O, 4, none⟩ = some (.slice ba bl bc) ∧ X.cell? ⟨O, 5, none⟩ = some (.int .i64 no)) ∧ Below V.heap.size V X ∧
                          Hid (∀ V5 G H r s, Way X1 X V5 k G H r s → r = #[.slice a' N' c', .int .i64 l'] → Lay w V5 D L R M (up np i ((np i).drpN no)) np va vc i G a' N' c' l')) := hide (fun V k hV hk => by
                        have hC := z1.rdeliver2 hV (i := i) (k := no) hi hfew HUN.out
                        rw [← hai.out, ← hci.out, ← hNi.out, ← hli.out, ← hd1.out] at hC
                        refine hC.mono ?_
                        rintro e X ⟨a', c', ts', pa, pn, pc, rfl, _, _, hb, hP'⟩
                        have zX := (z1.fresh hV).fresh hb
                        have hOX := (hb.block O (Nat.lt_of_lt_of_le (heap_lt hO1) hV.size)).trans ((hV.block O (heap_lt hO1)).trans hO1)
                        refine ⟨a', _, c', _, _, _, _, pa, pn, pc, rfl, HST.out X _ zX hOX, hb, hide (fun V5 G H r s hW hr => ?_)⟩
                        obtain ⟨z5, zf⟩ := z1.lay hV hb hi hP' hW.sz (fun g hg h => hW.blk g hg (by rw [← hk]; exact h)) (hW.bel w _ zX.bel z1.bel.size)
                        exact ⟨hr ▸ hW.g, z5, fun x y hx hy => ⟨_, _, zf x y hx hy⟩⟩)
                      have hXn : X1.heap.size ≠ D ∧ X1.heap.size ≠ L ∧ X1.heap.size ≠ O ∧ X1.heap.size + 1 ≠ D ∧ X1.heap.size + 1 ≠ L ∧ X1.heap.size + 1 ≠ O := by
                        have h1 := z1.lt
                        have h2 := heap_lt hO1
                        omega
                      have KL : Hid (∀ X Y : World, (X.cell? ⟨D, i, none⟩ = some (.pointer (some ⟨Ri, 0, none⟩)) ∧ X.cell? ⟨L, i * 2, none⟩ = some (.slice ai Ni ci) ∧ X.cell? ⟨L, i * 2 + 1, none⟩ = some (.int .i64 li) ∧ X.cell? ⟨O, 2, none⟩ = some (.int .i64 fr) ∧ X.cell? ⟨O, 3, none⟩ = some (.int .i64 tt) ∧ X.cell? ⟨O, 4, none⟩ = some (.slice ba bl bc) ∧ X.cell? ⟨O, 5, none⟩ = some (.int .i64 no)) → (∀ g, g < X.heap.size → g ≠ X1.heap.size → g ≠ X1.heap.size + 1 → Y.heap[g]? = X.heap[g]?) → (Y.cell? ⟨D, i, none⟩ = some (.pointer (some ⟨Ri, 0, none⟩)) ∧ Y.cell? ⟨L, i * 2, none⟩ = some (.slice ai Ni ci) ∧ Y.cell? ⟨L, i * 2 + 1, none⟩ = some (.int .i64 li) ∧ Y.cell? ⟨O, 2, none⟩ = some (.int .i64 fr) ∧ Y.cell? ⟨O, 3, none⟩ = some (.int .i64 tt) ∧ Y.cell? ⟨O, 4, none⟩ = some (.slice ba bl bc) ∧ Y.cell? ⟨O, 5, none⟩ = some (.int .i64 no))) := hide (fun X Y hX hY => by
                        obtain ⟨x1, x2, x3, x4, x5, x6, x7⟩ := hX
                        have key : ∀ {ad : Addr} {v : Value}, X.cell? ad = some v → ad.block ≠ X1.heap.size → ad.block ≠ X1.heap.size + 1 → Y.cell? ad = some v := fun hc h1 h2 => by rw [World.cell?_of_block (hY _ (cell_lt hc) h1 h2)]; exact hc
                        exact ⟨key x1 hXn.1.symm hXn.2.2.2.1.symm, key x2 hXn.2.1.symm hXn.2.2.2.2.1.symm, key x3 hXn.2.1.symm hXn.2.2.2.2.1.symm, key x4 hXn.2.2.1.symm hXn.2.2.2.2.2.symm, key x5 hXn.2.2.1.symm hXn.2.2.2.2.2.symm, key x6 hXn.2.2.1.symm hXn.2.2.2.2.2.symm, key x7 hXn.2.2.1.symm hXn.2.2.2.2.2.symm⟩)
                      have HR1 := hide (And.intro r1 (And.intro r2 (And.intro r3 (And.intro r4 (And.intro r5 (And.intro r6 r7))))))
                      go_upto_region 29 with fail
                      go_cut [24, 25, 26] (fun s24 _ s26 V => s26 = .int .i64 d1 ∧ ∃ (G3 : Nat) (a' : Option Addr) (N' c' : Nat) (l' : Int), s24 = .pointer (some ⟨G3, 0, none⟩) ∧ Hid (Lay w V D L R M (up np i ((np i).drpN no)) np va vc i G3 a' N' c' l'))
                      case first =>
                        as_aux_lemma =>
                          go_region_held3 (fun V => V.cell? ⟨D, i, none⟩ = some (.pointer (some ⟨Ri, 0, none⟩)) ∧ V.cell? ⟨L, i * 2, none⟩ = some (.slice ai Ni ci) ∧ V.cell? ⟨L, i * 2 + 1, none⟩ = some (.int .i64 li) ∧ V.cell? ⟨O, 2, none⟩ = some (.int .i64 fr) ∧ V.cell? ⟨O, 3, none⟩ = some (.int .i64 tt) ∧ V.cell? ⟨O, 4, none⟩ = some (.slice ba bl bc) ∧ V.cell? ⟨O, 5, none⟩ = some (.int .i64 no))
                            (first | (with_reducible exact ⟨r1, r2, r3, r4, r5, r6, r7⟩) | (with_reducible exact HSY.out) | (refine KL.out _ _ HSY.out ?_; intro g hg h1 h2; repeat (first | (with_reducible exact rfl) | refine (Below.heap_setCell _ _ _ g (by first | (with_reducible exact h1) | (with_reducible exact h2) | (with_reducible exact Nat.ne_of_lt hg) | (have h3 := hls; simp; omega))).trans ?_ | refine (Below.heap_alloc _ _ g (by first | exact hg | (simp; omega))).trans ?_)) | (refine KL.out _ _ HR1.out ?_; intro g hg h1 h2; repeat (first | exact rfl | refine (Below.heap_alloc _ _ g (by first | exact hg | (simp; omega))).trans ?_)))
                            (first
                              | (go_at_call 20; refine (CR.out _ 0 ?_ ?_).mono ?_; (with_reducible exact (Below.refl _ _).drew); exact rfl; rintro e X2 ⟨a', N', c', l', p0, p1, p2, pa, pn, pc, rfl, sy, hb2, HF⟩; have HSY := hide sy; have hs0 : X1.heap.size ≤ X2.heap.size := hb2.size)
                              | (go_at_call 20; refine (CR.out _ 1 ?_ ?_).mono ?_; (with_reducible exact ((Below.refl _ _).alloc (Nat.le_refl _) _).drew); simp; rintro e X2 ⟨a', N', c', l', p0, p1, p2, pa, pn, pc, rfl, sy, hb2, HF⟩; have HSY := hide sy; have hls : X1.heap.size < X2.heap.size := Nat.lt_of_lt_of_le (by simp) hb2.size; have hn1 : X1.heap.size ≠ X2.heap.size := Nat.ne_of_lt hls; have hn2 : X2.heap.size ≠ X1.heap.size := hn1.symm; have hn3 : ¬ X1.heap.size = X2.heap.size := hn1; have hn4 : ¬ X2.heap.size = X1.heap.size := hn2; have wr0 := (hb2.block X1.heap.size (by simp)).trans (heap_alloc_new X1 _); have wc0 := cell_of_row X2 X1.heap.size 0 _ _ _ wr0; have wc1 := cell_of_row X2 X1.heap.size 1 _ _ _ wr0; have wc2 := cell_of_row X2 X1.heap.size 2 _ _ _ wr0; have wc3 := cell_of_row X2 X1.heap.size 3 _ _ _ wr0; have wf0 := frozen_of_row X2 X1.heap.size 0 _ _ wr0; have wf1 := frozen_of_row X2 X1.heap.size 1 _ _ wr0; have wf2 := frozen_of_row X2 X1.heap.size 2 _ _ wr0; have wf3 := frozen_of_row X2 X1.heap.size 3 _ _ wr0; have wq0 := fun o => cell_of_row (X2.alloc o) X1.heap.size 0 _ _ _ (row_alloc wr0 o); have wz0 := fun o => frozen_of_row (X2.alloc o) X1.heap.size 0 _ _ (row_alloc wr0 o); have wq1 := fun o => cell_of_row (X2.alloc o) X1.heap.size 1 _ _ _ (row_alloc wr0 o); have wz1 := fun o => frozen_of_row (X2.alloc o) X1.heap.size 1 _ _ (row_alloc wr0 o); have wq2 := fun o => cell_of_row (X2.alloc o) X1.heap.size 2 _ _ _ (row_alloc wr0 o); have wz2 := fun o => frozen_of_row (X2.alloc o) X1.heap.size 2 _ _ (row_alloc wr0 o); have wq3 := fun o => cell_of_row (X2.alloc o) X1.heap.size 3 _ _ _ (row_alloc wr0 o); have wz3 := fun o => frozen_of_row (X2.alloc o) X1.heap.size 3 _ _ (row_alloc wr0 o); (try simp only [List.getElem?_toArray, List.getElem?_cons_succ, List.getElem?_cons_zero, List.getElem?_nil] at wc0 wc1 wc2 wc3 wq0 wq1 wq2 wq3))
                              | (go_at_call 20; refine (CR.out _ 2 ?_ ?_).mono ?_; (with_reducible exact (((Below.refl _ _).alloc (Nat.le_refl _) _).alloc (by simp) _).drew); simp; rintro e X2 ⟨a', N', c', l', p0, p1, p2, pa, pn, pc, rfl, sy, hb2, HF⟩; have HSY := hide sy; have wr0 := (hb2.block X1.heap.size (by simp; omega)).trans ((Below.heap_alloc (X1.alloc _) _ X1.heap.size (by simp)).trans (heap_alloc_new X1 _)); have wr1 := (hb2.block (X1.heap.size + 1) (by simp)).trans (alloc_two X1 _ _); have wc0 := cell_of_row X2 X1.heap.size 0 _ _ _ wr0; have wc1 := cell_of_row X2 X1.heap.size 1 _ _ _ wr0; have wc2 := cell_of_row X2 X1.heap.size 2 _ _ _ wr0; have wc3 := cell_of_row X2 X1.heap.size 3 _ _ _ wr0; have wd0 := cell_of_row X2 (X1.heap.size + 1) 0 _ _ _ wr1; have wd1 := cell_of_row X2 (X1.heap.size + 1) 1 _ _ _ wr1; have wd2 := cell_of_row X2 (X1.heap.size + 1) 2 _ _ _ wr1; have wd3 := cell_of_row X2 (X1.heap.size + 1) 3 _ _ _ wr1; have wf0 := frozen_of_row X2 X1.heap.size 0 _ _ wr0; have wf1 := frozen_of_row X2 X1.heap.size 1 _ _ wr0; have wf2 := frozen_of_row X2 X1.heap.size 2 _ _ wr0; have wf3 := frozen_of_row X2 X1.heap.size 3 _ _ wr0; have wg0 := frozen_of_row X2 (X1.heap.size + 1) 0 _ _ wr1; have wg1 := frozen_of_row X2 (X1.heap.size + 1) 1 _ _ wr1; have wg2 := frozen_of_row X2 (X1.heap.size + 1) 2 _ _ wr1; have wg3 := frozen_of_row X2 (X1.heap.size + 1) 3 _ _ wr1; (try simp only [List.getElem?_toArray, List.getElem?_cons_succ, List.getElem?_cons_zero, List.getElem?_nil] at wc0 wc1 wc2 wc3 wd0 wd1 wd2 wd3)))
                          all_goals
                            clear r1 r2 r3 r4 r5 r6 r7 CR HST KL HR1 hXn
                            try clear wq0 wq1 wq2 wq3 wz0 wz1 wz2 wz3
                            try clear wc0 wc1 wc2 wc3 wf0 wf1 wf2 wf3
                            try clear wd0 wd1 wd2 wd3 wg0 wg1 wg2 wg3
                            clear HSY
                            go_wp2_with fail
                            go_meet
                            first
                              | (have hw := way1 (X1 := X1) (X2 := X2) (x := .slice a' N' c') (y := .int .i64 l') (p := .int .i64 p0) (q := .int .i64 p1) (t := .int .i64 p2) (u := .slice pa pn pc) hs0; exact ⟨rfl, _, a', N', c', l', rfl, hide (HF.out _ _ _ _ _ hw rfl)⟩)
                              | (have hw := way2 (X1 := X1) (X2 := X2) (x := .slice a' N' c') (y := .int .i64 l') (p := .int .i64 p0) (q := .int .i64 p1) (t := .int .i64 p2) (u := .slice pa pn pc) hs0; exact ⟨rfl, _, a', N', c', l', rfl, hide (HF.out _ _ _ _ _ hw rfl)⟩)
                              | (have hw := way4 (X1 := X1) (X2 := X2) (x := .slice a' N' c') (y := .int .i64 l') (p := .int .i64 p0) (q := .int .i64 p1) (t := .int .i64 p2) (u := .slice pa pn pc) wr0 wr1; exact ⟨rfl, _, a', N', c', l', rfl, hide (HF.out _ _ _ _ _ hw rfl)⟩)
                              | (have hw := way6 (X1 := X1) (X2 := X2) (x := .slice a' N' c') (y := .int .i64 l') (p := .int .i64 p0) (q := .int .i64 p1) (t := .int .i64 p2) (u := .slice pa pn pc) wr1 wr0; exact ⟨rfl, _, a', N', c', l', rfl, hide (HF.out _ _ _ _ _ hw rfl)⟩)
                              | (have hw := way3 (X1 := X1) (X2 := X2) (x := .slice a' N' c') (y := .int .i64 l') (p := .int .i64 p0) (q := .int .i64 p1) (t := .int .i64 p2) (u := .slice pa pn pc) wr0; exact ⟨rfl, _, a', N', c', l', rfl, hide (HF.out _ _ _ _ _ hw rfl)⟩)
                              | (have hw := way5 (X1 := X1) (X2 := X2) (x := .slice a' N' c') (y := .int .i64 l') (p := .int .i64 p0) (q := .int .i64 p1) (t := .int .i64 p2) (u := .slice pa pn pc) wr0; exact ⟨rfl, _, a', N', c', l', rfl, hide (HF.out _ _ _ _ _ hw rfl)⟩)
                      case rest =>
                        as_aux_lemma =>
                          obtain ⟨rfl, G3, a', N', c', l', rfl, HR⟩ := hcut
                          obtain ⟨Y3, hY3⟩ : ∃ Y3, Y3 = wc := ⟨_, rfl⟩
                          subst hY3
                          obtain ⟨hg3, z3, zf⟩ := HR.out
                          obtain ⟨_, b2, b3, q2, q3, _⟩ := z3.cells hi
                          have k0 := cell_of_row Y3 G3 0 _ _ _ hg3
                          have k1 := cell_of_row Y3 G3 1 _ _ _ hg3
                          simp only [List.getElem?_toArray, List.getElem?_cons_succ, List.getElem?_cons_zero] at k0 k1
                          obtain ⟨va5, vc5, z5⟩ := zf _ _ rfl rfl
                          have HZ5 := hide z5
                          have HL5 : Hid (∀ j, j < 2 → (up np i ((np i).drpN no) j).last ≤ 250 + ((q + 1 : Nat) : Int)) := hide (fun j hj => by
                            have h1 := hlast.out j hj
                            by_cases e : j = i
                            · subst e
                              rw [up_same, Nt.drp_last]
                              omega
                            · rw [up_other e]
                              omega)
                          clear z3 zf z5 hg3 HR
                          go_wp2_with fail
                          go_meet
                          exact ⟨rfl, R, M, _, va5, vc5, HL5, HZ5⟩
                  by_cases hd4 : kd = 4
                  · subst hd4
                    as_aux_lemma =>
                      obtain ⟨Ri, hRi⟩ : ∃ Ri, Hid (Ri = R i) := ⟨_, hide rfl⟩
                      obtain ⟨ai, hai⟩ : ∃ ai, Hid (ai = va i) := ⟨_, hide rfl⟩
                      obtain ⟨ci, hci⟩ : ∃ ci, Hid (ci = vc i) := ⟨_, hide rfl⟩
                      obtain ⟨Ni, hNi⟩ : ∃ Ni, Hid (Ni = (np i).m.length) := ⟨_, hide rfl⟩
                      obtain ⟨li, hli⟩ : ∃ li, Hid (li = (np i).last) := ⟨_, hide rfl⟩
                      have HST : Hid (∀ V n', Pz w V D L R M n' np va vc → V.heap[O]? = some (.cells #[.int .i64 4, .int .i64 onn, .int .i64 fr, .int .i64 tt, .slice ba bl bc, .int .i64 no] (45 : TypeId) (0, 0)) → V.cell? ⟨D, i, none⟩ = some (.pointer (some ⟨Ri, 0, none⟩)) ∧ V.cell? ⟨L, i * 2, none⟩ = some (.slice ai Ni ci) ∧ V.cell? ⟨L, i * 2 + 1, none⟩ = some (.int .i64 li) ∧ V.cell? ⟨O, 2, none⟩ = some (.int .i64 fr) ∧ V.cell? ⟨O, 3, none⟩ = some (.int .i64 tt) ∧ V.cell? ⟨O, 4, none⟩ = some (.slice ba bl bc) ∧ V.cell? ⟨O, 5, none⟩ = some (.int .i64 no)) := hide (fun V n' hV hO => by
                        obtain ⟨s1, s2, s3, _⟩ := hV.cells hi
                        rw [hRi.out, hai.out, hci.out, hNi.out, hli.out]
                        exact ⟨s1, s2, s3, cell_of_row V O 2 _ _ _ hO, cell_of_row V O 3 _ _ _ hO, cell_of_row V O 4 _ _ _ hO, cell_of_row V O 5 _ _ _ hO⟩)
                      obtain ⟨s1, s2, s3, s4, s5, s6, s7⟩ := HST.out X0 np z0 hOB
                      clear c1 c2 c3 c4 c5

                      have hIno := HI.out.2.2.2
                      have CD : Hid (∀ V, Below X0.heap.size X0 V → Calls Try.prog 11 #[.pointer (some ⟨Ri, 0, none⟩), .int .i64 no] V fun e X => e = .returned (.tuple #[.int .i64 ((np i).dblA no).1, .int .i64 ((np i).dblA no).2]) ∧ (X.cell? ⟨D, i, none⟩ = some (.pointer (some ⟨Ri, 0, none⟩)) ∧ X.cell? ⟨L, i * 2, none⟩ = some (.slice ai Ni ci) ∧ X.cell? ⟨L, i * 2 + 1, none⟩ = some (.int .i64 li) ∧ X.cell? ⟨O, 2, none⟩ = some (.int .i64 fr) ∧ X.cell? ⟨O, 3, none⟩ = some (.int .i64 tt) ∧ X.cell? ⟨O, 4, none⟩ = some (.slice ba bl bc) ∧ X.cell? ⟨O, 5, none⟩ = some (.int .i64 no)) ∧ Pz w X D L R M (up np i ((np i).dblN no)) np va vc ∧ X.heap[O]? = some (.cells #[.int .i64 4, .int .i64 onn, .int .i64 fr, .int .i64 tt, .slice ba bl bc, .int .i64 no] (45 : TypeId) (0, 0))) := hide (fun V hV => by
                        rw [hRi.out]
                        refine ((z0.fresh hV).double hi hIno (by omega)).mono ?_
                        rintro e X ⟨rfl, zX, tX⟩
                        have hO := (tX.block O (Nat.lt_of_lt_of_le (heap_lt hOB) hV.size) (fun h => by have := hOn.2.2 i hi; omega)).trans ((hV.block O (heap_lt hOB)).trans hOB)
                        have := HST.out X _ zX hO
                        rw [hRi.out] at this
                        exact ⟨rfl, this, zX, hO⟩)
                      obtain ⟨d1, hd1⟩ : ∃ d1, Hid (d1 = ((np i).dblA no).1) := ⟨_, hide rfl⟩
                      obtain ⟨d2, hd2⟩ : ∃ d2, Hid (d2 = ((np i).dblA no).2) := ⟨_, hide rfl⟩
                      rw [← hd1.out, ← hd2.out] at CD
                      go_wp2_with fail
                      go_region_held3 (fun V => V.cell? ⟨D, i, none⟩ = some (.pointer (some ⟨Ri, 0, none⟩)) ∧ V.cell? ⟨L, i * 2, none⟩ = some (.slice ai Ni ci) ∧ V.cell? ⟨L, i * 2 + 1, none⟩ = some (.int .i64 li) ∧ V.cell? ⟨O, 2, none⟩ = some (.int .i64 fr) ∧ V.cell? ⟨O, 3, none⟩ = some (.int .i64 tt) ∧ V.cell? ⟨O, 4, none⟩ = some (.slice ba bl bc) ∧ V.cell? ⟨O, 5, none⟩ = some (.int .i64 no))
                        (first | exact ⟨s1, s2, s3, s4, s5, s6, s7⟩ | exact sx)
                        (first | (go_at_call 11; refine (CD.out _ ?_).mono ?_; exact (Below.refl _ _).drew; rintro e X1 ⟨rfl, sx, z1, hO1⟩))
                      obtain ⟨r1, r2, r3, r4, r5, r6, r7⟩ := sx
                      have CR : Hid (∀ V, Below X1.heap.size X1 V → Calls Try.prog 22 #[.agg #[.slice ai Ni ci, .int .i64 li], .int .i64 no] V fun e X => ∃ (a' : Option Addr) (N' c' : Nat) (l' : Int), e = .returned (.tuple #[.agg #[.slice a' N' c', .int .i64 l'], .int .i64 d1, .int .i64 d2]) ∧ (X.cell? ⟨D, i, none⟩ = some (.pointer (some ⟨Ri, 0, none⟩)) ∧ X.cell? ⟨L, i * 2, none⟩ = some (.slice ai Ni ci) ∧ X.cell? ⟨L, i * 2 + 1, none⟩ = some (.int .i64 li) ∧ X.cell? ⟨O, 2, none⟩ = some (.int .i64 fr) ∧ X.cell? ⟨O, 3, none⟩ = some (.int .i64 tt) ∧ X.cell? ⟨O, 4, none⟩ = some (.slice ba bl bc) ∧ X.cell? ⟨O, 5, none⟩ = some (.int .i64 no)) ∧ Below V.heap.size V X ∧
                          Hid (∀ V5, X.heap.size ≤ V5.heap.size → (∀ g, g < X.heap.size → (g < X1.heap.size ∨ V.heap.size ≤ g) → V5.heap[g]? = X.heap[g]?) → Below w.heap.size w V5 → Pz w V5 D L R M (up np i ((np i).dblN no)) np va vc ∧ ∀ x y, x = .slice a' N' c' → y = .int .i64 l' → ∃ va5 vc5, Pz w ((V5.setCell ⟨L, i * 2, none⟩ x).setCell ⟨L, i * 2 + 1, none⟩ y) D L R M (up np i ((np i).dblN no)) (up np i ((np i).dblN no)) va5 vc5) ∧ Hid (Below w.heap.size w X)) := hide (fun V hV => by
                        have hC := z1.rdouble2 hV (i := i) (k := no) hi (by omega) (by omega) (fun q hq => ((z0.nw i hi).ok.pk q hq).len)
                        rw [← hai.out, ← hci.out, ← hNi.out, ← hli.out, ← hd1.out, ← hd2.out] at hC
                        refine hC.mono ?_
                        rintro e X ⟨a', c', ts', rfl, hb, hP'⟩
                        have zX := (z1.fresh hV).fresh hb
                        have hOX := (hb.block O (Nat.lt_of_lt_of_le (heap_lt hO1) hV.size)).trans ((hV.block O (heap_lt hO1)).trans hO1)
                        refine ⟨a', _, c', _, rfl, HST.out X _ zX hOX, hb, hide (fun V5 h5 h6 h7 => ?_), hide zX.bel⟩
                        obtain ⟨z5, zf⟩ := z1.lay hV hb hi hP' h5 h6 h7
                        exact ⟨z5, fun x y hx hy => ⟨_, _, zf x y hx hy⟩⟩)
                      have hXn : X1.heap.size ≠ D ∧ X1.heap.size ≠ L ∧ X1.heap.size ≠ O := by
                        have h1 := z1.lt
                        have h2 := heap_lt hO1
                        omega
                      have KL : Hid (∀ X Y : World, (X.cell? ⟨D, i, none⟩ = some (.pointer (some ⟨Ri, 0, none⟩)) ∧ X.cell? ⟨L, i * 2, none⟩ = some (.slice ai Ni ci) ∧ X.cell? ⟨L, i * 2 + 1, none⟩ = some (.int .i64 li) ∧ X.cell? ⟨O, 2, none⟩ = some (.int .i64 fr) ∧ X.cell? ⟨O, 3, none⟩ = some (.int .i64 tt) ∧ X.cell? ⟨O, 4, none⟩ = some (.slice ba bl bc) ∧ X.cell? ⟨O, 5, none⟩ = some (.int .i64 no)) → (∀ g, g < X.heap.size → g ≠ X1.heap.size → Y.heap[g]? = X.heap[g]?) → (Y.cell? ⟨D, i, none⟩ = some (.pointer (some ⟨Ri, 0, none⟩)) ∧ Y.cell? ⟨L, i * 2, none⟩ = some (.slice ai Ni ci) ∧ Y.cell? ⟨L, i * 2 + 1, none⟩ = some (.int .i64 li) ∧ Y.cell? ⟨O, 2, none⟩ = some (.int .i64 fr) ∧ Y.cell? ⟨O, 3, none⟩ = some (.int .i64 tt) ∧ Y.cell? ⟨O, 4, none⟩ = some (.slice ba bl bc) ∧ Y.cell? ⟨O, 5, none⟩ = some (.int .i64 no))) := hide (fun X Y hX hY => by
                        obtain ⟨x1, x2, x3, x4, x5, x6, x7⟩ := hX
                        have key : ∀ {ad : Addr} {v : Value}, X.cell? ad = some v → ad.block ≠ X1.heap.size → Y.cell? ad = some v := fun hc hne => by rw [World.cell?_of_block (hY _ (cell_lt hc) hne)]; exact hc
                        exact ⟨key x1 hXn.1.symm, key x2 hXn.2.1.symm, key x3 hXn.2.1.symm, key x4 hXn.2.2.symm, key x5 hXn.2.2.symm, key x6 hXn.2.2.symm, key x7 hXn.2.2.symm⟩)
                      have KA : Hid (∀ o : Obj, ((X1.alloc o).cell? ⟨D, i, none⟩ = some (.pointer (some ⟨Ri, 0, none⟩)) ∧ (X1.alloc o).cell? ⟨L, i * 2, none⟩ = some (.slice ai Ni ci) ∧ (X1.alloc o).cell? ⟨L, i * 2 + 1, none⟩ = some (.int .i64 li) ∧ (X1.alloc o).cell? ⟨O, 2, none⟩ = some (.int .i64 fr) ∧ (X1.alloc o).cell? ⟨O, 3, none⟩ = some (.int .i64 tt) ∧ (X1.alloc o).cell? ⟨O, 4, none⟩ = some (.slice ba bl bc) ∧ (X1.alloc o).cell? ⟨O, 5, none⟩ = some (.int .i64 no))) := hide (fun o => KL.out X1 (X1.alloc o) ⟨r1, r2, r3, r4, r5, r6, r7⟩ (fun g hg _ => Below.heap_alloc X1 o g hg))
                      go_wp2_with fail
                      go_region_held3 (fun V => V.cell? ⟨D, i, none⟩ = some (.pointer (some ⟨Ri, 0, none⟩)) ∧ V.cell? ⟨L, i * 2, none⟩ = some (.slice ai Ni ci) ∧ V.cell? ⟨L, i * 2 + 1, none⟩ = some (.int .i64 li) ∧ V.cell? ⟨O, 2, none⟩ = some (.int .i64 fr) ∧ V.cell? ⟨O, 3, none⟩ = some (.int .i64 tt) ∧ V.cell? ⟨O, 4, none⟩ = some (.slice ba bl bc) ∧ V.cell? ⟨O, 5, none⟩ = some (.int .i64 no))
                        (first | exact ⟨r1, r2, r3, r4, r5, r6, r7⟩ | exact KA.out _ | exact sy | exact KB.out _ | exact KC.out _ _)
                        (first
                          | (go_at_call 22; refine (CR.out _ ?_).mono ?_; exact (Below.refl _ _).drew; rintro e X2 ⟨a', N', c', l', rfl, sy, hb2, HF, HB2⟩; have KB : Hid (∀ o : Obj, ((X2.alloc o).cell? ⟨D, i, none⟩ = some (.pointer (some ⟨Ri, 0, none⟩)) ∧ (X2.alloc o).cell? ⟨L, i * 2, none⟩ = some (.slice ai Ni ci) ∧ (X2.alloc o).cell? ⟨L, i * 2 + 1, none⟩ = some (.int .i64 li) ∧ (X2.alloc o).cell? ⟨O, 2, none⟩ = some (.int .i64 fr) ∧ (X2.alloc o).cell? ⟨O, 3, none⟩ = some (.int .i64 tt) ∧ (X2.alloc o).cell? ⟨O, 4, none⟩ = some (.slice ba bl bc) ∧ (X2.alloc o).cell? ⟨O, 5, none⟩ = some (.int .i64 no))) := hide (fun o => KL.out X2 (X2.alloc o) sy (fun g hg _ => Below.heap_alloc X2 o g hg)))
                          | (go_at_call 22; refine (CR.out _ ?_).mono ?_; exact ((Below.refl _ _).alloc (Nat.le_refl _) _).drew; rintro e X2 ⟨a', N', c', l', rfl, sy, hb2, HF, HB2⟩; have wr0 := (hb2.block X1.heap.size (by simp)).trans (heap_alloc_new X1 _); have wc0 := cell_of_row X2 X1.heap.size 0 _ _ _ wr0; have wc1 := cell_of_row X2 X1.heap.size 1 _ _ _ wr0; have wf0 := frozen_of_row X2 X1.heap.size 0 _ _ wr0; have wf1 := frozen_of_row X2 X1.heap.size 1 _ _ wr0; have KC : Hid (∀ x y : Value, (((X2.setCell ⟨X1.heap.size, 0, none⟩ x).setCell ⟨X1.heap.size, 1, none⟩ y).cell? ⟨D, i, none⟩ = some (.pointer (some ⟨Ri, 0, none⟩)) ∧ ((X2.setCell ⟨X1.heap.size, 0, none⟩ x).setCell ⟨X1.heap.size, 1, none⟩ y).cell? ⟨L, i * 2, none⟩ = some (.slice ai Ni ci) ∧ ((X2.setCell ⟨X1.heap.size, 0, none⟩ x).setCell ⟨X1.heap.size, 1, none⟩ y).cell? ⟨L, i * 2 + 1, none⟩ = some (.int .i64 li) ∧ ((X2.setCell ⟨X1.heap.size, 0, none⟩ x).setCell ⟨X1.heap.size, 1, none⟩ y).cell? ⟨O, 2, none⟩ = some (.int .i64 fr) ∧ ((X2.setCell ⟨X1.heap.size, 0, none⟩ x).setCell ⟨X1.heap.size, 1, none⟩ y).cell? ⟨O, 3, none⟩ = some (.int .i64 tt) ∧ ((X2.setCell ⟨X1.heap.size, 0, none⟩ x).setCell ⟨X1.heap.size, 1, none⟩ y).cell? ⟨O, 4, none⟩ = some (.slice ba bl bc) ∧ ((X2.setCell ⟨X1.heap.size, 0, none⟩ x).setCell ⟨X1.heap.size, 1, none⟩ y).cell? ⟨O, 5, none⟩ = some (.int .i64 no))) := hide (fun x y => KL.out X2 ((X2.setCell ⟨X1.heap.size, 0, none⟩ x).setCell ⟨X1.heap.size, 1, none⟩ y) sy (fun g _ hne => (Below.heap_setCell _ _ _ g hne).trans (Below.heap_setCell _ _ _ g hne)))))
                      · obtain ⟨Y3, hY3⟩ : ∃ Y3, Hid (Y3 = X2.alloc (.cells #[.slice a' N' c', .int .i64 l'] (40 : TypeId))) := ⟨_, hide rfl⟩
                        have bY3 : Below X2.heap.size X2 Y3 := by rw [hY3.out]; exact (Below.refl _ X2).alloc (Nat.le_refl _) _
                        obtain ⟨z3, zf⟩ := HF.out Y3 bY3.size (fun g hg _ => bY3.block g hg) (HB2.out.trans (bY3.mono HB2.out.size))
                        have hg3 : Y3.heap[X2.heap.size]? = some (.cells #[.slice a' N' c', .int .i64 l'] (40 : TypeId) (0, 0)) := by rw [hY3.out]; exact heap_alloc_new X2 _
                        obtain ⟨G3, hG3⟩ : ∃ G3, Hid (G3 = X2.heap.size) := ⟨_, hide rfl⟩
                        rw [← hY3.out, ← hG3.out]
                        rw [← hG3.out] at hg3
                        obtain ⟨_, b2, b3, q2, q3, _⟩ := z3.cells hi
                        have k0 := cell_of_row Y3 G3 0 _ _ _ hg3
                        have k1 := cell_of_row Y3 G3 1 _ _ _ hg3
                        simp only [List.getElem?_toArray, List.getElem?_cons_succ, List.getElem?_cons_zero] at k0 k1
                        obtain ⟨va5, vc5, z5⟩ := zf _ _ rfl rfl
                        have HZ5 := hide z5
                        have HL5 : Hid (∀ j, j < 2 → (up np i ((np i).dblN no) j).last ≤ 250 + ((q + 1 : Nat) : Int)) := hide (fun j hj => by
                          have h1 := hlast.out j hj
                          have h2 := Nt.dbl_last (np i) no
                          by_cases e : j = i
                          · subst e
                            rw [up_same]
                            omega
                          · rw [up_other e]
                            omega)
                        clear z3 zf z5 HF hY3 hg3
                        go_wp2_with fail
                        go_meet
                        exact ⟨rfl, R, M, _, va5, vc5, HL5, HZ5⟩
                      · obtain ⟨Y3, hY3⟩ : ∃ Y3, Hid (Y3 = (X2.setCell ⟨X1.heap.size, 0, none⟩ (.slice a' N' c')).setCell ⟨X1.heap.size, 1, none⟩ (.int .i64 l')) := ⟨_, hide rfl⟩
                        have hs3 : Y3.heap.size = X2.heap.size := by rw [hY3.out]; exact (size_set _ _ _).trans (size_set _ _ _)
                        have ho3 : ∀ g, g ≠ X1.heap.size → Y3.heap[g]? = X2.heap[g]? := fun g hne => by rw [hY3.out]; exact (Below.heap_setCell _ _ _ g hne).trans (Below.heap_setCell _ _ _ g hne)
                        have hw1 := z1.bel.size
                        obtain ⟨z3, zf⟩ := HF.out Y3 (by omega) (fun g _ h => ho3 g (h.elim (fun h => by omega) (fun h => by have h' : X1.heap.size + 1 ≤ g := (by simpa using h); omega))) (by rw [hY3.out]; exact (HB2.out.setCell (p := ⟨X1.heap.size, 0, none⟩) hw1 _).setCell (p := ⟨X1.heap.size, 1, none⟩) hw1 _)
                        have hg3 : Y3.heap[X1.heap.size]? = some (.cells #[.slice a' N' c', .int .i64 l'] (40 : TypeId) (0, 0)) := by rw [hY3.out]; exact pair_set wr0 _ _
                        obtain ⟨G3, hG3⟩ : ∃ G3, Hid (G3 = X1.heap.size) := ⟨_, hide rfl⟩
                        rw [← hY3.out, ← hG3.out]
                        rw [← hG3.out] at hg3
                        obtain ⟨_, b2, b3, q2, q3, _⟩ := z3.cells hi
                        have k0 := cell_of_row Y3 G3 0 _ _ _ hg3
                        have k1 := cell_of_row Y3 G3 1 _ _ _ hg3
                        simp only [List.getElem?_toArray, List.getElem?_cons_succ, List.getElem?_cons_zero] at k0 k1
                        obtain ⟨va5, vc5, z5⟩ := zf _ _ rfl rfl
                        have HZ5 := hide z5
                        have HL5 : Hid (∀ j, j < 2 → (up np i ((np i).dblN no) j).last ≤ 250 + ((q + 1 : Nat) : Int)) := hide (fun j hj => by
                          have h1 := hlast.out j hj
                          have h2 := Nt.dbl_last (np i) no
                          by_cases e : j = i
                          · subst e
                            rw [up_same]
                            omega
                          · rw [up_other e]
                            omega)
                        clear z3 zf z5 HF hY3 hg3
                        go_wp2_with fail
                        go_meet
                        exact ⟨rfl, R, M, _, va5, vc5, HL5, HZ5⟩
                  by_cases hd5 : kd = 5
                  · subst hd5
                    as_aux_lemma =>
                      obtain ⟨Ri, hRi⟩ : ∃ Ri, Hid (Ri = R i) := ⟨_, hide rfl⟩
                      obtain ⟨ai, hai⟩ : ∃ ai, Hid (ai = va i) := ⟨_, hide rfl⟩
                      obtain ⟨ci, hci⟩ : ∃ ci, Hid (ci = vc i) := ⟨_, hide rfl⟩
                      obtain ⟨Ni, hNi⟩ : ∃ Ni, Hid (Ni = (np i).m.length) := ⟨_, hide rfl⟩
                      obtain ⟨li, hli⟩ : ∃ li, Hid (li = (np i).last) := ⟨_, hide rfl⟩
                      have HST : Hid (∀ V n', Pz w V D L R M n' np va vc → V.heap[O]? = some (.cells #[.int .i64 5, .int .i64 onn, .int .i64 fr, .int .i64 tt, .slice ba bl bc, .int .i64 no] (45 : TypeId) (0, 0)) → V.cell? ⟨D, i, none⟩ = some (.pointer (some ⟨Ri, 0, none⟩)) ∧ V.cell? ⟨L, i * 2, none⟩ = some (.slice ai Ni ci) ∧ V.cell? ⟨L, i * 2 + 1, none⟩ = some (.int .i64 li) ∧ V.cell? ⟨O, 2, none⟩ = some (.int .i64 fr) ∧ V.cell? ⟨O, 3, none⟩ = some (.int .i64 tt) ∧ V.cell? ⟨O, 4, none⟩ = some (.slice ba bl bc) ∧ V.cell? ⟨O, 5, none⟩ = some (.int .i64 no)) := hide (fun V n' hV hO => by
                        obtain ⟨s1, s2, s3, _⟩ := hV.cells hi
                        rw [hRi.out, hai.out, hci.out, hNi.out, hli.out]
                        exact ⟨s1, s2, s3, cell_of_row V O 2 _ _ _ hO, cell_of_row V O 3 _ _ _ hO, cell_of_row V O 4 _ _ _ hO, cell_of_row V O 5 _ _ _ hO⟩)
                      obtain ⟨s1, s2, s3, s4, s5, s6, s7⟩ := HST.out X0 np z0 hOB
                      clear c1 c2 c3 c4 c5

                      obtain ⟨j, hj⟩ : ∃ j : Nat, j = 1 - i := ⟨_, rfl⟩
                      have hj2 : j < 2 := by omega
                      have hji : (1 : Int) - (i : Int) = (j : Int) := by omega
                      have hjw : IntKind.i64.wrap ((1 : Int) - (i : Int)) = (j : Int) := by rw [hji, IntKind.wrap_i64]; omega
                      have hjj : IntKind.i64.wrap (j : Int) = (j : Int) := by rw [IntKind.wrap_i64]; omega
                      have hj0 : (0 : Int) ≤ (j : Int) := by omega
                      have hj3 : (j : Int) < 2 := by omega
                      have hj4 : (j : Int) < ((2 : Nat) : Int) := by omega
                      have hnei : j ≠ i := by omega
                      have HJ := hide hj
                      clear hj
                      have CC : Hid (∀ V, Below X0.heap.size X0 V → Calls Try.prog 23 #[.pointer (some ⟨Ri, 0, none⟩)] V fun e X => ∃ R' M' dv lv mv, e = .returned (.pointer (some ⟨R', 0, none⟩)) ∧ (X.cell? ⟨D, i, none⟩ = some (.pointer (some ⟨Ri, 0, none⟩)) ∧ X.cell? ⟨L, i * 2, none⟩ = some (.slice ai Ni ci) ∧ X.cell? ⟨L, i * 2 + 1, none⟩ = some (.int .i64 li) ∧ X.cell? ⟨O, 2, none⟩ = some (.int .i64 fr) ∧ X.cell? ⟨O, 3, none⟩ = some (.int .i64 tt) ∧ X.cell? ⟨O, 4, none⟩ = some (.slice ba bl bc) ∧ X.cell? ⟨O, 5, none⟩ = some (.int .i64 no)) ∧ X.cell? ⟨D, j, none⟩ = some dv ∧ X.frozen? ⟨D, j, none⟩ = false ∧
                          (∀ x, (X.setCell ⟨D, j, none⟩ x).cell? ⟨L, j * 2, none⟩ = some lv ∧ (X.setCell ⟨D, j, none⟩ x).frozen? ⟨L, j * 2, none⟩ = false ∧ (X.setCell ⟨D, j, none⟩ x).cell? ⟨L, j * 2 + 1, none⟩ = some mv ∧ (X.setCell ⟨D, j, none⟩ x).frozen? ⟨L, j * 2 + 1, none⟩ = false) ∧
                          Hid (∀ x, ((X.setCell ⟨D, j, none⟩ x).cell? ⟨D, i, none⟩ = some (.pointer (some ⟨Ri, 0, none⟩)) ∧ (X.setCell ⟨D, j, none⟩ x).cell? ⟨L, i * 2, none⟩ = some (.slice ai Ni ci) ∧ (X.setCell ⟨D, j, none⟩ x).cell? ⟨L, i * 2 + 1, none⟩ = some (.int .i64 li) ∧ (X.setCell ⟨D, j, none⟩ x).cell? ⟨O, 2, none⟩ = some (.int .i64 fr) ∧ (X.setCell ⟨D, j, none⟩ x).cell? ⟨O, 3, none⟩ = some (.int .i64 tt) ∧ (X.setCell ⟨D, j, none⟩ x).cell? ⟨O, 4, none⟩ = some (.slice ba bl bc) ∧ (X.setCell ⟨D, j, none⟩ x).cell? ⟨O, 5, none⟩ = some (.int .i64 no))) ∧ Hid (∀ x y z, x = .pointer (some ⟨R', 0, none⟩) → y = .slice ai Ni ci → z = .int .i64 li → ((((X.setCell ⟨D, j, none⟩ x).setCell ⟨L, j * 2, none⟩ y).setCell ⟨L, j * 2 + 1, none⟩ z).cell? ⟨D, i, none⟩ = some (.pointer (some ⟨Ri, 0, none⟩)) ∧ (((X.setCell ⟨D, j, none⟩ x).setCell ⟨L, j * 2, none⟩ y).setCell ⟨L, j * 2 + 1, none⟩ z).cell? ⟨L, i * 2, none⟩ = some (.slice ai Ni ci) ∧ (((X.setCell ⟨D, j, none⟩ x).setCell ⟨L, j * 2, none⟩ y).setCell ⟨L, j * 2 + 1, none⟩ z).cell? ⟨L, i * 2 + 1, none⟩ = some (.int .i64 li) ∧ (((X.setCell ⟨D, j, none⟩ x).setCell ⟨L, j * 2, none⟩ y).setCell ⟨L, j * 2 + 1, none⟩ z).cell? ⟨O, 2, none⟩ = some (.int .i64 fr) ∧ (((X.setCell ⟨D, j, none⟩ x).setCell ⟨L, j * 2, none⟩ y).setCell ⟨L, j * 2 + 1, none⟩ z).cell? ⟨O, 3, none⟩ = some (.int .i64 tt) ∧ (((X.setCell ⟨D, j, none⟩ x).setCell ⟨L, j * 2, none⟩ y).setCell ⟨L, j * 2 + 1, none⟩ z).cell? ⟨O, 4, none⟩ = some (.slice ba bl bc) ∧ (((X.setCell ⟨D, j, none⟩ x).setCell ⟨L, j * 2, none⟩ y).setCell ⟨L, j * 2 + 1, none⟩ z).cell? ⟨O, 5, none⟩ = some (.int .i64 no))) ∧ Hid (∀ x y z, x = .pointer (some ⟨R', 0, none⟩) → y = .slice ai Ni ci → z = .int .i64 li → ∃ R5 M5 n5 va5 vc5, (∀ j, j < 2 → (n5 j).last ≤ 250 + ((q + 1 : Nat) : Int)) ∧ Pz w (((X.setCell ⟨D, j, none⟩ x).setCell ⟨L, j * 2, none⟩ y).setCell ⟨L, j * 2 + 1, none⟩ z) D L R5 M5 n5 n5 va5 vc5)) := hide (fun V hV => by
                        rw [hRi.out]
                        have zV := z0.fresh hV
                        refine (copy_net (zV.nw i hi)).mono ?_
                        rintro e X ⟨R', M', rfl, h1, h2, hn, hb⟩
                        have hb0 := hV.trans (hb.mono hV.size)
                        have zX := z0.fresh hb0
                        have hO := (hb0.block O (heap_lt hOB)).trans hOB
                        have sX := HST.out X _ zX hO
                        rw [hRi.out] at sX
                        obtain ⟨t1, t2, t3, f2, f3, f1⟩ := zX.cells hj2
                        have hdl := zX.dl
                        have key : ∀ {ad : Addr} {v x : Value}, X.cell? ad = some v → ad.block ≠ D → (X.setCell ⟨D, j, none⟩ x).cell? ad = some v := fun hc hne => by rw [World.cell?_of_block (Below.heap_setCell _ _ _ _ hne)]; exact hc
                        have hLD : ∀ x, (X.setCell ⟨D, j, none⟩ x).heap[L]? = some (.cells (lcs va (fun i => (np i).m.length) vc (fun i => (np i).last)) (41 : TypeId) (0, 0)) := fun x => (Below.heap_setCell _ _ _ L hdl.symm).trans zX.l
                        have hDD : ∀ x, (X.setCell ⟨D, j, none⟩ x).cell? ⟨D, i, none⟩ = some (.pointer (some ⟨R i, 0, none⟩)) := fun x => by
                          rw [cell_of_row _ D i _ _ _ (heap_setCell_same X D j _ (38 : TypeId) x zX.d)]
                          match i, j, hi, hj2, hnei with
                          | 0, 1, _, _, _ => rfl
                          | 1, 0, _, _, _ => rfl
                        refine ⟨R', M', _, _, _, rfl, sX, t1, f1, fun x => ⟨key t2 hdl.symm, frozen_of_row _ L _ _ _ (hLD x), key t3 hdl.symm, frozen_of_row _ L _ _ _ (hLD x)⟩, hide (fun x => ⟨hDD x, key sX.2.1 hdl.symm, key sX.2.2.1 hdl.symm, key sX.2.2.2.1 hOn.1, key sX.2.2.2.2.1 hOn.1, key sX.2.2.2.2.2.1 hOn.1, key sX.2.2.2.2.2.2 hOn.1⟩), hide (fun x y z hx hy hz => ?_), hide (fun x y z hx hy hz => ⟨_, _, _, _, _, ?_, z0.copy hb0 hi HJ.out (by have := hV.size; omega) (by have := hV.size; omega) hn hx (by rw [hy, hai.out, hNi.out, hci.out]) (by rw [hz, hli.out])⟩)⟩
                        · have z5 := z0.copy (x := x) (y := y) (z := z) hb0 hi HJ.out (by have := hV.size; omega) (by have := hV.size; omega) hn hx (by rw [hy, hai.out, hNi.out, hci.out]) (by rw [hz, hli.out])
                          obtain ⟨e1, e2, e3, _⟩ := z5.cells hi
                          rw [up_other hnei.symm] at e1 e2 e3
                          rw [up_other hnei.symm, up_other hnei.symm] at e2
                          have key2 : ∀ {ad : Addr} {v : Value}, X.cell? ad = some v → ad.block ≠ D → ad.block ≠ L → (((X.setCell ⟨D, j, none⟩ x).setCell ⟨L, j * 2, none⟩ y).setCell ⟨L, j * 2 + 1, none⟩ z).cell? ad = some v := fun hc h1 h2 => by rw [World.cell?_of_block ((Below.heap_setCell _ _ _ _ h2).trans ((Below.heap_setCell _ _ _ _ h2).trans (Below.heap_setCell _ _ _ _ h1)))]; exact hc
                          rw [hai.out, hci.out, hNi.out, hli.out]
                          exact ⟨e1, e2, e3, key2 sX.2.2.2.1 hOn.1 hOn.2.1, key2 sX.2.2.2.2.1 hOn.1 hOn.2.1, key2 sX.2.2.2.2.2.1 hOn.1 hOn.2.1, key2 sX.2.2.2.2.2.2 hOn.1 hOn.2.1⟩
                        · intro k hk
                          by_cases e : k = j
                          · subst e
                            rw [up_same]
                            have := hlast.out i hi
                            omega
                          · rw [up_other e]
                            have := hlast.out k hk
                            omega)
                      go_wp2_with fail
                      go_region_held3 (fun V => V.cell? ⟨D, i, none⟩ = some (.pointer (some ⟨Ri, 0, none⟩)) ∧ V.cell? ⟨L, i * 2, none⟩ = some (.slice ai Ni ci) ∧ V.cell? ⟨L, i * 2 + 1, none⟩ = some (.int .i64 li) ∧ V.cell? ⟨O, 2, none⟩ = some (.int .i64 fr) ∧ V.cell? ⟨O, 3, none⟩ = some (.int .i64 tt) ∧ V.cell? ⟨O, 4, none⟩ = some (.slice ba bl bc) ∧ V.cell? ⟨O, 5, none⟩ = some (.int .i64 no))
                        (first | (with_reducible exact sx) | (with_reducible exact KD.out _) | (with_reducible exact KE.out _ _ _ rfl rfl rfl) | exact ⟨s1, s2, s3, s4, s5, s6, s7⟩)
                        (first | (go_at_call 23; refine (CC.out _ ?_).mono ?_; exact (Below.refl _ _).drew; rintro e X1 ⟨R', M', dv, lv, mv, rfl, sx, y1, y2, y3, KD, KE, HF⟩; have y4 := fun x => (y3 x).1; have y5 := fun x => (y3 x).2.1; have y6 := fun x => (y3 x).2.2.1; have y7 := fun x => (y3 x).2.2.2))
                      obtain ⟨R5, M5, n5, va5, vc5, hl5, z5⟩ := HF.out _ _ _ rfl rfl rfl
                      have HZ5 := hide z5
                      have HL5 := hide hl5
                      clear z5 hl5 HF KD KE
                      go_wp2_with fail
                      go_meet
                      exact ⟨rfl, R5, M5, n5, va5, vc5, HL5, HZ5⟩

                  have HL5 : Hid (∀ j, j < 2 → (np j).last ≤ 250 + ((q + 1 : Nat) : Int)) := hide (fun j hj => by have := hlast.out j hj; omega)
                  go_wp2_with fail
                  go_meet
                  exact ⟨rfl, R, M, np, va, vc, HL5, hide z0⟩
              case rest =>
                as_aux_lemma =>
                  obtain ⟨rfl, R5, M5, n5, va5, vc5, HL5, HZ5⟩ := hcut
                  clear hOB hOn HB0 z0 hll hlo hfew HUN
                  obtain ⟨V5, hV5⟩ : ∃ V5, V5 = wc := ⟨_, rfl⟩
                  subst hV5
                  go_wp2_with fail
                  obtain ⟨t1, t2, _⟩ := HZ5.out.cells hi
                  have CT : Hid (∀ V, Below V5.heap.size V5 V → Calls Try.prog 14 #[.pointer (some ⟨R5 i, 0, none⟩)] V fun e X => ∃ a c, e = .returned (.slice a (n5 i).m.length c) ∧ X.cell? ⟨D, i, none⟩ = some (.pointer (some ⟨R5 i, 0, none⟩)) ∧ X.cell? ⟨L, i * 2, none⟩ = some (.slice (va5 i) (n5 i).m.length (vc5 i)) ∧ Hid (∀ Y, Below X.heap.size X Y → Calls Try.prog 21 #[.slice a (n5 i).m.length c, .slice (va5 i) (n5 i).m.length (vc5 i)] Y fun e Z => e = .returned (.bool true) ∧ Z.cell? ⟨D, i, none⟩ = some (.pointer (some ⟨R5 i, 0, none⟩)) ∧ Z.cell? ⟨L, i * 2, none⟩ = some (.slice (va5 i) (n5 i).m.length (vc5 i)) ∧ Pz w Z D L R5 M5 n5 n5 va5 vc5)) := hide (fun V hV => by
                    refine ((HZ5.out.fresh hV).told hi).mono ?_
                    rintro e X ⟨a, c, rfl, hb, zX, hs⟩
                    obtain ⟨u1, u2, _⟩ := zX.cells hi
                    refine ⟨a, c, rfl, u1, u2, hide (fun Y hY => (hs Y hY).mono ?_)⟩
                    rintro e Z ⟨rfl, hZ⟩
                    have zZ := (zX.fresh hY).fresh hZ
                    obtain ⟨s1, s2, _⟩ := zZ.cells hi
                    exact ⟨rfl, s1, s2, zZ⟩)
                  obtain ⟨NN, hNN⟩ : ∃ NN, Hid (NN = (n5 i).m.length) := ⟨_, hide rfl⟩
                  rw [← hNN.out] at t2 CT
                  obtain ⟨Rx, hRx⟩ : ∃ Rx, Hid (Rx = R5 i) := ⟨_, hide rfl⟩
                  obtain ⟨vx, hvx⟩ : ∃ vx, Hid (vx = va5 i) := ⟨_, hide rfl⟩
                  obtain ⟨cx, hcx⟩ : ∃ cx, Hid (cx = vc5 i) := ⟨_, hide rfl⟩
                  rw [← hRx.out] at t1 CT
                  rw [← hvx.out, ← hcx.out] at t2 CT
                  go_region_held3 (fun V => V.cell? ⟨D, i, none⟩ = some (.pointer (some ⟨Rx, 0, none⟩)) ∧ V.cell? ⟨L, i * 2, none⟩ = some (.slice vx NN cx))
                    (first | exact ⟨t1, t2⟩ | exact ⟨y1, y2⟩ | exact ⟨x1, x2⟩)
                    (first
                      | (go_at_call 14; refine (CT.out _ ?_).mono ?_; exact (Below.refl _ _).drew; rintro e X7 ⟨a7, c7, rfl, x1, x2, HS7⟩)
                      | (go_at_call 21; refine (HS7.out _ ?_).mono ?_; exact Below.refl _ _; rintro e X8 ⟨rfl, y1, y2, z8⟩))
                  have HZ8 := hide z8
                  clear z8 y1 y2 x1 x2 HS7 CT t1 t2
                  go_wp2_with fail
                  go_roundw
                  case rel => exact ⟨q + 1, R5, M5, n5, va5, vc5, by omega, by omega, by go_num, HL5, HZ8⟩
                  case measure => simp [intOf]; omega
            · have HZF := hz
              clear hz hlast
              by_cases h1 : q < m
              · have h2 : ¬ q < 80 := fun h => hgo ⟨h1, h⟩
                clear hgo
                go_wp2_with fail
                go_meet
                exact ⟨R, M, np, va, vc, HZF⟩
              · clear hgo
                go_wp2_with fail
                go_meet
                exact ⟨R, M, np, va, vc, HZF⟩
      case rest =>
        as_aux_lemma =>
          clear hz' hl'
          obtain ⟨R, M, np, va, vc, HZ⟩ := hcut
          obtain ⟨Y, hY⟩ : ∃ Y, Y = wc := ⟨_, rfl⟩
          subst hY
          have HS4 : Hid (∀ V, Pz w V D L R M np np va vc → (V.cell? ⟨D, 0, none⟩ = some (.pointer (some ⟨R 0, 0, none⟩)) ∧ V.cell? ⟨L, 0, none⟩ = some (.slice (va 0) (np 0).m.length (vc 0)) ∧ V.cell? ⟨D, 1, none⟩ = some (.pointer (some ⟨R 1, 0, none⟩)) ∧ V.cell? ⟨L, 2, none⟩ = some (.slice (va 1) (np 1).m.length (vc 1)))) := hide (fun V hV => by
            obtain ⟨t1, t2, _⟩ := hV.cells (i := 0) (by omega)
            obtain ⟨t3, t4, _⟩ := hV.cells (i := 1) (by omega)
            simp only [Nat.zero_mul, Nat.one_mul] at t1 t2 t3 t4
            exact ⟨t1, t2, t3, t4⟩)
          have CTa : Hid (∀ V, Below Y.heap.size Y V → Calls Try.prog 14 #[.pointer (some ⟨R 0, 0, none⟩)] V fun e X => ∃ a c, e = .returned (.slice a (np 0).m.length c) ∧ (X.cell? ⟨D, 0, none⟩ = some (.pointer (some ⟨R 0, 0, none⟩)) ∧ X.cell? ⟨L, 0, none⟩ = some (.slice (va 0) (np 0).m.length (vc 0)) ∧ X.cell? ⟨D, 1, none⟩ = some (.pointer (some ⟨R 1, 0, none⟩)) ∧ X.cell? ⟨L, 2, none⟩ = some (.slice (va 1) (np 1).m.length (vc 1))) ∧ Hid (∀ Z, Below X.heap.size X Z → Calls Try.prog 21 #[.slice a (np 0).m.length c, .slice (va 0) (np 0).m.length (vc 0)] Z fun e Z' => e = .returned (.bool true) ∧ (Z'.cell? ⟨D, 0, none⟩ = some (.pointer (some ⟨R 0, 0, none⟩)) ∧ Z'.cell? ⟨L, 0, none⟩ = some (.slice (va 0) (np 0).m.length (vc 0)) ∧ Z'.cell? ⟨D, 1, none⟩ = some (.pointer (some ⟨R 1, 0, none⟩)) ∧ Z'.cell? ⟨L, 2, none⟩ = some (.slice (va 1) (np 1).m.length (vc 1))) ∧ Below Y.heap.size Y Z')) := hide (fun V hV => by
            refine ((HZ.out.fresh hV).told (i := 0) (by omega)).mono ?_
            rintro e X ⟨a, c, rfl, hb, zX, hs⟩
            have bX := hV.trans (hb.mono hV.size)
            refine ⟨a, c, rfl, HS4.out X zX, hide (fun Z hZ => (hs Z hZ).mono ?_)⟩
            rintro e Z' ⟨rfl, hZ'⟩
            have b' := bX.trans (hZ.mono bX.size)
            exact ⟨rfl, HS4.out Z' ((zX.fresh hZ).fresh hZ'), b'.trans (hZ'.mono b'.size)⟩)
          have CTb : Hid (∀ V, Below Y.heap.size Y V → Calls Try.prog 14 #[.pointer (some ⟨R 1, 0, none⟩)] V fun e X => ∃ a c, e = .returned (.slice a (np 1).m.length c) ∧ (X.cell? ⟨D, 0, none⟩ = some (.pointer (some ⟨R 0, 0, none⟩)) ∧ X.cell? ⟨L, 0, none⟩ = some (.slice (va 0) (np 0).m.length (vc 0)) ∧ X.cell? ⟨D, 1, none⟩ = some (.pointer (some ⟨R 1, 0, none⟩)) ∧ X.cell? ⟨L, 2, none⟩ = some (.slice (va 1) (np 1).m.length (vc 1))) ∧ Hid (∀ Z, Below X.heap.size X Z → Calls Try.prog 21 #[.slice a (np 1).m.length c, .slice (va 1) (np 1).m.length (vc 1)] Z fun e Z' => e = .returned (.bool true) ∧ (Z'.cell? ⟨D, 0, none⟩ = some (.pointer (some ⟨R 0, 0, none⟩)) ∧ Z'.cell? ⟨L, 0, none⟩ = some (.slice (va 0) (np 0).m.length (vc 0)) ∧ Z'.cell? ⟨D, 1, none⟩ = some (.pointer (some ⟨R 1, 0, none⟩)) ∧ Z'.cell? ⟨L, 2, none⟩ = some (.slice (va 1) (np 1).m.length (vc 1))) ∧ Below Y.heap.size Y Z')) := hide (fun V hV => by
            refine ((HZ.out.fresh hV).told (i := 1) (by omega)).mono ?_
            rintro e X ⟨a, c, rfl, hb, zX, hs⟩
            have bX := hV.trans (hb.mono hV.size)
            refine ⟨a, c, rfl, HS4.out X zX, hide (fun Z hZ => (hs Z hZ).mono ?_)⟩
            rintro e Z' ⟨rfl, hZ'⟩
            have b' := bX.trans (hZ.mono bX.size)
            exact ⟨rfl, HS4.out Z' ((zX.fresh hZ).fresh hZ'), b'.trans (hZ'.mono b'.size)⟩)
          have KAW : Hid (∀ X Z : World, (X.cell? ⟨D, 0, none⟩ = some (.pointer (some ⟨R 0, 0, none⟩)) ∧ X.cell? ⟨L, 0, none⟩ = some (.slice (va 0) (np 0).m.length (vc 0)) ∧ X.cell? ⟨D, 1, none⟩ = some (.pointer (some ⟨R 1, 0, none⟩)) ∧ X.cell? ⟨L, 2, none⟩ = some (.slice (va 1) (np 1).m.length (vc 1))) → Below X.heap.size X Z → (Z.cell? ⟨D, 0, none⟩ = some (.pointer (some ⟨R 0, 0, none⟩)) ∧ Z.cell? ⟨L, 0, none⟩ = some (.slice (va 0) (np 0).m.length (vc 0)) ∧ Z.cell? ⟨D, 1, none⟩ = some (.pointer (some ⟨R 1, 0, none⟩)) ∧ Z.cell? ⟨L, 2, none⟩ = some (.slice (va 1) (np 1).m.length (vc 1)))) := hide (fun X Z hX hb => by
            obtain ⟨x1, x2, x3, x4⟩ := hX
            exact ⟨(hb.cell (cell_lt x1)).trans x1, (hb.cell (cell_lt x2)).trans x2, (hb.cell (cell_lt x3)).trans x3, (hb.cell (cell_lt x4)).trans x4⟩)
          obtain ⟨t1, t2, t3, t4⟩ := HS4.out Y HZ.out
          have HBE := hide HZ.out.bel
          clear HS4 HZ
          generalize R 0 = Ra at *
          generalize R 1 = Rb at *
          generalize (np 0).m.length = Na at *
          generalize (np 1).m.length = Nb at *
          generalize va 0 = xa at *
          generalize va 1 = xb at *
          generalize vc 0 = ca at *
          generalize vc 1 = cb at *
          go_wp2_with fail
          go_region_held3 (fun V => V.cell? ⟨D, 0, none⟩ = some (.pointer (some ⟨Ra, 0, none⟩)) ∧ V.cell? ⟨L, 0, none⟩ = some (.slice xa Na ca) ∧ V.cell? ⟨D, 1, none⟩ = some (.pointer (some ⟨Rb, 0, none⟩)) ∧ V.cell? ⟨L, 2, none⟩ = some (.slice xb Nb cb))
            (first | (with_reducible exact SX) | exact KAW.out _ _ SX bb | exact ⟨t1, t2, t3, t4⟩)
            (first
              | (go_at_call_of 14 Ra; refine (CTa.out _ ?_).mono ?_; exact (Below.refl _ _).drew; rintro e X7 ⟨a7, c7, rfl, SX, HS7⟩)
              | (go_at_call_of 21 xa; refine (HS7.out _ ?_).mono ?_; exact Below.refl _ _; rintro e X8 ⟨rfl, SX, b8⟩)
              | (go_at_call_of 14 Rb; refine (CTb.out _ ?_).mono ?_; exact b8; rintro e X9 ⟨a9, c9, rfl, SX, HS9⟩)
              | (go_at_call_of 21 xb; refine (HS9.out _ ?_).mono ?_; exact Below.refl _ _; rintro e Xa ⟨rfl, SX, ba⟩)
              | (go_at_call 15; refine (awake_any _).mono ?_; rintro e Xb ⟨rfl, bb⟩))
          have HF := hide ((HBE.out.trans (ba.mono HBE.out.size)).trans (bb.mono (HBE.out.trans (ba.mono HBE.out.size)).size))
          clear SX ba bb b8 HS7 HS9 CTa CTb KAW
          go_wp2_with fail
          go_ret
          exact ⟨rfl, HF.out⟩

end Go.Proofs.Ythakbelcefogaaa.netPlays

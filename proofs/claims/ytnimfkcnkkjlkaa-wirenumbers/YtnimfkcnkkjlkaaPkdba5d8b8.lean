/-
  Texts put into one.
-/
import Derived.Test.YtnimfkcnkkjlkaaPk327b768e
import Derived.Test.YtnimfkcnkkjlkaaPkcd932d5b
import Derived.Test.YtnimfkcnkkjlkaaPke73b9e83
import Derived.Test.YtnimfkcnkkjlkaaPk1d5d574a
import Derived.Laws.OwnMore
import Derived.Deep.DeepCutAuto
import Derived.Deep.Cut
import Derived.Deep.CutRange
import Derived.ProofKit
import Derived.OpenShut
import Derived.ShutString
import Derived.ChangeOld

/-
  WireNumbers, walked.
-/
namespace Go.Proofs.Ytnimfkcnkkjlkaa.wireNumbers
open Go.RowKit
set_option maxRecDepth 100000
set_option linter.unusedVariables false

theorem meta_none : Cod.got Cod.meta' 2 60000 [1, 4, 0, 0, 0, 0, 10] = none := got_no (.inr (.inr (by decide)))

/-- A slice of so many bytes that is made: the step's run, its cells being a letter. -/
theorem make_run (n : Nat) (hn : n ≤ 100000) : ∃ Z : Array Value, (∀ W : World, (Instr.makeSlice 22 (.int .i64 (n : Int)) (.int .i64 (n : Int))).run Try.prog W = .ok (.slice (some ⟨W.heap.size, 0, none⟩) n n) (W.alloc (.cells Z 5))) ∧ Z = (U (List.replicate n 0)).toArray := by
  obtain ⟨i0, hi, hz0, hz1, hz2⟩ := info_parts info5
  refine ⟨(U (List.replicate n 0)).toArray, fun W => ?_, rfl⟩
  have h := run_make (P := Try.prog) W 22 5 i0 (.int .u8 0) Try.underlying22 hi hz0 .i64 .i64 (n : Int) (n : Int) (by omega) (Int.le_refl _) (by rw [hz2]; omega) (by omega)
  rw [Int.toNat_natCast, hz1, Nat.mul_one] at h
  have e : madeCells (Value.int .u8 0).cells n = (U (List.replicate n 0)).toArray := by
    apply Array.toList_inj.1
    rw [show (Value.int .u8 0).cells = #[.int .u8 0] from rfl, toList_madeCells_one]
    simp [U]
  rw [e] at h
  exact h

/-- A message of a node in a variable, with one entry of d bytes and a snapshot of 60,000. -/
structure Lg (w0 : World) (P d : Nat) (Zd Zs : Array Value) (V : World) : Prop where
  bel : Below w0.heap.size w0 V
  is : ∃ E S D, V.heap[P]? = some (.cells #[.string ⟨#[]⟩, .int .u8 0, .int .i64 0, .int .i64 0, .int .i64 0, .int .i64 0, .int .i64 0, .int .i64 0, .int .i64 0, .bool false, .slice (some ⟨E, 0, none⟩) 1 1, .slice (some ⟨S, 0, none⟩) 60000 60000] (45 : TypeId) (0, 0)) ∧
    V.heap[E]? = some (.cells #[.int .i64 1, .slice (some ⟨D, 0, none⟩) d d] (41 : TypeId) (0, 0)) ∧ V.heap[D]? = some (.cells Zd 5 (0, 0)) ∧ V.heap[S]? = some (.cells Zs 5 (0, 0)) ∧ w0.heap.size ≤ E

theorem Lg.keep {w0 V V' : World} {P d : Nat} {Zd Zs : Array Value} (h : Lg w0 P d Zd Zs V) (hb : Below V.heap.size V V') : Lg w0 P d Zd Zs V' := by
  obtain ⟨E, S, D, h1, h2, h3, h4, h0⟩ := h.is
  exact ⟨h.bel.trans (hb.mono h.bel.size), E, S, D, (hb.block _ (hp_lt h1)).trans h1, (hb.block _ (hp_lt h2)).trans h2, (hb.block _ (hp_lt h3)).trans h3, (hb.block _ (hp_lt h4)).trans h4, h0⟩

theorem lg_put {V : World} {E S D d : Nat} (hd : d ≤ 16384) (g2 : V.heap[E]? = some (.cells #[.int .i64 1, .slice (some ⟨D, 0, none⟩) d d] (41 : TypeId) (0, 0))) (g3 : V.heap[D]? = some (.cells (U (List.replicate d 0)).toArray 5 (0, 0))) (g4 : V.heap[S]? = some (.cells (U (List.replicate 60000 0)).toArray 5 (0, 0))) :
    Calls Try.prog 8 #[.agg #[.string ⟨#[]⟩, .int .u8 0, .int .i64 0, .int .i64 0, .int .i64 0, .int .i64 0, .int .i64 0, .int .i64 0, .int .i64 0, .bool false, .slice (some ⟨E, 0, none⟩) 1 1, .slice (some ⟨S, 0, none⟩) 60000 60000]] V (Pq V 65545 (Cod.thing Cod.raft 7 (long d))) := by
  have i0 : I64 0 := ⟨by omega, by omega⟩
  have i1 : I64 1 := ⟨by omega, by omega⟩
  have u0 : U8 0 := ⟨by omega, by omega⟩
  have hS : Bs V (some ⟨S, 0, none⟩) 60000 60000 (List.replicate 60000 0) := Bs.row g4 List.length_replicate (by omega) (zs_byte _)
  have hD : Bs V (some ⟨D, 0, none⟩) d d (List.replicate d 0) := Bs.row g3 List.length_replicate (by omega) (zs_byte _)
  have hE : Sq REntry 2 V (some ⟨E, 0, none⟩) 1 1 [⟨1, List.replicate d 0⟩] := by
    refine ⟨rfl, Nat.le_refl _, by omega, fun _ => ⟨E, 0, rfl, fun i hi => ?_⟩⟩
    obtain rfl : i = 0 := by simpa using hi
    refine ⟨?_, ⟨some ⟨D, 0, none⟩, d, d, ?_, hD⟩, i1⟩
    · exact (row_facts g2 0 (.int .i64 1) rfl).1
    · exact (row_facts g2 1 (.slice (some ⟨D, 0, none⟩) d d) rfl).1
  exact putRaft_any ⟨#[]⟩ (by decide) 0 u0 0 i0 0 i0 0 i0 0 i0 0 i0 0 i0 0 i0 false (some ⟨E, 0, none⟩) 1 1 [⟨1, List.replicate d 0⟩] hE (some ⟨S, 0, none⟩) 60000 60000 (List.replicate 60000 0) hS

theorem raft_snap {w : World} {x : Cod.Raft} {g : ByteArray} {k f t m i o c r : Int} {b : Bool} {la : Option Addr} {ln lc : Nat} {ya : Option Addr} {yn yc : Nat} (h : LRaft w x [.string g, .int .u8 k, .int .i64 f, .int .i64 t, .int .i64 m, .int .i64 i, .int .i64 o, .int .i64 c, .int .i64 r, .bool b, .slice la ln lc, .slice ya yn yc]) : Bs w ya yn yc x.snap := by
  obtain ⟨_, _, e0, ⟨_, rfl, _⟩, _, _, rfl, ⟨rfl, _⟩, _, _, rfl, ⟨rfl, _⟩, _, _, rfl, ⟨rfl, _⟩, _, _, rfl, ⟨rfl, _⟩, _, _, rfl, ⟨rfl, _⟩, _, _, rfl, ⟨rfl, _⟩, _, _, rfl, ⟨rfl, _⟩, _, _, rfl, ⟨rfl, _⟩, _, _, rfl, rfl, _, _, rfl, ⟨_, _, _, rfl, _⟩, ⟨a', m', d', rfl, hB, _⟩⟩ := h
  simp at e0
  obtain ⟨rfl, rfl, rfl⟩ := e0.2.2.2.2.2.2.2.2.2.2.2
  exact hB

/-- The entry's data are others. -/
theorem Lg.turn {w0 V : World} {P d : Nat} {Zd Zs : Array Value} (h : Lg w0 P d Zd Zs V) (d' : Nat) (Z : Array Value) : ∃ E, V.cell? ⟨P, 10, none⟩ = some (.slice (some ⟨E, 0, none⟩) 1 1) ∧ (V.alloc (.cells Z 5)).cell? ⟨P, 10, none⟩ = some (.slice (some ⟨E, 0, none⟩) 1 1) ∧ (V.alloc (.cells Z 5)).frozen? ⟨E, 1, none⟩ = false ∧ (∃ x, (V.alloc (.cells Z 5)).cell? ⟨E, 1, none⟩ = some x) ∧
    Lg w0 P d' Z Zs ((V.alloc (.cells Z 5)).setCell ⟨E, 1, none⟩ (.slice (some ⟨V.heap.size, 0, none⟩) d' d')) ∧ Kt (41 : TypeId) V ((V.alloc (.cells Z 5)).setCell ⟨E, 1, none⟩ (.slice (some ⟨V.heap.size, 0, none⟩) d' d')) := by
  obtain ⟨E, S, D, h1, h2, h3, h4, h0⟩ := h.is
  have hb := fresh V (.cells Z 5)
  have k1 := (hb.block _ (hp_lt h1)).trans h1
  have k2 := (hb.block _ (hp_lt h2)).trans h2
  have k4 := (hb.block _ (hp_lt h4)).trans h4
  have kz := heap_alloc_new V (.cells Z 5)
  have hset := Kt.set (i := 1) k2 (.slice (some ⟨V.heap.size, 0, none⟩) d' d')
  refine ⟨E, (row_facts h1 10 (.slice (some ⟨E, 0, none⟩) 1 1) rfl).1, (row_facts k1 10 (.slice (some ⟨E, 0, none⟩) 1 1) rfl).1, (row_facts k2 1 (.slice (some ⟨D, 0, none⟩) d d) rfl).2, ⟨_, (row_facts k2 1 (.slice (some ⟨D, 0, none⟩) d d) rfl).1⟩, ⟨?_, E, S, V.heap.size, hset.block _ _ _ _ k1 (by decide), ?_, hset.block _ _ _ _ kz (by decide), hset.block _ _ _ _ k4 (by decide), h0⟩, (Kt.of_below hb).trans hset⟩
  · exact (h.bel.trans (hb.mono h.bel.size)).setCell h0 _
  · exact heap_setCell_same _ E 1 _ (41 : TypeId) _ k2

set_option maxHeartbeats 4000000 in
theorem walk (w : World) : Calls Try.prog 3 #[] w fun e w' => e = .returned (.bool true) ∧ Below w.heap.size w w' := by
  obtain ⟨Z1, hmk1, hZ1⟩ := make_run 60000 (by decide)
  obtain ⟨Z2, hmk2, hZ2⟩ := make_run 5000 (by decide)
  have hm1 : ∀ W : World, (Instr.makeSlice 22 (.int .i64 60000) (.int .i64 60000)).run Try.prog W = .ok (.slice (some ⟨W.heap.size, 0, none⟩) 60000 60000) (W.alloc (.cells Z1 5)) := hmk1
  have hm2 : ∀ W : World, (Instr.makeSlice 22 (.int .i64 5000) (.int .i64 5000)).run Try.prog W = .ok (.slice (some ⟨W.heap.size, 0, none⟩) 5000 5000) (W.alloc (.cells Z2 5)) := hmk2
  have HZ1 := hide hZ1
  have HZ2 := hide hZ2
  clear hZ1 hZ2 hmk1 hmk2
  obtain ⟨W, HW, hSq, hbW⟩ := ten_lies w
  have HSQ := hide hSq
  have HBW := hide hbW
  clear hSq hbW
  go_enter Try.func3, Try.ntmps3
  go_wp2_with fail
  simp only [Nat.add_assoc, Nat.reduceAdd]
  rw [← HW.out]
  go_loopw [2, 3, 4, 34] (fun _ _ _ i wr => ∃ k : Nat, k ≤ 8 ∧ i = .int .i64 k ∧ Hid (Below W.heap.size W wr)) (fun _ _ _ i _ => 8 - (intOf i).toNat)
  case atStart => exact ⟨0, Nat.zero_le _, rfl, hide (Below.refl _ _)⟩
  case round =>
    obtain ⟨k, hk, rfl, hB⟩ := hrel
    by_cases hlt : k < 8
    · obtain ⟨b1, o1, hb, hc⟩ := HSQ.out.lies (by omega)
      simp only [Option.some.injEq, Addr.mk.injEq, and_true] at hb
      obtain ⟨rfl, rfl⟩ := hb
      have hlen := HSQ.out.len
      obtain ⟨c1, m1, d1, q0, hBs⟩ := hc k (by omega)
      rw [Nat.mul_one, Nat.zero_add] at q0
      have q1 := cell_keep q0 hB.out
      have hno := ten_none (List.getElem_mem (show k < ten.length by omega))
      have j1 : (k : Int) < 8 := by omega
      have j2 : (0 : Int) ≤ (k : Int) := by omega
      have hBk := hBs.keep hB.out
      generalize ten[k] = l at hBk hno hBs
      go_wp2_with fail
      refine (getPart_any c1 hBk).mono ?_
      rintro e w1 ⟨hb1, hm⟩
      rw [hno] at hm
      simp only at hm
      subst hm
      have HB1 := hide ((hB.out.trans (hb1.mono hB.out.size)).trans ((fresh w1 (.cells #[.int .u8 0, .int .i64 0, .int .i64 0, .int .i64 0, .slice none 0 0, .int .i64 0] (28 : TypeId))).mono (Nat.le_trans hB.out.size hb1.size)))
      have hbx := heap_alloc_new w1 (.cells #[.int .u8 0, .int .i64 0, .int .i64 0, .int .i64 0, .slice none 0 0, .int .i64 0] (28 : TypeId))
      have r0 := (row_facts hbx 0 _ rfl).1
      have r5 := (row_facts hbx 5 _ rfl).1
      clear hb1 hbx hBk hBs hc q0 q1
      go_wp2_with fail
      go_roundw
      case rel => exact ⟨k + 1, by omega, by go_num, HB1⟩
      case measure => simp [intOf]; omega
    · obtain rfl : k = 8 := by omega
      have hL := Bs.lit wr [1, 4, 0, 0, 0, 0, 10] 7 rfl (by omega) bytes_part
      go_wp2_with fail
      refine (getMeta_any _ hL).mono ?_
      rintro e w1 ⟨hb1, hm⟩
      rw [meta_none] at hm
      simp only at hm
      subst hm
      have hq1 : Below w.heap.size w w1 := HBW.out.trans ((hB.out.trans ((fresh wr _).mono hB.out.size)).trans (hb1.mono (by have := hB.out.size; simp; omega)) |>.mono HBW.out.size)
      have HQ1 := hide hq1
      clear hb1 hq1 hL
      go_wp2_with fail
      obtain ⟨V, hV⟩ : ∃ V, V = w1.alloc (.cells #[.int .u8 0, .string ⟨#[]⟩, .string ⟨#[]⟩, .int .i64 0, .slice none 0 0, .string ⟨#[]⟩, .int .i64 0, .int .i64 0, .int .i64 0, .int .i64 0, .int .i64 0] (37 : TypeId)) := ⟨_, rfl⟩
      rw [← hV]
      have HV := hide hV
      clear HSQ HBW HW hB hV
      go_cut [7] (fun s7 wx => ∃ P, s7 = .pointer (some ⟨P, 0, none⟩) ∧ Hid (Lg V P 5000 Z2 Z1 wx))
      case first => as_aux_lemma =>
        go_region
        all_goals
          go_wp2_with fail
          go_meet
          exact ⟨_, rfl, hide ⟨(four V _ _ _ _).2.2.2.2, _, _, _, by first | exact (four V _ _ _ _).1 | exact (four V _ _ _ _).2.1 | exact (four V _ _ _ _).2.2.1 | exact (four V _ _ _ _).2.2.2.1, by first | exact (four V _ _ _ _).1 | exact (four V _ _ _ _).2.1 | exact (four V _ _ _ _).2.2.1 | exact (four V _ _ _ _).2.2.2.1, by first | exact (four V _ _ _ _).1 | exact (four V _ _ _ _).2.1 | exact (four V _ _ _ _).2.2.1 | exact (four V _ _ _ _).2.2.2.1, by first | exact (four V _ _ _ _).1 | exact (four V _ _ _ _).2.1 | exact (four V _ _ _ _).2.2.1 | exact (four V _ _ _ _).2.2.2.1, by omega⟩⟩
      case rest => as_aux_lemma =>
        obtain ⟨P, rfl, hL⟩ := hcut
        obtain ⟨V1, hV1⟩ : ∃ V1, V1 = wc := ⟨_, rfl⟩
        subst hV1
        obtain ⟨E, S, D, g1, g2, g3, g4, _⟩ := hL.out.is
        have g3' := g3
        have g4' := g4
        rw [HZ2.out] at g3'
        rw [HZ1.out] at g4'
        have HC := hide (lg_put (d := 5000) (by omega) g2 g3' g4')
        clear g3 g4 g3' g4' g2
        obtain ⟨zr, hzr⟩ : ∃ zr, zr = Cod.thing Cod.raft 7 (long 5000) := ⟨_, rfl⟩
        have hzl : zr.length = 65018 := by rw [hzr]; exact long_len 5000 (by omega) (by omega)
        have hzb : ∀ z ∈ zr, 0 ≤ z ∧ z ≤ 255 := by rw [hzr]; exact long_byte 5000 (by omega)
        have hzg : Cod.got Cod.raft 7 65545 zr = some (long 5000) := by rw [hzr]; exact long_got
        rw [← hzr] at HC
        have HZG := hide hzg
        have HZB := hide hzb
        have HZL := hide hzl
        clear hzr hzg hzb hzl
        go_wp2_with (refine wpList_load_row rfl (45 : TypeId) _ rfl P rfl (45 : TypeId) _ (0, 0) _ g1 Try.underlying45 rfl (by kernel_rfl) ?_)
        refine HC.out.mono ?_
        rintro e w2 ⟨hb2, ⟨_, c2, d2, rfl, ho2⟩ | ⟨hno, _⟩⟩
        rotate_left
        · exact absurd hno (by rw [HZL.out]; omega)
        rw [HZL.out] at ho2 ⊢
        have hL2 := hL.out.keep hb2
        have HO2 := hide ho2
        clear ho2 g1 HC hL
        obtain ⟨Z3, hmk3, hZ3⟩ := make_run 5600 (by decide)
        have hm3 : ∀ W : World, (Instr.makeSlice 22 (.int .i64 5600) (.int .i64 5600)).run Try.prog W = .ok (.slice (some ⟨W.heap.size, 0, none⟩) 5600 5600) (W.alloc (.cells Z3 5)) := hmk3
        have HZ3 := hide hZ3
        clear hmk3 hZ3
        obtain ⟨E2, p1, p2, p3, ⟨px, p4⟩, hL3, hk3⟩ := hL2.turn 5600 Z3
        have HL3 := hide hL3
        have HO3 := hide (hk3.own HO2.out (by decide))
        have HB2 := hide hb2
        clear hL3 hk3 hL2 hb2 HO2
        go_wp2_with fail
        go_cut [7] (fun s7 wx => s7 = .pointer (some ⟨P, 0, none⟩) ∧ Hid (Lg V P 5600 Z3 Z1 wx) ∧ Hid (wx.ownsRow V1.heap.size 5 1 (.slice c2 65018 d2) 65018 (U zr)))
        case first => as_aux_lemma =>
          go_region
          all_goals
            go_wp2_with fail
            go_meet
            exact ⟨rfl, hide (HL3.out.keep (Below.refl _ _).drew), hide HO3.out⟩
        case rest => as_aux_lemma =>
          obtain ⟨rfl, hL4, hO4⟩ := hcut
          obtain ⟨V2, hV2⟩ : ∃ V2, V2 = wc := ⟨_, rfl⟩
          subst hV2
          obtain ⟨E4, S4, D4, g1, g2, g3, g4, _⟩ := hL4.out.is
          rw [HZ3.out] at g3
          rw [HZ1.out] at g4
          have HC := hide (lg_put (d := 5600) (by omega) g2 g3 g4)
          have hlow4 : Below w.heap.size w V2 := by
            have h1 : Below w.heap.size w V := by rw [HV.out]; exact HQ1.out.alloc HQ1.out.size _
            exact h1.trans (hL4.out.bel.mono h1.size)
          have HLOW4 := hide hlow4
          have HBEL := hide hL4.out.bel
          clear hlow4 g2 g3 g4 p1 p2 p3 p4 HL3 HO3 HB2 HQ1 hm3 hm2
          go_wp2_with (refine wpList_load_row rfl (45 : TypeId) _ rfl P rfl (45 : TypeId) _ (0, 0) _ g1 Try.underlying45 rfl (by kernel_rfl) ?_)
          refine HC.out.mono ?_
          rintro e w5 ⟨hb5, ⟨hno, _⟩ | ⟨_, rfl⟩⟩
          · exact absurd hno (by rw [long_len 5600 (by omega) (by omega)]; omega)
          have hO5 := own_keep hO4.out hb5
          have hBr := own_bs hO5 HZB.out
          have HG := hide (getRaft_any c2 hBr)
          clear HC g1 hL4 hO4 hBr hO5
          go_wp2_with fail
          refine HG.out.mono ?_
          rintro e w6 ⟨hb6, hm⟩
          rw [HZG.out] at hm
          obtain ⟨yg, yk, yf, yt, ym, yi, yo, yc, yr, yx, yla, yln, ylc, yya, yyn, yyc, rfl, hL6⟩ := hm
          have hsn := raft_snap hL6
          have HSN : Hid (Bs w6 yya yyn yyc (List.replicate 60000 0)) := hide hsn
          have hd4 : V2.heap[w1.heap.size]? = some (.cells #[.int .u8 0, .string ⟨#[]⟩, .string ⟨#[]⟩, .int .i64 0, .slice none 0 0, .string ⟨#[]⟩, .int .i64 0, .int .i64 0, .int .i64 0, .int .i64 0, .int .i64 0] (37 : TypeId) (0, 0)) := by
            have h1 := heap_alloc_new w1 (.cells #[.int .u8 0, .string ⟨#[]⟩, .string ⟨#[]⟩, .int .i64 0, .slice none 0 0, .string ⟨#[]⟩, .int .i64 0, .int .i64 0, .int .i64 0, .int .i64 0, .int .i64 0] (37 : TypeId))
            rw [← HV.out] at h1
            exact (HBEL.out.block _ (hp_lt h1)).trans h1
          have hb46 : Below V2.heap.size V2 w6 := hb5.trans (hb6.mono hb5.size)
          have hF : Fz w w1.heap.size w6.heap.size _ _ yya yyn yyc (w6.alloc (.cells #[.string yg, .int .u8 yk, .int .i64 yf, .int .i64 yt, .int .i64 ym, .int .i64 yi, .int .i64 yo, .int .i64 yc, .int .i64 yr, .bool yx, .slice yla yln ylc, .slice yya yyn yyc] (45 : TypeId))) :=
            ⟨(HLOW4.out.trans (hb46.mono HLOW4.out.size)).alloc (Nat.le_trans HLOW4.out.size hb46.size) _, (Below.heap_alloc _ _ _ (Nat.lt_of_lt_of_le (hp_lt hd4) hb46.size)).trans ((hb46.block _ (hp_lt hd4)).trans hd4), heap_alloc_new w6 _, HSN.out.alloc _⟩
          obtain ⟨V3, HV3⟩ : ∃ V3, Hid (V3 = w6.alloc (.cells #[.string yg, .int .u8 yk, .int .i64 yf, .int .i64 yt, .int .i64 ym, .int .i64 yi, .int .i64 yo, .int .i64 yc, .int .i64 yr, .bool yx, .slice yla yln ylc, .slice yya yyn yyc] (45 : TypeId))) := ⟨_, hide rfl⟩
          rw [← HV3.out] at hF
          have HF3 := hide hF
          obtain ⟨Z4, hmk4, hZ4⟩ := make_run 59000 (by decide)
          have hm4 : ∀ W : World, (Instr.makeSlice 22 (.int .i64 59000) (.int .i64 59000)).run Try.prog W = .ok (.slice (some ⟨W.heap.size, 0, none⟩) 59000 59000) (W.alloc (.cells Z4 5)) := hmk4
          obtain ⟨Z5, hmk5, hZ5⟩ := make_run 990 (by decide)
          have hm5 : ∀ W : World, (Instr.makeSlice 22 (.int .i64 990) (.int .i64 990)).run Try.prog W = .ok (.slice (some ⟨W.heap.size, 0, none⟩) 990 990) (W.alloc (.cells Z5 5)) := hmk5
          obtain ⟨Z6, hmk6, hZ6⟩ := make_run 991 (by decide)
          have hm6 : ∀ W : World, (Instr.makeSlice 22 (.int .i64 991) (.int .i64 991)).run Try.prog W = .ok (.slice (some ⟨W.heap.size, 0, none⟩) 991 991) (W.alloc (.cells Z6 5)) := hmk6
          have HZ4 := hide hZ4
          have HZ5 := hide hZ5
          have HZ6 := hide hZ6
          clear hL6 hsn HG hb6 hb5 hF hb46 hd4 hmk4 hmk5 hmk6 hZ4 hZ5 hZ6 HSN HLOW4 HBEL
          go_wp2_with fail
          rw [← HV3.out]
          go_cut [14, 15] (fun _ s15 wx => s15 = .int .i64 0 ∧ Hid (Fz w w1.heap.size w6.heap.size #[.int .u8 0, .string ⟨#[]⟩, .string ⟨#[]⟩, .int .i64 0, .slice none 0 0, .string ⟨#[]⟩, .int .i64 0, .int .i64 0, .int .i64 0, .int .i64 0, .int .i64 0] #[.string yg, .int .u8 yk, .int .i64 yf, .int .i64 yt, .int .i64 ym, .int .i64 yi, .int .i64 yo, .int .i64 yc, .int .i64 yr, .bool yx, .slice yla yln ylc, .slice yya yyn yyc] yya yyn yyc wx))
          case first => as_aux_lemma =>
            go_region_with (first | (go_at_call 10; (first | refine (parts2 (threed V3 _ _ _).2.2.1 (threed V3 _ _ _).1 (threed V3 _ _ _).2.1 HZ4.out HZ5.out (by omega) (by omega)).mono ?_ | refine (parts2 (threed V3 _ _ _).2.2.1 (threed V3 _ _ _).2.1 (threed V3 _ _ _).1 HZ4.out HZ5.out (by omega) (by omega)).mono ?_); intro e w7 hp; obtain ⟨c7, n7, d7, rfl, hb7⟩ := Pq.fits hp len_i; have HF7 := hide (HF3.out.keep (Below.trans (threed V3 _ _ _).2.2.2 (hb7.mono (by simp <;> omega)))); clear hb7 hp))
            all_goals
              go_wp2_with fail
              go_meet
              exact ⟨rfl, HF7⟩
          case rest => as_aux_lemma =>
            obtain ⟨rfl, hF4⟩ := hcut
            obtain ⟨V4, hV4⟩ : ∃ V4, V4 = wc := ⟨_, rfl⟩
            subst hV4
            clear HF3 HV3 hm5
            go_wp2_with fail
            go_cut [16, 17] (fun _ s17 wx => s17 = .int .i64 3 ∧ Hid (Fz w w1.heap.size w6.heap.size #[.int .u8 0, .string ⟨#[]⟩, .string ⟨#[]⟩, .int .i64 0, .slice none 0 0, .string ⟨#[]⟩, .int .i64 0, .int .i64 0, .int .i64 0, .int .i64 0, .int .i64 0] #[.string yg, .int .u8 yk, .int .i64 yf, .int .i64 yt, .int .i64 ym, .int .i64 yi, .int .i64 yo, .int .i64 yc, .int .i64 yr, .bool yx, .slice yla yln ylc, .slice yya yyn yyc] yya yyn yyc wx))
            case first => as_aux_lemma =>
              go_region_with (first | (go_at_call 10; (first | refine (parts2 (threed V4 _ _ _).2.2.1 (threed V4 _ _ _).1 (threed V4 _ _ _).2.1 HZ4.out HZ6.out (by omega) (by omega)).mono ?_ | refine (parts2 (threed V4 _ _ _).2.2.1 (threed V4 _ _ _).2.1 (threed V4 _ _ _).1 HZ4.out HZ6.out (by omega) (by omega)).mono ?_); intro e w7 hp; obtain ⟨rfl, hb7⟩ := Pq.long hp len_j; have HF7 := hide (hF4.out.keep (Below.trans (threed V4 _ _ _).2.2.2 (hb7.mono (by simp <;> omega)))); clear hb7 hp))
              all_goals
                go_wp2_with fail
                go_meet
                exact ⟨rfl, HF7⟩
            case rest => as_aux_lemma =>
              obtain ⟨rfl, hF5⟩ := hcut
              obtain ⟨V5, hV5⟩ : ∃ V5, V5 = wc := ⟨_, rfl⟩
              subst hV5
              clear hF4 hm4 hm6
              have hb0 := (fresh V5 (.cells Z1 5)).alloc (by simp) (.cells #[.slice (some ⟨V5.heap.size, 0, none⟩) 60000 60000] (22 : TypeId))
              have hx0 := boxes2r V5 (.cells Z1 5) (.cells #[.slice (some ⟨V5.heap.size, 0, none⟩) 60000 60000] (22 : TypeId))
              have HP1 := hide (parts1 hx0.2 hx0.1 HZ1.out (by omega))
              have HB0 := hide hb0
              clear hb0 hx0
              go_wp2_with fail
              refine HP1.out.mono ?_
              intro e w7 hp
              obtain ⟨rfl, hb7⟩ := Pq.long hp len_k
              have hF7 := hF5.out.keep (HB0.out.trans (hb7.mono (by simp <;> omega)))
              have HF7 := hide hF7
              clear hb7 hp hF7 hF5 HP1 HB0
              obtain ⟨i0, hi, hz0, hz1, hz2⟩ := info_parts info5
              have hO7 := own_seven w7
              have hb97 : ∀ z ∈ ([2, 97] : List Int), 0 ≤ z ∧ z ≤ 255 := by decide
              have hB7 : Bs ((w7.alloc (.cells #[.int .u8 7] 5)).alloc (.cells #[.int .u8 2, .int .u8 97] 5)) (some ⟨w7.heap.size + 1, 0, none⟩) 2 2 [2, 97] := row_lit (w7.alloc (.cells #[.int .u8 7] 5)) (w7.heap.size + 1) (World.size_alloc _ _) [2, 97] 2 rfl (by omega) hb97
              have hO7 : ((w7.alloc (.cells #[.int .u8 7] 5)).alloc (.cells #[.int .u8 2, .int .u8 97] 5)).ownsRow w7.heap.size 5 1 (.slice (some ⟨w7.heap.size, 0, none⟩) 1 1) 1 (U [7]) := own_keep hO7 (fresh (w7.alloc (.cells #[.int .u8 7] 5)) _)
              have HBX : Hid (Below w7.heap.size w7 ((w7.alloc (.cells #[.int .u8 7] 5)).alloc (.cells #[.int .u8 2, .int .u8 97] 5))) := hide ((fresh w7 (.cells #[.int .u8 7] 5)).alloc (by simp) _)
              have HN97 : Hid (∀ z ∈ ([7] ++ [2, 97] : List Int), 0 ≤ z ∧ z ≤ 255) := hide (by decide)
              have hss7 : w7.heap.size ≤ ((w7.alloc (.cells #[.int .u8 7] 5)).alloc (.cells #[.int .u8 2, .int .u8 97] 5)).heap.size := HBX.out.size
              have HO7 := hide hO7
              have HB7 := hide hB7
              clear hO7 hB7
              go_wp2_with (at_builtin; refine wpList_append_two rfl (.tmp 110) (.tmp 111) 22 22 rfl w7.heap.size 5 5 i0 Try.underlying22 Try.underlying22 hi hz0 hz1 hz2 _ 1 [7] rfl HO7.out _ _ _ _ rfl HB7.out (by omega) hss7 ?_; intro v8 w8 ho8' hg8 _; have ho8 : w8.ownsRow w7.heap.size 5 1 v8 3 (U [7, 2, 97]) := ho8'; clear ho8'; obtain ⟨a8, d8, rfl⟩ := own_val ho8; have HG8 := hide (getRaft_any a8 (own_bs ho8 HN97.out)); have HF9 := hide (HF7.out.keep (HBX.out.grown hg8 hss7 (fun k hk => by cases hk; exact Nat.le_refl _))); clear ho8 hg8 hss7 hb97)
              refine HG8.out.mono ?_
              rintro e w9 ⟨hb9, hm⟩
              rw [none_short] at hm
              simp only at hm
              subst hm
              have HF10 := hide ((HF9.out.keep hb9).keep (fresh w9 (.cells #[.string ⟨#[]⟩, .int .u8 0, .int .i64 0, .int .i64 0, .int .i64 0, .int .i64 0, .int .i64 0, .int .i64 0, .int .i64 0, .bool false, .slice none 0 0, .slice none 0 0] (45 : TypeId))))
              obtain ⟨W10, HW10⟩ : ∃ V, Hid (V = w9.alloc (.cells #[.string ⟨#[]⟩, .int .u8 0, .int .i64 0, .int .i64 0, .int .i64 0, .int .i64 0, .int .i64 0, .int .i64 0, .int .i64 0, .bool false, .slice none 0 0, .slice none 0 0] (45 : TypeId))) := ⟨_, hide rfl⟩
              have hs10 : W10.heap.size = w9.heap.size + 1 := by rw [HW10.out]; simp
              rw [← HW10.out] at HF10
              obtain ⟨d11, W11, hr11, hb11, hd11, hc11, hf11, hB11⟩ := seven_row (W10.alloc (.cells #[.int .u8 7] 5)) W10.heap.size (heap_alloc_new W10 _)
              rw [World.size_alloc] at hr11 hc11 hf11 hB11
              have hb12 : Below W10.heap.size W10 (W11.setCell ⟨W10.heap.size + 1, 10, none⟩ (.int .u8 2)) := ((fresh W10 (.cells #[.int .u8 7] 5)).trans (hb11.mono (by simp))).setCell (by simp) _
              have HF12 := hide (HF10.out.keep hb12)
              have HR11 := hide hr11
              have HG11 := hide (getRaft_any _ hB11)
              rw [HW10.out] at HR11 HG11 hc11 hf11
              simp only [World.size_alloc] at hc11 hf11
              have HR11' := HR11.out
              simp only [World.size_alloc] at HR11'
              have HR12 := hide HR11'
              have HG11' := HG11.out
              simp only [World.size_alloc] at HG11'
              have HG12 := hide HG11'
              have hd13 : (13 : Int) ≤ (d11 : Int) := by omega
              clear hr11 hb11 hB11 hb12 hb9 HF9 HG8 HR11 HG11 HR11' HG11' HF10 hd11
              go_wp2_with (at_builtin; refine wpList_run_wanted _ rfl (.tmp 116) (.const (.int .i64 12)) 22 3 rfl _ _ rfl rfl _ W11 HR12.out ?_)
              refine HG12.out.mono ?_
              rintro e w13 ⟨hb13, hm⟩
              rw [none_bool] at hm
              simp only at hm
              subst hm
              have HF13 : Hid (Fz w w1.heap.size w6.heap.size #[.int .u8 0, .string ⟨#[]⟩, .string ⟨#[]⟩, .int .i64 0, .slice none 0 0, .string ⟨#[]⟩, .int .i64 0, .int .i64 0, .int .i64 0, .int .i64 0, .int .i64 0] #[.string yg, .int .u8 yk, .int .i64 yf, .int .i64 yt, .int .i64 ym, .int .i64 yi, .int .i64 yo, .int .i64 yc, .int .i64 yr, .bool yx, .slice yla yln ylc, .slice yya yyn yyc] yya yyn yyc w13) := hide (by
                have h1 := HF12.out
                rw [hs10] at h1
                exact h1.keep hb13)
              have HF14 := hide (HF13.out.keep (fresh w13 (.cells #[.string ⟨#[]⟩, .int .u8 0, .int .i64 0, .int .i64 0, .int .i64 0, .int .i64 0, .int .i64 0, .int .i64 0, .int .i64 0, .bool false, .slice none 0 0, .slice none 0 0] (45 : TypeId))))
              obtain ⟨X, HX⟩ : ∃ V, Hid (V = w13.alloc (.cells #[.string ⟨#[]⟩, .int .u8 0, .int .i64 0, .int .i64 0, .int .i64 0, .int .i64 0, .int .i64 0, .int .i64 0, .int .i64 0, .bool false, .slice none 0 0, .slice none 0 0] (45 : TypeId))) := ⟨_, hide rfl⟩
              rw [← HX.out] at HF14
              have HQ : Hid (∀ V, Below X.heap.size X V → V.cell? ⟨w1.heap.size, 0, none⟩ = some (.int .u8 0) ∧ V.cell? ⟨w6.heap.size, 11, none⟩ = some (.slice yya yyn yyc)) := hide fun V hV => by
                have h1 := HF14.out.keep hV
                exact ⟨(row_facts h1.d 0 (.int .u8 0) rfl).1, (row_facts h1.x 11 (.slice yya yyn yyc) rfl).1⟩
              have HS : Hid (∀ V, Below X.heap.size X V → Bs V yya yyn yyc (List.replicate 60000 0)) := hide fun V hV => (HF14.out.keep hV).s
              have HM : Hid (∀ V : World, Bs (V.alloc (.cells Z1 5)) (some ⟨V.heap.size, 0, none⟩) 60000 60000 (List.replicate 60000 0)) := hide fun V => Bs.row (by rw [HZ1.out]; exact heap_alloc_new V _) List.length_replicate (by omega) (zs_byte _)
              have HEND := hide HF14.out.bel
              clear hb13 HF12 HG12 HF13 hc11 hf11 HR12 HF14 hs10
              go_wp2_with fail
              rw [← HX.out]
              as_aux_lemma =>
                go_region_held3 (fun V => V.cell? ⟨w1.heap.size, 0, none⟩ = some (.int .u8 0) ∧ V.cell? ⟨w6.heap.size, 11, none⟩ = some (.slice yya yyn yyc))
                  (exact HQ.out _ (by first | assumption | exact (Below.refl _ _).drew | exact ((Below.refl _ _).drew).alloc (Nat.le_refl _) _ | exact ((Below.refl _ _).alloc (Nat.le_refl _) _).drew))
                  (first
                    | (go_at_call 11; (first | refine (same_true rfl (HS.out _ (((Below.refl _ _).alloc (Nat.le_refl _) _).drew)) ((HM.out X).keep (Below.refl _ _).drew)).mono ?_ | refine (same_true rfl (HS.out _ (((Below.refl _ _).drew).alloc (Nat.le_refl _) _)) (HM.out X.drew)).mono ?_); rintro e w14 ⟨rfl, rfl⟩)
                    | (go_at_call 12; refine (awake_any _).mono ?_; rintro e w15 ⟨rfl, hb15⟩; have hbE : Below X.heap.size X w15 := Below.trans (by first | exact ((Below.refl _ _).alloc (Nat.le_refl _) _).drew | exact ((Below.refl _ _).drew).alloc (Nat.le_refl _) _) (hb15.mono (by simp))))
                all_goals
                  go_split_ands
                  have HE := hide (HEND.out.trans (hbE.mono HEND.out.size))
                  clear hbE hb15
                  go_wp2_with fail
                  go_ret
                  exact ⟨rfl, HE.out⟩

end Go.Proofs.Ytnimfkcnkkjlkaa.wireNumbers

/-
  WireNumbers, which takes nothing, returns true: the fixed examples of the chapter come out as written. No conditions.
-/
namespace Go.Proofs.Ytnimfkcnkkjlkaa.wireNumbers
open Go.ChangeShapes Go.WideShapes Go.ChangeAt Go.RowKit
open Go.ChangeMaps (open_string shut_string)
set_option maxRecDepth 100000
set_option linter.unusedVariables false

theorem own : ownKnob Try.prog.godebug = none := by kernel_rfl

set_option maxRecDepth 100000 in
theorem lifted (os : Os) (started : os.Started) (H : Type) (enc : TypeId × Value → H) :
    ReturnsInHanded {} Try.checked os 3 .any (Rows.wireNumbersSpec.pre6 enc Try.prog Try.f3 Rows.wireNumbersRow.domain false) (Rows.wireNumbersSpec.post enc Try.prog Try.f3 false true false false) := by
  refine returnsInHanded_of_change (C := Try.checked) own started (by kernel_rfl) Try.func3
    (ChangeSpec.witness6 (enc := enc) (C := Try.checked) false ⟨#[], #[], []⟩ 8 (by kernel_rfl) (by kernel_rfl) (by kernel_rfl) (by kernel_rfl)) ?_
  intro W base args ds gs before hval0 hW hcnd _
  have hval : ∀ (j : Nat) t v, Try.f3.params[j]? = some t → args[j]? = some v → Value.okWide Try.prog W .any base t v := hval0
  have hW' := hW
  obtain ⟨p, q, hA0, hV, rfl, hfz, hnd⟩ := hW
  have hA : DataW.TrodAll enc Try.prog W 0 (fun _ => true) true Try.f3.params.toList args.toList ds p := hA0
  rw [Try.params3] at hA hval
  obtain ⟨rfl, rfl, rfl⟩ := trodAll_none hA
  obtain ⟨rfl, rfl⟩ := trodVars_none hV
  clear hA0 hval0
  refine (walk W).mono fun e W' ⟨he, bel⟩ => ?_
  subst he
  exact ⟨_, rfl, _, _, _, [], _, [], hW', trodAll_mk1 (shut_bool Try.underlying4 _), trodAll_mk0, rfl, bel.frame _, fun h => by cases h⟩

theorem over : Rows.wireNumbersRow.holds Try.pinned (OpenSpec.ofChange Rows.wireNumbersSpec) :=
  OpenClaim.holds_of_wide 3 Try.f3 rfl rfl rfl rfl rfl rfl rfl ⟨rfl, rfl, rfl, rfl, rfl⟩ rfl rfl rfl rfl rfl (by kernel_rfl) Try.func3 (by kernel_rfl)
    (of_decide_eq_true (by kernel_rfl)) (by unfold Func.isWrapper; first | (rw [if_pos (by decide +kernel)]; kernel_rfl) | (rw [if_neg (by decide +kernel)]; exact ⟨rfl, rfl⟩))
    (fun os started H enc _ => lifted os started H enc)

end Go.Proofs.Ytnimfkcnkkjlkaa.wireNumbers
namespace Go.Proofs.Ytnimfkcnkkjlkaa
theorem wireNumbers_holds : Rows.WireNumbersSaid := wireNumbers.over
#print axioms wireNumbers_holds
end Go.Proofs.Ytnimfkcnkkjlkaa

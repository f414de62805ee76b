/-
  SegmentKept: the walk.
-/
import Derived.Test.YtkdolabhcbjipaaGreatMx34ccd160
import Derived.Test.YtkdolabhcbjipaaGreatPik
namespace Go.Proofs.YtkdolabhcbjipaaGreat
open Go.RowKit
set_option maxRecDepth 100000
set_option linter.unusedVariables false

theorem lf_at {W : World} {a : Option Addr} {n cap : Nat} {xs : List Lf} (h : Lr Lf.cells 5 (Lf.Ok W) W a n cap xs) {k : Nat} (hk : k < n) : ∃ b off x, a = some ⟨b, off, none⟩ ∧ Lf.Ok W x ∧ Hid (∀ V, Below W.heap.size W V → V.cell? ⟨b, off + k * 5, none⟩ = some (.slice x.wa x.wn x.wc) ∧ V.cell? ⟨b, off + k * 5 + 1, none⟩ = some (.int .i64 x.arm) ∧ V.cell? ⟨b, off + k * 5 + 2, none⟩ = some (.slice x.ka x.kn x.kc) ∧ V.cell? ⟨b, off + k * 5 + 3, none⟩ = some (.slice x.la x.ln x.lc) ∧ V.cell? ⟨b, off + k * 5 + 4, none⟩ = some (.int .i64 x.again)) := by
  have hl := h.len
  obtain ⟨b, off, ha, hc⟩ := h.lies (by omega)
  have hx : xs[k]? = some xs[k] := List.getElem?_eq_getElem (by omega)
  have c0 := hc k _ hx 0 _ rfl
  have c1 := hc k _ hx 1 _ rfl
  have c2 := hc k _ hx 2 _ rfl
  have c3 := hc k _ hx 3 _ rfl
  have c4 := hc k _ hx 4 _ rfl
  exact ⟨b, off, xs[k], ha, h.each _ (List.mem_of_getElem? hx), hide (fun V hV => ⟨(hV.cell (cell_lt c0)).trans c0, (hV.cell (cell_lt c1)).trans c1, (hV.cell (cell_lt c2)).trans c2, (hV.cell (cell_lt c3)).trans c3, (hV.cell (cell_lt c4)).trans c4⟩)⟩

theorem int_at {W : World} {a : Option Addr} {n cap : Nat} {zs : List Int} (h : Ints W a n cap zs) {k : Nat} (hk : k < n) : ∃ b off z, a = some ⟨b, off, none⟩ ∧ Hid (∀ V, Below W.heap.size W V → V.cell? ⟨b, off + k, none⟩ = some (.int .i64 z)) := by
  have hl := h.len
  obtain ⟨b, off, ha, hc⟩ := h.lies (by omega)
  have hx : zs[k]? = some zs[k] := List.getElem?_eq_getElem (by omega)
  have c0 : W.cell? ⟨b, off + k, none⟩ = some (.int .i64 zs[k]) := by simpa using hc k _ hx 0 _ rfl
  exact ⟨b, off, zs[k], ha, hide (fun V hV => (hV.cell (cell_lt c0)).trans c0)⟩

section
variable {P : Program} {w w' : World} {ops : Array Oper} {rest : List Oper} {o : Oper} {a : Act} {Q : Exit → Act → World → Prop}
theorem wpList_append_run2 (hg : o.guard = none) (t : TypeId) (m x : Operand) (hop : o.op = Op.call { callee := Callee.builtin Builtin.append, args := #[m, x], argTypes := #[t, t] }) (mv key v : Value) (hm : a.eval m = mv) (hx : a.eval x = key) (hrun : (Builtin.append_ #[t, t] o.type #[mv, key]).run P w = .ok v w')
    (hK : wpList P ops Q rest (a.put o.dst v) w') : wpList P ops Q (o :: rest) a w := by
  refine wpList_plain hg fun K hK' => ?_
  unfold Oper.wp
  simp [execOp, hop, resolve, invoke, builtin, hm, hx, hrun, Result.andThen]
  exact hK' _ _ hK
end

namespace segmentKept

set_option maxHeartbeats 8000000 in
theorem walk (a : Option Addr) (n cap : Nat) (xs : List Lf) (w : World) (hX : Lr Lf.cells 5 (Lf.Ok w) w a n cap xs) : Calls Tryz.prog 4 #[.slice a n cap] w fun e w' => e = .returned (.bool true) ∧ Below w.heap.size w w' := by
  obtain ⟨s, hs⟩ : ∃ s, Hid (s = sS) := ⟨_, hide rfl⟩
  have hss : s.size ≤ 1000000 := by rw [hs.out]; decide
  have hs1 : Hid (1 ≤ s.size ∧ s.size ≤ 64) := hide (by rw [hs.out]; decide)
  have hle := hX.le
  have hre := hX.reach
  have HX := hide hX
  clear hX
  go_enter Tryz.func4, Tryz.ntmps4
  go_wp2_with fail
  refine (ay_new (w := w)).mono ?_
  rintro e W1 ⟨R, rfl, hRs, hA1⟩
  have HA1 : Hid (∃ P, Ay w P R newDsk W1 ∧ All P w.heap.size W1 (.slice none 0 0) []) := hide ⟨_, hA1, All.nil⟩
  clear hA1 hRs
  go_wp2_with fail
  go_loopw [4, 5] (fun v iv wr => ∃ (k : Nat) (L : List (List Int)) (d : Dsk), k ≤ n ∧ k ≤ 3 ∧ iv = .int .i64 k ∧ Hid (∃ P, Ay w P R d wr ∧ All P w.heap.size wr v L) ∧ Hid (Whole s d L (30 * k) (10 + 1000 * k))) (fun _ iv _ => n - (intOf iv).toNat)
  case atStart => exact ⟨0, [], newDsk, Nat.zero_le _, by omega, rfl, HA1, hide (whole_new s)⟩
  case round =>
    obtain ⟨k, L, d, hkn, hk3, rfl, hA, hWh⟩ := hrel
    have HBW : Hid (Below w.heap.size w wr) := hide (by obtain ⟨P, h1, _⟩ := hA.out; exact h1.below)
    by_cases hgo : k < n ∧ k < 3
    · obtain ⟨h1, h2⟩ := hgo
      obtain ⟨b, off, x, ha, hok, hcx⟩ := lf_at HX.out h1
      subst ha
      obtain ⟨⟨zs, hzs⟩, ⟨ks, hks⟩, ⟨ls, hls⟩⟩ := hok
      have HZ := hide hzs
      have HK := hide hks
      have HL := hide hls
      have hwle := hzs.le
      have hwre := hzs.reach
      clear hzs hks hls
      obtain ⟨c0, c1, c2, c3, c4⟩ := hcx.out wr HBW.out
      have hfl := hWh.out.fl
      have hLn : L.length ≤ 10000 := by
        have := flat_len4 L
        omega
      obtain ⟨P0, ay0, al0⟩ := hA.out
      obtain ⟨va, vc, hv, hv1, hv2⟩ := al0.val (by omega)
      subst hv
      obtain ⟨xc, hxc⟩ : ∃ xc : Array Value, Hid (xc = #[.slice x.wa x.wn x.wc, .int .i64 x.arm, .slice x.ka x.kn x.kc, .slice x.la x.ln x.lc, .int .i64 x.again]) := ⟨_, hide rfl⟩
      obtain ⟨G, hG⟩ : ∃ G, Hid (wr.heap.size = G) := ⟨_, hide rfl⟩
      obtain ⟨X0, hX0⟩ : ∃ X0, Hid (X0 = wr.alloc (.cells #[.slice x.wa x.wn x.wc, .int .i64 x.arm, .slice x.ka x.kn x.kc, .slice x.la x.ln x.lc, .int .i64 x.again] (45 : TypeId))) := ⟨_, hide rfl⟩
      have ov0 : Ov w R G xc d L (.slice va L.length vc) X0 := by
        have := Ov.lay (V := X0) (xc := xc) ay0 al0 (by rw [hX0.out, hxc.out])
        rw [hG.out] at this
        exact this
      obtain ⟨o1, o2, o3⟩ := hWh.out.opn hs1.out (by omega) (by omega)
      have CO := ov0.opn (s := s) hWh.out.bw (by omega) hss
      rw [o1, o2] at CO
      obtain ⟨d1, hd1⟩ : ∃ d1, Hid (d1 = (d.opn s).2) := ⟨_, hide rfl⟩
      rw [← hd1.out] at CO o3
      have W1 := hide o3
      obtain ⟨N, hN⟩ : ∃ N, Hid (N = L.length) := ⟨_, hide rfl⟩
      rw [← hN.out] at CO hLn hv1 ⊢
      have HG5 : Hid (∀ V v L d, Ov w R G xc d L v V → V.cell? ⟨G, 0, none⟩ = some (.slice x.wa x.wn x.wc) ∧ V.cell? ⟨G, 1, none⟩ = some (.int .i64 x.arm) ∧ V.cell? ⟨G, 2, none⟩ = some (.slice x.ka x.kn x.kc) ∧ V.cell? ⟨G, 3, none⟩ = some (.slice x.la x.ln x.lc) ∧ V.cell? ⟨G, 4, none⟩ = some (.int .i64 x.again)) := hide (fun V v L d ov => by
        have := ov.blk
        rw [hxc.out] at this
        exact ⟨cell_of_row V _ 0 _ _ _ this, cell_of_row V _ 1 _ _ _ this, cell_of_row V _ 2 _ _ _ this, cell_of_row V _ 3 _ _ _ this, cell_of_row V _ 4 _ _ _ this⟩)
      clear ay0 al0 ov0 o1 o2 o3 hA hWh HBW hd1 hfl hxc
      go_wp2_with (first | (rw [← hX0.out, hG.out]))
      try rw [← hX0.out, hG.out]
      rw [show ({ data := #[115] } : ByteArray) = s from hs.out.symm]
      refine CO.mono ?_
      rintro e W2 ⟨pv, rfl, _, hS⟩
      obtain ⟨S, rfl, lv2⟩ := hS trivial
      have CT := lv2.told
      clear CO lv2 c0 c1 c2 c3 c4 hX0 hG
      go_wp2_with fail
      refine CT.mono ?_
      rintro e W3 ⟨ta, tn, tc, rfl, htn, rlt, lv3, _, _⟩
      have HTN := hide htn
      clear htn
      obtain ⟨P3, al3⟩ := lv3.ov.all
      rw [hN.out] at lv3 al3
      have CSL := lists_any ta va tn tc L.length vc L L W3 rlt (al3.rl rfl ⟨by rw [← hN.out]; exact hv1, hv2⟩)
      rw [decide_eq_true rfl, ← hN.out] at CSL
      rw [← hN.out] at lv3
      have tl1 := rlt.le
      have tl2 := rlt.reach
      have LV3 := hide lv3
      clear CT rlt al3 lv3
      go_wp2_with fail
      refine CSL.mono ?_
      rintro e W4 ⟨rfl, q4, hq4⟩
      have lv4 := LV3.out.new (V := W4) (by rw [hq4]; exact below_drewN (Below.refl _ _) _)
      obtain ⟨_, g1, _⟩ := HG5.out _ _ _ _ lv4.ov
      have LV4 := hide lv4
      clear CSL LV3 hq4 lv4
      go_wp2_with fail
      refine (pick_any x.arm 150 W4 (by omega) (by omega)).mono ?_
      rintro e W5 ⟨p, hp, rfl, hw5⟩
      subst hw5
      have CA := LV4.out.arm p (by omega)
      clear LV4
      go_wp2_with fail
      refine CA.mono ?_
      rintro e W6 ⟨rfl, lv6⟩
      have mid6 := W1.out.mid (p : Int)
      rw [← hN.out] at mid6
      have HI : Hid (∃ bs br d, Lv w R S G xc s d bs br L (.slice va N vc) W6 ∧ Mid s d bs br L N (30 * k + 0) (10 + 1000 * k + 4 + 20 * 0)) := hide ⟨_, _, _, lv6, mid6⟩
      clear CA lv6 mid6 g1 W1
      go_wp2_with fail
      obtain ⟨wl, hwl⟩ : ∃ wl : World, wl = wr := ⟨_, rfl⟩
      subst hwl
      go_loopw [4, 9, 10] (fun v yv jv wr => ∃ (j y : Nat) (L : List (List Int)), j ≤ 30 ∧ jv = .int .i64 j ∧ yv = .int .i64 y ∧ Hid (∃ bs br d, Lv w R S G xc s d bs br L v wr ∧ Mid s d bs br L y (30 * k + j) (10 + 1000 * k + 4 + 20 * j))) (fun _ _ jv _ => 30 - (intOf jv).toNat)
      case atStart =>
        exact ⟨0, N, L, by omega, rfl, rfl, HI⟩
      case round =>
        clear HI hN hv1 hv2 hLn
        obtain ⟨j, y, L, hj30, rfl, rfl, hin⟩ := hrel
        obtain ⟨bs, br, d, lv, mid⟩ := hin.out
        have hfl := mid.fl
        have hLn : L.length ≤ 10000 := by
          have := flat_len4 L
          omega
        have hyl := mid.yl
        obtain ⟨P0, al0⟩ := lv.ov.all
        obtain ⟨va, vc, hv, hv1, hv2⟩ := al0.val (by omega)
        subst hv
        obtain ⟨g0, _⟩ := HG5.out _ _ _ _ lv.ov
        obtain ⟨N, hN⟩ : ∃ N, Hid (N = L.length) := ⟨_, hide rfl⟩
        rw [← hN.out] at hLn hyl hv1 lv ⊢
        have LV := hide lv
        have MID := hide mid
        have BEL := hide lv.below
        clear hin lv mid al0 hfl
        by_cases hjn : j < x.wn
        · have CB := LV.out.broken
          have hji : (j : Int) < (x.wn : Int) := by omega
          by_cases hj3 : j < 30
          · have hj3i : (j : Int) < 30 := by omega
            have hbb : br = false ∨ br = true := by cases br <;> simp
            rcases hbb with hbr | hbr
            · subst hbr
              obtain ⟨wb, wo, z, hwa, hz⟩ := int_at HZ.out hjn
              have cz := hz.out _ BEL.out
              rw [hwa] at g0
              clear hwa
              go_wp2_with fail
              refine CB.mono ?_
              rintro e V0 ⟨rfl, hV0⟩
              subst hV0
              clear CB
              go_wp2_with fail
              refine (pick_any z 1000003 V0 (by omega) (by omega)).mono ?_
              rintro e V0 ⟨q, hq, rfl, hV0⟩
              subst hV0
              have ht7 : (q : Int).tmod 7 = ((q % 7 : Nat) : Int) := by
                rw [Int.tmod_eq_emod_of_nonneg (by omega)]
                simp
              have hc7 : q % 7 < 7 := Nat.mod_lt _ (by omega)
              obtain ⟨c, hc⟩ : ∃ c, Hid (c = q % 7) := ⟨_, hide rfl⟩
              rw [← hc.out] at ht7 hc7
              have hwc : IntKind.i64.wrap (c : Int) = (c : Int) := by simp [IntKind.wrap, IntKind.signed, IntKind.bits]; omega
              have hqd : (q : Int).tdiv 7 = ((q / 7 : Nat) : Int) := by
                rw [Int.tdiv_eq_ediv_of_nonneg (by omega)]
                simp
              have hqd2 : q / 7 ≤ 1000003 := by omega
              obtain ⟨Q, hQ⟩ : ∃ Q, Hid (Q = q / 7) := ⟨_, hide rfl⟩
              rw [← hQ.out] at hqd hqd2
              have hwQ : IntKind.i64.wrap (Q : Int) = (Q : Int) := by simp [IntKind.wrap, IntKind.signed, IntKind.bits]; omega
              clear cz g0 hz
              by_cases hc01 : c = 0 ∨ c = 1
              · rcases hc01 with hcv | hcv
                · subst hcv
                  clear hqd hwQ
                  have CY := LV.out.sync MID.out.bw (by omega) hss
                  have HM := hide MID.out.sync
                  obtain ⟨er, her⟩ : ∃ er, Hid (er = (d.ssync s false).1) := ⟨_, hide rfl⟩
                  rw [← her.out] at CY
                  rcases HM.out with ⟨m1, m2, m3⟩ | ⟨m1, m2, m3⟩
                  · obtain rfl : er = 0 := by rw [her.out]; exact m1
                    have M3 := hide m3
                    clear m1 m3 HM LV MID
                    go_wp2_with fail
                    refine CY.mono ?_
                    rintro e V1 ⟨rfl, lv1⟩
                    rw [m2] at lv1
                    have HI : Hid (∃ bs br d, Lv w R S G xc s d bs br L (.slice va N vc) V1 ∧ Mid s d bs br L N (30 * k + (j + 1)) (10 + 1000 * k + 4 + 20 * (j + 1))) := hide ⟨_, _, _, lv1, by rw [hN.out]; exact M3.out.wide (by omega) (by omega)⟩
                    clear CY lv1
                    go_wp2_with fail
                    go_roundw
                    case rel => exact ⟨j + 1, N, L, by omega, by go_num, rfl, HI⟩
                    case measure => simp [intOf]; omega
                  · have hne : er ≠ 0 := by rw [her.out]; exact m1
                    have hneb : (er == 0) = false := by simpa using hne
                    have M3 := hide m3
                    clear m1 m3 HM LV MID
                    go_wp2_with fail
                    refine CY.mono ?_
                    rintro e V1 ⟨rfl, lv1⟩
                    rw [m2] at lv1
                    have HI : Hid (∃ bs br d, Lv w R S G xc s d bs br L (.slice va N vc) V1 ∧ Mid s d bs br L y (30 * k + (j + 1)) (10 + 1000 * k + 4 + 20 * (j + 1))) := hide ⟨_, _, _, lv1, M3.out.wide (by omega) (by omega)⟩
                    clear CY lv1
                    go_wp2_with fail
                    go_roundw
                    case rel => exact ⟨j + 1, y, L, by omega, by go_num, rfl, HI⟩
                    case measure => simp [intOf]; omega
                · subst hcv
                  clear hqd hwQ
                  have CY := LV.out.sync MID.out.bw (by omega) hss
                  have HM := hide MID.out.sync
                  obtain ⟨er, her⟩ : ∃ er, Hid (er = (d.ssync s false).1) := ⟨_, hide rfl⟩
                  rw [← her.out] at CY
                  rcases HM.out with ⟨m1, m2, m3⟩ | ⟨m1, m2, m3⟩
                  · obtain rfl : er = 0 := by rw [her.out]; exact m1
                    have M3 := hide m3
                    clear m1 m3 HM LV MID
                    go_wp2_with fail
                    refine CY.mono ?_
                    rintro e V1 ⟨rfl, lv1⟩
                    rw [m2] at lv1
                    have HI : Hid (∃ bs br d, Lv w R S G xc s d bs br L (.slice va N vc) V1 ∧ Mid s d bs br L N (30 * k + (j + 1)) (10 + 1000 * k + 4 + 20 * (j + 1))) := hide ⟨_, _, _, lv1, by rw [hN.out]; exact M3.out.wide (by omega) (by omega)⟩
                    clear CY lv1
                    go_wp2_with fail
                    go_roundw
                    case rel => exact ⟨j + 1, N, L, by omega, by go_num, rfl, HI⟩
                    case measure => simp [intOf]; omega
                  · have hne : er ≠ 0 := by rw [her.out]; exact m1
                    have hneb : (er == 0) = false := by simpa using hne
                    have M3 := hide m3
                    clear m1 m3 HM LV MID
                    go_wp2_with fail
                    refine CY.mono ?_
                    rintro e V1 ⟨rfl, lv1⟩
                    rw [m2] at lv1
                    have HI : Hid (∃ bs br d, Lv w R S G xc s d bs br L (.slice va N vc) V1 ∧ Mid s d bs br L y (30 * k + (j + 1)) (10 + 1000 * k + 4 + 20 * (j + 1))) := hide ⟨_, _, _, lv1, M3.out.wide (by omega) (by omega)⟩
                    clear CY lv1
                    go_wp2_with fail
                    go_roundw
                    case rel => exact ⟨j + 1, y, L, by omega, by go_num, rfl, HI⟩
                    case measure => simp [intOf]; omega
              by_cases hc2 : c = 2
              · subst hc2
                have ht3 : (q : Int).tmod 3 = ((q % 3 : Nat) : Int) := by
                  rw [Int.tmod_eq_emod_of_nonneg (by omega)]
                  simp
                obtain ⟨c3, hc3⟩ : ∃ c3, Hid (c3 = q % 3) := ⟨_, hide rfl⟩
                rw [← hc3.out] at ht3
                have hc33 : c3 < 3 := by rw [hc3.out]; exact Nat.mod_lt _ (by omega)
                have hw3 : IntKind.i64.wrap (c3 : Int) = (c3 : Int) := by simp [IntKind.wrap, IntKind.signed, IntKind.bits]; omega
                have HSAME : Hid (∃ bs br d, Lv w R S G xc s d bs br L (.slice va N vc) V0 ∧ Mid s d bs br L y (30 * k + (j + 1)) (10 + 1000 * k + 4 + 20 * (j + 1))) := hide ⟨_, _, _, LV.out, MID.out.wide (by omega) (by omega)⟩
                by_cases h3 : 0 < c3
                · have h3i : (0 : Int) < (c3 : Int) := by omega
                  have HI := HSAME
                  clear HSAME LV MID
                  go_wp2_with fail
                  go_roundw
                  case rel => exact ⟨j + 1, y, L, by omega, by go_num, rfl, HI⟩
                  case measure => simp [intOf]; omega
                · obtain rfl : c3 = 0 := by omega
                  have hwN : IntKind.i64.wrap ((N : Int) + 1) = (N : Int) + 1 := by simp [IntKind.wrap, IntKind.signed, IntKind.bits]; omega
                  have htm : (Q : Int).tmod ((N : Int) + 1) = ((Q % (N + 1) : Nat) : Int) := by
                    rw [Int.tmod_eq_emod_of_nonneg (by omega)]
                    push_cast
                    rfl
                  have hml : Q % (N + 1) < N + 1 := Nat.mod_lt _ (by omega)
                  obtain ⟨m, hm⟩ : ∃ m, Hid (m = Q % (N + 1)) := ⟨_, hide rfl⟩
                  rw [← hm.out] at htm hml
                  have hwm : IntKind.i64.wrap (m : Int) = (m : Int) := by simp [IntKind.wrap, IntKind.signed, IntKind.bits]; omega
                  have hN1 : ((N : Int) + 1 == 0) = false := by rw [beq_eq_false_iff_ne]; omega
                  have hrem : ∀ V : World, (Op.intDiv .rem .i64 (Q : Int) ((N : Int) + 1)).run Tryz.prog V = .ok (.int .i64 (m : Int)) V := fun V => by
                    simp [Op.intDiv, htm, show (N : Int) + 1 ≠ 0 by omega]
                  by_cases hmN : m = N
                  · have hmi : ((m : Int) == (N : Int)) = true := by rw [hmN]; simp
                    have HI := HSAME
                    clear HSAME LV MID
                    go_wp2_with fail
                    go_roundw
                    case rel => exact ⟨j + 1, y, L, by omega, by go_num, rfl, HI⟩
                    case measure => simp [intOf]; omega
                  · have hmi : ((m : Int) == (N : Int)) = false := by rw [beq_eq_false_iff_ne]; omega
                    have hmlt : m < L.length := by rw [← hN.out]; omega
                    have CY := LV.out.trunc (n := (m : Int)) MID.out.bw (by omega) hss (by omega)
                    have HM := hide (MID.out.trunc hs1.out (by omega) hmlt (by omega))
                    obtain ⟨er, her⟩ : ∃ er, Hid (er = (d.strunc s bs false (m : Int)).err) := ⟨_, hide rfl⟩
                    rw [← her.out] at CY
                    clear HSAME
                    rcases HM.out with ⟨m1, m2, m3⟩ | ⟨m1, m2, m3⟩
                    · obtain rfl : er = 0 := by rw [her.out]; exact m1
                      have M3 := hide m3
                      have LV0 := LV
                      clear m1 m3 HM LV MID
                      go_wp2_with fail
                      refine CY.mono ?_
                      rintro e V1 ⟨rfl, lv1⟩
                      rw [m2] at lv1
                      obtain ⟨P1, r1, r2, r3, r4⟩ := lv1.ex
                      rw [hN.out] at r2
                      obtain ⟨g, cap1, hg, hgc, alc⟩ := r2.cut hmlt
                      rw [← hN.out] at hg hgc
                      simp only [Value.slice.injEq] at hg
                      obtain ⟨rfl, _, rfl⟩ := hg
                      have hmle : (m : Int) ≤ (N : Int) := by omega
                      have hmc : (m : Int) ≤ (vc : Int) := by omega
                      have HI : Hid (∃ bs br d, Lv w R S G xc s d bs br (L.take m) (.slice (some ⟨g, 0, none⟩) m m) V1 ∧ Mid s d bs br (L.take m) m (30 * k + (j + 1)) (10 + 1000 * k + 4 + 20 * (j + 1))) := hide ⟨_, _, _, ⟨P1, r1, alc, r3, r4⟩, M3.out.wide (by omega) (by omega)⟩
                      clear CY lv1 r1 r2 r3 r4 alc LV0
                      go_wp2_with fail
                      go_roundw
                      case rel => exact ⟨j + 1, m, L.take m, by omega, by go_num, (by simp), HI⟩
                      case measure => simp [intOf]; omega
                    · have hne : er ≠ 0 := by rw [her.out]; exact m1
                      have hneb : (er == 0) = false := by simpa using hne
                      have M3 := hide m3
                      clear m1 m3 HM LV MID
                      go_wp2_with fail
                      refine CY.mono ?_
                      rintro e V1 ⟨rfl, lv1⟩
                      rw [m2] at lv1
                      have HI : Hid (∃ bs br d, Lv w R S G xc s d bs br L (.slice va N vc) V1 ∧ Mid s d bs br L (min y m) (30 * k + (j + 1)) (10 + 1000 * k + 4 + 20 * (j + 1))) := hide ⟨_, _, _, lv1, M3.out.wide (by omega) (by omega)⟩
                      clear CY lv1
                      go_wp2_with fail
                      go_roundw
                      case rel => exact ⟨j + 1, min y m, L, by omega, by go_num, (by congr 1; omega), HI⟩
                      case measure => simp [intOf]; omega
              have hb0 : ((c : Int) == 0) = false := by rw [beq_eq_false_iff_ne]; omega
              have hb1 : ((c : Int) == 1) = false := by rw [beq_eq_false_iff_ne]; omega
              have hb2 : ((c : Int) == 2) = false := by rw [beq_eq_false_iff_ne]; omega
              have ht200 : (Q : Int).tmod 200 = ((Q % 200 : Nat) : Int) := by
                rw [Int.tmod_eq_emod_of_nonneg (by omega)]
                simp
              obtain ⟨M, hM⟩ : ∃ M, Hid (M = Q % 200) := ⟨_, hide rfl⟩
              rw [← hM.out] at ht200
              have hM2 : M < 200 := by rw [hM.out]; exact Nat.mod_lt _ (by omega)
              have hwM : IntKind.i64.wrap (M : Int) = (M : Int) := by simp [IntKind.wrap, IntKind.signed, IntKind.bits]; omega
              have CM := LV.out.made (seed := q) (n := M) (by omega) (by omega)
              clear LV
              go_wp2_with fail
              refine CM.mono ?_
              rintro e V1 ⟨rfl, lvb⟩
              obtain ⟨g, hg⟩ : ∃ g, Hid (g = V0.heap.size) := ⟨_, hide rfl⟩
              rw [← hg.out] at lvb ⊢
              have hbl := mk_length q M
              have hby := mk_byte q M
              generalize _root_.Go.Proofs.YtkdolabhcbjipaaGreat.mk q M = bb at *
              have CP := lvb.append MID.out.bw (by omega) hss
              have HM := hide (MID.out.app (b := bb) hs1.out (by omega) (by omega) hby (by omega))
              obtain ⟨er, her⟩ : ∃ er, Hid (er = (d.sapp s bs false bb).err) := ⟨_, hide rfl⟩
              obtain ⟨at9, hat⟩ : ∃ at9, Hid (at9 = (d.sapp s bs false bb).at') := ⟨_, hide rfl⟩
              rw [← her.out, ← hat.out] at CP
              clear CM lvb hbl hby MID hg
              rcases HM.out with ⟨m1, m0, m2, m3⟩ | ⟨m1, m2, m3⟩
              · obtain rfl : er = 0 := by rw [her.out]; exact m1
                have hatN : at9 = (N : Int) := by rw [hat.out, m0, hN.out]
                subst hatN
                have M3 := hide m3
                clear m1 m3 HM m0 hat
                go_wp2_with fail
                refine CP.mono ?_
                rintro e V2 ⟨rfl, lv2⟩
                rw [m2] at lv2
                obtain ⟨v9, X9, run9, lv9⟩ := lv2.more (by rw [← hN.out]; exact hLn)
                try rw [← hN.out] at run9
                obtain ⟨Y9, hY9⟩ : ∃ Y9, Hid (Y9 = V2.alloc (.cells #[.slice (some ⟨g, 0, none⟩) M M] 30)) := ⟨_, hide rfl⟩
                obtain ⟨g9, hg9⟩ : ∃ g9, Hid (V2.heap.size = g9) := ⟨_, hide rfl⟩
                rw [← hY9.out, hg9.out] at run9
                have HI : Hid (∃ bs br d, Lv w R S G xc s d bs br (L ++ [bb]) v9 X9 ∧ Mid s d bs br (L ++ [bb]) y (30 * k + (j + 1)) (10 + 1000 * k + 4 + 20 * (j + 1))) := hide ⟨_, _, _, lv9, M3.out.wide (by omega) (by omega)⟩
                clear lv9 lv2 M3 hN
                go_wp2_with (first | (rw [← hY9.out, hg9.out]) | (at_builtin; refine wpList_append_run2 rfl (42 : TypeId) _ _ rfl (.slice va N vc) (.slice (some ⟨g9, 0, none⟩) 1 1) v9 (by simp [Act.eval]) (by simp [Act.eval]) run9 ?_))
                go_roundw
                case rel => exact ⟨j + 1, y, L ++ [bb], by omega, by go_num, rfl, HI⟩
                case measure => simp [intOf]; omega
              · have hne : er ≠ 0 := by rw [her.out]; exact m1
                have hneb : (er == 0) = false := by simpa using hne
                have M3 := hide m3
                clear m1 m3 HM hat
                go_wp2_with fail
                refine CP.mono ?_
                rintro e V2 ⟨rfl, lv2⟩
                rw [m2] at lv2
                have CBK := lv2.broken
                have LV2 := hide lv2
                clear lv2 CP
                go_wp2_with fail
                refine CBK.mono ?_
                rintro e V3 ⟨rfl, hV3⟩
                subst hV3
                have lv2 := LV2.out
                clear CBK LV2
                obtain ⟨v9, X9, run9, lv9⟩ := lv2.more (by rw [← hN.out]; exact hLn)
                try rw [← hN.out] at run9
                obtain ⟨Y9, hY9⟩ : ∃ Y9, Hid (Y9 = V3.alloc (.cells #[.slice (some ⟨g, 0, none⟩) M M] 30)) := ⟨_, hide rfl⟩
                obtain ⟨g9, hg9⟩ : ∃ g9, Hid (V3.heap.size = g9) := ⟨_, hide rfl⟩
                rw [← hY9.out, hg9.out] at run9
                have HI : Hid (∃ bs br d, Lv w R S G xc s d bs br (L ++ [bb]) v9 X9 ∧ Mid s d bs br (L ++ [bb]) y (30 * k + (j + 1)) (10 + 1000 * k + 4 + 20 * (j + 1))) := hide ⟨_, _, _, lv9, M3.out.wide (by omega) (by omega)⟩
                clear lv9 lv2 M3 hN
                go_wp2_with (first | (rw [← hY9.out, hg9.out]) | (at_builtin; refine wpList_append_run2 rfl (42 : TypeId) _ _ rfl (.slice va N vc) (.slice (some ⟨g9, 0, none⟩) 1 1) v9 (by simp [Act.eval]) (by simp [Act.eval]) run9 ?_))
                go_roundw
                case rel => exact ⟨j + 1, y, L ++ [bb], by omega, by go_num, rfl, HI⟩
                case measure => simp [intOf]; omega
            · subst hbr
              have OV := hide LV.out.ov
              obtain ⟨_, _, t2, _, _⟩ := HG5.out _ _ _ _ OV.out
              have CC1 := OV.out.crash (K := 10 + 1000 * k + 4 + 20 * j) MID.out.bw (by omega) HK.out
              go_wp2_with fail
              refine CB.mono ?_
              rintro e V0 ⟨rfl, hV0⟩
              subst hV0
              clear CB
              go_wp2_with fail
              refine CC1.mono ?_
              rintro e V1 ⟨rfl, ov1⟩
              obtain ⟨_, _, _, _, t4⟩ := HG5.out _ _ _ _ ov1
              have OV1 := hide ov1
              clear CC1 ov1 t2 OV LV
              go_wp2_with fail
              refine (pick_any x.again 4 V1 (by omega) (by omega)).mono ?_
              rintro e V2 ⟨p7, hp7, rfl, hw7⟩
              subst hw7
              obtain ⟨D1, D2, D3, D4, e1, e2, bw1, bw2, e3, bw3, e4, bw4, e5, kk, f1, f2, f3, f4⟩ := MID.out.dies hs1.out (by omega) (by omega) ks ls (p7 : Int)
              have F3 := hide f3
              have F4 := hide f4
              have BW1 := hide bw1
              have BW2 := hide bw2
              have BW3 := hide bw3
              have BW4 := hide bw4
              have ov1 := OV1.out
              rw [e1] at ov1
              have CA1 := ov1.arm p7 (by omega)
              rw [e2] at CA1
              have E3 := hide e3
              have E4 := hide e4
              have E5 := hide e5
              clear e1 e2 bw1 bw2 e3 bw3 e4 bw4 e5 f3 f4 OV1 ov1 MID t4
              go_wp2_with fail
              refine CA1.mono ?_
              rintro e V3 ⟨rfl, ov3⟩
              have CO3 := ov3.opn (s := s) BW2.out (by omega) hss
              rw [E3.out] at CO3
              clear CA1 ov3
              go_wp2_with fail
              rw [show ({ data := #[115] } : ByteArray) = s from hs.out.symm]
              refine CO3.mono ?_
              rintro e V4 ⟨pv, rfl, ov4, _⟩
              obtain ⟨_, _, _, t3, _⟩ := HG5.out _ _ _ _ ov4
              have CC2 := ov4.crash BW3.out (by omega) HL.out
              rw [E4.out] at CC2
              clear CO3 ov4
              go_wp2_with fail
              refine CC2.mono ?_
              rintro e V5 ⟨rfl, ov5⟩
              have CO5 := ov5.opn (s := s) BW4.out (by omega) hss
              rw [E5.out, F3.out] at CO5
              clear CC2 ov5 t3
              go_wp2_with fail
              rw [show ({ data := #[115] } : ByteArray) = s from hs.out.symm]
              refine CO5.mono ?_
              rintro e V6 ⟨pv, rfl, _, hS6⟩
              obtain ⟨S6, rfl, lv6⟩ := hS6 trivial
              have CT6 := lv6.told
              clear CO5 hS6 lv6
              go_wp2_with fail
              refine CT6.mono ?_
              rintro e V7 ⟨ta, tn, tc, rfl, htn, rlt, lv7, _, _⟩
              have htk : tn = kk := by rw [htn, List.length_take]; omega
              subst htk
              obtain ⟨P7, al7⟩ := lv7.ov.all
              have CB := begins_yes (w := V7) (ys := L) (n := tn) (m := L.length) (least := y) rlt (al7.rl (by rw [hN.out]) ⟨by rw [← hN.out]; exact hv1, hv2⟩) f1 f2
              rw [← hN.out] at CB
              have tl1 := rlt.le
              have tl2 := rlt.reach
              have LV7 := hide lv7
              clear CT6 rlt al7 lv7 htn
              go_wp2_with fail
              refine CB.mono ?_
              rintro e V8 ⟨rfl, q8, hq8⟩
              have lv8 := LV7.out.new (V := V8) (by rw [hq8]; exact below_drewN (Below.refl _ _) _)
              have CT8 := lv8.told
              clear CB LV7 lv8 hq8
              go_wp2_with fail
              refine CT8.mono ?_
              rintro e V9 ⟨ua, un, uc, rfl, hun, _, _, _, hfin⟩
              have hunt : tn = un := by rw [hun, List.length_take]; omega
              subst hunt
              clear hun
              have HF := hide hfin
              have HWF : Hid (Whole s (D4.opn s).2 (L.take tn) (30 * (k + 1)) (10 + 1000 * (k + 1))) := hide (by
                obtain ⟨w1, w2, w3, w4, w5, w6⟩ := F4.out
                exact ⟨w1.wide (by omega), w2, w3, by omega, w5, w6⟩)
              clear CT8 hfin F4
              go_wp2_with fail
              go_roundw
              case rel => exact ⟨k + 1, L.take tn, (D4.opn s).2, by omega, by omega, by go_num, HF, HWF⟩
              case measure => simp [intOf]; omega
          · have hj3i : ¬ ((j : Int) < 30) := by omega
            clear CB
            have OV := hide LV.out.ov
            obtain ⟨_, _, t2, _, _⟩ := HG5.out _ _ _ _ OV.out
            have CC1 := OV.out.crash (K := 10 + 1000 * k + 4 + 20 * j) MID.out.bw (by omega) HK.out
            go_wp2_with fail
            refine CC1.mono ?_
            rintro e V1 ⟨rfl, ov1⟩
            obtain ⟨_, _, _, _, t4⟩ := HG5.out _ _ _ _ ov1
            have OV1 := hide ov1
            clear CC1 ov1 t2 OV LV
            go_wp2_with fail
            refine (pick_any x.again 4 V1 (by omega) (by omega)).mono ?_
            rintro e V2 ⟨p7, hp7, rfl, hw7⟩
            subst hw7
            obtain ⟨D1, D2, D3, D4, e1, e2, bw1, bw2, e3, bw3, e4, bw4, e5, kk, f1, f2, f3, f4⟩ := MID.out.dies hs1.out (by omega) (by omega) ks ls (p7 : Int)
            have F3 := hide f3
            have F4 := hide f4
            have BW1 := hide bw1
            have BW2 := hide bw2
            have BW3 := hide bw3
            have BW4 := hide bw4
            have ov1 := OV1.out
            rw [e1] at ov1
            have CA1 := ov1.arm p7 (by omega)
            rw [e2] at CA1
            have E3 := hide e3
            have E4 := hide e4
            have E5 := hide e5
            clear e1 e2 bw1 bw2 e3 bw3 e4 bw4 e5 f3 f4 OV1 ov1 MID t4
            go_wp2_with fail
            refine CA1.mono ?_
            rintro e V3 ⟨rfl, ov3⟩
            have CO3 := ov3.opn (s := s) BW2.out (by omega) hss
            rw [E3.out] at CO3
            clear CA1 ov3
            go_wp2_with fail
            rw [show ({ data := #[115] } : ByteArray) = s from hs.out.symm]
            refine CO3.mono ?_
            rintro e V4 ⟨pv, rfl, ov4, _⟩
            obtain ⟨_, _, _, t3, _⟩ := HG5.out _ _ _ _ ov4
            have CC2 := ov4.crash BW3.out (by omega) HL.out
            rw [E4.out] at CC2
            clear CO3 ov4
            go_wp2_with fail
            refine CC2.mono ?_
            rintro e V5 ⟨rfl, ov5⟩
            have CO5 := ov5.opn (s := s) BW4.out (by omega) hss
            rw [E5.out, F3.out] at CO5
            clear CC2 ov5 t3
            go_wp2_with fail
            rw [show ({ data := #[115] } : ByteArray) = s from hs.out.symm]
            refine CO5.mono ?_
            rintro e V6 ⟨pv, rfl, _, hS6⟩
            obtain ⟨S6, rfl, lv6⟩ := hS6 trivial
            have CT6 := lv6.told
            clear CO5 hS6 lv6
            go_wp2_with fail
            refine CT6.mono ?_
            rintro e V7 ⟨ta, tn, tc, rfl, htn, rlt, lv7, _, _⟩
            have htk : tn = kk := by rw [htn, List.length_take]; omega
            subst htk
            obtain ⟨P7, al7⟩ := lv7.ov.all
            have CB := begins_yes (w := V7) (ys := L) (n := tn) (m := L.length) (least := y) rlt (al7.rl (by rw [hN.out]) ⟨by rw [← hN.out]; exact hv1, hv2⟩) f1 f2
            rw [← hN.out] at CB
            have tl1 := rlt.le
            have tl2 := rlt.reach
            have LV7 := hide lv7
            clear CT6 rlt al7 lv7 htn
            go_wp2_with fail
            refine CB.mono ?_
            rintro e V8 ⟨rfl, q8, hq8⟩
            have lv8 := LV7.out.new (V := V8) (by rw [hq8]; exact below_drewN (Below.refl _ _) _)
            have CT8 := lv8.told
            clear CB LV7 lv8 hq8
            go_wp2_with fail
            refine CT8.mono ?_
            rintro e V9 ⟨ua, un, uc, rfl, hun, _, _, _, hfin⟩
            have hunt : tn = un := by rw [hun, List.length_take]; omega
            subst hunt
            clear hun
            have HF := hide hfin
            have HWF : Hid (Whole s (D4.opn s).2 (L.take tn) (30 * (k + 1)) (10 + 1000 * (k + 1))) := hide (by
              obtain ⟨w1, w2, w3, w4, w5, w6⟩ := F4.out
              exact ⟨w1.wide (by omega), w2, w3, by omega, w5, w6⟩)
            clear CT8 hfin F4
            go_wp2_with fail
            go_roundw
            case rel => exact ⟨k + 1, L.take tn, (D4.opn s).2, by omega, by omega, by go_num, HF, HWF⟩
            case measure => simp [intOf]; omega
        · have hji : ¬ ((j : Int) < (x.wn : Int)) := by omega
          have OV := hide LV.out.ov
          obtain ⟨_, _, t2, _, _⟩ := HG5.out _ _ _ _ OV.out
          have CC1 := OV.out.crash (K := 10 + 1000 * k + 4 + 20 * j) MID.out.bw (by omega) HK.out
          go_wp2_with fail
          refine CC1.mono ?_
          rintro e V1 ⟨rfl, ov1⟩
          obtain ⟨_, _, _, _, t4⟩ := HG5.out _ _ _ _ ov1
          have OV1 := hide ov1
          clear CC1 ov1 t2 OV LV
          go_wp2_with fail
          refine (pick_any x.again 4 V1 (by omega) (by omega)).mono ?_
          rintro e V2 ⟨p7, hp7, rfl, hw7⟩
          subst hw7
          obtain ⟨D1, D2, D3, D4, e1, e2, bw1, bw2, e3, bw3, e4, bw4, e5, kk, f1, f2, f3, f4⟩ := MID.out.dies hs1.out (by omega) (by omega) ks ls (p7 : Int)
          have F3 := hide f3
          have F4 := hide f4
          have BW1 := hide bw1
          have BW2 := hide bw2
          have BW3 := hide bw3
          have BW4 := hide bw4
          have ov1 := OV1.out
          rw [e1] at ov1
          have CA1 := ov1.arm p7 (by omega)
          rw [e2] at CA1
          have E3 := hide e3
          have E4 := hide e4
          have E5 := hide e5
          clear e1 e2 bw1 bw2 e3 bw3 e4 bw4 e5 f3 f4 OV1 ov1 MID t4
          go_wp2_with fail
          refine CA1.mono ?_
          rintro e V3 ⟨rfl, ov3⟩
          have CO3 := ov3.opn (s := s) BW2.out (by omega) hss
          rw [E3.out] at CO3
          clear CA1 ov3
          go_wp2_with fail
          rw [show ({ data := #[115] } : ByteArray) = s from hs.out.symm]
          refine CO3.mono ?_
          rintro e V4 ⟨pv, rfl, ov4, _⟩
          obtain ⟨_, _, _, t3, _⟩ := HG5.out _ _ _ _ ov4
          have CC2 := ov4.crash BW3.out (by omega) HL.out
          rw [E4.out] at CC2
          clear CO3 ov4
          go_wp2_with fail
          refine CC2.mono ?_
          rintro e V5 ⟨rfl, ov5⟩
          have CO5 := ov5.opn (s := s) BW4.out (by omega) hss
          rw [E5.out, F3.out] at CO5
          clear CC2 ov5 t3
          go_wp2_with fail
          rw [show ({ data := #[115] } : ByteArray) = s from hs.out.symm]
          refine CO5.mono ?_
          rintro e V6 ⟨pv, rfl, _, hS6⟩
          obtain ⟨S6, rfl, lv6⟩ := hS6 trivial
          have CT6 := lv6.told
          clear CO5 hS6 lv6
          go_wp2_with fail
          refine CT6.mono ?_
          rintro e V7 ⟨ta, tn, tc, rfl, htn, rlt, lv7, _, _⟩
          have htk : tn = kk := by rw [htn, List.length_take]; omega
          subst htk
          obtain ⟨P7, al7⟩ := lv7.ov.all
          have CB := begins_yes (w := V7) (ys := L) (n := tn) (m := L.length) (least := y) rlt (al7.rl (by rw [hN.out]) ⟨by rw [← hN.out]; exact hv1, hv2⟩) f1 f2
          rw [← hN.out] at CB
          have tl1 := rlt.le
          have tl2 := rlt.reach
          have LV7 := hide lv7
          clear CT6 rlt al7 lv7 htn
          go_wp2_with fail
          refine CB.mono ?_
          rintro e V8 ⟨rfl, q8, hq8⟩
          have lv8 := LV7.out.new (V := V8) (by rw [hq8]; exact below_drewN (Below.refl _ _) _)
          have CT8 := lv8.told
          clear CB LV7 lv8 hq8
          go_wp2_with fail
          refine CT8.mono ?_
          rintro e V9 ⟨ua, un, uc, rfl, hun, _, _, _, hfin⟩
          have hunt : tn = un := by rw [hun, List.length_take]; omega
          subst hunt
          clear hun
          have HF := hide hfin
          have HWF : Hid (Whole s (D4.opn s).2 (L.take tn) (30 * (k + 1)) (10 + 1000 * (k + 1))) := hide (by
            obtain ⟨w1, w2, w3, w4, w5, w6⟩ := F4.out
            exact ⟨w1.wide (by omega), w2, w3, by omega, w5, w6⟩)
          clear CT8 hfin F4
          go_wp2_with fail
          go_roundw
          case rel => exact ⟨k + 1, L.take tn, (D4.opn s).2, by omega, by omega, by go_num, HF, HWF⟩
          case measure => simp [intOf]; omega
    · have hno : ¬ ((k : Int) < (n : Int)) ∨ ((k : Int) < (n : Int) ∧ ¬ ((k : Int) < 3)) := by omega
      clear hgo hA hWh
      rcases hno with hno | ⟨hy, hno⟩
      · go_wp2_with fail
        refine (sawake_any _).mono ?_
        rintro e W9 ⟨rfl, b9⟩
        have HB9 := hide (HBW.out.trans (b9.mono HBW.out.size))
        clear b9
        go_wp2_with fail
        go_ret
        exact ⟨rfl, HB9.out⟩
      · go_wp2_with fail
        refine (sawake_any _).mono ?_
        rintro e W9 ⟨rfl, b9⟩
        have HB9 := hide (HBW.out.trans (b9.mono HBW.out.size))
        clear b9
        go_wp2_with fail
        go_ret
        exact ⟨rfl, HB9.out⟩

end segmentKept

end Go.Proofs.YtkdolabhcbjipaaGreat

/-
  SchedGone, its walk.
-/
import Derived.Test.YtnnmlndjcaeegaaScc
import Derived.Test.YtnnmlndjcaeegaaSop
import Derived.Deep.CutBlock
import Derived.Deep.DeepCutAuto
namespace Go.Proofs.Ytnnmlndjcaeegaa.schedGone
open Go.RowKit Go.Proofs.Ytnnmlndjcaeegaa Go.Proofs.Ytnnmlndjcaeegaa.QI
set_option maxRecDepth 20000

theorem own_block {w : World} {base n cap : Nat} {a : Option Addr} {e : TypeId} {xs : List Value} (h : w.ownsRow base e 1 (.slice a n cap) n xs) {ad : Addr} (ha : a = some ad) : base ≤ ad.block ∧ ad.block < w.heap.size := by
  subst ha
  refine h.lt ad.block ?_
  rcases h.2 with ⟨h1, _⟩ | ⟨g, c, cur, h1, _⟩
  · cases h1
  · simp only [Value.slice.injEq, Option.some.injEq] at h1
    rw [h1.1]
    rfl

theorem rid_take {xs : List Int} {id : Int} {k : Nat} (hk : k < xs.length) : rid (xs.take (k + 1)) id = rid (xs.take k) id ++ if xs.getD k 0 = id then [] else [xs.getD k 0] := by
  unfold rid
  rw [List.take_succ_eq_append_getElem hk, List.filter_append]
  simp only [List.getD, List.getElem?_eq_getElem hk, Option.getD_some]
  by_cases hh : xs[k] = id
  · simp [hh]
  · simp [hh]

set_option maxHeartbeats 8000000 in
theorem walk (a : Option Addr) (n cap : Nat) (l : List Int) (gid : Int) (p : Nat) (w : World) (hA : Ls w a n cap l) (hp : p ≤ 18446744073709551615) :
    Calls Try.prog 5 #[.slice a n cap, .int .i64 gid, .int .u64 p] w fun e w' => e = .returned (.bool true) ∧ Below w.heap.size w w' := by
  obtain ⟨i0, hi, hz0, hz1, hz2⟩ := info_parts infoE
  have CN := sn_new w
  have hea := hA.le
  have hra := hA.reach
  have HL := hide hA.len
  have HA := hide hA
  clear hA
  go_enter Try.func5, Try.ntmps5
  go_wp2_with fail
  refine CN.mono ?_
  rintro e w1 ⟨Q, R, G1, rfl, n1⟩
  have HS1 := hide n1
  clear n1 CN
  go_upto_block 0 with fail
  go_cut [8] (fun _ wr => ∃ (G : Nat) (xs : List Int), Hid (Sn w wr Q R G xs) ∧ Hid (xs.length ≤ 100))
  case first =>
    go_wp2_with fail
    go_loopw [8] (fun i wr => ∃ (k G : Nat) (xs : List Int), k ≤ n ∧ k ≤ 100 ∧ i = .int .i64 k ∧ Hid (Sn w wr Q R G xs) ∧ Hid (xs.length ≤ k)) (fun i _ => n - (intOf i).toNat)
    case atStart => exact ⟨0, G1, [], Nat.zero_le _, by omega, rfl, HS1, hide (Nat.le_refl _)⟩
    case round =>
      obtain ⟨k, G, xs, hk, hk1, rfl, hs, hxl⟩ := hrel
      by_cases hlt : k < n
      · by_cases hlt2 : k < 100
        · obtain ⟨b1, o1, rfl, hc1⟩ := (HA.out.keep hs.out.bel).lies (by omega)
          have hk1 := hc1 k hlt
          clear hc1
          generalize l.getD k 0 = x at *
          have CR := hs.out.ready x
          have hnl : Hid ((rdL xs x).length ≤ k + 1) := hide (by
            have := hxl.out
            unfold rdL
            split
            · simp; omega
            · omega)
          clear hs hxl
          go_wp2_with fail
          refine CR.mono ?_
          rintro e w2 ⟨rfl, G2, n2⟩
          have HS2 := hide n2
          clear CR n2
          go_wp2_with fail
          go_roundw
          case rel => exact ⟨k + 1, G2, rdL xs x, by omega, by omega, by go_num, HS2, hnl⟩
          case measure => simp [intOf]; omega
        · go_wp2_with fail
          go_meet
          exact ⟨G, xs, hs, hide (by have := hxl.out; omega)⟩
      · go_wp2_with fail
        go_meet
        exact ⟨G, xs, hs, hide (by have := hxl.out; omega)⟩
  case rest =>
    obtain ⟨G, xs, hs, hxl⟩ := hcut
    obtain ⟨m, hm⟩ : ∃ m, Hid (m = xs.length) := ⟨_, hide rfl⟩
    have hm100 : m ≤ 100 := by have := hxl.out; have := hm.out; omega
    obtain ⟨N1, h1, q1⟩ := hs.out.ex
    have CL := slist_yes hs.out.s q1
    rw [← hm.out] at CL
    have HSc := hs
    have hRG : Hid (R < wc.heap.size ∧ G < wc.heap.size) := hide ⟨q1.lt, q1.glt⟩
    clear q1 hs HS1
    go_wp2_with fail
    refine CL.mono ?_
    rintro e w2 ⟨a2, c2, rfl, o2, b2⟩
    obtain ⟨ys, hys⟩ : ∃ ys, Hid (ys = rid xs gid) := ⟨_, hide rfl⟩
    obtain ⟨L, hL⟩ : ∃ L, Hid (L = ys.length) := ⟨_, hide rfl⟩
    have hLm : L ≤ m := by rw [hL.out, hm.out, hys.out]; exact rid_length xs gid
    obtain ⟨bb, hbb⟩ : ∃ bb : Bool, decide (L < m) = bb := ⟨_, rfl⟩
    have CG : Hid (Calls Try.prog 12 #[.pointer (some ⟨Q, 0, none⟩), .int .i64 gid] w2 fun e w' => e = .returned (.bool bb) ∧ ∃ G3, Sn w w' Q R G3 ys ∧ Ls w' a2 m c2 xs) := hide (by
      have s2 := HSc.out.below b2
      obtain ⟨N2, h2, q2⟩ := s2.ex
      refine (gone_any s2.s q2 gid).mono ?_
      rintro e w' ⟨rfl, k⟩
      rw [← hys.out] at k ⊢
      obtain ⟨G3, n3⟩ := s2.turn k
      obtain ⟨_, _, _, _, _, t⟩ := k
      refine ⟨by rw [← hL.out, ← hm.out, hbb], G3, n3, (own_ls o2).tb t (fun ad had hS => ?_)⟩
      have := (own_block o2 had).1
      have := hRG.out
      omega)
    have hle2 := (own_ls o2).le
    have hre2 := (own_ls o2).reach
    clear CL o2 b2 hRG HSc
    go_wp2_with fail
    refine CG.out.mono ?_
    rintro e w3 ⟨rfl, G3, n3, l3⟩
    have HS3 := hide n3
    have HL3 := hide l3
    clear CG n3 l3
    go_wp2_with fail
    go_loopw [11, 46] (fun v i wr => ∃ k : Nat, k ≤ m ∧ i = .int .i64 k ∧ Hid (wr.ownsRow w3.heap.size 3 1 v (rid (xs.take k) gid).length (W (rid (xs.take k) gid))) ∧ Hid (Below w3.heap.size w3 wr)) (fun _ i _ => m - (intOf i).toNat)
    case atStart => exact ⟨0, Nat.zero_le _, rfl, hide ⟨rfl, .inl ⟨rfl, rfl⟩⟩, hide (Below.refl _ _)⟩
    case round =>
      obtain ⟨k, hk, rfl, hown, hb⟩ := hrel
      by_cases hlt : k < m
      · have hkx : k < xs.length := by rw [← hm.out]; exact hlt
        obtain ⟨b1, o1, rfl, hc1⟩ := (HL3.out.keep hb.out).lies (by omega)
        have hk1 := hc1 k hlt
        have hsn := rid_take (id := gid) hkx
        have hml : (rid (xs.take k) gid).length ≤ k := Nat.le_trans (rid_length _ _) (List.length_take_le _ _)
        have HS := hide hsn
        clear hc1 hsn hkx
        generalize xs.getD k 0 = x at *
        generalize rid (xs.take k) gid = zs at *
        obtain ⟨j, hj⟩ : ∃ j, Hid (j = zs.length) := ⟨_, hide rfl⟩
        rw [← hj.out] at hml hown
        by_cases hx : x = gid
        · subst hx
          have HS' : Hid (rid (xs.take (k + 1)) x = zs) := hide (by rw [HS.out]; simp)
          clear HS
          go_wp2_with fail
          go_roundw
          case rel => exact ⟨k + 1, by omega, by go_num, hide (by rw [HS'.out, ← hj.out]; exact hown.out), hb⟩
          case measure => simp [intOf]; omega
        · have HS' : Hid (rid (xs.take (k + 1)) gid = zs ++ [x]) := hide (by rw [HS.out]; simp [hx])
          have hwl := hb.out.size
          have FB : Hid (∀ w6, (wr.alloc (.cells #[.int .i64 x] 3)).grownBy w6 u11.ownBlock → Below w3.heap.size w3 w6) := hide (fun w6 h2 => (hb.out.alloc hwl _).grown h2 (by simp; omega) (fun y hy => (hown.out.lt y hy).1))
          have HO5 := hide (hown.out.alloc (.cells #[.int .i64 x] 3))
          clear hown HS
          go_wp2_with (at_builtin; refine wpList_append_own _ rfl _ _ 25 rfl w3.heap.size 3 i0 (.int .i64 0) 1 8 Try.underlying25 hi hz0 hz1 hz2 rfl (by omega) _ _ _ rfl HO5.out ⟨_, 0, none⟩ 1 1 [.int .i64 x] rfl rfl (cell_one_new _ _ _) (by simp [Value.oneCell']) (by unfold maxLen; omega) (by omega) (by simp; omega) ?_; intro v6 w6 hown6 hgrow6 _)
          have HO6 := hide hown6
          have HB6 := hide (FB.out w6 hgrow6)
          clear hown6 hgrow6
          go_roundw
          case rel => exact ⟨k + 1, by omega, by go_num, hide (by rw [HS'.out, W_append, W_one', List.length_append, ← hj.out]; exact HO6.out), HB6⟩
          case measure => simp [intOf]; omega
      · obtain rfl : k = m := by omega
        rw [List.take_of_length_le (by rw [hm.out]; exact Nat.le_refl _), ← hys.out, ← hL.out] at hown
        obtain ⟨va, vc, rfl⟩ := row_val hown.out
        have s4 := HS3.out.below hb.out
        obtain ⟨N4, h4, q4⟩ := s4.ex
        have CL4 := slist_yes s4.s q4
        rw [← hL.out] at CL4
        have hRG3 : Hid (R < w3.heap.size ∧ G3 < w3.heap.size) := hide (by
          obtain ⟨_, _, q3⟩ := HS3.out.ex
          exact ⟨q3.lt, q3.glt⟩)
        have hlew := (own_ls hown.out).le
        have hrew := (own_ls hown.out).reach
        have HO := hown
        have HS4 := hide s4
        clear hown q4 s4 HS3 HL3
        go_wp2_with fail
        refine CL4.mono ?_
        rintro e w5 ⟨a5, c5, rfl, o5, b5⟩
        have HS5 := hide (HS4.out.below b5)
        have HO5 : Hid (w5.ownsRow w3.heap.size 3 1 (.slice va L vc) L (W ys)) := hide (row_tb HO.out (Tb.of_fresh (S := fun _ => False) b5) (fun _ _ h => h))
        have HN5 := hide (own_ls o5)
        have hle5 := (own_ls o5).le
        have hre5 := (own_ls o5).reach
        clear CL4 o5 b5 HO HS4
        obtain ⟨wk, hwk⟩ : ∃ wk : World, wk = wr := ⟨_, rfl⟩
        subst hwk
        go_wp2_with fail
        clear hbb
        go_loopw [76] (fun i wr => ∃ j q : Nat, j ≤ L ∧ i = .int .i64 j ∧ wr = w5.drewN q) (fun i _ => L - (intOf i).toNat)
        case atStart => exact ⟨0, 0, Nat.zero_le _, rfl, rfl⟩
        case round =>
          obtain ⟨j, q, hj, rfl, hwr⟩ := hrel
          have HA' := HN5.out.keep (below_drewN (Below.refl _ w5) q)
          have HC' := (own_ls HO5.out).keep (below_drewN (Below.refl _ w5) q)
          rw [← hwr] at HA' HC'
          have HR := hide hwr
          clear hwr
          by_cases hlt2 : j < L
          · obtain ⟨b1, o1, rfl, hc1⟩ := HA'.lies (by omega)
            obtain ⟨b2, o2, rfl, hc2⟩ := HC'.lies (by omega)
            have hk1 := hc1 j hlt2
            have hk3 := hc2 j hlt2
            clear hc1 hc2
            generalize ys.getD j 0 = x at *
            go_wp2_with fail
            go_quiet (fail)
            go_wp2_with fail
            go_roundw
            case rel => exact ⟨j + 1, q + nq, by omega, by go_num, by rw [HR.out, World.drewN_drewN]⟩
            case measure => simp [intOf]; omega
          · obtain rfl : j = L := by omega
            have HS6 : Hid (Sn w wr Q R G3 ys) := hide (by rw [HR.out]; exact HS5.out.drew q)
            have HO6 : Hid (wr.ownsRow w3.heap.size 3 1 (.slice va j vc) j (W ys)) := hide (row_tb HO5.out (Tb.of_fresh (S := fun _ => False) (by rw [HR.out]; exact below_drewN (Below.refl _ w5) q)) (fun _ _ h => h))
            clear HA' HC' HR HN5 HO5 HS5
            by_cases hj0 : j = 0
            · subst hj0
              obtain rfl : ys = [] := List.eq_nil_of_length_eq_zero hL.out.symm
              have CP := HS6.out.pick0 (p : Int)
              go_wp2_with fail
              refine CP.mono ?_
              rintro e w7 ⟨rfl, hw7⟩
              subst w7
              have HB7 := hide HS6.out.bel
              clear CP
              go_wp2_with fail
              refine (sawake_any wr).mono ?_
              rintro e w8 ⟨rfl, hb8⟩
              have HF := hide (HB7.out.trans (hb8.mono HB7.out.size))
              clear hb8
              go_wp2_with fail
              go_ret
              exact ⟨rfl, HF.out⟩
            · have hjp : 0 < ys.length := by have := hL.out; omega
              have hKJ : p % j < j := Nat.mod_lt _ (by omega)
              have CP : Hid (Calls Try.prog 10 #[.pointer (some ⟨Q, 0, none⟩), .int .u64 p] wr fun e w' => e = .returned (.tuple #[.int .i64 (ys.getD (p % j) 0), .int .u64 (p / j : Nat), .bool true]) ∧ ∃ G7, Sn w w' Q R G7 (ys.eraseIdx (p % j)) ∧ Ls w' va j vc ys) := hide (by
                obtain ⟨N6, h6, q6⟩ := HS6.out.ex
                refine (pick_yes HS6.out.s q6 hjp p hp).mono ?_
                rw [← hL.out]
                rintro e w' ⟨rfl, kk⟩
                obtain ⟨G7, n7⟩ := HS6.out.turn kk
                obtain ⟨_, _, _, _, _, t⟩ := kk
                refine ⟨rfl, G7, n7, (own_ls HO6.out).tb t (fun ad had hS => ?_)⟩
                have := (own_block HO6.out had).1
                have := hRG3.out
                omega)
              have hdl : p / j ≤ p := Nat.div_le_self _ _
              have ht : (p : Int).tmod (j : Int) = ((p % j : Nat) : Int) := by
                rw [Int.tmod_eq_emod_of_nonneg (by omega)]
                simp
              have hd : (p : Int).tdiv (j : Int) = ((p / j : Nat) : Int) := by
                rw [Int.tdiv_eq_ediv_of_nonneg (by omega)]
                simp
              have hel : Hid ((ys.eraseIdx (p % j)).length = j - 1) := hide (by
                rw [List.length_eraseIdx, if_pos (by have := hL.out; omega)]
                have := hL.out
                omega)
              obtain ⟨KK, hKK⟩ : ∃ KK, Hid (KK = p % j) := ⟨_, hide rfl⟩
              rw [← hKK.out] at CP ht hKJ hel
              obtain ⟨DD, hDD⟩ : ∃ DD, Hid (DD = p / j) := ⟨_, hide rfl⟩
              rw [← hDD.out] at CP hd hdl
              have hrem : ∀ V : World, (Op.intDiv .rem .u64 (p : Int) (j : Int)).run Try.prog V = .ok (.int .u64 (KK : Int)) V := fun V => by
                simp [Op.intDiv, ht, hj0]
              have hquo : ∀ V : World, (Op.intDiv .quo .u64 (p : Int) (j : Int)).run Try.prog V = .ok (.int .u64 (DD : Int)) V := fun V => by
                have : IntKind.u64.wrap (DD : Int) = DD := by simp [IntKind.wrap, IntKind.signed, IntKind.bits]; omega
                simp [Op.intDiv, hd, this, hj0]
              have h00 : ((j : Int) == 0) = false := by rw [beq_eq_false_iff_ne]; omega
              have hj1 : 1 ≤ j := by omega
              generalize ys.eraseIdx KK = zs at *
              clear HS6 HO6 hjp
              go_wp2_with fail
              refine CP.out.mono ?_
              rintro e w7 ⟨rfl, G7, n7, l7⟩
              obtain ⟨b7, o7, rfl, hc7⟩ := l7.lies (by omega)
              have hk7 := hc7 KK hKJ
              have CLn := n7.len
              rw [hel.out] at CLn
              have HB7 := hide n7.bel
              clear CP l7 n7 hc7
              generalize ys.getD KK 0 = x at *
              have hsub : ((j - 1 : Nat) : Int) = (j : Int) - 1 := by omega
              rw [hsub] at CLn
              clear hsub
              go_wp2_with fail
              refine CLn.mono ?_
              rintro e w8 ⟨rfl, hw8⟩
              subst w8
              go_wp2_with fail
              refine (sawake_any w7).mono ?_
              rintro e w9 ⟨rfl, hb9⟩
              have HF := hide (HB7.out.trans (hb9.mono HB7.out.size))
              clear hb9
              go_wp2_with fail
              go_ret
              exact ⟨rfl, HF.out⟩

end Go.Proofs.Ytnnmlndjcaeegaa.schedGone

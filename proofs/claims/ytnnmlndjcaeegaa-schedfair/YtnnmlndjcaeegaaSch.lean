/-
  SchedFair, its walk.
-/
import Derived.Test.YtnnmlndjcaeegaaScg
import Derived.Deep.CutBlock
import Derived.Deep.DeepCutAuto
namespace Go.Proofs.Ytnnmlndjcaeegaa.schedFair
open Go.RowKit Go.Proofs.Ytnnmlndjcaeegaa Go.Proofs.Ytnnmlndjcaeegaa.QI
set_option maxRecDepth 20000

/-- A sched and the set of its tasks. -/
def Sm (W0 w : World) (Q R M : Nat) (xs : List Int) : Prop := ∃ G, Sn W0 w Q R G xs ∧ Mi w M xs ∧ W0.heap.size ≤ M

theorem i6_of {x : Int} (h : 0 ≤ x ∧ x ≤ 9223372036854775807) : I6 x := by unfold I6; omega

set_option maxHeartbeats 8000000 in
theorem walk (a : Option Addr) (n cap : Nat) (l : List Int) (c : Option Addr) (m dap : Nat) (us : List Nat) (d : Option Addr) (o eap : Nat) (bs : List Bool) (w : World) (hA : Ls w a n cap l) (hI : ∀ x ∈ l, I6 x) (hU : Uls w c m dap us) (hB : Bls w d o eap bs) :
    Calls Try.prog 4 #[.slice a n cap, .slice c m dap, .slice d o eap] w fun e w' => e = .returned (.bool true) ∧ Below w.heap.size w w' := by
  have CN := sn_new w
  have mk := mkM
  have hea := hA.le
  have hra := hA.reach
  have heu := hU.le
  have hru := hU.reach
  have heb := hB.le
  have hrb := hB.reach
  have HL := hide hA.len
  have HA := hide hA
  have HI := hide hI
  have HU := hide hU
  have HB := hide hB
  clear hA hI hU hB
  go_enter Try.func4, Try.ntmps4
  go_wp2_with fail
  refine CN.mono ?_
  rintro e w1 ⟨Q, R, G1, rfl, n1⟩
  obtain ⟨X, hX⟩ : ∃ X, Hid (X = w1.alloc (.map #[] 0)) := ⟨_, hide rfl⟩
  obtain ⟨M, hM⟩ : ∃ M, Hid (M = w1.heap.size) := ⟨_, hide rfl⟩
  have HS1 : Hid (Sm w X Q R M []) := hide ⟨G1, by rw [hX.out]; exact n1.below ((Below.refl _ w1).alloc (Nat.le_refl _) _), ⟨.map [], by
    rw [hX.out, hM.out]
    exact Mp.of (World.ownsMap_made w1 Try.prog 3 hold), rfl, fun k _ => rfl⟩, by rw [hM.out]; exact n1.bel.size⟩
  have HM1 : Hid (w1.heap.size = M) := hide hM.out.symm
  clear n1 CN
  go_upto_block 0 with fail
  rw [← hX.out, HM1.out]
  clear hX hM HM1 mk
  go_cut [9] (fun _ wr => ∃ (xs : List Int), Hid (Sm w wr Q R M xs) ∧ Hid (Tk xs 100))
  case first =>
    go_wp2_with fail
    go_loopw [9] (fun i wr => ∃ (k : Nat) (xs : List Int), k ≤ n ∧ k ≤ 100 ∧ i = .int .i64 k ∧ Hid (Sm w wr Q R M xs) ∧ Hid (Tk xs k)) (fun i _ => n - (intOf i).toNat)
    case atStart => exact ⟨0, [], Nat.zero_le _, by omega, rfl, HS1, hide ⟨List.nodup_nil, by simp, Nat.le_refl _⟩⟩
    case round =>
      obtain ⟨k, xs, hk, hk1, rfl, hs, ht⟩ := hrel
      clear HS1
      by_cases hlt : k < n
      · by_cases hlt2 : k < 100
        · obtain ⟨G, sn, mi, hMw⟩ := hs.out
          obtain ⟨b1, o1, rfl, hc1⟩ := (HA.out.keep sn.bel).lies (by omega)
          have hk1 := hc1 k hlt
          have hx6 : I6 (l.getD k 0) := by
            have hkl : k < l.length := by rw [HL.out]; exact hlt
            refine HI.out _ ?_
            simp [List.getD, List.getElem?_eq_getElem hkl]
          have hcell : Hid (∀ V, Below w.heap.size w V → V.cell? ⟨b1, o1 + k, none⟩ = some (.int .i64 (l.getD k 0))) := hide (fun V hV => by
            obtain ⟨b1', o1', h1, hc1'⟩ := (HA.out.keep hV).lies (by omega)
            simp only [Option.some.injEq, Addr.mk.injEq, and_true] at h1
            rw [h1.1, h1.2]
            exact hc1' k hlt)
          clear hc1
          generalize l.getD k 0 = x at *
          obtain ⟨N, h, q⟩ := sn.ex
          have hxl : ¬ 256 ≤ xs.length := by have := ht.out.few; omega
          have CR : Hid (Calls Try.prog 8 #[.pointer (some ⟨Q, 0, none⟩), .int .i64 x] wr fun e w' => e = .returned (.int .i64 (rdE xs x)) ∧ ∃ G', Sn w w' Q R G' (rdL xs x) ∧ Mi w' M xs) := hide ((ready_any sn.s q x).mono (by
            rintro e w' ⟨rfl, kk⟩
            obtain ⟨G', n'⟩ := sn.turn kk
            exact ⟨rfl, G', n', mi.turn q kk⟩))
          have HT' := hide (ht.out.rd hx6.2 (by omega))
          have hx62 := hx6.2
          by_cases hx0 : x < 0
          · have e1 : rdE xs x = 2 := if_pos hx0
            have e2 : rdL xs x = xs := if_neg (by rw [e1]; decide)
            rw [e1, e2] at CR
            rw [e2] at HT'
            clear hs sn mi q e1 e2 ht hxl
            go_wp2_with fail
            refine CR.out.mono ?_
            rintro e w2 ⟨rfl, G2, n2, m2⟩
            have c2 := hcell.out w2 n2.bel
            have HS2 : Hid (Sm w w2 Q R M xs) := hide ⟨G2, n2, m2, hMw⟩
            clear CR n2 m2
            go_wp2_with fail
            go_roundw
            case rel => exact ⟨k + 1, xs, by omega, by omega, by go_num, HS2, HT'⟩
            case measure => simp [intOf]; omega
          · by_cases hin : x ∈ xs
            · have e1 : rdE xs x = 151 := by unfold rdE; rw [if_neg hx0, if_pos hin]
              have e2 : rdL xs x = xs := if_neg (by rw [e1]; decide)
              rw [e1, e2] at CR
              rw [e2] at HT'
              have hxs : xs.length ≤ 1000 := by omega
              have HIN := hide hin
              have HX := hide hx6
              clear hs sn mi q e1 e2 ht hxl hin
              go_wp2_with fail
              refine CR.out.mono ?_
              rintro e w2 ⟨rfl, G2, n2, m2⟩
              have c2 := hcell.out w2 n2.bel
              have lk2 := m2.look HX.out
              rw [decide_eq_true HIN.out] at lk2
              obtain ⟨Y, hY, mY, tY⟩ := m2.put (ys := xs) HX.out hxs (by rw [if_pos HIN.out]) (fun y => ⟨.inl, fun h => h.elim id (fun e => e ▸ HIN.out)⟩)
              have nY := n2.map m2 hMw tY
              have HS2 : Hid (Sm w Y Q R M xs) := hide ⟨G2, nY, mY, hMw⟩
              clear CR n2 m2 mY nY tY
              go_wp2_with fail
              go_roundw
              case rel => exact ⟨k + 1, xs, by omega, by omega, by go_num, HS2, HT'⟩
              case measure => simp [intOf]; omega
            · have e1 : rdE xs x = 0 := by unfold rdE; rw [if_neg hx0, if_neg hin, if_neg hxl]
              have e2 : rdL xs x = xs ++ [x] := if_pos e1
              rw [e1, e2] at CR
              rw [e2] at HT'
              have hxs : xs.length ≤ 1000 := by omega
              have HIN := hide hin
              have HX := hide hx6
              clear hs sn mi q e1 e2 ht hxl hin
              go_wp2_with fail
              refine CR.out.mono ?_
              rintro e w2 ⟨rfl, G2, n2, m2⟩
              have c2 := hcell.out w2 n2.bel
              have lk2 := m2.look HX.out
              rw [decide_eq_false HIN.out] at lk2
              obtain ⟨Y, hY, mY, tY⟩ := m2.put (ys := xs ++ [x]) HX.out hxs (by rw [if_neg HIN.out]; simp) (fun y => by simp)
              have nY := n2.map m2 hMw tY
              have HS2 : Hid (Sm w Y Q R M (xs ++ [x])) := hide ⟨G2, nY, mY, hMw⟩
              clear CR n2 m2 mY nY tY
              go_wp2_with fail
              go_roundw
              case rel => exact ⟨k + 1, xs ++ [x], by omega, by omega, by go_num, HS2, HT'⟩
              case measure => simp [intOf]; omega
        · go_wp2_with fail
          go_meet
          exact ⟨xs, hs, hide ⟨ht.out.nd, ht.out.i6, by have := ht.out.few; omega⟩⟩
      · go_wp2_with fail
        go_meet
        exact ⟨xs, hs, hide ⟨ht.out.nd, ht.out.i6, by have := ht.out.few; omega⟩⟩
  case rest =>
    obtain ⟨xs0, hs0, ht0⟩ := hcut
    clear HS1
    obtain ⟨W1, hW1⟩ : ∃ W1 : World, W1 = wc := ⟨_, rfl⟩
    subst hW1
    go_upto_block 2 with fail
    go_cut [11] (fun _ wr => ∃ (xs : List Int), Hid (Sm w wr Q R M xs) ∧ Hid (Tk xs 100))
    case first =>
      go_wp2_with fail
      go_loopw [11] (fun i wr => ∃ (k : Nat) (xs : List Int), k ≤ m ∧ k ≤ 100 ∧ i = .int .i64 k ∧ Hid (Sm w wr Q R M xs) ∧ Hid (Tk xs 100)) (fun i _ => m - (intOf i).toNat)
      case atStart => exact ⟨0, xs0, Nat.zero_le _, by omega, rfl, hs0, ht0⟩
      case round =>
        obtain ⟨k, xs, hk, hk1, rfl, hs, ht⟩ := hrel
        clear hs0 ht0
        by_cases hlt : k < m
        · by_cases hlt2 : k < 100
          · obtain ⟨G, sn, mi, hMw⟩ := hs.out
            obtain ⟨b1, o1, rfl, hc1⟩ := (HU.out.keep sn.bel).lies (by omega)
            have hk1 := hc1 k hlt
            have hpp : us.getD k 0 ≤ 18446744073709551615 := by
              have hkl : k < us.length := by rw [HU.out.len]; exact hlt
              refine HU.out.few _ ?_
              simp [List.getD, List.getElem?_eq_getElem hkl]
            clear hc1
            generalize us.getD k 0 = p at *
            by_cases hx0 : xs = []
            · subst hx0
              have CP := sn.pick0 (p : Int)
              have ml := fun ty => mi.len ty
              simp only [List.length_nil] at ml
              clear sn mi
              go_wp2_with fail
              refine CP.mono ?_
              rintro e w2 ⟨rfl, hw2⟩
              subst w2
              clear CP
              go_wp2_with fail
              go_roundw
              case rel => exact ⟨k + 1, [], by omega, by omega, by go_num, hs, ht⟩
              case measure => simp [intOf]; omega
            · have hxp : 0 < xs.length := List.length_pos_iff.2 hx0
              obtain ⟨N, h, q⟩ := sn.ex
              obtain ⟨i, hi⟩ : ∃ i, Hid (i = p % xs.length) := ⟨_, hide rfl⟩
              have hil : i < xs.length := by rw [hi.out]; exact Nat.mod_lt _ hxp
              obtain ⟨dd, hdd⟩ : ∃ dd, Hid (dd = p / xs.length) := ⟨_, hide rfl⟩
              have CP : Hid (Calls Try.prog 10 #[.pointer (some ⟨Q, 0, none⟩), .int .u64 p] wr fun e w' => e = .returned (.tuple #[.int .i64 (xs.getD i 0), .int .u64 dd, .bool true]) ∧ ∃ G', Sn w w' Q R G' (xs.eraseIdx i) ∧ Mi w' M xs) := hide ((pick_yes sn.s q hxp p hpp).mono (by
                rw [← hi.out, ← hdd.out]
                rintro e w' ⟨rfl, kk⟩
                obtain ⟨G', n'⟩ := sn.turn kk
                exact ⟨rfl, G', n', mi.turn q kk⟩))
              have hxin : Hid (xs.getD i 0 ∈ xs) := hide (by simp [List.getD, List.getElem?_eq_getElem hil])
              have hme : Hid (∀ y, y ∈ xs.eraseIdx i ↔ y ∈ xs ∧ y ≠ xs.getD i 0) := hide (mem_er ht.out.nd hil)
              have hle : Hid ((xs.eraseIdx i).length + 1 = xs.length) := hide (by
                rw [List.length_eraseIdx, if_pos hil]
                omega)
              have HT' := hide (ht.out.er i)
              have hxlen := hide ht.out.few
              have hx6 := hide (ht.out.i6 _ hxin.out)
              generalize xs.getD i 0 = x at *
              generalize xs.eraseIdx i = ys at *
              obtain ⟨hxa, hxb⟩ := hx6.out
              have hml : (0 : Int) < (xs.length : Int) := by omega
              obtain ⟨L, hL⟩ : ∃ L, Hid (L = xs.length) := ⟨_, hide rfl⟩
              have hLp : (0 : Int) < (L : Int) := by rw [hL.out]; exact hml
              clear sn mi q hs ht hx0 hxp hil hml
              go_wp2_with fail
              refine CP.out.mono ?_
              rintro e w2 ⟨rfl, G2, n2, m2⟩
              have ml := fun ty => m2.len ty
              rw [← hL.out] at ml
              have lk2 := m2.look (i6_of hx6.out)
              rw [decide_eq_true hxin.out] at lk2
              obtain ⟨Y, hY, mY, tY⟩ := m2.del (ys := ys) (i6_of hx6.out) hxin.out hle.out hme.out 0
              have nY := n2.map m2 hMw tY
              have HSY : Hid (Sn w Y Q R G2 ys ∧ Mi Y M ys) := hide ⟨nY, mY⟩
              clear CP n2 m2 mY nY tY
              by_cases hko : k < o
              · have hbcell : Hid (∀ V, Below w.heap.size w V → ∃ b2 o2, d = some ⟨b2, o2, none⟩ ∧ V.cell? ⟨b2, o2 + k, none⟩ = some (.bool (bs.getD k false))) := hide (fun V hV => by
                  obtain ⟨b2, o2, h1, hc2⟩ := (HB.out.keep hV).lies (by omega)
                  exact ⟨b2, o2, h1, hc2 k hko⟩)
                obtain ⟨b2, o2, rfl, cb2⟩ := hbcell.out Y HSY.out.1.bel
                cases hbk : bs.getD k false with
                | true =>
                  rw [hbk] at cb2
                  clear hbk hbcell
                  have hxn : x ∉ ys := fun h => ((hme.out x).1 h).2 rfl
                  obtain ⟨Z, hZ, mZ, tZ⟩ := HSY.out.2.put (ys := ys ++ [x]) (i6_of hx6.out) (by have := HT'.out.few; omega) (by rw [if_neg hxn]; simp) (fun y => by simp)
                  have nZ := HSY.out.1.map HSY.out.2 hMw tZ
                  obtain ⟨NZ, hZd, qZ⟩ := nZ.ex
                  have CR : Hid (Calls Try.prog 8 #[.pointer (some ⟨Q, 0, none⟩), .int .i64 x] Z fun e w' => e = .returned (.int .i64 0) ∧ ∃ G', Sn w w' Q R G' (ys ++ [x]) ∧ Mi w' M (ys ++ [x])) := hide ((ready_any nZ.s qZ x).mono (by
                    have e1 : rdE ys x = 0 := by unfold rdE; rw [if_neg (by omega), if_neg hxn, if_neg (by have := HT'.out.few; omega)]
                    have e2 : rdL ys x = ys ++ [x] := if_pos e1
                    rw [e1, e2]
                    rintro e w' ⟨rfl, kk⟩
                    obtain ⟨G', n'⟩ := nZ.turn kk
                    exact ⟨rfl, G', n', mZ.turn qZ kk⟩))
                  have HT2 : Hid (Tk (ys ++ [x]) 100) := hide ⟨by
                    rw [List.nodup_append]
                    exact ⟨HT'.out.nd, by simp, fun a ha b hb => by
                      simp only [List.mem_singleton] at hb
                      rintro rfl
                      exact hxn (hb ▸ ha)⟩, fun y hy => by
                    rcases List.mem_append.1 hy with hy | hy
                    · exact HT'.out.i6 y hy
                    · simp only [List.mem_singleton] at hy
                      subst hy
                      exact hx6.out, by
                    rw [List.length_append]
                    have := hle.out
                    have := hxlen.out
                    simp only [List.length_cons, List.length_nil]
                    omega⟩
                  clear mZ nZ tZ qZ HSY hxn
                  go_wp2_with fail
                  refine CR.out.mono ?_
                  rintro e w3 ⟨rfl, G3, n3, m3⟩
                  obtain ⟨N3, h3, q3⟩ := n3.ex
                  have CLi := slist_yes n3.s q3
                  have hlen : (ys ++ [x]).length = L := by rw [hL.out, ← hle.out]; simp
                  rw [hlen] at CLi
                  have HS3 : Hid (Sn w w3 Q R G3 (ys ++ [x]) ∧ Mi w3 M (ys ++ [x])) := hide ⟨n3, m3⟩
                  have HLN := hide hlen
                  clear CR n3 m3 q3 hlen
                  go_wp2_with fail
                  refine CLi.mono ?_
                  rintro e w4 ⟨a4, c4, rfl, o4, b4⟩
                  have l4 := own_ls o4
                  obtain ⟨g4, f4, rfl, hc4⟩ := l4.lies (by omega)
                  have hc4' := hc4 (L - 1) (by omega)
                  rw [show (ys ++ [x]).getD (L - 1) 0 = x by
                    have h1 : L - 1 = ys.length := by have := HLN.out; simp at this; omega
                    rw [h1]
                    simp [List.getD]] at hc4'
                  have n4 := HS3.out.1.below b4
                  have m4 := HS3.out.2.below b4
                  have CLn := n4.len
                  rw [HLN.out] at CLn
                  have hle4 := l4.le
                  have hre4 := l4.reach
                  have HS4 : Hid (Sm w w4 Q R M (ys ++ [x])) := hide ⟨G3, n4, m4, hMw⟩
                  obtain ⟨L1, hL1⟩ : ∃ L1, L = L1 + 1 := ⟨L - 1, by omega⟩
                  subst hL1
                  rw [Nat.add_sub_cancel] at hc4'
                  clear CLi o4 b4 l4 hc4 n4 m4 HS3
                  go_wp2_with fail
                  refine CLn.mono ?_
                  rintro e w5 ⟨rfl, hw5⟩
                  subst w5
                  clear CLn
                  go_wp2_with fail
                  go_roundw
                  case rel => exact ⟨k + 1, ys ++ [x], by omega, by omega, by go_num, HS4, HT2⟩
                  case measure => simp [intOf]; omega
                | false =>
                  rw [hbk] at cb2
                  clear hbk hbcell
                  have HS4 : Hid (Sm w Y Q R M ys) := hide ⟨G2, HSY.out.1, HSY.out.2, hMw⟩
                  clear HSY
                  go_wp2_with fail
                  go_roundw
                  case rel => exact ⟨k + 1, ys, by omega, by omega, by go_num, HS4, HT'⟩
                  case measure => simp [intOf]; omega
              · have HS4 : Hid (Sm w Y Q R M ys) := hide ⟨G2, HSY.out.1, HSY.out.2, hMw⟩
                clear HSY
                go_wp2_with fail
                go_roundw
                case rel => exact ⟨k + 1, ys, by omega, by omega, by go_num, HS4, HT'⟩
                case measure => simp [intOf]; omega
          · go_wp2_with fail
            go_meet
            exact ⟨xs, hs, ht⟩
        · go_wp2_with fail
          go_meet
          exact ⟨xs, hs, ht⟩
    case rest =>
      obtain ⟨xs, hs, ht⟩ := hcut
      clear hs0 ht0
      obtain ⟨G, sn, mi, hMw⟩ := hs.out
      obtain ⟨N1, h1, q1⟩ := sn.ex
      have CLi := slist_yes sn.s q1
      obtain ⟨L, hL⟩ : ∃ L, Hid (L = xs.length) := ⟨_, hide rfl⟩
      have hL100 : L ≤ 100 := by have := ht.out.few; have := hL.out; omega
      rw [← hL.out] at CLi
      have HTw : Hid (∀ w' a' c', w'.ownsRow wc.heap.size 3 1 (.slice a' L c') L (W xs) → Below wc.heap.size wc w' → Tw w w' Q R G xs (.slice a' L c') xs ∧ Mi w' M xs) := hide (fun w' a' c' o' b' => by
        have t0 : Tw w wc Q R G xs (.slice none 0 0) [] := ⟨sn.s, sn.q, sn.ex, sn.r, sn.g, ⟨rfl, .inl ⟨rfl, rfl⟩⟩, (fun b h => by cases h), sn.bel⟩
        exact ⟨t0.fresh (by rw [← hL.out]; exact o') b', mi.below b'⟩)
      clear sn mi q1 hs ht
      go_wp2_with fail
      refine CLi.mono ?_
      rintro e w2 ⟨a2, c2, rfl, o2, b2⟩
      have hle2 := (own_ls o2).le
      have hre2 := (own_ls o2).reach
      have HS2 := hide (HTw.out w2 a2 c2 o2 b2)
      clear CLi HTw o2 b2
      go_wp2_with fail
      go_loopw [136] (fun i wr => ∃ (j G : Nat), j ≤ L ∧ i = .int .i64 j ∧ Hid (Tw w wr Q R G (xs.drop j) (.slice a2 L c2) xs ∧ Mi wr M xs)) (fun i _ => L - (intOf i).toNat)
      case atStart => exact ⟨0, G, Nat.zero_le _, rfl, by rw [List.drop_zero]; exact HS2⟩
      case round =>
        obtain ⟨j, G3, hj, rfl, hsj⟩ := hrel
        clear HS2
        by_cases hlt : j < L
        · have hjx : j < xs.length := by rw [← hL.out]; exact hlt
          obtain ⟨s3, m3⟩ := hsj.out
          obtain ⟨N3, h3, q3⟩ := s3.t.ex
          have hdrop : xs.drop j = xs.getD j 0 :: xs.drop (j + 1) := by
            rw [List.drop_eq_getElem_cons hjx]
            simp [List.getD, List.getElem?_eq_getElem hjx]
          have CP : Hid (Calls Try.prog 10 #[.pointer (some ⟨Q, 0, none⟩), .int .u64 0] wr fun e w' => e = .returned (.tuple #[.int .i64 (xs.getD j 0), .int .u64 0, .bool true]) ∧ ∃ G', Tw w w' Q R G' (xs.drop (j + 1)) (.slice a2 L c2) xs ∧ Mi w' M xs) := hide (by
            have C := pick_yes s3.s q3 (by rw [hdrop]; simp) 0 (by omega)
            rw [Nat.zero_mod, Nat.zero_div, hdrop] at C
            refine C.mono ?_
            rintro e w' ⟨rfl, kk⟩
            simp only [List.getD_cons_zero, List.eraseIdx_zero, List.tail_cons] at kk ⊢
            obtain ⟨G', t'⟩ := s3.turn kk
            exact ⟨rfl, G', t', m3.turn q3 kk⟩)
          have hrow : Hid (∀ w' G' ys, Tw w w' Q R G' ys (.slice a2 L c2) xs → ∃ b off, a2 = some ⟨b, off, none⟩ ∧ w'.cell? ⟨b, off + j, none⟩ = some (.int .i64 (xs.getD j 0))) := hide (fun w' G' ys t' => by
            have r := t'.t.row
            rw [← hL.out] at r
            obtain ⟨b, off, hb, hc⟩ := (own_ls r).lies (by omega)
            exact ⟨b, off, hb, hc j hlt⟩)
          generalize xs.getD j 0 = x at *
          clear s3 m3 q3 hdrop hsj hjx
          go_wp2_with fail
          refine CP.out.mono ?_
          rintro e w4 ⟨rfl, G4, t4, m4⟩
          obtain ⟨b4, off4, rfl, c4⟩ := hrow.out w4 G4 _ t4
          have HS4 := hide (And.intro t4 m4)
          clear CP hrow t4 m4
          go_wp2_with fail
          go_roundw
          case rel => exact ⟨j + 1, G4, by omega, by go_num, HS4⟩
          case measure => simp [intOf]; omega
        · obtain rfl : j = L := by omega
          obtain ⟨s3, m3⟩ := hsj.out
          have hnil : xs.drop j = [] := List.drop_eq_nil_of_le (by rw [hL.out]; exact Nat.le_refl _)
          have ml := fun ty => m3.len ty
          rw [← hL.out] at ml
          have CLn := s3.sn.len
          rw [hnil] at CLn
          simp only [List.length_nil] at CLn
          have HBE := hide s3.t.bel
          clear s3 m3 hsj hnil
          go_wp2_with fail
          refine CLn.mono ?_
          rintro e w5 ⟨rfl, hw5⟩
          subst w5
          go_wp2_with fail
          refine (sawake_any wr).mono ?_
          rintro e w9 ⟨rfl, hb9⟩
          have HF := hide (HBE.out.trans (hb9.mono HBE.out.size))
          clear hb9
          go_wp2_with fail
          go_ret
          exact ⟨rfl, HF.out⟩

end Go.Proofs.Ytnnmlndjcaeegaa.schedFair

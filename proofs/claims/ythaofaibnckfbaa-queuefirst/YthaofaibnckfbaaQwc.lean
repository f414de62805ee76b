/-
  QueueFirst, its walk.
-/
import Derived.Test.YthaofaibnckfbaaQwa
import Derived.Test.YthaofaibnckfbaaQbsS
import Derived.Test.YthaofaibnckfbaaQop
namespace Go.Proofs.Ythaofaibnckfbaa.queueFirst
open Go.RowKit Go.Proofs.Ythaofaibnckfbaa Go.Proofs.Ythaofaibnckfbaa.QS

set_option maxHeartbeats 4000000 in
theorem walk (a : Option Addr) (n cap : Nat) (l : List ByteArray) (c : Option Addr) (m dap : Nat) (bs : List Bool) (w : World) (hA : Ls w a n cap l) (hn : n * 16 ≤ 140737488351232) (hB : Bls w c m dap bs) :
    Calls Try.prog 5 #[.slice a n cap, .slice c m dap] w fun e w' => e = .returned (.bool true) ∧ Below w.heap.size w w' := by
  have hnil : Ls w none 0 0 [] := ⟨rfl, Nat.le_refl _, by omega, fun h => by omega⟩
  have CO : Hid (Calls Try.prog 21 #[.slice none 0 0] w fun e w' => ∃ R G, e = .returned (.pointer (some ⟨R, 0, none⟩)) ∧ Two w w' R G [] (.slice none 0 0) []) := hide ((of_any hnil (fun ad h => by cases h) (by decide)).mono (by
    rintro e w' ⟨rfl, q, hb⟩
    exact ⟨_, _, rfl, ⟨_, _, q⟩, by omega, by omega, ⟨rfl, .inl ⟨rfl, rfl⟩⟩, (fun b h => by cases h), hb⟩))
  have hla := hA.len
  have hea := hA.le
  have hra := hA.reach
  have heb := hB.le
  have hrb := hB.reach
  have HL := hide hla
  have HA := hide hA
  have HB := hide hB
  clear hnil hA hB hla
  go_enter Try.func5, Try.ntmps5
  go_wp2_with fail
  refine CO.out.mono ?_
  rintro e w1 ⟨R, G1, rfl, s1⟩
  have HS1 := hide s1
  clear s1 CO
  go_wp2_with fail
  go_loopw [6, 7] (fun v i wr => ∃ (k : Nat) (G : Nat) (gs ys : List ByteArray), k ≤ n ∧ i = .int .i64 k ∧ Hid (gs ++ ys = l.take k) ∧ Hid (Two w wr R G ys v gs)) (fun _ i _ => n - (intOf i).toNat)
  case atStart => exact ⟨0, G1, [], [], Nat.zero_le _, rfl, hide rfl, HS1⟩
  case round =>
    obtain ⟨k, G, gs, ys, hk, rfl, heq, hs⟩ := hrel
    have hsum : gs.length + ys.length = k := by
      have := congrArg List.length heq.out
      rw [List.length_append, List.length_take, HL.out] at this
      omega
    by_cases hlt : k < n
    · obtain ⟨b1, o1, rfl, hc1⟩ := (HA.out.keep hs.out.bel).lies (by omega)
      have hk1 := hc1 k hlt
      have hnext : Hid (gs ++ (ys ++ [l.getD k ⟨#[]⟩]) = l.take (k + 1)) := hide (by
        have hkl : k < l.length := by rw [HL.out]; exact hlt
        rw [← List.append_assoc, heq.out, List.take_succ_eq_append_getElem hkl]
        simp [List.getD, List.getElem?_eq_getElem hkl])
      clear hc1
      generalize l.getD k ⟨#[]⟩ = x at *
      obtain ⟨N, h, q⟩ := hs.out.ex
      have CP : Hid (Calls Try.prog 22 #[.pointer (some ⟨R, 0, none⟩), .string x] wr fun e w' => e = .returned (.tuple #[]) ∧ ∃ G', Two w w' R G' (ys ++ [x]) u6 gs) := hide ((push_any q (by unfold Mx; omega) x).mono (by
        rintro e w' ⟨rfl, hq⟩
        exact ⟨rfl, hs.out.turn hq⟩))
      clear q heq hs
      go_wp2_with fail
      refine CP.out.mono ?_
      rintro e w2 ⟨rfl, G2, s2⟩
      clear CP
      by_cases hkm : k < m
      · obtain ⟨b2, o2, rfl, hc2⟩ := (HB.out.keep s2.bel).lies (by omega)
        have hk2 := hc2 k hkm
        clear hc2
        cases hbk : bs.getD k false with
        | true =>
          rw [hbk] at hk2
          clear hbk
          obtain ⟨N2, h2, q2⟩ := s2.ex
          have CQ := pop_any q2
          obtain ⟨y, zs, hyz⟩ : ∃ y zs, ys ++ [x] = y :: zs := by
            cases ys with
            | nil => exact ⟨x, [], rfl⟩
            | cons y ys => exact ⟨y, ys ++ [x], rfl⟩
          rw [hyz] at CQ s2 hnext
          simp only [List.headD_cons, List.isEmpty_cons, Bool.not_false, List.tail_cons] at CQ
          have HX : Hid (gs ++ [y] ++ zs = l.take (k + 1)) := hide (by rw [List.append_assoc]; exact hnext.out)
          have HS := hide s2
          clear hyz hnext q2 s2
          go_wp2_with fail
          refine CQ.mono ?_
          rintro e w3 ⟨rfl, hq⟩
          obtain ⟨G3, s3⟩ := HS.out.turn hq
          obtain ⟨v4, w4, hrun, s4⟩ := s3.app1 y (by unfold Mx; omega) 45
          have HS4 := hide s4
          clear hq CQ HS s3 s4
          go_wp2_with (at_builtin; refine wpList_append_run rfl 45 (.tmp 42) (.tmp 44) rfl _ _ _ rfl rfl hrun ?_)
          go_roundw
          case rel => exact ⟨k + 1, G3, gs ++ [y], zs, by omega, by go_num, HX, HS4⟩
          case measure => simp [intOf]; omega
        | false =>
          rw [hbk] at hk2
          have HS := hide s2
          clear hbk s2
          go_wp2_with fail
          go_roundw
          case rel => exact ⟨k + 1, G2, gs, ys ++ [x], by omega, by go_num, hnext, HS⟩
          case measure => simp [intOf]; omega
      · have HS := hide s2
        clear s2
        go_wp2_with fail
        go_roundw
        case rel => exact ⟨k + 1, G2, gs, ys ++ [x], by omega, by go_num, hnext, HS⟩
        case measure => simp [intOf]; omega
    · obtain rfl : k = n := by omega
      have hall : l.take k = l := List.take_of_length_le (by rw [HL.out]; exact Nat.le_refl _)
      rw [hall] at heq
      obtain ⟨N, h, q⟩ := hs.out.ex
      have CL := list_yes q
      have HS := hide hs.out
      clear q hs hall
      go_wp2_with fail
      refine CL.mono ?_
      rintro e w2 ⟨a2, c2, rfl, ho2, hb2⟩
      obtain ⟨v3, w3, hrun, s3⟩ := (HS.out.below hb2).app ho2 (by unfold Mx; omega) 45
      rw [heq.out] at s3
      obtain ⟨va, vc, rfl⟩ := row_val s3.row
      have hl3 := own_ls s3.row
      rw [HL.out] at hl3 hrun
      have CS := same_yes va a k vc cap l w3 hl3 (HA.out.keep s3.bel)
      have HB3 := hide s3.bel
      clear CL ho2 hb2 HS s3 hl3
      go_wp2_with (at_builtin; refine wpList_append_run rfl 45 (.tmp 46) (.tmp 48) rfl _ _ _ rfl rfl hrun ?_)
      refine CS.mono ?_
      rintro e w4 ⟨rfl, q4, rfl⟩
      have HB4 := hide (below_drewN HB3.out q4)
      clear CS hrun
      go_wp2_with fail
      refine (QI.awake_any _).mono ?_
      rintro e w5 ⟨rfl, hb5⟩
      go_wp2_with fail
      go_ret
      exact ⟨rfl, HB4.out.trans (hb5.mono HB4.out.size)⟩

end Go.Proofs.Ythaofaibnckfbaa.queueFirst

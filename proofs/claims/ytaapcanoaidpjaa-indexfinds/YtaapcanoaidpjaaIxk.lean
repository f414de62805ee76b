/-
  IndexFinds, walked: from the pair that is found fewer bytes than every are to be gone through.
-/
import Derived.Test.YtaapcanoaidpjaaIxj
import Derived.Test.YtaapcanoaidpjaaPik
namespace Go.Proofs.Ytaapcanoaidpjaa
open Go.RowKit
set_option maxRecDepth 100000

theorem one_new (w : World) (x : Value) (t : TypeId) (g : Nat) (hg : w.heap.size = g) : ∀ j u, [x][j]? = some u → (w.alloc (.cells #[x] t)).cell? ((⟨g, 0, none⟩ : Addr).add j) = some u := by
  subst hg
  intro j u hj
  rw [Addr.add_mid, cell_of_row _ _ _ _ _ _ (heap_alloc_new w _)]
  simpa using hj

namespace indexFinds

set_option maxHeartbeats 4000000 in
theorem walk (a : Option Addr) (n cap : Nat) (zs : List Int) (ev0 m0 : Int) (w : World) (hA : Is w a n cap zs) :
    Calls Try.prog 5 #[.slice a n cap, .int .i64 ev0, .int .i64 m0] w fun e w' => e = .returned (.bool true) ∧ Below w.heap.size w w' := by
  obtain ⟨i0, hi, hz0, hz1, hz2⟩ := info_parts info3
  have HI := hide (And.intro hi (And.intro hz0 (And.intro hz1 hz2)))
  clear hi hz0 hz1 hz2
  have hla := hA.len
  have hea := hA.le
  have hra := hA.reach
  by_cases hbig : 3000 < n
  · go_enter Try.func5, Try.ntmps5
    go_wp2_with fail
    refine (awake_any w).mono ?_
    rintro e w1 ⟨rfl, hb⟩
    go_wp2_with fail
    go_ret
    exact ⟨rfl, hb⟩
  · have CP := pick_any ev0 100000 w (by omega) (by omega)
    go_enter Try.func5, Try.ntmps5
    go_wp2_with fail
    refine CP.mono ?_
    rintro e w1 ⟨p, hp, rfl, rfl⟩
    go_wp2_with fail
    go_loopw [7, 8] (fun v i wr => ∃ k : Nat, ∃ ls : List Int, k ≤ n ∧ i = .int .i64 k ∧ ls.length = k ∧ Hid (∀ z ∈ ls, 0 ≤ z ∧ z < 10000) ∧ Hid (wr.ownsRow w1.heap.size 3 1 v ls.length (I1 ls)) ∧ Below w1.heap.size w1 wr) (fun _ i _ => n - (intOf i).toNat)
    case atStart => exact ⟨0, [], Nat.zero_le _, rfl, rfl, hide (by simp), hide (World.ownsRow_nil _ _ _ _), Below.refl _ _⟩
    case round =>
      obtain ⟨k, ls, hk, rfl, hlk, hsm, hown, hb⟩ := hrel
      have hbs := hb.size
      by_cases hlt : k < n
      · obtain ⟨bl, ol, rfl, hc1⟩ := (hA.keep hb).lies (by omega)
        have hk1 := hc1 k hlt
        clear hc1
        generalize zs.getD k 0 = z at *
        have C := pick_any z 10000 wr (by omega) (by omega)
        have hownV := hown.out
        clear hown
        go_wp2_with fail
        refine C.mono ?_
        rintro e w2 ⟨y, hy, rfl, rfl⟩
        clear C
        go_wp2_with (at_builtin; refine wpList_append_own _ rfl _ _ 26 rfl w1.heap.size 3 i0 (.int .i64 0) 1 8 Try.underlying26 HI.out.1 HI.out.2.1 HI.out.2.2.1 HI.out.2.2.2 rfl (by omega) _ _ _ rfl (hownV.alloc _) ⟨_, 0, none⟩ 1 1 [.int .i64 (y : Int)] rfl rfl (one_new _ _ _ _ (by simp)) (by simp [Value.oneCell']) (by unfold maxLen; omega) (by omega) (by simp; omega) ?_; intro v3 w3 hown3 hgrow3 _)
        have hg3 : (w2.alloc (.cells #[.int .i64 (y : Int)] 3)).grownBy w3 u7.ownBlock := hgrow3
        have hb3 : Below w1.heap.size w1 w3 := (hb.alloc hbs _).grown hg3 (by simp; omega) (fun x hx => (hownV.lt x hx).1)
        have ho3 : w3.ownsRow w1.heap.size 3 1 v3 (ls ++ [(y : Int)]).length (I1 (ls ++ [(y : Int)])) := by
          rw [I1_append]
          simpa [I1] using hown3
        have hsm3 : ∀ z ∈ ls ++ [(y : Int)], 0 ≤ z ∧ z < 10000 := by
          intro z hz
          rcases List.mem_append.1 hz with h | h
          · exact hsm.out z h
          · simp only [List.mem_singleton] at h
            subst h
            omega
        have HS3 := hide hsm3
        clear hgrow3 hown3 hg3 hsm3
        go_roundw
        case rel => exact ⟨k + 1, _, by omega, by go_num, by simp [hlk], HS3, hide ho3, hb3⟩
        case measure => simp [intOf]; omega
      · obtain rfl : n = k := by omega
        obtain ⟨a7, c7, rfl⟩ := own_val hown.out
        have hI := own_is hown.out
        clear hown hla
        rw [hlk] at hI
        rw [hlk]
        have hSz : ∀ z ∈ ls, Sz z := fun z hz => ⟨(hsm.out z hz).1, by have := (hsm.out z hz).2; omega⟩
        have CB := build_yes a7 n c7 ls (1 + (p : Int)) wr hI (by omega) ⟨by omega, hSz⟩
        obtain ⟨pp, l, ps, hst⟩ : ∃ pp l ps, bst (1 + (p : Int)) ls n = (pp, l, ps) := ⟨_, _, _, rfl⟩
        have hpb := bst_bound (1 + (p : Int)) hSz n (by omega) hst
        have hiv := bst_iv (1 + (p : Int)) (by omega) ls n (by omega) hst
        have hrt := hiv.rt hSz (by omega) (by omega)
        rw [hst] at CB
        have HIV := hide hiv
        have HSZ := hide hSz
        have HRT := hide hrt
        have hpl : ps.length ≤ 3001 := by omega
        obtain ⟨W0, hW0⟩ : ∃ W0 : World, W0 = wr := ⟨_, rfl⟩
        subst hW0
        have HN := hide hlk
        clear hst hpb hiv hrt hSz hlk
        go_wp2_with fail
        refine CB.mono ?_
        rintro e w2 ⟨c, d, rfl, hown2, hb2⟩
        have hP2 := own_pr hown2
        have hI2 := hI.keep hb2
        have hb2' := hb.trans (hb2.mono hbs)
        clear hown2 hI CB hA
        have CR := right_any c ps.length d ps w2 hP2
        rw [decide_eq_true HRT.out] at CR
        go_wp2_with fail
        refine CR.mono ?_
        rintro e w3 ⟨rfl, hb3⟩
        have hP3 := hP2.keep hb3
        have hI3 := hI2.keep hb3
        have hb3' := hb2'.trans (hb3.mono hb2'.size)
        clear CR hP2 hI2 hb3 hb2 hb2'
        have CK := pick_any m0 (n + 1) w3 (by omega) (by omega)
        go_wp2_with fail
        rw [show ((n : Int) + 1) = ((n + 1 : Nat) : Int) by omega]
        refine CK.mono ?_
        rintro e w4 ⟨j, hj, rfl, rfl⟩
        clear CK
        have CF := find_yes c ps.length d ps (j : Int) w4 hP3 (by omega) HRT.out (by omega)
        go_wp2_with fail
        refine CF.mono ?_
        rintro e w5 ⟨⟨t, hL, rfl⟩, hb5⟩
        obtain ⟨i, hat, hil⟩ := HIV.out.at' t hL.1
        rw [hat]
        have hij : i ≤ j := by
          have := hL.2.1
          rw [hat] at this
          simp only at this
          omega
        have hnear : ∀ q : Nat, q < n → i ≤ q → q ≤ j → pl ls q - pl ls i < 1 + (p : Int) := by
          intro q h1 h2 h3
          have := HIV.out.near q (by have := HN.out; omega) t ⟨hL.1, by rw [hat]; simp only; omega, fun x h4 h5 => by have := hL.2.2 x h4 h5; omega⟩
          rwa [hat] at this
        have HNR := hide hnear
        have HPB : Hid (∀ q, q ≤ n → 0 ≤ pl ls q ∧ pl ls q ≤ 1073741824 * (q : Int)) := hide (fun q hq => pl_bound HSZ.out q (by have := HN.out; omega))
        have HPM : Hid (∀ q, i ≤ q → q ≤ n → pl ls i ≤ pl ls q) := hide (fun q h1 h2 => pl_mono HSZ.out h1 (by have := HN.out; omega))
        have hI5 := (hI3.keep hb5)
        have hb5' := hb3'.trans (hb5.mono hb3'.size)
        have hpi := HPB.out i (by omega)
        clear hnear hP3 CF HIV HRT hI3 hb5 hb3' hsm
        clear hat hL
        obtain ⟨V, hV⟩ : ∃ V, V = w5.alloc (.cells #[.int .i64 (i : Int), .int .i64 (pl ls i)] 27) := ⟨_, rfl⟩
        have k0 : V.cell? ⟨w5.heap.size, 0, none⟩ = some (.int .i64 (i : Int)) := by rw [hV]; simp [go_sem]
        have k1 : V.cell? ⟨w5.heap.size, 1, none⟩ = some (.int .i64 (pl ls i)) := by rw [hV]; simp [go_sem]
        have hbx : Below w5.heap.size w5 V := by rw [hV]; exact (Below.refl _ _).alloc (Nat.le_refl _) _
        have hIV := hI5.keep hbx
        have hbV := hb5'.trans (hbx.mono hb5'.size)
        have HV := hide hV
        clear hV hI5 hbx hb5'
        have hpi2 : pl ls i ≤ 4000000000000 := by omega
        go_wp2_with fail
        rw [← HV.out]
        clear HV
        go_loopw [13, 14] (fun pv iv wr => ∃ q : Nat, q ≤ i ∧ iv = .int .i64 q ∧ pv = .int .i64 (pl ls q) ∧ wr = V) (fun _ iv _ => i - (intOf iv).toNat)
        case atStart => exact ⟨0, Nat.zero_le _, rfl, rfl, rfl⟩
        case round =>
          obtain ⟨q, hq, rfl, rfl, rfl⟩ := hrel
          have hpq := HPB.out q (by omega)
          by_cases hlt2 : q < i
          · obtain ⟨b9, o9, rfl, hc9⟩ := hIV.lies (by omega)
            have hk9 := hc9 q (by omega)
            have hpq1 := HPB.out (q + 1) (by omega)
            have HE : Hid (pl ls (q + 1) = pl ls q + ls.getD q 0) := hide rfl
            have hsum : pl ls q + ls.getD q 0 ≤ 4000000000000 := by have := HE.out; omega
            have hsum0 : 0 ≤ pl ls q + ls.getD q 0 := by have := HE.out; omega
            have hq4 : pl ls q ≤ 4000000000000 := by omega
            have hzz : Sz (ls.getD q 0) := HSZ.out _ (by have := HN.out; simp [List.getD, List.getElem?_eq_getElem (by omega : q < ls.length)])
            unfold Sz at hzz
            obtain ⟨hz1, hz2⟩ := hzz
            clear hc9 hpq1
            generalize ls.getD q 0 = z at *
            go_wp2_with fail
            go_roundw
            case rel => exact ⟨q + 1, by omega, by go_num, by rw [HE.out], by trivial⟩
            case measure => simp [intOf]; omega
          · obtain rfl : i = q := by omega
            obtain ⟨W1, hW1⟩ : ∃ W1 : World, W1 = wr := ⟨_, rfl⟩
            subst hW1
            go_wp2_with fail
            go_loopw [15, 16] (fun wv iv wr => ∃ r : Nat, i ≤ r ∧ r ≤ j ∧ iv = .int .i64 r ∧ wv = .int .i64 (pl ls r - pl ls i) ∧ wr = W1) (fun _ iv _ => j - (intOf iv).toNat)
            case atStart => exact ⟨i, Nat.le_refl _, hij, rfl, by simp, rfl⟩
            case round =>
              obtain ⟨r, hr1, hr2, rfl, rfl, rfl⟩ := hrel
              have hpr := HPB.out r (by omega)
              have hpm := HPM.out r hr1 (by omega)
              have hp4 : pl ls r ≤ 4000000000000 := by omega
              by_cases hlt3 : r < j
              · obtain ⟨b9, o9, rfl, hc9⟩ := hIV.lies (by omega)
                have hk9 := hc9 r (by omega)
                have hpr1 := HPB.out (r + 1) (by omega)
                have HE : Hid (pl ls (r + 1) = pl ls r + ls.getD r 0) := hide rfl
                have hnr := HNR.out r (by omega) hr1 (by omega)
                have hsum : pl ls r + ls.getD r 0 ≤ 4000000000000 := by have := HE.out; omega
                have hzz : Sz (ls.getD r 0) := HSZ.out _ (by have := HN.out; simp [List.getD, List.getElem?_eq_getElem (by omega : r < ls.length)])
                unfold Sz at hzz
                obtain ⟨hz1, hz2⟩ := hzz
                clear hc9 hpr1
                generalize ls.getD r 0 = z at *
                go_wp2_with fail
                go_roundw
                case rel => exact ⟨r + 1, by omega, by omega, by go_num, by rw [HE.out]; congr 1; omega, by trivial⟩
                case measure => simp [intOf]; omega
              · obtain rfl : j = r := by omega
                by_cases hjn : j = n
                · subst hjn
                  go_wp2_with fail
                  refine (awake_any _).mono ?_
                  rintro e w10 ⟨rfl, hb10⟩
                  go_wp2_with fail
                  go_ret
                  exact ⟨rfl, hbV.trans (hb10.mono hbV.size)⟩
                · have hnr := HNR.out j (by omega) hr1 (Nat.le_refl _)
                  have hjn' : ((j : Int) == (n : Int)) = false := by simp; omega
                  go_wp2_with fail
                  refine (awake_any _).mono ?_
                  rintro e w10 ⟨rfl, hb10⟩
                  go_wp2_with fail
                  go_ret
                  exact ⟨rfl, hbV.trans (hb10.mono hbV.size)⟩

end indexFinds
end Go.Proofs.Ytaapcanoaidpjaa

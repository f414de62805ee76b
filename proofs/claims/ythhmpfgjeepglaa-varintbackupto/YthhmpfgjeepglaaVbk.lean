/-
  VarintBack returns true: what is put is read back, wherever it stands, whatever is behind it; what is read is put the same.
-/
import Derived.Test.YthhmpfgjeepglaaVaw
import Derived.Test.YthhmpfgjeepglaaPik
import Derived.Deep.RegionWith
namespace Go.Proofs.Ythhmpfgjeepglaa.varintBack
open Go.RowKit

theorem mid {w : World} {g n cap : Nat} {zs : List Int} (hB : Bs w (some ⟨g, 0, none⟩) n cap zs) (p k : Nat) (h : p + k ≤ n) (l : List Int) (hl : (zs.drop p).take k = l) : Bs w (some ⟨g, p, none⟩) k (cap - p) l := by
  have h1 := (hB.drop p (by omega)).head k (by omega)
  rw [Nat.zero_add, hl] at h1
  exact h1

/-- What is put, one behind the other. -/
theorem at1 {xs ys : List Int} (hx : ∀ z ∈ xs, 0 ≤ z ∧ z ≤ 255) (hy : ∀ z ∈ ys, 0 ≤ z ∧ z ≤ 255) (v : Nat) (hv : v < 18446744073709551616) (n : Nat) (hn : xs.length = n) : gv (xs ++ (vb v ++ ys)) n = some v := by
  subst hn
  refine gv_intro (app_byte hx (app_byte (vb_byte v) hy)) hv ?_
  rw [List.drop_left]
  exact List.prefix_append _ _

/-- What is read is put the same. -/
theorem again {zs : List Int} (hz : ∀ z ∈ zs, 0 ≤ z ∧ z ≤ 255) {p v : Nat} (h : gv zs p = some v) : p + (vb v).length ≤ zs.length ∧ (zs.drop p).take (vb v).length = vb v ∧ v < 18446744073709551616 := by
  obtain ⟨_, h2, h3, h4⟩ := gv_some hz h
  rw [Int.toNat_natCast] at h4
  have := h4.length_le
  simp only [List.length_drop] at this
  obtain ⟨t, ht⟩ := h4
  exact ⟨by omega, by rw [← ht]; simp, h3⟩

set_option maxRecDepth 100000 in
set_option maxHeartbeats 2000000 in
theorem walk (a c : Option Addr) (n1 c1 n2 c2 : Nat) (xs ys : List Int) (v : Nat) (q : Int) (w : World) (hA : Bs w a n1 c1 xs) (hC : Bs w c n2 c2 ys) (hn : n1 + n2 ≤ 140737488355000) (hv : v < 18446744073709551616) :
    Calls Try.prog 5 #[.slice a n1 c1, .int .u64 v, .slice c n2 c2, .int .i64 q] w fun e w' => e = .returned (.bool true) ∧ Below w.heap.size w w' := by
  obtain ⟨i0, hi, hz0, hz1, hz2⟩ := info_parts info5
  obtain ⟨k1, hk1⟩ : ∃ k1, k1 = (vb v).length := ⟨_, rfl⟩
  have L1 := vb_len10 hv
  have L1p := vb_pos v
  rw [← hk1] at L1 L1p
  have P1 := hide (fun w (hA : Bs w a n1 c1 xs) => put_bs a n1 c1 xs v hv w hA (by omega))
  simp only [← hk1] at P1
  have PL := hide (fun w => len_any v hv w)
  simp only [← hk1] at PL
  have s1 : -9223372036854775808 ≤ wrap64 (v : Int) := by unfold wrap64; omega
  have s2 : wrap64 (v : Int) ≤ 9223372036854775807 := by unfold wrap64; omega
  obtain ⟨f, hf⟩ : ∃ f, f = fo (wrap64 (v : Int)) := ⟨_, rfl⟩
  have F1 : f < 18446744073709551616 := hf ▸ fo_lt s1 s2
  have F2 := hide (unfo_fo (wrap64 (v : Int)))
  rw [← hf] at F2
  obtain ⟨k2, hk2⟩ : ∃ k2, k2 = (vb f).length := ⟨_, rfl⟩
  have L2 := vb_len10 F1
  have L2p := vb_pos f
  rw [← hk2] at L2 L2p
  have P2 := hide (fun g w (hB : Bs w (some ⟨g, 0, none⟩) (n1 + k1) (n1 + k1) (xs ++ vb v)) => putInt_any (some ⟨g, 0, none⟩) (n1 + k1) (n1 + k1) (xs ++ vb v) (wrap64 (v : Int)) s1 s2 w hB (by omega))
  simp only [← hf, ← hk2] at P2
  clear hf
  have lx := hA.len
  have ly := hC.len
  have le2 := hC.le
  have bx := hide hA.byte
  have hyb := hide hC.byte
  have G1 := hide (at1 (ys := vb f ++ ys) bx.out (app_byte (vb_byte f) hyb.out) v hv n1 lx)
  have G2 := hide (at1 (xs := xs ++ vb v) (ys := ys) (app_byte bx.out (vb_byte v)) hyb.out f F1 (n1 + k1) (by simp [lx, hk1]))
  have eA : xs ++ vb v ++ (vb f ++ ys) = xs ++ (vb v ++ (vb f ++ ys)) := by simp
  rw [eA] at G2
  have HK1 := hide hk1
  have HK2 := hide hk2
  clear hk1 hk2 eA
  go_enter Try.func5, Try.ntmps5
  go_wp2_with fail
  refine (P1.out _ hA).mono ?_
  rintro e w1 ⟨g1, rfl, hB1, _, hb1⟩
  go_wp2_with fail
  refine (P2.out _ _ hB1).mono ?_
  rintro e w2 ⟨g2, rfl, hg2, hle2, hb2⟩
  have c2' : Below w.heap.size w w2 := hb1.trans (hb2.mono hb1.size)
  have hlen : (xs ++ vb v ++ vb f).length = n1 + k1 + k2 := by simp [lx, ← HK1.out, ← HK2.out, Nat.add_assoc]
  have hO := hide (own_of_row (e := 5) (zs := xs ++ vb v ++ vb f) w.heap.size (Nat.le_trans hb1.size hle2) hg2 (by rw [U_length]; exact hlen) hlen (Nat.le_refl (n1 + k1 + k2)) (by omega) (by rw [List.take_of_length_le (by rw [U_length, hlen]; exact Nat.le_refl _)]))
  clear hg2
  have w0 := c2'.size
  go_wp2_with (refine wpList_append_bs rfl (.tmp 26) (.tmp 27) 23 rfl w.heap.size 5 i0 Try.underlying23 hi hz0 hz1 hz2 _ (n1 + k1 + k2) _ rfl hO.out c n2 c2 ys rfl (hC.keep c2') (by omega) (by omega) w0 ?_; intro g3 c3 w3 hO3 hgr3)
  have c3' : Below w.heap.size w w3 := c2'.grown hgr3 w0 (fun k hk => by cases hk; exact Nat.le_trans hb1.size hle2)
  obtain ⟨All, hAll⟩ : ∃ All, All = xs ++ (vb v ++ (vb f ++ ys)) := ⟨_, rfl⟩
  have B3 : Bs w3 (some ⟨g3, 0, none⟩) (n1 + k1 + k2 + n2) c3 All := by
    rw [← U_append] at hO3
    have h := own_bs hO3 (app_byte (app_byte (app_byte bx.out (vb_byte v)) (vb_byte f)) hyb.out)
    rw [hAll]
    simpa using h
  rw [← hAll] at G1 G2
  generalize hL : n1 + k1 + k2 + n2 = L at B3 ⊢
  have l1 : n1 + k1 + k2 ≤ L := by omega
  have l2 : L ≤ 140737488355100 := by omega
  have l3 : L - (n1 + k1 + k2) = n2 := by omega
  have HL := hide l3
  clear l3 hL
  have hh : All.take n1 = xs := by rw [hAll]; simp [← lx]
  have ht : All.drop (n1 + k1 + k2) = ys := by
    rw [hAll, ← List.append_assoc, ← List.append_assoc]
    exact List.drop_left' hlen
  have hle3 := B3.le
  have hre3 := B3.reach
  have bA := B3.byte
  have HH := hide hh
  have HT := hide ht
  have BA := hide bA
  clear hAll hh ht bA hlen hO hO3 hgr3
  have K1 := hide (fun w' (hb : Below w3.heap.size w3 w') => get_yes (B3.keep hb) G1.out (v : Int) ((n1 : Int) + k1) rfl (by rw [← HK1.out]; simp))
  have K2 := hide (fun w' (hb : Below w3.heap.size w3 w') => getInt_yes (x := (n1 : Int) + k1) (B3.keep hb) (by simpa using G2.out) (wrap64 (v : Int)) ((n1 : Int) + k1 + k2) F2.out (by rw [← HK2.out]; omega))
  clear G1 G2
  refine (K1.out _ (Below.refl _ _)).mono ?_
  rintro e w4 ⟨rfl, hb4⟩
  go_wp2_with fail
  refine (K2.out _ hb4).mono ?_
  rintro e w5 ⟨rfl, hb5⟩
  have b5 : Below w3.heap.size w3 w5 := hb4.trans (hb5.mono hb4.size)
  clear hb4 hb5
  go_wp2_with fail
  refine (PL.out _).mono ?_
  rintro e w6 ⟨rfl, hb6⟩
  have b6 : Below w3.heap.size w3 w6 := b5.trans (hb6.mono b5.size)
  clear hb6 b5
  go_wp2_with fail
  have c6 : Below w.heap.size w w6 := c3'.trans (b6.mono c3'.size)
  refine (same_true HH.out ((B3.keep b6).head n1 (by omega)) (hA.keep c6)).mono ?_
  rintro e w7 ⟨rfl, hw7⟩
  subst hw7
  have hC7 := hC.keep c6
  have B7 := B3.keep b6
  have PK : Hid (∀ w, Calls Try.prog 23 #[.int .i64 q, .int .i64 ((L : Int) + 1)] w fun e w' => ∃ p : Nat, p < L + 1 ∧ e = .returned (.int .i64 p) ∧ w' = w) := hide (fun w => pick_any q (L + 1) w (by omega) (by omega))
  have h7 : (c3 = n1 + k1 + k2 ∧ n2 = 0 ∧ Hid (Calls Try.prog 7 #[.slice (some ⟨g3, 0, none⟩) 0 0, .slice c 0 c2] w7 fun e w' => e = .returned (.bool true) ∧ w' = w7)) ∨ (n1 + k1 + k2 < c3 ∧ Hid (Calls Try.prog 7 #[.slice (some ⟨g3, n1 + k1 + k2, none⟩) (L - (n1 + k1 + k2)) (c3 - (n1 + k1 + k2)), .slice c n2 c2] w7 fun e w' => e = .returned (.bool true) ∧ w' = w7)) := by
    have l3 := HL.out
    by_cases hcap : c3 = n1 + k1 + k2
    · have hn2 : n2 = 0 := by omega
      refine .inl ⟨hcap, hn2, hide ?_⟩
      subst hn2
      obtain rfl : ys = [] := List.eq_nil_of_length_eq_zero ly
      exact same_true (xs := []) rfl ⟨rfl, Nat.le_refl _, by omega, by simp, fun _ => rfl, fun h => by omega⟩ hC7
    · have h := same_true HT.out (B7.drop (n1 + k1 + k2) l1) hC7
      rw [Nat.zero_add] at h
      exact .inr ⟨by omega, hide h⟩
  rcases h7 with ⟨rfl, rfl, S7⟩ | ⟨hcap, S7⟩
  all_goals go_wp2_with fail
  all_goals refine S7.out.mono ?_
  all_goals rintro e w8 ⟨rfl, hw8⟩
  all_goals subst hw8
  all_goals go_wp2_with fail
  all_goals refine (PK.out _).mono ?_
  all_goals rintro e w9 ⟨p, hp, rfl, hw9⟩
  all_goals subst hw9
  all_goals obtain hgv | ⟨z, hgv⟩ : gv All p = none ∨ ∃ z, gv All p = some z := by cases gv All p <;> simp
  any_goals
    have HG := hide (get_no B7 hgv)
    clear hgv
    go_wp2_with fail
    refine HG.out.mono ?_
    rintro e w10 ⟨rfl, hb10⟩
    go_wp2_with fail
    refine (awake_any _).mono ?_
    rintro e w11 ⟨rfl, hb11⟩
    go_wp2_with fail
    go_ret
    have c10 : Below w.heap.size w w10 := c6.trans (hb10.mono c6.size)
    exact ⟨rfl, c10.trans (hb11.mono c10.size)⟩
  all_goals obtain ⟨hz1, hz2, hz3⟩ := again BA.out hgv
  all_goals obtain ⟨kz, hkz⟩ : ∃ kz, kz = (vb z).length := ⟨_, rfl⟩
  all_goals rw [← hkz] at hz1 hz2
  all_goals have hzl : kz ≤ 10 ∧ 1 ≤ kz := by rw [hkz]; exact ⟨vb_len10 hz3, vb_pos z⟩
  all_goals rw [B7.len] at hz1
  all_goals have HG := hide (get_yes B7 hgv (z : Int) ((p : Int) + kz) rfl (by rw [← hkz]; simp))
  all_goals have HP := hide (fun w => put_lit z hz3 (vb z) kz rfl hkz.symm w)
  all_goals have HZ := hide hz2
  all_goals have leB := B7.le
  all_goals clear hgv hkz hz2 hz3
  all_goals go_wp2_with fail
  all_goals refine HG.out.mono ?_
  all_goals rintro e w10 ⟨rfl, hb10⟩
  all_goals have B10 := B7.keep hb10
  all_goals have c10 : Below w.heap.size w w10 := c6.trans (hb10.mono c6.size)
  all_goals go_wp2_with fail
  all_goals have D10 : Below w10.heap.size w10 w10.drew := (Below.refl _ _).drew
  all_goals go_region_with (first
    | (go_at_call 8; refine (HP.out _).mono ?_; rintro e w11 ⟨g9, rfl, hB9, hb9⟩; have b11 : Below w10.heap.size w10 w11 := D10.trans hb9; clear hb9)
    | (go_at_call 7; refine (same_true rfl hB9 (mid (B10.keep b11) p kz hz1 (vb z) HZ.out)).mono ?_; rintro e w12 ⟨rfl, rfl⟩)
    | (go_at_call 14; refine (awake_any _).mono ?_; rintro e w13 ⟨rfl, hb13⟩))
  all_goals go_wp2_with fail
  all_goals go_ret
  all_goals have d := c10.trans (b11.mono c10.size)
  all_goals exact ⟨rfl, d.trans (hb13.mono d.size)⟩

end Go.Proofs.Ythhmpfgjeepglaa.varintBack

/-
  VarintNumbers returns true: the fixed examples of the chapter come out as written.
-/
import Derived.Test.YthhmpfgjeepglaaVfl
namespace Go.Proofs.Ythhmpfgjeepglaa.varintNumbers
open Go.RowKit

theorem fo_least : fo (-9223372036854775808) = 18446744073709551615 := by unfold fo; rw [if_pos (by decide)]; rfl
theorem vb_least : vb (fo (-9223372036854775808)) = [255, 255, 255, 255, 255, 255, 255, 255, 255, 1] := by rw [fo_least]; exact vb_max

/-- Nine full bytes and one more, as a slice of bytes. -/
theorem full_bs (z : Int) (hz : 0 ≤ z ∧ z ≤ 255) (w : World) :
    Calls Try.prog 9 #[.int .u8 z] w fun e w' => ∃ g d, e = .returned (.slice (some ⟨g, 0, none⟩) 10 d) ∧ Bs w' (some ⟨g, 0, none⟩) 10 d (List.replicate 9 255 ++ [z]) ∧ Below w.heap.size w w' := by
  refine (full_any z hz w).mono ?_
  rintro e w' ⟨g, d, rfl, ho, hb⟩
  exact ⟨g, d, rfl, own_bs ho (app_byte (by simp) (by simpa using hz)), hb⟩

/-- A call's answer against a row written out, as it stands in the program: the row is laid behind the call. -/
theorem same_row {w : World} {a : Option Addr} {n cap : Nat} {zs : List Int} (h : Bs w a n cap zs) (m : Nat) (hm : zs.length = m) (hm2 : m ≤ 1000) (r : Array Value) (hr : (U zs).toArray = r) :
    Calls Try.prog 7 #[.slice a n cap, .slice (some ⟨w.heap.size, 0, none⟩) m m] (w.alloc (.cells r 5)) fun e w' => e = .returned (.bool true) ∧ w' = w.alloc (.cells r 5) := by
  subst hr
  exact same_lit h m hm hm2

theorem none_of {l : List Int} (h : getv l = none) : gv l 0 = none := by
  unfold gv
  split
  · rfl
  · simpa using h

set_option maxRecDepth 100000 in
set_option maxHeartbeats 2000000 in
theorem walk (w : World) : Calls Try.prog 3 #[] w fun e w' => e = .returned (.bool true) ∧ Below w.heap.size w w' := by
  obtain ⟨i0, hi, hz0, hz1, hz2⟩ := info_parts info5
  go_enter Try.func3, Try.ntmps3
  go_wp2_with fail
  refine (put_lit 0 (by decide) [0] 1 vb_0 rfl _).mono ?_
  rintro e w1 ⟨g, rfl, hB, hb⟩
  have c1 : Below w.heap.size w w1 := hb
  clear hb
  have S := hide (same_row hB 1 rfl (by decide) #[.int .u8 0] rfl)
  clear hB
  go_wp2_with fail
  refine S.out.mono ?_
  rintro e w2 ⟨rfl, rfl⟩
  replace c1 := c1.alloc c1.size (.cells #[.int .u8 0] 5)
  generalize hW : w1.alloc (.cells #[.int .u8 0] 5) = W at c1 ⊢
  clear hW S
  go_wp2_with fail
  refine (put_lit 127 (by decide) [127] 1 vb_127 rfl _).mono ?_
  rintro e w3 ⟨g3, rfl, hB, hb⟩
  have c3 : Below w.heap.size w w3 := c1.trans (hb.mono c1.size)
  clear hb
  have S := hide (same_row hB 1 rfl (by decide) #[.int .u8 127] rfl)
  clear hB
  go_wp2_with fail
  refine S.out.mono ?_
  rintro e w4 ⟨rfl, rfl⟩
  replace c3 := c3.alloc c3.size (.cells #[.int .u8 127] 5)
  generalize hW : w3.alloc (.cells #[.int .u8 127] 5) = W3 at c3 ⊢
  clear hW S
  go_wp2_with fail
  refine (put_lit 128 (by decide) [128, 1] 2 vb_128 rfl _).mono ?_
  rintro e w5 ⟨g5, rfl, hB, hb⟩
  have c5 : Below w.heap.size w w5 := c3.trans (hb.mono c3.size)
  clear hb
  have S := hide (same_row hB 2 rfl (by decide) #[.int .u8 128, .int .u8 1] rfl)
  clear hB
  go_wp2_with fail
  refine S.out.mono ?_
  rintro e w6 ⟨rfl, rfl⟩
  replace c5 := c5.alloc c5.size (.cells #[.int .u8 128, .int .u8 1] 5)
  generalize hW : w5.alloc (.cells #[.int .u8 128, .int .u8 1] 5) = W5 at c5 ⊢
  clear hW S
  go_wp2_with fail
  refine (put_lit 18446744073709551615 (by decide) _ 10 vb_max rfl _).mono ?_
  rintro e w7 ⟨g7, rfl, hB7, hb⟩
  have c7 : Below w.heap.size w w7 := c5.trans (hb.mono c5.size)
  clear hb
  go_wp2_with fail
  refine (full_bs 1 (by decide) _).mono ?_
  rintro e w8 ⟨g8, d8, rfl, hB8, hb⟩
  have c8 : Below w.heap.size w w8 := c7.trans (hb.mono c7.size)
  have S := hide (same_true (by decide) (hB7.keep hb) hB8)
  clear hb hB7 hB8
  go_wp2_with fail
  refine S.out.mono ?_
  rintro e w9 ⟨rfl, rfl⟩
  clear S
  go_wp2_with fail
  refine (putInt_lit 1 (by decide) (by decide) [2] 1 vb_2 rfl _).mono ?_
  rintro e w10 ⟨g10, rfl, hB, hb⟩
  have c10 : Below w.heap.size w w10 := c8.trans (hb.mono c8.size)
  clear hb
  have S := hide (same_row hB 1 rfl (by decide) #[.int .u8 2] rfl)
  clear hB
  go_wp2_with fail
  refine S.out.mono ?_
  rintro e w11 ⟨rfl, rfl⟩
  replace c10 := c10.alloc c10.size (.cells #[.int .u8 2] 5)
  generalize hW : w10.alloc (.cells #[.int .u8 2] 5) = W10 at c10 ⊢
  clear hW S
  go_wp2_with fail
  refine (putInt_lit (-9223372036854775808) (by decide) (by decide) _ 10 vb_least rfl _).mono ?_
  rintro e w12 ⟨g12, rfl, hB7, hb⟩
  have c12 : Below w.heap.size w w12 := c10.trans (hb.mono c10.size)
  clear hb
  go_wp2_with fail
  refine (full_bs 1 (by decide) _).mono ?_
  rintro e w13 ⟨g13, d13, rfl, hB8, hb⟩
  have c13 : Below w.heap.size w w13 := c12.trans (hb.mono c12.size)
  have S := hide (same_true (by decide) (hB7.keep hb) hB8)
  clear hb hB7 hB8
  go_wp2_with fail
  refine S.out.mono ?_
  rintro e w14 ⟨rfl, rfl⟩
  clear S c1 c3 c5 c7 c8 c10 c12
  go_wp2_with fail
  have E0 := (Bs.lit w14 [128, 0] 2 rfl (by decide) (by decide)).alloc (.cells #[.int .u8 128] 5)
  have E1 := row_lit (w14.alloc (.cells #[.int .u8 128, .int .u8 0] 5)) (w14.heap.size + 1) (by simp) [128] 1 rfl (by decide) (by decide)
  have cp : Below w.heap.size w ((w14.alloc (.cells #[.int .u8 128, .int .u8 0] 5)).alloc (.cells #[.int .u8 128] 5)) := (c13.alloc c13.size _).alloc (by have := c13.size; simp; omega) _
  simp only [U, List.map_cons, List.map_nil] at E0 E1
  generalize hWp : (w14.alloc (.cells #[.int .u8 128, .int .u8 0] 5)).alloc (.cells #[.int .u8 128] 5) = Wp at E0 E1 cp ⊢
  generalize w14.heap.size = s14 at E0 E1 ⊢
  clear hWp c13
  refine (full_any 255 (by decide) _).mono ?_
  rintro e w15 ⟨g15, d15, rfl, hO, hb⟩
  have hs15 := hb.size
  have HO := hide hO
  clear hO
  go_wp2_with (at_builtin; refine wpList_append_bs rfl (.tmp 52) (.tmp 53) 23 rfl Wp.heap.size 5 i0 Try.underlying23 hi hz0 hz1 hz2 _ 10 _ rfl (HO.out.alloc _) _ 1 1 [1] rfl (Bs.lit w15 [1] 1 rfl (by decide) (by decide)) (by omega) (by omega) (by simp; omega) ?_; intro g16 d16 w16 hO16 hgr16)
  have hb16 : Below Wp.heap.size Wp w16 := own_below hb HO.out _ hgr16 hs15
  rw [← U_append] at hO16
  have E3 := own_bs hO16 (by decide)
  clear hO16 hgr16 HO hb hs15
  refine (full_bs 2 (by decide) _).mono ?_
  rintro e w17 ⟨g17, d17, rfl, E4, hb⟩
  replace E3 := E3.keep hb
  have hb17 : Below Wp.heap.size Wp w17 := hb16.trans (hb.mono hb16.size)
  clear hb hb16
  go_wp2_with fail
  refine (full_bs 128 (by decide) _).mono ?_
  rintro e w18 ⟨g18, d18, rfl, E5, hb⟩
  replace E3 := E3.keep hb
  replace E4 := E4.keep hb
  have hb18 : Below Wp.heap.size Wp w18 := hb17.trans (hb.mono hb17.size)
  clear hb hb17
  replace E0 := E0.keep hb18
  replace E1 := E1.keep hb18
  have c18 : Below w.heap.size w w18 := cp.trans (hb18.mono cp.size)
  clear hb18 cp
  have hN : Hid (∀ k : Nat, k < 6 → ∃ a n c zs, (#[.slice (some ⟨s14, 0, none⟩) 2 2, .slice (some ⟨s14 + 1, 0, none⟩) 1 1, .slice none 0 0, .slice (some ⟨g16, 0, none⟩) (10 + 1) d16, .slice (some ⟨g17, 0, none⟩) 10 d17, .slice (some ⟨g18, 0, none⟩) 10 d18] : Array Value)[k]? = some (.slice a n c) ∧ Bs w18 a n c zs ∧ gv zs 0 = none) := by
    refine hide (fun k hk => ?_)
    match k, hk with
    | 0, _ => exact ⟨_, _, _, _, rfl, E0, none_of (by decide)⟩
    | 1, _ => exact ⟨_, _, _, _, rfl, E1, none_of (by decide)⟩
    | 2, _ => exact ⟨_, _, _, _, rfl, Bs.nil _, none_of (by decide)⟩
    | 3, _ => exact ⟨_, _, _, _, rfl, E3, none_of (by decide)⟩
    | 4, _ => exact ⟨_, _, _, _, rfl, E4, none_of (by decide)⟩
    | 5, _ => exact ⟨_, _, _, _, rfl, E5, none_of (by decide)⟩
  clear E0 E1 E3 E4 E5
  go_wp2_with fail
  generalize hWl : w18.alloc (.cells #[.slice (some ⟨s14, 0, none⟩) 2 2, .slice (some ⟨s14 + 1, 0, none⟩) 1 1, .slice none 0 0, .slice (some ⟨g16, 0, none⟩) (10 + 1) d16, .slice (some ⟨g17, 0, none⟩) 10 d17, .slice (some ⟨g18, 0, none⟩) 10 d18] 23) = Wl
  have HL : Hid (∀ k : Nat, k < 6 → ∃ a n c zs, Wl.cell? ⟨w18.heap.size, k, none⟩ = some (.slice a n c) ∧ Bs Wl a n c zs ∧ gv zs 0 = none) := by
    refine hide (fun k hk => ?_)
    obtain ⟨a, n, c, zs, h1, h2, h3⟩ := hN.out k hk
    refine ⟨a, n, c, zs, ?_, hWl ▸ h2.alloc _, h3⟩
    rw [← hWl, cell_of_row _ _ k _ 23 (0, 0) (heap_alloc_new w18 _)]
    exact h1
  have cl : Below w.heap.size w Wl := hWl ▸ c18.alloc c18.size _
  have sl : w18.heap.size < Wl.heap.size := by rw [← hWl, World.size_alloc]; omega
  clear hWl hN c18
  generalize w18.heap.size = s18 at HL sl ⊢
  go_loopw [59] (fun i wr => ∃ k : Nat, k ≤ 6 ∧ i = .int .i64 k ∧ Below Wl.heap.size Wl wr)
    (fun i _ => 6 - (intOf i).toNat)
  case atStart => exact ⟨0, by omega, rfl, Below.refl _ _⟩
  case round =>
    obtain ⟨k, hk, rfl, hb⟩ := hrel
    by_cases hlt : k < 6
    · obtain ⟨a, n, c, zs, h1, h2, h3⟩ := HL.out k hlt
      have h1' : wr.cell? ⟨s18, k, none⟩ = some (.slice a n c) := (hb.cell (p := ⟨s18, k, none⟩) sl).trans h1
      have H2 := hide (get_no (h2.keep hb) h3)
      clear h1 h2 h3
      go_wp2_with fail
      refine H2.out.mono ?_
      rintro e w2 ⟨rfl, hb2⟩
      go_wp2_with fail
      go_roundw
      case rel => exact ⟨k + 1, by omega, by simp, hb.trans (hb2.mono hb.size)⟩
      case measure => simp [intOf]; omega
    · obtain rfl : k = 6 := by omega
      have c0 : Below w.heap.size w wr := cl.trans (hb.mono cl.size)
      clear HL hb hlt hk cl sl
      have G := hide (get_no (Bs.lit wr [0] 1 rfl (by decide) (by decide)) (x := 1) (by decide))
      simp only [U, List.map_cons, List.map_nil] at G
      replace c0 := c0.alloc c0.size (.cells #[.int .u8 0] 5)
      go_wp2_with fail
      refine G.out.mono ?_
      rintro e w2 ⟨rfl, hb2⟩
      have c2 : Below w.heap.size w w2 := c0.trans (hb2.mono c0.size)
      clear hb2 c0 G
      have G := hide (get_no (Bs.lit w2 [0] 1 rfl (by decide) (by decide)) (x := -1) (by decide))
      simp only [U, List.map_cons, List.map_nil] at G
      replace c2 := c2.alloc c2.size (.cells #[.int .u8 0] 5)
      go_wp2_with fail
      refine G.out.mono ?_
      rintro e w3 ⟨rfl, hb3⟩
      have c3 : Below w.heap.size w w3 := c2.trans (hb3.mono c2.size)
      clear hb3 c2 G
      have G := hide (get_no (Bs.lit w3 [0] 1 rfl (by decide) (by decide)) (x := 2) (by decide))
      simp only [U, List.map_cons, List.map_nil] at G
      replace c3 := c3.alloc c3.size (.cells #[.int .u8 0] 5)
      go_wp2_with fail
      refine G.out.mono ?_
      rintro e w4 ⟨rfl, hb4⟩
      have c4 : Below w.heap.size w w4 := c3.trans (hb4.mono c3.size)
      clear hb4 c3 G
      go_wp2_with fail
      refine (full_bs 1 (by decide) _).mono ?_
      rintro e w5 ⟨g5', d5, rfl, B5, hb5⟩
      have c5 : Below w.heap.size w w5 := c4.trans (hb5.mono c4.size)
      clear hb5 c4
      have G := hide (get_yes B5 (gv_head 18446744073709551615 (by decide) _ [] vb_max (by decide)) 18446744073709551615 10 rfl (by rw [vb_max]; rfl))
      go_wp2_with fail
      refine G.out.mono ?_
      rintro e w6 ⟨rfl, hb6⟩
      have c6 : Below w.heap.size w w6 := c5.trans (hb6.mono c5.size)
      clear hb6 c5 G B5
      go_wp2_with fail
      refine (full_bs 1 (by decide) _).mono ?_
      rintro e w7' ⟨g7', d7, rfl, B7, hb7⟩
      have c7 : Below w.heap.size w w7' := c6.trans (hb7.mono c6.size)
      clear hb7 c6
      have G := hide (getInt_yes B7 (gv_head 18446744073709551615 (by decide) _ [] vb_max (by decide)) (-9223372036854775808) 10 rfl (by rw [vb_max]; rfl))
      go_wp2_with fail
      refine G.out.mono ?_
      rintro e w8' ⟨rfl, hb8⟩
      have c8 : Below w.heap.size w w8' := c7.trans (hb8.mono c7.size)
      clear hb8 c7 G B7
      have L0 := hide (fun w => len_any 0 (by decide) w)
      have L1 := hide (fun w => len_any 18446744073709551615 (by decide) w)
      rw [vb_0] at L0
      rw [vb_max] at L1
      go_wp2_with fail
      refine (L0.out _).mono ?_
      rintro e w9' ⟨rfl, hb9⟩
      have c9 : Below w.heap.size w w9' := c8.trans (hb9.mono c8.size)
      clear hb9 c8 L0
      go_wp2_with fail
      refine (L1.out _).mono ?_
      rintro e wa ⟨rfl, hba⟩
      have ca : Below w.heap.size w wa := c9.trans (hba.mono c9.size)
      clear hba c9 L1
      go_wp2_with fail
      refine (awake_any _).mono ?_
      rintro e wb ⟨rfl, hbb⟩
      go_wp2_with fail
      go_ret
      exact ⟨rfl, ca.trans (hbb.mono ca.size)⟩

end Go.Proofs.Ythhmpfgjeepglaa.varintNumbers

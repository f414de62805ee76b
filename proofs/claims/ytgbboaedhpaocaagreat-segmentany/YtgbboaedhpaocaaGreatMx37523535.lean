/-
  Texts put into one.
-/
import Derived.Test.YtgbboaedhpaocaaGreatMxaa9464d2
import Derived.Deep.RegionHeld3
import Derived.BigQuiet

/-
  The calls on a segment.
-/
namespace Go.Proofs.YtgbboaedhpaocaaGreat
open Go.RowKit
set_option maxRecDepth 100000
set_option maxRecDepth 100000
set_option linter.unusedVariables false

section
variable {w W : World} {P : Nat → Prop} {R S : Nat} {d : Dsk} {nm : ByteArray} {sv ev : Value} {bs : List (List Int)} {br : Bool}

theorem Sg.c (h : Sg W R S nm sv ev bs br) (i : Nat) : W.cell? ⟨S, i, none⟩ = (#[.pointer (some ⟨S, 0, none⟩), .pointer (some ⟨R, 0, none⟩), .string nm, sv, ev, .bool br] : Array Value)[i]? := cell_of_row W S i _ (69 : TypeId) (0, 0) h.obj
theorem Sg.free (h : Sg W R S nm sv ev bs br) (i : Nat) : W.frozen? ⟨S, i, none⟩ = false := frozen_of_row W S i _ (69 : TypeId) h.obj
end

theorem info69 : ∃ j, Tryz.prog.info? (69 : TypeId) = some j := by
  have h : (Tryz.prog.info? (69 : TypeId)).isSome = true := by kernel_rfl
  exact Option.isSome_iff_exists.1 h

set_option maxHeartbeats 400000 in
theorem smade_yes {W : World} {R S : Nat} {nm : ByteArray} {sv ev : Value} {bs : List (List Int)} {br : Bool} (h : Sg W R S nm sv ev bs br) :
    Calls Tryz.prog 59 #[.pointer (some ⟨S, 0, none⟩)] W fun e w' => e = .returned (.bool true) ∧ w' = W := by
  have h0 : W.cell? ⟨S, 0, none⟩ = some (.pointer (some ⟨S, 0, none⟩)) := h.c 0
  clear h
  obtain ⟨j, hj⟩ := info69
  have he := eql_same (P := Tryz.prog) (w := W) (tp := (24 : TypeId)) (te := (69 : TypeId)) ⟨S, 0, none⟩ Tryz.underlying24 hj
  go_enter Tryz.func59, Tryz.ntmps59
  go_wp2_with fail
  go_ret
  exact ⟨rfl, rfl⟩

set_option maxHeartbeats 400000 in
theorem smade_nil (w : World) :
    Calls Tryz.prog 59 #[.pointer none] w fun e w' => e = .returned (.bool false) ∧ w' = w := by
  go_enter Tryz.func59, Tryz.ntmps59
  go_wp2_with fail
  go_ret
  exact ⟨rfl, rfl⟩

set_option maxHeartbeats 400000 in
theorem smade_zero {S : Nat} {w : World} (h0 : w.cell? ⟨S, 0, none⟩ = some (.pointer none)) :
    Calls Tryz.prog 59 #[.pointer (some ⟨S, 0, none⟩)] w fun e w' => e = .returned (.bool false) ∧ w' = w := by
  have he := eql_none (P := Tryz.prog) (w := w) (tp := (24 : TypeId)) (te := (69 : TypeId)) ⟨S, 0, none⟩ Tryz.underlying24
  go_enter Tryz.func59, Tryz.ntmps59
  go_wp2_with fail
  go_ret
  exact ⟨rfl, rfl⟩

section
variable {w W : World} {P : Nat → Prop} {R S : Nat} {d : Dsk} {nm : ByteArray} {sv ev : Value} {bs : List (List Int)} {br : Bool}

set_option maxHeartbeats 400000 in
theorem refused_any (h : Sg W R S nm sv ev bs br) :
    Calls Tryz.prog 49 #[.pointer (some ⟨S, 0, none⟩)] W fun e w' => e = .returned (.int .i64 (if br then 4 else 0)) ∧ w' = W := by
  have c5 : W.cell? ⟨S, 5, none⟩ = some (.bool br) := h.c 5
  have hm := smade_yes h
  clear h
  go_enter Tryz.func49, Tryz.ntmps49
  cases br
  all_goals
    go_wp2_with (go_at_call 59; refine hm.mono ?_; rintro e w1 ⟨rfl, hw1⟩; subst w1)
    go_ret
    exact ⟨rfl, rfl⟩

set_option maxHeartbeats 400000 in
theorem scount_any (h : Sg W R S nm sv ev bs br) :
    Calls Tryz.prog 16 #[.pointer (some ⟨S, 0, none⟩)] W fun e w' => e = .returned (.int .i64 (bs.length : Int)) ∧ w' = W := by
  obtain ⟨ea, ec, rfl⟩ := row_val h.ends
  have c4 : W.cell? ⟨S, 4, none⟩ = some (.slice ea bs.length ec) := h.c 4
  have hm := smade_yes h
  clear h
  go_enter Tryz.func16, Tryz.ntmps16
  go_wp2_with (go_at_call 59; refine hm.mono ?_; rintro e w1 ⟨rfl, hw1⟩; subst w1)
  go_ret
  exact ⟨rfl, rfl⟩

set_option maxHeartbeats 400000 in
theorem ssize_any (h : Sg W R S nm sv ev bs br) :
    Calls Tryz.prog 17 #[.pointer (some ⟨S, 0, none⟩)] W fun e w' => e = .returned (.int .i64 ((flat bs).length : Int)) ∧ w' = W := by
  obtain ⟨sa, sc, rfl⟩ := row_val h.str
  have c3 : W.cell? ⟨S, 3, none⟩ = some (.slice sa (flat bs).length sc) := h.c 3
  have hm := smade_yes h
  clear h
  go_enter Tryz.func17, Tryz.ntmps17
  go_wp2_with (go_at_call 59; refine hm.mono ?_; rintro e w1 ⟨rfl, hw1⟩; subst w1)
  go_ret
  exact ⟨rfl, rfl⟩

set_option maxHeartbeats 400000 in
theorem sbroken_any (h : Sg W R S nm sv ev bs br) :
    Calls Tryz.prog 21 #[.pointer (some ⟨S, 0, none⟩)] W fun e w' => e = .returned (.bool br) ∧ w' = W := by
  have c5 : W.cell? ⟨S, 5, none⟩ = some (.bool br) := h.c 5
  have hm := smade_yes h
  clear h
  go_enter Tryz.func21, Tryz.ntmps21
  go_wp2_with (go_at_call 59; refine hm.mono ?_; rintro e w1 ⟨rfl, hw1⟩; subst w1)
  go_ret
  exact ⟨by simp, rfl⟩
end

/-- What Sync does: the disk's answer, and whether it breaks the segment. -/
def Dsk.ssync (d : Dsk) (s : ByteArray) (br : Bool) : Int × Dsk × Bool :=
  if br then (4, d, true) else if (d.sync s).1 = 70 then (0, (d.sync s).2, false) else ((d.sync s).1, (d.sync s).2, decide ((d.sync s).1 ≠ 0))

theorem Sg.brk {W : World} {R S : Nat} {nm : ByteArray} {sv ev : Value} {bs : List (List Int)} {br : Bool} (h : Sg W R S nm sv ev bs br) (x : Bool) : Sg (W.setCell ⟨S, 5, none⟩ (.bool x)) R S nm sv ev bs x := by
  have hb : Tb (fun k => k = S) W (W.setCell ⟨S, 5, none⟩ (.bool x)) := Tb.set (S := fun k => k = S) S 5 _ rfl
  have hne : ∀ (v : Value) (n : Nat) (e : TypeId) (xs : List Value), W.ownsRow 0 e 1 v n xs → e ≠ (69 : TypeId) → ∀ g, v.ownBlock = some g → ¬ g = S := fun v n e xs ho he g hg hs => by
    rcases ho.2 with ⟨h1, _⟩ | ⟨g', cap, cur, h1, _, hgg, _⟩
    · rw [h1] at hg; cases hg
    · rw [h1] at hg
      simp only [Value.ownBlock, Option.some.injEq] at hg
      rw [hg, hs, h.obj] at hgg
      cases hgg
      exact he rfl
  exact ⟨heap_setCell_same W S 5 _ (69 : TypeId) _ h.obj, row_tb h.str hb (hne _ _ _ _ h.str (by decide)), row_tb h.ends hb (hne _ _ _ _ h.ends (by decide)), h.byte, h.short, h.most⟩

set_option maxHeartbeats 2000000 in
theorem ssync_on {w W : World} {P : Nat → Prop} {R S : Nat} {d : Dsk} {K : Nat} {nm : ByteArray} {bs : List (List Int)} {br : Bool} (h : Sgx w P R S d nm bs br W) (hz : Bw d K) (hK : K < 700000) (hs : nm.size ≤ 1000000) :
    Calls Tryz.prog 12 #[.pointer (some ⟨S, 0, none⟩)] W fun e W' => e = .returned (.int .i64 (d.ssync nm br).1) ∧ Sgx w P R S (d.ssync nm br).2.1 nm bs (d.ssync nm br).2.2 W' ∧ No P W W' := by
  have HX := hide h
  obtain ⟨Q, sv, ev, h1, h2, h3, h4, h5, h6, h7⟩ := h
  have c1 : W.cell? ⟨S, 1, none⟩ = some (.pointer (some ⟨R, 0, none⟩)) := h4.c 1
  have c2 : W.cell? ⟨S, 2, none⟩ = some (.string nm) := h4.c 2
  have hrf := refused_any h4
  have tdr : Tb (fun _ => False) W W.drew := (Tb.refl _ W).drew
  have C := ay_sync (h1.kept tdr) hz (by omega) (by omega : nm.size ≤ 9223372036854775807)
  obtain ⟨r, hr⟩ : ∃ r, Hid (r = d.sync nm) := ⟨_, hide rfl⟩
  rw [← hr.out] at C
  have hsd : Hid (d.ssync nm br = if br then (4, d, true) else if r.1 = 70 then (0, r.2, false) else (r.1, r.2, decide (r.1 ≠ 0))) := hide (by unfold Dsk.ssync; rw [← hr.out])
  have FIN : Hid (∀ X, Ay w (fun g => P g ∨ Q g) R r.2 X → No (fun g => P g ∨ Q g) W X → Sg X R S nm sv ev bs br ∧ No P W X ∧ (∀ x, Sgx w P R S r.2 nm bs x (X.setCell ⟨S, 5, none⟩ (.bool x)) ∧ No P W (X.setCell ⟨S, 5, none⟩ (.bool x))) ∧ Sgx w P R S r.2 nm bs br X) := hide (fun X a1 a2 => by
    have g1 : Sg X R S nm sv ev bs br := h4.tb a2 (fun hn => hn (.inr h5)) (fun g hg hn => hn (.inr (h6 g hg))) (fun g hg hn => hn (.inr (h7 g hg)))
    have g2 : No P W X := a2.less (fun g hg => .inl hg)
    refine ⟨g1, g2, fun x => ?_, ⟨Q, sv, ev, a1, h2, h3, g1, h5, h6, h7⟩⟩
    have hst : Tb (fun k => k = S) X (X.setCell ⟨S, 5, none⟩ (.bool x)) := Tb.set (S := fun k => k = S) S 5 _ rfl
    have hSw : w.heap.size ≤ S := Nat.not_lt.1 (fun hl => h2 S h5 (h3 S hl))
    refine ⟨⟨Q, sv, ev, (a1.on (hst.mono (fun k _ e => by rw [e]; exact ⟨.inr h5, hSw⟩))).less (fun g hg => .inl hg) (fun g hg => .inl (h3 g hg)), h2, h3, g1.brk x, h5, h6, h7⟩, g2.trans (hst.mono (fun k _ e hp => by rw [e] at hp; exact h2 S h5 hp))⟩)
  clear h1 h4
  cases br with
  | true =>
    go_enter Tryz.func12, Tryz.ntmps12
    go_wp2_with (go_at_call 49; refine hrf.mono ?_; rintro e w1 ⟨rfl, hw1⟩; subst w1)
    go_ret
    rw [hsd.out]
    exact ⟨rfl, HX.out, No.refl⟩
  | false =>
    go_enter Tryz.func12, Tryz.ntmps12
    go_wp2_with (go_at_call 49; refine hrf.mono ?_; rintro e w1 ⟨rfl, hw1⟩; subst w1)
    go_region_held3 (fun V => V.cell? ⟨S, 1, none⟩ = some (.pointer (some ⟨R, 0, none⟩)) ∧ V.cell? ⟨S, 2, none⟩ = some (.string nm))
      (first | exact ⟨c1, c2⟩ | exact ⟨g1.c 1, g1.c 2⟩)
      (first | (go_at_call 53; refine C.mono ?_; rintro e X ⟨rfl, a1, a2⟩; obtain ⟨g1, g2, g3, g4⟩ := FIN.out X a1 ((No.of tdr).trans a2)))
    have c5 : X.cell? ⟨S, 5, none⟩ = some (.bool false) := g1.c 5
    have f5 := g1.free 5
    have G2 := hide g2
    have G3 := hide g3
    have G4 := hide g4
    clear a1 a2 g1 g2 g3 g4 C c1 c2
    by_cases h70 : r.1 = 70
    · rw [h70]
      go_wp2_with fail
      go_ret
      rw [hsd.out, if_neg (by simp), if_pos h70]
      exact ⟨rfl, G4.out, G2.out⟩
    · have e70 : (r.1 == 70) = false := by simpa using h70
      by_cases h0 : r.1 = 0
      · rw [h0]
        go_wp2_with fail
        go_ret
        rw [hsd.out, if_neg (by simp), if_neg h70, h0]
        exact ⟨rfl, (G3.out false).1, (G3.out false).2⟩
      · have e0 : (r.1 == 0) = false := by simpa using h0
        go_wp2_with fail
        go_ret
        rw [hsd.out, if_neg (by simp), if_neg h70]
        have e1 : decide (r.1 ≠ 0) = true := by simpa using h0
        rw [e1, show (r.1 != 0) = true from by simpa using h0]
        exact ⟨rfl, (G3.out true).1, (G3.out true).2⟩

end Go.Proofs.YtgbboaedhpaocaaGreat

/-
  Read of a segment.
-/
namespace Go.Proofs.YtgbboaedhpaocaaGreat
open Go.RowKit
set_option maxRecDepth 100000
set_option maxRecDepth 100000
set_option linter.unusedVariables false

theorem ends_cell {w : World} {base g k c : Nat} {bs : List (List Int)} {n : Nat} (h : w.ownsRow base 3 1 (.slice (some ⟨g, 0, none⟩) k c) k (Nn (eds bs))) (hn : n < bs.length) : w.cell? ⟨g, n, none⟩ = some (.int .i64 (edAt bs (n + 1) : Int)) := by
  have := h.cells (g := g) rfl n (.int .i64 (edAt bs (n + 1) : Int)) (by
    rw [Nn, List.getElem?_map, eds_get bs n hn]
    rfl)
  rw [Addr.add_lit, Nat.zero_add] at this
  exact this

set_option maxHeartbeats 1000000 in
theorem sread_no {W : World} {R S : Nat} {nm : ByteArray} {sv ev : Value} {bs : List (List Int)} {br : Bool} {i : Int} (h : Sg W R S nm sv ev bs br) (hi : i < 0 ∨ (bs.length : Int) ≤ i) :
    Calls Tryz.prog 18 #[.pointer (some ⟨S, 0, none⟩), .int .i64 i] W fun e w' => e = .returned (.tuple #[.slice none 0 0, .int .i64 2]) ∧ w' = W := by
  obtain ⟨ea, ec, rfl⟩ := row_val h.ends
  have c4 : W.cell? ⟨S, 4, none⟩ = some (.slice ea bs.length ec) := h.c 4
  have hm := smade_yes h
  clear h
  go_enter Tryz.func18, Tryz.ntmps18
  by_cases h0 : i < 0
  · clear hi
    go_wp2_with (go_at_call 59; refine hm.mono ?_; rintro e w1 ⟨rfl, hw1⟩; subst w1)
    go_ret2
    exact ⟨rfl, rfl⟩
  · have h1 := hi.resolve_left h0
    clear hi
    go_wp2_with (go_at_call 59; refine hm.mono ?_; rintro e w1 ⟨rfl, hw1⟩; subst w1)
    go_ret2
    exact ⟨rfl, rfl⟩

set_option maxHeartbeats 2000000 in
theorem sread_yes {W : World} {R S : Nat} {nm : ByteArray} {sv ev : Value} {bs : List (List Int)} {br : Bool} {i : Nat} (h : Sg W R S nm sv ev bs br) (hi : i < bs.length) :
    Calls Tryz.prog 18 #[.pointer (some ⟨S, 0, none⟩), .int .i64 (i : Int)] W fun e w' => ∃ g c, e = .returned (.tuple #[.slice (some ⟨g, 0, none⟩) bs[i].length c, .int .i64 0]) ∧ w'.ownsRow W.heap.size 5 1 (.slice (some ⟨g, 0, none⟩) bs[i].length c) bs[i].length (U bs[i]) ∧ Below W.heap.size W w' := by
  obtain ⟨i0, hi0, hz0, hz1, hz2⟩ := info_parts info5
  have hF4 := flat_len4 bs
  have hmost := h.most
  have hF5 : (flat bs).length ≤ 253952 := by unfold nsec at hmost; omega
  obtain ⟨g, sc, rfl⟩ := own_shape h.str (by omega)
  obtain ⟨ge, ec, rfl⟩ := own_shape h.ends (by omega)
  have hsc := own_caps h.str
  have hec := own_caps h.ends
  have c3 : W.cell? ⟨S, 3, none⟩ = some (.slice (some ⟨g, 0, none⟩) (flat bs).length sc) := h.c 3
  have c4 : W.cell? ⟨S, 4, none⟩ = some (.slice (some ⟨ge, 0, none⟩) bs.length ec) := h.c 4
  have ci := ends_cell h.ends hi
  have hm := smade_yes h
  have CE := fun (X : World) (hX : X.ownsRow 0 3 1 (.slice (some ⟨ge, 0, none⟩) bs.length ec) bs.length (Nn (eds bs))) => endOf_any (n := i) hX rfl (by omega) (by omega)
  have hends := h.ends
  have hstr := own_bs h.str (flat_byte h.byte)
  have hed := edAt_succ bs i hi
  have hel := edAt_le bs (i + 1)
  have hbody := flat_body bs i hi
  rw [hed] at ci
  obtain ⟨A, hA⟩ : ∃ A, Hid (A = edAt bs i) := ⟨_, hide rfl⟩
  obtain ⟨L, hL⟩ : ∃ L, Hid (L = bs[i].length) := ⟨_, hide rfl⟩
  obtain ⟨F, hF⟩ : ∃ F, Hid (F = (flat bs).length) := ⟨_, hide rfl⟩
  obtain ⟨B, hB⟩ : ∃ B, Hid (B = bs.length) := ⟨_, hide rfl⟩
  rw [hed, ← hA.out, ← hL.out, ← hF.out] at hel
  rw [← hA.out, ← hL.out] at ci hbody
  rw [← hF.out] at hF5 hsc c3 hstr
  rw [← hB.out] at hec c4 hi CE hends
  rw [← hA.out] at CE
  obtain ⟨b, hb⟩ : ∃ b, Hid (b = bs[i]) := ⟨_, hide rfl⟩
  rw [← hb.out] at hbody hL
  rw [← hb.out, ← hL.out]
  have hP : ∃ ad, Bs W (some ad) L (sc - (A + 4)) b ∧ (if sc = A + 4 then ad = ⟨g, 0, none⟩ else ad = ⟨g, A + 4, none⟩) := by
    by_cases c : sc = A + 4
    · have hL0 : L = 0 := by omega
      have : b = [] := List.eq_nil_of_length_eq_zero (by rw [← hL.out]; exact hL0)
      rw [hL0, this]
      exact ⟨⟨g, 0, none⟩, Bs.zero W _ _ (by omega), by rw [if_pos c]⟩
    · refine ⟨⟨g, A + 4, none⟩, ?_, by rw [if_neg c]⟩
      have := hstr.mid (A + 4) L (by omega)
      rw [hbody, Nat.zero_add] at this
      exact this
  obtain ⟨ad, hP, hif⟩ := hP
  have HP := hide hP
  have hs1 := hsc.2
  have hs2 : F ≤ sc := hsc.1
  have he1 := hec.1
  have he2 := hec.2
  have hin : (((A + 4 + L : Nat) : Int)).toNat - (A + 4) = L := by omega
  clear h hsc hec hstr hbody hed hmost hF4 hP
  go_enter Tryz.func18, Tryz.ntmps18
  go_wp2_with (go_at_call 59; refine hm.mono ?_; rintro e w1 ⟨rfl, hw1⟩; subst w1)
  by_cases hc : sc = A + 4
  · rw [if_pos hc] at hif
    subst hif
    subst hc
    go_quiet (first | (go_at_call 45; exact Calls.quiet_of_same (CE _ (by first | exact hends | assumption))))
    rw [show A + 4 + L - (A + 4) = L from by omega]
    obtain ⟨V, hV⟩ : ∃ V, V = W.drewN nq := ⟨_, rfl⟩
    have bV : Below W.heap.size W V := by rw [hV]; exact ⟨rfl, rfl, rfl, Nat.le_refl _, fun _ _ => rfl⟩
    have hVs : Hid (V.heap.size = W.heap.size) := hide (by rw [hV]; rfl)
    rw [← hV]
    clear hV
    have hBV := HP.out.keep bV
    go_wp2_with (at_builtin; refine wpList_append_went rfl (.tmp 40) (.tmp 41) 30 rfl V.heap.size 5 i0 Tryz.underlying30 hi0 hz0 hz1 hz2 _ 0 [] rfl (World.ownsRow_made V #[] 0 (Nat.le_refl _) (by decide) rfl) _ _ _ b rfl (hBV.alloc _) (by omega) (by simp) ?_; intro v' w' hown hgrow hwent)
    simp only [Nat.zero_add, List.nil_append] at hown
    have hb' : ∃ g, v'.ownBlock = some g := by
      rcases hwent with h | h
      · exact ⟨_, h⟩
      · exact ⟨_, h⟩
    obtain ⟨g', hg'⟩ := hb'
    obtain ⟨d', rfl⟩ := own_some hown hg'
    have hbel : Below V.heap.size V w' := ((Below.refl _ V).alloc (Nat.le_refl _) _).grown hgrow (by simp) (fun k hk => own_from (World.ownsRow_made (size := 1) (e := 5) V #[] 0 (Nat.le_refl _) (by decide) rfl) hk)
    rw [hVs.out] at hown hbel
    have HO := hide hown
    have HB' := hide (bV.trans hbel)
    clear hgrow hwent hg' hown hbel
    go_wp2_with fail
    go_ret2
    exact ⟨g', d', rfl, HO.out, HB'.out⟩
  · rw [if_neg hc] at hif
    subst hif
    have hc2 : A + 4 ≠ sc := fun e => hc e.symm
    have HC := hide hc
    clear hc
    go_quiet (first | (go_at_call 45; exact Calls.quiet_of_same (CE _ (by first | exact hends | assumption))))
    rw [show A + 4 + L - (A + 4) = L from by omega]
    obtain ⟨V, hV⟩ : ∃ V, V = W.drewN nq := ⟨_, rfl⟩
    have bV : Below W.heap.size W V := by rw [hV]; exact ⟨rfl, rfl, rfl, Nat.le_refl _, fun _ _ => rfl⟩
    have hVs : Hid (V.heap.size = W.heap.size) := hide (by rw [hV]; rfl)
    rw [← hV]
    clear hV
    have hBV := HP.out.keep bV
    go_wp2_with (at_builtin; refine wpList_append_went rfl (.tmp 40) (.tmp 41) 30 rfl V.heap.size 5 i0 Tryz.underlying30 hi0 hz0 hz1 hz2 _ 0 [] rfl (World.ownsRow_made V #[] 0 (Nat.le_refl _) (by decide) rfl) _ _ _ b rfl (hBV.alloc _) (by omega) (by simp) ?_; intro v' w' hown hgrow hwent)
    simp only [Nat.zero_add, List.nil_append] at hown
    have hb' : ∃ g, v'.ownBlock = some g := by
      rcases hwent with h | h
      · exact ⟨_, h⟩
      · exact ⟨_, h⟩
    obtain ⟨g', hg'⟩ := hb'
    obtain ⟨d', rfl⟩ := own_some hown hg'
    have hbel : Below V.heap.size V w' := ((Below.refl _ V).alloc (Nat.le_refl _) _).grown hgrow (by simp) (fun k hk => own_from (World.ownsRow_made (size := 1) (e := 5) V #[] 0 (Nat.le_refl _) (by decide) rfl) hk)
    rw [hVs.out] at hown hbel
    have HO := hide hown
    have HB' := hide (bV.trans hbel)
    clear hgrow hwent hg' hown hbel
    go_wp2_with fail
    go_ret2
    exact ⟨g', d', rfl, HO.out, HB'.out⟩

end Go.Proofs.YtgbboaedhpaocaaGreat

/-
  Append to a segment.
-/
namespace Go.Proofs.YtgbboaedhpaocaaGreat
open Go.RowKit
set_option maxRecDepth 100000
set_option maxRecDepth 100000
set_option linter.unusedVariables false

/-- A disk, blocks (Q) of one's own beside it, and others (P). -/
structure Qx (w : World) (P Q : Nat → Prop) (R : Nat) (d : Dsk) (W : World) : Prop where
  ay : Ay w (fun g => P g ∨ Q g) R d W
  no : ∀ g, Q g → ¬ P g
  old : ∀ g, g < w.heap.size → P g

section
variable {w W V : World} {P Q : Nat → Prop} {R S : Nat} {d d' : Dsk} {nm : ByteArray} {sv ev : Value} {bs : List (List Int)} {br : Bool}

theorem Qx.ge (h : Qx w P Q R d W) {g : Nat} (hg : Q g) : w.heap.size ≤ g := Nat.not_lt.1 (fun hl => h.no g hg (h.old g hl))
theorem Qx.lt (h : Qx w P Q R d W) {g : Nat} (hg : Q g) : g < W.heap.size := h.ay.lt g (.inr hg)

/-- Blocks of one's own turn, and new ones are laid. -/
theorem Qx.own (h : Qx w P Q R d W) (hb : Tb Q W V) : Qx w P (fun g => Q g ∨ (W.heap.size ≤ g ∧ g < V.heap.size)) R d V ∧ No P W V := by
  have h1 := h.ay.on (hb.mono (fun i _ hq => ⟨.inr hq, h.ge hq⟩))
  refine ⟨⟨h1.less (fun g hg => ?_) (fun g hg => .inl (h.old g hg)), fun g hg hp => ?_, h.old⟩, hb.mono (fun i _ hq hp => h.no i hq hp)⟩
  · rcases hg with hg | hg | hg
    · exact .inl (.inl hg)
    · exact .inl (.inr hg)
    · exact .inr hg
  · rcases hg with hg | hg
    · exact h.no g hg hp
    · have := h.ay.lt g (.inl hp)
      omega

/-- A call on the disk. -/
theorem Qx.disk (h : Qx w P Q R d W) (a1 : Ay w (fun g => P g ∨ Q g) R d' V) (a2 : No (fun g => P g ∨ Q g) W V) : Qx w P Q R d' V ∧ No P W V := ⟨⟨a1, h.no, h.old⟩, a2.less (fun g hg => .inl hg)⟩

theorem Qx.sgx (h : Qx w P Q R d W) (hs : Sg W R S nm sv ev bs br) (h5 : Q S) (h6 : ∀ g, sv.ownBlock = some g → Q g) (h7 : ∀ g, ev.ownBlock = some g → Q g) : Sgx w P R S d nm bs br W := ⟨Q, sv, ev, h.ay, h.no, h.old, hs, h5, h6, h7⟩

theorem Sg.not_row {n : Nat} {e : TypeId} {v : Value} {xs : List Value} {base : Nat} (h : Sg W R S nm sv ev bs br) (ho : W.ownsRow base e 1 v n xs) (he : e ≠ (69 : TypeId)) {g : Nat} (hg : v.ownBlock = some g) : g ≠ S := fun hs => by
  rcases ho.2 with ⟨h1, _⟩ | ⟨g', cap, cur, h1, _, hgg, _⟩
  · rw [h1] at hg; cases hg
  · rw [h1] at hg
    simp only [Value.ownBlock, Option.some.injEq] at hg
    rw [hg, hs, h.obj] at hgg
    cases hgg
    exact he rfl
end

/-- Bytes are appended to the stream: what it was reads as it did. -/
theorem app_in {W1 : World} {R S F sc g m c : Nat} {sa : Option Addr} {nm : ByteArray} {ev : Value} {bs : List (List Int)} {br : Bool} {x : List Int} (hS : Sg W1 R S nm (.slice sa F sc) ev bs br) (hF : F = (flat bs).length) (hF5 : F ≤ 253952) (hr : W1.ownsRow 0 5 1 (.slice (some ⟨g, 0, none⟩) m c) m (U x)) (hm : 0 < m) (hm2 : m ≤ 1000000) :
    ∃ g' c' W2, (Builtin.append_ #[30, 30] 30 #[.slice sa F sc, .slice (some ⟨g, 0, none⟩) m c]).run Tryz.prog W1 = .ok (.slice (some ⟨g', 0, none⟩) (F + m) c') W2 ∧ W2.ownsRow 0 5 1 (.slice (some ⟨g', 0, none⟩) (F + m) c') (F + m) (U (flat bs ++ x)) ∧ Sg W2 R S nm (.slice sa F sc) ev bs br ∧
      Tb (fun k => (Value.slice sa F sc).ownBlock = some k) W1 W2 ∧ ((Value.slice sa F sc).ownBlock = some g' ∨ (W1.heap.size ≤ g' ∧ g' < W2.heap.size)) := by
  obtain ⟨i0, hi, hz0, hz1, hz2⟩ := info_parts info5
  have hstr := hS.str
  rw [← hF] at hstr
  have hl : (U x).length = m := by have := hr.1; omega
  obtain ⟨v', W2, hrun, ho, ht⟩ := run_append_tells (P := Tryz.prog) W1 0 30 30 5 i0 (.int .u8 0) Tryz.underlying30 hi hz0 hz1 hz2 rfl (.slice sa F sc) F _ hstr ⟨g, 0, none⟩ m c (U x) hl (hr.cells (g := g) rfl) (U_one x) hm (by omega) (Nat.zero_le _)
  rw [← U_append] at ho
  have keep : ∀ T : Nat → Prop, Tb T W1 W2 → (∀ k, T k → (Value.slice sa F sc).ownBlock = some k) → W2.ownsRow 0 5 1 (.slice sa F sc) F (U (flat bs)) → Sg W2 R S nm (.slice sa F sc) ev bs br := fun T hb hT hrow =>
    ⟨(hb.block S hS.lt (fun hs => hS.not_row hstr (by decide) (hT S hs) rfl)).trans hS.obj, by rw [← hF]; exact hrow, row_tb hS.ends hb (fun k hk hs => own_types hS.ends hstr (by decide) hk (hT k hs)), hS.byte, hS.short, hS.most⟩
  rcases ht with ⟨g', cap, hv, rfl, hg⟩ | ⟨dd, rfl, hg⟩
  · simp only [Value.slice.injEq] at hv
    obtain ⟨rfl, _, rfl⟩ := hv
    have hb : Tb (fun k => (Value.slice (some ⟨g', 0, none⟩) F sc).ownBlock = some k) W1 W2 := Tb.of_grown hg (fun k e => e)
    refine ⟨g', sc, W2, hrun, ho, keep _ hb (fun k hk => hk) ?_, hb, .inl rfl⟩
    have := own_take ho (k := F) (by omega)
    have e : (U (flat bs ++ x)).take F = U (flat bs) := by rw [U_append, List.take_left' (by rw [U_length, hF])]
    rwa [e] at this
  · have hb : Tb (fun _ => False) W1 W2 := Tb.of_grown hg (fun k e => by cases e)
    refine ⟨W1.heap.size, dd, W2, hrun, ho, keep _ hb (fun k hk => hk.elim) (row_tb hstr hb (fun _ _ h => h)), hb.mono (fun _ _ h => h.elim), .inr ⟨Nat.le_refl _, ?_⟩⟩
    exact (ho.lt _ rfl).2

/-- A frame more. -/
theorem seg_grown {w X X4 : World} {P Q : Nat → Prop} {R S : Nat} {d : Dsk} {nm : ByteArray} {sv ev sv' ev' : Value} {bs : List (List Int)} {b : List Int} {tmp : Obj} (hQ : Qx w P Q R d X) (hS : Sg X R S nm sv ev bs false) (h5 : Q S) (h7 : ∀ g, ev.ownBlock = some g → Q g) (h6 : ∀ g, sv'.ownBlock = some g → Q g)
    (hs : X.ownsRow 0 5 1 sv' (flat (bs ++ [b])).length (U (flat (bs ++ [b])))) (he : X4.ownsRow 0 3 1 ev' (bs.length + 1) (Nn (eds bs) ++ [.int .i64 ((flat (bs ++ [b])).length : Int)])) (hg : (X.alloc tmp).grownBy X4 ev.ownBlock) (hgo : ev'.ownBlock = ev.ownBlock ∨ ev'.ownBlock = some (X.alloc tmp).heap.size)
    (hb : ∀ z ∈ b, 0 ≤ z ∧ z ≤ 255) (hl : b.length ≤ 65536) (hm : nsec (flat (bs ++ [b])).length ≤ 4096) :
    (X4.cell? ⟨S, 3, none⟩ = some sv ∧ X4.frozen? ⟨S, 3, none⟩ = false ∧ (X4.setCell ⟨S, 3, none⟩ sv').cell? ⟨S, 4, none⟩ = some ev ∧ (X4.setCell ⟨S, 3, none⟩ sv').frozen? ⟨S, 4, none⟩ = false ∧ ((X4.setCell ⟨S, 3, none⟩ sv').setCell ⟨S, 4, none⟩ ev').cell? ⟨S, 4, none⟩ = some ev') ∧
    Sgx w P R S d nm (bs ++ [b]) false ((X4.setCell ⟨S, 3, none⟩ sv').setCell ⟨S, 4, none⟩ ev') ∧ No P X ((X4.setCell ⟨S, 3, none⟩ sv').setCell ⟨S, 4, none⟩ ev') := by
  have t0 : Tb (fun _ => False) X (X.alloc tmp) := (Tb.refl _ X).alloc tmp
  have t4 : Tb (fun k => ev.ownBlock = some k) X X4 := Tb.trans (t0.mono (fun _ _ h => h.elim)) (Tb.of_grown (S := fun k => ev.ownBlock = some k) hg (fun k e => e)) (fun i _ h => h)
  have hSe : ∀ k, ev.ownBlock = some k → k ≠ S := fun k hk => hS.not_row hS.ends (by decide) hk
  have o4 : X4.heap[S]? = _ := (t4.block S hS.lt (fun e => hSe S e rfl)).trans hS.obj
  have o5 := heap_setCell_same X4 S 3 _ (69 : TypeId) sv' o4
  have o6 := heap_setCell_same _ S 4 _ (69 : TypeId) ev' o5
  have t6 : Tb (fun k => k = S) X4 ((X4.setCell ⟨S, 3, none⟩ sv').setCell ⟨S, 4, none⟩ ev') := Tb.trans (Tb.set (S := fun k => k = S) S 3 _ rfl) (Tb.set (S := fun k => k = S) S 4 _ rfl) (fun _ _ h => h)
  have hs4 : X4.ownsRow 0 5 1 sv' (flat (bs ++ [b])).length (U (flat (bs ++ [b]))) := row_tb hs t4 (fun k hk e => own_types hs hS.ends (by decide) hk e)
  have nS : ∀ (v : Value) (n : Nat) (e : TypeId) (xs : List Value), X4.ownsRow 0 e 1 v n xs → e ≠ (69 : TypeId) → ∀ k, v.ownBlock = some k → ¬ k = S := fun v n e xs ho he k hk hs => by
    rcases ho.2 with ⟨h1, _⟩ | ⟨g', cap, cur, h1, _, hgg, _⟩
    · rw [h1] at hk; cases hk
    · rw [h1] at hk
      simp only [Value.ownBlock, Option.some.injEq] at hk
      rw [hk, hs, o4] at hgg
      cases hgg
      exact he rfl
  have s4 := t4.size
  obtain ⟨q1, n1⟩ := hQ.own (V := (X4.setCell ⟨S, 3, none⟩ sv').setCell ⟨S, 4, none⟩ ev') (Tb.trans (t4.mono (fun i _ e => h7 i e)) t6 (fun i _ e => by rw [e]; exact h5))
  have s6 := t6.size
  refine ⟨⟨by rw [cell_of_row X4 S 3 _ (69 : TypeId) (0, 0) o4]; rfl, frozen_of_row X4 S 3 _ (69 : TypeId) o4, by rw [cell_of_row _ S 4 _ (69 : TypeId) (0, 0) o5]; rfl, frozen_of_row _ S 4 _ (69 : TypeId) o5, by rw [cell_of_row _ S 4 _ (69 : TypeId) (0, 0) o6]; rfl⟩, q1.sgx ⟨o6, row_tb hs4 t6 (nS _ _ _ _ hs4 (by decide)), ?_, ?_, ?_, hm⟩ (.inl h5) (fun k hk => .inl (h6 k hk)) (fun k hk => ?_), n1⟩
  · rw [eds_snoc, List.length_append, List.length_singleton]
    have : Nn (eds bs ++ [(flat (bs ++ [b])).length]) = Nn (eds bs) ++ [.int .i64 ((flat (bs ++ [b])).length : Int)] := by simp [Nn]
    rw [this]
    exact row_tb he t6 (nS _ _ _ _ he (by decide))
  · intro x hx
    rcases List.mem_append.1 hx with hx | hx
    · exact hS.byte x hx
    · rw [List.mem_singleton.1 hx]; exact hb
  · intro x hx
    rcases List.mem_append.1 hx with hx | hx
    · exact hS.short x hx
    · rw [List.mem_singleton.1 hx]; exact hl
  · rcases hgo with e | e
    · rw [e] at hk; exact .inl (h7 k hk)
    · have h8 := (he.lt k hk).2
      rw [e] at hk
      simp only [World.size_alloc, Option.some.injEq] at hk
      exact .inr ⟨by omega, by omega⟩

/-- What Append answers, and what it does. -/
structure Apd where
  at' : Int
  err : Int
  d : Dsk
  bs : List (List Int)
  br : Bool
def Dsk.sapp (d : Dsk) (s : ByteArray) (bs : List (List Int)) (br : Bool) (b : List Int) : Apd :=
  if br then ⟨0, 4, d, bs, true⟩ else if 65536 < b.length then ⟨0, 3, d, bs, false⟩ else if 4096 < nsec (flat bs ++ fr b).length then ⟨0, 5, d, bs, false⟩
  else if (d.sput s (flat bs ++ fr b) ((flat bs).length / 62)).1 ≠ 0 then ⟨0, (d.sput s (flat bs ++ fr b) ((flat bs).length / 62)).1, (d.sput s (flat bs ++ fr b) ((flat bs).length / 62)).2, bs, true⟩
  else ⟨bs.length, 0, (d.sput s (flat bs ++ fr b) ((flat bs).length / 62)).2, bs ++ [b], false⟩

set_option maxHeartbeats 4000000 in
theorem append_on {w W : World} {P : Nat → Prop} {R S : Nat} {d : Dsk} {K : Nat} {nm : ByteArray} {bs : List (List Int)} {br : Bool} {a : Option Addr} {n cap : Nat} {b : List Int} (h : Sgx w P R S d nm bs br W) (hz : Bw d K) (hK : K + 13000 < 700000) (hs : nm.size ≤ 1000000) (hB : Bs W a n cap b) :
    Calls Tryz.prog 11 #[.pointer (some ⟨S, 0, none⟩), .slice a n cap] W fun e W' => e = .returned (.tuple #[.int .i64 (d.sapp nm bs br b).at', .int .i64 (d.sapp nm bs br b).err]) ∧ Sgx w P R S (d.sapp nm bs br b).d nm (d.sapp nm bs br b).bs (d.sapp nm bs br b).br W' ∧ No P W W' := by
  have HX := hide h
  obtain ⟨Q, sv, ev, h1, h2, h3, h4, h5, h6, h7⟩ := h
  have QX : Qx w P Q R d W := ⟨h1, h2, h3⟩
  have hrf := refused_any h4
  have hbl := hB.len
  have hF4 := flat_len4 bs
  have hmost := h4.most
  have hF5 : (flat bs).length ≤ 253952 := by unfold nsec at hmost; omega
  have hcr := hB.reach
  have hcl := hB.le
  cases br with
  | true =>
    have hsd : Hid (d.sapp nm bs true b = ⟨0, 4, d, bs, true⟩) := hide (by unfold Dsk.sapp; rw [if_pos rfl])
    clear h1 h4
    go_enter Tryz.func11, Tryz.ntmps11
    go_wp2_with (go_at_call 49; refine hrf.mono ?_; rintro e w1 ⟨rfl, hw1⟩; subst w1)
    go_ret2
    rw [hsd.out]
    exact ⟨rfl, HX.out, No.refl⟩
  | false =>
    by_cases hlong : 65536 < n
    · have hsd : Hid (d.sapp nm bs false b = ⟨0, 3, d, bs, false⟩) := hide (by unfold Dsk.sapp; rw [if_neg (by simp), if_pos (by omega)])
      clear h1 h4
      go_enter Tryz.func11, Tryz.ntmps11
      go_wp2_with (go_at_call 49; refine hrf.mono ?_; rintro e w1 ⟨rfl, hw1⟩; subst w1)
      refine (fput_no a n cap W hlong (by omega)).mono ?_
      rintro e w1 ⟨rfl, hw1⟩
      subst w1
      go_wp2_with fail
      go_ret2
      rw [hsd.out]
      exact ⟨rfl, HX.out, No.refl⟩
    · obtain ⟨sa, sc, rfl⟩ := row_val h4.str
      obtain ⟨F, hF⟩ : ∃ F, Hid (F = (flat bs).length) := ⟨_, hide rfl⟩
      have hfl : Hid ((flat bs ++ fr b).length = F + (4 + n)) := hide (by rw [List.length_append, fr_length, hbl, hF.out])
      have HS := hide h4
      rw [← hF.out] at hF4 hF5
      have c3 : W.cell? ⟨S, 3, none⟩ = some (.slice sa F sc) := by rw [hF.out]; exact h4.c 3
      by_cases hfull : 4096 < nsec (F + (4 + n))
      · have hsd : Hid (d.sapp nm bs false b = ⟨0, 5, d, bs, false⟩) := hide (by unfold Dsk.sapp; rw [if_neg (by simp), if_neg (by omega), if_pos (by rw [hfl.out]; exact hfull)])
        have C51 := fun V => sectorsFor_any (F + (4 + n)) (by omega) V
        push_cast at C51
        have hns : (4096 : Int) < (nsec (F + (4 + n)) : Int) := by omega
        clear h1 h4
        go_enter Tryz.func11, Tryz.ntmps11
        go_wp2_with (go_at_call 49; refine hrf.mono ?_; rintro e w1 ⟨rfl, hw1⟩; subst w1)
        refine (fput_yes a n cap b W hB (by omega)).mono ?_
        rintro e W1 ⟨g, c, rfl, hr1, t1⟩
        have c31 := (t1.cell (p := ⟨S, 3, none⟩) HS.out.lt).trans c3
        have FX := hide (HX.out.kept (Tb.of_fresh t1))
        have FN := hide (No.of (P := P) (Tb.of_fresh t1))
        clear hr1 t1 c3
        go_wp2_with (go_at_call 51; refine (C51 _).mono ?_; rintro e w2 ⟨rfl, hw2⟩; subst w2)
        go_ret2
        rw [hsd.out]
        exact ⟨rfl, FX.out, FN.out⟩
      · obtain ⟨i3, hi3, hy0, hy1, hy2⟩ := info_parts info3
        obtain ⟨ea, ec, rfl⟩ := row_val h4.ends
        obtain ⟨B, hBe⟩ : ∃ B, Hid (B = bs.length) := ⟨_, hide rfl⟩
        have hsf : Hid (flat (bs ++ [b]) = flat bs ++ fr b) := hide (flat_snoc bs b)
        have hby : ∀ z ∈ flat bs ++ fr b, 0 ≤ z ∧ z ≤ 255 := fun z hz => (List.mem_append.1 hz).elim (flat_byte h4.byte z) (fr_byte hB.byte z)
        obtain ⟨r, hr⟩ : ∃ r, Hid (r = d.sput nm (flat bs ++ fr b) (F / 62)) := ⟨_, hide rfl⟩
        have hsd : Hid (d.sapp nm bs false b = if r.1 ≠ 0 then ⟨0, r.1, r.2, bs, true⟩ else ⟨bs.length, 0, r.2, bs ++ [b], false⟩) := hide (by unfold Dsk.sapp; rw [if_neg (by simp), if_neg (by omega), if_neg (by rw [hfl.out]; exact hfull), ← hF.out, ← hr.out])
        have C51 := fun V => sectorsFor_any (F + (4 + n)) (by omega) V
        push_cast at C51
        have hns : (nsec (F + (4 + n)) : Int) ≤ 4096 := by omega
        have hq : ((F : Int)).tdiv 62 = ((F / 62 : Nat) : Int) := by rw [Int.tdiv_eq_ediv_of_nonneg (by omega)]; omega
        have HBY := hide hby
        have HQX := hide QX
        clear h1 h4 QX hby
        go_enter Tryz.func11, Tryz.ntmps11
        go_wp2_with (go_at_call 49; refine hrf.mono ?_; rintro e w1 ⟨rfl, hw1⟩; subst w1)
        refine (fput_yes a n cap b W hB (by omega)).mono ?_
        rintro e W1 ⟨g, c, rfl, hr1, t1⟩
        have c31 := (t1.cell (p := ⟨S, 3, none⟩) HS.out.lt).trans c3
        have S1 : Sg W1 R S nm (.slice sa F sc) (.slice ea bs.length ec) bs false := by rw [hF.out]; exact HS.out.tb (Tb.of_fresh (S := fun _ => False) t1) (fun h => h) (fun _ _ h => h) (fun _ _ h => h)
        obtain ⟨Q1, N1⟩ := HQX.out.own (Tb.of_fresh t1)
        obtain ⟨g', c', W2, hrun, ho2, S2, t2, hw2⟩ := app_in S1 hF.out hF5 (own_less hr1 (Nat.zero_le _)) (by omega) (by omega)
        obtain ⟨Q2, N2⟩ := Q1.own (t2.mono (fun k _ e => .inl (h6 k (by rw [← hF.out]; exact e))))
        have hg2 : (Q g' ∨ (W.heap.size ≤ g' ∧ g' < W1.heap.size)) ∨ (W1.heap.size ≤ g' ∧ g' < W2.heap.size) := hw2.imp (fun e => .inl (h6 g' (by rw [← hF.out]; exact e))) id
        have tdr : Tb (fun _ => False) W2 W2.drew := (Tb.refl _ W2).drew
        have hB2 : Bs W2.drew (some ⟨g', 0, none⟩) (F + (4 + n)) c' (flat bs ++ fr b) := own_bs (row_tb ho2 tdr (fun _ _ h => h)) HBY.out
        have CP := put_on (s := nm) (from' := F / 62) (Q2.ay.kept tdr) hz (by omega) (by omega) hB2 (fun b' off' _ e => by cases e; exact .inr hg2) (by omega) (by omega)
        rw [← hr.out, show ((F / 62 : Nat) : Int) = (F : Int) / 62 from by omega] at CP
        have hwr : Hid (IntKind.i64.wrap ((F : Int) / 62) = (F : Int) / 62) := hide (by rw [IntKind.wrap_i64]; omega)
        have CPq : ∀ q : Int, q = (F : Int) / 62 → Calls Tryz.prog 52 #[.pointer (some ⟨R, 0, none⟩), .string nm, .slice (some ⟨g', 0, none⟩) (F + (4 + n)) c', .int .i64 q] W2.drew _ := fun q hq => by rw [hq]; exact CP
        clear CP
        have FIN : Hid (∀ X, Ay w _ R r.2 X → No _ W2.drew X → Qx w P _ R r.2 X ∧ No P W X ∧ Sg X R S nm (.slice sa F sc) (.slice ea bs.length ec) bs false ∧ X.ownsRow 0 5 1 (.slice (some ⟨g', 0, none⟩) (F + (4 + n)) c') (F + (4 + n)) (U (flat bs ++ fr b))) := hide (fun X a1 a2 => by
          obtain ⟨q3, n3⟩ := Q2.disk a1 ((No.of tdr).trans a2)
          refine ⟨q3, (N1.trans N2).trans n3, S2.tb ((No.of tdr).trans a2) (fun hn => hn (.inr (.inl (.inl h5)))) (fun k hk hn => hn (.inr (.inl (.inl (h6 k (by rw [← hF.out]; exact hk)))))) (fun k hk hn => hn (.inr (.inl (.inl (h7 k hk))))), ((No.of tdr).trans a2).row ho2 (fun k hk => ?_)⟩
          simp only [Value.ownBlock, Option.some.injEq] at hk
          rw [← hk]
          exact .inr hg2)
        have k1 : W2.cell? ⟨S, 1, none⟩ = some (.pointer (some ⟨R, 0, none⟩)) := S2.c 1
        have k2 : W2.cell? ⟨S, 2, none⟩ = some (.string nm) := S2.c 2
        have k3 : W2.cell? ⟨S, 3, none⟩ = some (.slice sa F sc) := S2.c 3
        have HG2 := hide hg2
        clear c3 hr1 t1 S1 Q1 N1 ho2 S2 t2 hw2 Q2 N2 hB2 hg2
        go_wp2_with (first | (go_at_call 51; refine (C51 _).mono ?_; rintro e w2 ⟨rfl, hw2⟩; subst w2) | (at_builtin; refine wpList_append_run rfl 30 (.tmp 37) (.tmp 38) rfl _ _ _ rfl rfl hrun ?_))
        go_region_held3 (fun V => V.cell? ⟨S, 1, none⟩ = some (.pointer (some ⟨R, 0, none⟩)) ∧ V.cell? ⟨S, 2, none⟩ = some (.string nm) ∧ V.cell? ⟨S, 3, none⟩ = some (.slice sa F sc))
          (first | exact ⟨k1, k2, k3⟩ | exact ⟨s3.c 1, s3.c 2, s3.c 3⟩)
          (first | (go_at_call 52; refine (CPq _ ?_).mono ?_; exact hwr.out; rintro e X ⟨rfl, a1, a2⟩; obtain ⟨q3, n3, s3, o3⟩ := FIN.out X a1 a2))
        have HQ3 := hide q3
        have HN3 := hide n3
        have HS3 := hide s3
        have HO3 := hide o3
        clear a1 a2 CPq FIN k1 k2 k3 c31 hq hrun
        by_cases h0 : r.1 = 0
        · rw [h0]
          have hst : Hid (flat bs ++ fr b = flat (bs ++ [b])) := hide hsf.out.symm
          obtain ⟨tmp, htmp⟩ : ∃ tmp : Obj, tmp = .cells #[.int .i64 ((F : Int) + (4 + (n : Int)))] 3 := ⟨_, rfl⟩
          have hrt : (X.alloc tmp).ownsRow 0 3 1 (.slice (some ⟨X.heap.size, 0, none⟩) 1 1) 1 [.int .i64 ((F : Int) + (4 + (n : Int)))] := by
            rw [htmp]
            exact ⟨rfl, .inr ⟨X.heap.size, 1, #[.int .i64 ((F : Int) + (4 + (n : Int)))], rfl, Nat.zero_le _, heap_alloc_new X _, Nat.le_refl _, by unfold maxLen; omega, rfl, rfl⟩⟩
          obtain ⟨u, X4, hrun4, ho4, hg4, hu4⟩ := run_append_rows (P := Tryz.prog) (w := X.alloc tmp) 0 67 67 3 i3 (.int .i64 0) 1 8 Tryz.underlying67 hi3 hy0 hy1 hy2 rfl (by omega) (.slice ea bs.length ec) bs.length (Nn (eds bs)) (HS3.out.ends.alloc tmp) _ 1 _ 0 hrt (by simp [Value.oneCell']) (by unfold maxLen; omega) (by omega) (Nat.zero_le _)
          obtain ⟨ua, uc, rfl⟩ := row_val ho4
          have hlen4 : Hid ((flat (bs ++ [b])).length = F + (4 + n)) := hide (by rw [hsf.out]; exact hfl.out)
          have G := seg_grown (b := b) (sv' := .slice (some ⟨g', 0, none⟩) (F + (4 + n)) c') HQ3.out HS3.out (.inl (.inl h5)) (fun k hk => .inl (.inl (h7 k hk))) (fun k hk => by simp only [Value.ownBlock, Option.some.injEq] at hk; rw [← hk]; exact HG2.out)
            (by rw [hlen4.out, hsf.out]; exact HO3.out) (by rw [hlen4.out]; simpa using ho4) hg4 hu4 hB.byte (by omega) (by rw [hlen4.out]; omega)
          obtain ⟨⟨m1, m2, m3, m4, m5⟩, hfin, nfin⟩ := G
          have cc4 : X.cell? ⟨S, 4, none⟩ = some (.slice ea bs.length ec) := HS3.out.c 4
          have HF := hide hfin
          have HN := hide nfin
          have HT := hide htmp
          clear hfin nfin htmp hrt ho4 hg4 hu4
          go_wp2_with (first | (rw [← HT.out]) | (at_builtin; refine wpList_append_run rfl 67 (.tmp 68) (.tmp 71) rfl _ _ _ rfl rfl hrun4 ?_))
          go_ret2
          rw [hsd.out, if_neg (by simp [h0])]
          exact ⟨rfl, HF.out, HN3.out.trans HN.out⟩
        · have e0 : (r.1 == 0) = false := by simpa using h0
          have c5 : X.cell? ⟨S, 5, none⟩ = some (.bool false) := HS3.out.c 5
          have f5 := HS3.out.free 5
          go_wp2_with fail
          go_ret2
          rw [hsd.out, if_pos h0]
          have hst : Tb (fun k => k = S) X (X.setCell ⟨S, 5, none⟩ (.bool true)) := Tb.set (S := fun k => k = S) S 5 _ rfl
          obtain ⟨q4, n4⟩ := HQ3.out.own (hst.mono (fun k _ e => by rw [e]; exact .inl (.inl h5)))
          exact ⟨rfl, q4.sgx (HS3.out.brk true) (.inl (.inl (.inl h5))) (fun k hk => .inl (.inl (.inl (h6 k (by rw [← hF.out]; exact hk))))) (fun k hk => .inl (.inl (.inl (h7 k hk)))), HN3.out.trans n4⟩

end Go.Proofs.YtgbboaedhpaocaaGreat

/-
  What Encode of the program's record does.
-/
import Derived.Test.YtelfckhiafnniaaRen
namespace Go.Proofs.Ytelfckhiafnniaa
open Go.RowKit

/-- What Encode answers: the bytes, and the error. -/
def encD (base : Int) (b : Bt) : List Int × Int := if rightB b.recs = true then (if 60000 < 12 + (body b).length then ([], 3) else (enc base b, 0)) else ([], 2)

theorem box_cells {w w1 : World} {pid ep first : Int} {v : Value} (h : Below (w.heap.size + 1) (w.alloc (.cells #[.int .i64 pid, .int .i64 ep, .int .i64 first, v] 28)) w1) :
    w1.cell? ⟨w.heap.size, 0, none⟩ = some (.int .i64 pid) ∧ w1.cell? ⟨w.heap.size, 1, none⟩ = some (.int .i64 ep) ∧ w1.cell? ⟨w.heap.size, 2, none⟩ = some (.int .i64 first) ∧ w1.cell? ⟨w.heap.size, 3, none⟩ = some v := by
  have h1 := (h.block w.heap.size (by omega)).trans (heap_alloc_new w _)
  exact ⟨by rw [cell_of_row w1 _ 0 _ 28 (0, 0) h1]; rfl, by rw [cell_of_row w1 _ 1 _ 28 (0, 0) h1]; rfl, by rw [cell_of_row w1 _ 2 _ 28 (0, 0) h1]; rfl, by rw [cell_of_row w1 _ 3 _ 28 (0, 0) h1]; rfl⟩

set_option maxRecDepth 100000 in
set_option maxHeartbeats 2000000 in
theorem encode_any (base pid ep first : Int) (a : Option Addr) (n cap : Nat) (bss : List (List Int)) (w : World) (hR : Rl w a n cap bss) (hd : Bd ⟨pid, ep, first, bss⟩) :
    Calls Try.prog 8 #[.int .i64 base, bv pid ep first (.slice a n cap)] w fun e w' => ∃ v, e = .returned (.tuple #[v, .int .i64 (encD base ⟨pid, ep, first, bss⟩).2]) ∧
      w'.ownsRow w.heap.size 5 1 v (encD base ⟨pid, ep, first, bss⟩).1.length (U (encD base ⟨pid, ep, first, bss⟩).1) ∧ Below w.heap.size w w' := by
  obtain ⟨i0, hi, hz0, hz1, hz2⟩ := info_parts info5
  have hb0 := fresh w (.cells #[.int .i64 pid, .int .i64 ep, .int .i64 first, .slice a n cap] 28)
  have hR0 := hR.keep hb0
  have CR := right_any pid ep first a n cap bss _ hR0
  rw [World.size_alloc] at CR
  cases hr : rightB bss with
  | false =>
    have e : encD base ⟨pid, ep, first, bss⟩ = ([], 2) := by simp [encD, hr]
    rw [e]
    rw [hr] at CR
    go_enter Try.func8, Try.ntmps8
    go_wp2_with fail
    refine CR.mono ?_
    rintro e w1 ⟨rfl, hb1⟩
    go_wp2_with fail
    go_ret2
    exact ⟨_, rfl, World.ownsRow_nil _ _ _ _, hb0.trans (hb1.mono (by omega))⟩
  | true =>
    rw [hr] at CR
    have hright := (rightB_iff (pid := pid) (ep := ep) (first := first)).1 hr
    go_enter Try.func8, Try.ntmps8
    go_wp2_with fail
    refine CR.mono ?_
    rintro e w1 ⟨rfl, hb1⟩
    obtain ⟨c0, c1, c2, c3⟩ := box_cells hb1
    have hb1' : Below w.heap.size w w1 := hb0.trans (hb1.mono (by omega))
    have hs1 := hb1'.size
    clear hb1 hb0 hR0 CR
    go_wp2_with fail
    refine (body_any pid ep first a n cap bss w1 (hR.keep hb1') hright hd).mono ?_
    rintro e w2 ⟨g2, d2, rfl, hown2, hb2⟩
    have hs2 := hb2.size
    have hbl := body_length hright hd
    have hbl1 := hbl.1
    have hbl2 := hbl.2
    have hby := body_byte (b := ⟨pid, ep, first, bss⟩) hd.byte
    have hB2 := own_bs hown2 hby
    have hd2 := hB2.le
    have hd2' := hB2.reach
    have hb2' := hb1'.trans (hb2.mono hs1)
    have HE : Hid (encD base ⟨pid, ep, first, bss⟩ = if 60000 < 12 + (body ⟨pid, ep, first, bss⟩).length then ([], 3) else (enc base ⟨pid, ep, first, bss⟩, 0)) := hide (by simp [encD, hr])
    have HN : Hid (enc base ⟨pid, ep, first, bss⟩ = be 8 (ub base) ++ be 4 (more 0 (body ⟨pid, ep, first, bss⟩)) ++ body ⟨pid, ep, first, bss⟩) := hide (by simp [enc])
    clear hbl hb1' hb2 hr hright c0 c1 c2 c3 hown2 hR hd
    generalize body ⟨pid, ep, first, bss⟩ = B at hB2 hbl1 hbl2 HE HN hby
    by_cases hlong : 60000 < 12 + B.length
    · rw [if_pos hlong] at HE
      go_wp2_with fail
      go_ret2
      rw [HE.out]
      exact ⟨_, rfl, World.ownsRow_nil _ _ _ _, hb2'⟩
    · rw [if_neg hlong] at HE
      have hub : IntKind.u64.wrap base = ((ub base : Nat) : Int) := by rw [IntKind.wrap_u64]; unfold ub; omega
      go_wp2_with fail
      refine (add64_any (ub base) w2).mono ?_
      rintro e w3 ⟨rfl, hB3, hb3⟩
      have hs3 := hb3.size
      go_wp2_with fail
      refine (crc_any _ _ _ B w3 (hB2.keep hb3)).mono ?_
      rintro e w4 ⟨rfl, hb4⟩
      have hs4 := hb4.size
      have hm := more_lt 0 B
      go_wp2_with fail
      refine (add32_row _ 8 8 (be 8 (ub base)) (more 0 B) w4 (hB3.keep hb4) (by omega) (by omega)).mono ?_
      rintro e w5 ⟨rfl, hg5, hb5⟩
      have hs5 := hb5.size
      have hb5' : Below w2.heap.size w2 w5 := hb3.trans ((hb4.trans (hb5.mono hs4)).mono hs3)
      have hB5 := hB2.keep hb5'
      have hlH : (be 8 (ub base) ++ be 4 (more 0 B)).length = 12 := by simp [be_length]
      have ho5 := row_own (e := 5) (zs := be 8 (ub base) ++ be 4 (more 0 B)) w.heap.size (by omega) hg5 (by rw [U_length, hlH]) hlH (Nat.le_refl _) (by omega) (by rw [List.take_of_length_le (by rw [U_length, hlH]; exact Nat.le_refl _)])
      have HO5 := hide ho5
      have hbw : Below w.heap.size w w5 := hb2'.trans (hb5'.mono (by omega))
      clear hg5 hb3 hb4 hb5 hB3 ho5
      go_wp2_with (at_builtin; refine wpList_append_bs rfl (.tmp 23) (.tmp 24) 22 rfl w.heap.size 5 i0 Try.underlying22 hi hz0 hz1 hz2 _ _ _ rfl HO5.out _ _ _ _ rfl hB5 (by omega) (by omega) (by omega) ?_; intro g6 c6 w6 hown6 hgrow6; have HO6 := hide hown6; clear hown6)
      go_ret2
      rw [HE.out]
      refine ⟨_, rfl, ?_, hbw.grown hgrow6 (by omega) (fun k hk => own_from HO5.out hk)⟩
      have h := HO6.out
      rw [← U_append] at h
      rw [HN.out, List.length_append, hlH]
      exact h

theorem encD_ok {base : Int} {b : Bt} (h : (encD base b).2 = 0) : Right b ∧ 12 + (body b).length ≤ 60000 ∧ (encD base b).1 = enc base b := by
  unfold encD at h ⊢
  by_cases hr : rightB b.recs = true
  · rw [if_pos hr] at h ⊢
    have hright : Right b := (rightB_iff (pid := b.pid) (ep := b.ep) (first := b.first)).1 hr
    by_cases hl : 60000 < 12 + (body b).length
    · rw [if_pos hl] at h
      simp at h
    · rw [if_neg hl]
      exact ⟨hright, by omega, rfl⟩
  · rw [if_neg hr] at h
    simp at h

theorem encD_of {base : Int} {b : Bt} (hr : Right b) (hl : 12 + (body b).length ≤ 60000) : encD base b = (enc base b, 0) := by
  have : rightB b.recs = true := (rightB_iff (pid := b.pid) (ep := b.ep) (first := b.first)).2 hr
  unfold encD
  rw [if_pos this, if_neg (by omega)]

end Go.Proofs.Ytelfckhiafnniaa

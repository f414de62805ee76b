/-
  Texts put into one.
-/
import Derived.Test.YtgbboaedhpaocaaGreatFow
import Derived.Test.YtgbboaedhpaocaaGreatSam
import Derived.Deep.QuietTactic
import Derived.BigQuiet
import Derived.Test.YtgbboaedhpaocaaGreatQkfb0fb780
import Derived.Test.YtgbboaedhpaocaaGreatGwh

/-
  What SameLists does.
-/
namespace Go.Proofs.YtgbboaedhpaocaaGreat
open Go.RowKit
set_option maxRecDepth 100000

theorem Bs.drewN {w : World} {a : Option Addr} {n cap : Nat} {zs : List Int} (h : Bs w a n cap zs) (m : Nat) : Bs (w.drewN m) a n cap zs := h.keep (below_drewN (Below.refl _ w) m)
theorem Rl.drewN {w : World} {a : Option Addr} {n cap : Nat} {bss : List (List Int)} (h : Rl w a n cap bss) (m : Nat) : Rl (w.drewN m) a n cap bss := h.keep (below_drewN (Below.refl _ w) m)

theorem take_next_eq {xs ys : List (List Int)} {k : Nat} (h : xs.take k = ys.take k) (hx : k < xs.length) (hy : k < ys.length) : xs.take (k + 1) = ys.take (k + 1) ↔ xs.getD k [] = ys.getD k [] := by
  rw [List.take_succ_eq_append_getElem hx, List.take_succ_eq_append_getElem hy, h, List.append_cancel_left_eq]
  simp [List.getD, List.getElem?_eq_getElem hx, List.getElem?_eq_getElem hy]

set_option maxHeartbeats 1000000 in
theorem lists_any (a c : Option Addr) (n cap m dap : Nat) (xs ys : List (List Int)) (w : World) (hA : Rl w a n cap xs) (hC : Rl w c m dap ys) :
    Calls Tryz.prog 35 #[.slice a n cap, .slice c m dap] w fun e w' => e = .returned (.bool (decide (xs = ys))) ∧ ∃ q, w' = w.drewN q := by
  have hla := hA.len
  have hlc := hC.len
  have hea := hA.le
  have hra := hA.reach
  have hec := hC.le
  have hrc := hC.reach
  by_cases hnm : n = m
  · subst hnm
    go_enter Tryz.func35, Tryz.ntmps35
    go_wp2_with fail
    go_loopw [5] (fun i wr => ∃ k q : Nat, k ≤ n ∧ i = .int .i64 k ∧ wr = w.drewN q ∧ Hid (xs.take k = ys.take k)) (fun i _ => n - (intOf i).toNat)
    case atStart => exact ⟨0, 0, Nat.zero_le _, rfl, rfl, hide (by simp)⟩
    case round =>
      obtain ⟨k, q, hk, rfl, hwr, heq⟩ := hrel
      have hA' := hA.drewN q
      have hC' := hC.drewN q
      rw [← hwr] at hA' hC'
      have HR := hide hwr
      clear hwr
      by_cases hlt : k < n
      · obtain ⟨b1, o1, rfl, hc1⟩ := hA'.lies (by omega)
        obtain ⟨b2, o2, rfl, hc2⟩ := hC'.lies (by omega)
        obtain ⟨p1, m1, d1, hk1, hB1⟩ := hc1 k hlt
        obtain ⟨p2, m2, d2, hk2, hB2⟩ := hc2 k hlt
        have key := hide (take_next_eq heq.out (by omega : k < xs.length) (by omega : k < ys.length))
        clear hc1 hc2
        have C := fun j => same_any p1 p2 m1 d1 m2 d2 _ _ _ (hB1.drewN j) (hB2.drewN j)
        clear hB1 hB2
        by_cases he : xs.getD k [] = ys.getD k []
        · simp only [decide_eq_true he] at C
          go_wp2_with fail
          go_quiet (first | (go_at_call 34; exact Calls.quiet_of_same (C _)))
          go_wp2_with fail
          go_roundw
          case rel => exact ⟨k + 1, q + nq, by omega, by go_num, by rw [HR.out, World.drewN_drewN], hide (key.out.2 he)⟩
          case measure => simp [intOf]; omega
        · simp only [decide_eq_false he] at C
          go_wp2_with fail
          go_quiet (first | (go_at_call 34; exact Calls.quiet_of_same (C _)))
          go_wp2_with fail
          go_ret
          refine ⟨?_, q + nq, by rw [HR.out, World.drewN_drewN]⟩
          rw [decide_eq_false (fun e => he (by rw [e]))]
          rfl
      · obtain rfl : k = n := by omega
        have e : xs = ys := by
          have := heq.out
          rwa [List.take_of_length_le (by omega), List.take_of_length_le (by omega)] at this
        have HE := hide e
        clear e heq
        go_wp2_with fail
        go_ret
        refine ⟨?_, q, HR.out⟩
        rw [decide_eq_true HE.out]
        rfl
  · have hd : decide (xs = ys) = false := decide_eq_false (fun e => hnm (by rw [← hla, ← hlc, e]))
    rw [hd]
    clear hd
    go_enter Tryz.func35, Tryz.ntmps35
    go_wp2_with fail
    go_ret
    exact ⟨rfl, 0, rfl⟩

end Go.Proofs.YtgbboaedhpaocaaGreat

/-
  told: a segment's frames.
-/
namespace Go.Proofs.YtgbboaedhpaocaaGreat
open Go.RowKit
set_option maxRecDepth 100000
set_option maxRecDepth 100000
set_option linter.unusedVariables false

theorem Sg.new {W V : World} {R S : Nat} {nm : ByteArray} {sv ev : Value} {bs : List (List Int)} {br : Bool} (h : Sg W R S nm sv ev bs br) (hb : Below W.heap.size W V) : Sg V R S nm sv ev bs br :=
  h.tb (Tb.of_fresh (S := fun _ => False) hb) (fun h => h) (fun _ _ h => h) (fun _ _ h => h)

theorem told_more {w wr w2 w3 : World} {v u : Value} {rs : List (Value × List Int)} {g d : Nat} {b : List Int} (hb : Below w.heap.size w wr) (hby : ∀ z ∈ b, 0 ≤ z ∧ z ≤ 255) (h1 : w2.ownsRow wr.heap.size 5 1 (.slice (some ⟨g, 0, none⟩) b.length d) b.length (U b)) (h2 : Below wr.heap.size wr w2) (h3 : LL wr w.heap.size v rs)
    (h4 : w3.ownsRow w.heap.size 30 1 u (rs.length + 1) (rs.map (·.1) ++ [.slice (some ⟨g, 0, none⟩) b.length d])) (h5 : (w2.alloc (.cells #[.slice (some ⟨g, 0, none⟩) b.length d] 30)).grownBy w3 v.ownBlock) :
    LL w3 w.heap.size u (rs ++ [(.slice (some ⟨g, 0, none⟩) b.length d, b)]) ∧ Below w.heap.size w w3 := by
  have hbs := hb.size
  have hs2 := h2.size
  have h6 := (h3.keep h2).keep ((Below.refl _ w2).alloc (Nat.le_refl _) (.cells #[.slice (some ⟨g, 0, none⟩) b.length d] 30))
  refine ⟨h6.more (by simp only [List.mem_singleton, forall_eq]; exact own_less (h1.alloc _) hbs) (by simp only [List.mem_singleton, forall_eq]; exact hby) (by simp) ?_ (by simp) h4 h5, ?_⟩
  · intro r hr s hs
    simp only [List.mem_singleton] at hs
    subst hs
    have := own_lt h1
    cases hrb : r.1.ownBlock with
    | none => exact .inl rfl
    | some x =>
      have := (h3.row r hr).lt x hrb
      exact .inr (by simp only [Value.ownBlock, ne_eq, Option.some.injEq]; omega)
  · exact (hb.trans ((h2.mono hbs).alloc (by omega) _)).grown h5 (by simp; omega) (fun k hk => own_from h3.own hk)

set_option maxHeartbeats 2000000 in
theorem told_any {w : World} {R S : Nat} {nm : ByteArray} {sv ev : Value} {bs : List (List Int)} {br : Bool} (h : Sg w R S nm sv ev bs br) :
    Calls Tryz.prog 36 #[.pointer (some ⟨S, 0, none⟩)] w fun e w' => ∃ v rs, e = .returned v ∧ LL w' w.heap.size v rs ∧ rs.map (·.2) = bs ∧ Below w.heap.size w w' := by
  obtain ⟨i0, hi, hz0, hz1, hz2⟩ := info_parts info22
  have h4 := flat_len4 bs
  have hmost := h.most
  have hF5 : (flat bs).length ≤ 253952 := by unfold nsec at hmost; omega
  have hbl : bs.length ≤ 100000 := by omega
  clear h4 hmost hF5
  have HS := hide h
  have HBY := hide h.byte
  clear h
  obtain ⟨B, hB⟩ : ∃ B, Hid (B = bs.length) := ⟨_, hide rfl⟩
  have hB1 : B ≤ 100000 := by rw [hB.out]; exact hbl
  clear hbl
  go_enter Tryz.func36, Tryz.ntmps36
  go_wp2_with fail
  go_loopw [3, 4] (fun ov iv wr => ∃ (k : Nat) (rs : List (Value × List Int)), k ≤ B ∧ Hid (rs.length = k) ∧ iv = .int .i64 k ∧ Hid (rs.map (·.2) = bs.take k) ∧ Hid (LL wr w.heap.size ov rs) ∧ Hid (Below w.heap.size w wr))
    (fun _ iv _ => B - (intOf iv).toNat)
  case atStart => exact ⟨0, [], Nat.zero_le _, hide rfl, rfl, hide (by simp), hide (LL.nil _ _), hide (Below.refl _ _)⟩
  case round =>
    obtain ⟨k, rs, hk, hrl, rfl, hmap, hll, hb⟩ := hrel
    have hS := HS.out.new hb.out
    have CC := scount_any hS
    rw [← hB.out] at CC
    by_cases hlt : k < B
    · have CR := sread_yes (i := k) hS (by rw [← hB.out]; exact hlt)
      obtain ⟨b, hbb⟩ : ∃ b, Hid (b = bs[k]'(by rw [← hB.out]; exact hlt)) := ⟨_, hide rfl⟩
      rw [← hbb.out] at CR
      have hbl : b.length ≤ 65536 := by rw [hbb.out]; exact hS.short _ (List.getElem_mem _)
      have hby : Hid (∀ z ∈ b, 0 ≤ z ∧ z ≤ 255) := hide (by rw [hbb.out]; exact HBY.out _ (List.getElem_mem _))
      have hstep : Hid (bs.take (k + 1) = bs.take k ++ [b]) := hide (by rw [List.take_succ_eq_append_getElem (by rw [← hB.out]; exact hlt), hbb.out])
      obtain ⟨L, hL⟩ : ∃ L, Hid (L = b.length) := ⟨_, hide rfl⟩
      rw [← hL.out] at CR hbl
      clear hS
      go_wp2_with (go_at_call 16; refine CC.mono ?_; rintro e w1 ⟨rfl, hw1⟩; subst w1)
      refine CR.mono ?_
      rintro e w2 ⟨g, d, rfl, hown2, hb2⟩
      have hL2 := (hll.out.keep hb2).own
      have hrl' := hrl.out
      have hbs := hb.out.size
      have hs2 := hb2.size
      go_wp2_with (at_builtin; refine wpList_append_own _ rfl (.tmp 19) (.tmp 21) 41 rfl w.heap.size 30 i0 (.slice none 0 0) 1 24 Tryz.underlying41 hi hz0 hz1 hz2 rfl (by omega) _ rs.length (rs.map (·.1)) rfl (hL2.alloc _) ⟨_, 0, none⟩ 1 1 [.slice (some ⟨g, 0, none⟩) L d] rfl rfl (cell_one_new _ _ _) (by simp [Value.oneCell']) (by unfold maxLen; omega) (by omega) (by simp; omega) ?_; intro u w3 hown3 hgrow3 _)
      rw [hL.out] at hown2 hown3 hgrow3
      have hf := told_more hb.out hby.out hown2 hb2 hll.out hown3 hgrow3
      clear hgrow3 hown3 hown2 hL2 hb2
      have F1 := hide hf.1
      have F2 := hide hf.2
      clear hf
      go_roundw
      case rel => exact ⟨k + 1, _, by omega, hide (by simp [hrl.out]), by go_num, hide (by rw [List.map_append, hmap.out, hstep.out]; rfl), F1, F2⟩
      case measure => simp [intOf]; omega
    · clear hS
      obtain rfl : k = B := by omega
      go_wp2_with (go_at_call 16; refine CC.mono ?_; rintro e w1 ⟨rfl, hw1⟩; subst w1)
      go_ret
      exact ⟨_, rs, rfl, hll.out, by rw [hmap.out, hB.out, List.take_length], hb.out⟩

end Go.Proofs.YtgbboaedhpaocaaGreat

/-
  What SameLists does.
-/
import Derived.Test.YtkdolabhcbjipaaGreatFow
import Derived.Test.YtkdolabhcbjipaaGreatSam
import Derived.Deep.QuietTactic
import Derived.BigQuiet
namespace Go.Proofs.YtkdolabhcbjipaaGreat
open Go.RowKit
set_option maxRecDepth 100000

theorem Bs.drewN {w : World} {a : Option Addr} {n cap : Nat} {zs : List Int} (h : Bs w a n cap zs) (m : Nat) : Bs (w.drewN m) a n cap zs := h.keep (below_drewN (Below.refl _ w) m)
theorem Rl.drewN {w : World} {a : Option Addr} {n cap : Nat} {bss : List (List Int)} (h : Rl w a n cap bss) (m : Nat) : Rl (w.drewN m) a n cap bss := h.keep (below_drewN (Below.refl _ w) m)

theorem take_next_eq {xs ys : List (List Int)} {k : Nat} (h : xs.take k = ys.take k) (hx : k < xs.length) (hy : k < ys.length) : xs.take (k + 1) = ys.take (k + 1) ↔ xs.getD k [] = ys.getD k [] := by
  rw [List.take_succ_eq_append_getElem hx, List.take_succ_eq_append_getElem hy, h, List.append_cancel_left_eq]
  simp [List.getD, List.getElem?_eq_getElem hx, List.getElem?_eq_getElem hy]

set_option maxHeartbeats 1000000 in
theorem lists_any (a c : Option Addr) (n cap m dap : Nat) (xs ys : List (List Int)) (w : World) (hA : Rl w a n cap xs) (hC : Rl w c m dap ys) :
    Calls Tryz.prog 20 #[.slice a n cap, .slice c m dap] w fun e w' => e = .returned (.bool (decide (xs = ys))) ∧ ∃ q, w' = w.drewN q := by
  have hla := hA.len
  have hlc := hC.len
  have hea := hA.le
  have hra := hA.reach
  have hec := hC.le
  have hrc := hC.reach
  by_cases hnm : n = m
  · subst hnm
    go_enter Tryz.func20, Tryz.ntmps20
    go_wp2_with fail
    go_loopw [5] (fun i wr => ∃ k q : Nat, k ≤ n ∧ i = .int .i64 k ∧ wr = w.drewN q ∧ Hid (xs.take k = ys.take k)) (fun i _ => n - (intOf i).toNat)
    case atStart => exact ⟨0, 0, Nat.zero_le _, rfl, rfl, hide (by simp)⟩
    case round =>
      obtain ⟨k, q, hk, rfl, hwr, heq⟩ := hrel
      have hA' := hA.drewN q
      have hC' := hC.drewN q
      rw [← hwr] at hA' hC'
      have HR := hide hwr
      clear hwr
      by_cases hlt : k < n
      · obtain ⟨b1, o1, rfl, hc1⟩ := hA'.lies (by omega)
        obtain ⟨b2, o2, rfl, hc2⟩ := hC'.lies (by omega)
        obtain ⟨p1, m1, d1, hk1, hB1⟩ := hc1 k hlt
        obtain ⟨p2, m2, d2, hk2, hB2⟩ := hc2 k hlt
        have key := hide (take_next_eq heq.out (by omega : k < xs.length) (by omega : k < ys.length))
        clear hc1 hc2
        have C := fun j => same_any p1 p2 m1 d1 m2 d2 _ _ _ (hB1.drewN j) (hB2.drewN j)
        clear hB1 hB2
        by_cases he : xs.getD k [] = ys.getD k []
        · simp only [decide_eq_true he] at C
          go_wp2_with fail
          go_quiet (first | (go_at_call 48; exact Calls.quiet_of_same (C _)))
          go_wp2_with fail
          go_roundw
          case rel => exact ⟨k + 1, q + nq, by omega, by go_num, by rw [HR.out, World.drewN_drewN], hide (key.out.2 he)⟩
          case measure => simp [intOf]; omega
        · simp only [decide_eq_false he] at C
          go_wp2_with fail
          go_quiet (first | (go_at_call 48; exact Calls.quiet_of_same (C _)))
          go_wp2_with fail
          go_ret
          refine ⟨?_, q + nq, by rw [HR.out, World.drewN_drewN]⟩
          rw [decide_eq_false (fun e => he (by rw [e]))]
          rfl
      · obtain rfl : k = n := by omega
        have e : xs = ys := by
          have := heq.out
          rwa [List.take_of_length_le (by omega), List.take_of_length_le (by omega)] at this
        have HE := hide e
        clear e heq
        go_wp2_with fail
        go_ret
        refine ⟨?_, q, HR.out⟩
        rw [decide_eq_true HE.out]
        rfl
  · have hd : decide (xs = ys) = false := decide_eq_false (fun e => hnm (by rw [← hla, ← hlc, e]))
    rw [hd]
    clear hd
    go_enter Tryz.func20, Tryz.ntmps20
    go_wp2_with fail
    go_ret
    exact ⟨rfl, 0, rfl⟩

end Go.Proofs.YtkdolabhcbjipaaGreat

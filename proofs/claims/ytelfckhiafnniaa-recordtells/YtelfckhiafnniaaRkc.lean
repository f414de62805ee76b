/-
  What the copies and the looks 'the same?' of the statements' kit do: bytes, records, batches.
-/
import Derived.Test.YtelfckhiafnniaaRee
import Derived.Test.YtelfckhiafnniaaVfm
import Derived.Deep.QuietTactic
import Derived.BigQuiet
namespace Go.Proofs.Ytelfckhiafnniaa
open Go.RowKit

theorem take_snoc (zs : List Int) (k : Nat) (h : k < zs.length) : zs.take (k + 1) = zs.take k ++ [zs[k]?.getD 0] := by
  rw [List.take_succ_eq_append_getElem h]
  simp [List.getElem?_eq_getElem h]

set_option maxHeartbeats 1000000 in
theorem kcopy_any (a : Option Addr) (n cap : Nat) (zs : List Int) (w : World) (hB : Bs w a n cap zs) (hn : n ≤ 140737488355000) :
    Calls Try.prog 45 #[.slice a n cap] w fun e w' => ∃ c d, e = .returned (.slice c n d) ∧ w'.ownsRow w.heap.size 5 1 (.slice c n d) n (U zs) ∧ Below w.heap.size w w' := by
  obtain ⟨i0, hi, hz0, hz1, hz2⟩ := info_parts info5
  have hl := hB.len
  have hle := hB.le
  have hre := hB.reach
  go_enter Try.func45, Try.ntmps45
  go_wp2
  go_loopw [3, 4] (fun v i wr => ∃ k : Nat, k ≤ n ∧ i = .int .i64 k ∧ Hid (wr.ownsRow w.heap.size 5 1 v k (U (zs.take k))) ∧ Below w.heap.size w wr)
    (fun _ i _ => n - (intOf i).toNat)
  case atStart => exact ⟨0, Nat.zero_le _, rfl, hide (World.ownsRow_nil _ _ _ _), Below.refl _ _⟩
  case round =>
    obtain ⟨k, hk, rfl, ho, hb⟩ := hrel
    have hs := hb.size
    by_cases hlt : k < n
    · obtain ⟨b, off, rfl, hc⟩ := (hB.keep hb).lies (by omega)
      have hck := hc k hlt
      rw [List.getD] at hck
      have hz := getD_byte hB.byte k
      have HS := hide (take_snoc zs k (by omega))
      clear hc
      generalize zs[k]?.getD 0 = z at hck hz HS
      go_wp2_with (at_builtin; refine wpList_append_val rfl (.tmp 11) (.tmp 16) 22 rfl w.heap.size 5 i0 Try.underlying22 hi hz0 hz1 hz2 _ k _ rfl (ho.out.alloc _) _ 1 1 [z] rfl (Bs.lit wr [z] 1 rfl (by decide) (by simpa using hz)) (by omega) (by simp; omega) ?_; intro v1 w2 hown1 hgrow1; have ho1 := hide hown1; clear hown1)
      go_roundw
      case rel =>
        refine ⟨k + 1, by omega, by go_num, hide ?_, own_below hb ho.out _ hgrow1 hs⟩
        have h := ho1.out
        rw [← U_append] at h
        rw [HS.out]
        exact h
      case measure => simp [intOf]; omega
    · obtain rfl : k = n := by omega
      rw [List.take_of_length_le (by omega)] at ho
      obtain ⟨va, vc, hv⟩ := own_val ho.out
      subst hv
      go_wp2_with fail
      go_ret
      exact ⟨va, vc, rfl, ho.out, hb⟩

theorem take_same {xs ys : List Int} {k : Nat} (h : xs.take k = ys.take k) (hx : k < xs.length) (hy : k < ys.length) : xs.take (k + 1) = ys.take (k + 1) ↔ xs[k]?.getD 0 = ys[k]?.getD 0 := by
  rw [take_snoc xs k hx, take_snoc ys k hy, h, List.append_cancel_left_eq]
  simp

set_option maxHeartbeats 1000000 in
theorem ksame_any (a c : Option Addr) (n cap m dap : Nat) (xs ys : List Int) (w : World) (hA : Bs w a n cap xs) (hC : Bs w c m dap ys) :
    Calls Try.prog 58 #[.slice a n cap, .slice c m dap] w fun e w' => e = .returned (.bool (decide (xs = ys))) ∧ ∃ q, w' = w.drewN q := by
  have hla := hA.len
  have hlc := hC.len
  have hea := hA.le
  have hra := hA.reach
  have hec := hC.le
  have hrc := hC.reach
  by_cases hnm : n = m
  · subst hnm
    go_enter Try.func58, Try.ntmps58
    go_wp2_with fail
    go_loopw [5] (fun i wr => ∃ k q : Nat, k ≤ n ∧ i = .int .i64 k ∧ wr = w.drewN q ∧ Hid (xs.take k = ys.take k)) (fun i _ => n - (intOf i).toNat)
    case atStart => exact ⟨0, 0, Nat.zero_le _, rfl, rfl, hide (by simp)⟩
    case round =>
      obtain ⟨k, q, hk, rfl, hwr, heq⟩ := hrel
      have hA' := hA.drewN q
      have hC' := hC.drewN q
      rw [← hwr] at hA' hC'
      have HR := hide hwr
      clear hwr
      by_cases hlt : k < n
      · obtain ⟨b1, o1, rfl, hc1⟩ := hA'.lies (by omega)
        obtain ⟨b2, o2, rfl, hc2⟩ := hC'.lies (by omega)
        have hk1 := hc1 k hlt
        have hk2 := hc2 k hlt
        rw [List.getD] at hk1 hk2
        have key := hide (take_same heq.out (by omega : k < xs.length) (by omega : k < ys.length))
        clear hc1 hc2
        by_cases he : xs[k]?.getD 0 = ys[k]?.getD 0
        · rw [he] at hk1
          have hne : (ys[k]?.getD 0 != ys[k]?.getD 0) = false := by simp
          have KK := hide (key.out.2 he)
          clear key he
          generalize ys[k]?.getD 0 = z at hk1 hk2 hne
          go_wp2_with fail
          go_quiet (fail)
          go_wp2_with fail
          go_roundw
          case rel => exact ⟨k + 1, q + nq, by omega, by go_num, by rw [HR.out, World.drewN_drewN], KK⟩
          case measure => simp [intOf]; omega
        · have hne : (xs[k]?.getD 0 != ys[k]?.getD 0) = true := by simpa using he
          have NE : Hid (xs ≠ ys) := hide (fun e => he (by rw [e]))
          clear he key
          generalize ys[k]?.getD 0 = z at hk2 hne
          generalize xs[k]?.getD 0 = y at hk1 hne
          go_wp2_with fail
          go_quiet (fail)
          go_wp2_with fail
          go_ret
          refine ⟨?_, q + nq, by rw [HR.out, World.drewN_drewN]⟩
          rw [decide_eq_false NE.out]
          rfl
      · obtain rfl : k = n := by omega
        have e : xs = ys := by
          have := heq.out
          rwa [List.take_of_length_le (by omega), List.take_of_length_le (by omega)] at this
        have HE := hide e
        clear e heq
        go_wp2_with fail
        go_ret
        refine ⟨?_, q, HR.out⟩
        rw [decide_eq_true HE.out]
        rfl
  · have hd : decide (xs = ys) = false := decide_eq_false (fun e => hnm (by rw [← hla, ← hlc, e]))
    rw [hd]
    clear hd
    go_enter Try.func58, Try.ntmps58
    go_wp2_with fail
    go_ret
    exact ⟨rfl, 0, rfl⟩

end Go.Proofs.Ytelfckhiafnniaa

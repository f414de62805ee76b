/-
  What the copies and the looks 'the same?' of the statements' kit do: records, batches.
-/
import Derived.Test.YtelfckhiafnniaaRkc
import Derived.Test.YtelfckhiafnniaaFss
namespace Go.Proofs.Ytelfckhiafnniaa
open Go.RowKit

theorem bss_snoc (bss : List (List Int)) (k : Nat) (h : k < bss.length) : bss.take (k + 1) = bss.take k ++ [bss.getD k []] := by
  rw [List.take_succ_eq_append_getElem h]
  simp [List.getD, List.getElem?_eq_getElem h]

set_option maxHeartbeats 1000000 in
theorem krecs_any (a : Option Addr) (n cap : Nat) (bss : List (List Int)) (w : World) (hR : Rl w a n cap bss) (hn : n ≤ 1000000) (hln : ∀ b ∈ bss, b.length ≤ 140737488355000) :
    Calls Try.prog 26 #[.slice a n cap] w fun e w' => ∃ v rs, e = .returned v ∧ LL w' w.heap.size v rs ∧ rs.map (·.2) = bss ∧ Below w.heap.size w w' := by
  obtain ⟨i1, hi', hy0, hy1, hy2⟩ := info_parts info22
  have hl := hR.len
  have hle := hR.le
  have hre := hR.reach
  go_enter Try.func26, Try.ntmps26
  go_wp2
  go_loopw [3, 4] (fun v i wr => ∃ (k : Nat) (rs : List (Value × List Int)), k ≤ n ∧ i = .int .i64 k ∧ Hid (LL wr w.heap.size v rs) ∧ Hid (rs.map (·.2) = bss.take k) ∧ Below w.heap.size w wr)
    (fun _ i _ => n - (intOf i).toNat)
  case atStart => exact ⟨0, [], Nat.zero_le _, rfl, hide (LL.nil _ _), hide (by simp), Below.refl _ _⟩
  case round =>
    obtain ⟨k, rs, hk, rfl, hL, hrs, hb⟩ := hrel
    have hs := hb.size
    by_cases hlt : k < n
    · obtain ⟨b, off, rfl, hc⟩ := (hR.keep hb).lies (by omega)
      obtain ⟨p1, m1, d1, hk1, hBk⟩ := hc k hlt
      have HS := hide (bss_snoc bss k (by omega))
      have hm1 : m1 ≤ 140737488355000 := by
        have := hln (bss.getD k []) (by simp [List.getD, List.getElem?_eq_getElem (show k < bss.length by omega)])
        rw [hBk.len] at this
        exact this
      have hBl := hBk.len
      have hby := hBk.byte
      have hrl : rs.length = k := by
        have := congrArg List.length hrs.out
        simp at this
        omega
      clear hc
      generalize bss.getD k [] = r at hBk hBl HS hby
      go_wp2_with fail
      refine (kcopy_any _ _ _ r _ hBk hm1).mono ?_
      rintro e w2 ⟨c2, d2, rfl, hown2, hb2⟩
      have hs2 := hb2.size
      have hL2 := hL.out.keep hb2
      have hL3 := hL2.keep (fresh w2 (.cells #[.slice c2 m1 d2] 22))
      have hfin : ∀ (u : Value) (w3 : World), w3.ownsRow w.heap.size 22 1 u (rs.length + 1) (rs.map (·.1) ++ [.slice c2 m1 d2]) → (w2.alloc (.cells #[.slice c2 m1 d2] 22)).grownBy w3 u3.ownBlock →
          LL w3 w.heap.size u (rs ++ [(.slice c2 m1 d2, r)]) ∧ Below w.heap.size w w3 := by
        intro u w3 h4 h5
        refine ⟨hL3.more (qs := [(.slice c2 m1 d2, r)]) (n := rs.length + 1) (by simp only [List.mem_singleton, forall_eq]; rw [hBl]; exact own_less (hown2.alloc _) hs) (by simpa using hby) (by simp) ?_ (by simp) (by simpa using h4) h5, ?_⟩
        · intro q hq s hs'
          simp only [List.mem_singleton] at hs'
          subst hs'
          cases hrb : q.1.ownBlock with
          | none => exact .inl rfl
          | some x =>
            refine .inr (fun e => ?_)
            have h1 := ((hL.out.row q hq).lt x hrb).2
            have h2 := (hown2.lt x e.symm).1
            omega
        · exact (hb.trans ((hb2.mono hs).alloc (by omega) _)).grown h5 (by simp; omega) (fun k hk => own_from hL.out.own hk)
      have HF := hide hfin
      have HO := hide hL3.own
      clear hfin hL3 hL2
      go_wp2_with (at_builtin; refine wpList_append_own _ rfl (.tmp 11) (.tmp 17) 26 rfl w.heap.size 22 i1 (.slice none 0 0) 1 24 Try.underlying26 hi' hy0 hy1 hy2 rfl (by omega) _ rs.length _ rfl HO.out ⟨_, 0, none⟩ 1 1 [.slice c2 m1 d2] rfl rfl (cell_one_new _ _ _) (by simp [Value.oneCell']) (by unfold maxLen; omega) (by omega) (by simp; omega) ?_; intro u w3 hown3 hgrow3 _)
      have hf := HF.out u w3 hown3 hgrow3
      clear hown3 hgrow3 HF HO hown2
      go_wp2_with fail
      go_roundw
      case rel => exact ⟨k + 1, _, by omega, by go_num, hide hf.1, hide (by rw [List.map_append, hrs.out, HS.out]; rfl), hf.2⟩
      case measure => simp [intOf]; omega
    · obtain rfl : k = n := by omega
      rw [List.take_of_length_le (by omega)] at hrs
      go_wp2_with fail
      go_ret
      exact ⟨_, rs, rfl, hL.out, hrs.out, hb⟩

set_option maxHeartbeats 1000000 in
theorem ksames_any (a c : Option Addr) (n cap m dap : Nat) (xs ys : List (List Int)) (w : World) (hA : Rl w a n cap xs) (hC : Rl w c m dap ys) :
    Calls Try.prog 44 #[.slice a n cap, .slice c m dap] w fun e w' => e = .returned (.bool (decide (xs = ys))) ∧ ∃ q, w' = w.drewN q := by
  have hla := hA.len
  have hlc := hC.len
  have hea := hA.le
  have hra := hA.reach
  have hec := hC.le
  have hrc := hC.reach
  by_cases hnm : n = m
  · subst hnm
    go_enter Try.func44, Try.ntmps44
    go_wp2_with fail
    go_loopw [5] (fun i wr => ∃ k q : Nat, k ≤ n ∧ i = .int .i64 k ∧ wr = w.drewN q ∧ Hid (xs.take k = ys.take k)) (fun i _ => n - (intOf i).toNat)
    case atStart => exact ⟨0, 0, Nat.zero_le _, rfl, rfl, hide (by simp)⟩
    case round =>
      obtain ⟨k, q, hk, rfl, hwr, heq⟩ := hrel
      have hA' := hA.drewN q
      have hC' := hC.drewN q
      rw [← hwr] at hA' hC'
      have HR := hide hwr
      clear hwr
      by_cases hlt : k < n
      · obtain ⟨b1, o1, rfl, hc1⟩ := hA'.lies (by omega)
        obtain ⟨b2, o2, rfl, hc2⟩ := hC'.lies (by omega)
        obtain ⟨p1, m1, d1, hk1, hB1⟩ := hc1 k hlt
        obtain ⟨p2, m2, d2, hk2, hB2⟩ := hc2 k hlt
        have key := hide (take_next_eq heq.out (by omega : k < xs.length) (by omega : k < ys.length))
        clear hc1 hc2
        have C := fun j => ksame_any p1 p2 m1 d1 m2 d2 _ _ _ (hB1.drewN j) (hB2.drewN j)
        clear hB1 hB2
        by_cases he : xs.getD k [] = ys.getD k []
        · simp only [decide_eq_true he] at C
          go_wp2_with fail
          go_quiet (first | (go_at_call 58; exact Calls.quiet_of (C _)))
          go_wp2_with fail
          go_roundw
          case rel => exact ⟨k + 1, q + nq, by omega, by go_num, by rw [HR.out, World.drewN_drewN], hide (key.out.2 he)⟩
          case measure => simp [intOf]; omega
        · simp only [decide_eq_false he] at C
          go_wp2_with fail
          go_quiet (first | (go_at_call 58; exact Calls.quiet_of (C _)))
          go_wp2_with fail
          go_ret
          refine ⟨?_, q + nq, by rw [HR.out, World.drewN_drewN]⟩
          rw [decide_eq_false (fun e => he (by rw [e]))]
          rfl
      · obtain rfl : k = n := by omega
        have e : xs = ys := by
          have := heq.out
          rwa [List.take_of_length_le (by omega), List.take_of_length_le (by omega)] at this
        have HE := hide e
        clear e heq
        go_wp2_with fail
        go_ret
        refine ⟨?_, q, HR.out⟩
        rw [decide_eq_true HE.out]
        rfl
  · have hd : decide (xs = ys) = false := decide_eq_false (fun e => hnm (by rw [← hla, ← hlc, e]))
    rw [hd]
    clear hd
    go_enter Try.func44, Try.ntmps44
    go_wp2_with fail
    go_ret
    exact ⟨rfl, 0, rfl⟩

end Go.Proofs.Ytelfckhiafnniaa

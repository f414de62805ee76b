/-
  What the document's own Get does, by division.
-/
import Derived.Test.YtelfckhiafnniaaVrh
import Derived.Test.YtelfckhiafnniaaSam
namespace Go.Proofs.Ytelfckhiafnniaa
open Go.RowKit

theorem num_drop (xs : List Int) (j : Nat) (h : j < xs.length) : num (xs.drop j) = ((xs[j]?.getD 0) % 128).toNat + 128 * num (xs.drop (j + 1)) := by
  rw [drop_here xs j h, num]

theorem ref_bad (a : Option Addr) (len cap : Nat) (x : Int) (hx : x < 0 ∨ (len : Int) ≤ x) (w : World) :
    Calls Try.prog 43 #[.slice a len cap, .int .i64 x] w fun e w' => e = .returned (.tuple #[.int .u64 0, .int .i64 0, .bool false]) ∧ w' = w := by
  go_enter Try.func43, Try.ntmps43
  by_cases h : x < 0
  · go_wp2
    go_ret3
    exact ⟨rfl, rfl⟩
  · have h2 : (len : Int) ≤ x := by omega
    go_wp2
    go_ret3
    exact ⟨rfl, rfl⟩

set_option maxRecDepth 100000 in
set_option maxHeartbeats 2000000 in
theorem ref_good (b off len cap x : Nat) (zs : List Int) (w : World) (hB : Bs w (some ⟨b, off, none⟩) len cap zs) (hx : x < len) :
    Calls Try.prog 43 #[.slice (some ⟨b, off, none⟩) len cap, .int .i64 (x : Int)] w fun e W' => e = .returned (.tuple #[.int .u64 (gN zs x : Int), .int .i64 (gE zs x : Int), .bool (gB zs x)]) ∧ Below w.heap.size w W' := by
  have hle := hB.le
  have hre := hB.reach
  have hll := hB.len
  obtain ⟨b', off', ha, hcs⟩ := hB.lies (by omega)
  simp only [Option.some.injEq, Addr.mk.injEq, and_true] at ha
  obtain ⟨rfl, rfl⟩ := ha
  have hx1 : ¬ (x : Int) < 0 := by omega
  have hx2 : ¬ (len : Int) ≤ (x : Int) := by omega
  have HB := hide hB
  clear hB
  go_enter Try.func43, Try.ntmps43
  go_wp2_with fail
  go_loopw [7] (fun i wr => ∃ k : Nat, k ≤ 10 ∧ x + k ≤ len ∧ i = .int .i64 ((x : Int) + k) ∧ Hid (∀ z ∈ (zs.drop x).take k, 128 ≤ z) ∧ wr = w)
    (fun i _ => len - (intOf i).toNat)
  case atStart => exact ⟨0, by omega, by omega, by simp, hide (by simp), rfl⟩
  case round =>
    obtain ⟨k, hk, hkl, rfl, hall, rfl⟩ := hrel
    have none_case : (k = 10 ∨ x + k = len) → Hid (gN zs x = 0 ∧ gE zs x = 0 ∧ gB zs x = false) := by
      intro h
      have hg := gv_open x k hk (by omega) (by omega) hall.out
      refine hide ?_
      unfold gN gE gB
      rw [hg]
      exact ⟨rfl, rfl, rfl⟩
    by_cases h1 : x + k = len
    · have hn := none_case (.inr h1)
      clear none_case
      have f1 : ¬ ((x : Int) + k < (len : Int)) := by omega
      go_wp2_with fail
      go_ret3
      exact ⟨by rw [hn.out.1, hn.out.2.1, hn.out.2.2]; rfl, Below.refl _ _⟩
    · by_cases h2 : k = 10
      · have hn := none_case (.inl h2)
        clear none_case
        have f1 : (x : Int) + k < (len : Int) := by omega
        subst h2
        go_wp2_with fail
        go_ret3
        exact ⟨by rw [hn.out.1, hn.out.2.1, hn.out.2.2]; rfl, Below.refl _ _⟩
      · clear none_case
        have f1 : (x : Int) + k < (len : Int) := by omega
        have f2 : (k : Int) < 10 := by omega
        have hc : wr.cell? ⟨b, off + (x + k), none⟩ = some (.int .u8 (zs[x + k]?.getD 0)) := by
          have := hcs (x + k) (by omega)
          simpa using this
        have htk := hide (take_next (zs.drop x) k (by simp; omega))
        have hzk : (zs.drop x)[k]?.getD 0 = zs[x + k]?.getD 0 := by simp
        rw [hzk] at htk
        clear hzk
        obtain ⟨z, hz⟩ : ∃ z, z = zs[x + k]?.getD 0 := ⟨_, rfl⟩
        rw [← hz] at hc htk
        have HZ := hide hz
        clear hz
        by_cases h3 : 128 ≤ z
        · go_wp2_with fail
          refine ⟨⟨k + 1, by omega, by omega, by simp; omega, hide ?_, trivial⟩, by simp [intOf]; omega⟩
          rw [htk.out]
          intro y hy
          rcases List.mem_append.1 hy with h | h
          · exact hall.out y h
          · simp at h; omega
        · have hv' := hide (gv_at HB.out.byte x k (by omega) (by omega) hall.out (by rw [← HZ.out]; omega))
          obtain ⟨xs, hxs⟩ : ∃ xs, xs = (zs.drop x).take (k + 1) := ⟨_, rfl⟩
          have hxl : xs.length = k + 1 := by rw [hxs]; simp; omega
          have hxc : ∀ j, j ≤ k → xs[j]?.getD 0 = zs[x + j]?.getD 0 := by
            intro j hj
            rw [hxs, List.getElem?_take, if_pos (by omega), List.getElem?_drop]
          have HXS := hide hxs
          rw [← hxs] at hv'
          have HXC := hide hxc
          clear hxs hxc hall htk HZ
          obtain ⟨wl, hwl⟩ : ∃ wl : World, wl = wr := ⟨_, rfl⟩
          subst hwl
          go_wp2_with fail
          go_loopw [8, 9] (fun m i wr => ∃ j : Nat, j ≤ k + 1 ∧ i = .int .i64 ((x : Int) + j - 1) ∧ m = .int .u64 ((num (xs.drop j) % 18446744073709551616 : Nat) : Int) ∧ wr = wl)
            (fun _ i _ => (intOf i + 1 - x).toNat)
          case atStart => exact ⟨k + 1, by omega, by simp; omega, by rw [List.drop_eq_nil_of_le (by omega)]; simp [num], rfl⟩
          case round =>
            obtain ⟨j, hj, rfl, rfl, rfl⟩ := hrel
            by_cases hj0 : j = 0
            · subst hj0
              rw [List.drop_zero]
              obtain ⟨v, hvd⟩ : ∃ v, v = num xs % 18446744073709551616 := ⟨_, rfl⟩
              have hv2 : v < 18446744073709551616 := by omega
              rw [← hvd] at hv' ⊢
              clear hvd
              have RB := hide (fun w => refBytes_any v hv2 w)
              have BX : Hid (Bs wr (some ⟨b, off + x, none⟩) (x + k + 1 - x) (cap - x) xs) := by
                have h := (HB.out.drop x (by omega)).head (k + 1) (by omega)
                rw [← HXS.out] at h
                rw [show x + k + 1 - x = k + 1 from by omega]
                exact hide h
              have D0 : Below wr.heap.size wr wr.drew := (Below.refl _ _).drew
              have fx : (x : Int) ≤ (x : Int) + k + 1 := by omega
              have fc : (x : Int) + k + 1 ≤ (cap : Int) := by omega
              have fn : x < cap := by omega
              have fne : ¬ cap = x := by omega
              have hwr : IntKind.i64.wrap ((x : Int) + k + 1) = (x : Int) + k + 1 := by rw [IntKind.wrap_i64]; omega
              have fto : ((x : Int) + k + 1).toNat = x + k + 1 := by omega
              by_cases hq : vb v = xs
              · rw [if_pos hq] at hv'
                have hlen : (vb v).length = k + 1 := by rw [hq, hxl]
                rw [hlen] at RB
                have HQ := hide hq
                have HLN := hide hlen
                clear hq hlen
                go_wp2_with fail
                go_region_with (first
                  | (go_at_call 39; refine (RB.out _).mono ?_; rintro e w1 ⟨g1, d1, rfl, ho1, hb1⟩; have B1 := hide (own_bs ho1 (vb_byte v)); have c1 : Below wr.heap.size wr w1 := D0.trans hb1; clear ho1 hb1)
                  | (go_at_call 22; refine (same_true HQ.out B1.out (BX.out.keep c1)).mono ?_; rintro e w2 ⟨rfl, rfl⟩))
                all_goals go_wp2_with fail
                all_goals go_ret3
                all_goals
                  have eN : gN zs (x : Int) = v := by unfold gN; rw [hv'.out]; rfl
                  have eE : ((gE zs (x : Int) : Nat) : Int) = (x : Int) + k + 1 := by unfold gE; rw [hv'.out]; simp only [HLN.out]; omega
                  have eB : gB zs (x : Int) = true := by unfold gB; rw [hv'.out]; rfl
                  rw [eN, eE, eB]
                  exact ⟨rfl, c1⟩
              · rw [if_neg hq] at hv'
                have HSM : Hid (∀ w1 g1 d1 b2 n2 c2, Bs w1 (some ⟨g1, 0, none⟩) (vb v).length d1 (vb v) → Bs w1 b2 n2 c2 xs → Calls Try.prog 22 #[.slice (some ⟨g1, 0, none⟩) (vb v).length d1, .slice b2 n2 c2] w1 fun e w' => e = .returned (.bool false) ∧ w' = w1) := by
                  refine hide (fun w1 g1 d1 b2 n2 c2 h1 h2 => ?_)
                  have h := same_any _ _ _ _ _ _ _ _ w1 h1 h2
                  rw [decide_eq_false hq] at h
                  exact h
                obtain ⟨m, hm⟩ : ∃ m, m = (vb v).length := ⟨_, rfl⟩
                rw [← hm] at RB HSM
                clear hq hm
                go_wp2_with fail
                go_region_with (first
                  | (go_at_call 39; refine (RB.out _).mono ?_; rintro e w1 ⟨g1, d1, rfl, ho1, hb1⟩; have B1 := hide (own_bs ho1 (vb_byte v)); have c1 : Below wr.heap.size wr w1 := D0.trans hb1; clear ho1 hb1)
                  | (go_at_call 22; refine (HSM.out _ _ _ _ _ _ B1.out (BX.out.keep c1)).mono ?_; rintro e w2 ⟨rfl, rfl⟩))
                all_goals go_wp2_with fail
                all_goals go_ret3
                all_goals
                  have eN : gN zs (x : Int) = 0 := by unfold gN; rw [hv'.out]; rfl
                  have eE : gE zs (x : Int) = 0 := by unfold gE; rw [hv'.out]
                  have eB : gB zs (x : Int) = false := by unfold gB; rw [hv'.out]; rfl
                  rw [eN, eE, eB]
                  exact ⟨rfl, c1⟩
            · obtain ⟨i, rfl⟩ : ∃ i, j = i + 1 := ⟨j - 1, by omega⟩
              have hc : wr.cell? ⟨b, off + (x + i), none⟩ = some (.int .u8 (zs[x + i]?.getD 0)) := by
                have := hcs (x + i) (by omega)
                simpa using this
              have hst := num_drop xs i (by omega)
              rw [HXC.out i (by omega)] at hst
              have hyb := getD_byte HB.out.byte (x + i)
              obtain ⟨y, hy⟩ : ∃ y, y = zs[x + i]?.getD 0 := ⟨_, rfl⟩
              rw [← hy] at hc hst hyb
              clear hy
              obtain ⟨M, hM⟩ : ∃ M, M = num (xs.drop (i + 1)) := ⟨_, rfl⟩
              rw [← hM] at hst ⊢
              have HST := hide hst
              clear hst hM
              have ei : (x : Int) + ((i + 1 : Nat) : Int) - 1 = (x : Int) + i := by omega
              rw [ei]
              have fi : ¬ ((x : Int) + i < (x : Int)) := by omega
              have fl : (x : Int) + i < (len : Int) := by omega
              obtain ⟨N, hN⟩ : ∃ N, N = M % 18446744073709551616 := ⟨_, rfl⟩
              rw [← hN]
              have hN2 : N < 18446744073709551616 := by omega
              have HN := hide hN
              clear hN
              go_wp2_with fail
              refine ⟨⟨i, by omega, rfl, ?_, trivial⟩, by simp [intOf]; omega⟩
              rw [IntKind.wrap_u64, IntKind.wrap_u64, HST.out]
              have h := HN.out
              have e : ((N : Int) * 128 % 18446744073709551616 + y % 128) % 18446744073709551616 = (((y % 128).toNat + 128 * M) % 18446744073709551616 : Nat) := by omega
              rw [e]

theorem refGet_val (a : Option Addr) (len cap : Nat) (zs : List Int) (x : Int) (w : World) (hB : Bs w a len cap zs) :
    Calls Try.prog 43 #[.slice a len cap, .int .i64 x] w fun e W' => e = .returned (.tuple #[.int .u64 (gN zs x : Int), .int .i64 (gE zs x : Int), .bool (gB zs x)]) ∧ Below w.heap.size w W' := by
  by_cases h : x < 0 ∨ (len : Int) ≤ x
  · have hg : gv zs x = none := by unfold gv; rw [hB.len, if_pos h]
    unfold gN gE gB
    rw [hg]
    refine (ref_bad a len cap x h w).mono ?_
    rintro e w' ⟨rfl, rfl⟩
    exact ⟨rfl, Below.refl _ _⟩
  · obtain ⟨y, rfl⟩ : ∃ y : Nat, x = (y : Int) := ⟨x.toNat, by omega⟩
    obtain ⟨b, off, rfl, _⟩ := hB.lies (by omega)
    exact ref_good b off len cap y zs w hB (by omega)

/-- Where nothing is read, a number with a sign is 0 too. -/
theorem gN_none {zs : List Int} {x : Int} (h : gB zs x = false) : gN zs x = 0 ∧ gE zs x = 0 := by
  unfold gB at h
  unfold gN gE
  cases hg : gv zs x with
  | none => exact ⟨rfl, rfl⟩
  | some v => rw [hg] at h; cases h

set_option maxHeartbeats 400000 in
theorem refGetInt_val (a : Option Addr) (len cap : Nat) (zs : List Int) (x : Int) (w : World) (hB : Bs w a len cap zs) :
    Calls Try.prog 42 #[.slice a len cap, .int .i64 x] w fun e W' => e = .returned (.tuple #[.int .i64 (unfo (gN zs x)), .int .i64 (gE zs x : Int), .bool (gB zs x)]) ∧ Below w.heap.size w W' := by
  have hlt := gN_lt hB.byte x
  have H := hide (refGet_val a len cap zs x w hB)
  have hno := hide (gN_none (zs := zs) (x := x))
  clear hB
  obtain ⟨N, hN⟩ : ∃ N, N = gN zs x := ⟨_, rfl⟩
  obtain ⟨E, hE⟩ : ∃ E, E = gE zs x := ⟨_, rfl⟩
  obtain ⟨t, ht⟩ : ∃ t, t = gB zs x := ⟨_, rfl⟩
  rw [← hN, ← hE, ← ht] at H hno ⊢
  rw [← hN] at hlt
  clear hN hE ht
  go_enter Try.func42, Try.ntmps42
  cases t
  · obtain ⟨rfl, rfl⟩ := hno.out rfl
    go_wp2_with fail
    refine H.out.mono ?_
    rintro e w1 ⟨rfl, hb1⟩
    go_wp2_with fail
    go_ret3
    exact ⟨rfl, hb1⟩
  · by_cases h : N % 2 = 1
    · have e : unfo N = -((N / 2 : Nat) : Int) - 1 := by unfold unfo; rw [if_pos h]
      have HE := hide e
      have h' : (N : Int) % 2 = 1 := by omega
      clear e
      go_wp2_with fail
      refine H.out.mono ?_
      rintro e w1 ⟨rfl, hb1⟩
      go_wp2_with fail
      go_ret3
      rw [HE.out]
      have hd : ((N / 2 : Nat) : Int) = (N : Int) / 2 := by omega
      rw [hd]
      exact ⟨rfl, hb1⟩
    · have e : unfo N = ((N / 2 : Nat) : Int) := by unfold unfo; rw [if_neg h]
      have HE := hide e
      have h' : ¬ (N : Int) % 2 = 1 := by omega
      clear e
      go_wp2_with fail
      refine H.out.mono ?_
      rintro e w1 ⟨rfl, hb1⟩
      go_wp2_with fail
      go_ret3
      rw [HE.out]
      have hd : ((N / 2 : Nat) : Int) = (N : Int) / 2 := by omega
      rw [hd]
      exact ⟨rfl, hb1⟩

end Go.Proofs.Ytelfckhiafnniaa

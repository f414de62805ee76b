/-
  Texts put into one.
-/
import Derived.Test.YtnimfkcnkkjlkaaGreatPk74fceb5a
import Derived.Test.YtnimfkcnkkjlkaaGreatPkee673eda
import Derived.Deep.RegionWith

/-
  What the document's own answers of this layer do: Put, PutInt, Get, GetInt by division.
-/
namespace Go.Proofs.YtnimfkcnkkjlkaaGreat
open Go.RowKit
set_option maxRecDepth 100000

theorem own_keep {w w' : World} {base n : Nat} {e : TypeId} {v : Value} {xs : List Value} (h : w.ownsRow base e 1 v n xs) (hb : Below w.heap.size w w') : w'.ownsRow base e 1 v n xs := by
  obtain ⟨a, b, c, d, f⟩ := hb
  exact h.kept (row := none) ⟨a, b, c, d, fun k hk _ => f k hk⟩ (by cases v.ownBlock <;> simp)

set_option maxHeartbeats 400000 in
theorem signed_any (n : Int) (h1 : -9223372036854775808 ≤ n) (h2 : n ≤ 9223372036854775807) (w : World) :
    Calls Tryz.prog 180 #[.int .i64 n] w fun e w' => e = .returned (.int .u64 (fo n : Int)) ∧ w' = w := by
  go_enter Tryz.func180, Tryz.ntmps180
  by_cases h : n < 0
  · have e : (fo n : Int) = -2 * n - 1 := by unfold fo; rw [if_pos h]; omega
    have HE := hide e
    clear e
    go_wp2
    go_ret
    refine ⟨congrArg (fun x => Ending.returned (.int .u64 x)) ?_, rfl⟩
    rw [HE.out]
    omega
  · have e : (fo n : Int) = 2 * n := by unfold fo; rw [if_neg h]; omega
    have HE := hide e
    clear e
    go_wp2
    go_ret
    refine ⟨congrArg (fun x => Ending.returned (.int .u64 x)) ?_, rfl⟩
    rw [HE.out]
    omega

set_option maxHeartbeats 400000 in
theorem refPut_any (a : Option Addr) (len cap : Nat) (zs : List Int) (v : Nat) (hv : v < 18446744073709551616) (w : World) (hB : Bs w a len cap zs) (hlen : len ≤ 140737488355318) :
    Calls Tryz.prog 179 #[.slice a len cap, .int .u64 (v : Int)] w fun e W' => ∃ g d, e = .returned (.slice (some ⟨g, 0, none⟩) (len + (vb v).length) d) ∧
      Bs W' (some ⟨g, 0, none⟩) (len + (vb v).length) d (zs ++ vb v) ∧ Below w.heap.size w W' := by
  obtain ⟨i0, hi, hz0, hz1, hz2⟩ := info_parts info5
  have h10 := vb_len10 hv
  have hp := vb_pos v
  have RB := hide (fun w => refBytes_any v hv w)
  obtain ⟨k, hk⟩ : ∃ k, k = (vb v).length := ⟨_, rfl⟩
  rw [← hk] at h10 hp RB ⊢
  clear hk
  go_enter Tryz.func179, Tryz.ntmps179
  go_wp2_with fail
  refine (copy_any _ _ _ zs _ hB (by omega)).mono ?_
  rintro e w1 ⟨c1, d1, rfl, ho1, hb1⟩
  have HO := hide ho1
  clear ho1
  go_wp2_with fail
  refine (RB.out _).mono ?_
  rintro e w2 ⟨g2, d2, rfl, ho2, hb2⟩
  have c2 : Below w.heap.size w w2 := hb1.trans (hb2.mono hb1.size)
  have B2 := own_bs ho2 (vb_byte v)
  clear ho2
  have HO2 : Hid (w2.ownsRow w.heap.size 5 1 (.slice c1 len d1) len (U zs)) := hide (own_keep HO.out hb2)
  go_wp2_with (at_builtin; refine wpList_append_bs rfl (.tmp 6) (.tmp 8) 32 rfl w.heap.size 5 i0 Tryz.underlying32 hi hz0 hz1 hz2 _ len _ rfl HO2.out _ k d2 (vb v) rfl B2 (by omega) (by omega) c2.size ?_; intro g3 d3 w3 ho3 hgr3)
  go_ret
  rw [← U_append] at ho3
  exact ⟨g3, d3, rfl, own_bs ho3 (app_byte hB.byte (vb_byte v)), c2.grown hgr3 c2.size (fun _ hk => own_ge HO2.out hk)⟩

set_option maxHeartbeats 400000 in
theorem refPutInt_any (a : Option Addr) (len cap : Nat) (zs : List Int) (n : Int) (h1 : -9223372036854775808 ≤ n) (h2 : n ≤ 9223372036854775807) (w : World) (hB : Bs w a len cap zs) (hlen : len ≤ 140737488355318) :
    Calls Tryz.prog 105 #[.slice a len cap, .int .i64 n] w fun e W' => ∃ g d, e = .returned (.slice (some ⟨g, 0, none⟩) (len + (vb (fo n)).length) d) ∧
      Bs W' (some ⟨g, 0, none⟩) (len + (vb (fo n)).length) d (zs ++ vb (fo n)) ∧ Below w.heap.size w W' := by
  go_enter Tryz.func105, Tryz.ntmps105
  go_wp2_with (first
    | (go_at_call 180; refine (signed_any n h1 h2 _).mono ?_; rintro e w1 ⟨rfl, rfl⟩)
    | (go_at_call 179; refine (refPut_any _ _ _ zs _ (fo_lt h1 h2) _ hB hlen).mono ?_; rintro e w2 ⟨g, d, rfl, hB2, hb⟩))
  go_ret
  exact ⟨g, d, rfl, hB2, hb⟩

/-- The walk ends at a last group: what is read. -/
theorem gv_at {zs : List Int} (hz : ∀ z ∈ zs, 0 ≤ z ∧ z ≤ 255) (x k : Nat) (hk : k < 10) (hl : x + k < zs.length) (hall : ∀ z ∈ (zs.drop x).take k, 128 ≤ z) (hlast : zs[x + k]?.getD 0 < 128) :
    gv zs (x : Int) = if vb (num ((zs.drop x).take (k + 1)) % 18446744073709551616) = (zs.drop x).take (k + 1) then some (num ((zs.drop x).take (k + 1)) % 18446744073709551616) else none := by
  have hu : upto 10 (zs.drop x) = (zs.drop x).take (k + 1) := by
    have e : (zs.drop x)[k]?.getD 0 = zs[x + k]?.getD 0 := by simp
    rw [upto_split (zs.drop x) k 10 hall (by omega) (by simp; omega), drop_here (zs.drop x) k (by simp; omega), take_next (zs.drop x) k (by simp; omega), e]
    obtain ⟨d, hd⟩ : ∃ d, 10 - k = d + 1 := ⟨9 - k, by omega⟩
    rw [hd, upto, if_pos hlast]
  have hb := drop_byte hz x
  obtain ⟨xs, hxs⟩ : ∃ xs, xs = (zs.drop x).take (k + 1) := ⟨_, rfl⟩
  rw [← hxs] at hu ⊢
  split
  · next h =>
    refine gv_intro hz (Nat.mod_lt _ (by omega)) ?_
    rw [h, ← hu]
    exact upto_prefix 10 _
  · next h =>
    cases hg : gv zs (x : Int) with
    | none => rfl
    | some v =>
      obtain ⟨_, _, hv, t, ht⟩ := gv_some hz hg
      rw [Int.toNat_natCast] at ht
      rw [← ht, upto_vb v 10 t (vb_len10 hv)] at hu
      rw [← hu, num_vb, Nat.mod_eq_of_lt hv] at h
      exact absurd rfl h

/-- No last group comes: nothing is read. -/
theorem gv_open {zs : List Int} (x k : Nat) (hk : k ≤ 10) (hl : x + k ≤ zs.length) (he : k = 10 ∨ x + k = zs.length) (hall : ∀ z ∈ (zs.drop x).take k, 128 ≤ z) : gv zs (x : Int) = none := by
  unfold gv
  split
  · rfl
  · next hx =>
    rw [Int.toNat_natCast]
    have hu : upto 10 (zs.drop x) = (zs.drop x).take k := by
      rw [upto_split (zs.drop x) k 10 hall hk (by simp; omega)]
      rcases he with rfl | he
      · simp [upto]
      · have e : (zs.drop x).drop k = [] := by rw [List.drop_drop]; exact List.drop_eq_nil_of_le (by omega)
        rw [e]
        cases h : 10 - k <;> simp [upto]
    unfold getv
    rw [hu, if_neg]
    rintro ⟨hne, hm⟩
    have hlast : 128 ≤ last ((zs.drop x).take k) := by
      refine hall _ ?_
      unfold last
      rw [List.getLast?_eq_some_getLast hne]
      exact List.getLast_mem hne
    unfold mayEnd at hm
    rw [if_pos hlast] at hm
    cases hm

end Go.Proofs.YtnimfkcnkkjlkaaGreat

/-
  What the document's own Get does, by division.
-/
namespace Go.Proofs.YtnimfkcnkkjlkaaGreat
open Go.RowKit
set_option maxRecDepth 100000

theorem num_drop (xs : List Int) (j : Nat) (h : j < xs.length) : num (xs.drop j) = ((xs[j]?.getD 0) % 128).toNat + 128 * num (xs.drop (j + 1)) := by
  rw [drop_here xs j h, num]

theorem ref_bad (a : Option Addr) (len cap : Nat) (x : Int) (hx : x < 0 ∨ (len : Int) ≤ x) (w : World) :
    Calls Tryz.prog 153 #[.slice a len cap, .int .i64 x] w fun e w' => e = .returned (.tuple #[.int .u64 0, .int .i64 0, .bool false]) ∧ w' = w := by
  go_enter Tryz.func153, Tryz.ntmps153
  by_cases h : x < 0
  · go_wp2
    go_ret3
    exact ⟨rfl, rfl⟩
  · have h2 : (len : Int) ≤ x := by omega
    go_wp2
    go_ret3
    exact ⟨rfl, rfl⟩

set_option maxRecDepth 100000 in
set_option maxHeartbeats 2000000 in
theorem ref_good (b off len cap x : Nat) (zs : List Int) (w : World) (hB : Bs w (some ⟨b, off, none⟩) len cap zs) (hx : x < len) :
    Calls Tryz.prog 153 #[.slice (some ⟨b, off, none⟩) len cap, .int .i64 (x : Int)] w fun e W' => e = .returned (.tuple #[.int .u64 (gN zs x : Int), .int .i64 (gE zs x : Int), .bool (gB zs x)]) ∧ Below w.heap.size w W' := by
  have hle := hB.le
  have hre := hB.reach
  have hll := hB.len
  obtain ⟨b', off', ha, hcs⟩ := hB.lies (by omega)
  simp only [Option.some.injEq, Addr.mk.injEq, and_true] at ha
  obtain ⟨rfl, rfl⟩ := ha
  have hx1 : ¬ (x : Int) < 0 := by omega
  have hx2 : ¬ (len : Int) ≤ (x : Int) := by omega
  have HB := hide hB
  clear hB
  go_enter Tryz.func153, Tryz.ntmps153
  go_wp2_with fail
  go_loopw [7] (fun i wr => ∃ k : Nat, k ≤ 10 ∧ x + k ≤ len ∧ i = .int .i64 ((x : Int) + k) ∧ Hid (∀ z ∈ (zs.drop x).take k, 128 ≤ z) ∧ wr = w)
    (fun i _ => len - (intOf i).toNat)
  case atStart => exact ⟨0, by omega, by omega, by simp, hide (by simp), rfl⟩
  case round =>
    obtain ⟨k, hk, hkl, rfl, hall, rfl⟩ := hrel
    have none_case : (k = 10 ∨ x + k = len) → Hid (gN zs x = 0 ∧ gE zs x = 0 ∧ gB zs x = false) := by
      intro h
      have hg := gv_open x k hk (by omega) (by omega) hall.out
      refine hide ?_
      unfold gN gE gB
      rw [hg]
      exact ⟨rfl, rfl, rfl⟩
    by_cases h1 : x + k = len
    · have hn := none_case (.inr h1)
      clear none_case
      have f1 : ¬ ((x : Int) + k < (len : Int)) := by omega
      go_wp2_with fail
      go_ret3
      exact ⟨by rw [hn.out.1, hn.out.2.1, hn.out.2.2]; rfl, Below.refl _ _⟩
    · by_cases h2 : k = 10
      · have hn := none_case (.inl h2)
        clear none_case
        have f1 : (x : Int) + k < (len : Int) := by omega
        subst h2
        go_wp2_with fail
        go_ret3
        exact ⟨by rw [hn.out.1, hn.out.2.1, hn.out.2.2]; rfl, Below.refl _ _⟩
      · clear none_case
        have f1 : (x : Int) + k < (len : Int) := by omega
        have f2 : (k : Int) < 10 := by omega
        have hc : wr.cell? ⟨b, off + (x + k), none⟩ = some (.int .u8 (zs[x + k]?.getD 0)) := by
          have := hcs (x + k) (by omega)
          simpa using this
        have htk := hide (take_next (zs.drop x) k (by simp; omega))
        have hzk : (zs.drop x)[k]?.getD 0 = zs[x + k]?.getD 0 := by simp
        rw [hzk] at htk
        clear hzk
        obtain ⟨z, hz⟩ : ∃ z, z = zs[x + k]?.getD 0 := ⟨_, rfl⟩
        rw [← hz] at hc htk
        have HZ := hide hz
        clear hz
        by_cases h3 : 128 ≤ z
        · go_wp2_with fail
          refine ⟨⟨k + 1, by omega, by omega, by simp; omega, hide ?_, trivial⟩, by simp [intOf]; omega⟩
          rw [htk.out]
          intro y hy
          rcases List.mem_append.1 hy with h | h
          · exact hall.out y h
          · simp at h; omega
        · have hv' := hide (gv_at HB.out.byte x k (by omega) (by omega) hall.out (by rw [← HZ.out]; omega))
          obtain ⟨xs, hxs⟩ : ∃ xs, xs = (zs.drop x).take (k + 1) := ⟨_, rfl⟩
          have hxl : xs.length = k + 1 := by rw [hxs]; simp; omega
          have hxc : ∀ j, j ≤ k → xs[j]?.getD 0 = zs[x + j]?.getD 0 := by
            intro j hj
            rw [hxs, List.getElem?_take, if_pos (by omega), List.getElem?_drop]
          have HXS := hide hxs
          rw [← hxs] at hv'
          have HXC := hide hxc
          clear hxs hxc hall htk HZ
          obtain ⟨wl, hwl⟩ : ∃ wl : World, wl = wr := ⟨_, rfl⟩
          subst hwl
          go_wp2_with fail
          go_loopw [8, 9] (fun m i wr => ∃ j : Nat, j ≤ k + 1 ∧ i = .int .i64 ((x : Int) + j - 1) ∧ m = .int .u64 ((num (xs.drop j) % 18446744073709551616 : Nat) : Int) ∧ wr = wl)
            (fun _ i _ => (intOf i + 1 - x).toNat)
          case atStart => exact ⟨k + 1, by omega, by simp; omega, by rw [List.drop_eq_nil_of_le (by omega)]; simp [num], rfl⟩
          case round =>
            obtain ⟨j, hj, rfl, rfl, rfl⟩ := hrel
            by_cases hj0 : j = 0
            · subst hj0
              rw [List.drop_zero]
              obtain ⟨v, hvd⟩ : ∃ v, v = num xs % 18446744073709551616 := ⟨_, rfl⟩
              have hv2 : v < 18446744073709551616 := by omega
              rw [← hvd] at hv' ⊢
              clear hvd
              have RB := hide (fun w => refBytes_any v hv2 w)
              have BX : Hid (Bs wr (some ⟨b, off + x, none⟩) (x + k + 1 - x) (cap - x) xs) := by
                have h := (HB.out.drop x (by omega)).head (k + 1) (by omega)
                rw [← HXS.out] at h
                rw [show x + k + 1 - x = k + 1 from by omega]
                exact hide h
              have D0 : Below wr.heap.size wr wr.drew := (Below.refl _ _).drew
              have fx : (x : Int) ≤ (x : Int) + k + 1 := by omega
              have fc : (x : Int) + k + 1 ≤ (cap : Int) := by omega
              have fn : x < cap := by omega
              have fne : ¬ cap = x := by omega
              have hwr : IntKind.i64.wrap ((x : Int) + k + 1) = (x : Int) + k + 1 := by rw [IntKind.wrap_i64]; omega
              have fto : ((x : Int) + k + 1).toNat = x + k + 1 := by omega
              by_cases hq : vb v = xs
              · rw [if_pos hq] at hv'
                have hlen : (vb v).length = k + 1 := by rw [hq, hxl]
                rw [hlen] at RB
                have HQ := hide hq
                have HLN := hide hlen
                clear hq hlen
                go_wp2_with fail
                go_region_with (first
                  | (go_at_call 107; refine (RB.out _).mono ?_; rintro e w1 ⟨g1, d1, rfl, ho1, hb1⟩; have B1 := hide (own_bs ho1 (vb_byte v)); have c1 : Below wr.heap.size wr w1 := D0.trans hb1; clear ho1 hb1)
                  | (go_at_call 11; refine (same_true HQ.out B1.out (BX.out.keep c1)).mono ?_; rintro e w2 ⟨rfl, rfl⟩))
                all_goals go_wp2_with fail
                all_goals go_ret3
                all_goals
                  have eN : gN zs (x : Int) = v := by unfold gN; rw [hv'.out]; rfl
                  have eE : ((gE zs (x : Int) : Nat) : Int) = (x : Int) + k + 1 := by unfold gE; rw [hv'.out]; simp only [HLN.out]; omega
                  have eB : gB zs (x : Int) = true := by unfold gB; rw [hv'.out]; rfl
                  rw [eN, eE, eB]
                  exact ⟨rfl, c1⟩
              · rw [if_neg hq] at hv'
                have HSM : Hid (∀ w1 g1 d1 b2 n2 c2, Bs w1 (some ⟨g1, 0, none⟩) (vb v).length d1 (vb v) → Bs w1 b2 n2 c2 xs → Calls Tryz.prog 11 #[.slice (some ⟨g1, 0, none⟩) (vb v).length d1, .slice b2 n2 c2] w1 fun e w' => e = .returned (.bool false) ∧ w' = w1) := by
                  refine hide (fun w1 g1 d1 b2 n2 c2 h1 h2 => ?_)
                  have h := same_any _ _ _ _ _ _ _ _ w1 h1 h2
                  rw [decide_eq_false hq] at h
                  exact h
                obtain ⟨m, hm⟩ : ∃ m, m = (vb v).length := ⟨_, rfl⟩
                rw [← hm] at RB HSM
                clear hq hm
                go_wp2_with fail
                go_region_with (first
                  | (go_at_call 107; refine (RB.out _).mono ?_; rintro e w1 ⟨g1, d1, rfl, ho1, hb1⟩; have B1 := hide (own_bs ho1 (vb_byte v)); have c1 : Below wr.heap.size wr w1 := D0.trans hb1; clear ho1 hb1)
                  | (go_at_call 11; refine (HSM.out _ _ _ _ _ _ B1.out (BX.out.keep c1)).mono ?_; rintro e w2 ⟨rfl, rfl⟩))
                all_goals go_wp2_with fail
                all_goals go_ret3
                all_goals
                  have eN : gN zs (x : Int) = 0 := by unfold gN; rw [hv'.out]; rfl
                  have eE : gE zs (x : Int) = 0 := by unfold gE; rw [hv'.out]
                  have eB : gB zs (x : Int) = false := by unfold gB; rw [hv'.out]; rfl
                  rw [eN, eE, eB]
                  exact ⟨rfl, c1⟩
            · obtain ⟨i, rfl⟩ : ∃ i, j = i + 1 := ⟨j - 1, by omega⟩
              have hc : wr.cell? ⟨b, off + (x + i), none⟩ = some (.int .u8 (zs[x + i]?.getD 0)) := by
                have := hcs (x + i) (by omega)
                simpa using this
              have hst := num_drop xs i (by omega)
              rw [HXC.out i (by omega)] at hst
              have hyb := getD_byte HB.out.byte (x + i)
              obtain ⟨y, hy⟩ : ∃ y, y = zs[x + i]?.getD 0 := ⟨_, rfl⟩
              rw [← hy] at hc hst hyb
              clear hy
              obtain ⟨M, hM⟩ : ∃ M, M = num (xs.drop (i + 1)) := ⟨_, rfl⟩
              rw [← hM] at hst ⊢
              have HST := hide hst
              clear hst hM
              have ei : (x : Int) + ((i + 1 : Nat) : Int) - 1 = (x : Int) + i := by omega
              rw [ei]
              have fi : ¬ ((x : Int) + i < (x : Int)) := by omega
              have fl : (x : Int) + i < (len : Int) := by omega
              obtain ⟨N, hN⟩ : ∃ N, N = M % 18446744073709551616 := ⟨_, rfl⟩
              rw [← hN]
              have hN2 : N < 18446744073709551616 := by omega
              have HN := hide hN
              clear hN
              go_wp2_with fail
              refine ⟨⟨i, by omega, rfl, ?_, trivial⟩, by simp [intOf]; omega⟩
              rw [IntKind.wrap_u64, IntKind.wrap_u64, HST.out]
              have h := HN.out
              have e : ((N : Int) * 128 % 18446744073709551616 + y % 128) % 18446744073709551616 = (((y % 128).toNat + 128 * M) % 18446744073709551616 : Nat) := by omega
              rw [e]

theorem refGet_val (a : Option Addr) (len cap : Nat) (zs : List Int) (x : Int) (w : World) (hB : Bs w a len cap zs) :
    Calls Tryz.prog 153 #[.slice a len cap, .int .i64 x] w fun e W' => e = .returned (.tuple #[.int .u64 (gN zs x : Int), .int .i64 (gE zs x : Int), .bool (gB zs x)]) ∧ Below w.heap.size w W' := by
  by_cases h : x < 0 ∨ (len : Int) ≤ x
  · have hg : gv zs x = none := by unfold gv; rw [hB.len, if_pos h]
    unfold gN gE gB
    rw [hg]
    refine (ref_bad a len cap x h w).mono ?_
    rintro e w' ⟨rfl, rfl⟩
    exact ⟨rfl, Below.refl _ _⟩
  · obtain ⟨y, rfl⟩ : ∃ y : Nat, x = (y : Int) := ⟨x.toNat, by omega⟩
    obtain ⟨b, off, rfl, _⟩ := hB.lies (by omega)
    exact ref_good b off len cap y zs w hB (by omega)

/-- Where nothing is read, a number with a sign is 0 too. -/
theorem gN_none {zs : List Int} {x : Int} (h : gB zs x = false) : gN zs x = 0 ∧ gE zs x = 0 := by
  unfold gB at h
  unfold gN gE
  cases hg : gv zs x with
  | none => exact ⟨rfl, rfl⟩
  | some v => rw [hg] at h; cases h

set_option maxHeartbeats 400000 in
theorem refGetInt_val (a : Option Addr) (len cap : Nat) (zs : List Int) (x : Int) (w : World) (hB : Bs w a len cap zs) :
    Calls Tryz.prog 132 #[.slice a len cap, .int .i64 x] w fun e W' => e = .returned (.tuple #[.int .i64 (unfo (gN zs x)), .int .i64 (gE zs x : Int), .bool (gB zs x)]) ∧ Below w.heap.size w W' := by
  have hlt := gN_lt hB.byte x
  have H := hide (refGet_val a len cap zs x w hB)
  have hno := hide (gN_none (zs := zs) (x := x))
  clear hB
  obtain ⟨N, hN⟩ : ∃ N, N = gN zs x := ⟨_, rfl⟩
  obtain ⟨E, hE⟩ : ∃ E, E = gE zs x := ⟨_, rfl⟩
  obtain ⟨t, ht⟩ : ∃ t, t = gB zs x := ⟨_, rfl⟩
  rw [← hN, ← hE, ← ht] at H hno ⊢
  rw [← hN] at hlt
  clear hN hE ht
  go_enter Tryz.func132, Tryz.ntmps132
  cases t
  · obtain ⟨rfl, rfl⟩ := hno.out rfl
    go_wp2_with fail
    refine H.out.mono ?_
    rintro e w1 ⟨rfl, hb1⟩
    go_wp2_with fail
    go_ret3
    exact ⟨rfl, hb1⟩
  · by_cases h : N % 2 = 1
    · have e : unfo N = -((N / 2 : Nat) : Int) - 1 := by unfold unfo; rw [if_pos h]
      have HE := hide e
      have h' : (N : Int) % 2 = 1 := by omega
      clear e
      go_wp2_with fail
      refine H.out.mono ?_
      rintro e w1 ⟨rfl, hb1⟩
      go_wp2_with fail
      go_ret3
      rw [HE.out]
      have hd : ((N / 2 : Nat) : Int) = (N : Int) / 2 := by omega
      rw [hd]
      exact ⟨rfl, hb1⟩
    · have e : unfo N = ((N / 2 : Nat) : Int) := by unfold unfo; rw [if_neg h]
      have HE := hide e
      have h' : ¬ (N : Int) % 2 = 1 := by omega
      clear e
      go_wp2_with fail
      refine H.out.mono ?_
      rintro e w1 ⟨rfl, hb1⟩
      go_wp2_with fail
      go_ret3
      rw [HE.out]
      have hd : ((N / 2 : Nat) : Int) = (N : Int) / 2 := by omega
      rw [hd]
      exact ⟨rfl, hb1⟩

end Go.Proofs.YtnimfkcnkkjlkaaGreat

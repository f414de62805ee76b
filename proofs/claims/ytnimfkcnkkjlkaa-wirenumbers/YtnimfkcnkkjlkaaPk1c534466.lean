/-
  What the document's own answers of this layer do: Put, PutInt, Get, GetInt by division.
-/
import Derived.Test.YtnimfkcnkkjlkaaPk74617d44
import Derived.Test.YtnimfkcnkkjlkaaPk951d67dd
import Derived.Deep.RegionWith
namespace Go.Proofs.Ytnimfkcnkkjlkaa
open Go.RowKit
set_option maxRecDepth 100000

theorem own_keep {w w' : World} {base n : Nat} {e : TypeId} {v : Value} {xs : List Value} (h : w.ownsRow base e 1 v n xs) (hb : Below w.heap.size w w') : w'.ownsRow base e 1 v n xs := by
  obtain ⟨a, b, c, d, f⟩ := hb
  exact h.kept (row := none) ⟨a, b, c, d, fun k hk _ => f k hk⟩ (by cases v.ownBlock <;> simp)

set_option maxHeartbeats 400000 in
theorem signed_any (n : Int) (h1 : -9223372036854775808 ≤ n) (h2 : n ≤ 9223372036854775807) (w : World) :
    Calls Try.prog 100 #[.int .i64 n] w fun e w' => e = .returned (.int .u64 (fo n : Int)) ∧ w' = w := by
  go_enter Try.func100, Try.ntmps100
  by_cases h : n < 0
  · have e : (fo n : Int) = -2 * n - 1 := by unfold fo; rw [if_pos h]; omega
    have HE := hide e
    clear e
    go_wp2
    go_ret
    refine ⟨congrArg (fun x => Ending.returned (.int .u64 x)) ?_, rfl⟩
    rw [HE.out]
    omega
  · have e : (fo n : Int) = 2 * n := by unfold fo; rw [if_neg h]; omega
    have HE := hide e
    clear e
    go_wp2
    go_ret
    refine ⟨congrArg (fun x => Ending.returned (.int .u64 x)) ?_, rfl⟩
    rw [HE.out]
    omega

set_option maxHeartbeats 400000 in
theorem refPut_any (a : Option Addr) (len cap : Nat) (zs : List Int) (v : Nat) (hv : v < 18446744073709551616) (w : World) (hB : Bs w a len cap zs) (hlen : len ≤ 140737488355318) :
    Calls Try.prog 99 #[.slice a len cap, .int .u64 (v : Int)] w fun e W' => ∃ g d, e = .returned (.slice (some ⟨g, 0, none⟩) (len + (vb v).length) d) ∧
      Bs W' (some ⟨g, 0, none⟩) (len + (vb v).length) d (zs ++ vb v) ∧ Below w.heap.size w W' := by
  obtain ⟨i0, hi, hz0, hz1, hz2⟩ := info_parts info5
  have h10 := vb_len10 hv
  have hp := vb_pos v
  have RB := hide (fun w => refBytes_any v hv w)
  obtain ⟨k, hk⟩ : ∃ k, k = (vb v).length := ⟨_, rfl⟩
  rw [← hk] at h10 hp RB ⊢
  clear hk
  go_enter Try.func99, Try.ntmps99
  go_wp2_with fail
  refine (copy_any _ _ _ zs _ hB (by omega)).mono ?_
  rintro e w1 ⟨c1, d1, rfl, ho1, hb1⟩
  have HO := hide ho1
  clear ho1
  go_wp2_with fail
  refine (RB.out _).mono ?_
  rintro e w2 ⟨g2, d2, rfl, ho2, hb2⟩
  have c2 : Below w.heap.size w w2 := hb1.trans (hb2.mono hb1.size)
  have B2 := own_bs ho2 (vb_byte v)
  clear ho2
  have HO2 : Hid (w2.ownsRow w.heap.size 5 1 (.slice c1 len d1) len (U zs)) := hide (own_keep HO.out hb2)
  go_wp2_with (at_builtin; refine wpList_append_bs rfl (.tmp 6) (.tmp 8) 22 rfl w.heap.size 5 i0 Try.underlying22 hi hz0 hz1 hz2 _ len _ rfl HO2.out _ k d2 (vb v) rfl B2 (by omega) (by omega) c2.size ?_; intro g3 d3 w3 ho3 hgr3)
  go_ret
  rw [← U_append] at ho3
  exact ⟨g3, d3, rfl, own_bs ho3 (app_byte hB.byte (vb_byte v)), c2.grown hgr3 c2.size (fun _ hk => own_ge HO2.out hk)⟩

set_option maxHeartbeats 400000 in
theorem refPutInt_any (a : Option Addr) (len cap : Nat) (zs : List Int) (n : Int) (h1 : -9223372036854775808 ≤ n) (h2 : n ≤ 9223372036854775807) (w : World) (hB : Bs w a len cap zs) (hlen : len ≤ 140737488355318) :
    Calls Try.prog 79 #[.slice a len cap, .int .i64 n] w fun e W' => ∃ g d, e = .returned (.slice (some ⟨g, 0, none⟩) (len + (vb (fo n)).length) d) ∧
      Bs W' (some ⟨g, 0, none⟩) (len + (vb (fo n)).length) d (zs ++ vb (fo n)) ∧ Below w.heap.size w W' := by
  go_enter Try.func79, Try.ntmps79
  go_wp2_with (first
    | (go_at_call 100; refine (signed_any n h1 h2 _).mono ?_; rintro e w1 ⟨rfl, rfl⟩)
    | (go_at_call 99; refine (refPut_any _ _ _ zs _ (fo_lt h1 h2) _ hB hlen).mono ?_; rintro e w2 ⟨g, d, rfl, hB2, hb⟩))
  go_ret
  exact ⟨g, d, rfl, hB2, hb⟩

/-- The walk ends at a last group: what is read. -/
theorem gv_at {zs : List Int} (hz : ∀ z ∈ zs, 0 ≤ z ∧ z ≤ 255) (x k : Nat) (hk : k < 10) (hl : x + k < zs.length) (hall : ∀ z ∈ (zs.drop x).take k, 128 ≤ z) (hlast : zs[x + k]?.getD 0 < 128) :
    gv zs (x : Int) = if vb (num ((zs.drop x).take (k + 1)) % 18446744073709551616) = (zs.drop x).take (k + 1) then some (num ((zs.drop x).take (k + 1)) % 18446744073709551616) else none := by
  have hu : upto 10 (zs.drop x) = (zs.drop x).take (k + 1) := by
    have e : (zs.drop x)[k]?.getD 0 = zs[x + k]?.getD 0 := by simp
    rw [upto_split (zs.drop x) k 10 hall (by omega) (by simp; omega), drop_here (zs.drop x) k (by simp; omega), take_next (zs.drop x) k (by simp; omega), e]
    obtain ⟨d, hd⟩ : ∃ d, 10 - k = d + 1 := ⟨9 - k, by omega⟩
    rw [hd, upto, if_pos hlast]
  have hb := drop_byte hz x
  obtain ⟨xs, hxs⟩ : ∃ xs, xs = (zs.drop x).take (k + 1) := ⟨_, rfl⟩
  rw [← hxs] at hu ⊢
  split
  · next h =>
    refine gv_intro hz (Nat.mod_lt _ (by omega)) ?_
    rw [h, ← hu]
    exact upto_prefix 10 _
  · next h =>
    cases hg : gv zs (x : Int) with
    | none => rfl
    | some v =>
      obtain ⟨_, _, hv, t, ht⟩ := gv_some hz hg
      rw [Int.toNat_natCast] at ht
      rw [← ht, upto_vb v 10 t (vb_len10 hv)] at hu
      rw [← hu, num_vb, Nat.mod_eq_of_lt hv] at h
      exact absurd rfl h

/-- No last group comes: nothing is read. -/
theorem gv_open {zs : List Int} (x k : Nat) (hk : k ≤ 10) (hl : x + k ≤ zs.length) (he : k = 10 ∨ x + k = zs.length) (hall : ∀ z ∈ (zs.drop x).take k, 128 ≤ z) : gv zs (x : Int) = none := by
  unfold gv
  split
  · rfl
  · next hx =>
    rw [Int.toNat_natCast]
    have hu : upto 10 (zs.drop x) = (zs.drop x).take k := by
      rw [upto_split (zs.drop x) k 10 hall hk (by simp; omega)]
      rcases he with rfl | he
      · simp [upto]
      · have e : (zs.drop x).drop k = [] := by rw [List.drop_drop]; exact List.drop_eq_nil_of_le (by omega)
        rw [e]
        cases h : 10 - k <;> simp [upto]
    unfold getv
    rw [hu, if_neg]
    rintro ⟨hne, hm⟩
    have hlast : 128 ≤ last ((zs.drop x).take k) := by
      refine hall _ ?_
      unfold last
      rw [List.getLast?_eq_some_getLast hne]
      exact List.getLast_mem hne
    unfold mayEnd at hm
    rw [if_pos hlast] at hm
    cases hm

end Go.Proofs.Ytnimfkcnkkjlkaa

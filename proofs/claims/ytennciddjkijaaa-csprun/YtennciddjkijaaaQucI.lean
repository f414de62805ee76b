/-
  A queue of int: Of, List, At.
-/
import Derived.Test.YtennciddjkijaaaQubI
import Derived.Deep.RegionLaw
namespace Go.Proofs.Ytennciddjkijaaa.QI
open Go.RowKit
set_option maxRecDepth 100000

theorem cell_one_new (w : World) (x : Value) (t : TypeId) : ∀ j u, [x][j]? = some u → (w.alloc (.cells #[x] t)).cell? ((⟨w.heap.size, 0, none⟩ : Addr).add j) = some u := by
  intro j u hj
  rw [Addr.add_mid, cell_of_row _ _ _ _ _ _ (heap_alloc_new w _)]
  simpa using hj

set_option maxHeartbeats 1000000 in
theorem of_any {w : World} {a : Option Addr} {n cap : Nat} {xs : List Int} (hA : Ls w a n cap xs) (hab : ∀ ad, a = some ad → ad.block < w.heap.size) (hn : n < Mx) :
    Calls Try.prog 63 #[.slice a n cap] w fun e w' => e = .returned (.pointer (some ⟨w.heap.size, 0, none⟩)) ∧ Qu w' w.heap.size (w.heap.size + 1) (2 * n + 1) 0 xs ∧ Below w.heap.size w w' := by
  obtain ⟨R, hR⟩ : ∃ R, Hid (R = w.heap.size) := ⟨_, hide rfl⟩
  obtain ⟨X, hX⟩ : ∃ X, Hid (X = w.alloc (.cells #[.pointer none, .slice none 0 0, .int .i64 0, .int .i64 0] (97 : TypeId))) := ⟨_, hide rfl⟩
  have hXR : X.heap[R]? = some (.cells #[.pointer none, .slice none 0 0, .int .i64 0, .int .i64 0] (97 : TypeId) (0, 0)) := by rw [hX.out, hR.out]; exact heap_alloc_new w _
  have x0 : X.cell? ⟨R, 0, none⟩ = some (.pointer none) := cell_of_row X R 0 _ _ _ hXR
  have f0 := frozen_of_row X R 0 _ _ hXR
  obtain ⟨Y, hY⟩ : ∃ Y, Hid (Y = X.setCell ⟨R, 0, none⟩ (.pointer (some ⟨R, 0, none⟩))) := ⟨_, hide rfl⟩
  have hYR : Y.heap[R]? = some (.cells #[.pointer (some ⟨R, 0, none⟩), .slice none 0 0, .int .i64 0, .int .i64 0] (97 : TypeId) (0, 0)) := by
    rw [hY.out, heap_setCell_same X R 0 _ (97 : TypeId) _ hXR]
    rfl
  have bX : Below w.heap.size w X := by rw [hX.out]; exact (Below.refl _ w).alloc (Nat.le_refl _) _
  have bY : Below w.heap.size w Y := by rw [hY.out]; exact bX.setCell (by simp [hR.out]) _
  have sY : Y.heap.size = w.heap.size + 1 := by rw [hY.out, hX.out]; simp [World.setCell]
  have C := lay_any hYR (hA.keep bY) (fun ad h e => by have := hab ad h; have := hR.out; omega) hn
  rw [sY] at C
  have FIN : Hid (∀ Z, Tb (fun k => k = R) Y Z → Below w.heap.size w Z) := hide (fun Z t => bY.trans (t.below (fun i h => by have := hR.out; omega) (by omega)))
  rw [← hR.out]
  have HRW : Hid (w.heap.size = R) := hide hR.out.symm
  have HC : Hid (Calls Try.prog 76 #[.pointer (some ⟨R, 0, none⟩), .slice a n cap] Y fun e w' => e = .returned (.tuple #[]) ∧ Qu w' R (R + 1) (2 * n + 1) 0 xs ∧ Tb (fun k => k = R) Y w') := hide (by rw [hR.out] at C ⊢; exact C)
  have HF : Hid (∀ Z, Tb (fun k => k = R) Y Z → Below R w Z) := hide (by rw [hR.out] at FIN ⊢; exact FIN.out)
  clear C FIN bX bY sY hYR hXR hA hab
  go_enter Try.func63, Try.ntmps63
  go_wp2_with (first | (rw [← hX.out, HRW.out]) | (go_at_call 76; rw [← hY.out]; refine HC.out.mono ?_; rintro e Z ⟨rfl, q, t⟩))
  go_ret
  exact ⟨rfl, q, HF.out Z t⟩

set_option maxHeartbeats 2000000 in
theorem list_yes {w : World} {R G N h : Nat} {xs : List Int} (q : Qu w R G N h xs) :
    Calls Try.prog 72 #[.pointer (some ⟨R, 0, none⟩)] w fun e w' => ∃ a cap, e = .returned (.slice a xs.length cap) ∧ w'.ownsRow w.heap.size 3 1 (.slice a xs.length cap) xs.length (W xs) ∧ Below w.heap.size w w' := by
  obtain ⟨i0, hi, hz0, hz1, hz2⟩ := info_parts infoE
  have C := len_yes q
  have hfew := q.few
  unfold Mx at hfew
  obtain ⟨n, hn⟩ : ∃ n, Hid (n = xs.length) := ⟨_, hide rfl⟩
  rw [← hn.out] at C hfew ⊢
  have HQ := hide q
  clear q
  go_enter Try.func72, Try.ntmps72
  go_wp2_with fail
  refine C.mono ?_
  rintro e w1 ⟨rfl, hw1⟩
  subst w1
  go_wp2_with fail
  go_loopw [3, 7] (fun v i wr => ∃ k : Nat, k ≤ n ∧ i = .int .i64 k ∧ Hid (wr.ownsRow w.heap.size 3 1 v k (W (xs.take k))) ∧ Below w.heap.size w wr) (fun _ i _ => n - (intOf i).toNat)
  case atStart => exact ⟨0, Nat.zero_le _, rfl, hide ⟨rfl, .inl ⟨rfl, rfl⟩⟩, Below.refl _ _⟩
  case round =>
    obtain ⟨k, hk, rfl, hown, hb⟩ := hrel
    by_cases hlt : k < n
    · have qr := HQ.out.below hb
      have hhd := qr.head
      have hsm := qr.small
      unfold Mx at hsm
      have hle := qr.le
      rw [← hn.out] at hle
      have hkx : k < xs.length := by rw [← hn.out]; exact hlt
      have hKN : (h + k) % N < N := Nat.mod_lt _ (by omega)
      have c1 : wr.cell? ⟨R, 1, none⟩ = some (.slice (some ⟨G, 0, none⟩) N N) := qr.c 1
      have cg := qr.g hkx
      have hsn : Hid (W (xs.take (k + 1)) = W (xs.take k) ++ [(Value.int .i64) (xs.getD k 0)]) := hide (by
        rw [List.take_succ_eq_append_getElem hkx, W_append]
        simp [W, List.getD, List.getElem?_eq_getElem hkx])
      generalize xs.getD k 0 = x at cg hsn
      have hcall : ∀ V, Below wr.heap.size wr V → Calls Try.prog 81 #[.pointer (some ⟨R, 0, none⟩), .int .i64 k] V fun e X => e = .returned (.int .i64 ((h + k) % N : Nat)) ∧ X.cell? ⟨R, 1, none⟩ = some (.slice (some ⟨G, 0, none⟩) N N) ∧ X.cell? ⟨G, (h + k) % N, none⟩ = some ((Value.int .i64) x) ∧
          Hid ((X.alloc (.cells #[(Value.int .i64) x] 3)).ownsRow w.heap.size 3 1 u3 k (W (xs.take k))) ∧ Hid (Below wr.heap.size wr X) := by
        intro V hV
        refine (spot_any (qr.below hV) k (by omega)).mono ?_
        rintro e X ⟨rfl, m, rfl⟩
        have hX := below_drewN hV m
        exact ⟨rfl, (qr.below hX).c 1, (cg ▸ hX.cell (cell_lt cg)), hide ((row_tb hown.out (Tb.of_fresh (S := fun _ => False) hX) (fun _ _ h => h)).alloc _), hide hX⟩
      have FB : Hid (∀ X w6, Below wr.heap.size wr X → (X.alloc (.cells #[(Value.int .i64) x] 3)).grownBy w6 u3.ownBlock → Below w.heap.size w w6) := hide (fun X w6 h1 h2 => by
        have h3 := h1.size
        have h4 := hb.size
        exact ((hb.trans (h1.mono h4)).alloc (by omega) _).grown h2 (by simp; omega) (fun y hy => (hown.out.lt y hy).1))
      have HC := hide hcall
      have hwl := hide hb.size
      have HQr := hide qr
      obtain ⟨K, hK⟩ : ∃ K, Hid (K = (h + k) % N) := ⟨_, hide rfl⟩
      rw [← hK.out] at HC hKN cg
      clear hcall qr hkx
      go_wp2_with fail
      go_region_law (first
        | (refine step_append_lies _ (by rfl) (.tmp 10) (.tmp 20) 34 (by rfl) w.heap.size 3 i0 ((Value.int .i64) 0) 1 8 Try.underlying34 hi hz0 hz1 hz2 rfl (by omega) u3 k _ (by simp [Act.eval]) ho5.out ⟨_, 0, none⟩ 1 1 [(Value.int .i64) x] (by simp [Act.eval]) rfl (cell_one_new _ _ _) (by simp [Value.oneCell']) (by omega) (by unfold maxLen; omega) (by omega) (by have := hwl.out; have := hb5.out.size; simp; omega) _ rfl ?_; intro g6 d6 w6 hown6 hgrow6 _ _)
        | (go_simp; refine (HC.out _ ?_).mono ?_; exact (Below.refl _ wr).drew; rintro e X ⟨rfl, cc5, cd5, ho5, hb5⟩))
      all_goals
        have HO6 := hide hown6
        have HB6 := hide (FB.out X w6 hb5.out hgrow6)
        clear hown6 hgrow6
        go_wp2_with fail
        go_roundw
        case rel => exact ⟨k + 1, by omega, by go_num, hide (by rw [hsn.out]; exact HO6.out), HB6.out⟩
        case measure => simp [intOf]; omega
    · obtain rfl : k = n := by omega
      obtain ⟨va, vc, rfl⟩ := row_val hown.out
      have HO := hide hown.out
      clear hown
      go_wp2_with fail
      go_ret
      rw [List.take_of_length_le (by rw [hn.out]; exact Nat.le_refl _)] at HO
      exact ⟨_, _, rfl, HO.out, hb⟩

/-- What stands at a place. -/
def atV (xs : List Int) (i : Int) : Int × Bool := if 0 ≤ i ∧ i < xs.length then (xs.getD i.toNat 0, true) else (0, false)

set_option maxHeartbeats 1000000 in
theorem at_any {w : World} {R G N h : Nat} {xs : List Int} (q : Qu w R G N h xs) (i : Int) :
    Calls Try.prog 78 #[.pointer (some ⟨R, 0, none⟩), .int .i64 i] w fun e w' => e = .returned (.tuple #[(Value.int .i64) (atV xs i).1, .bool (atV xs i).2]) ∧ ∃ m, w' = w.drewN m := by
  have C := len_yes q
  have hsm := q.small
  have hle := q.le
  have hhd := q.head
  unfold Mx at hsm
  obtain ⟨n, hn⟩ : ∃ n, Hid (n = xs.length) := ⟨_, hide rfl⟩
  by_cases h0 : i < 0
  · have e : atV xs i = (0, false) := if_neg (by omega)
    rw [e]
    clear C e
    go_enter Try.func78, Try.ntmps78
    go_wp2_with fail
    go_ret2
    exact ⟨rfl, 0, rfl⟩
  · by_cases h1 : i < (xs.length : Int)
    · have e : atV xs i = (xs.getD i.toNat 0, true) := if_pos ⟨by omega, h1⟩
      rw [e]
      obtain ⟨k, rfl⟩ : ∃ k : Nat, i = (k : Int) := ⟨i.toNat, by omega⟩
      have hk : k < xs.length := by omega
      have cg := q.g hk
      have c1 : w.cell? ⟨R, 1, none⟩ = some (.slice (some ⟨G, 0, none⟩) N N) := q.c 1
      have hKN : (h + k) % N < N := Nat.mod_lt _ (by omega)
      have HC : Hid (∀ m, Calls Try.prog 81 #[.pointer (some ⟨R, 0, none⟩), .int .i64 k] (w.drewN m) fun e X => e = .returned (.int .i64 ((h + k) % N : Nat)) ∧ ∃ m', X = (w.drewN m).drewN m') := hide (fun m => spot_any (q.drewN m) k (by omega))
      simp only [Int.toNat_natCast]
      generalize xs.getD k 0 = x at cg
      obtain ⟨K, hK⟩ : ∃ K, Hid (K = (h + k) % N) := ⟨_, hide rfl⟩
      rw [← hK.out] at HC hKN cg
      rw [← hn.out] at C h1 hk hle
      clear q e
      go_enter Try.func78, Try.ntmps78
      go_wp2_with fail
      refine C.mono ?_
      rintro e w1 ⟨rfl, hw1⟩
      subst w1
      go_wp2_with fail
      go_quiet (first | (go_at_call 81; exact Calls.quiet_of (HC.out _)))
      go_wp2_with fail
      go_ret2
      exact ⟨rfl, _, rfl⟩
    · have e : atV xs i = (0, false) := if_neg (by omega)
      rw [e]
      rw [← hn.out] at C h1 hle
      clear q e
      go_enter Try.func78, Try.ntmps78
      go_wp2_with fail
      refine C.mono ?_
      rintro e w1 ⟨rfl, hw1⟩
      subst w1
      go_wp2_with fail
      go_ret2
      exact ⟨rfl, 0, rfl⟩

theorem at_none {w : World} {p : Option Addr} (C : Calls Try.prog 95 #[.pointer p] w fun e w' => e = .returned (.bool false) ∧ w' = w) (i : Int) :
    Calls Try.prog 78 #[.pointer p, .int .i64 i] w fun e w' => e = .returned (.tuple #[(Value.int .i64) 0, .bool false]) ∧ w' = w := by
  have CL := len_none C
  clear C
  by_cases h0 : i < 0
  · clear CL
    go_enter Try.func78, Try.ntmps78
    go_wp2_with fail
    go_ret2
    exact ⟨rfl, rfl⟩
  · go_enter Try.func78, Try.ntmps78
    go_wp2_with fail
    refine CL.mono ?_
    rintro e w1 ⟨rfl, hw1⟩
    subst w1
    go_wp2_with fail
    go_ret2
    exact ⟨rfl, rfl⟩

theorem list_none {w : World} {p : Option Addr} (C : Calls Try.prog 95 #[.pointer p] w fun e w' => e = .returned (.bool false) ∧ w' = w) :
    Calls Try.prog 72 #[.pointer p] w fun e w' => e = .returned (.slice none 0 0) ∧ w' = w := by
  have CL := len_none C
  clear C
  go_enter Try.func72, Try.ntmps72
  go_wp2_with fail
  refine CL.mono ?_
  rintro e w1 ⟨rfl, hw1⟩
  subst w1
  go_wp2_with fail
  go_loopw [3, 7] (fun v i wr => v = .slice none 0 0 ∧ i = .int .i64 0 ∧ wr = w) (fun _ _ _ => 0)
  case atStart => exact ⟨rfl, rfl, rfl⟩
  case round =>
    obtain ⟨rfl, rfl, rfl⟩ := hrel
    go_wp2_with fail
    go_ret
    exact ⟨rfl, rfl⟩

end Go.Proofs.Ytennciddjkijaaa.QI

/-
  VarintTells returns true: for any bytes, place and number all calls answer as the document defines, and what is handed in stays.
-/
import Derived.Test.YthhmpfgjeepglaaVrg
import Derived.Test.YthhmpfgjeepglaaLnd
import Derived.Test.YthhmpfgjeepglaaLno
import Derived.Test.YthhmpfgjeepglaaApb
namespace Go.Proofs.Ythhmpfgjeepglaa.varintTells
open Go.RowKit

/-- Three lists in rows of their own lie apart. -/
theorem apart3 (base g1 n1 c1 g2 n2 c2 g3 n3 c3 : Nat) (X1 X2 X3 : List Value) (w : World) (h1 : w.ownsRow base 5 1 (.slice (some ⟨g1, 0, none⟩) n1 c1) n1 X1) (h2 : w.ownsRow base 5 1 (.slice (some ⟨g2, 0, none⟩) n2 c2) n2 X2) (h3 : w.ownsRow base 5 1 (.slice (some ⟨g3, 0, none⟩) n3 c3) n3 X3)
    (d1 : g1 ≠ g2) (d2 : g1 ≠ g3) (d3 : g2 ≠ g3) (m1 : n1 ≤ 140737488355000) (m2 : n2 ≤ 140737488355000) (m3 : n3 ≤ 140737488355000) :
    Calls Try.prog 22 #[.slice (some ⟨w.heap.size, 0, none⟩) 3 3] (w.alloc (.cells #[.slice (some ⟨g1, 0, none⟩) n1 c1, .slice (some ⟨g2, 0, none⟩) n2 c2, .slice (some ⟨g3, 0, none⟩) n3 c3] 23)) fun e w' => e = .returned (.bool true) ∧ Below base w w' := by
  have l1 := own_lt h1
  have l2 := own_lt h2
  have l3 := own_lt h3
  have hb : base ≤ w.heap.size := by omega
  refine (apart_any base w.heap.size 3 (fun k => match k with | 0 => .slice (some ⟨g1, 0, none⟩) n1 c1 | 1 => .slice (some ⟨g2, 0, none⟩) n2 c2 | _ => .slice (some ⟨g3, 0, none⟩) n3 c3) (fun k => match k with | 0 => n1 | 1 => n2 | _ => n3) (fun k => match k with | 0 => X1 | 1 => X2 | _ => X3)
    _ (by decide) ?_ (by simp; omega) (by simp) ?_ ?_ ?_ ?_).mono ?_
  · intro k hk
    match k, hk with
    | 0, _ => exact m1
    | 1, _ => exact m2
    | 2, _ => exact m3
  · intro k hk
    rw [cell_of_row _ _ k _ 23 (0, 0) (heap_alloc_new w _)]
    match k, hk with
    | 0, _ => rfl
    | 1, _ => rfl
    | 2, _ => rfl
  · intro k hk
    match k, hk with
    | 0, _ => exact h1.alloc _
    | 1, _ => exact h2.alloc _
    | 2, _ => exact h3.alloc _
  · intro k hk
    match k, hk with
    | 0, _ => simp only [Value.ownBlock]; intro e; cases e; omega
    | 1, _ => simp only [Value.ownBlock]; intro e; cases e; omega
    | 2, _ => simp only [Value.ownBlock]; intro e; cases e; omega
  · intro j k hj hk hjk
    refine .inr ?_
    match j, hj, k, hk with
    | 0, _, 0, _ => exact absurd rfl hjk
    | 0, _, 1, _ => simpa [Value.ownBlock] using d1
    | 0, _, 2, _ => simpa [Value.ownBlock] using d2
    | 1, _, 0, _ => simpa [Value.ownBlock] using d1.symm
    | 1, _, 1, _ => exact absurd rfl hjk
    | 1, _, 2, _ => simpa [Value.ownBlock] using d3
    | 2, _, 0, _ => simpa [Value.ownBlock] using d2.symm
    | 2, _, 1, _ => simpa [Value.ownBlock] using d3.symm
    | 2, _, 2, _ => exact absurd rfl hjk
  · rintro e w' ⟨rfl, hbel⟩
    exact ⟨rfl, ((Below.refl base w).alloc hb _).trans hbel⟩

theorem heap_lt {w : World} {g : Nat} {o : Obj} (h : w.heap[g]? = some o) : g < w.heap.size := (Array.getElem?_eq_some_iff.1 h).1

set_option maxRecDepth 100000 in
set_option maxHeartbeats 2000000 in
theorem walk (a : Option Addr) (n cap : Nat) (zs : List Int) (x : Int) (v : Nat) (w : World) (hA : Bs w a n cap zs) (hn : n ≤ 140737488351232) (hv : v < 18446744073709551616) :
    Calls Try.prog 4 #[.slice a n cap, .int .i64 x, .int .u64 v] w fun e w' => e = .returned (.bool true) ∧ Below w.heap.size w w' := by
  have s1 : -9223372036854775808 ≤ wrap64 (v : Int) := by unfold wrap64; omega
  have s2 : wrap64 (v : Int) ≤ 9223372036854775807 := by unfold wrap64; omega
  have G1 := hide (fun a n cap w (h : Bs w a n cap zs) => get_val a n cap zs x w h)
  have G2 := hide (fun a n cap w (h : Bs w a n cap zs) => refGet_val a n cap zs x w h)
  have G3 := hide (fun a n cap w (h : Bs w a n cap zs) => getInt_val a n cap zs x w h)
  have G4 := hide (fun a n cap w (h : Bs w a n cap zs) => refGetInt_val a n cap zs x w h)
  generalize gN zs x = N at G1 G2 G3 G4
  generalize gE zs x = E at G1 G2 G3 G4
  generalize gB zs x = t at G1 G2 G3 G4
  generalize unfo N = I at G3 G4
  have L1 := vb_len10 hv
  have L2 := vb_len10 (fo_lt s1 s2)
  have P1 := hide (fun a cap w (h : Bs w a n cap zs) => put_any a n cap zs v hv w h (by omega))
  have P2 := hide (fun a cap w (h : Bs w a n cap zs) => putInt_any a n cap zs (wrap64 (v : Int)) s1 s2 w h (by omega))
  have R1 := hide (fun a cap w (h : Bs w a n cap zs) => refPut_any a n cap zs v hv w h (by omega))
  have R2 := hide (fun a cap w (h : Bs w a n cap zs) => refPutInt_any a n cap zs (wrap64 (v : Int)) s1 s2 w h (by omega))
  have RL := hide (fun w => len_any v hv w)
  have RB := hide (fun w => refBytes_any v hv w)
  have hb1 := hide (vb_byte v)
  have hb2 := hide (vb_byte (fo (wrap64 (v : Int))))
  obtain ⟨k1, hk1⟩ : ∃ k1, k1 = (vb v).length := ⟨_, rfl⟩
  obtain ⟨k2, hk2⟩ : ∃ k2, k2 = (vb (fo (wrap64 (v : Int)))).length := ⟨_, rfl⟩
  rw [← hk1] at L1 P1 R1 RL RB
  rw [← hk2] at L2 P2 R2
  generalize vb (fo (wrap64 (v : Int))) = B2 at P2 R2 hb2 hk2
  generalize vb v = B1 at P1 R1 RB hb1 hk1
  have HK1 := hide hk1
  have HK2 := hide hk2
  clear hk1 hk2
  have lz := hA.len
  have bz := hide hA.byte
  go_enter Try.func4, Try.ntmps4
  go_wp2_with fail
  refine (lent_own a n cap zs _ hA (by omega)).mono ?_
  rintro e w1 ⟨g0, d0, rfl, hO, c1⟩
  have O0 := hide hO
  have Bin3 := hide (own_bs hO (app_byte bz.out (by decide)))
  have hin := Bin3.out.head n (by omega)
  rw [List.take_left' lz] at hin
  have Bin := hide hin
  have g0l := own_lt hO
  clear hO hin
  go_wp2_with fail
  refine (G1.out _ _ _ _ Bin.out).mono ?_
  rintro e w2 ⟨rfl, h2⟩
  have b2 : Below w1.heap.size w1 w2 := h2
  clear h2
  go_wp2_with fail
  refine (G2.out _ _ _ _ (hA.keep (c1.trans (b2.mono c1.size)))).mono ?_
  rintro e w3 ⟨rfl, h3⟩
  have b3 : Below w1.heap.size w1 w3 := b2.trans (h3.mono b2.size)
  clear h3 b2
  go_wp2_with fail
  refine (G3.out _ _ _ _ (Bin.out.keep b3)).mono ?_
  rintro e w4 ⟨rfl, h4⟩
  have b4 : Below w1.heap.size w1 w4 := b3.trans (h4.mono b3.size)
  clear h4 b3
  go_wp2_with fail
  refine (G4.out _ _ _ _ (hA.keep (c1.trans (b4.mono c1.size)))).mono ?_
  rintro e w5 ⟨rfl, h5⟩
  have b5 : Below w1.heap.size w1 w5 := b4.trans (h5.mono b4.size)
  clear h5 b4 G1 G2 G3 G4
  go_wp2_with fail
  refine (P1.out _ _ _ (Bin.out.keep b5)).mono ?_
  rintro e w6 ⟨gp, rfl, hp, lp, h6⟩
  have HP := hide hp
  clear hp
  have b6 : Below w1.heap.size w1 w6 := b5.trans (h6.mono b5.size)
  have q6 := heap_lt HP.out
  have z5 := b5.size
  clear h6 b5
  go_wp2_with fail
  refine (P2.out _ _ _ (Bin.out.keep b6)).mono ?_
  rintro e w7 ⟨gq, rfl, hq, lq, h7⟩
  have HQ := hide hq
  clear hq
  have q7 := heap_lt HQ.out
  have b7 : Below w1.heap.size w1 w7 := b6.trans (h7.mono b6.size)
  replace HP := hide ((h7.block gp q6).trans HP.out)
  have c7 : Below w.heap.size w w7 := c1.trans (b7.mono c1.size)
  have z1 := c1.size
  have z7 := b7.size
  clear h7 b6 P1 P2
  -- from here on all is held at w7
  have A7 := hide (hA.keep c7)
  have I7 := hide (Bin3.out.keep b7)
  have O7 := hide (own_keep O0.out b7)
  have BP := hide (Bs.row (m := n + k1) HP.out (by simp [lz, ← HK1.out]) (by omega) (app_byte bz.out hb1.out))
  have BQ := hide (Bs.row (m := n + k2) HQ.out (by simp [lz, ← HK2.out]) (by omega) (app_byte bz.out hb2.out))
  clear hA Bin3 Bin O0 b7
  go_wp2_with fail
  refine (R1.out _ _ _ A7.out).mono ?_
  rintro e w8 ⟨g8, d8, rfl, hB8, b8⟩
  have S8 := hide (same_true rfl (BP.out.keep b8) hB8)
  clear hB8
  go_wp2_with fail
  refine S8.out.mono ?_
  rintro e w8' ⟨rfl, rfl⟩
  clear S8
  go_wp2_with fail
  refine (R2.out _ _ _ (A7.out.keep b8)).mono ?_
  rintro e w9 ⟨g9, d9, rfl, hB9, h9⟩
  have b9 : Below w7.heap.size w7 w9 := b8.trans (h9.mono b8.size)
  have S9 := hide (same_true rfl (BQ.out.keep b9) hB9)
  clear hB9 h9 b8
  go_wp2_with fail
  refine S9.out.mono ?_
  rintro e w9' ⟨rfl, rfl⟩
  clear S9
  go_wp2_with fail
  refine (RL.out _).mono ?_
  rintro e w10 ⟨rfl, h10⟩
  have b10 : Below w7.heap.size w7 w10 := b9.trans (h10.mono b9.size)
  clear h10 b9
  go_wp2_with fail
  refine (RB.out _).mono ?_
  rintro e w11 ⟨g11, d11, rfl, _, h11⟩
  have b11 : Below w7.heap.size w7 w11 := b10.trans (h11.mono b10.size)
  clear h11 b10
  have KP := hide (kept_any g0 n d0 a cap zs w11 (I7.out.keep b11) (A7.out.keep b11))
  go_wp2_with fail
  refine KP.out.mono ?_
  rintro e w11' ⟨rfl, rfl⟩
  clear KP
  have e1 : w11'.ownsRow w.heap.size 5 1 (.slice (some ⟨gp, 0, none⟩) (n + k1) (n + k1)) (n + k1) (U (zs ++ B1)) :=
    own_keep (own_of_row w.heap.size (by omega) HP.out (by rw [U_length]; simp [lz, ← HK1.out]) (by simp [lz, ← HK1.out]) (Nat.le_refl _) (by omega) (by rw [List.take_of_length_le (by rw [U_length]; simp [lz, ← HK1.out])])) b11
  have e2 : w11'.ownsRow w.heap.size 5 1 (.slice (some ⟨gq, 0, none⟩) (n + k2) (n + k2)) (n + k2) (U (zs ++ B2)) :=
    own_keep (own_of_row w.heap.size (by omega) HQ.out (by rw [U_length]; simp [lz, ← HK2.out]) (by simp [lz, ← HK2.out]) (Nat.le_refl _) (by omega) (by rw [List.take_of_length_le (by rw [U_length]; simp [lz, ← HK2.out])])) b11
  have e3 := own_prefix (n := n) (own_keep O7.out b11) (by omega)
  have AP := hide (apart3 w.heap.size gp (n + k1) (n + k1) gq (n + k2) (n + k2) g0 n d0 _ _ _ w11' e1 e2 e3 (by omega) (by omega) (by omega) (by omega) (by omega) (by omega))
  have c11 : Below w.heap.size w w11' := c7.trans (b11.mono (by omega))
  clear e1 e2 e3
  go_wp2_with fail
  refine AP.out.mono ?_
  rintro e w12 ⟨rfl, h12⟩
  have c12 : Below w.heap.size w w12 := c11.trans h12
  clear AP h12
  go_wp2_with fail
  refine (awake_any _).mono ?_
  rintro e w13 ⟨rfl, h13⟩
  go_wp2_with fail
  go_ret
  exact ⟨rfl, c12.trans (h13.mono c12.size)⟩

end Go.Proofs.Ythhmpfgjeepglaa.varintTells

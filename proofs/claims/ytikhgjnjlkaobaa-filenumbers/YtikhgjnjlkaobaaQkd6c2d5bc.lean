/-
  FileNumbers, walked.
-/
import Derived.Test.YtikhgjnjlkaobaaQk4ce779b1
import Derived.Test.YtikhgjnjlkaobaaPk3b316ec8
import Derived.Laws.Concat
namespace Go.Proofs.Ytikhgjnjlkaobaa
open Go.RowKit Go.Sort
set_option maxRecDepth 100000
set_option maxRecDepth 100000
set_option linter.unusedVariables false
set_option linter.unusedSimpArgs false

theorem b63 : ∀ z ∈ List.replicate 63 (0 : Int), 0 ≤ z ∧ z ≤ 255 := fun z hz => by rw [(List.mem_replicate.1 hz).2]; omega
theorem fill63 (w : World) : Calls Try.prog 10 #[.int .u8 0, .int .i64 (-1)] w fun e w' => ∃ v, e = .returned v ∧ w'.ownsRow w.heap.size 5 1 v 63 (U (List.replicate 63 0)) ∧ Below w.heap.size w w' := by
  have h := filled_any 0 (-1) (by omega) w
  rw [show fz (-1) = 63 by kernel_rfl] at h
  exact h

theorem ax_pending {w W : World} {vs : List Value} {R : Nat} {d : Dsk} {K : Nat} (h : Ax w vs R d W) (hz : Bz d K) (hK : K < 800000) : Calls Try.prog 11 #[.pointer (some ⟨R, 0, none⟩)] W fun e w' => e = .returned (.int .i64 d.l.length) ∧ Tb (fun _ => False) W w' := by
  obtain ⟨L, ⟨o, a1, a2⟩, a3, a6, a5⟩ := h
  have hl := (hz.few (by omega)).last
  exact pending_any a1 (by rw [a2.last]; omega)

section
variable {P : Program} {ops : Array Oper} {o : Oper} {a : Act} {w w' : World} {K : Act → World → Prop} {Q : Exit → Act → World → Prop} {E : Prop}
theorem step_runw {v : Value} (hw : Region.wanted o (yielded ops a.tmps) = true) (hrun : (execOp a.eval o).run P w = .ok (.value v) w') (hK : K (a.put o.dst v) w') :
    if Region.wanted o (yielded ops a.tmps) = true then Oper.wp P o a w K Q else E := by
  rw [if_pos hw]
  unfold Oper.wp
  rw [hrun]
  exact hK
theorem step_callw (hw : Region.wanted o (yielded ops a.tmps) = true) (f : FuncId) (args : Array Value) (hrun : (execOp a.eval o).run P w = .ok (.enter f args) w)
    (hc : Calls P f args w fun e w' => ∃ v, e = .returned v ∧ K (a.put o.dst v) w') : if Region.wanted o (yielded ops a.tmps) = true then Oper.wp P o a w K Q else E := by
  rw [if_pos hw]
  unfold Oper.wp
  rw [hrun, Oper.upon_enter]
  refine hc.mono fun e w' hh => ?_
  obtain ⟨v, rfl, hk⟩ := hh
  exact hk
end

/-- What the loop's rounds tell. -/
structure Rnd (ks : List Bool) (e n m : Nat) : Prop where
  read : (n1.crash ks).read aS = (e : Int)
  len : (if (n1.crash ks).read aS = 0 then (n1.crash ks).bytes aS else []).length = n
  nm : (n1.crash ks).sorted.length = m

theorem rnd0 : Rnd [] 70 0 0 := ⟨by rw [c0.1]; rfl, by rw [c0.1]; rfl, by rw [sorted_len, c0.2]⟩
theorem rnd1 : Rnd [true] 0 0 1 := ⟨by rw [c1.1]; rfl, by rw [if_pos c1.1, c1.2.1]; rfl, by rw [sorted_len, c1.2.2]⟩
theorem rnd2 : Rnd [false, true] 70 0 0 := ⟨by rw [c2.1]; rfl, by rw [c2.1]; rfl, by rw [sorted_len, c2.2]⟩
theorem rnd3 : Rnd [true, true] 0 64 1 := ⟨by rw [c3.1]; rfl, by rw [if_pos c3.1, c3.2.1]; rfl, by rw [sorted_len, c3.2.2]⟩

theorem read_rnd {w W : World} {vs : List Value} {R e n m : Nat} {ks : List Bool} (h : Ax w vs R (n1.crash ks) W) (hr : Rnd ks e n m) : Calls Try.prog 13 #[.pointer (some ⟨R, 0, none⟩), .string aS] W fun x w' => ∃ a cap, x = .returned (.tuple #[.slice a n cap, .int .i64 (e : Int)]) ∧ (n ≤ cap ∧ cap ≤ 9223372036854775807) ∧ Tb (fun _ => False) W w' := by
  refine (az_read (s := aS) h (z1.crash ks) (by omega) (by decide)).mono ?_
  rintro x w' ⟨a, n', cap, rfl, hn, r, t⟩
  rw [hr.len] at hn
  subst hn
  rw [hr.read]
  exact ⟨a, cap, rfl, row_cap r, t⟩

theorem names_rnd {w W : World} {vs : List Value} {R e n m : Nat} {ks : List Bool} (h : Ax w vs R (n1.crash ks) W) (hr : Rnd ks e n m) : Calls Try.prog 14 #[.pointer (some ⟨R, 0, none⟩)] W fun x w' => ∃ a cap, x = .returned (.slice a m cap) ∧ (m ≤ cap ∧ cap ≤ 9223372036854775807) ∧ Tb (fun _ => False) W w' := by
  have C := ax_sorted h (l1.bd.crash ks) (by omega)
  rw [hr.nm] at C
  refine C.mono ?_
  rintro x w' ⟨a, cap, rfl, r, t⟩
  exact ⟨a, cap, rfl, row_cap r, t⟩

theorem read_is {w W : World} {vs : List Value} {R K : Nat} {d : Dsk} {s : ByteArray} {z : Int} (h : Ax w vs R d W) (hz : Bz d K) (hK : K < 800000) (hs : s.size ≤ 64) (hr : d.read s = 0) (hb : d.bytes s = sec64 z) : Calls Try.prog 13 #[.pointer (some ⟨R, 0, none⟩), .string s] W fun x w' => ∃ a cap, x = .returned (.tuple #[.slice a 64 cap, .int .i64 0]) ∧ w'.ownsRow W.heap.size 5 1 (.slice a 64 cap) 64 (U (sec64 z)) ∧ Tb (fun _ => False) W w' := by
  refine (az_read (s := s) h hz hK (by omega)).mono ?_
  rintro x w' ⟨a, n', cap, rfl, hn, r, t⟩
  rw [if_pos hr, hb] at hn r
  rw [sec64_len] at hn
  subst hn
  rw [hr]
  exact ⟨a, cap, rfl, r, t⟩

theorem read_not {w W : World} {vs : List Value} {R K : Nat} {d : Dsk} {s : ByteArray} (h : Ax w vs R d W) (hz : Bz d K) (hK : K < 800000) (hs : s.size ≤ 64) (hr : d.read s = 70) : Calls Try.prog 13 #[.pointer (some ⟨R, 0, none⟩), .string s] W fun x w' => ∃ a n cap, x = .returned (.tuple #[.slice a n cap, .int .i64 70]) ∧ Tb (fun _ => False) W w' := by
  refine (az_read (s := s) h hz hK (by omega)).mono ?_
  rintro x w' ⟨a, n', cap, rfl, hn, r, t⟩
  rw [hr]
  exact ⟨a, n', cap, rfl, t⟩

theorem table (w : World) : ∀ W, W = (((w.alloc (.cells #[.bool true] 4)).alloc (.cells #[.bool false, .bool true] 4)).alloc (.cells #[.bool true, .bool true] 4)).alloc (.cells #[.slice none 0 0, .slice (some ⟨w.heap.size, 0, none⟩) 1 1, .slice (some ⟨w.heap.size + 1, 0, none⟩) 2 2, .slice (some ⟨w.heap.size + 2, 0, none⟩) 2 2] (22 : TypeId)) →
    W.heap[w.heap.size + 3]? = some (.cells #[.slice none 0 0, .slice (some ⟨w.heap.size, 0, none⟩) 1 1, .slice (some ⟨w.heap.size + 1, 0, none⟩) 2 2, .slice (some ⟨w.heap.size + 2, 0, none⟩) 2 2] (22 : TypeId) (0, 0)) ∧ W.heap[w.heap.size]? = some (.cells #[.bool true] 4 (0, 0)) ∧ W.heap[w.heap.size + 1]? = some (.cells #[.bool false, .bool true] 4 (0, 0)) ∧ W.heap[w.heap.size + 2]? = some (.cells #[.bool true, .bool true] 4 (0, 0)) := by
  intro W hW
  obtain ⟨A1, h1⟩ : ∃ A1, A1 = w.alloc (.cells #[.bool true] 4) := ⟨_, rfl⟩
  obtain ⟨A2, h2⟩ : ∃ A2, A2 = A1.alloc (.cells #[.bool false, .bool true] 4) := ⟨_, rfl⟩
  obtain ⟨A3, h3⟩ : ∃ A3, A3 = A2.alloc (.cells #[.bool true, .bool true] 4) := ⟨_, rfl⟩
  rw [← h1, ← h2, ← h3] at hW
  have s1 : A1.heap.size = w.heap.size + 1 := by rw [h1]; simp
  have s2 : A2.heap.size = w.heap.size + 2 := by rw [h2]; simp [s1]
  have s3 : A3.heap.size = w.heap.size + 3 := by rw [h3]; simp [s2]
  have t2 : Tb (fun _ => False) A1 A2 := by rw [h2]; exact (Tb.refl _ _).alloc _
  have t3 : Tb (fun _ => False) A2 A3 := by rw [h3]; exact (Tb.refl _ _).alloc _
  have t4 : Tb (fun _ => False) A3 W := by rw [hW]; exact (Tb.refl _ _).alloc _
  have b1 : A1.heap[w.heap.size]? = some (.cells #[.bool true] 4 (0, 0)) := by rw [h1]; exact heap_alloc_new w _
  have b2 : A2.heap[w.heap.size + 1]? = some (.cells #[.bool false, .bool true] 4 (0, 0)) := by rw [h2, ← s1]; exact heap_alloc_new A1 _
  have b3 : A3.heap[w.heap.size + 2]? = some (.cells #[.bool true, .bool true] 4 (0, 0)) := by rw [h3, ← s2]; exact heap_alloc_new A2 _
  have b4 : W.heap[w.heap.size + 3]? = some (.cells #[.slice none 0 0, .slice (some ⟨w.heap.size, 0, none⟩) 1 1, .slice (some ⟨w.heap.size + 1, 0, none⟩) 2 2, .slice (some ⟨w.heap.size + 2, 0, none⟩) 2 2] (22 : TypeId) (0, 0)) := by rw [hW, ← s3]; exact heap_alloc_new A3 _
  exact ⟨b4, heap_tb (heap_tb (heap_tb b1 t2) t3) t4, heap_tb (heap_tb b2 t3) t4, heap_tb b3 t4⟩

theorem kp_of {W : World} {g : Nat} {cs : Array Value} (ks : List Bool) (h : W.heap[g]? = some (.cells cs 4 (0, 0))) (hc : ∀ (i : Nat) (b : Bool), ks[i]? = some b → cs[i]? = some (Value.bool b)) : Kp W (some ⟨g, 0, none⟩) ks := fun i b hb =>
  ⟨g, 0, rfl, by rw [Nat.zero_add, cell_of_row W g i _ 4 (0, 0) h]; exact hc i b hb⟩

namespace fileNumbers

set_option maxHeartbeats 8000000 in
theorem walk (w : World) : Calls Try.prog 3 #[] w fun e w' => e = .returned (.bool true) ∧ Below w.heap.size w w' := by
  obtain ⟨W, HW⟩ : ∃ W, Hid (W = (((w.alloc (.cells #[.bool true] 4)).alloc (.cells #[.bool false, .bool true] 4)).alloc (.cells #[.bool true, .bool true] 4)).alloc (.cells #[.slice none 0 0, .slice (some ⟨w.heap.size, 0, none⟩) 1 1, .slice (some ⟨w.heap.size + 1, 0, none⟩) 2 2, .slice (some ⟨w.heap.size + 2, 0, none⟩) 2 2] (22 : TypeId))) := ⟨_, hide rfl⟩
  have TW : Hid (Tb (fun _ => False) w W) := hide (by rw [HW.out]; exact ((((Tb.refl _ _).alloc _).alloc _).alloc _).alloc _)
  go_enter Try.func3, Try.ntmps3
  go_wp2_with fail
  rw [← HW.out]
  go_loopw [36, 1, 2, 3, 4, 5, 6, 7, 8, 9, 10] (fun i _ _ _ _ _ _ _ _ _ _ wr => ∃ k : Nat, k ≤ 4 ∧ i = .int .i64 k ∧ Hid (Tb (fun _ => False) W wr)) (fun i _ _ _ _ _ _ _ _ _ _ _ => 4 - (intOf i).toNat)
  case atStart => exact ⟨0, Nat.zero_le _, rfl, hide (Tb.refl _ _)⟩
  case round =>
    obtain ⟨k, hk4, rfl, ht⟩ := hrel
    by_cases hk : k < 4
    · obtain ⟨tb4, tb0, tb1, tb2⟩ := table w W HW.out
      have HTB := hide (And.intro (heap_tb tb4 ht.out) (And.intro (heap_tb tb0 ht.out) (And.intro (heap_tb tb1 ht.out) (heap_tb tb2 ht.out))))
      clear tb4 tb0 tb1 tb2
      have hcase : ∃ (p : Option Addr) (m c : Nat) (ks : List Bool) (e n l : Nat), wr.cell? ⟨w.heap.size + 3, k, none⟩ = some (.slice p m c) ∧ Hid (ks.length = m ∧ (m ≤ c ∧ c ≤ 9223372036854775807) ∧ Kp wr p ks) ∧ Hid (Rnd ks e n l) ∧ ((k = 0 ∧ e = 70 ∧ n = 0 ∧ l = 0) ∨ (k = 1 ∧ e = 0 ∧ n = 0 ∧ l = 1) ∨ (k = 2 ∧ e = 70 ∧ n = 0 ∧ l = 0) ∨ (k = 3 ∧ e = 0 ∧ n = 64 ∧ l = 1)) := by
        obtain ⟨h4, h0, h1, h2⟩ := HTB.out
        have hc := cell_of_row wr (w.heap.size + 3) k _ (22 : TypeId) (0, 0) h4
        rcases (show k = 0 ∨ k = 1 ∨ k = 2 ∨ k = 3 by omega) with rfl | rfl | rfl | rfl
        · exact ⟨none, 0, 0, [], 70, 0, 0, by rw [hc]; rfl, hide ⟨rfl, by omega, fun i b hb => by simp at hb⟩, hide rnd0, by omega⟩
        · exact ⟨_, 1, 1, [true], 0, 0, 1, by rw [hc]; rfl, hide ⟨rfl, by omega, kp_of _ h0 (fun i b hb => by
            rcases i with _ | i
            · simpa using hb
            · simp at hb)⟩, hide rnd1, by omega⟩
        · exact ⟨_, 2, 2, [false, true], 70, 0, 0, by rw [hc]; rfl, hide ⟨rfl, by omega, kp_of _ h1 (fun i b hb => by
            rcases i with _ | _ | i
            · simpa using hb
            · simpa using hb
            · simp at hb)⟩, hide rnd2, by omega⟩
        · exact ⟨_, 2, 2, [true, true], 0, 64, 1, by rw [hc]; rfl, hide ⟨rfl, by omega, kp_of _ h2 (fun i b hb => by
            rcases i with _ | _ | i
            · simpa using hb
            · simpa using hb
            · simp at hb)⟩, hide rnd3, by omega⟩
      obtain ⟨p, m, c, ks, e0, n0, l0, hcell, HKS, HRN, hvals⟩ := hcase
      clear HTB
      rcases hvals with ⟨rfl, rfl, rfl, rfl⟩ | ⟨rfl, rfl, rfl, rfl⟩ | ⟨rfl, rfl, rfl, rfl⟩ | ⟨rfl, rfl, rfl, rfl⟩
      all_goals
        go_wp2_with fail
        refine aw_new.mono ?_
        rintro e w2 ⟨R, rfl, hR, a2⟩
        have A2 := hide a2.ax
        clear a2 hcell hR
        go_wp2_with fail
        refine (fill_any 65 w2).mono ?_
        rintro e w3 ⟨v3, rfl, r3, b3⟩
        have C := az_put (s := aS) (at' := 0) A2.out (Tb.of_fresh b3) r3 b65 bz_new (by omega) (by decide)
        rw [e1] at C
        have HC := hide C
        clear C r3 b3 A2
        go_wp2_with fail
        refine HC.out.mono ?_
        rintro e w4 ⟨rfl, h4, _⟩
        have H4 := hide h4
        have C4 := ax_pending h4 z1 (by omega)
        rw [e1l] at C4
        have HC4 := hide C4
        clear h4 C4 HC
        go_wp2_with fail
        refine HC4.out.mono ?_
        rintro e w5 ⟨rfl, t5⟩
        have C5 := hide (ax_crash (H4.out.kept t5) (z1.few (by omega)) HKS.out.1 HKS.out.2.1 HKS.out.2.2)
        clear t5 HC4 H4
        go_wp2_with fail
        refine C5.out.mono ?_
        rintro e w6 ⟨rfl, h6, _⟩
        have H6 := hide h6
        have C6 := hide (read_rnd h6 HRN.out)
        clear h6 C5
        go_wp2_with fail
        refine C6.out.mono ?_
        rintro e w7 ⟨a7, c7, rfl, hc7, t7⟩
        have H7 := hide (H6.out.kept t7)
        have C7 := hide (names_rnd H7.out HRN.out)
        obtain ⟨hc71, hc72⟩ := hc7
        clear t7 C6 H6
        go_wp2_with fail
        refine C7.out.mono ?_
        rintro e w8 ⟨a8, c8, rfl, hc8, t8⟩
        have H8 : Hid (Tb (fun _ => False) W w8) := hide (ht.out.trans ((H7.out.kept t8).tb) (fun _ _ h => h))
        obtain ⟨hc81, hc82⟩ := hc8
        clear t8 C7 H7
        go_wp2_with fail
        go_roundw
        case rel => first | exact ⟨1, by omega, by go_num, H8⟩ | exact ⟨2, by omega, by go_num, H8⟩ | exact ⟨3, by omega, by go_num, H8⟩ | exact ⟨4, by omega, by go_num, H8⟩
        case measure => simp [intOf]
    · obtain rfl : k = 4 := by omega
      obtain ⟨LS, hLS⟩ : ∃ LS, Hid (LS = numL) := ⟨_, hide rfl⟩
      obtain ⟨LM, hLM⟩ : ∃ LM, Hid (LM = numM) := ⟨_, hide rfl⟩
      have HSZ : Hid (LS.size = 64 ∧ LM.size = 65) := hide ⟨by rw [hLS.out]; kernel_rfl, by rw [hLM.out]; kernel_rfl⟩
      have kadd : ∀ V : World, (Op.stringOp .add LS ⟨#[110]⟩).run Try.prog V = .ok (.string LM) V := fun V => by
        have h1 : (⟨#[110]⟩ : ByteArray).size = 1 := rfl
        rw [run_string_add_sum (P := Try.prog) (w := V) LS ⟨#[110]⟩ (by have := HSZ.out.1; omega), hLM.out, hLS.out]
        rfl
      obtain ⟨A, hA⟩ : ∃ A, Hid (A = strOfNums (sec64 65)) := ⟨_, hide rfl⟩
      obtain ⟨B, hB⟩ : ∃ B, Hid (B = strOfNums (sec64 66)) := ⟨_, hide rfl⟩
      go_wp2_with fail
      refine aw_new.mono ?_
      rintro e w2 ⟨R, rfl, hR, a2⟩
      have HA := hide a2.ax
      clear a2 hR
      go_wp2_with fail
      refine (fill_any 65 w2).mono ?_
      rintro e w3 ⟨v3, rfl, r3, b3⟩
      have C := az_put (s := aS) (at' := 0) HA.out (Tb.of_fresh b3) r3 b65 bz_new (by omega) (by decide)
      rw [e1] at C
      have HC := hide C
      clear C HA r3 b3
      go_wp2_with fail
      refine HC.out.mono ?_
      rintro e w4 ⟨rfl, hw4, _⟩
      have HA := hide hw4
      clear hw4 HC
      have C := az_sync (s := aS) HA.out z1 (by omega) (by decide)
      rw [e2] at C
      have HC := hide C
      clear C HA
      go_wp2_with fail
      refine HC.out.mono ?_
      rintro e w5 ⟨rfl, hw5, _⟩
      have HA := hide hw5
      clear hw5 HC
      go_wp2_with fail
      refine (fill_any 66 w5).mono ?_
      rintro e w6 ⟨v6, rfl, r6, b6⟩
      have C := az_put (s := tS) (at' := 0) HA.out (Tb.of_fresh b6) r6 b66 z2 (by omega) (by decide)
      rw [e3] at C
      have HC := hide C
      clear C HA r6 b6
      go_wp2_with fail
      refine HC.out.mono ?_
      rintro e w7 ⟨rfl, hw7, _⟩
      have HA := hide hw7
      clear hw7 HC
      have C := az_sync (s := tS) HA.out z3 (by omega) (by decide)
      rw [e4] at C
      have HC := hide C
      clear C HA
      go_wp2_with fail
      refine HC.out.mono ?_
      rintro e w8 ⟨rfl, hw8, _⟩
      have HA := hide hw8
      clear hw8 HC
      have C := az_rename (s := tS) (t := aS) HA.out z4 (by omega) (by decide) (by decide)
      rw [e5] at C
      have HC := hide C
      clear C HA
      go_wp2_with fail
      refine HC.out.mono ?_
      rintro e w9 ⟨rfl, hw9, _⟩
      have HA := hide hw9
      clear hw9 HC
      have C9 := hide (ax_copy HA.out l5.bd (by omega))
      clear HA
      go_wp2_with fail
      refine C9.out.mono ?_
      rintro e w10 ⟨R2, rfl, h10, _⟩
      have C10 := hide (two_copy h10 l5.bd (by omega))
      clear h10 C9
      go_wp2_with fail
      refine C10.out.mono ?_
      rintro e w11 ⟨R3, rfl, h11, _⟩
      have C11 := hide (thr_crash (p := none) (m := 0) (cap := 0) (ks := []) h11.rot l5 (by omega) rfl (by omega) (fun i b hb => by simp at hb) (fun a hne => absurd rfl hne))
      clear h11 C10
      go_wp2_with fail
      refine C11.out.mono ?_
      rintro e w12 ⟨rfl, h12, _⟩
      have H12 := hide h12.rot
      clear h12 C11
      obtain ⟨w13, hw13⟩ : ∃ w13, Hid (w13 = w12.alloc (.cells #[.bool true] 4)) := ⟨_, hide rfl⟩
      have r13 : w13.ownsRow w12.heap.size 4 1 (.slice (some ⟨w12.heap.size, 0, none⟩) 1 1) 1 (List.replicate 1 (.bool true)) := by
        rw [hw13.out]
        exact ⟨rfl, .inr ⟨w12.heap.size, 1, #[.bool true], rfl, Nat.le_refl _, heap_alloc_new w12 _, Nat.le_refl _, by unfold maxLen; omega, rfl, rfl⟩⟩
      have t13 : Tb (fun _ => False) w12 w13 := by rw [hw13.out]; exact (Tb.refl _ _).alloc _
      have C13 := hide (thr_crash (p := some ⟨w12.heap.size, 0, none⟩) (m := 1) (cap := 1) (ks := List.replicate 1 true) (H12.out.with t13 r13) l5 (by omega) rfl (by omega) (kp_row r13) (fun ad _ e => .inr ⟨.slice (some ⟨w12.heap.size, 0, none⟩) 1 1, List.mem_cons_self, by cases e; rfl⟩))
      clear r13 t13 H12
      go_wp2_with fail
      rw [← hw13.out]
      refine C13.out.mono ?_
      rintro e w14 ⟨rfl, h14, _⟩
      have H14 := hide h14
      have C14 := hide (read_is h14.rot.rot.first (z5.crash []) (by omega) (by decide) x1.1 x1.2)
      clear h14 C13 hw13
      go_wp2_with fail
      refine C14.out.mono ?_
      rintro e w15 ⟨a15, c15, rfl, r15, t15⟩
      have H15 := hide (H14.out.kept t15)
      have R15 := hide r15
      have C15 := hide (read_is H15.out.rot.rot.first (z5.crash []) (by omega) (by decide) x2.1 x2.2)
      clear r15 t15 C14 H14
      go_wp2_with fail
      refine C15.out.mono ?_
      rintro e w16 ⟨a16, c16, rfl, r16, t16⟩
      have H16 := hide (H15.out.kept t16)
      have R16 := hide (And.intro (row_tb R15.out t16 (fun _ _ h => h)) r16)
      have C16 := hide (read_is (s := aS) (z := 66) H16.out.first (z5.crash [true]) (by omega) (by decide) y1.1 y1.2)
      clear r16 t16 C15 H15 R15
      go_wp2_with fail
      refine C16.out.mono ?_
      rintro e w17 ⟨a17, c17, rfl, r17, t17⟩
      have H17 := hide (H16.out.kept t17)
      have R17 := hide (And.intro (row_tb R16.out.1 t17 (fun _ _ h => h)) (And.intro (row_tb R16.out.2 t17 (fun _ _ h => h)) r17))
      have C17 := hide (read_not (s := tS) H17.out.first (z5.crash [true]) (by omega) (by decide) y2)
      clear r17 t17 C16 H16 R16
      go_wp2_with fail
      refine C17.out.mono ?_
      rintro e w18 ⟨a18, m18, c18, rfl, t18⟩
      have H18 := hide (H17.out.kept t18)
      have HS : Hid (∀ V, Tb (fun _ => False) w18 V → (convert 28 9 (.slice a15 64 c15)).run Try.prog V = .ok (.string A) V ∧ (convert 28 9 (.slice a16 64 c16)).run Try.prog V = .ok (.string B) V ∧ (convert 28 9 (.slice a17 64 c17)).run Try.prog V = .ok (.string B) V) := hide (fun V tV => by
        have tt := t18.trans tV (fun _ _ h => h)
        rw [hA.out, hB.out]
        exact ⟨run_str 28 5 Try.underlying28 Try.underlying5 (own_bs (row_tb R17.out.1 tt (fun _ _ h => h)) b65) 9 Try.underlying9, run_str 28 5 Try.underlying28 Try.underlying5 (own_bs (row_tb R17.out.2.1 tt (fun _ _ h => h)) b66) 9 Try.underlying9, run_str 28 5 Try.underlying28 Try.underlying5 (own_bs (row_tb R17.out.2.2 tt (fun _ _ h => h)) b66) 9 Try.underlying9⟩)
      have hAA : (A.toList == A.toList) = true := by simp
      have hBB : (B.toList == B.toList) = true := by simp
      have hT : Tb (fun _ => False) w18 w18.drew := (Tb.refl _ _).drew
      clear t18 C17 H17 R17
      go_wp2_with fail
      refine wp_region_held_drew (S := fun V => (convert 28 9 (.slice a15 64 c15)).run Try.prog V = .ok (.string A) V ∧ (convert 28 9 (.slice a16 64 c16)).run Try.prog V = .ok (.string B) V ∧ (convert 28 9 (.slice a17 64 c17)).run Try.prog V = .ok (.string B) V) (by kernel_rfl) (HS.out _ hT) (fun hHeld => ?_)
      try simp only [List.size_toArray, List.length_cons, List.length_nil, Nat.reduceAdd]
      refine wpAnyH_take (i := 0) (v := (.int .i64 0)) rfl (by kernel_rfl) (by kernel_rfl) (by kernel_rfl) (fun _ _ _ h => h) (Or.inl ⟨by rfl, ?hy⟩) hHeld ?_
      case hy => (intro V hV; obtain ⟨hV1, hV2, hV3⟩ := hV; go_simp <;> rfl)
      simp only [Act.put, List.getElem_toArray, List.getElem_cons_succ, List.getElem_cons_zero, List.setIfInBounds_toArray, List.set_cons_succ, List.set_cons_zero]
      refine wpAnyH_take (i := 1) (v := (.int .i64 0)) rfl (by kernel_rfl) (by kernel_rfl) (by kernel_rfl) (fun _ _ _ h => h) (Or.inl ⟨by rfl, ?hy⟩) hHeld ?_
      case hy => (intro V hV; obtain ⟨hV1, hV2, hV3⟩ := hV; go_simp <;> rfl)
      simp only [Act.put, List.getElem_toArray, List.getElem_cons_succ, List.getElem_cons_zero, List.setIfInBounds_toArray, List.set_cons_succ, List.set_cons_zero]
      refine wpAnyH_take (i := 2) (v := (.int .i64 0)) rfl (by kernel_rfl) (by kernel_rfl) (by kernel_rfl) (fun _ _ _ h => h) (Or.inl ⟨by rfl, ?hy⟩) hHeld ?_
      case hy => (intro V hV; obtain ⟨hV1, hV2, hV3⟩ := hV; go_simp <;> rfl)
      simp only [Act.put, List.getElem_toArray, List.getElem_cons_succ, List.getElem_cons_zero, List.setIfInBounds_toArray, List.set_cons_succ, List.set_cons_zero]
      refine wpAnyH_take (i := 3) (v := (.int .i64 0)) rfl (by kernel_rfl) (by kernel_rfl) (by kernel_rfl) (fun _ _ _ h => h) (Or.inl ⟨by rfl, ?hy⟩) hHeld ?_
      case hy => (intro V hV; obtain ⟨hV1, hV2, hV3⟩ := hV; go_simp <;> rfl)
      simp only [Act.put, List.getElem_toArray, List.getElem_cons_succ, List.getElem_cons_zero, List.setIfInBounds_toArray, List.set_cons_succ, List.set_cons_zero]
      refine wpAnyH_take (i := 4) (v := (.int .i64 0)) rfl (by kernel_rfl) (by kernel_rfl) (by kernel_rfl) (fun _ _ _ h => h) (Or.inl ⟨by rfl, ?hy⟩) hHeld ?_
      case hy => (intro V hV; obtain ⟨hV1, hV2, hV3⟩ := hV; go_simp <;> rfl)
      simp only [Act.put, List.getElem_toArray, List.getElem_cons_succ, List.getElem_cons_zero, List.setIfInBounds_toArray, List.set_cons_succ, List.set_cons_zero]
      refine wpAnyH_take (i := 5) (v := (.int .i64 0)) rfl (by kernel_rfl) (by kernel_rfl) (by kernel_rfl) (fun _ _ _ h => h) (Or.inl ⟨by rfl, ?hy⟩) hHeld ?_
      case hy => (intro V hV; obtain ⟨hV1, hV2, hV3⟩ := hV; go_simp <;> rfl)
      simp only [Act.put, List.getElem_toArray, List.getElem_cons_succ, List.getElem_cons_zero, List.setIfInBounds_toArray, List.set_cons_succ, List.set_cons_zero]
      refine wpAnyH_take (i := 6) (v := (.int .i64 0)) rfl (by kernel_rfl) (by kernel_rfl) (by kernel_rfl) (fun _ _ _ h => h) (Or.inl ⟨by rfl, ?hy⟩) hHeld ?_
      case hy => (intro V hV; obtain ⟨hV1, hV2, hV3⟩ := hV; go_simp <;> rfl)
      simp only [Act.put, List.getElem_toArray, List.getElem_cons_succ, List.getElem_cons_zero, List.setIfInBounds_toArray, List.set_cons_succ, List.set_cons_zero]
      refine wpAnyH_take (i := 7) (v := (.bool true)) rfl (by kernel_rfl) (by kernel_rfl) (by kernel_rfl) (fun _ _ _ h => h) (Or.inl ⟨by rfl, ?hy⟩) hHeld ?_
      case hy => (intro V hV; obtain ⟨hV1, hV2, hV3⟩ := hV; go_simp <;> rfl)
      simp only [Act.put, List.getElem_toArray, List.getElem_cons_succ, List.getElem_cons_zero, List.setIfInBounds_toArray, List.set_cons_succ, List.set_cons_zero]
      refine wpAnyH_take (i := 8) (v := (.bool true)) rfl (by kernel_rfl) (by kernel_rfl) (by kernel_rfl) (fun _ _ _ h => h) (Or.inl ⟨by rfl, ?hy⟩) hHeld ?_
      case hy => (intro V hV; obtain ⟨hV1, hV2, hV3⟩ := hV; go_simp <;> rfl)
      simp only [Act.put, List.getElem_toArray, List.getElem_cons_succ, List.getElem_cons_zero, List.setIfInBounds_toArray, List.set_cons_succ, List.set_cons_zero]
      refine wpAnyH_take (i := 9) (v := (.slice a15 64 c15)) rfl (by kernel_rfl) (by kernel_rfl) (by kernel_rfl) (fun _ _ _ h => h) (Or.inl ⟨by rfl, ?hy⟩) hHeld ?_
      case hy => (intro V hV; obtain ⟨hV1, hV2, hV3⟩ := hV; go_simp <;> rfl)
      simp only [Act.put, List.getElem_toArray, List.getElem_cons_succ, List.getElem_cons_zero, List.setIfInBounds_toArray, List.set_cons_succ, List.set_cons_zero]
      refine wpAnyH_take (i := 10) (v := (.string A)) rfl (by kernel_rfl) (by kernel_rfl) (by kernel_rfl) (fun _ _ _ h => h) (Or.inl ⟨by rfl, ?hy⟩) hHeld ?_
      case hy => (intro V hV; obtain ⟨hV1, hV2, hV3⟩ := hV; go_simp <;> rfl)
      simp only [Act.put, List.getElem_toArray, List.getElem_cons_succ, List.getElem_cons_zero, List.setIfInBounds_toArray, List.set_cons_succ, List.set_cons_zero]
      refine wpAnyH_ready (rs := [11]) (by kernel_rfl) (by simp) ?_
      refine AllReadyH.cons rfl (fun K hK => ?_) AllReadyH.nil
      refine step_callw (by rfl) 10 #[.int .u8 65, .int .i64 0] (by go_simp) ?_
      refine (fill_any 65 w18.drew).mono ?_
      rintro e X1 ⟨vX1, rfl, rX1, bX1⟩
      obtain ⟨aX1, cX1, hvX1⟩ := row_val rX1
      subst hvX1
      have kX1 : (convert 28 9 (.slice aX1 64 cX1)).run Try.prog X1 = .ok (.string A) X1 := by rw [hA.out]; exact run_str 28 5 Try.underlying28 Try.underlying5 (own_bs rX1 b65) 9 Try.underlying9
      replace hT := hT.trans (Tb.of_fresh bX1) (fun _ _ h => h)
      clear rX1 bX1
      refine ⟨_, rfl, ?_⟩
      refine hK.out _ _ (HS.out _ hT) (fun hHeld => ?_)
      clear hK K
      simp only [Act.put, List.getElem_toArray, List.getElem_cons_succ, List.getElem_cons_zero, List.setIfInBounds_toArray, List.set_cons_succ, List.set_cons_zero]
      refine wpAnyH_ready (rs := [12]) (by kernel_rfl) (by simp) ?_
      refine AllReadyH.cons rfl (fun K hK => ?_) AllReadyH.nil
      refine step_runw (v := .string A) (by rfl) (exec_conv _ rfl (by simp [Act.eval]) kX1) ?_
      refine hK.out _ _ (HS.out _ hT) (fun hHeld => ?_)
      clear hK K kX1
      simp only [Act.put, List.getElem_toArray, List.getElem_cons_succ, List.getElem_cons_zero, List.setIfInBounds_toArray, List.set_cons_succ, List.set_cons_zero]
      refine wpAnyH_take (i := 13) (v := (.bool true)) rfl (by kernel_rfl) (by kernel_rfl) (by kernel_rfl) (fun _ _ _ h => h) (Or.inl ⟨by rfl, ?hy⟩) hHeld ?_
      case hy => (intro V hV; obtain ⟨hV1, hV2, hV3⟩ := hV; go_simp <;> rfl)
      simp only [Act.put, List.getElem_toArray, List.getElem_cons_succ, List.getElem_cons_zero, List.setIfInBounds_toArray, List.set_cons_succ, List.set_cons_zero]
      refine wpAnyH_take (i := 14) (v := (.bool true)) rfl (by kernel_rfl) (by kernel_rfl) (by kernel_rfl) (fun _ _ _ h => h) (Or.inl ⟨by rfl, ?hy⟩) hHeld ?_
      case hy => (intro V hV; obtain ⟨hV1, hV2, hV3⟩ := hV; go_simp <;> rfl)
      simp only [Act.put, List.getElem_toArray, List.getElem_cons_succ, List.getElem_cons_zero, List.setIfInBounds_toArray, List.set_cons_succ, List.set_cons_zero]
      refine wpAnyH_take (i := 15) (v := (.bool true)) rfl (by kernel_rfl) (by kernel_rfl) (by kernel_rfl) (fun _ _ _ h => h) (Or.inl ⟨by rfl, ?hy⟩) hHeld ?_
      case hy => (intro V hV; obtain ⟨hV1, hV2, hV3⟩ := hV; go_simp <;> rfl)
      simp only [Act.put, List.getElem_toArray, List.getElem_cons_succ, List.getElem_cons_zero, List.setIfInBounds_toArray, List.set_cons_succ, List.set_cons_zero]
      refine wpAnyH_take (i := 16) (v := (.slice a16 64 c16)) rfl (by kernel_rfl) (by kernel_rfl) (by kernel_rfl) (fun _ _ _ h => h) (Or.inl ⟨by rfl, ?hy⟩) hHeld ?_
      case hy => (intro V hV; obtain ⟨hV1, hV2, hV3⟩ := hV; go_simp <;> rfl)
      simp only [Act.put, List.getElem_toArray, List.getElem_cons_succ, List.getElem_cons_zero, List.setIfInBounds_toArray, List.set_cons_succ, List.set_cons_zero]
      refine wpAnyH_take (i := 17) (v := (.string B)) rfl (by kernel_rfl) (by kernel_rfl) (by kernel_rfl) (fun _ _ _ h => h) (Or.inl ⟨by rfl, ?hy⟩) hHeld ?_
      case hy => (intro V hV; obtain ⟨hV1, hV2, hV3⟩ := hV; go_simp <;> rfl)
      simp only [Act.put, List.getElem_toArray, List.getElem_cons_succ, List.getElem_cons_zero, List.setIfInBounds_toArray, List.set_cons_succ, List.set_cons_zero]
      refine wpAnyH_ready (rs := [18]) (by kernel_rfl) (by simp) ?_
      refine AllReadyH.cons rfl (fun K hK => ?_) AllReadyH.nil
      refine step_callw (by rfl) 10 #[.int .u8 66, .int .i64 0] (by go_simp) ?_
      refine (fill_any 66 X1).mono ?_
      rintro e X2 ⟨vX2, rfl, rX2, bX2⟩
      obtain ⟨aX2, cX2, hvX2⟩ := row_val rX2
      subst hvX2
      have kX2 : (convert 28 9 (.slice aX2 64 cX2)).run Try.prog X2 = .ok (.string B) X2 := by rw [hB.out]; exact run_str 28 5 Try.underlying28 Try.underlying5 (own_bs rX2 b66) 9 Try.underlying9
      replace hT := hT.trans (Tb.of_fresh bX2) (fun _ _ h => h)
      clear rX2 bX2
      refine ⟨_, rfl, ?_⟩
      refine hK.out _ _ (HS.out _ hT) (fun hHeld => ?_)
      clear hK K
      simp only [Act.put, List.getElem_toArray, List.getElem_cons_succ, List.getElem_cons_zero, List.setIfInBounds_toArray, List.set_cons_succ, List.set_cons_zero]
      refine wpAnyH_ready (rs := [19]) (by kernel_rfl) (by simp) ?_
      refine AllReadyH.cons rfl (fun K hK => ?_) AllReadyH.nil
      refine step_runw (v := .string B) (by rfl) (exec_conv _ rfl (by simp [Act.eval]) kX2) ?_
      refine hK.out _ _ (HS.out _ hT) (fun hHeld => ?_)
      clear hK K kX2
      simp only [Act.put, List.getElem_toArray, List.getElem_cons_succ, List.getElem_cons_zero, List.setIfInBounds_toArray, List.set_cons_succ, List.set_cons_zero]
      refine wpAnyH_take (i := 20) (v := (.bool true)) rfl (by kernel_rfl) (by kernel_rfl) (by kernel_rfl) (fun _ _ _ h => h) (Or.inl ⟨by rfl, ?hy⟩) hHeld ?_
      case hy => (intro V hV; obtain ⟨hV1, hV2, hV3⟩ := hV; go_simp <;> rfl)
      simp only [Act.put, List.getElem_toArray, List.getElem_cons_succ, List.getElem_cons_zero, List.setIfInBounds_toArray, List.set_cons_succ, List.set_cons_zero]
      refine wpAnyH_take (i := 21) (v := (.bool true)) rfl (by kernel_rfl) (by kernel_rfl) (by kernel_rfl) (fun _ _ _ h => h) (Or.inl ⟨by rfl, ?hy⟩) hHeld ?_
      case hy => (intro V hV; obtain ⟨hV1, hV2, hV3⟩ := hV; go_simp <;> rfl)
      simp only [Act.put, List.getElem_toArray, List.getElem_cons_succ, List.getElem_cons_zero, List.setIfInBounds_toArray, List.set_cons_succ, List.set_cons_zero]
      refine wpAnyH_take (i := 22) (v := (.bool true)) rfl (by kernel_rfl) (by kernel_rfl) (by kernel_rfl) (fun _ _ _ h => h) (Or.inl ⟨by rfl, ?hy⟩) hHeld ?_
      case hy => (intro V hV; obtain ⟨hV1, hV2, hV3⟩ := hV; go_simp <;> rfl)
      simp only [Act.put, List.getElem_toArray, List.getElem_cons_succ, List.getElem_cons_zero, List.setIfInBounds_toArray, List.set_cons_succ, List.set_cons_zero]
      refine wpAnyH_take (i := 23) (v := (.slice a17 64 c17)) rfl (by kernel_rfl) (by kernel_rfl) (by kernel_rfl) (fun _ _ _ h => h) (Or.inl ⟨by rfl, ?hy⟩) hHeld ?_
      case hy => (intro V hV; obtain ⟨hV1, hV2, hV3⟩ := hV; go_simp <;> rfl)
      simp only [Act.put, List.getElem_toArray, List.getElem_cons_succ, List.getElem_cons_zero, List.setIfInBounds_toArray, List.set_cons_succ, List.set_cons_zero]
      refine wpAnyH_take (i := 24) (v := (.string B)) rfl (by kernel_rfl) (by kernel_rfl) (by kernel_rfl) (fun _ _ _ h => h) (Or.inl ⟨by rfl, ?hy⟩) hHeld ?_
      case hy => (intro V hV; obtain ⟨hV1, hV2, hV3⟩ := hV; go_simp <;> rfl)
      simp only [Act.put, List.getElem_toArray, List.getElem_cons_succ, List.getElem_cons_zero, List.setIfInBounds_toArray, List.set_cons_succ, List.set_cons_zero]
      refine wpAnyH_ready (rs := [25]) (by kernel_rfl) (by simp) ?_
      refine AllReadyH.cons rfl (fun K hK => ?_) AllReadyH.nil
      refine step_callw (by rfl) 10 #[.int .u8 66, .int .i64 0] (by go_simp) ?_
      refine (fill_any 66 X2).mono ?_
      rintro e WA ⟨vWA, rfl, rWA, bWA⟩
      obtain ⟨aWA, cWA, hvWA⟩ := row_val rWA
      subst hvWA
      have kWA : (convert 28 9 (.slice aWA 64 cWA)).run Try.prog WA = .ok (.string B) WA := by rw [hB.out]; exact run_str 28 5 Try.underlying28 Try.underlying5 (own_bs rWA b66) 9 Try.underlying9
      replace hT := hT.trans (Tb.of_fresh bWA) (fun _ _ h => h)
      clear rWA bWA
      refine ⟨_, rfl, ?_⟩
      refine hK.out _ _ (HS.out _ hT) (fun hHeld => ?_)
      clear hK K
      simp only [Act.put, List.getElem_toArray, List.getElem_cons_succ, List.getElem_cons_zero, List.setIfInBounds_toArray, List.set_cons_succ, List.set_cons_zero]
      refine wpAnyH_ready (rs := [26]) (by kernel_rfl) (by simp) ?_
      refine AllReadyH.cons rfl (fun K hK => ?_) AllReadyH.nil
      refine step_runw (v := .string B) (by rfl) (exec_conv _ rfl (by simp [Act.eval]) kWA) ?_
      refine hK.out _ _ (HS.out _ hT) (fun hHeld => ?_)
      clear hK K kWA
      simp only [Act.put, List.getElem_toArray, List.getElem_cons_succ, List.getElem_cons_zero, List.setIfInBounds_toArray, List.set_cons_succ, List.set_cons_zero]
      refine wpAnyH_take (i := 27) (v := (.bool true)) rfl (by kernel_rfl) (by kernel_rfl) (by kernel_rfl) (fun _ _ _ h => h) (Or.inl ⟨by rfl, ?hy⟩) hHeld ?_
      case hy => (intro V hV; obtain ⟨hV1, hV2, hV3⟩ := hV; go_simp <;> rfl)
      simp only [Act.put, List.getElem_toArray, List.getElem_cons_succ, List.getElem_cons_zero, List.setIfInBounds_toArray, List.set_cons_succ, List.set_cons_zero]
      refine wpAnyH_take (i := 28) (v := (.bool true)) rfl (by kernel_rfl) (by kernel_rfl) (by kernel_rfl) (fun _ _ _ h => h) (Or.inl ⟨by rfl, ?hy⟩) hHeld ?_
      case hy => (intro V hV; obtain ⟨hV1, hV2, hV3⟩ := hV; go_simp <;> rfl)
      simp only [Act.put, List.getElem_toArray, List.getElem_cons_succ, List.getElem_cons_zero, List.setIfInBounds_toArray, List.set_cons_succ, List.set_cons_zero]
      refine wpAnyH_take (i := 29) (v := (.bool true)) rfl (by kernel_rfl) (by kernel_rfl) (by kernel_rfl) (fun _ _ _ h => h) (Or.inl ⟨by rfl, ?hy⟩) hHeld ?_
      case hy => (intro V hV; obtain ⟨hV1, hV2, hV3⟩ := hV; go_simp <;> rfl)
      simp only [Act.put, List.getElem_toArray, List.getElem_cons_succ, List.getElem_cons_zero, List.setIfInBounds_toArray, List.set_cons_succ, List.set_cons_zero]
      refine wpAnyH_take (i := 30) (v := (.int .i64 70)) rfl (by kernel_rfl) (by kernel_rfl) (by kernel_rfl) (fun _ _ _ h => h) (Or.inl ⟨by rfl, ?hy⟩) hHeld ?_
      case hy => (intro V hV; obtain ⟨hV1, hV2, hV3⟩ := hV; go_simp <;> rfl)
      simp only [Act.put, List.getElem_toArray, List.getElem_cons_succ, List.getElem_cons_zero, List.setIfInBounds_toArray, List.set_cons_succ, List.set_cons_zero]
      refine wpAnyH_take (i := 31) (v := (.bool true)) rfl (by kernel_rfl) (by kernel_rfl) (by kernel_rfl) (fun _ _ _ h => h) (Or.inl ⟨by rfl, ?hy⟩) hHeld ?_
      case hy => (intro V hV; obtain ⟨hV1, hV2, hV3⟩ := hV; go_simp <;> rfl)
      simp only [Act.put, List.getElem_toArray, List.getElem_cons_succ, List.getElem_cons_zero, List.setIfInBounds_toArray, List.set_cons_succ, List.set_cons_zero]
      refine wpAnyH_take (i := 32) (v := (.bool true)) rfl (by kernel_rfl) (by kernel_rfl) (by kernel_rfl) (fun _ _ _ h => h) (Or.inl ⟨by rfl, ?hy⟩) hHeld ?_
      case hy => (intro V hV; obtain ⟨hV1, hV2, hV3⟩ := hV; go_simp <;> rfl)
      simp only [Act.put, List.getElem_toArray, List.getElem_cons_succ, List.getElem_cons_zero, List.setIfInBounds_toArray, List.set_cons_succ, List.set_cons_zero]
      refine wpAnyH_take (i := 33) (v := (.bool true)) rfl (by kernel_rfl) (by kernel_rfl) (by kernel_rfl) (fun _ _ _ h => h) (Or.inl ⟨by rfl, ?hy⟩) hHeld ?_
      case hy => (intro V hV; obtain ⟨hV1, hV2, hV3⟩ := hV; go_simp <;> rfl)
      simp only [Act.put, List.getElem_toArray, List.getElem_cons_succ, List.getElem_cons_zero, List.setIfInBounds_toArray, List.set_cons_succ, List.set_cons_zero]
      refine wpAnyH_done (by kernel_rfl) ?_ _
      have HA := hide ((H18.out.kept hT).rot.first.less (us := []) (fun v hv => by cases hv))
      clear HS hT H18 hAA hBB hA hB hHeld
      go_wp2_with fail
      refine (fill_any 0 WA).mono ?_
      rintro e w101 ⟨vw101, rfl, rw101, bw101⟩
      have C := az_put (s := aS) (at' := 2) (data := sec64 0) (n := 64) HA.out (Tb.of_fresh bw101) rw101 b00 z5 (by omega) (by decide)
      rw [p1] at C
      have HC := hide C
      clear C HA
      clear rw101 bw101
      go_wp2_with fail
      refine HC.out.mono ?_
      rintro e w102 ⟨rfl, hw102, _⟩
      have HA := hide hw102
      clear hw102 HC
      go_wp2_with fail
      refine (fill_any 0 w102).mono ?_
      rintro e w103 ⟨vw103, rfl, rw103, bw103⟩
      have C := az_put (s := eS) (at' := 0) (data := sec64 0) (n := 64) HA.out (Tb.of_fresh bw103) rw103 b00 z5 (by omega) (by decide)
      rw [p2] at C
      have HC := hide C
      clear C HA
      clear rw103 bw103
      go_wp2_with fail
      refine HC.out.mono ?_
      rintro e w104 ⟨rfl, hw104, _⟩
      have HA := hide hw104
      clear hw104 HC
      go_wp2_with fail
      refine (fill63 w104).mono ?_
      rintro e w105 ⟨vw105, rfl, rw105, bw105⟩
      have C := az_put (s := aS) (at' := 0) (data := List.replicate 63 0) (n := 63) HA.out (Tb.of_fresh bw105) rw105 b63 z5 (by omega) (by decide)
      rw [p3] at C
      have HC := hide C
      clear C HA
      clear rw105 bw105
      go_wp2_with fail
      refine HC.out.mono ?_
      rintro e w106 ⟨rfl, hw106, _⟩
      have HA := hide hw106
      clear hw106 HC
      go_wp2_with fail
      refine (fill_any 0 w106).mono ?_
      rintro e w107 ⟨vw107, rfl, rw107, bw107⟩
      have C := az_put (s := aS) (at' := (-1)) (data := sec64 0) (n := 64) HA.out (Tb.of_fresh bw107) rw107 b00 z5 (by omega) (by decide)
      rw [p4] at C
      have HC := hide C
      clear C HA
      clear rw107 bw107
      go_wp2_with fail
      refine HC.out.mono ?_
      rintro e w108 ⟨rfl, hw108, _⟩
      have HA := hide hw108
      clear hw108 HC
      go_wp2_with fail
      refine (fill_any 0 w108).mono ?_
      rintro e w109 ⟨vw109, rfl, rw109, bw109⟩
      have C := az_put (s := newS) (at' := 1) (data := sec64 0) (n := 64) HA.out (Tb.of_fresh bw109) rw109 b00 z5 (by omega) (by decide)
      rw [p5] at C
      have HC := hide C
      clear C HA
      clear rw109 bw109
      go_wp2_with fail
      refine HC.out.mono ?_
      rintro e w110 ⟨rfl, hw110, _⟩
      have HA := hide hw110
      clear hw110 HC
      have C := az_sync (s := xS) HA.out z5 (by omega) (by decide)
      rw [p6] at C
      have HC := hide C
      clear C HA
      go_wp2_with fail
      refine HC.out.mono ?_
      rintro e w111 ⟨rfl, hw111, _⟩
      have HA := hide hw111
      clear hw111 HC
      have C := az_sync (s := eS) HA.out z5 (by omega) (by decide)
      rw [p7] at C
      have HC := hide C
      clear C HA
      go_wp2_with fail
      refine HC.out.mono ?_
      rintro e w112 ⟨rfl, hw112, _⟩
      have HA := hide hw112
      clear hw112 HC
      have C := az_cut (s := aS) (n := 2) HA.out z5 (by omega) (by decide) (by omega)
      rw [p8] at C
      have HC := hide C
      clear C HA
      go_wp2_with fail
      refine HC.out.mono ?_
      rintro e w113 ⟨rfl, hw113, _⟩
      have HA := hide hw113
      clear hw113 HC
      have C := az_cut (s := xS) (n := 0) HA.out z5 (by omega) (by decide) (by omega)
      rw [p9] at C
      have HC := hide C
      clear C HA
      go_wp2_with fail
      refine HC.out.mono ?_
      rintro e w114 ⟨rfl, hw114, _⟩
      have HA := hide hw114
      clear hw114 HC
      have C := az_rename (s := xS) (t := eS) HA.out z5 (by omega) (by decide) (by decide)
      rw [p10] at C
      have HC := hide C
      clear C HA
      go_wp2_with fail
      refine HC.out.mono ?_
      rintro e w115 ⟨rfl, hw115, _⟩
      have HA := hide hw115
      clear hw115 HC
      have C := az_rename (s := xS) (t := yS) HA.out z5 (by omega) (by decide) (by decide)
      rw [p11] at C
      have HC := hide C
      clear C HA
      go_wp2_with fail
      refine HC.out.mono ?_
      rintro e w116 ⟨rfl, hw116, _⟩
      have HA := hide hw116
      clear hw116 HC
      have C := az_remove (s := xS) HA.out z5 (by omega) (by decide)
      rw [p12] at C
      have HC := hide C
      clear C HA
      go_wp2_with fail
      refine HC.out.mono ?_
      rintro e w117 ⟨rfl, hw117, _⟩
      have HA := hide hw117
      clear hw117 HC
      go_wp2_with fail
      refine (fill_any 110 w117).mono ?_
      rintro e w118 ⟨vw118, rfl, rw118, bw118⟩
      obtain ⟨al, cl, hvl⟩ := row_val rw118
      subst hvl
      have kl : (convert 28 9 (.slice al 64 cl)).run Try.prog w118 = .ok (.string LS) w118 := by rw [hLS.out]; exact run_str 28 5 Try.underlying28 Try.underlying5 (own_bs rw118 (sec64_by (by omega))) 9 Try.underlying9
      have HA2 := hide (HA.out.kept (Tb.of_fresh bw118))
      clear HA rw118 bw118
      have HA := HA2
      clear HA2
      go_wp2_with fail
      refine (fill_any 0 w118).mono ?_
      rintro e w119 ⟨vw119, rfl, rw119, bw119⟩
      have C := az_put (s := LS) (at' := 0) (data := sec64 0) (n := 64) HA.out (Tb.of_fresh bw119) rw119 b00 z5 (by omega) (by have := HSZ.out; omega)
      rw [show n5.put LS 0 64 (sec64 0) = (0, n6) from (by rw [hLS.out]; exact q1)] at C
      have HC := hide C
      clear C HA
      clear rw119 bw119
      go_wp2_with fail
      refine HC.out.mono ?_
      rintro e w120 ⟨rfl, hw120, _⟩
      have HA := hide hw120
      clear hw120 HC
      go_wp2_with fail
      refine (fill_any 0 w120).mono ?_
      rintro e w121 ⟨vw121, rfl, rw121, bw121⟩
      have C := az_put (s := LM) (at' := 0) (data := sec64 0) (n := 64) HA.out (Tb.of_fresh bw121) rw121 b00 z6 (by omega) (by have := HSZ.out; omega)
      rw [show n6.put LM 0 64 (sec64 0) = (2, n6) from (by rw [hLM.out]; exact q2)] at C
      have HC := hide C
      clear C HA
      clear rw121 bw121
      go_wp2_with fail
      refine HC.out.mono ?_
      rintro e w122 ⟨rfl, hw122, _⟩
      have HA := hide hw122
      clear hw122 HC
      have C := az_rename (s := LS) (t := LS) HA.out z6 (by omega) (by have := HSZ.out; omega) (by have := HSZ.out; omega)
      rw [show n6.rename LS LS = (0, n6) from (by rw [hLS.out]; exact q3)] at C
      have HC := hide C
      clear C HA
      go_wp2_with fail
      refine HC.out.mono ?_
      rintro e w123 ⟨rfl, hw123, _⟩
      have HA := hide hw123
      clear hw123 HC
      have C := az_rename (s := LS) (t := LM) HA.out z6 (by omega) (by have := HSZ.out; omega) (by have := HSZ.out; omega)
      rw [show n6.rename LS LM = (2, n6) from (by rw [hLS.out, hLM.out]; exact q4)] at C
      have HC := hide C
      clear C HA
      go_wp2_with fail
      refine HC.out.mono ?_
      rintro e w124 ⟨rfl, hw124, _⟩
      have HA := hide hw124
      clear hw124 HC
      have C := az_arm (n := 1) HA.out (by omega)
      rw [r1] at C
      have HC := hide C
      clear C HA
      go_wp2_with fail
      refine HC.out.mono ?_
      rintro e w125 ⟨rfl, hw125, _⟩
      have HA := hide hw125
      clear hw125 HC
      have C := ax_syncNames HA.out (z7.few (by omega))
      rw [r2] at C
      have HC := hide C
      clear C HA
      go_wp2_with fail
      refine HC.out.mono ?_
      rintro e w126 ⟨rfl, hw126, _⟩
      have HA := hide hw126
      clear hw126 HC
      have C := ax_syncNames HA.out (z8.few (by omega))
      rw [r3] at C
      have HC := hide C
      clear C HA
      go_wp2_with fail
      refine HC.out.mono ?_
      rintro e w127 ⟨rfl, hw127, _⟩
      have HA := hide hw127
      clear hw127 HC
      have C := az_sync (s := LS) HA.out z9 (by omega) (by have := HSZ.out; omega)
      rw [show n9.sync LS = (6, n10) from (by rw [hLS.out]; exact r4)] at C
      have HC := hide C
      clear C HA
      go_wp2_with fail
      refine HC.out.mono ?_
      rintro e w128 ⟨rfl, hw128, _⟩
      have HA := hide hw128
      clear hw128 HC
      have C := ax_crash (p := none) (m := 0) (cap := 0) (ks := []) HA.out (z10.few (by omega)) rfl (by omega) (fun i b hb => by simp at hb)
      have HC := hide C
      clear C HA
      go_wp2_with fail
      refine HC.out.mono ?_
      rintro e w129 ⟨rfl, hw129, _⟩
      have HA := hide hw129
      clear hw129 HC
      have C := az_fail (n := 0) (e := 4) (d := n11) HA.out (by omega)
      rw [r6] at C
      have HC := hide C
      clear C HA
      go_wp2_with fail
      refine HC.out.mono ?_
      rintro e w130 ⟨rfl, hw130, _⟩
      have HA := hide hw130
      clear hw130 HC
      have C := ax_syncNames HA.out (z12.few (by omega))
      rw [r7] at C
      have HC := hide C
      clear C HA
      go_wp2_with fail
      refine HC.out.mono ?_
      rintro e w131 ⟨rfl, hw131, _⟩
      have HA := hide hw131
      clear hw131 HC
      have C := ax_syncNames HA.out (z13.few (by omega))
      rw [r8] at C
      have HC := hide C
      clear C HA
      go_wp2_with fail
      refine HC.out.mono ?_
      rintro e w132 ⟨rfl, hw132, _⟩
      have HA := hide hw132
      clear hw132 HC
      have C := az_fail (n := 0) (e := 2) HA.out (by omega)
      rw [r9] at C
      have HC := hide C
      clear C HA
      go_wp2_with fail
      refine HC.out.mono ?_
      rintro e w133 ⟨rfl, hw133, _⟩
      have HA := hide hw133
      clear hw133 HC
      have C := az_arm (n := -1) HA.out (by omega)
      rw [r10] at C
      have HC := hide C
      clear C HA
      go_wp2_with fail
      refine HC.out.mono ?_
      rintro e w134 ⟨rfl, hw134, _⟩
      have HA := hide hw134
      clear hw134 HC
      have C := az_arm (n := 0) HA.out (by omega)
      rw [r11] at C
      have HC := hide C
      clear C HA
      go_wp2_with fail
      refine HC.out.mono ?_
      rintro e w135 ⟨rfl, hw135, _⟩
      have HA := hide hw135
      clear hw135 HC
      have C := az_fail (n := 0) (e := 5) HA.out (by omega)
      rw [r12] at C
      have HC := hide C
      clear C HA
      go_wp2_with fail
      refine HC.out.mono ?_
      rintro e w136 ⟨rfl, hw136, _⟩
      have HA := hide hw136
      clear hw136 HC
      have C := ax_syncNames HA.out (z16.few (by omega))
      rw [r13] at C
      have HC := hide C
      clear C HA
      go_wp2_with fail
      refine HC.out.mono ?_
      rintro e w137 ⟨rfl, hw137, _⟩
      have HA := hide hw137
      clear hw137 HC
      go_wp2_with fail
      refine (limits_any w137).mono ?_
      rintro e w138 ⟨rfl, tw138⟩
      have HF1 := hide (HA.out.tb.trans tw138 (fun _ _ h => h))
      clear tw138 HA
      go_wp2_with fail
      refine (awake_any w138).mono ?_
      rintro e w139 ⟨rfl, tw139⟩
      go_wp2_with fail
      go_ret
      exact ⟨rfl, (((TW.out.trans ht.out (fun _ _ h => h)).trans HF1.out (fun _ _ h => h)).trans tw139 (fun _ _ h => h)).below (fun _ h => h.elim) (Nat.le_refl _)⟩

end fileNumbers
end Go.Proofs.Ytikhgjnjlkaobaa

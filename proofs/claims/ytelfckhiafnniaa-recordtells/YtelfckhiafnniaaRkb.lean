/-
  What CopyBatch and SameBatch of the statements' kit do; the chapter's batch.
-/
import Derived.Test.YtelfckhiafnniaaRkd
import Derived.Test.YtelfckhiafnniaaRde
namespace Go.Proofs.Ytelfckhiafnniaa
open Go.RowKit

theorem below_drew_of {n : Nat} {w W : World} (h : Below n w W) (q : Nat) : Below n w (W.drewN q) := below_drewN h q

set_option maxHeartbeats 1000000 in
theorem ksameb_any (p e f : Int) (a c : Option Addr) (n cap m dap : Nat) (xs : List (List Int)) (w : World) (hA : Rl w a n cap xs) (hC : Rl w c m dap xs) :
    Calls Try.prog 23 #[bv p e f (.slice a n cap), bv p e f (.slice c m dap)] w fun e w' => e = .returned (.bool true) ∧ Below w.heap.size w w' := by
  have hb1 := fresh w (.cells #[.int .i64 p, .int .i64 e, .int .i64 f, .slice a n cap] 28)
  have hb2 := hb1.alloc (by simp) (.cells #[.int .i64 p, .int .i64 e, .int .i64 f, .slice c m dap] 28)
  have C := ksames_any a c n cap m dap xs xs _ (hA.keep hb2) (hC.keep hb2)
  rw [decide_eq_true rfl] at C
  have he1 : (p == p) = true := by simp
  have he2 : (e == e) = true := by simp
  have he3 : (f == f) = true := by simp
  go_enter Try.func23, Try.ntmps23
  go_wp2_with fail
  refine C.mono ?_
  rintro e' w1 ⟨rfl, q, rfl⟩
  go_wp2_with fail
  go_ret
  exact ⟨rfl, below_drewN hb2 q⟩

set_option maxHeartbeats 1000000 in
theorem kcopyb_any (p e f : Int) (a : Option Addr) (n cap : Nat) (bss : List (List Int)) (w : World) (hR : Rl w a n cap bss) (hn : n ≤ 1000000) (hln : ∀ b ∈ bss, b.length ≤ 140737488355000) :
    Calls Try.prog 16 #[bv p e f (.slice a n cap)] w fun e' w' => ∃ v rs, e' = .returned (bv p e f v) ∧ LL w' w.heap.size v rs ∧ rs.map (·.2) = bss ∧ Below w.heap.size w w' := by
  have hb1 := fresh w (.cells #[.int .i64 p, .int .i64 e, .int .i64 f, .slice a n cap] 28)
  have hb2 := hb1.alloc (by simp) (.cells #[.int .i64 0, .int .i64 0, .int .i64 0, .slice none 0 0] 28)
  have C := krecs_any a n cap bss _ (hR.keep hb2) hn hln
  obtain ⟨W, hW⟩ : ∃ W, W = (w.alloc (.cells #[.int .i64 p, .int .i64 e, .int .i64 f, .slice a n cap] 28)).alloc (.cells #[.int .i64 0, .int .i64 0, .int .i64 0, .slice none 0 0] 28) := ⟨_, rfl⟩
  have hx : W.heap[w.heap.size]? = some (.cells #[.int .i64 p, .int .i64 e, .int .i64 f, .slice a n cap] 28 (0, 0)) := by
    rw [hW, Below.heap_alloc _ _ _ (by simp)]
    exact heap_alloc_new w _
  have hy : W.heap[w.heap.size + 1]? = some (.cells #[.int .i64 0, .int .i64 0, .int .i64 0, .slice none 0 0] 28 (0, 0)) := by
    rw [hW]
    have := heap_alloc_new (w.alloc (.cells #[.int .i64 p, .int .i64 e, .int .i64 f, .slice a n cap] 28)) (.cells #[.int .i64 0, .int .i64 0, .int .i64 0, .slice none 0 0] 28)
    simpa using this
  have hsz : W.heap.size = w.heap.size + 2 := by rw [hW]; simp
  rw [← hW] at C hb2
  have HW := hide hW
  clear hW hb1
  go_enter Try.func16, Try.ntmps16
  go_wp2_with fail
  rw [← HW.out]
  refine C.mono ?_
  rintro e' w1 ⟨v, rs, rfl, hL, hr, hb⟩
  have hs := hb.size
  obtain ⟨va, vc, hv⟩ := own_val hL.own
  generalize rs.length = vn at hv
  subst hv
  have hx1 := (hb.block _ (by omega)).trans hx
  have hy1 := (hb.block _ (by omega)).trans hy
  have hx2 : (w1.setCell ⟨w.heap.size, 3, none⟩ (.slice va vn vc)).heap[w.heap.size]? = some (.cells #[.int .i64 p, .int .i64 e, .int .i64 f, .slice va vn vc] 28 (0, 0)) := by
    rw [heap_setCell_same w1 _ 3 _ 28 _ hx1]
    rfl
  have hy2 : (w1.setCell ⟨w.heap.size, 3, none⟩ (.slice va vn vc)).heap[w.heap.size + 1]? = some (.cells #[.int .i64 0, .int .i64 0, .int .i64 0, .slice none 0 0] 28 (0, 0)) := ((Bar.set w1 w.heap.size 3 _).block _ (by omega) (by omega)).trans hy1
  obtain ⟨a0, a1, a2, a3, b0, b1, b2, b3⟩ := row4 hx1
  obtain ⟨c0, c1, c2, c3, d0, d1, d2, d3⟩ := row4 hx2
  obtain ⟨r0, r1, r2, r3, g0, g1, g2, g3⟩ := row4 hy2
  have F : Hid (LL (put4 (w1.setCell ⟨w.heap.size, 3, none⟩ (.slice va vn vc)) (w.heap.size + 1) (.int .i64 p) (.int .i64 e) (.int .i64 f) (.slice va vn vc)) w.heap.size (.slice va vn vc) rs ∧
      Below w.heap.size w (put4 (w1.setCell ⟨w.heap.size, 3, none⟩ (.slice va vn vc)) (w.heap.size + 1) (.int .i64 p) (.int .i64 e) (.int .i64 f) (.slice va vn vc))) := hide (by
    refine ⟨LL.less (LL.put4 (base := W.heap.size) ?_ (by omega) _ _ _ _) (by omega), below_put4 ((hb2.trans (hb.mono (by omega))).setCell (p := ⟨w.heap.size, 3, none⟩) (by simp) _) (by omega) _ _ _ _⟩
    refine hL.bar (Bar.set w1 w.heap.size 3 _) (fun b hb' hh => ?_) (fun r hr b hb' hh => ?_)
    · have := own_from hL.own hb'
      omega
    · have := own_from (hL.row r hr) hb'
      omega)
  clear hL hx hy hx1 hy1 hx2 hy2 C hb
  go_wp2_with fail
  refine bodyPost_ret (v := .agg #[.int .i64 p, .int .i64 e, .int .i64 f, .slice va vn vc]) (by simp [results, Try.results16, go_sem, r0, r1, r2, r3]) rfl ?_
  exact ⟨.slice va vn vc, rs, rfl, F.out.1, hr, F.out.2⟩

set_option maxHeartbeats 1000000 in
theorem one_any (w : World) : Calls Try.prog 11 #[] w fun e w' => ∃ g, e = .returned (bv 1 0 2 (.slice (some ⟨g, 0, none⟩) 1 1)) ∧ Rl w' (some ⟨g, 0, none⟩) 1 1 [[97]] ∧ Below w.heap.size w w' := by
  have kc := Lib.run_convert_bytes_const (P := Try.prog) (w.alloc (.cells #[.int .i64 0, .int .i64 0, .int .i64 0, .slice none 0 0] 28)) 22 5 #[.int .u8 97] 1 1 Try.underlying22 Try.underlying5
  rw [World.size_alloc] at kc
  go_enter Try.func11, Try.ntmps11
  go_wp2_with fail
  refine bodyPost_ret (v := .agg #[.int .i64 1, .int .i64 0, .int .i64 2, .slice (some ⟨w.heap.size + 1 + 1, 0, none⟩) 1 1]) (by simp [results, Try.results11, go_sem]) rfl ?_
  refine ⟨w.heap.size + 1 + 1, rfl, ⟨rfl, Nat.le_refl _, by omega, fun _ => ⟨w.heap.size + 1 + 1, 0, rfl, fun i hi => ⟨some ⟨w.heap.size + 1, 0, none⟩, 1, 1, ?_, ?_⟩⟩⟩, ((fresh w _).alloc (by simp) _).alloc (by simp; omega) _⟩
  · obtain rfl : i = 0 := by omega
    have h := heap_alloc_new ((w.alloc (.cells #[.int .i64 1, .int .i64 0, .int .i64 2, .slice (some ⟨w.heap.size + 1 + 1, 0, none⟩) 1 1] 28)).alloc (.cells #[.int .u8 97] 5 (1, 2))) (.cells #[.slice (some ⟨w.heap.size + 1, 0, none⟩) 1 1] 22)
    rw [World.size_alloc, World.size_alloc] at h
    rw [cell_of_row _ _ 0 _ 22 (0, 0) h]
    rfl
  · obtain rfl : i = 0 := by omega
    exact (row_mark (w.alloc (.cells #[.int .i64 1, .int .i64 0, .int .i64 2, .slice (some ⟨w.heap.size + 1 + 1, 0, none⟩) 1 1] 28)) (w.heap.size + 1) (by simp) [97] 1 (1, 2) rfl (by decide) (by decide)).alloc _

end Go.Proofs.Ytelfckhiafnniaa

/-
  NetNumbers, its walk: the longest packet, a net that is full.
-/
import Derived.Test.YtgkbjnfkimkmaaaNte
import Derived.Laws.OwnMore
namespace Go.Proofs.Ytgkbjnfkimkmaaa.netNumbers
open Go.RowKit Go.Proofs.Ytgkbjnfkimkmaaa
set_option maxRecDepth 100000

/-- make([]byte, n). -/
theorem make_run (n : Nat) (hn : n ≤ 100000) : ∃ Z : Array Value, (∀ W : World, (Instr.makeSlice (27 : TypeId) (.int .i64 (n : Int)) (.int .i64 (n : Int))).run Try.prog W = .ok (.slice (some ⟨W.heap.size, 0, none⟩) n n) (W.alloc (.cells Z 5))) ∧ Z = (U (List.replicate n 0)).toArray := by
  obtain ⟨i0, hi, hz0, hz1, hz2⟩ := info_parts info5
  refine ⟨(U (List.replicate n 0)).toArray, fun W => ?_, rfl⟩
  have h := run_make (P := Try.prog) W (27 : TypeId) 5 i0 (.int .u8 0) Try.underlying27 hi hz0 .i64 .i64 (n : Int) (n : Int) (by omega) (Int.le_refl _) (by rw [hz2]; omega) (by omega)
  rw [Int.toNat_natCast, hz1, Nat.mul_one] at h
  have e : madeCells (Value.int .u8 0).cells n = (U (List.replicate n 0)).toArray := by
    apply Array.toList_inj.1
    rw [show (Value.int .u8 0).cells = #[.int .u8 0] from rfl, toList_madeCells_one]
    simp [U]
  rw [e] at h
  exact h

theorem zeros_bs (W : World) (n : Nat) (hn : n ≤ 100000) : Bs (W.alloc (.cells (U (List.replicate n 0)).toArray 5)) (some ⟨W.heap.size, 0, none⟩) n n (List.replicate n 0) :=
  Bs.own (cur := U (List.replicate n 0)) (heap_alloc_new W _) (by simp [U]) (by simp) (Nat.le_refl _) (by omega) (fun z hz => by rw [(List.mem_replicate.1 hz).2]; omega) (by rw [List.take_of_length_le (by simp [U])]; rfl)

def E0 : Pk := ⟨0, 0, []⟩
def P0 (z : List Int) : Pk := ⟨-1, 4611686018427387904, z⟩
/-- The first packet, and j empty ones. -/
def Nj (z : List Int) (j : Nat) : Nt := ⟨(1, P0 z) :: (List.range j).map (fun i : Nat => ((i : Int) + 2, E0)), (j : Int) + 1⟩

theorem nj_len (z : List Int) (j : Nat) : (Nj z j).m.length = j + 1 := by simp [Nj]
theorem nj_next (z : List Int) (j : Nat) (h : j + 1 < 256) : (Nj z j).sendA [] = ((j : Int) + 2, 0) ∧ (Nj z j).sendN 0 0 [] = Nj z (j + 1) := by
  have hl := nj_len z j
  unfold Nt.sendA Nt.sendN Nt.putA Nt.putN
  rw [if_neg (by decide), if_neg (by omega), if_neg (by decide), if_neg (by omega)]
  have e : (j : Int) + 1 + 1 = (j : Int) + 2 := by omega
  refine ⟨by simp only [Nj, e], ?_⟩
  unfold Nj Nt.put
  simp only [List.range_succ, List.map_append, List.map_cons, List.map_nil, List.cons_append, e]
  congr 1
theorem nj_full (z b : List Int) (hb : b.length ≤ 65545) (f t : Int) : (Nj z 255).sendA b = (0, 5) ∧ (Nj z 255).sendN f t b = Nj z 255 := by
  have hl := nj_len z 255
  unfold Nt.sendA Nt.sendN Nt.putA Nt.putN
  rw [if_neg (by omega), if_pos (by omega), if_neg (by omega), if_pos (by omega)]
  exact ⟨rfl, rfl⟩
theorem long_no (n : Nt) (f t : Int) (b : List Int) (hb : b.length = 65546) : n.sendA b = (0, 3) ∧ n.sendN f t b = n := by
  unfold Nt.sendA Nt.sendN
  rw [if_pos (by omega), if_pos (by omega)]
  exact ⟨rfl, rfl⟩
theorem first_yes (z : List Int) (hz : z.length = 65545) : newNt.sendA z = (1, 0) ∧ newNt.sendN (-1) 4611686018427387904 z = Nj z 0 := by
  unfold Nt.sendA Nt.sendN
  rw [if_neg (by omega), if_neg (by omega)]
  exact ⟨rfl, rfl⟩

section
variable (z : List Int)
theorem one_at : lk (Nj z 255).m 1 = some (P0 z) := by simp [Nj, lk_cons]
theorem none_at (k : Int) (h : k < 1 ∨ 256 < k) : lk (Nj z 255).m k = none := lk_none_iff.2 (fun p hp e => by
  simp only [Nj, List.mem_cons, List.mem_map, List.mem_range] at hp
  rcases hp with rfl | ⟨i, hi, rfl⟩
  · simp only at e; omega
  · simp only at e; omega)
theorem nine_at : (lk (Nj z 255).m 9).isSome = true := by
  cases h : lk (Nj z 255).m 9 with
  | some p => rfl
  | none =>
    exfalso
    refine lk_none_iff.1 h (9, E0) ?_ rfl
    simp only [Nj, List.mem_cons, List.mem_map, List.mem_range]
    exact .inr ⟨7, by omega, rfl⟩

/-- Without the ninth; with the first's double. -/
def A6 : Nt := (Nj z 255).drop 9
def A7 : Nt := (A6 z).put (P0 z)
theorem l255 : (Nj z 255).last < 9223372036854775807 := show (255 : Int) + 1 < 9223372036854775807 from by decide
theorem a6_len (h : (Nj z 255).Ok) : (A6 z).m.length = 255 := by
  have := dl_length (k := (9 : Int)) h.un
  rw [nine_at z, nj_len] at this
  simp only [if_true] at this
  show (dl (Nj z 255).m 9).length = 255
  omega
theorem a6_one : lk (A6 z).m 1 = some (P0 z) := (lk_dl_other (by decide)).trans (one_at z)
theorem a6_no (k : Int) (h : k < 1 ∨ 256 < k ∨ k = 9) : lk (A6 z).m k = none := by
  by_cases e : k = 9
  · subst e; exact lk_dl_same
  · exact (lk_dl_other e).trans (none_at z k (by omega))
theorem a7_no (k : Int) (h : k < 1 ∨ k = 9) : lk (A7 z).m k = none := by
  show lk ((A6 z).m ++ [((A6 z).last + 1, P0 z)]) k = none
  rw [lk_append, a6_no z k (by omega), lk_cons, if_neg, lk_nil]
  · rfl
  · show ¬ ((255 : Int) + 1 + 1 = k)
    omega
end

set_option maxHeartbeats 8000000 in
theorem walk (w : World) : Calls Try.prog 3 #[] w fun e w' => e = .returned (.bool true) ∧ Below w.heap.size w w' := by
  obtain ⟨Z1, m1, hZ1⟩ := make_run 65546 (by omega)
  obtain ⟨Z2, m2, hZ2⟩ := make_run 65545 (by omega)
  obtain ⟨y, hy⟩ : ∃ y : List Int, Hid (y = List.replicate 65546 0) := ⟨_, hide rfl⟩
  obtain ⟨z, hz⟩ : ∃ z : List Int, Hid (z = List.replicate 65545 0) := ⟨_, hide rfl⟩
  have hyl : Hid (y.length = 65546) := hide (by rw [hy.out]; exact List.length_replicate ..)
  have hzl : Hid (z.length = 65545) := hide (by rw [hz.out]; exact List.length_replicate ..)
  have B1 : Hid (∀ W : World, Bs (W.alloc (.cells Z1 5)) (some ⟨W.heap.size, 0, none⟩) 65546 65546 y) := hide (fun W => by rw [hZ1, hy.out]; exact zeros_bs W _ (by omega))
  have B2 : Hid (∀ W : World, Bs (W.alloc (.cells Z2 5)) (some ⟨W.heap.size, 0, none⟩) 65545 65545 z) := hide (fun W => by rw [hZ2, hz.out]; exact zeros_bs W _ (by omega))
  have n1 : ∀ W : World, (Instr.makeSlice (27 : TypeId) (.int .i64 65546) (.int .i64 65546)).run Try.prog W = .ok (.slice (some ⟨W.heap.size, 0, none⟩) 65546 65546) (W.alloc (.cells Z1 5)) := m1
  have n2 : ∀ W : World, (Instr.makeSlice (27 : TypeId) (.int .i64 65545) (.int .i64 65545)).run Try.prog W = .ok (.slice (some ⟨W.heap.size, 0, none⟩) 65545 65545) (W.alloc (.cells Z2 5)) := m2
  clear hZ1 hZ2 hy hz m1 m2
  go_enter Try.func3, Try.ntmps3
  go_wp2_with fail
  refine (an_new w).mono ?_
  rintro e W1 ⟨R, M, rfl, h1⟩
  go_wp2_with fail
  refine (an_send (f := 0) (t := 0) (h1.alloc (.cells Z1 5)) (by decide) (i6 (by decide)) (i6 (by decide)) (B1.out W1)).mono ?_
  rintro e W2 ⟨rfl, h2, _⟩
  rw [(long_no newNt 0 0 y hyl.out).1]
  rw [(long_no newNt 0 0 y hyl.out).2] at h2
  clear h1
  go_wp2_with fail
  refine (an_send (f := -1) (t := 4611686018427387904) (h2.alloc (.cells Z2 5)) (by decide) (i6 (by decide)) (i6 (by decide)) (B2.out W2)).mono ?_
  rintro e W3 ⟨rfl, h3, _⟩
  rw [(first_yes z hzl.out).1]
  rw [(first_yes z hzl.out).2] at h3
  clear h2
  go_wp2_with fail
  go_loopw [6] (fun i wr => ∃ (j : Nat), j ≤ 255 ∧ i = .int .i64 ((j : Int) + 2) ∧ Hid (An w R M (Nj z j) wr))
    (fun i _ => 257 - (intOf i).toNat)
  case atStart => exact ⟨0, by omega, rfl, hide h3⟩
  case round =>
    obtain ⟨j, hj, rfl, hA⟩ := hrel
    by_cases hj2 : j < 255
    · have hn := nj_next z j (by omega)
      have C := an_send (f := 0) (t := 0) hA.out (by show (j : Int) + 1 < _; omega) (i6 (by decide)) (i6 (by decide)) (Bs.nil wr)
      rw [hn.1, hn.2] at C
      clear hn
      go_wp2_with fail
      refine C.mono ?_
      rintro e X ⟨rfl, hX, _⟩
      have HX := hide hX
      clear hX C
      go_wp2_with fail
      go_roundw
      case rel => exact ⟨j + 1, by omega, by simp; omega, HX⟩
      case measure => simp [intOf]; omega
    · obtain rfl : j = 255 := by omega
      have OK : Hid (Nj z 255).Ok := hide hA.out.net.ok
      have C1 := an_send (f := 0) (t := 0) hA.out (l255 z) (i6 (by decide)) (i6 (by decide)) (Bs.nil wr)
      rw [(nj_full z [] (by simp) 0 0).1, (nj_full z [] (by simp) 0 0).2] at C1
      clear h3
      go_wp2_with fail
      refine C1.mono ?_
      rintro e X1 ⟨rfl, h1, _⟩
      clear C1 hA
      go_wp2_with fail
      refine (an_send (f := 0) (t := 0) (h1.alloc (.cells Z1 5)) (l255 z) (i6 (by decide)) (i6 (by decide)) (B1.out X1)).mono ?_
      rintro e X2 ⟨rfl, h2, _⟩
      rw [(long_no (Nj z 255) 0 0 y hyl.out).1]
      rw [(long_no (Nj z 255) 0 0 y hyl.out).2] at h2
      clear h1
      go_wp2_with fail
      refine (an_double h2 (k := 1) (l255 z) (i6 (by decide))).mono ?_
      rintro e X3 ⟨rfl, h3, _⟩
      have e1 : (Nj z 255).dblA 1 = (0, 5) := by unfold Nt.dblA Nt.putA; rw [one_at z, nj_len]; rfl
      have e2 : (Nj z 255).dblN 1 = Nj z 255 := by unfold Nt.dblN Nt.putN; rw [one_at z, nj_len]; rfl
      rw [e1]
      rw [e2] at h3
      clear h2 e1 e2
      go_wp2_with fail
      refine (an_double h3 (k := 257) (l255 z) (i6 (by decide))).mono ?_
      rintro e X4 ⟨rfl, h4, _⟩
      have e1 : (Nj z 255).dblA 257 = (0, 100) := by unfold Nt.dblA; rw [none_at z 257 (by decide)]; rfl
      have e2 : (Nj z 255).dblN 257 = Nj z 255 := by unfold Nt.dblN; rw [none_at z 257 (by decide)]; rfl
      rw [e1]
      rw [e2] at h4
      clear h3 e1 e2
      go_wp2_with fail
      refine (an_drop h4 (k := 9) (i6 (by decide))).mono ?_
      rintro e X5 ⟨rfl, h5, _⟩
      have e1 : (Nj z 255).findE 9 = 0 := by unfold Nt.findE; rw [nine_at z]; rfl
      have e2 : (Nj z 255).drpN 9 = A6 z := by unfold Nt.drpN; rw [nine_at z]; rfl
      rw [e1]
      rw [e2] at h5
      clear h4 e1 e2
      go_wp2_with fail
      refine (an_double h5 (k := 1) (l255 z) (i6 (by decide))).mono ?_
      rintro e X6 ⟨rfl, h6, _⟩
      have e1 : (A6 z).dblA 1 = (257, 0) := by unfold Nt.dblA Nt.putA; rw [a6_one z, a6_len z OK.out]; rfl
      have e2 : (A6 z).dblN 1 = A7 z := by unfold Nt.dblN Nt.putN Nt.findA; rw [a6_one z, a6_len z OK.out]; rfl
      rw [e1]
      rw [e2] at h6
      clear h5 e1 e2
      go_wp2_with fail
      refine (an_deliver_no h6 (k := 0) (i6 (by decide)) (a7_no z 0 (by decide))).mono ?_
      rintro e X7 ⟨rfl, h7, _⟩
      clear h6
      go_wp2_with fail
      refine (an_drop (h7.alloc (.cells #[.int .i64 0, .int .i64 0, .int .i64 0, .slice none 0 0] (31 : TypeId))) (k := 9) (i6 (by decide))).mono ?_
      rintro e X8 ⟨rfl, h8, _⟩
      have e1 : (A7 z).findE 9 = 100 := by unfold Nt.findE; rw [a7_no z 9 (by decide)]; rfl
      have e2 : (A7 z).drpN 9 = A7 z := by unfold Nt.drpN; rw [a7_no z 9 (by decide)]; rfl
      rw [e1]
      rw [e2] at h8
      clear h7 e1 e2
      go_wp2_with fail
      refine (an_list h8).mono ?_
      rintro e X9 ⟨v, ts, rfl, hT, h9, _⟩
      obtain ⟨va, vc, rfl, _, _⟩ := hT.val
      have el : (A7 z).m.length = 256 := by
        show ((A6 z).m ++ [((A6 z).last + 1, P0 z)]).length = 256
        rw [List.length_append, a6_len z OK.out]
        rfl
      rw [el]
      have HB := hide h9.bel
      clear hT h8 el h9
      go_wp2_with fail
      refine (awake_any _).mono ?_
      rintro e X10 ⟨rfl, hb⟩
      have fin : Hid (Below w.heap.size w X10) := hide (HB.out.trans (hb.mono HB.out.size))
      clear hb
      go_wp2_with fail
      go_ret
      exact ⟨rfl, fin.out⟩

end Go.Proofs.Ytgkbjnfkimkmaaa.netNumbers

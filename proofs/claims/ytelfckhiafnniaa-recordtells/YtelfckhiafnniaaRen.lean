/-
  What Right, bodyOf and Encode of the program's record do.
-/
import Derived.Test.YtelfckhiafnniaaRec
import Derived.Test.YtelfckhiafnniaaFcv
import Derived.Test.YtelfckhiafnniaaOnu
import Derived.Test.YtelfckhiafnniaaOad
import Derived.Test.YtelfckhiafnniaaSuc
import Derived.Test.YtelfckhiafnniaaVax
namespace Go.Proofs.Ytelfckhiafnniaa
open Go.RowKit

theorem Bs.mid {w : World} {b off n cap : Nat} {zs : List Int} (hB : Bs w (some ⟨b, off, none⟩) n cap zs) (i m : Nat) (hi : i + m ≤ n) : Bs w (some ⟨b, off + i, none⟩) m (cap - i) ((zs.drop i).take m) := by
  have hl := hB.len
  have hle := hB.le
  have hr := hB.reach
  refine ⟨by simp; omega, by omega, by omega, take_byte (drop_byte hB.byte _) _, fun h => (by cases h), fun h => ?_⟩
  obtain ⟨b', off', ha, hc⟩ := hB.lies (by omega)
  simp only [Option.some.injEq, Addr.mk.injEq, and_true] at ha
  obtain ⟨rfl, rfl⟩ := ha
  refine ⟨_, _, rfl, fun k hk => ?_⟩
  rw [Nat.add_assoc, hc (i + k) (by omega)]
  simp [List.getD, hk]

theorem Bs.zero (w : World) (ad : Addr) (cap : Nat) (hr : cap ≤ 9223372036854775807) : Bs w (some ad) 0 cap [] := ⟨rfl, Nat.zero_le _, hr, by simp, fun h => (by cases h), fun h => by omega⟩

theorem info22 : (Try.prog.info? 22).map (fun i => (i.zero, i.size, i.bytes)) = some (some (.slice none 0 0), 1, 24) := by kernel_rfl

theorem fresh (w : World) (o : Obj) : Below w.heap.size w (w.alloc o) := (Below.refl _ w).alloc (Nat.le_refl _) o

theorem Bar.set (w : World) (R i : Nat) (v : Value) : Bar (fun k => k = R) w (w.setCell ⟨R, i, none⟩ v) :=
  ⟨rfl, rfl, rfl, by simp, fun k _ hk => Below.heap_setCell w ⟨R, i, none⟩ v k hk⟩

theorem own_not {w : World} {base n B : Nat} {t u : TypeId} {v : Value} {xs : List Value} {cs : Array Value} (h : w.ownsRow base t 1 v n xs) (hB : w.heap[B]? = some (.cells cs u (0, 0))) (htu : t ≠ u) {b : Nat} (hb : v.ownBlock = some b) : b ≠ B := by
  intro e
  rcases h.2 with ⟨h2, _⟩ | ⟨g, cap, cur, h2, _, hg, _⟩
  · rw [h2] at hb
    cases hb
  · rw [h2] at hb
    simp only [Value.ownBlock, Option.some.injEq] at hb
    rw [hb, e, hB] at hg
    simp only [Option.some.injEq, Obj.cells.injEq] at hg
    exact htu hg.2.1.symm

set_option maxHeartbeats 400000 in
theorem u64_any (a : Option Addr) (n cap : Nat) (zs : List Int) (at' : Int) (w : World) (hB : Bs w a n cap zs) :
    Calls Try.prog 33 #[.slice a n cap, .int .i64 at'] w fun e w' => e = .returned (.tuple #[.int .u64 (onum zs at' 8), .bool (wit n at' 8)]) ∧ w' = w := by
  go_enter Try.func33, Try.ntmps33
  go_wp2_with (go_at_call 51; refine (number_any _ _ _ zs _ 8 _ hB (by omega) (by omega)).mono ?_; rintro e w' ⟨rfl, rfl⟩)
  go_ret2
  exact ⟨rfl, rfl⟩

set_option maxHeartbeats 400000 in
theorem add64_any (v : Nat) (w : World) :
    Calls Try.prog 30 #[.slice none 0 0, .int .u64 v] w fun e w' => e = .returned (.slice (some ⟨w.heap.size, 0, none⟩) 8 8) ∧
      Bs w' (some ⟨w.heap.size, 0, none⟩) 8 8 (be 8 v) ∧ Below w.heap.size w w' := by
  go_enter Try.func30, Try.ntmps30
  go_wp2_with (go_at_call 49; refine (addNumber_any _ _ _ [] _ 8 _ (Bs.nil _) (by omega) (by omega)).mono ?_; rintro e w1 ⟨rfl, hg1, hb1⟩; have HG1 := hide hg1; clear hg1)
  go_ret
  have := add_bs (n := 0) rfl (by simp) (by omega) HG1.out
  exact ⟨rfl, by simpa using this, hb1⟩

set_option maxHeartbeats 400000 in
theorem add32_row (a : Option Addr) (n cap : Nat) (zs : List Int) (v : Nat) (w : World) (hB : Bs w a n cap zs) (h1 : n + 4 ≤ 281474976710656) (hv : v ≤ 4294967295) :
    Calls Try.prog 29 #[.slice a n cap, .int .u32 v] w fun e w' => e = .returned (.slice (some ⟨w.heap.size, 0, none⟩) (n + 4) (n + 4)) ∧
      w'.heap[w.heap.size]? = some (.cells (U (zs ++ be 4 v)).toArray 5 (0, 0)) ∧ Below w.heap.size w w' := by
  go_enter Try.func29, Try.ntmps29
  go_wp2_with (go_at_call 49; refine (addNumber_any _ _ _ zs _ 4 _ hB h1 (by omega)).mono ?_; rintro e w1 ⟨rfl, hg1, hb1⟩; have HG1 := hide hg1; clear hg1)
  go_ret
  exact ⟨rfl, HG1.out, hb1⟩

/-- A batch as a value. -/
abbrev bv (pid ep first : Int) (v : Value) : Value := .agg #[.int .i64 pid, .int .i64 ep, .int .i64 first, v]

def rightB (bss : List (List Int)) : Bool := decide (bss.length ≤ 256) && bss.all (fun r => decide (r.length ≤ 1024))

theorem rightB_iff {pid ep first : Int} {bss : List (List Int)} : rightB bss = true ↔ Right ⟨pid, ep, first, bss⟩ := by
  simp only [rightB, Bool.and_eq_true, decide_eq_true_eq, List.all_eq_true]
  exact ⟨fun h => ⟨h.1, h.2⟩, fun h => ⟨h.count, h.size⟩⟩

theorem Rl.byte {w : World} {a : Option Addr} {n cap : Nat} {bss : List (List Int)} (h : Rl w a n cap bss) : ∀ r ∈ bss, ∀ z ∈ r, 0 ≤ z ∧ z ≤ 255 := by
  intro r hr
  obtain ⟨i, hi, rfl⟩ := List.getElem_of_mem hr
  have hn := h.len
  obtain ⟨b, off, _, hc⟩ := h.lies (by omega)
  obtain ⟨c, m, d, _, hB⟩ := hc i (by omega)
  have := hB.byte
  simpa [List.getD, List.getElem?_eq_getElem hi] using this

theorem all_take_succ {bss : List (List Int)} {k : Nat} (h : k < bss.length) : (bss.take (k + 1)).all (fun r => decide (r.length ≤ 1024)) = ((bss.take k).all (fun r => decide (r.length ≤ 1024)) && decide ((bss.getD k []).length ≤ 1024)) := by
  rw [List.take_succ_eq_append_getElem h, List.all_append]
  simp [List.getD, List.getElem?_eq_getElem h]

set_option maxHeartbeats 1000000 in
theorem right_any (pid ep first : Int) (a : Option Addr) (n cap : Nat) (bss : List (List Int)) (w : World) (hR : Rl w a n cap bss) :
    Calls Try.prog 20 #[bv pid ep first (.slice a n cap)] w fun e w' => e = .returned (.bool (rightB bss)) ∧ Below w.heap.size w w' := by
  have hl := hR.len
  have hle := hR.le
  have hre := hR.reach
  by_cases hn : 256 < n
  · have e : rightB bss = false := by unfold rightB; rw [decide_eq_false (by omega)]; rfl
    rw [e]
    go_enter Try.func20, Try.ntmps20
    go_wp2_with fail
    go_ret
    exact ⟨rfl, fresh _ _⟩
  · have e0 : rightB bss = bss.all (fun r => decide (r.length ≤ 1024)) := by unfold rightB; rw [decide_eq_true (by omega)]; rfl
    go_enter Try.func20, Try.ntmps20
    go_wp2_with fail
    obtain ⟨W, hW⟩ : ∃ W, W = w.alloc (.cells #[.int .i64 pid, .int .i64 ep, .int .i64 first, .slice a n cap] 28) := ⟨_, rfl⟩
    rw [← hW]
    have hb : Below w.heap.size w W := by rw [hW]; exact fresh _ _
    have hRW := hR.keep hb
    clear hW
    go_loopw [12] (fun i wr => ∃ k : Nat, k ≤ n ∧ i = .int .i64 k ∧ wr = W ∧ Hid ((bss.take k).all (fun r => decide (r.length ≤ 1024)) = true)) (fun i _ => n - (intOf i).toNat)
    case atStart => exact ⟨0, Nat.zero_le _, rfl, rfl, hide (by simp)⟩
    case round =>
      obtain ⟨k, hk, rfl, hwr, hall⟩ := hrel
      subst hwr
      by_cases hlt : k < n
      · obtain ⟨b1, o1, rfl, hc1⟩ := hRW.lies (by omega)
        obtain ⟨p1, m1, d1, hk1, hB1⟩ := hc1 k hlt
        have key := hide (all_take_succ (bss := bss) (k := k) (by omega))
        have hlm := hB1.len
        have hle1 := hB1.le
        have hre1 := hB1.reach
        by_cases hm : 1024 < m1
        · go_wp2_with fail
          go_ret
          refine ⟨?_, hb⟩
          have : bss.all (fun r => decide (r.length ≤ 1024)) = false := by
            cases hh : bss.all (fun r => decide (r.length ≤ 1024)) with
            | false => rfl
            | true =>
              have h2 := List.all_eq_true.1 hh (bss.getD k []) (by simp [List.getD, List.getElem?_eq_getElem (show k < bss.length by omega)])
              simp only [decide_eq_true_eq] at h2
              omega
          rw [e0, this]
          rfl
        · go_wp2_with fail
          go_roundw
          case rel => exact ⟨k + 1, by omega, by go_num, by first | rfl | trivial, hide (by rw [key.out, hall.out, decide_eq_true (by omega)]; rfl)⟩
          case measure => simp [intOf]; omega
      · obtain rfl : k = n := by omega
        have e1 : bss.all (fun r => decide (r.length ≤ 1024)) = true := by
          have := hall.out
          rwa [List.take_of_length_le (by omega)] at this
        have E1 := hide e1
        clear e1
        go_wp2_with fail
        go_ret
        refine ⟨?_, hb⟩
        rw [e0, E1.out]
        rfl

def vbs : List Int → List Int
  | [] => []
  | n :: l => vb (fo n) ++ vbs l

theorem vbs_append (l m : List Int) : vbs (l ++ m) = vbs l ++ vbs m := by
  induction l with
  | nil => rfl
  | cons r l ih => simp [vbs, ih]

theorem body_vbs (b : Bt) : body b = vbs [b.pid, b.ep, b.first] ++ (vb b.recs.length ++ rbs b.recs) := by simp [body, vbs]

theorem vbs_take_succ (l : List Int) (k : Nat) (h : k < l.length) : vbs (l.take (k + 1)) = vbs (l.take k) ++ vb (fo (l.getD k 0)) := by
  rw [List.take_succ_eq_append_getElem h, vbs_append]
  simp [vbs, List.getD, List.getElem?_eq_getElem h]

theorem rbs_take_succ (l : List (List Int)) (k : Nat) (h : k < l.length) : rbs (l.take (k + 1)) = rbs (l.take k) ++ (vb (l.getD k []).length ++ l.getD k []) := by
  rw [List.take_succ_eq_append_getElem h, rbs_append]
  simp [rbs, rb, List.getD, List.getElem?_eq_getElem h]

theorem vbs_length (l : List Int) (h : ∀ n ∈ l, I64 n) : (vbs l).length ≤ 10 * l.length := by
  induction l with
  | nil => simp [vbs]
  | cons n l ih =>
    have h1 := ih (fun m hm => h m (by simp [hm]))
    have h2 := h n (by simp)
    have h3 := vb_len10 (fo_lt h2.1 h2.2)
    simp only [vbs, List.length_append, List.length_cons]
    omega

set_option maxRecDepth 100000 in
set_option maxHeartbeats 2000000 in
theorem body_any (pid ep first : Int) (a : Option Addr) (n cap : Nat) (bss : List (List Int)) (w : World) (hR : Rl w a n cap bss) (hr : Right ⟨pid, ep, first, bss⟩) (hd : Bd ⟨pid, ep, first, bss⟩) :
    Calls Try.prog 28 #[bv pid ep first (.slice a n cap)] w fun e w' => ∃ g c, e = .returned (.slice (some ⟨g, 0, none⟩) (body ⟨pid, ep, first, bss⟩).length c) ∧
      w'.ownsRow w.heap.size 5 1 (.slice (some ⟨g, 0, none⟩) (body ⟨pid, ep, first, bss⟩).length c) (body ⟨pid, ep, first, bss⟩).length (U (body ⟨pid, ep, first, bss⟩)) ∧ Below w.heap.size w w' := by
  obtain ⟨i0, hi, hz0, hz1, hz2⟩ := info_parts info5
  have hl := hR.len
  have hle := hR.le
  have hre := hR.reach
  have hcnt : n ≤ 256 := by have := hr.count; simp only at this; omega
  have hI : ∀ x ∈ [pid, ep, first], I64 x := by
    intro x hx
    simp only [List.mem_cons, List.not_mem_nil, or_false] at hx
    rcases hx with rfl | rfl | rfl
    · exact hd.pid
    · exact hd.ep
    · exact hd.first
  go_enter Try.func28, Try.ntmps28
  go_wp2_with fail
  obtain ⟨W, hW⟩ : ∃ W, W = (w.alloc (.cells #[.int .i64 pid, .int .i64 ep, .int .i64 first, .slice a n cap] 28)).alloc (.cells #[.int .i64 pid, .int .i64 ep, .int .i64 first] 2) := ⟨_, rfl⟩
  rw [← hW]
  have hb : Below w.heap.size w W := by rw [hW]; exact (fresh _ _).alloc (by simp) _
  have hsz : W.heap.size = w.heap.size + 2 := by rw [hW]; simp
  have hbox : W.heap[w.heap.size]? = some (.cells #[.int .i64 pid, .int .i64 ep, .int .i64 first, .slice a n cap] 28 (0, 0)) := by
    rw [hW, Below.heap_alloc _ _ _ (by simp)]
    exact heap_alloc_new w _
  have hrow : W.heap[w.heap.size + 1]? = some (.cells #[.int .i64 pid, .int .i64 ep, .int .i64 first] 2 (0, 0)) := by
    rw [hW]
    have := heap_alloc_new (w.alloc (.cells #[.int .i64 pid, .int .i64 ep, .int .i64 first, .slice a n cap] 28)) (.cells #[.int .i64 pid, .int .i64 ep, .int .i64 first] 2)
    simpa using this
  have hRW := hR.keep hb
  clear hW
  have hcell : ∀ wr, Below W.heap.size W wr → wr.cell? ⟨w.heap.size, 3, none⟩ = some (.slice a n cap) ∧ ∀ k, k < 3 → wr.cell? ⟨w.heap.size + 1, k, none⟩ = some (.int .i64 ([pid, ep, first].getD k 0)) := by
    intro wr hbr
    have h1 := (hbr.block _ (by omega)).trans hbox
    have h2 := (hbr.block _ (by omega)).trans hrow
    refine ⟨by rw [cell_of_row wr _ 3 _ 28 (0, 0) h1]; rfl, fun k hk => ?_⟩
    rw [cell_of_row wr _ k _ 2 (0, 0) h2]
    rcases (show k = 0 ∨ k = 1 ∨ k = 2 by omega) with rfl | rfl | rfl <;> rfl
  have HC := hide hcell
  clear hcell hbox hrow
  have HSZ := hide hsz
  have hws : w.heap.size ≤ W.heap.size := by omega
  clear hsz
  go_loopw [3, 16] (fun v i wr => ∃ k : Nat, k ≤ 3 ∧ i = .int .i64 k ∧ Hid (wr.ownsRow W.heap.size 5 1 v (vbs ([pid, ep, first].take k)).length (U (vbs ([pid, ep, first].take k)))) ∧ Below W.heap.size W wr) (fun _ i _ => 3 - (intOf i).toNat)
  case atStart => exact ⟨0, Nat.zero_le _, rfl, hide (World.ownsRow_nil _ _ _ _), Below.refl _ _⟩
  case round =>
    obtain ⟨k, hk, rfl, ho, hbr⟩ := hrel
    have hs := hbr.size
    have hvl := vbs_length ([pid, ep, first].take k) (fun x hx => hI x (List.mem_of_mem_take hx))
    rw [List.length_take] at hvl
    obtain ⟨hc3, hck⟩ := HC.out wr hbr
    by_cases hlt : k < 3
    · have hc := hck k hlt
      have hIx : I64 ([pid, ep, first].getD k 0) := by rcases (show k = 0 ∨ k = 1 ∨ k = 2 by omega) with rfl | rfl | rfl <;> exact hI _ (by simp)
      have key := hide (vbs_take_succ [pid, ep, first] k hlt)
      clear hck hc3
      generalize [pid, ep, first].getD k 0 = x at hc hIx key
      go_wp2_with fail
      refine (putInt_bs none 0 0 [] x hIx.1 hIx.2 _ (Bs.nil _) (by omega)).mono ?_
      rintro e w1 ⟨g, rfl, hB1, hg, hb1⟩
      have hs1 := hb1.size
      have h10 := vb_len10 (fo_lt hIx.1 hIx.2)
      rw [Nat.zero_add, List.nil_append] at hB1
      rw [Nat.zero_add]
      have ho1 := hide (keep_own ho.out hb1)
      go_wp2_with (at_builtin; refine wpList_append_val rfl (.tmp 20) (.tmp 22) 22 rfl W.heap.size 5 i0 Try.underlying22 hi hz0 hz1 hz2 _ _ _ rfl ho1.out _ _ _ _ rfl hB1 (by omega) (by omega) ?_; intro v2 w2 hown2 hgrow2; have HO2 := hide hown2; clear hown2)
      go_roundw
      case rel =>
        refine ⟨k + 1, by omega, by go_num, hide ?_, (hbr.trans (hb1.mono hs)).grown hgrow2 (by omega) (fun j hj => own_from ho1.out hj)⟩
        have h := HO2.out
        rw [← U_append] at h
        rw [key.out, List.length_append]
        exact h
      case measure => simp [intOf]; omega
    · obtain rfl : k = 3 := by omega
      have hH : vbs ([pid, ep, first].take 3) = vbs [pid, ep, first] := rfl
      rw [hH] at ho hvl
      have hhl : (vbs [pid, ep, first]).length ≤ 30 := by simpa using hvl
      clear hck hvl hH
      go_wp2_with fail
      refine (put_bs none 0 0 [] n (by omega) _ (Bs.nil _) (by omega)).mono ?_
      rintro e w1 ⟨g, rfl, hB1, hg, hb1⟩
      have hs1 := hb1.size
      have h10 := vb_len10 (show n < 18446744073709551616 by omega)
      rw [Nat.zero_add, List.nil_append] at hB1
      rw [Nat.zero_add]
      have ho1 := hide (keep_own ho.out hb1)
      have hbx : Below W.heap.size W w1 := hbr.trans (hb1.mono hs)
      have hc3' := (HC.out w1 hbx).1
      go_wp2_with (at_builtin; refine wpList_append_val rfl (.tmp 25) (.tmp 30) 22 rfl W.heap.size 5 i0 Try.underlying22 hi hz0 hz1 hz2 _ _ _ rfl ho1.out _ _ _ _ rfl hB1 (by omega) (by omega) ?_; intro v2 w2 hown2 hgrow2; rw [← U_append] at hown2; have hb2 : Below W.heap.size W w2 := hbx.grown hgrow2 (by omega) (fun j hj => own_from ho1.out hj); have hc2 := (HC.out w2 hb2).1; have HO2 := hide hown2; clear hown2 hgrow2)
      obtain ⟨H, hH⟩ : ∃ H, H = vbs [pid, ep, first] ++ vb n := ⟨_, rfl⟩
      have hHl : H.length = (vbs [pid, ep, first]).length + (vb n).length := by rw [hH, List.length_append]
      have hHl2 : H.length ≤ 40 := by omega
      rw [← hH, ← hHl] at HO2
      have hfin : body ⟨pid, ep, first, bss⟩ = H ++ rbs bss := by rw [body_vbs, hH, List.append_assoc]; simp only [hl]
      have HF := hide hfin
      clear hfin hH ho ho1 hB1 hHl
      have hsz2 := hr.size
      simp only at hsz2
      obtain ⟨wq, hwq⟩ : ∃ wq : World, wq = wr := ⟨_, rfl⟩
      subst hwq
      go_loopw [3, 35] (fun v i wr => ∃ k : Nat, k ≤ n ∧ i = .int .i64 k ∧ Hid (wr.ownsRow W.heap.size 5 1 v (H ++ rbs (bss.take k)).length (U (H ++ rbs (bss.take k)))) ∧ Below W.heap.size W wr) (fun _ i _ => n - (intOf i).toNat)
      case atStart => exact ⟨0, Nat.zero_le _, rfl, hide (by simpa [rbs] using HO2.out), hb2⟩
      case round =>
        obtain ⟨k, hk, rfl, ho, hbr⟩ := hrel
        have hs := hbr.size
        have hvl := rbs_length (l := bss.take k) (fun r hr => hsz2 r (List.mem_of_mem_take hr))
        rw [List.length_take] at hvl
        have hvl2 : (H ++ rbs (bss.take k)).length ≤ 300000 := by rw [List.length_append]; omega
        by_cases hlt : k < n
        · obtain ⟨b1, o1, rfl, hc1⟩ := hRW.lies (by omega)
          obtain ⟨p1, m1, d1, hk1, hBk⟩ := hc1 k hlt
          rw [← hbr.cell (cell_lt hk1)] at hk1
          have key := hide (rbs_take_succ bss k (by omega))
          have hm1 : m1 ≤ 1024 := by
            have := hsz2 (bss.getD k []) (by simp [List.getD, List.getElem?_eq_getElem (show k < bss.length by omega)])
            rw [hBk.len] at this
            exact this
          have hBl := hBk.len
          have hle1 := hBk.le
          have hre1 := hBk.reach
          clear hc1
          generalize bss.getD k [] = r at hBk hBl key
          go_wp2_with fail
          refine (put_bs none 0 0 [] m1 (by omega) _ (Bs.nil _) (by omega)).mono ?_
          rintro e w3 ⟨g3, rfl, hB3, hg3, hb3⟩
          have hs3 := hb3.size
          have h103 := vb_len10 (show m1 < 18446744073709551616 by omega)
          rw [Nat.zero_add, List.nil_append] at hB3
          rw [Nat.zero_add]
          have ho3 := hide (keep_own ho.out hb3)
          go_wp2_with (at_builtin; first
            | (refine wpList_append_val rfl (.tmp 39) (.tmp 43) 22 rfl W.heap.size 5 i0 Try.underlying22 hi hz0 hz1 hz2 _ _ _ rfl ho3.out _ _ _ _ rfl hB3 (by omega) (by omega) ?_; intro v4 w4 hown4 hgrow4; have hb4 : Below W.heap.size W w4 := (hbr.trans (hb3.mono hs)).grown hgrow4 (by omega) (fun j hj => own_from ho3.out hj); have HO4 := hide hown4; have hB4 := hBk.keep hb4; have hs4 := hb4.size; clear hown4 hgrow4)
            | (refine wpList_append_val rfl (.tmp 45) (.tmp 46) 22 rfl W.heap.size 5 i0 Try.underlying22 hi hz0 hz1 hz2 _ _ _ rfl HO4.out _ _ _ _ rfl hB4 (by omega) (by omega) ?_; intro v5 w5 hown5 hgrow5; have HO5 := hide hown5; clear hown5))
          go_roundw
          case rel =>
            refine ⟨k + 1, by omega, by go_num, hide ?_, hb4.grown hgrow5 (by omega) (fun j hj => own_from HO4.out hj)⟩
            have h := HO5.out
            rw [← U_append, ← U_append] at h
            have e : H ++ rbs (bss.take (k + 1)) = H ++ rbs (bss.take k) ++ vb m1 ++ r := by rw [key.out, hBl]; simp
            rw [e]
            simpa [hBl, Nat.add_assoc] using h
          case measure => simp [intOf]; omega
        · obtain rfl : k = n := by omega
          rw [List.take_of_length_le (by omega), ← HF.out] at ho
          obtain ⟨g5, c5, hv5⟩ := own_shape ho.out (by have := body_length hr hd; omega)
          subst hv5
          go_wp2_with fail
          go_ret
          exact ⟨g5, c5, rfl, own_less ho.out hws, hb.trans (hbr.mono hws)⟩

end Go.Proofs.Ytelfckhiafnniaa

/-
  sectorsFor; the sectors of a clean file, handed on one behind the other.
-/
import Derived.Test.YtkdolabhcbjipaaGreatSga
import Derived.Test.YtkdolabhcbjipaaGreatQka1f78936
import Derived.Test.YtkdolabhcbjipaaGreatSgd
import Derived.Test.YtkdolabhcbjipaaGreatFen
import Derived.Test.YtkdolabhcbjipaaGreatGwh
namespace Go.Proofs.YtkdolabhcbjipaaGreat
open Go.RowKit Go.Shelf
set_option maxRecDepth 100000
set_option linter.unusedVariables false

attribute [local go_sem] Oper.semAt_some

theorem div62 (n : Nat) : ((n : Int) + 62 - 1) / 62 = (nsec n : Int) := by unfold nsec; omega

set_option maxHeartbeats 1000000 in
theorem sectorsFor_in (F : Fence) (n : Nat) (h51 : F.fn 35) (hro : F.round = none) (m : Nat) (hm : m ≤ 1000000000000000) (w : World) :
    CallsIn F n Tryz.prog 35 #[.int .i64 (m : Int)] w fun e w' => e = .returned (.int .i64 (nsec m : Int)) ∧ w' = w := by
  refine callsIn_of_wp Tryz.func35 rfl h51 ?_ hro
  simp only [Tryz.ntmps35, List.size_toArray, List.length_cons, List.length_nil, Nat.reduceAdd, Nat.reduceSub, Array.replicate_succ, Array.replicate_zero, List.push_toArray, List.append_toArray, List.nil_append, List.cons_append]
  have hd := div62 m
  have hq : ((m : Int) + 62 - 1).tdiv 62 = (nsec m : Int) := by rw [Int.tdiv_eq_ediv_of_nonneg (by omega)]; exact hd
  have hl : nsec m ≤ 1000000000000000 := by unfold nsec; omega
  gi_wp2
  go_ret
  exact ⟨rfl, rfl⟩

theorem sectorsFor_any (m : Nat) (hm : m ≤ 1000000000000000) (w : World) :
    Calls Tryz.prog 35 #[.int .i64 (m : Int)] w fun e w' => e = .returned (.int .i64 (nsec m : Int)) ∧ w' = w :=
  callsIn_wide.1 (sectorsFor_in Fence.wide 1 trivial rfl m hm w)

/-- The blocks of a set stay. -/
def Ks (S : Nat → Prop) (V X : World) : Prop := V.heap.size ≤ X.heap.size ∧ ∀ k, S k → k < V.heap.size → X.heap[k]? = V.heap[k]?
theorem Ks.refl (S : Nat → Prop) (V : World) : Ks S V V := ⟨Nat.le_refl _, fun _ _ _ => rfl⟩
theorem Ks.trans {S : Nat → Prop} {A B C : World} (h : Ks S A B) (k : Ks S B C) : Ks S A C := ⟨Nat.le_trans h.1 k.1, fun i hi hl => (k.2 i hi (Nat.lt_of_lt_of_le hl h.1)).trans (h.2 i hi hl)⟩
theorem Ks.cell {S : Nat → Prop} {A B : World} (h : Ks S A B) {p : Addr} {v : Value} (hp : A.cell? p = some v) (hS : S p.block) : B.cell? p = some v := by
  rw [World.cell?_of_block (h.2 _ hS (cell_lt hp))]
  exact hp
theorem Ks.bs {S : Nat → Prop} {A B : World} (h : Ks S A B) {a : Option Addr} {n cap : Nat} {zs : List Int} (hB : Bs A a n cap zs) (hS : ∀ b off, 0 < n → a = some ⟨b, off, none⟩ → S b) : Bs B a n cap zs :=
  ⟨hB.len, hB.le, hB.reach, hB.byte, hB.bare, fun hn => by
    obtain ⟨b, off, e, hc⟩ := hB.lies hn
    exact ⟨b, off, e, fun i hi => h.cell (hc i hi) (hS b off hn e)⟩⟩
theorem Ks.below {S : Nat → Prop} {A B : World} (h : Below A.heap.size A B) : Ks S A B := ⟨h.size, fun k _ hk => h.block k hk⟩
theorem Ks.no {P S : Nat → Prop} {A B : World} (h : No P A B) (hS : ∀ k, S k → k < A.heap.size → P k) : Ks S A B := ⟨Tb.size h, fun k hk hl => Tb.block h k hl (fun hn => hn (hS k hk hl))⟩
theorem ksK_b {S : Nat → Prop} {w : World} (hS : ∀ k, S k → k < w.heap.size) (W : World) (l : Nat) (o o' : Obj) (hl : w.heap.size ≤ l) (_ : W.heap[l]? = some o) (_ : o.isCells = false) (_ : o.isWalk = false) : Ks S W (W.putObj l o') :=
  ⟨by simp [World.putObj], fun k hk _ => World.putObj_heap_other (by have := hS k hk; omega)⟩

theorem sec_spliced (x : List Int) (hx : x.length ≤ 62) : splice ((U (List.replicate 64 0)).set 0 (.int .u8 (x.length : Int))) 2 (U x) = U ((x.length : Int) :: 0 :: (x ++ List.replicate (62 - x.length) 0)) := by
  have e1 : (U (List.replicate 64 0)).set 0 (.int .u8 (x.length : Int)) = U ((x.length : Int) :: 0 :: List.replicate 62 0) := rfl
  rw [e1]
  unfold splice
  rw [U_length]
  simp only [U, List.map_cons, List.take_succ_cons, List.take_zero, List.cons_append, List.nil_append, List.map_append]
  congr 3
  rw [Nat.add_comm 2 x.length, List.drop_succ_cons, List.drop_succ_cons, ← List.map_drop, List.drop_replicate]

/-- What is handed on: a place, and where its sector lies. -/
abbrev Pl := Nat × Nat
def plEnc (x : Pl) : Array Value := #[.int .i64 (x.1 : Int), .slice (some ⟨x.2, 0, none⟩) 64 64]
/-- It is the next place, and its sector lies there, in new memory. -/
def Nx (zs : List Int) (from' n0 : Nat) (pre : List Pl) (x : Pl) (W : World) : Prop :=
  x.1 = from' + pre.length ∧ x.1 < nsec zs.length ∧ n0 ≤ x.2 ∧ W.heap[x.2]? = some (.cells (U (sec zs x.1)).toArray 5 (0, 0))

theorem nx_own (zs : List Int) (from' n0 : Nat) (pre : List Pl) (x : Pl) (B : Nat) : OwnFrom B (fun (_ : Unit) W => Nx zs from' n0 pre x W) := by
  rintro s A C row ⟨h1, h2, h3, h4⟩ hg hr
  refine ⟨h1, h2, h3, (hg.block _ (Array.getElem?_eq_some_iff.1 h4).1 (fun e => ?_)).trans h4⟩
  obtain ⟨_, o, h5, h6⟩ := hr _ e.symm
  rw [h4] at h5
  cases h5
  cases h6

theorem grown_of_below {A B : World} (h : Below A.heap.size A B) : A.grownBy B none := ⟨h.os, h.tape, h.output, h.size, fun k hk _ => h.block k hk⟩

set_option maxHeartbeats 2000000 in
theorem sectors1_in (F : Fence) (n : Nat) (h121 : F.fn 77) (h51 : F.fn 35) (hro : F.round = none) (_hn : 2 ≤ n) (l Bf Bx n0 : Nat) (a : Option Addr) (m cap : Nat) (zs : List Int) (from' : Nat) (S : Nat → Prop) (hSx : S Bx) (hSa : ∀ b off, 0 < m → a = some ⟨b, off, none⟩ → S b)
    (hm : m ≤ 1000000000000) (hf : from' ≤ 1000000000000) (J Jx : List Pl → World → Prop) (W : World) (hJ : AbidesFrom W.heap.size J) (hn0 : n0 ≤ W.heap.size)
    (hY : ∀ pre x V, J pre V → Nx zs from' n0 pre x V → YieldAt F (n - 1) Tryz.prog l (plEnc x) V fun e X => (e = .returned (.bool true) ∧ J (pre ++ [x]) X ∧ Ks S V X) ∨ (e = .returned (.bool false) ∧ Jx (pre ++ [x]) X))
    (hBf : W.cell? ⟨Bf, 0, none⟩ = some (.int .i64 (from' : Int))) (hBx : W.cell? ⟨Bx, 0, none⟩ = some (.slice a m cap)) (hB : Bs W a m cap zs) (h0 : J [] W) :
    CallsIn F n Tryz.prog 77 #[.func (.yield l) #[] #[], .pointer (some ⟨Bf, 0, none⟩), .pointer (some ⟨Bx, 0, none⟩)] W fun e X => (∃ v, e = .returned v) ∧
      ((∃ ys : List Pl, (ys.length = nsec m - from') ∧ J ys X) ∨ (∃ pre, Jx pre X)) := by
  obtain ⟨i0, hi, hz0, hz1, hz2⟩ := info_parts info5
  have hlen := hB.len
  have hle := hB.le
  have hre := hB.reach
  have h1 : 1 ≤ n := by omega
  have hns : nsec m ≤ 1000000000000 := by unfold nsec; omega
  refine callsIn_of_wp Tryz.func77 rfl h121 ?_ hro
  simp only [Tryz.ntmps77, List.size_toArray, List.length_cons, List.length_nil, Nat.reduceAdd, Nat.reduceSub, Array.replicate_succ, Array.replicate_zero, List.push_toArray, List.append_toArray, List.nil_append, List.cons_append]
  gi_wp2
  gi_loopw [4] (fun p wr => ∃ (pre : List Pl), p = .int .i64 ((from' + pre.length : Nat) : Int) ∧ (pre.length = 0 ∨ from' + pre.length ≤ nsec m) ∧ J pre wr ∧ Ks S W wr)
    (fun p _ => nsec m - (intOf p).toNat)
  case atStart =>
    exact ⟨[], rfl, .inl rfl, h0, Ks.refl _ _⟩
  case round =>
    obtain ⟨pre, rfl, hle1, hJs, hK⟩ := hrel
    have hBx2 := hK.cell hBx hSx
    have hB2 := hK.bs hB hSa
    obtain ⟨K, hKe⟩ : ∃ K, Hid (K = from' + pre.length) := ⟨_, hide rfl⟩
    rw [← hKe.out]
    have hKl : K ≤ 1000000000000 := by rw [hKe.out]; omega
    by_cases h : K < nsec m
    · have h62 : 62 * K < m := by unfold nsec at h; omega
      obtain ⟨b, off, rfl, hc⟩ := hB2.lies (by omega)
      have hdl : (dat zs K).length = min 62 (m - 62 * K) := by rw [dat_length, hlen]
      obtain ⟨k, hk⟩ : ∃ k, Hid (k = (dat zs K).length) := ⟨_, hide rfl⟩
      have hk1 : k ≤ 62 ∧ k + 62 * K ≤ m ∧ (k = 62 ∨ k + 62 * K = m) := by rw [hk.out, hdl]; omega
      obtain ⟨hk2, hk3, hk4⟩ := hk1
      have C51 := fun V => sectorsFor_in F (n - 1) h51 hro m (by omega) V
      have hmm : (min ((K : Int) * 62 + 62) (m : Int)).toNat - K * 62 = k := by omega
      have hda : dat zs K = (zs.drop (K * 62)).take k := by
        have e1 : (dat zs K).take k = dat zs K := List.take_of_length_le (by rw [hk.out]; exact Nat.le_refl _)
        rw [← e1, dat, List.take_take, Nat.min_eq_left hk2, Nat.mul_comm 62 K]
      have hmid : Hid (Bs wr (some ⟨b, off + K * 62, none⟩) k (cap - K * 62) (dat zs K)) := hide (by rw [hda]; exact hB2.mid (K * 62) k (by omega))
      have k0 : (0 : Int) ≤ (k : Int) := by omega
      have k62 : (k : Int) ≤ 62 := by omega
      obtain ⟨Z, hZ⟩ : ∃ Z, Hid (Z = (U (List.replicate 64 0)).set 0 (.int .u8 (k : Int))) := ⟨_, hide rfl⟩
      have hZl : Z.length = 64 := by rw [hZ.out]; simp [U]
      have MK : Hid (∀ w2 : World, w2.heap[wr.heap.size]? = some (.cells (U (List.replicate 64 0)).toArray 5 (0, 0)) → wr.grownBy w2 none →
          (w2.setCell ⟨wr.heap.size, 0, none⟩ (.int .u8 (k : Int))).heap[wr.heap.size]? = some (.cells Z.toArray 5 (0, 0)) ∧ Below wr.heap.size wr (w2.setCell ⟨wr.heap.size, 0, none⟩ (.int .u8 (k : Int)))) := hide (by
        intro w2 g2 gr2
        have hb2 : Below wr.heap.size wr w2 := ⟨gr2.os, gr2.tape, gr2.output, gr2.size, fun i hi => gr2.block i hi (by simp)⟩
        refine ⟨?_, hb2.trans ((Below.refl _ w2).setCell (p := ⟨wr.heap.size, 0, none⟩) (Nat.le_refl _) _)⟩
        rw [heap_setCell_same w2 wr.heap.size 0 _ 5 _ g2, List.setIfInBounds_toArray, hZ.out])
      have SP : Hid (splice Z 2 (U (dat zs K)) = U (sec zs K)) := hide (by rw [hZ.out, hk.out, sec_spliced (dat zs K) (dat_le zs K)]; rfl)
      clear hda hdl hB2 hc
      gi_wp2_with (first
        | (gi_at_call 35; refine (C51 _).mono ?_; rintro e w1 ⟨rfl, hw1⟩; subst w1)
        | (gi_at_make; refine wpListIn_make_bytes _ rfl _ _ 30 rfl 5 i0 Tryz.underlying30 hi hz0 hz1 hz2 .i64 .i64 64 64 64 64 rfl rfl rfl rfl (by omega) (by omega) ?_; intro w2 hg2 hgr2 hs2; simp only [hmm]; have c0 : w2.cell? ⟨wr.heap.size, 0, none⟩ = some (.int .u8 0) := (by rw [cell_of_row w2 wr.heap.size 0 _ 5 (0, 0) hg2.out]; rfl); have f0 := frozen_of_row w2 wr.heap.size 0 _ 5 hg2.out; obtain ⟨HG3, HB3⟩ := MK.out w2 hg2.out hgr2; clear hg2 hgr2)
        | (refine wpListIn_copy_splice rfl (.tmp 32) (.tmp 33) 30 30 rfl 5 Tryz.underlying30 size5 _ _ _ _ _ _ rfl rfl wr.heap.size 2 Z 5 HG3 (U (dat zs K)) (by rw [U_length, ← hk.out]; exact (Nat.min_eq_left (by omega)).symm) (fun hp => ⟨rfl, (hmid.out.keep HB3).src (by rw [U_length, ← hk.out] at hp; exact hp)⟩) (by rw [U_length, hZl, ← hk.out]; omega) (U_one _) ?_; intro w4 hg4 hgr4; have hb4 : Below wr.heap.size wr w4 := HB3.grown hgr4 HB3.size (fun k e => by cases e; exact Nat.le_refl _); rw [SP.out] at hg4; obtain ⟨fn, tmps, assign, body, hy, hR⟩ := hY pre (K, wr.heap.size) w4 (hJ pre wr w4 none hJs (grown_of_below hb4) (fun r e => by cases e)) ⟨hKe.out, by rw [hlen]; exact h, Nat.le_trans hn0 hK.1, hg4.out⟩; dsimp only [plEnc] at hy; clear hgr4 HG3))
      have hK4 : Ks S W w4 := hK.trans (Ks.below hb4)
      refine hR.mono ?_
      rintro e W3 (⟨rfl, hJ3, hk3⟩ | ⟨rfl, hJx3⟩)
      · gi_wp2
        go_roundw
        case rel => exact ⟨pre ++ [(K, wr.heap.size)], by rw [hKe.out]; simp; omega, .inr (by rw [hKe.out] at h; simp; omega), hJ3, hK4.trans hk3⟩
        case measure => simp [intOf]; omega
      · gi_wp2
        refine bodyPost_ret (results_none rfl _ _ _) rfl ?_
        exact ⟨⟨_, rfl⟩, .inr ⟨_, hJx3⟩⟩
    · have C51 := fun V => sectorsFor_in F (n - 1) h51 hro m (by omega) V
      gi_wp2_with (gi_at_call 35; refine (C51 _).mono ?_; rintro e w1 ⟨rfl, hw1⟩; subst w1)
      go_end0
      exact ⟨⟨_, rfl⟩, .inl ⟨pre, by rw [hKe.out] at h; omega, hJs⟩⟩

end Go.Proofs.YtkdolabhcbjipaaGreat

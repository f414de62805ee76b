/-
  What batchOf does.
-/
import Derived.Test.YtelfckhiafnniaaRcm
import Derived.Laws.EntriesVeiled
import Derived.Deep.RegionLaw
import Derived.Deep.AppendLies
import Derived.BigRegion
namespace Go.Proofs.Ytelfckhiafnniaa
open Go.RowKit

/-- The variables at their begin. -/
theorem ps_start (B O n cap : Nat) (zs : List Int) (w W : World) (hW : W = ((((w.alloc (.cells #[.slice (some ⟨B, O, none⟩) n cap] 22)).alloc (.cells #[.int .i64 0, .int .i64 0, .int .i64 0, .slice none 0 0] 28)).alloc (.cells #[.int .i64 0] 3)).alloc (.cells #[.bool false] 4)).alloc
      (.cells #[.func (.func 54) #[] #[.pointer (some ⟨w.heap.size, 0, none⟩), .pointer (some ⟨w.heap.size + 2, 0, none⟩), .pointer (some ⟨w.heap.size + 3, 0, none⟩)]] 73)) :
    Ps w W (some ⟨B, O, none⟩) n cap zs 0 (some zs) ∧ W.heap[w.heap.size + 1]? = some (.cells #[.int .i64 0, .int .i64 0, .int .i64 0, .slice none 0 0] 28 (0, 0)) ∧ W.heap.size = w.heap.size + 5 := by
  subst hW
  have new : ∀ (w : World) (g : Nat) (o : Obj), w.heap.size = g → (w.alloc o).heap[g]? = some o := fun w g o h => by subst h; exact heap_alloc_new w o
  refine ⟨⟨((((fresh w _).alloc (by simp) _).alloc (by simp <;> omega) _).alloc (by simp <;> omega) _).alloc (by simp <;> omega) _, ?_, ?_, ?_, ?_, Nat.zero_le _, fun l h => by cases h; rfl⟩, ?_, by simp⟩
  · rw [Below.heap_alloc _ _ _ (by simp <;> omega), Below.heap_alloc _ _ _ (by simp <;> omega), Below.heap_alloc _ _ _ (by simp <;> omega), Below.heap_alloc _ _ _ (by simp)]
    exact new _ _ _ rfl
  · rw [Below.heap_alloc _ _ _ (by simp <;> omega), Below.heap_alloc _ _ _ (by simp)]
    exact new _ _ _ (by simp)
  · rw [Below.heap_alloc _ _ _ (by simp)]
    exact new _ _ _ (by simp)
  · exact new _ _ _ (by simp)
  · rw [Below.heap_alloc _ _ _ (by simp <;> omega), Below.heap_alloc _ _ _ (by simp <;> omega), Below.heap_alloc _ _ _ (by simp)]
    exact new _ _ _ (by simp)

/-- The state of the loop over the records. -/
structure Lp (w : World) (B O n cap : Nat) (zs : List Int) (bt' : Nat) (p e f : Int) (s : Option (List Int)) (ls : List (List Int)) (u : Value) (wr : World) : Prop where
  ps : ∃ kk, Ps w wr (some ⟨B, O, none⟩) n cap zs kk s
  bat : wr.heap[bt']? = some (.cells #[.int .i64 p, .int .i64 e, .int .i64 f, u] 28 (0, 0))
  res : wr.heap[w.heap.size + 1]? = some (.cells #[.int .i64 0, .int .i64 0, .int .i64 0, .slice none 0 0] 28 (0, 0))
  ll : ∃ rs, LL wr (bt' + 1) u rs ∧ rs.map (·.2) = ls
  lt : w.heap.size + 5 ≤ bt'

section
variable {w : World} {B O n cap : Nat} {zs : List Int} {bt' : Nat} {p e f : Int} {s : Option (List Int)} {ls : List (List Int)} {u : Value} {wr : World}

theorem Lp.bar {S : Nat → Prop} {s' : Option (List Int)} {W : World} (h : Lp w B O n cap zs bt' p e f s ls u wr) (hb : Bar S wr W) (hS : ∀ i, S i → i ≤ bt' → Two w.heap.size i) (h2 : ∀ i, S i → bt' < i → False) (hp : ∃ kk, Ps w W (some ⟨B, O, none⟩) n cap zs kk s') : Lp w B O n cap zs bt' p e f s' ls u W := by
  have hlt := h.lt
  obtain ⟨rs, hl, hr⟩ := h.ll
  refine ⟨hp, (hb.block _ (some_lt h.bat) (fun hh => ?_)).trans h.bat, (hb.block _ (some_lt h.res) (fun hh => ?_)).trans h.res, ⟨rs, hl.bar hb (fun b hb' hh => ?_) (fun r hr b hb' hh => ?_), hr⟩, hlt⟩
  · have := hS _ hh (Nat.le_refl _)
    unfold Two at this
    omega
  · have := hS _ hh (by omega)
    unfold Two at this
    omega
  · have := own_from hl.own hb'
    exact h2 _ hh (by omega)
  · have := own_from (hl.row r hr) hb'
    exact h2 _ hh (by omega)

theorem Lp.keep {W : World} (h : Lp w B O n cap zs bt' p e f s ls u wr) (hb : Below wr.heap.size wr W) : Lp w B O n cap zs bt' p e f s ls u W := by
  obtain ⟨kk, hp⟩ := h.ps
  exact h.bar (S := fun _ => False) (Bar.of_fresh hb) (fun _ h => h.elim) (fun _ h => h.elim) ⟨kk, hp.keep hb⟩

theorem Lp.c3 (h : Lp w B O n cap zs bt' p e f s ls u wr) : wr.cell? ⟨bt', 3, none⟩ = some u := by rw [cell_of_row wr _ 3 _ 28 (0, 0) h.bat]; rfl
theorem Lp.f3 (h : Lp w B O n cap zs bt' p e f s ls u wr) : wr.frozen? ⟨bt', 3, none⟩ = false := frozen_of_row wr _ 3 _ 28 h.bat

/-- One record more. -/
theorem Lp.turn {W w5 : World} {v5 : Value} {l5 : List Int} {s' : Option (List Int)} (h : Lp w B O n cap zs bt' p e f s ls u W) (hv : w5.ownsRow W.heap.size 5 1 v5 l5.length (U l5)) (hby : ∀ z ∈ l5, 0 ≤ z ∧ z ≤ 255) (hp : ∃ kk, Ps w w5 (some ⟨B, O, none⟩) n cap zs kk s') (hb : Bar (Two w.heap.size) W w5) :
    ∃ rs : List (Value × List Int), rs.map (·.2) = ls ∧ w5.cell? ⟨bt', 3, none⟩ = some u ∧ (w5.alloc (.cells #[v5] 22)).ownsRow (bt' + 1) 22 1 u rs.length (rs.map (·.1)) ∧ bt' + 1 ≤ (w5.alloc (.cells #[v5] 22)).heap.size ∧
      ∀ (v6 : Value) (w6 : World), w6.ownsRow (bt' + 1) 22 1 v6 (rs.length + 1) (rs.map (·.1) ++ [v5]) → (w5.alloc (.cells #[v5] 22)).grownBy w6 u.ownBlock →
        w6.cell? ⟨bt', 3, none⟩ = some u ∧ w6.frozen? ⟨bt', 3, none⟩ = false ∧ Lp w B O n cap zs bt' p e f s' (ls ++ [l5]) v6 (w6.setCell ⟨bt', 3, none⟩ v6) := by
  have hlt := h.lt
  have h5 : Lp w B O n cap zs bt' p e f s' ls u w5 := h.bar hb (fun i hi _ => hi) (fun i hi hh => by unfold Two at hi; omega) hp
  have h5' := h5.keep (fresh w5 (.cells #[v5] 22))
  have hsW := some_lt h.bat
  have hs5 := hb.size
  obtain ⟨rs, hl0, hr⟩ := h.ll
  have hl5 : LL w5 (bt' + 1) u rs := hl0.bar hb (fun b hb' hh => by have := own_from hl0.own hb'; unfold Two at hh; omega) (fun r hr b hb' hh => by have := own_from (hl0.row r hr) hb'; unfold Two at hh; omega)
  have hl := hl5.keep (fresh w5 (.cells #[v5] 22))
  refine ⟨rs, hr, h5.c3, hl.own, by simp; omega, fun v6 w6 h6 hg => ?_⟩
  have hbar : Bar (fun k => u.ownBlock = some k) (w5.alloc (.cells #[v5] 22)) w6 := Bar.of_grown hg
  have hub : ∀ k, u.ownBlock = some k → bt' + 1 ≤ k := fun k hk => own_from hl.own hk
  have hp6 : ∃ kk, Ps w w6 (some ⟨B, O, none⟩) n cap zs kk s' := by
    obtain ⟨kk, hp⟩ := h5'.ps
    exact ⟨kk, hp.bar hbar (fun i hi => by have := hub i hi; omega)⟩
  have hbat : w6.heap[bt']? = some (.cells #[.int .i64 p, .int .i64 e, .int .i64 f, u] 28 (0, 0)) := (hbar.block _ (some_lt h5'.bat) (fun hh => by have := hub _ hh; omega)).trans h5'.bat
  have hres : w6.heap[w.heap.size + 1]? = some (.cells #[.int .i64 0, .int .i64 0, .int .i64 0, .slice none 0 0] 28 (0, 0)) := (hbar.block _ (some_lt h5'.res) (fun hh => by have := hub _ hh; omega)).trans h5'.res
  have hvb : ∀ k, v5.ownBlock = some k → W.heap.size ≤ k ∧ k < w5.heap.size := fun k hk => hv.lt k hk
  have hv' : (w5.alloc (.cells #[v5] 22)).ownsRow (bt' + 1) 5 1 v5 l5.length (U l5) := own_less (hv.alloc _) (by omega)
  have hL6 : LL w6 (bt' + 1) v6 (rs ++ [(v5, l5)]) := by
    refine hl.more (n := rs.length + 1) (qs := [(v5, l5)]) (by simpa using hv') (by simpa using hby) (by simp) ?_ (by simp) (by simpa using h6) hg
    intro r hr' q hq
    simp only [List.mem_singleton] at hq
    subst hq
    cases hrb : r.1.ownBlock with
    | none => exact .inl rfl
    | some x =>
      refine .inr (fun e => ?_)
      have h1 := ((hl0.row r hr').lt x hrb).2
      have h2 := (hvb x e.symm).1
      omega
  refine ⟨by rw [cell_of_row w6 _ 3 _ 28 (0, 0) hbat]; rfl, frozen_of_row w6 _ 3 _ 28 hbat, ?_⟩
  have hset := Bar.set w6 bt' 3 v6
  refine ⟨?_, ?_, (hset.block _ (some_lt hres) (by omega)).trans hres, ⟨rs ++ [(v5, l5)], hL6.bar hset (fun b hb' hh => ?_) (fun r hr b hb' hh => ?_), by simp [hr]⟩, hlt⟩
  · obtain ⟨kk, hp⟩ := hp6
    exact ⟨kk, hp.bar hset (fun i hi => by omega)⟩
  · rw [heap_setCell_same w6 _ 3 _ 28 _ hbat]
    rfl
  · have := own_from hL6.own hb'
    omega
  · have := own_from (hL6.row r hr) hb'
    omega

end

theorem row4 {wr : World} {g : Nat} {x0 x1 x2 x3 : Value} (h : wr.heap[g]? = some (.cells #[x0, x1, x2, x3] 28 (0, 0))) :
    wr.cell? ⟨g, 0, none⟩ = some x0 ∧ wr.cell? ⟨g, 1, none⟩ = some x1 ∧ wr.cell? ⟨g, 2, none⟩ = some x2 ∧ wr.cell? ⟨g, 3, none⟩ = some x3 ∧
    wr.frozen? ⟨g, 0, none⟩ = false ∧ wr.frozen? ⟨g, 1, none⟩ = false ∧ wr.frozen? ⟨g, 2, none⟩ = false ∧ wr.frozen? ⟨g, 3, none⟩ = false :=
  ⟨by rw [cell_of_row wr _ 0 _ 28 (0, 0) h]; rfl, by rw [cell_of_row wr _ 1 _ 28 (0, 0) h]; rfl, by rw [cell_of_row wr _ 2 _ 28 (0, 0) h]; rfl, by rw [cell_of_row wr _ 3 _ 28 (0, 0) h]; rfl,
    frozen_of_row wr _ 0 _ 28 h, frozen_of_row wr _ 1 _ 28 h, frozen_of_row wr _ 2 _ 28 h, frozen_of_row wr _ 3 _ 28 h⟩

set_option maxRecDepth 100000 in
set_option maxHeartbeats 4000000 in
theorem batch_any (B O n cap : Nat) (zs : List Int) (w : World) (hB : Bs w (some ⟨B, O, none⟩) n cap zs) (hn : n ≤ 60000) :
    Calls Try.prog 35 #[.slice (some ⟨B, O, none⟩) n cap] w fun e w' => Below w.heap.size w w' ∧ ((left zs = some [] ∧ ∃ v rs, e = .returned (.tuple #[bv (bt zs).pid (bt zs).ep (bt zs).first v, .bool true]) ∧ LL w' w.heap.size v rs ∧ rs.map (·.2) = (bt zs).recs) ∨
      (left zs ≠ some [] ∧ e = .returned (.tuple #[bv 0 0 0 (.slice none 0 0), .bool false]))) := by
  have hmf : ∀ (fn : Fn) (first cap : Array Value) (w : World), (Instr.makeFunc fn first cap).run Try.prog w = .ok (.func fn first cap) w := fun _ _ _ _ => rfl
  obtain ⟨i1, hi', hy0, hy1, hy2⟩ := info_parts info22
  have hlen := hB.len
  have hle := hB.le
  have hre := hB.reach
  have b0 : Bya (some zs) := fun m hm z hz => hB.byte z (by cases hm; exact hz)
  have b4 : Bya (s4 zs) := tku_byt (tk_byt (tk_byt (tk_byt b0)))
  have hcnt : cnt zs ≤ 256 := by
    unfold cnt tku
    split
    · assumption
    · simp
  go_enter Try.func35, Try.ntmps35
  go_wp2_with fail
  simp only [Nat.add_assoc, Nat.reduceAdd]
  obtain ⟨W, hW⟩ : ∃ W, W = ((((w.alloc (.cells #[.slice (some ⟨B, O, none⟩) n cap] 22)).alloc (.cells #[.int .i64 0, .int .i64 0, .int .i64 0, .slice none 0 0] 28)).alloc (.cells #[.int .i64 0] 3)).alloc (.cells #[.bool false] 4)).alloc
      (.cells #[.func (.func 54) #[] #[.pointer (some ⟨w.heap.size, 0, none⟩), .pointer (some ⟨w.heap.size + 2, 0, none⟩), .pointer (some ⟨w.heap.size + 3, 0, none⟩)]] 73) := ⟨_, rfl⟩
  obtain ⟨hP, hres, hsz⟩ := ps_start B O n cap zs w W hW
  rw [← hW]
  clear hW
  refine (sgn_any hB hP).mono ?_
  rintro e w1 ⟨rfl, ⟨k1, h1⟩, hb1⟩
  have h1' : Ps w w1 (some ⟨B, O, none⟩) n cap zs k1 (s1 zs) := h1
  have hr1 := (hb1.block _ (some_lt hres) (by unfold Two; omega)).trans hres
  clear h1 hP hres
  go_wp2_with fail
  refine (sgn_any hB h1').mono ?_
  rintro e w2 ⟨rfl, ⟨k2, h2⟩, hb2⟩
  have h2' : Ps w w2 (some ⟨B, O, none⟩) n cap zs k2 (s2 zs) := h2
  have hr2 := (hb2.block _ (some_lt hr1) (by unfold Two; omega)).trans hr1
  clear h2 h1' hr1
  go_wp2_with fail
  refine (sgn_any hB h2').mono ?_
  rintro e w3 ⟨rfl, ⟨k3, h3⟩, hb3⟩
  have h3' : Ps w w3 (some ⟨B, O, none⟩) n cap zs k3 (s3 zs) := h3
  have hr3 := (hb3.block _ (some_lt hr2) (by unfold Two; omega)).trans hr2
  have hs3 := hb3.size
  have hs2 := hb2.size
  have hs1 := hb1.size
  clear h3 h2' hr2 hb1 hb2 hb3
  have HBT : Hid (bt zs = ⟨unfo (tk (some zs)).1, unfo (tk (s1 zs)).1, unfo (tk (s2 zs)).1, (tks (cnt zs) (s4 zs)).1⟩) := hide rfl
  generalize unfo (tk (some zs)).1 = P at HBT
  generalize unfo (tk (s1 zs)).1 = E at HBT
  generalize unfo (tk (s2 zs)).1 = F at HBT
  have cf := (h3'.keep (fresh w3 (.cells #[.int .i64 P, .int .i64 E, .int .i64 F, .slice none 0 0] 28))).c4
  have h3a := h3'.keep (fresh w3 (.cells #[.int .i64 P, .int .i64 E, .int .i64 F, .slice none 0 0] 28))
  go_wp2_with fail
  refine (upto_any hB h3a 256 (by omega)).mono ?_
  rintro e w4 ⟨rfl, ⟨k4, h4⟩, hb4⟩
  have h4' : Ps w w4 (some ⟨B, O, none⟩) n cap zs k4 (s4 zs) := h4
  have hbt0 := heap_alloc_new w3 (.cells #[.int .i64 P, .int .i64 E, .int .i64 F, .slice none 0 0] 28)
  have hbt4 := (hb4.block _ (some_lt hbt0) (by unfold Two; omega)).trans hbt0
  have hr4 := (hb4.block (w.heap.size + 1) (by simp; omega) (by unfold Two; omega)).trans ((Below.heap_alloc w3 _ _ (some_lt hr3)).trans hr3)
  have hL4 : Hid (Lp w B O n cap zs w3.heap.size P E F (tks 0 (s4 zs)).2 (tks 0 (s4 zs)).1 (.slice none 0 0) w4) := hide ⟨⟨k4, h4'⟩, hbt4, hr4, ⟨[], LL.nil _ _, rfl⟩, by omega⟩
  have hs4 := hb4.size
  rw [World.size_alloc] at hs4
  obtain ⟨C, hC⟩ : ∃ C, C = (tku 256 (s3 zs)).1 := ⟨_, rfl⟩
  have hC' : C = cnt zs := hC
  rw [← hC]
  rw [← hC'] at hcnt HBT
  have HC' := hide hC'
  clear h4 h4' hbt0 hbt4 hr4 hb4 hC hC' hr3 h3' h3a cf hs1 hs2
  have HL0 : Hid ((tks C (s4 zs)).2 = left zs) := hide (by rw [HC'.out]; rfl)
  generalize s4 zs = S4 at *
  go_wp2_with fail
  go_loopw [28] (fun i wr => ∃ (k : Nat) (u : Value), k ≤ C ∧ i = .int .i64 k ∧ Hid (Lp w B O n cap zs w3.heap.size P E F (tks k S4).2 (tks k S4).1 u wr)) (fun i _ => C - (intOf i).toNat)
  case atStart => exact ⟨0, _, Nat.zero_le _, rfl, hL4⟩
  case round =>
    obtain ⟨k, u, hk, rfl, hL⟩ := hrel
    by_cases hlt : k < C
    · have hc3 := hL.out.c3
      have hcall : ∀ W, Below wr.heap.size wr W → Calls Try.prog 56 #[.pointer (some ⟨w.heap.size + 4, 0, none⟩), .pointer (some ⟨w.heap.size + 3, 0, none⟩), .pointer (some ⟨w.heap.size, 0, none⟩), .pointer (some ⟨w.heap.size + 2, 0, none⟩)] W fun e w5 =>
          ∃ c5 m5 d5 xs, e = .returned (.slice c5 m5 d5) ∧ w5.cell? ⟨w3.heap.size, 3, none⟩ = some u ∧ (w5.alloc (.cells #[.slice c5 m5 d5] 22)).cell? ⟨w3.heap.size, 3, none⟩ = some u ∧ Hid ((w5.alloc (.cells #[.slice c5 m5 d5] 22)).ownsRow (w3.heap.size + 1) 22 1 u k xs) ∧ w3.heap.size + 1 ≤ w5.heap.size + 1 ∧
            Hid (∀ (v6 : Value) (w6 : World), w6.ownsRow (w3.heap.size + 1) 22 1 v6 (k + 1) (xs ++ [.slice c5 m5 d5]) → (w5.alloc (.cells #[.slice c5 m5 d5] 22)).grownBy w6 u.ownBlock →
              w6.cell? ⟨w3.heap.size, 3, none⟩ = some u ∧ w6.frozen? ⟨w3.heap.size, 3, none⟩ = false ∧ Lp w B O n cap zs w3.heap.size P E F (tks (k + 1) S4).2 (tks (k + 1) S4).1 v6 (w6.setCell ⟨w3.heap.size, 3, none⟩ v6)) := by
        intro W hb
        have hLW := hL.out.keep hb
        obtain ⟨kk, hp⟩ := hLW.ps
        refine (rec_any hB hp (by omega)).mono ?_
        rintro e w5 ⟨v5, rfl, hown5, hp5, hb5⟩
        obtain ⟨rs, hr, c5, ho, hs, ht⟩ := hLW.turn hown5 (tkr_byt (tks_byt b4 k).1).2 hp5 hb5
        have hk' : rs.length = k := by
          have := congrArg List.length hr
          rw [List.length_map, tks_len] at this
          exact this
        rw [hk'] at ho ht
        obtain ⟨q5, d5, rfl⟩ := own_val hown5
        exact ⟨q5, _, d5, _, rfl, c5, by rw [(fresh w5 _).cell (cell_lt c5)]; exact c5, hide ho, by simpa using hs, hide ht⟩
      have HC := hide hcall
      clear hcall hL4
      go_wp2_with fail
      go_region_law (first
        | (refine step_append_lies _ (by rfl) (.tmp 31) (.tmp 34) 26 (by rfl) (w3.heap.size + 1) 22 i1 (.slice none 0 0) 1 24 Try.underlying26 hi' hy0 hy1 hy2 rfl (by omega) u k xs5 (by simp [Act.eval]) ho5.out ⟨_, 0, none⟩ 1 1 [.slice c5 m5 d5] (by simp [Act.eval]) rfl (cell_one_new _ _ _) (by simp [Value.oneCell']) (by omega) (by unfold maxLen; omega) (by omega) (by simp; omega) _ rfl ?_; intro g6 d6 w6 hown6 hgrow6 _ _; obtain ⟨c6, f6, hL6⟩ := ht5.out _ w6 hown6 hgrow6; have HL6 := hide hL6; clear hL6 hown6 hgrow6)
        | (go_simp; refine (HC.out _ ?_).mono ?_; exact (Below.refl _ wr).drew; rintro e w5 ⟨c5, m5, d5, xs5, rfl, cc5, cd5, ho5, hs5, ht5⟩))
      all_goals
        go_wp2_with fail
        go_roundw
        case rel => exact ⟨k + 1, _, by omega, by go_num, HL6⟩
        case measure => simp [intOf]; omega
    · obtain rfl : k = C := by omega
      have hleft : (tks k S4).2 = left zs := HL0.out
      have hrecs : (tks k S4).1 = (bt zs).recs := by rw [HBT.out]
      rw [hleft, hrecs] at hL
      obtain ⟨rs0, hlu, _⟩ := hL.out.ll
      obtain ⟨ua, ud, hu⟩ := own_val hlu.own
      generalize rs0.length = un at hu
      clear hlu
      subst hu
      obtain ⟨kk, hp⟩ := hL.out.ps
      have q0 := hp.c0
      have q2 := hp.c2
      have q3 := hp.c3
      have hkk := hp.le
      have hcells := row4 hL.out.bat
      obtain ⟨a0, a1, a2, a3, _⟩ := hcells
      obtain ⟨r0, r1, r2, r3, g0, g1, g2, g3⟩ := row4 hL.out.res
      have hE : (E != E) = false := by simp
      have hpid : (bt zs).pid = P := by rw [HBT.out]
      have hep : (bt zs).ep = E := by rw [HBT.out]
      have hfi : (bt zs).first = F := by rw [HBT.out]
      have HS := hide (And.intro hpid (And.intro hep hfi))
      clear hpid hep hfi hleft hrecs HBT hL4 HC' HL0
      have hend : ∀ x0 x1 x2 x3, Below w.heap.size w ((((wr.setCell ⟨w.heap.size + 1, 0, none⟩ x0).setCell ⟨w.heap.size + 1, 1, none⟩ x1).setCell ⟨w.heap.size + 1, 2, none⟩ x2).setCell ⟨w.heap.size + 1, 3, none⟩ x3) ∧
          ∃ rs, LL ((((wr.setCell ⟨w.heap.size + 1, 0, none⟩ x0).setCell ⟨w.heap.size + 1, 1, none⟩ x1).setCell ⟨w.heap.size + 1, 2, none⟩ x2).setCell ⟨w.heap.size + 1, 3, none⟩ x3) w.heap.size  (.slice ua un ud) rs ∧ rs.map (·.2) = (bt zs).recs := by
        intro x0 x1 x2 x3
        refine ⟨(((hp.bel.setCell (by simp) _).setCell (by simp) _).setCell (by simp) _).setCell (by simp) _, ?_⟩
        obtain ⟨rs, hl, hr⟩ := hL.out.ll
        have hlt' := hL.out.lt
        have st : ∀ (W : World) (i : Nat) (x : Value), LL W (w3.heap.size + 1)  (.slice ua un ud) rs → LL (W.setCell ⟨w.heap.size + 1, i, none⟩ x) (w3.heap.size + 1)  (.slice ua un ud) rs := by
          intro W i x h
          refine h.bar (Bar.set W (w.heap.size + 1) i x) (fun b hb hh => ?_) (fun r hr b hb hh => ?_)
          · have := own_from h.own hb
            omega
          · have := own_from (h.row r hr) hb
            omega
        exact ⟨rs, (st _ 3 _ (st _ 2 _ (st _ 1 _ (st _ 0 _ hl)))).less (by omega), hr⟩
      have HEND := hide hend
      cases hs : left zs with
      | none =>
        rw [hs] at q3
        clear hL hp hend
        go_wp2_with fail
        refine bodyPost_ret (v := .tuple #[.agg #[.int .i64 0, .int .i64 0, .int .i64 0, .slice none 0 0], .bool false]) (by simp [results, Try.results35, go_sem, r0, r1, r2, r3]) rfl ?_
        exact ⟨(HEND.out _ _ _ _).1, .inr ⟨by rw [hs]; simp, rfl⟩⟩
      | some l =>
        rw [hs] at q3
        have hl : l = zs.drop kk := hp.is l hs
        by_cases hkn : kk = n
        · have hl0 : l = [] := by rw [hl, hkn]; exact List.drop_eq_nil_of_le (by omega)
          subst hkn
          clear hL hp hend
          have hnn : ((kk : Int) != (kk : Int)) = false := by simp
          go_wp2_with fail
          obtain ⟨f1, rs, f2, f3⟩ := HEND.out (.int .i64 P) (.int .i64 E) (.int .i64 F) (.slice ua un ud)
          refine bodyPost_ret (v := .tuple #[.agg #[.int .i64 P, .int .i64 E, .int .i64 F, .slice ua un ud], .bool true]) (by simp [results, Try.results35, go_sem, r0, r1, r2, r3]) rfl ?_
          refine ⟨f1, .inl ⟨by rw [hs, hl0], .slice ua un ud, rs, ?_, f2, f3⟩⟩
          rw [HS.out.1, HS.out.2.1, HS.out.2.2]
        · have hl0 : l ≠ [] := by
            intro e
            have := congrArg List.length hl
            rw [e, List.length_drop, List.length_nil] at this
            omega
          clear hL hp hend
          have hnn : ((kk : Int) != (n : Int)) = true := by simp; omega
          go_wp2_with fail
          refine bodyPost_ret (v := .tuple #[.agg #[.int .i64 0, .int .i64 0, .int .i64 0, .slice none 0 0], .bool false]) (by simp [results, Try.results35, go_sem, r0, r1, r2, r3]) rfl ?_
          exact ⟨(HEND.out _ _ _ _).1, .inr ⟨by rw [hs]; simpa using hl0, rfl⟩⟩

end Go.Proofs.Ytelfckhiafnniaa

/-
  Build: what it tells, as a function on lists; what it does.
-/
import Derived.Test.YtaapcanoaidpjaaIxd
namespace Go.Proofs.Ytaapcanoaidpjaa
open Go.RowKit
set_option maxRecDepth 100000

theorem info27 : (Try.prog.info? 27).map (fun i => (i.zero, i.size, i.bytes)) = some (some (.agg #[.int .i64 0, .int .i64 0]), 2, 16) := by kernel_rfl

/-- Pairs as cells. -/
def P2 (ps : List (Int × Int)) : List Value := ps.flatMap fun p => [.int .i64 p.1, .int .i64 p.2]
theorem P2_length (ps : List (Int × Int)) : (P2 ps).length = ps.length * 2 := by
  induction ps with
  | nil => rfl
  | cons p ps ih => simp only [P2, List.flatMap_cons, List.length_append, List.length_cons, List.length_nil] at ih ⊢; omega
theorem P2_append (ps qs : List (Int × Int)) : P2 (ps ++ qs) = P2 ps ++ P2 qs := by simp [P2]
theorem P2_at (ps : List (Int × Int)) (i : Nat) (h : i < ps.length) : (P2 ps)[i * 2]? = some (.int .i64 (ps.getD i (0, 0)).1) ∧ (P2 ps)[i * 2 + 1]? = some (.int .i64 (ps.getD i (0, 0)).2) := by
  induction ps generalizing i with
  | nil => simp at h
  | cons p ps ih =>
    cases i with
    | zero => simp [P2]
    | succ i =>
      have := ih i (by simpa using h)
      have e : (i + 1) * 2 = i * 2 + 2 := by omega
      have e2 : P2 (p :: ps) = .int .i64 p.1 :: .int .i64 p.2 :: P2 ps := by simp [P2]
      rw [e2, e]
      exact this

theorem own_pr {w : World} {base n cap : Nat} {a : Option Addr} {e : TypeId} {ps : List (Int × Int)} (h : w.ownsRow base e 2 (.slice a n cap) n (P2 ps)) : Pr w a n cap ps := by
  have hl : ps.length = n := by have := h.1; rw [P2_length] at this; omega
  have h0 := h
  rcases h.2 with ⟨h1, h0⟩ | ⟨g, cap', cur, h1, _, hh, hc, hm, hs, ht⟩
  · simp only [Value.slice.injEq] at h1
    obtain ⟨rfl, rfl, rfl⟩ := h1
    exact ⟨hl, Nat.le_refl _, by omega, fun h => by omega⟩
  · simp only [Value.slice.injEq] at h1
    obtain ⟨rfl, _, rfl⟩ := h1
    unfold maxLen at hm
    refine ⟨hl, hc, by omega, fun _ => ⟨g, 0, rfl, fun i hi => ?_⟩⟩
    obtain ⟨e1, e2⟩ := P2_at ps i (by omega)
    have c1 := h0.cells (g := g) rfl _ _ e1
    have c2 := h0.cells (g := g) rfl _ _ e2
    have hadd : ∀ j, (⟨g, 0, none⟩ : Addr).add j = ⟨g, 0 + j, none⟩ := fun j => by unfold Addr.add; split <;> simp_all
    rw [hadd] at c1 c2
    exact ⟨c1, by rw [← c2]; congr 1⟩

theorem own_like {w w' : World} {base size n : Nat} {e : TypeId} {v : Value} {xs : List Value} (h : w.ownsRow base e size v n xs) (hb : ∀ k, base ≤ k → k < w.heap.size → w'.heap[k]? = w.heap[k]?) : w'.ownsRow base e size v n xs := by
  refine ⟨h.1, ?_⟩
  rcases h.2 with hn | ⟨g, cap, cur, rfl, hbg, hgg, rest⟩
  · exact .inl hn
  · refine .inr ⟨g, cap, cur, rfl, hbg, ?_, rest⟩
    rw [hb g hbg (Array.getElem?_eq_some_iff.1 hgg).1]
    exact hgg

theorem own_less {w : World} {base base' size n : Nat} {e : TypeId} {v : Value} {xs : List Value} (h : w.ownsRow base e size v n xs) (hb : base' ≤ base) : w.ownsRow base' e size v n xs := by
  refine ⟨h.1, ?_⟩
  rcases h.2 with hn | ⟨g, cap, cur, rfl, hbg, rest⟩
  · exact .inl hn
  · exact .inr ⟨g, cap, cur, rfl, by omega, rest⟩

theorem own_val {w : World} {base size n : Nat} {e : TypeId} {v : Value} {xs : List Value} (h : w.ownsRow base e size v n xs) : ∃ a cap, v = .slice a n cap := by
  rcases h.2 with ⟨rfl, rfl⟩ | ⟨g, cap, _, rfl, _⟩
  · exact ⟨_, _, rfl⟩
  · exact ⟨_, _, rfl⟩

theorem two_new (w : World) (x y : Value) (t : TypeId) (g : Nat) (hg : w.heap.size = g) : ∀ j u, [x, y][j]? = some u → (w.alloc (.cells #[x, y] t)).cell? ((⟨g, 0, none⟩ : Addr).add j) = some u := by
  subst hg
  intro j u hj
  rw [Addr.add_mid, cell_of_row _ _ _ _ _ _ (heap_alloc_new w _)]
  simpa using hj

/-- What stands behind the k-th size: its place, the last pair's place, the pairs. -/
def bst (ev : Int) (zs : List Int) : Nat → Int × Int × List (Int × Int)
  | 0 => (0, 0, [(0, 0)])
  | k + 1 => if ev ≤ (bst ev zs k).1 - (bst ev zs k).2.1 then ((bst ev zs k).1 + zs.getD k 0, (bst ev zs k).1, (bst ev zs k).2.2 ++ [((k : Int), (bst ev zs k).1)]) else ((bst ev zs k).1 + zs.getD k 0, (bst ev zs k).2.1, (bst ev zs k).2.2)

theorem bst_yes {ev : Int} {zs : List Int} {k : Nat} {p l : Int} {ps : List (Int × Int)} (h : bst ev zs k = (p, l, ps)) (hv : ev ≤ p - l) : bst ev zs (k + 1) = (p + zs.getD k 0, p, ps ++ [((k : Int), p)]) := by simp only [bst, h]; rw [if_pos hv]
theorem bst_not {ev : Int} {zs : List Int} {k : Nat} {p l : Int} {ps : List (Int × Int)} (h : bst ev zs k = (p, l, ps)) (hv : ¬ ev ≤ p - l) : bst ev zs (k + 1) = (p + zs.getD k 0, l, ps) := by simp only [bst, h]; rw [if_neg hv]

theorem bst_bound (ev : Int) {zs : List Int} (hz : ∀ z ∈ zs, Sz z) (k : Nat) (hk : k ≤ zs.length) {p l : Int} {ps : List (Int × Int)} (h : bst ev zs k = (p, l, ps)) : 0 ≤ l ∧ l ≤ p ∧ p ≤ 1073741824 * (k : Int) ∧ ps.length ≤ k + 1 ∧ 0 < ps.length := by
  induction k generalizing p l ps with
  | zero =>
    simp only [bst, Prod.mk.injEq] at h
    obtain ⟨rfl, rfl, rfl⟩ := h
    simp
  | succ k ih =>
    obtain ⟨p0, l0, ps0⟩ : ∃ p0 l0 ps0, bst ev zs k = (p0, l0, ps0) := ⟨_, _, _, rfl⟩
    obtain ⟨ps0, h0⟩ := ps0
    have := ih (by omega) h0
    have hs : Sz (zs.getD k 0) := hz _ (by simp [List.getD, List.getElem?_eq_getElem (by omega : k < zs.length)])
    unfold Sz at hs
    by_cases hv : ev ≤ p0 - l0
    · rw [bst_yes h0 hv] at h
      simp only [Prod.mk.injEq] at h
      obtain ⟨rfl, rfl, rfl⟩ := h
      simp only [List.length_append, List.length_cons, List.length_nil]
      refine ⟨by omega, by omega, by omega, by omega, by omega⟩
    · rw [bst_not h0 hv] at h
      simp only [Prod.mk.injEq] at h
      obtain ⟨rfl, rfl, rfl⟩ := h
      refine ⟨by omega, by omega, by omega, by omega, by omega⟩

theorem build_no (a : Option Addr) (n cap : Nat) (zs : List Int) (ev : Int) (w : World) (hA : Is w a n cap zs) (h : ev < 1 ∨ ¬ Szs zs) :
    Calls Try.prog 6 #[.slice a n cap, .int .i64 ev] w fun e w' => e = .returned (.tuple #[.slice none 0 0, .int .i64 2]) ∧ w' = w := by
  by_cases hev : ev < 1
  · go_enter Try.func6, Try.ntmps6
    go_wp2_with fail
    go_ret2
    exact ⟨rfl, rfl⟩
  · have C := areSizes_any a n cap zs w hA
    rw [decide_eq_false (h.resolve_left hev)] at C
    go_enter Try.func6, Try.ntmps6
    go_wp2_with fail
    refine C.mono ?_
    rintro e w1 ⟨rfl, rfl⟩
    go_wp2_with fail
    go_ret2
    exact ⟨rfl, rfl⟩

set_option maxHeartbeats 2000000 in
theorem build_yes (a : Option Addr) (n cap : Nat) (zs : List Int) (ev : Int) (w : World) (hA : Is w a n cap zs) (hev : 1 ≤ ev) (hs : Szs zs) :
    Calls Try.prog 6 #[.slice a n cap, .int .i64 ev] w fun e w' => ∃ c d, e = .returned (.tuple #[.slice c (bst ev zs n).2.2.length d, .int .i64 0]) ∧ w'.ownsRow w.heap.size 27 2 (.slice c (bst ev zs n).2.2.length d) (bst ev zs n).2.2.length (P2 (bst ev zs n).2.2) ∧ Below w.heap.size w w' := by
  obtain ⟨i0, hi, hz0, hz1, hz2⟩ := info_parts info27
  have HI := hide (And.intro hi (And.intro hz0 (And.intro hz1 hz2)))
  clear hi hz0 hz1 hz2
  have hla := hA.len
  have hea := hA.le
  have hra := hA.reach
  have hn : n ≤ 65536 := by have := hs.1; omega
  have C := areSizes_any a n cap zs w hA
  rw [decide_eq_true hs] at C
  have HS := hide hs.2
  have hd : decide (ev < 1) = false := decide_eq_false (by omega)
  clear hs
  go_enter Try.func6, Try.ntmps6
  go_wp2_with fail
  refine C.mono ?_
  rintro e w1 ⟨rfl, rfl⟩
  go_wp2_with fail
  have hst : ∀ o1 o2 : Obj, Below w1.heap.size w1 ((w1.alloc o1).alloc o2) := fun o1 o2 => ((Below.refl _ w1).alloc (Nat.le_refl _) _).alloc (by simp) _
  go_loopw [7, 8, 23] (fun v p i wr => ∃ k : Nat, ∃ pp l lx : Int, ∃ ps : List (Int × Int), k ≤ n ∧ i = .int .i64 k ∧ p = .int .i64 pp ∧ Hid (bst ev zs k = (pp, l, ps)) ∧ 0 ≤ l ∧ l ≤ pp ∧ pp ≤ 70368744177664 ∧ ps.length ≤ 65537 ∧
      Hid (wr.heap[w1.heap.size]? = some (.cells #[.int .i64 lx, .int .i64 l] 27 (0, 0))) ∧ Hid (wr.ownsRow (w1.heap.size + 1) 27 2 v ps.length (P2 ps)) ∧ Below w1.heap.size w1 wr ∧ w1.heap.size + 1 ≤ wr.heap.size) (fun _ _ i _ => n - (intOf i).toNat)
  case atStart =>
    refine ⟨0, 0, 0, 0, [(0, 0)], Nat.zero_le _, rfl, rfl, hide rfl, by omega, by omega, by omega, by simp, hide ?_, hide ?_, hst _ _, by simp⟩
    · rw [heap_alloc_old _ _ (by simp)]
      exact heap_alloc_new _ _
    · exact ⟨rfl, .inr ⟨w1.heap.size + 1, 1, _, rfl, Nat.le_refl _, by rw [show w1.heap.size + 1 = (w1.alloc (.cells #[.int .i64 0, .int .i64 0] 27)).heap.size by simp]; exact heap_alloc_new _ _, Nat.le_refl _, by decide, rfl, rfl⟩⟩
  case round =>
    obtain ⟨k, pp, l, lx, ps, hk, rfl, rfl, hst, hl0, hlp, hpp, hps, hG, hown, hb, hsz⟩ := hrel
    by_cases hlt : k < n
    · obtain ⟨bl, ol, rfl, hc1⟩ := (hA.keep hb).lies (by omega)
      have hk1 := hc1 k hlt
      clear hc1
      have hzk : Sz (zs.getD k 0) := HS.out _ (by simp [List.getD, List.getElem?_eq_getElem (by omega : k < zs.length)])
      unfold Sz at hzk
      have HY := hide (fun h => bst_yes hst.out (ev := ev) h)
      have HN := hide (fun h => bst_not hst.out (ev := ev) h)
      have HB := hide (fun p l ps h => bst_bound ev HS.out (k + 1) (by omega) (p := p) (l := l) (ps := ps) h)
      have hbn : (1073741824 : Int) * ((k + 1 : Nat) : Int) ≤ 70368744177664 := by omega
      generalize zs.getD k 0 = z at *
      obtain ⟨hz0', hz1'⟩ := hzk
      have c0 := cell_of_row wr _ 0 _ _ _ hG.out
      have c1 := cell_of_row wr _ 1 _ _ _ hG.out
      have z0 := frozen_of_row wr _ 0 _ _ hG.out
      have z1 := frozen_of_row wr _ 1 _ _ hG.out
      simp at c0 c1
      have HBN := hide hbn
      clear hbn hst
      by_cases hv : ev ≤ pp - l
      · have hy := HY.out hv
        have hbd := HB.out _ _ _ hy
        simp only [List.length_append, List.length_cons, List.length_nil] at hbd
        have hpz : pp + z ≤ 70368744177664 := by have := HBN.out; omega
        have hpl : ps.length + 1 ≤ 65537 := by omega
        have HY' := hide hy
        clear hy hbd HB HN HY
        obtain ⟨V, hV⟩ : ∃ V, V = wr.setRow w1.heap.size #[.int .i64 (k : Int), .int .i64 pp] := ⟨_, rfl⟩
        have hVG : V.heap[w1.heap.size]? = some (.cells #[.int .i64 (k : Int), .int .i64 pp] 27 (0, 0)) := by rw [hV]; exact setRow_heap _ _ _ _ _ _ hG.out
        have hoth : ∀ g, g ≠ w1.heap.size → V.heap[g]? = wr.heap[g]? := fun g hg => by rw [hV]; exact setRow_other _ _ _ _ hg
        have hownV := own_like hown.out (fun g h1 _ => hoth g (by omega))
        have hsV : V.heap.size = wr.heap.size := by rw [hV]; simp
        have hbV : Below w1.heap.size w1 V := by rw [hV]; exact below_setRow hb (Nat.le_refl _) _
        have HW := hide hV
        have HS' := hide hsV
        have hs1 : w1.heap.size + 1 ≤ V.heap.size := by omega
        clear hoth hV hown hsV
        clear z0 z1 c0
        go_wp2_with (first
          | (refine wpList_store_row rfl 27 _ _ rfl w1.heap.size #[.int .i64 (k : Int), .int .i64 pp] rfl rfl 27 _ hG.out (by kernel_rfl) rfl (by simp [Value.oneCell']) ?_; rw [← HW.out])
          | (refine wpList_load_row rfl 27 _ rfl w1.heap.size rfl 27 _ (0, 0) _ hVG Try.underlying27 rfl (by kernel_rfl) ?_)
          | (at_builtin; refine wpList_append_own _ rfl _ _ 22 rfl (w1.heap.size + 1) 27 i0 (.agg #[.int .i64 0, .int .i64 0]) 2 16 Try.underlying22 HI.out.1 HI.out.2.1 HI.out.2.2.1 HI.out.2.2.2 rfl (by omega) _ _ _ rfl (hownV.alloc _) ⟨_, 0, none⟩ 1 1 [.int .i64 (k : Int), .int .i64 pp] rfl rfl (two_new _ _ _ _ _ (by simp)) (by simp [Value.oneCell']) (by unfold maxLen; omega) (by omega) (by simp; omega) ?_; intro v3 w3 hown3 hgrow3 _))
        have hg3 : (V.alloc (.cells #[.int .i64 (k : Int), .int .i64 pp] 27)).grownBy w3 u7.ownBlock := hgrow3
        have hfar : ∀ x, u7.ownBlock = some x → w1.heap.size + 1 ≤ x := fun x hx => (hownV.lt x hx).1
        have hb3 : Below w1.heap.size w1 w3 := (hbV.alloc (by omega) _).grown hg3 (by simp; omega) (fun x hx => by have := hfar x hx; omega)
        have hG3 : w3.heap[w1.heap.size]? = some (.cells #[.int .i64 (k : Int), .int .i64 pp] 27 (0, 0)) := by
          rw [hg3.block _ (by simp; omega) (fun e => by have := hfar _ e.symm; omega), heap_alloc_old _ _ (by omega)]
          exact hVG
        have hs3 : w1.heap.size + 1 ≤ w3.heap.size := by have := hg3.size; simp at this; omega
        have ho3 : w3.ownsRow (w1.heap.size + 1) 27 2 v3 (ps ++ [((k : Int), pp)]).length (P2 (ps ++ [((k : Int), pp)])) := by
          rw [P2_append]
          simpa [P2] using hown3
        clear hgrow3 hown3 hg3
        go_roundw
        case rel => exact ⟨k + 1, _, pp, (k : Int), _, by omega, by go_num, rfl, HY', by omega, by omega, hpz, by simpa using hpl, hide hG3, hide ho3, hb3, hs3⟩
        case measure => simp [intOf]; omega
      · have hy := HN.out hv
        have hbd := HB.out _ _ _ hy
        have hpz : pp + z ≤ 70368744177664 := by have := HBN.out; omega
        have HY' := hide hy
        clear hy hbd HB HN HY z0 z1 c0
        go_wp2_with fail
        go_roundw
        case rel => exact ⟨k + 1, _, l, lx, ps, by omega, by go_num, rfl, HY', hl0, by omega, hpz, hps, hG, hown, hb, hsz⟩
        case measure => simp [intOf]; omega
    · obtain rfl : k = n := by omega
      have HST := hst
      clear hst
      have hown' := own_less hown.out (Nat.le_succ _)
      obtain ⟨a7, c7, rfl⟩ := own_val hown'
      have HO := hide hown'
      clear hown hown'
      go_wp2_with fail
      go_ret2
      rw [HST.out]
      exact ⟨_, _, rfl, HO.out, hb⟩

end Go.Proofs.Ytaapcanoaidpjaa

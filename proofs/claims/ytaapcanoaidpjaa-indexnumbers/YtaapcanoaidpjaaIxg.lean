/-
  The document's Find and Build; CopyInts, SameInts.
-/
import Derived.Test.YtaapcanoaidpjaaIxf
namespace Go.Proofs.Ytaapcanoaidpjaa
open Go.RowKit
set_option maxRecDepth 100000

theorem info3 : (Try.prog.info? 3).map (fun i => (i.zero, i.size, i.bytes)) = some (some (.int .i64 0), 1, 8) := by kernel_rfl

/-- Ints as cells. -/
def I1 (zs : List Int) : List Value := zs.map (Value.int .i64)
theorem I1_length (zs : List Int) : (I1 zs).length = zs.length := by simp [I1]
theorem I1_append (l m : List Int) : I1 (l ++ m) = I1 l ++ I1 m := by simp [I1]

theorem own_is {w : World} {base n cap : Nat} {a : Option Addr} {e : TypeId} {zs : List Int} (h : w.ownsRow base e 1 (.slice a n cap) n (I1 zs)) : Is w a n cap zs := by
  have hl : zs.length = n := by have := h.1; rw [I1_length] at this; omega
  have h0 := h
  rcases h.2 with ⟨h1, h0⟩ | ⟨g, cap', cur, h1, _, hh, hc, hm, hs, ht⟩
  · simp only [Value.slice.injEq] at h1
    obtain ⟨rfl, rfl, rfl⟩ := h1
    exact ⟨hl, Nat.le_refl _, by omega, fun h => by omega⟩
  · simp only [Value.slice.injEq] at h1
    obtain ⟨rfl, _, rfl⟩ := h1
    unfold maxLen at hm
    refine ⟨hl, hc, by omega, fun _ => ⟨g, 0, rfl, fun i hi => ?_⟩⟩
    have e1 : (I1 zs)[i]? = some (.int .i64 (zs.getD i 0)) := by simp [I1, List.getD, List.getElem?_eq_getElem (by omega : i < zs.length)]
    have c1 := h0.cells (g := g) rfl _ _ e1
    rwa [Addr.add_mid] at c1

set_option maxHeartbeats 400000 in
theorem copyInts_any (a : Option Addr) (n cap : Nat) (zs : List Int) (w : World) (hB : Is w a n cap zs) (hn : n * 8 ≤ 140737488355328) :
    Calls Try.prog 11 #[.slice a n cap] w fun e w' => ∃ c d, e = .returned (.slice c n d) ∧ w'.ownsRow w.heap.size 3 1 (.slice c n d) n (I1 zs) ∧ Below w.heap.size w w' := by
  obtain ⟨i0, hi, hz0, hz1, hz2⟩ := info_parts info3
  by_cases h0 : n = 0
  · subst h0
    have hz : zs = [] := List.eq_nil_of_length_eq_zero hB.len
    subst hz
    go_enter Try.func11, Try.ntmps11
    go_wp2_with (at_builtin; refine wpList_append_zero rfl (.tmp 4) (.tmp 5) 26 rfl 3 i0 Try.underlying26 hi rfl _ _ rfl ?_)
    go_ret
    exact ⟨_, _, rfl, World.ownsRow_nil _ _ _ _, Below.refl _ _⟩
  · obtain ⟨b, off, rfl, hc⟩ := hB.lies (by omega)
    have hl := hB.len
    have hcs : ∀ j u, (I1 zs)[j]? = some u → w.cell? ((⟨b, off, none⟩ : Addr).add j) = some u := by
      intro j u hu
      have hj : j < zs.length := by
        rcases Nat.lt_or_ge j zs.length with h | h
        · exact h
        · rw [List.getElem?_eq_none (by rw [I1_length]; exact h)] at hu
          cases hu
      rw [Addr.add_mid, hc j (by omega), ← hu]
      simp [I1, List.getD, List.getElem?_eq_getElem hj]
    have HC := hide hcs
    clear hcs hc
    go_enter Try.func11, Try.ntmps11
    go_wp2_with (at_builtin; refine wpList_append_own _ rfl (.tmp 4) (.tmp 5) 26 rfl w.heap.size 3 i0 (.int .i64 0) 1 8 Try.underlying26 hi hz0 hz1 hz2 rfl (by omega) (.slice none 0 0) 0 [] rfl (World.ownsRow_nil _ _ _ _) ⟨b, off, none⟩ n cap (I1 zs) rfl (by rw [I1_length]; omega) HC.out (ints_oneCell .i64 zs) (by unfold maxLen; omega) (by omega) (Nat.le_refl _) ?_; intro v w1 hown hgrow _; simp only [Nat.zero_add, List.nil_append] at hown)
    obtain ⟨c, d, rfl⟩ := own_val hown
    go_ret
    exact ⟨_, _, rfl, hown, (Below.refl _ _).grown hgrow (Nat.le_refl _) (fun k hk => by cases hk)⟩

set_option maxHeartbeats 1000000 in
theorem sameInts_any (a c : Option Addr) (n cap m dap : Nat) (xs ys : List Int) (w : World) (hA : Is w a n cap xs) (hC : Is w c m dap ys) :
    Calls Try.prog 15 #[.slice a n cap, .slice c m dap] w fun e w' => e = .returned (.bool (decide (xs = ys))) ∧ ∃ q, w' = w.drewN q := by
  have hla := hA.len
  have hlc := hC.len
  have hea := hA.le
  have hra := hA.reach
  have hec := hC.le
  have hrc := hC.reach
  by_cases hnm : n = m
  · subst hnm
    go_enter Try.func15, Try.ntmps15
    go_wp2_with fail
    go_loopw [5] (fun i wr => ∃ k q : Nat, k ≤ n ∧ i = .int .i64 k ∧ wr = w.drewN q ∧ Hid (xs.take k = ys.take k)) (fun i _ => n - (intOf i).toNat)
    case atStart => exact ⟨0, 0, Nat.zero_le _, rfl, rfl, hide (by simp)⟩
    case round =>
      obtain ⟨k, q, hk, rfl, hwr, heq⟩ := hrel
      have hA' := hA.keep (below_drewN (Below.refl _ w) q)
      have hC' := hC.keep (below_drewN (Below.refl _ w) q)
      rw [← hwr] at hA' hC'
      have HR := hide hwr
      clear hwr
      by_cases hlt : k < n
      · obtain ⟨b1, o1, rfl, hc1⟩ := hA'.lies (by omega)
        obtain ⟨b2, o2, rfl, hc2⟩ := hC'.lies (by omega)
        have hk1 := hc1 k hlt
        have hk3 := hc2 k hlt
        have key := hide (take_next_eq (d := (0 : Int)) heq.out (by omega : k < xs.length) (by omega : k < ys.length))
        clear hc1 hc2
        generalize xs.getD k 0 = x1 at *
        generalize ys.getD k 0 = x2 at *
        by_cases he : x1 = x2
        · have key' := hide (key.out.2 he)
          subst he
          go_wp2_with fail
          go_quiet (fail)
          go_wp2_with fail
          go_roundw
          case rel => exact ⟨k + 1, q + nq, by omega, by go_num, by rw [HR.out, World.drewN_drewN], key'⟩
          case measure => simp [intOf]; omega
        · have he' : (x1 != x2) = true := by simpa using he
          go_wp2_with fail
          go_quiet (fail)
          go_wp2_with fail
          go_ret
          refine ⟨?_, q + nq, by rw [HR.out, World.drewN_drewN]⟩
          rw [decide_eq_false (fun e => he (key.out.1 (by rw [e])))]
          rfl
      · obtain rfl : k = n := by omega
        have e : xs = ys := by
          have := heq.out
          rwa [List.take_of_length_le (by omega), List.take_of_length_le (by omega)] at this
        have HE := hide e
        clear e heq
        go_wp2_with fail
        go_ret
        refine ⟨?_, q, HR.out⟩
        rw [decide_eq_true HE.out]
        rfl
  · have hd : decide (xs = ys) = false := decide_eq_false (fun e => hnm (by rw [← hla, ← hlc, e]))
    rw [hd]
    clear hd
    go_enter Try.func15, Try.ntmps15
    go_wp2_with fail
    go_ret
    exact ⟨rfl, 0, rfl⟩

set_option maxHeartbeats 2000000 in
theorem findRef_no (a : Option Addr) (n cap : Nat) (ps : List (Int × Int)) (m : Int) (w : World) (hA : Pr w a n cap ps) (h : m < 0 ∨ ¬ Rt ps) :
    Calls Try.prog 13 #[.slice a n cap, .int .i64 m] w fun e w' => e = .returned (.tuple #[.agg #[.int .i64 0, .int .i64 0], .int .i64 2]) ∧ Below w.heap.size w w' := by
  obtain ⟨V, hV⟩ : ∃ V, V = w.alloc (.cells #[.int .i64 0, .int .i64 0] 27) := ⟨_, rfl⟩
  have b0 : Below w.heap.size w V := by rw [hV]; exact (Below.refl _ w).alloc (Nat.le_refl _) _
  have f3 : V.heap[w.heap.size]? = some (.cells #[.int .i64 0, .int .i64 0] 27 (0, 0)) := by rw [hV]; exact heap_alloc_new _ _
  have HV := hide hV
  clear hV
  have C1 := right_ref a n cap ps V (hA.keep b0)
  have hfin : ∀ q x y, Below w.heap.size w (((V.drewN q).setCell ⟨w.heap.size, 0, none⟩ x).setCell ⟨w.heap.size, 1, none⟩ y) := fun q x y => ((below_drewN b0 q).setCell (Nat.le_refl _) _).setCell (Nat.le_refl _) _
  have f4 : ∀ q, (V.drewN q).heap[w.heap.size]? = some (.cells #[.int .i64 0, .int .i64 0] 27 (0, 0)) := fun q => ((below_drewN (Below.refl V.heap.size V) q).block _ (heap_lt f3)).trans f3
  have HF := hide hfin
  have H4 := hide f4
  clear hfin f4 f3 b0
  by_cases hr : Rt ps
  · have hm : m < 0 := h.resolve_right (fun x => x hr)
    rw [decide_eq_true hr] at C1
    clear h hr
    go_enter Try.func13, Try.ntmps13
    go_wp2_with fail
    rw [← HV.out]
    refine C1.mono ?_
    rintro e w1 ⟨rfl, q, hw1⟩
    have g3 := H4.out q
    have HF' := hide (HF.out q)
    rw [← hw1] at g3 HF'
    clear hw1 H4 HF C1 HV
    have c0 := cell_of_row w1 _ 0 _ _ _ g3
    have c1 := cell_of_row w1 _ 1 _ _ _ g3
    have z0 := frozen_of_row w1 _ 0 _ _ g3
    have z1 := frozen_of_row w1 _ 1 _ _ g3
    simp at c0 c1
    have HP := hide (pair_set g3)
    clear g3
    go_wp2_with fail
    refine bodyPost_ret (v := .tuple #[.agg #[.int .i64 0, .int .i64 0], .int .i64 2]) (results_cell_tmp Try.results13 _ _ w.heap.size (27 : TypeId) _ (0, 0) _ _ rfl rfl (HP.out _ _) Try.underlying27 rfl (by kernel_rfl)) rfl ?_
    exact ⟨rfl, HF'.out _ _⟩
  · rw [decide_eq_false hr] at C1
    clear h hr
    go_enter Try.func13, Try.ntmps13
    go_wp2_with fail
    rw [← HV.out]
    refine C1.mono ?_
    rintro e w1 ⟨rfl, q, hw1⟩
    have g3 := H4.out q
    have HF' := hide (HF.out q)
    rw [← hw1] at g3 HF'
    clear hw1 H4 HF C1 HV
    have c0 := cell_of_row w1 _ 0 _ _ _ g3
    have c1 := cell_of_row w1 _ 1 _ _ _ g3
    have z0 := frozen_of_row w1 _ 0 _ _ g3
    have z1 := frozen_of_row w1 _ 1 _ _ g3
    simp at c0 c1
    have HP := hide (pair_set g3)
    clear g3
    go_wp2_with fail
    refine bodyPost_ret (v := .tuple #[.agg #[.int .i64 0, .int .i64 0], .int .i64 2]) (results_cell_tmp Try.results13 _ _ w.heap.size (27 : TypeId) _ (0, 0) _ _ rfl rfl (HP.out _ _) Try.underlying27 rfl (by kernel_rfl)) rfl ?_
    exact ⟨rfl, HF'.out _ _⟩

set_option maxHeartbeats 4000000 in
theorem findRef_yes (a : Option Addr) (n cap : Nat) (ps : List (Int × Int)) (m : Int) (w : World) (hA : Pr w a n cap ps) (hR : Rt ps) (hm : 0 ≤ m) :
    Calls Try.prog 13 #[.slice a n cap, .int .i64 m] w fun e w' => (∃ j, Lp ps m j ∧ e = .returned (.tuple #[.agg #[.int .i64 (ps.getD j (0, 0)).1, .int .i64 (ps.getD j (0, 0)).2], .int .i64 0])) ∧ Below w.heap.size w w' := by
  have hla := hA.len
  have hea := hA.le
  have hra := hA.reach
  have hRp := hR.1
  obtain ⟨V, hV⟩ : ∃ V, V = w.alloc (.cells #[.int .i64 0, .int .i64 0] 27) := ⟨_, rfl⟩
  have b0 : Below w.heap.size w V := by rw [hV]; exact (Below.refl _ w).alloc (Nat.le_refl _) _
  have f3 : V.heap[w.heap.size]? = some (.cells #[.int .i64 0, .int .i64 0] 27 (0, 0)) := by rw [hV]; exact heap_alloc_new _ _
  have hs0 : V.heap.size = w.heap.size + 1 := by rw [hV]; simp
  have HV := hide hV
  clear hV
  have C1 := right_ref a n cap ps V (hA.keep b0)
  rw [decide_eq_true hR] at C1
  have hd : decide (m < 0) = false := decide_eq_false (by omega)
  go_enter Try.func13, Try.ntmps13
  go_wp2_with fail
  rw [← HV.out]
  refine C1.mono ?_
  rintro e w1 ⟨rfl, q, hw1⟩
  have b1 : Below w.heap.size w w1 := by rw [hw1]; exact below_drewN b0 q
  have g3 : w1.heap[w.heap.size]? = some (.cells #[.int .i64 0, .int .i64 0] 27 (0, 0)) := by rw [hw1]; exact ((below_drewN (Below.refl V.heap.size V) q).block _ (heap_lt f3)).trans f3
  have hs1 : w1.heap.size = w.heap.size + 1 := by rw [hw1, ← hs0]; simp
  clear hw1 f3 b0 C1 HV hs0
  obtain ⟨bl, ol, rfl, hc⟩ := (hA.keep b1).lies (by omega)
  have hbl : bl < w.heap.size := by
    obtain ⟨b', o', e', hc'⟩ := hA.lies (by omega)
    simp only [Option.some.injEq, Addr.mk.injEq, and_true] at e'
    rw [e'.1]
    exact cell_lt (hc' 0 (by omega)).1
  obtain ⟨hk1, hk2⟩ := hc 0 (by omega)
  rw [hR.2.1] at hk1 hk2
  simp only [Nat.zero_mul, Nat.add_zero] at hk1 hk2
  have HS1 := hide hs1
  have HG3 := hide g3
  clear hs1 g3 hc
  go_wp2_with fail
  go_loopw [7] (fun i wr => ∃ k j : Nat, k ≤ n ∧ i = .int .i64 k ∧ j < n ∧ Hid ((ps.getD j (0, 0)).1 ≤ m ∧ ∀ i, j < i → i < k → m < (ps.getD i (0, 0)).1) ∧
      Hid (wr.heap[w.heap.size]? = some (.cells #[.int .i64 0, .int .i64 0] 27 (0, 0))) ∧ Hid (wr.heap[w1.heap.size]? = some (.cells #[.int .i64 (ps.getD j (0, 0)).1, .int .i64 (ps.getD j (0, 0)).2] 27 (0, 0))) ∧ Below w.heap.size w wr) (fun i _ => n - (intOf i).toNat)
  case atStart =>
    refine ⟨0, 0, Nat.zero_le _, rfl, by omega, hide ⟨by rw [hR.2.1]; exact hm, fun i h1 h2 => by omega⟩, hide ?_, hide ?_, b1.alloc b1.size _⟩
    · rw [heap_alloc_old _ _ (heap_lt HG3.out)]
      exact HG3.out
    · rw [hR.2.1]
      exact heap_alloc_new _ _
  case round =>
    obtain ⟨k, j, hk, rfl, hj, hin, hG, hG2, hb⟩ := hrel
    clear hk1 hk2 HG3
    by_cases hlt : k < n
    · obtain ⟨b', o', e', hc⟩ := (hA.keep hb).lies (by omega)
      simp only [Option.some.injEq, Addr.mk.injEq, and_true] at e'
      obtain ⟨rfl, rfl⟩ := e'
      obtain ⟨hk1, hk2⟩ := hc k hlt
      have hin2 := hide (fun (h : (ps.getD k (0, 0)).1 ≤ m) => show (ps.getD k (0, 0)).1 ≤ m ∧ ∀ i, k < i → i < k + 1 → m < (ps.getD i (0, 0)).1 from ⟨h, fun i h1 h2 => by omega⟩)
      have hin3 := hide (fun (h : m < (ps.getD k (0, 0)).1) => show (ps.getD j (0, 0)).1 ≤ m ∧ ∀ i, j < i → i < k + 1 → m < (ps.getD i (0, 0)).1 from ⟨hin.out.1, fun i h1 h2 => by
        by_cases e : i < k
        · exact hin.out.2 i h1 e
        · obtain rfl : i = k := by omega
          exact h⟩)
      clear hin hc
      by_cases hle : (ps.getD k (0, 0)).1 ≤ m
      · have hin' := hide (hin2.out hle)
        have hdl : decide ((ps.getD k (0, 0)).1 ≤ m) = true := decide_eq_true hle
        obtain ⟨V2, hV2⟩ : ∃ V2, V2 = wr.setRow w1.heap.size #[.int .i64 (ps.getD k (0, 0)).1, .int .i64 (ps.getD k (0, 0)).2] := ⟨_, rfl⟩
        have hVG : V2.heap[w1.heap.size]? = some (.cells #[.int .i64 (ps.getD k (0, 0)).1, .int .i64 (ps.getD k (0, 0)).2] 27 (0, 0)) := by rw [hV2]; exact setRow_heap _ _ _ _ _ _ hG2.out
        have hVo : V2.heap[w.heap.size]? = some (.cells #[.int .i64 0, .int .i64 0] 27 (0, 0)) := by
          rw [hV2, setRow_other _ _ _ _ (by have := HS1.out; omega)]
          exact hG.out
        have hbV : Below w.heap.size w V2 := by rw [hV2]; exact below_setRow hb (by have := HS1.out; omega) _
        have HW := hide hV2
        have HVG := hide hVG
        have HVO := hide hVo
        clear hV2 hVG hVo hin2 hin3 hle hG
        obtain ⟨p, hp⟩ : ∃ p, p = ps.getD k (0, 0) := ⟨_, rfl⟩
        rw [← hp] at hk1 hk2 hdl HW
        clear hp
        obtain ⟨x, y⟩ := p
        simp only at hk1 hk2 hdl
        go_wp2_with (refine wpList_store_row rfl 27 _ _ rfl w1.heap.size #[.int .i64 x, .int .i64 y] rfl rfl 27 _ hG2.out (by kernel_rfl) rfl (by simp [Value.oneCell']) ?_; rw [← HW.out])
        go_roundw
        case rel => exact ⟨k + 1, k, by omega, by go_num, hlt, hin', HVO, HVG, hbV⟩
        case measure => simp [intOf]; omega
      · have hin' := hide (hin3.out (by omega))
        have hdl : decide ((ps.getD k (0, 0)).1 ≤ m) = false := decide_eq_false hle
        clear hin2 hin3 hle
        obtain ⟨p, hp⟩ : ∃ p, p = ps.getD k (0, 0) := ⟨_, rfl⟩
        rw [← hp] at hk1 hk2 hdl
        clear hp
        obtain ⟨x, y⟩ := p
        simp only at hk1 hk2 hdl
        go_wp2_with fail
        go_roundw
        case rel => exact ⟨k + 1, j, by omega, by go_num, hj, hin', hG, hG2, hb⟩
        case measure => simp [intOf]; omega
    · obtain rfl : k = n := by omega
      have HL : Hid (Lp ps m j) := hide ⟨by omega, hin.out.1, fun i h1 h2 => hin.out.2 i h1 (by omega)⟩
      clear hin
      obtain ⟨p, hp⟩ : ∃ p, p = ps.getD j (0, 0) := ⟨_, rfl⟩
      rw [← hp] at hG2
      have HPJ := hide hp
      clear hp
      obtain ⟨x, y⟩ := p
      simp only at hG2
      obtain ⟨V2, hV2⟩ : ∃ V2, V2 = wr.setRow w.heap.size #[.int .i64 x, .int .i64 y] := ⟨_, rfl⟩
      have hVG : V2.heap[w.heap.size]? = some (.cells #[.int .i64 x, .int .i64 y] 27 (0, 0)) := by rw [hV2]; exact setRow_heap _ _ _ _ _ _ hG.out
      have hbV : Below w.heap.size w V2 := by rw [hV2]; exact below_setRow hb (Nat.le_refl _) _
      have HW := hide hV2
      have HVG := hide hVG
      clear hV2 hVG
      go_wp2_with (first
        | (refine wpList_load_row rfl 27 _ rfl w1.heap.size rfl 27 _ (0, 0) _ hG2.out Try.underlying27 rfl (by kernel_rfl) ?_)
        | (refine wpList_store_row rfl 27 _ _ rfl w.heap.size #[.int .i64 x, .int .i64 y] rfl rfl 27 _ hG.out (by kernel_rfl) rfl (by simp [Value.oneCell']) ?_; rw [← HW.out]))
      refine bodyPost_ret (v := .tuple #[.agg #[.int .i64 x, .int .i64 y], .int .i64 0]) (results_cell_tmp Try.results13 _ _ w.heap.size (27 : TypeId) _ (0, 0) _ _ rfl rfl HVG.out Try.underlying27 rfl (by kernel_rfl)) rfl ?_
      exact ⟨⟨j, HL.out, by rw [← HPJ.out]⟩, hbV⟩

theorem buildRef_no (a : Option Addr) (n cap : Nat) (zs : List Int) (ev : Int) (w : World) (hA : Is w a n cap zs) (h : ev < 1 ∨ ¬ Szs zs) :
    Calls Try.prog 12 #[.slice a n cap, .int .i64 ev] w fun e w' => e = .returned (.tuple #[.slice none 0 0, .int .i64 2]) ∧ w' = w := by
  have hla := hA.len
  have hea := hA.le
  have hra := hA.reach
  by_cases hev : ev < 1
  · go_enter Try.func12, Try.ntmps12
    go_wp2_with fail
    go_ret2
    exact ⟨rfl, rfl⟩
  · have hs := h.resolve_left hev
    by_cases hn : 65536 < n
    · go_enter Try.func12, Try.ntmps12
      go_wp2_with fail
      go_ret2
      exact ⟨rfl, rfl⟩
    · have HE : Hid (¬ ∀ z ∈ zs, Sz z) := hide (fun h => hs ⟨by omega, h⟩)
      clear h hs
      go_enter Try.func12, Try.ntmps12
      go_wp2_with fail
      go_loopw [6] (fun i wr => ∃ k : Nat, k ≤ n ∧ i = .int .i64 k ∧ wr = w ∧ Hid (∀ z ∈ zs.take k, Sz z)) (fun i _ => n - (intOf i).toNat)
      case atStart => exact ⟨0, Nat.zero_le _, rfl, rfl, hide (by simp)⟩
      case round =>
        obtain ⟨k, hk, rfl, rfl, hall⟩ := hrel
        by_cases hlt : k < n
        · obtain ⟨b1, o1, rfl, hc1⟩ := hA.lies (by omega)
          have hk1 := hc1 k hlt
          have HN := hide (take_snoc (d := (0 : Int)) zs k (by omega))
          generalize zs.getD k 0 = z at *
          clear hc1
          by_cases h1 : z < 0
          · go_wp2_with fail
            go_ret2
            exact ⟨rfl, rfl⟩
          · by_cases h2 : 1073741824 < z
            · go_wp2_with fail
              go_ret2
              exact ⟨rfl, rfl⟩
            · go_wp2_with fail
              go_roundw
              case rel =>
                refine ⟨k + 1, by omega, by go_num, by trivial, hide ?_⟩
                rw [HN.out]
                intro x hx
                rcases List.mem_append.1 hx with h | h
                · exact hall.out x h
                · simp only [List.mem_singleton] at h
                  subst h
                  exact ⟨by omega, by omega⟩
              case measure => simp [intOf]; omega
        · exfalso
          obtain rfl : k = n := by omega
          have := hall.out
          rw [List.take_of_length_le (by omega)] at this
          exact HE.out this

set_option maxHeartbeats 4000000 in
theorem buildRef_yes (a : Option Addr) (n cap : Nat) (zs : List Int) (ev : Int) (w : World) (hA : Is w a n cap zs) (hev : 1 ≤ ev) (hs : Szs zs) :
    Calls Try.prog 12 #[.slice a n cap, .int .i64 ev] w fun e w' => ∃ c d, e = .returned (.tuple #[.slice c (bst ev zs n).2.2.length d, .int .i64 0]) ∧ w'.ownsRow w.heap.size 27 2 (.slice c (bst ev zs n).2.2.length d) (bst ev zs n).2.2.length (P2 (bst ev zs n).2.2) ∧ Below w.heap.size w w' := by
  obtain ⟨i0, hi, hz0, hz1, hz2⟩ := info_parts info27
  have HI := hide (And.intro hi (And.intro hz0 (And.intro hz1 hz2)))
  clear hi hz0 hz1 hz2
  have hla := hA.len
  have hea := hA.le
  have hra := hA.reach
  have hn : n ≤ 65536 := by have := hs.1; omega
  have HS := hide hs.2
  have hd : decide (ev < 1) = false := decide_eq_false (by omega)
  have hd2 : decide ((65536 : Int) < (n : Int)) = false := decide_eq_false (by omega)
  clear hs
  go_enter Try.func12, Try.ntmps12
  go_wp2_with fail
  go_loopw [6] (fun i wr => ∃ k : Nat, k ≤ n ∧ i = .int .i64 k ∧ wr = w) (fun i _ => n - (intOf i).toNat)
  case atStart => exact ⟨0, Nat.zero_le _, rfl, rfl⟩
  case round =>
    obtain ⟨k, hk, rfl, rfl⟩ := hrel
    by_cases hlt : k < n
    · obtain ⟨b1, o1, rfl, hc1⟩ := hA.lies (by omega)
      have hk1 := hc1 k hlt
      have hzk : Sz (zs.getD k 0) := HS.out _ (by simp [List.getD, List.getElem?_eq_getElem (by omega : k < zs.length)])
      unfold Sz at hzk
      generalize zs.getD k 0 = z at *
      obtain ⟨hz0', hz1'⟩ := hzk
      clear hc1
      go_wp2_with fail
      go_roundw
      case rel => exact ⟨k + 1, by omega, by go_num, by trivial⟩
      case measure => simp [intOf]; omega
    · obtain rfl : k = n := by omega
      go_wp2_with fail
      obtain ⟨wl, hwl⟩ : ∃ wl : World, wl = wr := ⟨_, rfl⟩
      subst hwl
      go_loopw [7, 8, 9, 10] (fun v p lv i wr => ∃ j : Nat, ∃ pp l : Int, ∃ ps : List (Int × Int), j ≤ k ∧ i = .int .i64 j ∧ p = .int .i64 pp ∧ lv = .int .i64 l ∧ Hid (bst ev zs j = (pp, l, ps)) ∧ 0 ≤ l ∧ l ≤ pp ∧ pp ≤ 70368744177664 ∧ ps.length ≤ 65537 ∧
          Hid (wr.ownsRow wl.heap.size 27 2 v ps.length (P2 ps)) ∧ Below wl.heap.size wl wr) (fun _ _ _ i _ => k - (intOf i).toNat)
      case atStart =>
        refine ⟨0, 0, 0, [(0, 0)], Nat.zero_le _, rfl, rfl, rfl, hide rfl, by omega, by omega, by omega, by simp, hide ?_, (Below.refl _ wl).alloc (Nat.le_refl _) _⟩
        exact ⟨rfl, .inr ⟨wl.heap.size, 1, _, rfl, Nat.le_refl _, heap_alloc_new _ _, Nat.le_refl _, by decide, rfl, rfl⟩⟩
      case round =>
        obtain ⟨j, pp, l, ps, hj, rfl, rfl, rfl, hst, hl0, hlp, hpp, hps, hown, hb⟩ := hrel
        have hbs := hb.size
        by_cases hlt : j < k
        · obtain ⟨bl, ol, rfl, hc1⟩ := (hA.keep hb).lies (by omega)
          have hk1 := hc1 j hlt
          have HK := hide (fun (w' : World) (h : Below wl.heap.size wl w') => show w'.cell? ⟨bl, ol + j, none⟩ = some (.int .i64 (zs.getD j 0)) by
            obtain ⟨b', o', e', hc'⟩ := (hA.keep h).lies (by omega)
            simp only [Option.some.injEq, Addr.mk.injEq, and_true] at e'
            obtain ⟨rfl, rfl⟩ := e'
            exact hc' j hlt)
          clear hc1
          have hzk : Sz (zs.getD j 0) := HS.out _ (by simp [List.getD, List.getElem?_eq_getElem (by omega : j < zs.length)])
          unfold Sz at hzk
          have HY := hide (fun h => bst_yes hst.out (ev := ev) h)
          have HN := hide (fun h => bst_not hst.out (ev := ev) h)
          have HB := hide (fun p l ps h => bst_bound ev HS.out (j + 1) (by omega) (p := p) (l := l) (ps := ps) h)
          have hbn : (1073741824 : Int) * ((j + 1 : Nat) : Int) ≤ 70368744177664 := by omega
          generalize zs.getD j 0 = z at *
          obtain ⟨hz0', hz1'⟩ := hzk
          have HBN := hide hbn
          clear hbn hst
          by_cases hv : ev ≤ pp - l
          · have hy := HY.out hv
            have hbd := HB.out _ _ _ hy
            simp only [List.length_append, List.length_cons, List.length_nil] at hbd
            have hpz : pp + z ≤ 70368744177664 := by have := HBN.out; omega
            have hpl : ps.length + 1 ≤ 65537 := by omega
            have HY' := hide hy
            clear hy hbd HB HN HY hk1
            have hownV := hown.out
            clear hown
            go_wp2_with (at_builtin; refine wpList_append_own _ rfl _ _ 22 rfl wl.heap.size 27 i0 (.agg #[.int .i64 0, .int .i64 0]) 2 16 Try.underlying22 HI.out.1 HI.out.2.1 HI.out.2.2.1 HI.out.2.2.2 rfl (by omega) _ _ _ rfl (hownV.alloc _) ⟨_, 0, none⟩ 1 1 [.int .i64 (j : Int), .int .i64 pp] rfl rfl (two_new _ _ _ _ _ (by simp)) (by simp [Value.oneCell']) (by unfold maxLen; omega) (by omega) (by simp; omega) ?_; intro v3 w3 hown3 hgrow3 _; have hg3 : (wr.alloc (.cells #[.int .i64 (j : Int), .int .i64 pp] 27)).grownBy w3 u7.ownBlock := hgrow3; have hb3 : Below wl.heap.size wl w3 := (hb.alloc hbs _).grown hg3 (by simp; omega) (fun x hx => (hownV.lt x hx).1); have hk1 := HK.out w3 hb3; clear hgrow3 hg3)
            have ho3 : w3.ownsRow wl.heap.size 27 2 v3 (ps ++ [((j : Int), pp)]).length (P2 (ps ++ [((j : Int), pp)])) := by
              rw [P2_append]
              simpa [P2] using hown3
            clear hown3
            go_roundw
            case rel => exact ⟨j + 1, _, _, _, by omega, by go_num, rfl, rfl, HY', by omega, by omega, hpz, by simpa using hpl, hide ho3, hb3⟩
            case measure => simp [intOf]; omega
          · have hy := HN.out hv
            have hbd := HB.out _ _ _ hy
            have hpz : pp + z ≤ 70368744177664 := by have := HBN.out; omega
            have HY' := hide hy
            clear hy hbd HB HN HY HK
            go_wp2_with fail
            go_roundw
            case rel => exact ⟨j + 1, _, l, ps, by omega, by go_num, rfl, rfl, HY', hl0, by omega, hpz, hps, hown, hb⟩
            case measure => simp [intOf]; omega
        · obtain rfl : j = k := by omega
          have HST := hst
          clear hst
          have hown' := hown.out
          obtain ⟨a7, c7, rfl⟩ := own_val hown'
          have HO := hide hown'
          clear hown hown'
          go_wp2_with fail
          go_ret2
          rw [HST.out]
          exact ⟨_, _, rfl, HO.out, hb⟩

end Go.Proofs.Ytaapcanoaidpjaa

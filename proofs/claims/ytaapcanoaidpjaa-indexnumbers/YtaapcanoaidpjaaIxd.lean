/-
  sort.Search with Find's closure; Find.
-/
import Derived.Test.YtaapcanoaidpjaaIxc
namespace Go.Proofs.Ytaapcanoaidpjaa
open Go.RowKit

theorem heap_lt {w : World} {g : Nat} {o : Obj} (h : w.heap[g]? = some o) : g < w.heap.size := (Array.getElem?_eq_some_iff.1 h).1

theorem results_cell_tmp {P : Program} {fn : Func} {p q : Tmp} {ty : TypeId} (h : fn.results = #[.cell p ty, .tmp q]) (tmps : Array Value) (w : World) (g : Nat) (t : TypeId) (cs : Array Value) (fr : Nat × Nat) (d : TypeDesc) (x : Value)
    (hp : tmps.getD p undef = .pointer (some ⟨g, 0, none⟩)) (hq : tmps.getD q undef = x) (hg : w.heap[g]? = some (.cells cs t fr))
    (hu : P.underlying ty = some d) (hd : (match d with | .struct _ | .array _ _ => true | _ => false) = true) (hi : (P.info? ty).map (·.size) = some cs.size) :
    (results fn tmps).run P w = .ok (.tuple #[.agg cs, x]) w := by
  have hp' : tmps[p]?.getD undef = .pointer (some ⟨g, 0, none⟩) := by simpa using hp
  have hq' : tmps[q]?.getD undef = x := by simpa using hq
  simp [results, h, hp', hq', asAddr, run_loadVar_row w g t ty cs fr d hg hu hd hi]

theorem pair_set {w : World} {G : Nat} {x0 y0 : Value} {t : TypeId} (h : w.heap[G]? = some (.cells #[x0, y0] t (0, 0))) (x y : Value) : ((w.setCell ⟨G, 0, none⟩ x).setCell ⟨G, 1, none⟩ y).heap[G]? = some (.cells #[x, y] t (0, 0)) := by
  have e1 := heap_setCell_same w G 0 _ t x h
  have e2 := heap_setCell_same _ G 1 _ t y e1
  simpa using e2

/-- What the closure holds: the index and the number, each in a box. -/
structure Bx (w : World) (g h : Nat) (a : Option Addr) (n cap : Nat) (ps : List (Int × Int)) (m : Int) : Prop where
  l : w.cell? ⟨g, 0, none⟩ = some (.slice a n cap)
  m : w.cell? ⟨h, 0, none⟩ = some (.int .i64 m)
  p : Pr w a n cap ps

theorem Bx.keep {w w' : World} {g h : Nat} {a : Option Addr} {n cap : Nat} {ps : List (Int × Int)} {m : Int} (H : Bx w g h a n cap ps m) (hb : Below w.heap.size w w') : Bx w' g h a n cap ps m := by
  refine ⟨?_, ?_, H.p.keep hb⟩
  · rw [hb.cell (cell_lt H.l)]; exact H.l
  · rw [hb.cell (cell_lt H.m)]; exact H.m

set_option maxHeartbeats 1000000 in
theorem above_any (g h : Nat) (a : Option Addr) (n cap : Nat) (ps : List (Int × Int)) (m : Int) (w : World) (H : Bx w g h a n cap ps m) (k : Nat) (hk : k < n) :
    Calls Try.prog 19 #[.int .i64 k, .pointer (some ⟨g, 0, none⟩), .pointer (some ⟨h, 0, none⟩)] w fun e w' => e = .returned (.bool (decide (m < (ps.getD k (0, 0)).1))) ∧ ∃ q, w' = w.drewN q := by
  have hea := H.p.le
  have hra := H.p.reach
  have h1 := H.l
  have h2 := H.m
  obtain ⟨b1, o1, rfl, hc1⟩ := H.p.lies (by omega)
  obtain ⟨hk1, hk2⟩ := hc1 k hk
  clear hc1 H
  generalize ps.getD k (0, 0) = p at *
  obtain ⟨x, y⟩ := p
  simp only at hk1 hk2
  go_enter Try.func19, Try.ntmps19
  go_wp2_with fail
  go_quiet (fail)
  go_wp2_with fail
  go_ret
  exact ⟨by simp, nq, rfl⟩

set_option maxHeartbeats 1000000 in
theorem search_any (g h : Nat) (a : Option Addr) (n cap : Nat) (ps : List (Int × Int)) (m : Int) (w : World) (H : Bx w g h a n cap ps m) (hn : n ≤ 4611686018427387903) :
    Calls Try.prog 18 #[.int .i64 n, .func (.func 19) #[] #[.pointer (some ⟨g, 0, none⟩), .pointer (some ⟨h, 0, none⟩)]] w fun e w' =>
      (∃ r : Nat, e = .returned (.int .i64 r) ∧ r ≤ n ∧ (∀ i, i + 1 = r → (ps.getD i (0, 0)).1 ≤ m) ∧ (r < n → m < (ps.getD r (0, 0)).1)) ∧ ∃ q, w' = w.drewN q := by
  go_enter Try.func18, Try.ntmps18
  go_wp2_with fail
  go_loopw [5, 6] (fun iv jv wr => ∃ i j q : Nat, i ≤ j ∧ j ≤ n ∧ iv = .int .i64 i ∧ jv = .int .i64 j ∧ wr = w.drewN q ∧ Hid (∀ k, k + 1 = i → (ps.getD k (0, 0)).1 ≤ m) ∧ Hid (j < n → m < (ps.getD j (0, 0)).1)) (fun iv jv _ => (intOf jv - intOf iv).toNat)
  case atStart => exact ⟨0, n, 0, Nat.zero_le _, Nat.le_refl _, rfl, rfl, rfl, hide (fun k hk => by omega), hide (fun hk => by omega)⟩
  case round =>
    obtain ⟨i, j, q, hij, hjn, rfl, rfl, hwr, hlo, hhi⟩ := hrel
    have H' := H.keep (below_drewN (Below.refl _ w) q)
    rw [← hwr] at H'
    have HR := hide hwr
    clear hwr
    by_cases hlt : i < j
    · obtain ⟨k, hk, hk1, hk2⟩ : ∃ k : Nat, ((i : Int) + (j : Int)) / 2 = (k : Int) ∧ i ≤ k ∧ k < j := ⟨(i + j) / 2, by omega, by omega, by omega⟩
      have C := above_any g h a n cap ps m wr H' k (by omega)
      have HK := hide hk
      clear hk
      go_wp2_with fail
      rw [HK.out]
      by_cases hab : m < (ps.getD k (0, 0)).1
      · have HA := hide hab
        simp only [decide_eq_true hab] at C
        clear hab HK
        refine C.mono ?_
        rintro e w1 ⟨rfl, q1, hw1⟩
        have HR1 : Hid (w1 = w.drewN (q + q1)) := hide (by rw [hw1, HR.out, World.drewN_drewN])
        clear hw1
        go_wp2_with fail
        go_roundw
        case rel => exact ⟨i, k, q + q1, by omega, by omega, rfl, rfl, HR1.out, hlo, hide (fun _ => HA.out)⟩
        case measure => simp [intOf]; omega
      · have HA := hide (show (ps.getD k (0, 0)).1 ≤ m by omega)
        simp only [decide_eq_false hab] at C
        clear hab HK
        refine C.mono ?_
        rintro e w1 ⟨rfl, q1, hw1⟩
        have HR1 : Hid (w1 = w.drewN (q + q1)) := hide (by rw [hw1, HR.out, World.drewN_drewN])
        clear hw1
        go_wp2_with fail
        go_roundw
        case rel => exact ⟨k + 1, j, q + q1, by omega, by omega, by go_num, rfl, HR1.out, hide (fun x hx => (show k = x by omega) ▸ HA.out), hhi⟩
        case measure => simp [intOf]; omega
    · obtain rfl : i = j := by omega
      go_wp2_with fail
      go_ret
      exact ⟨⟨i, rfl, hjn, hlo.out, hhi.out⟩, q, HR.out⟩

/-- The place of the last pair whose number is at most m. -/
def Lp (ps : List (Int × Int)) (m : Int) (j : Nat) : Prop := j < ps.length ∧ (ps.getD j (0, 0)).1 ≤ m ∧ ∀ i, j < i → i < ps.length → m < (ps.getD i (0, 0)).1

theorem Rt.rise {ps : List (Int × Int)} (h : Rt ps) {i j : Nat} (hij : i < j) (hj : j < ps.length) : (ps.getD i (0, 0)).1 < (ps.getD j (0, 0)).1 ∧ (ps.getD i (0, 0)).2 ≤ (ps.getD j (0, 0)).2 := by
  obtain ⟨d, rfl⟩ : ∃ d, j = i + 1 + d := ⟨j - i - 1, by omega⟩
  induction d with
  | zero =>
    have := h.2.2 i (by omega)
    exact ⟨this.1, this.2.1⟩
  | succ d ih =>
    have h1 := ih (by omega) (by omega)
    have h2 := h.2.2 (i + 1 + d) (by omega)
    have e : i + 1 + (d + 1) = i + 1 + d + 1 := by omega
    rw [e]
    exact ⟨by have := h2.1; omega, by have := h2.2.1; omega⟩

theorem Rt.last {ps : List (Int × Int)} (h : Rt ps) {m : Int} (hm : 0 ≤ m) {r : Nat} (hr : r ≤ ps.length) (h1 : ∀ i, i + 1 = r → (ps.getD i (0, 0)).1 ≤ m) (h2 : r < ps.length → m < (ps.getD r (0, 0)).1) : 0 < r ∧ Lp ps m (r - 1) := by
  have hp := h.1
  have h0 : 0 < r := by
    rcases Nat.eq_zero_or_pos r with rfl | h0
    · have := h2 hp
      rw [h.2.1] at this
      simp only at this
      omega
    · exact h0
  refine ⟨h0, by omega, h1 _ (by omega), fun i hi hl => ?_⟩
  by_cases e : i = r
  · subst e
    exact h2 hl
  · have h3 := h2 (by omega)
    have h4 := (h.rise (show r < i by omega) hl).1
    omega

theorem Lp.eq {ps : List (Int × Int)} {m : Int} {i j : Nat} (hi : Lp ps m i) (hj : Lp ps m j) : i = j := by
  rcases Nat.lt_trichotomy i j with h | h | h
  · have h1 := hi.2.2 j h hj.1
    have h2 := hj.2.1
    omega
  · exact h
  · have h1 := hj.2.2 i h hi.1
    have h2 := hi.2.1
    omega

set_option maxHeartbeats 2000000 in
theorem find_yes (a : Option Addr) (n cap : Nat) (ps : List (Int × Int)) (m : Int) (w : World) (hA : Pr w a n cap ps) (hn : n ≤ 4611686018427387903) (hR : Rt ps) (hm : 0 ≤ m) :
    Calls Try.prog 7 #[.slice a n cap, .int .i64 m] w fun e w' => (∃ j, Lp ps m j ∧ e = .returned (.tuple #[.agg #[.int .i64 (ps.getD j (0, 0)).1, .int .i64 (ps.getD j (0, 0)).2], .int .i64 0])) ∧ Below w.heap.size w w' := by
  have hla := hA.len
  have hea := hA.le
  have hra := hA.reach
  have hRp := hR.1
  obtain ⟨V, hV⟩ : ∃ V, V = ((w.alloc (.cells #[.slice a n cap] 22)).alloc (.cells #[.int .i64 m] 3)).alloc (.cells #[.int .i64 0, .int .i64 0] 27) := ⟨_, rfl⟩
  have s1 : (w.alloc (.cells #[.slice a n cap] 22)).heap.size = w.heap.size + 1 := by simp
  have s2 : ((w.alloc (.cells #[.slice a n cap] 22)).alloc (.cells #[.int .i64 m] 3)).heap.size = w.heap.size + 1 + 1 := by simp
  have b0 : Below w.heap.size w V := by rw [hV]; exact (((Below.refl _ w).alloc (Nat.le_refl _) _).alloc (by omega) _).alloc (by omega) _
  have f1 : V.cell? ⟨w.heap.size, 0, none⟩ = some (.slice a n cap) := by rw [hV]; simp [go_sem]
  have f2 : V.cell? ⟨w.heap.size + 1, 0, none⟩ = some (.int .i64 m) := by rw [hV]; simp [go_sem]
  have f3 : V.heap[w.heap.size + 1 + 1]? = some (.cells #[.int .i64 0, .int .i64 0] 27 (0, 0)) := by rw [hV, ← s2]; exact heap_alloc_new _ _
  have HV := hide hV
  clear hV s1 s2
  have H : Bx V w.heap.size (w.heap.size + 1) a n cap ps m := ⟨f1, f2, hA.keep b0⟩
  have C1 := right_any a n cap ps V H.p
  rw [decide_eq_true hR] at C1
  go_enter Try.func7, Try.ntmps7
  go_wp2_with fail
  rw [← HV.out]
  clear HV
  refine C1.mono ?_
  rintro e w1 ⟨rfl, b1⟩
  have H1 := H.keep b1
  have g1 := H1.l
  have g2 := H1.m
  have g3 : w1.heap[w.heap.size + 1 + 1]? = some (.cells #[.int .i64 0, .int .i64 0] 27 (0, 0)) := (b1.block _ (heap_lt f3)).trans f3
  clear f1 f2 f3 C1
  have C2 := search_any _ _ a n cap ps m w1 H1 hn
  go_wp2_with fail
  refine C2.mono ?_
  rintro e w2 ⟨⟨r, rfl, hr, hr1, hr2⟩, q, hw2⟩
  obtain ⟨h0, hL⟩ := hR.last hm (r := r) (by omega) hr1 (by rw [hla]; exact hr2)
  obtain ⟨j, rfl⟩ : ∃ j, r = j + 1 := ⟨r - 1, by omega⟩
  simp only [Nat.add_sub_cancel] at hL
  dsimp only
  have b2 := below_drewN (Below.refl w1.heap.size w1) q
  rw [← hw2] at b2
  clear hw2
  obtain ⟨bl, ol, rfl, hc⟩ := (H1.p.keep b2).lies (by omega)
  obtain ⟨hk1, hk2⟩ := hc j (by omega)
  have g4 := (b2.cell (cell_lt g1)).trans g1
  have g5 := (b2.block _ (heap_lt g3)).trans g3
  have c0 := cell_of_row w2 _ 0 _ _ _ g5
  have c1 := cell_of_row w2 _ 1 _ _ _ g5
  have z0 := frozen_of_row w2 _ 0 _ _ g5
  have z1 := frozen_of_row w2 _ 1 _ _ g5
  simp at c0 c1
  have b4 : Below w.heap.size w w2 := b0.trans ((b1.trans (b2.mono b1.size)).mono b0.size)
  have hfin : ∀ x y, Below w.heap.size w ((w2.setCell ⟨w.heap.size + 1 + 1, 0, none⟩ x).setCell ⟨w.heap.size + 1 + 1, 1, none⟩ y) := fun x y => (b4.setCell (by simp; omega) _).setCell (by simp; omega) _
  have HF := hide hfin
  have HL := hide hL
  have HP := hide (pair_set g5)
  clear hfin hL H H1 hc b0 b1 b2 b4 hr1 hr2 g1 g2 g3 C2
  go_wp2_with fail
  refine bodyPost_ret (v := .tuple #[.agg #[.int .i64 (ps.getD j (0, 0)).1, .int .i64 (ps.getD j (0, 0)).2], .int .i64 0]) (results_cell_tmp Try.results7 _ _ (w.heap.size + 1 + 1) (27 : TypeId) _ (0, 0) _ _ rfl rfl (HP.out _ _) Try.underlying27 rfl (by kernel_rfl)) rfl ?_
  exact ⟨⟨j, HL.out, rfl⟩, HF.out _ _⟩

set_option maxHeartbeats 2000000 in
theorem find_no (a : Option Addr) (n cap : Nat) (ps : List (Int × Int)) (m : Int) (w : World) (hA : Pr w a n cap ps) (h : m < 0 ∨ ¬ Rt ps) :
    Calls Try.prog 7 #[.slice a n cap, .int .i64 m] w fun e w' => e = .returned (.tuple #[.agg #[.int .i64 0, .int .i64 0], .int .i64 2]) ∧ Below w.heap.size w w' := by
  obtain ⟨V, hV⟩ : ∃ V, V = ((w.alloc (.cells #[.slice a n cap] 22)).alloc (.cells #[.int .i64 m] 3)).alloc (.cells #[.int .i64 0, .int .i64 0] 27) := ⟨_, rfl⟩
  have s1 : (w.alloc (.cells #[.slice a n cap] 22)).heap.size = w.heap.size + 1 := by simp
  have s2 : ((w.alloc (.cells #[.slice a n cap] 22)).alloc (.cells #[.int .i64 m] 3)).heap.size = w.heap.size + 1 + 1 := by simp
  have b0 : Below w.heap.size w V := by rw [hV]; exact (((Below.refl _ w).alloc (Nat.le_refl _) _).alloc (by omega) _).alloc (by omega) _
  have f1 : V.cell? ⟨w.heap.size, 0, none⟩ = some (.slice a n cap) := by rw [hV]; simp [go_sem]
  have f2 : V.cell? ⟨w.heap.size + 1, 0, none⟩ = some (.int .i64 m) := by rw [hV]; simp [go_sem]
  have f3 : V.heap[w.heap.size + 1 + 1]? = some (.cells #[.int .i64 0, .int .i64 0] 27 (0, 0)) := by rw [hV, ← s2]; exact heap_alloc_new _ _
  by_cases hm : m < 0
  · have HF := hide b0
    have HP := hide f3
    rw [hV] at HF HP
    clear f1 f2 f3 b0 hV s1 s2
    clear V
    go_enter Try.func7, Try.ntmps7
    go_wp2_with fail
    refine bodyPost_ret (v := .tuple #[.agg #[.int .i64 0, .int .i64 0], .int .i64 2]) (results_cell_tmp Try.results7 _ _ (w.heap.size + 1 + 1) (27 : TypeId) _ (0, 0) _ _ rfl rfl HP.out Try.underlying27 rfl (by kernel_rfl)) rfl ?_
    exact ⟨rfl, HF.out⟩
  · have hr : ¬ Rt ps := h.resolve_left hm
    have HV := hide hV
    clear hV s1 s2
    have C1 := right_any a n cap ps V (hA.keep b0)
    rw [decide_eq_false hr] at C1
    go_enter Try.func7, Try.ntmps7
    go_wp2_with fail
    rw [← HV.out]
    clear HV
    refine C1.mono ?_
    rintro e w1 ⟨rfl, b1⟩
    have g3 : w1.heap[w.heap.size + 1 + 1]? = some (.cells #[.int .i64 0, .int .i64 0] 27 (0, 0)) := (b1.block _ (heap_lt f3)).trans f3
    have c0 := cell_of_row w1 _ 0 _ _ _ g3
    have c1 := cell_of_row w1 _ 1 _ _ _ g3
    have z0 := frozen_of_row w1 _ 0 _ _ g3
    have z1 := frozen_of_row w1 _ 1 _ _ g3
    simp at c0 c1
    have b4 : Below w.heap.size w w1 := b0.trans (b1.mono b0.size)
    have hfin : ∀ x y, Below w.heap.size w ((w1.setCell ⟨w.heap.size + 1 + 1, 0, none⟩ x).setCell ⟨w.heap.size + 1 + 1, 1, none⟩ y) := fun x y => (b4.setCell (by simp; omega) _).setCell (by simp; omega) _
    have HF := hide hfin
    have HP := hide (pair_set g3)
    clear hfin f1 f2 f3 C1 g3 b0 b1 b4
    go_wp2_with fail
    refine bodyPost_ret (v := .tuple #[.agg #[.int .i64 0, .int .i64 0], .int .i64 2]) (results_cell_tmp Try.results7 _ _ (w.heap.size + 1 + 1) (27 : TypeId) _ (0, 0) _ _ rfl rfl (HP.out _ _) Try.underlying27 rfl (by kernel_rfl)) rfl ?_
    exact ⟨rfl, HF.out _ _⟩

end Go.Proofs.Ytaapcanoaidpjaa

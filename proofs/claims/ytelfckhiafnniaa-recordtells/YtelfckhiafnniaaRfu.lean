/-
  'full' of the fifth layer's statements: as many bytes as may be, and one more.
-/
import Derived.Test.YtelfckhiafnniaaRma
import Derived.Laws.OwnMore
import Derived.Deep.DeepCutAuto
import Derived.Deep.Cut
import Derived.Deep.CutRange
namespace Go.Proofs.Ytelfckhiafnniaa
open Go.RowKit

theorem rbs_same {l : List (List Int)} {size : Nat} (h : ∀ r ∈ l, r.length = size) : (rbs l).length = l.length * ((vb size).length + size) := by
  induction l with
  | nil => simp [rbs]
  | cons r l ih =>
    have h1 := ih (fun r hr => h r (by simp [hr]))
    have h2 := h r (by simp)
    simp only [rbs, rb, List.length_append, List.length_cons, h1, h2, Nat.add_mul, Nat.one_mul]
    omega

theorem len_1 {n : Nat} (h : n < 128) : (vb n).length = 1 := by rw [vb_lt h]; rfl
theorem len_2 {n : Nat} (h1 : 128 ≤ n) (h2 : n < 16384) : (vb n).length = 2 := by rw [vb_ge h1, List.length_cons, len_1 (by omega)]
theorem len_z : (vb (fo 0)).length = 1 := by decide

theorem body_many (l : List (List Int)) : (body ⟨0, 0, 0, l⟩).length = 3 + (vb l.length).length + (rbs l).length := by
  simp only [body, List.length_append, len_z]
  omega

/-- A slice of so many bytes that is made: the step's run, its cells being a letter. -/
theorem make_run (n : Nat) (hn : n ≤ 100000) : ∃ Z : Array Value, (∀ W : World, (Instr.makeSlice 22 (.int .i64 (n : Int)) (.int .i64 (n : Int))).run Try.prog W = .ok (.slice (some ⟨W.heap.size, 0, none⟩) n n) (W.alloc (.cells Z 5))) ∧ Z = (U (List.replicate n 0)).toArray := by
  obtain ⟨i0, hi, hz0, hz1, hz2⟩ := info_parts info5
  refine ⟨(U (List.replicate n 0)).toArray, fun W => ?_, rfl⟩
  have h := run_make (P := Try.prog) W 22 5 i0 (.int .u8 0) Try.underlying22 hi hz0 .i64 .i64 (n : Int) (n : Int) (by omega) (Int.le_refl _) (by rw [hz2]; omega) (by omega)
  rw [Int.toNat_natCast, hz1, Nat.mul_one] at h
  have e : madeCells (Value.int .u8 0).cells n = (U (List.replicate n 0)).toArray := by
    apply Array.toList_inj.1
    rw [show (Value.int .u8 0).cells = #[.int .u8 0] from rfl, toList_madeCells_one]
    simp [U]
  rw [e] at h
  exact h

/-- A batch's list grows by a new row. -/
theorem list_turn {w5 : World} {T base B5 : Nat} {x0 x1 x2 u v5 : Value} {rs : List (Value × List Int)} {l5 : List Int} (hbat : w5.heap[T]? = some (.cells #[x0, x1, x2, u] 28 (0, 0))) (hl : LL w5 base u rs) (hv : w5.ownsRow B5 5 1 v5 l5.length (U l5)) (hB : base ≤ B5)
    (hrows : ∀ r ∈ rs, ∀ x, r.1.ownBlock = some x → x < B5) (hby : ∀ z ∈ l5, 0 ≤ z ∧ z ≤ 255) :
    w5.cell? ⟨T, 3, none⟩ = some u ∧ (w5.alloc (.cells #[v5] 22)).cell? ⟨T, 3, none⟩ = some u ∧ (w5.alloc (.cells #[v5] 22)).ownsRow base 22 1 u rs.length (rs.map (·.1)) ∧
      ∀ (v6 : Value) (w6 : World), w6.ownsRow base 22 1 v6 (rs.length + 1) (rs.map (·.1) ++ [v5]) → (w5.alloc (.cells #[v5] 22)).grownBy w6 u.ownBlock →
        w6.cell? ⟨T, 3, none⟩ = some u ∧ w6.frozen? ⟨T, 3, none⟩ = false ∧ (w6.setCell ⟨T, 3, none⟩ v6).heap[T]? = some (.cells #[x0, x1, x2, v6] 28 (0, 0)) ∧ LL (w6.setCell ⟨T, 3, none⟩ v6) base v6 (rs ++ [(v5, l5)]) ∧ Bar (fun i => i = T ∨ u.ownBlock = some i) w5 (w6.setCell ⟨T, 3, none⟩ v6) := by
  have hb5 := fresh w5 (.cells #[v5] 22)
  have hbat' := (hb5.block _ (some_lt hbat)).trans hbat
  have hl' := hl.keep hb5
  refine ⟨(row4 hbat).2.2.2.1, (row4 hbat').2.2.2.1, hl'.own, fun v6 w6 h6 hg => ?_⟩
  have hbar : Bar (fun k => u.ownBlock = some k) (w5.alloc (.cells #[v5] 22)) w6 := Bar.of_grown hg
  have hbat6 := (hbar.block _ (some_lt hbat') (fun hh => own_not hl'.own hbat' (by decide) hh rfl)).trans hbat'
  have hL6 : LL w6 base v6 (rs ++ [(v5, l5)]) := by
    refine hl'.more (n := rs.length + 1) (qs := [(v5, l5)]) (by simp only [List.mem_singleton, forall_eq]; exact own_less (hv.alloc _) hB) (by simpa using hby) (by simp) ?_ (by simp) (by simpa using h6) hg
    intro r hr' q hq
    simp only [List.mem_singleton] at hq
    subst hq
    cases hrb : r.1.ownBlock with
    | none => exact .inl rfl
    | some x =>
      refine .inr (fun e => ?_)
      have h1 := hrows r hr' x hrb
      have h2 := (hv.lt x e.symm).1
      omega
  obtain ⟨_, _, _, c3, _, _, _, f3⟩ := row4 hbat6
  have hset := Bar.set w6 T 3 v6
  refine ⟨c3, f3, ?_, hL6.bar hset (fun b hb' hh => ?_) (fun r hr b hb' hh => ?_), ?_⟩
  · rw [heap_setCell_same w6 _ 3 _ 28 _ hbat6]
    rfl
  · exact own_not hL6.own hbat6 (by decide) hb' hh
  · exact own_not (hL6.row r hr) hbat6 (by decide) hb' hh
  · have h1 : Bar (fun i => i = T ∨ u.ownBlock = some i) w5 (w5.alloc (.cells #[v5] 22)) := Bar.of_fresh hb5
    exact (h1.trans hbar (fun i hi => .inl (.inr hi))).trans hset (fun i hi => .inl (.inl hi))

abbrev bx (u : Value) : Obj := .cells #[.int .i64 0, .int .i64 0, .int .i64 0, u] 28 (0, 0)

/-- Two batches in variables, their lists apart. -/
structure Fx (w V : World) (p q : Nat) (u v : Value) (l1 l2 : List (List Int)) : Prop where
  bel : Below w.heap.size w V
  x : V.heap[p]? = some (bx u)
  y : V.heap[q]? = some (bx v)
  ne : p ≠ q
  pw : w.heap.size ≤ p
  qw : w.heap.size ≤ q
  lx : ∃ rs, LL V w.heap.size u rs ∧ rs.map (·.2) = l1
  ly : ∃ rs, LL V w.heap.size v rs ∧ rs.map (·.2) = l2
  ap : ∀ b, u.ownBlock = some b → v.ownBlock ≠ some b

theorem Fx.swap {w V : World} {p q : Nat} {u v : Value} {l1 l2 : List (List Int)} (h : Fx w V p q u v l1 l2) : Fx w V q p v u l2 l1 :=
  ⟨h.bel, h.y, h.x, h.ne.symm, h.qw, h.pw, h.ly, h.lx, fun b hb e => h.ap b e hb⟩

theorem Fx.turn {w V : World} {p q : Nat} {u v : Value} {l1 l2 : List (List Int)} (h : Fx w V p q u v l1 l2) (m : Nat) (Z : Array Value) (hZ : Z = (U (List.replicate m 0)).toArray) (hm : m ≤ 1000) :
    V.cell? ⟨p, 3, none⟩ = some u ∧ (V.alloc (.cells Z 5)).cell? ⟨p, 3, none⟩ = some u ∧ ((V.alloc (.cells Z 5)).alloc (.cells #[.slice (some ⟨V.heap.size, 0, none⟩) m m] 22)).cell? ⟨p, 3, none⟩ = some u ∧
    ∃ xs, ((V.alloc (.cells Z 5)).alloc (.cells #[.slice (some ⟨V.heap.size, 0, none⟩) m m] 22)).ownsRow w.heap.size 22 1 u l1.length xs ∧
      ∀ (g cap : Nat) (w6 : World), w6.ownsRow w.heap.size 22 1 (.slice (some ⟨g, 0, none⟩) (l1.length + 1) cap) (l1.length + 1) (xs ++ [.slice (some ⟨V.heap.size, 0, none⟩) m m]) → ((V.alloc (.cells Z 5)).alloc (.cells #[.slice (some ⟨V.heap.size, 0, none⟩) m m] 22)).grownBy w6 u.ownBlock →
        (u.ownBlock = some g ∨ g = V.heap.size + 2) → w6.cell? ⟨p, 3, none⟩ = some u ∧ w6.frozen? ⟨p, 3, none⟩ = false ∧ Fx w (w6.setCell ⟨p, 3, none⟩ (.slice (some ⟨g, 0, none⟩) (l1.length + 1) cap)) p q (.slice (some ⟨g, 0, none⟩) (l1.length + 1) cap) v (l1 ++ [List.replicate m 0]) l2 := by
  obtain ⟨rs, hl, hr⟩ := h.lx
  obtain ⟨rs2, hl2, hr2⟩ := h.ly
  have hrl : rs.length = l1.length := by rw [← hr, List.length_map]
  have hbV := fresh V (.cells Z 5)
  have hv : (V.alloc (.cells Z 5)).ownsRow V.heap.size 5 1 (.slice (some ⟨V.heap.size, 0, none⟩) m m) (List.replicate m (0 : Int)).length (U (List.replicate m 0)) := by
    have := row_own (w := V.alloc (.cells Z 5)) (g := V.heap.size) (m := m) (c := m) (e := 5) (zs := List.replicate m 0) (cur := U (List.replicate m 0)) V.heap.size (Nat.le_refl _) (by rw [hZ]; exact heap_alloc_new V _) (by simp [U]) (by simp) (Nat.le_refl _) (by omega) (by rw [List.take_of_length_le (by simp [U])])
    simpa using this
  obtain ⟨t1, t2, t3, t4⟩ := list_turn ((hbV.block _ (some_lt h.x)).trans h.x) (hl.keep hbV) hv h.bel.size (fun r hr x hx => ((hl.row r hr).lt x hx).2) (by intro z hz; have := List.eq_of_mem_replicate hz; omega)
  refine ⟨(row4 h.x).2.2.2.1, t1, t2, rs.map (·.1), by rw [← hrl]; exact t3, fun g cap w6 h6 hg hgg => ?_⟩
  obtain ⟨c6, f6, hX6, hL6, hB6⟩ := t4 (.slice (some ⟨g, 0, none⟩) (l1.length + 1) cap) w6 (by rw [hrl]; exact h6) hg
  have hbb : Bar (fun i => i = p ∨ u.ownBlock = some i) V (w6.setCell ⟨p, 3, none⟩ (.slice (some ⟨g, 0, none⟩) (l1.length + 1) cap)) := (Bar.of_fresh hbV).trans hB6 (fun i hi => .inl hi)
  refine ⟨c6, f6, h.bel.trans (hbb.below (fun i hi => ?_) h.bel.size), hX6, (hbb.block _ (some_lt h.y) ?_).trans h.y, h.ne, h.pw, h.qw, ⟨_, hL6, by simp [hr]⟩, ⟨rs2, hl2.bar hbb (fun b hb hh => ?_) (fun r hr b hb hh => ?_), hr2⟩, fun b hb => ?_⟩
  · rcases hi with rfl | hi
    · exact h.pw
    · exact own_from hl.own hi
  · rintro (e | e)
    · exact h.ne e.symm
    · exact own_not hl.own h.y (by decide) e rfl
  · rcases hh with hh | hh
    · exact own_not hl2.own h.x (by decide) hb hh
    · exact h.ap b hh hb
  · rcases hh with hh | hh
    · exact own_not (hl2.row r hr) h.x (by decide) hb hh
    · exact own_types (hl2.row r hr) hl.own (by decide) hb hh
  · simp only [Value.ownBlock, Option.some.injEq] at hb
    subst hb
    rcases hgg with hgg | hgg
    · exact h.ap _ hgg
    · intro e
      have := (hl2.own.lt _ e).2
      omega

theorem Fx.keep {w V V' : World} {p q : Nat} {u v : Value} {l1 l2 : List (List Int)} (h : Fx w V p q u v l1 l2) (hb : Below V.heap.size V V') : Fx w V' p q u v l1 l2 := by
  obtain ⟨rs, hl, hr⟩ := h.lx
  obtain ⟨rs2, hl2, hr2⟩ := h.ly
  exact ⟨h.bel.trans (hb.mono h.bel.size), (hb.block _ (some_lt h.x)).trans h.x, (hb.block _ (some_lt h.y)).trans h.y, h.ne, h.pw, h.qw, ⟨rs, hl.keep hb, hr⟩, ⟨rs2, hl2.keep hb, hr2⟩, h.ap⟩

theorem full_len (l : List (List Int)) (m : Nat) (h1 : l.length = 58) (h2 : ∀ r ∈ l, r.length = 1024) (hm : 128 ≤ m ∧ m ≤ 1000) : (body ⟨0, 0, 0, l ++ [List.replicate m 0]⟩).length = 59514 + m := by
  rw [body_many, rbs_append, List.length_append, List.length_append, rbs_same h2, rbs_one, h1, len_2 (n := 1024) (by decide) (by decide)]
  simp only [rb, List.length_append, List.length_replicate, List.length_cons, List.length_nil]
  rw [len_1 (by decide), len_2 (by omega) (by omega)]
  omega

theorem full_right (l : List (List Int)) (m : Nat) (h1 : l.length = 58) (h2 : ∀ r ∈ l, r.length = 1024) (hm : m ≤ 1000) : Right ⟨0, 0, 0, l ++ [List.replicate m 0]⟩ := by
  refine ⟨by simp [h1], fun r hr => ?_⟩
  rcases List.mem_append.1 hr with hr | hr
  · rw [h2 r hr]
    exact Nat.le_refl _
  · simp only [List.mem_singleton] at hr
    subst hr
    simp
    omega

theorem undrew {W w6 : World} {r : Option Nat} (h : W.drew.grownBy w6 r) : W.grownBy w6 r := ⟨h.os, h.tape, h.output, h.size, h.block⟩

theorem i64_zero : I64 0 := by unfold I64; decide

set_option maxRecDepth 100000 in
set_option maxHeartbeats 4000000 in
theorem full_any (w : World) : Calls Try.prog 13 #[] w fun e w' => e = .returned (.bool true) ∧ Below w.heap.size w w' := by
  obtain ⟨i1, hi', hy0, hy1, hy2⟩ := info_parts info22
  obtain ⟨Z1, hmk1, hZ1⟩ := make_run 474 (by decide)
  obtain ⟨Z2, hmk2, hZ2⟩ := make_run 475 (by decide)
  have hm1 : ∀ W : World, (Instr.makeSlice 22 (.int .i64 474) (.int .i64 474)).run Try.prog W = .ok (.slice (some ⟨W.heap.size, 0, none⟩) 474 474) (W.alloc (.cells Z1 5)) := hmk1
  have hm2 : ∀ W : World, (Instr.makeSlice 22 (.int .i64 475) (.int .i64 475)).run Try.prog W = .ok (.slice (some ⟨W.heap.size, 0, none⟩) 475 475) (W.alloc (.cells Z2 5)) := hmk2
  have HZ1 := hide hZ1
  have HZ2 := hide hZ2
  clear hZ1 hZ2 hmk1 hmk2
  go_enter Try.func13, Try.ntmps13
  go_wp2_with fail
  refine (many_any 58 1024 (by decide) (by decide) (by decide) w).mono ?_
  rintro e w1 ⟨va1, vc1, rs1, rfl, hL1, hn1, hs1, hb1⟩
  go_wp2_with fail
  refine (many_any 58 1024 (by decide) (by decide) (by decide) w1).mono ?_
  rintro e w2 ⟨va2, vc2, rs2, rfl, hL2, hn2, hs2, hb2⟩
  obtain ⟨V0, hV0⟩ : ∃ V0, V0 = (w2.alloc (bx (.slice va1 58 vc1))).alloc (bx (.slice va2 58 vc2)) := ⟨_, rfl⟩
  have hss1 := hb1.size
  have hss2 := hb2.size
  obtain ⟨P, hP⟩ : ∃ P, P = w2.heap.size := ⟨_, rfl⟩
  obtain ⟨l1, hl1⟩ : ∃ l1, l1 = rs1.map (·.2) := ⟨_, rfl⟩
  obtain ⟨l2, hl2⟩ : ∃ l2, l2 = rs2.map (·.2) := ⟨_, rfl⟩
  have h58a : l1.length = 58 := by rw [hl1, List.length_map, hn1]
  have h58b : l2.length = 58 := by rw [hl2, List.length_map, hn2]
  have h1024a : ∀ r ∈ l1, r.length = 1024 := by rw [hl1]; intro r hr; obtain ⟨q, hq, rfl⟩ := List.mem_map.1 hr; exact hs1 q hq
  have h1024b : ∀ r ∈ l2, r.length = 1024 := by rw [hl2]; intro r hr; obtain ⟨q, hq, rfl⟩ := List.mem_map.1 hr; exact hs2 q hq
  have hF0 : Fx w V0 P (P + 1) (.slice va1 58 vc1) (.slice va2 58 vc2) l1 l2 := by
    have hbV : Below w2.heap.size w2 V0 := by rw [hV0]; exact (fresh _ _).alloc (by simp) _
    refine ⟨hb1.trans ((hb2.trans (hbV.mono hss2)).mono hss1), ?_, ?_, by omega, by omega, by omega, ⟨rs1, (hL1.keep hb2).keep hbV, hl1.symm⟩, ⟨rs2, (hL2.keep hbV).less hss1, hl2.symm⟩, fun b hb e => ?_⟩
    · rw [hV0, hP, Below.heap_alloc _ _ _ (by simp)]
      exact heap_alloc_new w2 _
    · rw [hV0, hP]
      have := heap_alloc_new (w2.alloc (bx (.slice va1 58 vc1))) (bx (.slice va2 58 vc2))
      rw [World.size_alloc] at this
      exact this
    · have h1 := (hL1.own.lt b hb).2
      have h2 := (hL2.own.lt b e).1
      omega
  have HV0 := hide hV0
  obtain ⟨t1, t2, t3, xs1, t4, t5⟩ := hF0.turn 474 Z1 HZ1.out (by decide)
  rw [h58a] at t4 t5
  have HT4 := hide t4
  have HT5 := hide t5
  have hsV := hF0.bel.size
  have HP := hide hP
  clear t4 t5 hV0 hF0 hL1 hL2 hb1 hb2 hl1 hl2 hs1 hs2 hn1 hn2 hss1 hss2
  go_wp2_with fail
  rw [← HP.out, ← HV0.out]
  clear hP
  go_cut [1, 2] (fun s1 s2 wx => s1 = .pointer (some ⟨P, 0, none⟩) ∧ s2 = .pointer (some ⟨P + 1, 0, none⟩) ∧ ∃ g cap, Hid (Fx w wx P (P + 1) (.slice (some ⟨g, 0, none⟩) 59 cap) (.slice va2 58 vc2) (l1 ++ [List.replicate 474 0]) l2))
  case first =>
    go_region_law (refine step_append_lies _ (by rfl) (.tmp 13) (.tmp 15) 26 (by rfl) w.heap.size 22 i1 (.slice none 0 0) 1 24 Try.underlying26 hi' hy0 hy1 hy2 rfl (by omega) (.slice va1 58 vc1) 58 xs1 (by simp [Act.eval]) HT4.out ⟨_, 0, none⟩ 1 1 [.slice (some ⟨V0.heap.size, 0, none⟩) 474 474] (by simp [Act.eval]) rfl (cell_one_new _ _ _) (by simp [Value.oneCell']) (by omega) (by unfold maxLen; omega) (by omega) (by simp; omega) _ rfl ?_; intro g6 d6 w6 hown6 hgrow6 hg6 _; obtain ⟨c6, f6, hX6⟩ := HT5.out g6 d6 w6 hown6 (undrew hgrow6) (by simpa using hg6); have HX6 := hide hX6; clear hX6 hown6 hgrow6 hg6)
    all_goals (try go_wp2_with fail)
    all_goals go_meet
    all_goals exact ⟨rfl, rfl, g6, d6, HX6⟩
  case rest =>
    obtain ⟨rfl, rfl, g1, d1, hF1⟩ := hcut
    clear HT4 HT5 t1 t2 t3
    obtain ⟨V1, hV1⟩ : ∃ V1, V1 = wc := ⟨_, rfl⟩
    subst hV1
    obtain ⟨t1, t2, t3, xs2, t4, t5⟩ := hF1.out.swap.turn 475 Z2 HZ2.out (by decide)
    rw [h58b] at t4 t5
    have HT4 := hide t4
    have HT5 := hide t5
    have hsV := hF1.out.bel.size
    clear t4 t5
    go_wp2_with fail
    go_cut [1, 2] (fun s1 s2 wx => s1 = .pointer (some ⟨P, 0, none⟩) ∧ s2 = .pointer (some ⟨P + 1, 0, none⟩) ∧ ∃ g cap, Hid (Fx w wx (P + 1) P (.slice (some ⟨g, 0, none⟩) 59 cap) (.slice (some ⟨g1, 0, none⟩) 59 d1) (l2 ++ [List.replicate 475 0]) (l1 ++ [List.replicate 474 0])))
    case first =>
      go_region_law (refine step_append_lies _ (by rfl) (.tmp 19) (.tmp 21) 26 (by rfl) w.heap.size 22 i1 (.slice none 0 0) 1 24 Try.underlying26 hi' hy0 hy1 hy2 rfl (by omega) (.slice va2 58 vc2) 58 xs2 (by simp [Act.eval]) HT4.out ⟨_, 0, none⟩ 1 1 [.slice (some ⟨V1.heap.size, 0, none⟩) 475 475] (by simp [Act.eval]) rfl (cell_one_new _ _ _) (by simp [Value.oneCell']) (by omega) (by unfold maxLen; omega) (by omega) (by simp; omega) _ rfl ?_; intro g6 d6 w6 hown6 hgrow6 hg6 _; obtain ⟨c6, f6, hX6⟩ := HT5.out g6 d6 w6 hown6 (undrew hgrow6) (by simpa using hg6); have HX6 := hide hX6; clear hX6 hown6 hgrow6 hg6)
      all_goals (try go_wp2_with fail)
      all_goals go_meet
      all_goals exact ⟨rfl, rfl, g6, d6, HX6⟩
    case rest =>
      obtain ⟨rfl, rfl, g2, d2, hF2⟩ := hcut
      clear HT4 HT5 t1 t2 t3 hF1 hm1 hm2
      have fx := full_len l1 474 h58a h1024a (by decide)
      have fy := full_len l2 475 h58b h1024b (by decide)
      have rx := full_right l1 474 h58a h1024a (by decide)
      have ry := full_right l2 475 h58b h1024b (by decide)
      obtain ⟨V2, hV2⟩ : ∃ V2, V2 = wc := ⟨_, rfl⟩
      subst hV2
      obtain ⟨rsx, lx, hlx⟩ := hF2.out.ly
      obtain ⟨rsy, ly, hly⟩ := hF2.out.lx
      have Rx := lx.rl
      rw [hlx] at Rx
      have Ry := ly.rl
      rw [hly] at Ry
      have bdx := Rx.bd i64_zero i64_zero i64_zero
      have bdy := Ry.bd i64_zero i64_zero i64_zero
      obtain ⟨a0, a1, a2, a3, _⟩ := row4 hF2.out.y
      have hY2 := hF2.out.x
      have CE := encode_any 0 0 0 0 _ _ _ _ V2 Rx bdx
      rw [encD_of rx (by rw [fx]; decide)] at CE
      have hbw := hF2.out.bel
      generalize l1 ++ [List.replicate 474 (0 : Int)] = L1 at *
      generalize l2 ++ [List.replicate 475 (0 : Int)] = L2 at *
      go_wp2_with fail
      refine CE.mono ?_
      rintro e w3 ⟨v3, rfl, hown3, hb3⟩
      replace hown3 : w3.ownsRow V2.heap.size 5 1 v3 (enc 0 ⟨0, 0, 0, L1⟩).length (U (enc 0 ⟨0, 0, 0, L1⟩)) := hown3
      rw [enc_length, fx] at hown3
      obtain ⟨g3, d3, hv3⟩ := own_shape hown3 (by decide)
      subst hv3
      have hB3 := own_bs hown3 (enc_byte bdx.byte)
      have hs3 := hb3.size
      obtain ⟨b0, b1, b2, b3, _⟩ := row4 ((hb3.block _ (some_lt hY2)).trans hY2)
      have CE2 := encode_any 0 0 0 0 _ _ _ _ w3 (Ry.keep hb3) bdy
      have e2 : encD 0 ⟨0, 0, 0, L2⟩ = ([], 3) := by
        unfold encD
        rw [if_pos ((rightB_iff (pid := 0) (ep := 0) (first := 0)).2 ry), if_pos (by rw [fy]; decide)]
      rw [e2] at CE2
      clear CE hown3 Rx Ry lx ly hF2 hY2
      go_wp2_with fail
      refine CE2.mono ?_
      rintro e w4 ⟨v4, rfl, _, hb4⟩
      have hs4 := hb4.size
      clear CE2
      go_wp2_with fail
      refine (decode_yes (hB3.keep hb4) i64_zero rx bdx (by rw [fx]; decide)).mono ?_
      rintro e w5 ⟨va, vn, vc, rs5, rfl, _, _, hb5⟩
      have F : Below w.heap.size w (w5.alloc (.cells #[.int .i64 0, .int .i64 0, .int .i64 0, .slice va vn vc] 28)) := by
        have h1 : Below V2.heap.size V2 w5 := hb3.trans ((hb4.trans (hb5.mono hs4)).mono hs3)
        have h2 := hbw.trans (h1.mono hbw.size)
        exact h2.alloc h2.size _
      go_wp2_with fail
      go_ret
      exact ⟨rfl, F⟩

end Go.Proofs.Ytelfckhiafnniaa

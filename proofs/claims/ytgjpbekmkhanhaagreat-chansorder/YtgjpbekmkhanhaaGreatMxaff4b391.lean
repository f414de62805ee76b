/-
  Texts put into one.
-/
import Derived.Test.YtgjpbekmkhanhaaGreatMx541af68a
import Derived.Lib.AppendZeros
import Derived.Laws.AppendOwnNone
import Derived.Maps.AppendAt
import Derived.Deep.RegionHeld3
import Derived.Great.BuildSlice

/-
  Two rows of waiters, one behind the other.
-/
namespace Go.Proofs.YtgjpbekmkhanhaaGreat.CH
open Go.RowKit QW
set_option maxRecDepth 100000

theorem infoWt : ∃ i0, Tryz.prog.info? (141 : TypeId) = some i0 ∧ i0.zero = some (.agg #[.pointer none, .int .i64 0, .nilFunc]) ∧ i0.size = 3 ∧ i0.bytes = 24 := by
  obtain ⟨i0, hi, hz0, hz1, hz2⟩ := info_parts3 infoE
  exact ⟨i0, hi, hz0, hz1, hz2⟩

theorem wpList_append_run2 {P : Program} {w w' : World} {ops : Array Oper} {rest : List Oper} {o : Oper} {a : Act} {Q : Exit → Act → World → Prop} (hg : o.guard = none) (t t2 : TypeId) (m x : Operand) (hop : o.op = Op.call { callee := Callee.builtin Builtin.append, args := #[m, x], argTypes := #[t, t2] }) (mv key v : Value) (hm : a.eval m = mv) (hx : a.eval x = key) (hrun : (Builtin.append_ #[t, t2] o.type #[mv, key]).run P w = .ok v w')
    (hK : wpList P ops Q rest (a.put o.dst v) w') : wpList P ops Q (o :: rest) a w := by
  refine wpList_plain hg fun K' hK' => ?_
  unfold Oper.wp
  simp [execOp, hop, resolve, invoke, builtin, hm, hx, hrun, Result.andThen]
  exact hK' _ _ hK

theorem grow_any (w : World) (n : Nat) (hn : n < 10000000) :
    Calls Tryz.prog 135 #[.slice none 0 0, .int .i64 n] w fun e w' => ∃ a c, e = .returned (.slice a 0 c) ∧ w'.ownsRow w.heap.size (141 : TypeId) 3 (.slice a 0 c) 0 [] ∧ Below w.heap.size w w' := by
  obtain ⟨i0, hi, hz0, hz1, hz2⟩ := infoWt
  by_cases h0 : 0 < n
  · have hr := Lib.run_append_nil_zeros (P := Tryz.prog) w 138 3 138 (141 : TypeId) i0 (.agg #[.pointer none, .int .i64 0, .nilFunc]) .i64 .i64 Tryz.underlying138 Tryz.underlying3 hi hz0 n h0 (by omega) (by omega) (by rw [hz2]; omega)
    have hcap : n ≤ grownCap w n 0 (141 : TypeId) := grownCap_ge w n 0 _
    have hcm : grownCap w n 0 (141 : TypeId) ≤ maxLen := grownCap_le_maxLen w n 0 _ (by unfold maxLen; omega)
    obtain ⟨X, hX⟩ : ∃ X, Hid (X = w.drew.alloc (.cells (Builtin.zeroCells (Value.agg #[.pointer none, .int .i64 0, .nilFunc]).cells n ++ Builtin.zeroCells (Value.agg #[.pointer none, .int .i64 0, .nilFunc]).cells (grownCap w n 0 (141 : TypeId) - n)) (141 : TypeId))) := ⟨_, hide rfl⟩
    have HF : Hid (X.ownsRow w.heap.size (141 : TypeId) 3 (.slice (some ⟨w.heap.size, 0, none⟩) 0 (grownCap w n 0 (141 : TypeId))) 0 [] ∧ Below w.heap.size w X) := hide ⟨⟨rfl, .inr ⟨w.heap.size, _, _, rfl, Nat.le_refl _, by rw [hX.out]; exact heap_alloc_new w.drew _, Nat.zero_le _, hcm, by
        simp only [Array.size_append, size_zeroCells]
        simp only [Value.cells, List.size_toArray, List.length_cons, List.length_nil]
        omega, by simp⟩⟩, by
        rw [hX.out]
        exact ((Below.refl _ w).drew).alloc (Nat.le_refl _) _⟩
    rw [← hX.out] at hr
    generalize grownCap w n 0 (141 : TypeId) = cap at *
    unfold maxLen at hcm
    clear hX
    go_enter Tryz.func135, Tryz.ntmps135
    go_wp2_with (at_builtin; refine wpList_append_run2 rfl 138 3 _ _ rfl (.slice none 0 0) (.int .i64 n) (.slice (some ⟨w.heap.size, 0, none⟩) n cap) (by simp [Act.eval]) (by simp [Act.eval]) hr ?_)
    go_ret
    exact ⟨_, _, rfl, HF.out⟩
  · obtain rfl : n = 0 := by omega
    have hb := Below.refl w.heap.size w
    go_enter Tryz.func135, Tryz.ntmps135
    go_wp2_with fail
    go_ret
    exact ⟨none, 0, rfl, ⟨rfl, .inl ⟨rfl, rfl⟩⟩, hb⟩

/-- What stands in front of a place of two rows. -/
def Pk (xs ys : List Wv) (k : Nat) : List Wv := if k = 0 then [] else if k = 1 then xs else xs ++ ys

/-- A row's slice: none, or as it lies. -/
theorem row_cases {w : World} {base n : Nat} {v : Value} {xs : List Wv} (h : w.ownsRow base (141 : TypeId) 3 v n (W xs)) : (v = .slice none 0 0 ∧ xs = []) ∨ ∃ g c, v = .slice (some ⟨g, 0, none⟩) n c ∧ n ≤ c ∧ c ≤ maxLen ∧ g < w.heap.size ∧ ∀ j u, (W xs)[j]? = some u → w.cell? ((⟨g, 0, none⟩ : Addr).add j) = some u := by
  have h0 := h
  rcases h.2 with ⟨h1, h2⟩ | ⟨g, c, cur, h1, hb, hg, hnc, hcm, _⟩
  · refine .inl ⟨h1, ?_⟩
    have := h.1
    rw [h2, W_length] at this
    exact List.eq_nil_of_length_eq_zero (by omega)
  · exact .inr ⟨g, c, h1, hnc, hcm, heap_lt hg, h0.cells (by rw [h1]; rfl)⟩

set_option maxHeartbeats 4000000 in
theorem concat_any {w : World} {G b1 b2 : Nat} {v1 v2 : Value} {xs ys : List Wv} (hG : w.heap[G]? = some (.cells #[v1, v2] (138 : TypeId) (0, 0))) (h1 : w.ownsRow b1 (141 : TypeId) 3 v1 xs.length (W xs)) (h2 : w.ownsRow b2 (141 : TypeId) 3 v2 ys.length (W ys)) (hx : xs.length < 1000000) (hy : ys.length < 1000000) :
    Calls Tryz.prog 80 #[.slice (some ⟨G, 0, none⟩) 2 2] w fun e w' => ∃ a c, e = .returned (.slice a (xs ++ ys).length c) ∧ w'.ownsRow w.heap.size (141 : TypeId) 3 (.slice a (xs ++ ys).length c) (xs ++ ys).length (W (xs ++ ys)) ∧ Below w.heap.size w w' := by
  obtain ⟨i0, hi, hz0, hz1, hz2⟩ := infoWt
  obtain ⟨n1, hn1⟩ : ∃ n, Hid (n = xs.length) := ⟨_, hide rfl⟩
  obtain ⟨n2, hn2⟩ : ∃ n, Hid (n = ys.length) := ⟨_, hide rfl⟩
  rw [← hn1.out] at h1 hx
  rw [← hn2.out] at h2 hy
  obtain ⟨p1, k1, rfl⟩ := row_val h1
  obtain ⟨p2, k2, rfl⟩ := row_val h2
  have g0 : w.cell? ⟨G, 0, none⟩ = some (.slice p1 n1 k1) := cell_of_row w G 0 _ _ _ hG
  have g1 : w.cell? ⟨G, 1, none⟩ = some (.slice p2 n2 k2) := cell_of_row w G 1 _ _ _ hG
  have hw1 : IntKind.i64.wrap (n1 : Int) = (n1 : Int) := by rw [IntKind.wrap_i64]; omega
  have hw2 : IntKind.i64.wrap ((n1 : Int) + (n2 : Int)) = ((n1 + n2 : Nat) : Int) := by rw [IntKind.wrap_i64]; omega
  have CG := grow_any w (n1 + n2) (by omega)
  have HA : Hid (∀ (wr : World) (v : Value) (k : Nat) (zs ts : List Wv) (p : Option Addr) (n c bb : Nat), wr.ownsRow w.heap.size (141 : TypeId) 3 v k (W zs) → Below w.heap.size w wr → k < 1000000 → n < 1000000 → w.ownsRow bb (141 : TypeId) 3 (.slice p n c) n (W ts) → ∃ v' w', (Builtin.append_ #[138, 138] 138 #[v, .slice p n c]).run Tryz.prog wr = .ok v' w' ∧ Hid (w'.ownsRow w.heap.size (141 : TypeId) 3 v' (k + n) (W (zs ++ ts)) ∧ Below w.heap.size w w')) := hide (fun wr v k zs ts p n c bb ho hb hk hn h => by
    have hz := hb.size
    rcases row_cases (row_tb h (Tb.of_fresh (S := fun _ => False) hb) (fun _ _ h => h)) with ⟨e, rfl⟩ | ⟨g, c', e, hnc, hcm, hgl, hcs⟩
    · simp only [Value.slice.injEq] at e
      obtain ⟨rfl, rfl, rfl⟩ := e
      exact ⟨v, wr, by exact run_append_owned_none wr w.heap.size 138 138 (141 : TypeId) i0 3 Tryz.underlying138 hi v k (W zs) ho, hide ⟨by simpa using ho, hb⟩⟩
    · simp only [Value.slice.injEq] at e
      obtain ⟨rfl, _, rfl⟩ := e
      obtain ⟨v', w', r1, r2, r3, _⟩ := run_append_own_at (P := Tryz.prog) wr w.heap.size 138 138 (141 : TypeId) i0 (.agg #[.pointer none, .int .i64 0, .nilFunc]) 3 24 Tryz.underlying138 hi hz0 hz1 hz2 (by simp [Value.cells]) (by omega) v k (W zs) ho ⟨g, 0, none⟩ n c (W ts) (by have := h.1; omega) hcs (W_one ts) (by unfold maxLen; omega) (by omega) (by omega)
      refine ⟨v', w', r1, hide ⟨by rw [W_append]; exact r2, hb.grown r3 hz (fun y hy => (ho.lt y hy).1)⟩⟩)
  have HX := hide hn1.out
  have HY := hide hn2.out
  have H1 := hide h1
  have H2 := hide h2
  clear h1 h2 hG hi hz0 hz1 hz2
  go_enter Tryz.func80, Tryz.ntmps80
  go_wp2_with fail
  go_loopw [3, 11] (fun v i wr => wr = w ∧ ((i = .int .i64 0 ∧ v = .int .i64 0) ∨ (i = .int .i64 1 ∧ v = .int .i64 n1) ∨ (i = .int .i64 2 ∧ v = .int .i64 ((n1 + n2 : Nat) : Int)))) (fun _ i _ => 2 - (intOf i).toNat)
  case atStart => exact ⟨rfl, .inl ⟨rfl, rfl⟩⟩
  case round =>
    obtain ⟨hwr, hr⟩ := hrel
    subst wr
    rcases hr with ⟨rfl, rfl⟩ | ⟨rfl, rfl⟩ | ⟨rfl, rfl⟩
    · go_wp2_with fail
      go_roundw
      case rel => exact ⟨by first | rfl | trivial, .inr (.inl ⟨by go_num, by go_num⟩)⟩
      case measure => simp [intOf]
    · go_wp2_with fail
      go_roundw
      case rel => exact ⟨by first | rfl | trivial, .inr (.inr ⟨by go_num, by go_num⟩)⟩
      case measure => simp [intOf]
    · go_wp2_with fail
      refine CG.mono ?_
      rintro e w2 ⟨p, c, rfl, ho, hb⟩
      have q0 := (hb.cell (cell_lt g0)).trans g0
      have q1 := (hb.cell (cell_lt g1)).trans g1
      have HO := hide ho
      have HB := hide hb
      clear CG ho hb
      go_wp2_with fail
      go_loopw [6, 27] (fun v i wr => ∃ k, i = .int .i64 (k : Nat) ∧ k ≤ 2 ∧ Hid (wr.ownsRow w.heap.size (141 : TypeId) 3 v (Pk xs ys k).length (W (Pk xs ys k))) ∧ Hid (Below w.heap.size w wr)) (fun _ i _ => 2 - (intOf i).toNat)
      case atStart => exact ⟨0, rfl, by omega, HO, HB⟩
      case round =>
        obtain ⟨k, rfl, hk, hO, hB⟩ := hrel
        have r0 := (hB.out.cell (cell_lt g0)).trans g0
        have r1 := (hB.out.cell (cell_lt g1)).trans g1
        rcases (by omega : k = 0 ∨ k = 1 ∨ k = 2) with rfl | rfl | rfl
        · obtain ⟨v', w', hrun, hF⟩ := HA.out _ _ _ _ _ _ _ _ _ hO.out hB.out (by simp [Pk]) hx H1.out
          have hF2 : Hid (w'.ownsRow w.heap.size (141 : TypeId) 3 v' (Pk xs ys 1).length (W (Pk xs ys 1)) ∧ Below w.heap.size w w') := hide (by
            have := hF.out
            simp [Pk, HX.out] at this ⊢
            exact this)
          clear hF hO hB
          go_wp2_with (at_builtin; refine wpList_append_run rfl 138 _ _ rfl u6 (.slice p1 n1 k1) v' (by simp [Act.eval]) (by simp [Act.eval]) hrun ?_)
          go_roundw
          case rel => exact ⟨1, by go_num, by omega, hide hF2.out.1, hide hF2.out.2⟩
          case measure => simp [intOf]
        · obtain ⟨v', w', hrun, hF⟩ := HA.out _ _ _ _ _ _ _ _ _ hO.out hB.out (by simp [Pk]; have := HX.out; omega) hy H2.out
          have hF2 : Hid (w'.ownsRow w.heap.size (141 : TypeId) 3 v' (Pk xs ys 2).length (W (Pk xs ys 2)) ∧ Below w.heap.size w w') := hide (by
            have := hF.out
            simp [Pk, HY.out] at this ⊢
            exact this)
          clear hF hO hB
          go_wp2_with (at_builtin; refine wpList_append_run rfl 138 _ _ rfl u6 (.slice p2 n2 k2) v' (by simp [Act.eval]) (by simp [Act.eval]) hrun ?_)
          go_roundw
          case rel => exact ⟨2, by go_num, by omega, hide hF2.out.1, hide hF2.out.2⟩
          case measure => simp [intOf]
        · have hO2 := hO.out
          obtain ⟨p9, c9, rfl⟩ := row_val hO2
          have hF : Hid (wr.ownsRow w.heap.size (141 : TypeId) 3 (.slice p9 (xs ++ ys).length c9) (xs ++ ys).length (W (xs ++ ys))) := hide (by simpa [Pk] using hO2)
          have e9 : (Pk xs ys 2).length = (xs ++ ys).length := by simp [Pk]
          rw [e9]
          obtain ⟨n9, hn9⟩ : ∃ n9, Hid (n9 = (xs ++ ys).length) := ⟨_, hide rfl⟩
          rw [← hn9.out]
          clear hO hO2
          go_wp2_with fail
          go_ret
          exact ⟨p9, c9, by rw [hn9.out]; rfl, hF.out, hB.out⟩

end Go.Proofs.YtgjpbekmkhanhaaGreat.CH

/-
  A channel is closed.
-/
namespace Go.Proofs.YtgjpbekmkhanhaaGreat.CH
open Go.RowKit QW
set_option maxRecDepth 100000

section
variable {w : World} {A : Nat → Bool} {z : Zc} {m : Nat} {s : Cs} {D : Nat → Prop}

theorem Ch.shut (h : Ch w A z m s D) : Ch (w.setCell ⟨z.C, 3, none⟩ (.bool true)) A z m { s with cl := true } D ∧ Lx w D (w.setCell ⟨z.C, 3, none⟩ (.bool true)) D := by
  obtain ⟨BG, DS, DR, c, hd⟩ := h
  obtain ⟨n1, n2, n3⟩ := c.buf_ne
  have t : Tb (fun k => k = z.C) w (w.setCell ⟨z.C, 3, none⟩ (.bool true)) := Tb.set z.C 3 _ rfl
  have hkv : Kv w A (w.setCell ⟨z.C, 3, none⟩ (.bool true)) A := Kv.tb A t (fun k f ht e => c.notk ht (.inl e))
  obtain ⟨N, hh, q⟩ := c.bq
  refine ⟨⟨BG, DS, DR, ⟨?_, ⟨N, hh, q.tb t (fun e => n1 e.symm) (fun e => n2 e.symm)⟩, c.sl.same t (fun k hk e => (c.line_ne c.sl hk).1 e) hkv, c.rl.same t (fun k hk e => (c.line_ne c.rl hk).1 e) hkv, c.ap, c.sz, c.bf⟩, hd⟩, ⟨t.mono (fun k _ e => (hd k).2 (.inl e)), fun _ h => .inl h⟩⟩
  rw [heap_setCell_same w z.C 3 _ (66 : TypeId) _ c.obj]
  rfl

theorem close_closed (h : Ch w A z m s D) (hc : s.cl = true) : Calls Tryz.prog 33 #[.pointer (some ⟨z.C, 0, none⟩)] w fun e w' => e = .returned (.int .i64 150) ∧ w' = w := by
  have CM := cmade_yes h
  obtain ⟨_, _, c3, _, _, _⟩ := h.cs
  rw [hc] at c3
  clear h
  go_enter Tryz.func33, Tryz.ntmps33
  go_wp2_with fail
  refine CM.mono ?_
  rintro e w1 ⟨rfl, hw1⟩
  subst w1
  go_wp2_with fail
  go_ret
  exact ⟨rfl, rfl⟩

/-- A row of waiters that a line left. -/
def Lf (w0 V : World) (A : Nat → Bool) (D' : Nat → Prop) (ys : List Wv) (v : Value) (xs : List Wv) : Prop :=
  V.ownsRow w0.heap.size (141 : TypeId) 3 v xs.length (W xs) ∧ xs.length < 1000000 ∧ xs.filter (al A) = ys ∧ (∀ x ∈ xs, Tkv V A x) ∧ ∀ k, v.ownBlock = some k → ¬ D' k

/-- In the midst of a close: which lines were left. -/
def Mc (w : World) (A : Nat → Bool) (z : Zc) (m : Nat) (s : Cs) (D : Nat → Prop) (V : World) (r q : Option (Value × List Wv)) : Prop :=
  ∃ D', Ch V A z m ⟨true, s.buf, if q.isSome then [] else s.snd, if r.isSome then [] else s.rcv⟩ D' ∧ Lx w D V D' ∧ (∀ v xs, r = some (v, xs) → Lf w V A D' s.rcv v xs) ∧ ∀ v xs, q = some (v, xs) → Lf w V A D' s.snd v xs

theorem Lf.step {w0 V V' : World} {D1 D2 : Nat → Prop} {ys xs : List Wv} {v : Value} (h : Lf w0 V A D1 ys v xs) (x : Lx V D1 V' D2) (hk : Kv V A V' A) : Lf w0 V' A D2 ys v xs := by
  obtain ⟨h1, h2, h3, h4, h5⟩ := h
  refine ⟨row_tb h1 x.tb h5, h2, h3, fun y hy => (hk y (h4 y hy)).1, fun k hk' e => ?_⟩
  rcases x.dom k e with h6 | h6
  · exact h5 k hk' h6
  · have := (h1.lt k hk').2
    omega

theorem Mc.left_r {V : World} {q : Option (Value × List Wv)} (h : Mc w A z m s D V none q) :
    Calls Tryz.prog 81 #[.pointer (some ⟨z.RL, 0, none⟩)] V fun e W => ∃ p0 n0 c0 xs, e = .returned (.slice p0 n0 c0) ∧ (W.cell? ⟨z.C, 5, none⟩ = some (.pointer (some ⟨z.SL, 0, none⟩)) ∧ W.cell? ⟨z.C, 6, none⟩ = some (.pointer (some ⟨z.RL, 0, none⟩))) ∧ Hid (Mc w A z m s D W (some (.slice p0 n0 c0, xs)) q) := by
  obtain ⟨D', hch, hx, _, hq⟩ := h
  obtain ⟨BG, DS, DR, c, hd⟩ := hch
  refine (leave_any c.rl).mono ?_
  rintro e W ⟨a, cap, xs, rfl, ho, hm, hf, hfl, htk, D2, l, x, hn⟩
  have hz := hx.tb.size
  have cc := c.rline (Nat.le_refl _) l x
  have X : Lx V D' W (cdom z BG DS D2) := lx_of hd x.rof
  have hkv : Kv V A W A := Kv.tb A x.tb (fun k f ht => c.rl.notk ht)
  have hcs := (show Ch W A z m _ (cdom z BG DS D2) from cc.ch).cs
  refine ⟨a, xs.length, cap, xs, rfl, ⟨hcs.2.2.2.2.1, hcs.2.2.2.2.2⟩, hide ⟨cdom z BG DS D2, cc.ch, hx.trans X, fun v ys e => ?_, fun v ys e => (hq v ys e).step X hkv⟩⟩
  simp only [Option.some.injEq, Prod.mk.injEq] at e
  obtain ⟨rfl, rfl⟩ := e
  refine ⟨own_base ho hz, by unfold Mx at hf; exact hf, hfl, htk, fun k hk e => ?_⟩
  have hkl := (ho.lt k hk).1
  rcases e with e | e | e | e | e
  · have := c.lt (.inl e); omega
  · have := c.lt (.inr (.inl e)); omega
  · have := c.lt (.inr (.inr (.inl e))); omega
  · have := c.sl.lt e; omega
  · exact hn k hk e

theorem Mc.left_s {V : World} {r : Option (Value × List Wv)} (h : Mc w A z m s D V r none) :
    Calls Tryz.prog 81 #[.pointer (some ⟨z.SL, 0, none⟩)] V fun e W => ∃ p0 n0 c0 xs, e = .returned (.slice p0 n0 c0) ∧ (W.cell? ⟨z.C, 5, none⟩ = some (.pointer (some ⟨z.SL, 0, none⟩)) ∧ W.cell? ⟨z.C, 6, none⟩ = some (.pointer (some ⟨z.RL, 0, none⟩))) ∧ Hid (Mc w A z m s D W r (some (.slice p0 n0 c0, xs))) := by
  obtain ⟨D', hch, hx, hq, _⟩ := h
  obtain ⟨BG, DS, DR, c, hd⟩ := hch
  refine (leave_any c.sl).mono ?_
  rintro e W ⟨a, cap, xs, rfl, ho, hm, hf, hfl, htk, D2, l, x, hn⟩
  have hz := hx.tb.size
  have cc := c.sline (Nat.le_refl _) l x
  have X : Lx V D' W (cdom z BG D2 DR) := lx_of hd x.sof
  have hkv : Kv V A W A := Kv.tb A x.tb (fun k f ht => c.sl.notk ht)
  have hcs := (show Ch W A z m _ (cdom z BG D2 DR) from cc.ch).cs
  refine ⟨a, xs.length, cap, xs, rfl, ⟨hcs.2.2.2.2.1, hcs.2.2.2.2.2⟩, hide ⟨cdom z BG D2 DR, cc.ch, hx.trans X, fun v ys e => (hq v ys e).step X hkv, fun v ys e => ?_⟩⟩
  simp only [Option.some.injEq, Prod.mk.injEq] at e
  obtain ⟨rfl, rfl⟩ := e
  refine ⟨own_base ho hz, by unfold Mx at hf; exact hf, hfl, htk, fun k hk e => ?_⟩
  have hkl := (ho.lt k hk).1
  rcases e with e | e | e | e | e
  · have := c.lt (.inl e); omega
  · have := c.lt (.inr (.inl e)); omega
  · have := c.lt (.inr (.inr (.inl e))); omega
  · exact hn k hk e
  · have := c.rl.lt e; omega

theorem keep56 {W : World} {o : Obj} {a b : Addr} {x y : Value} (h : W.cell? a = some x ∧ W.cell? b = some y) : (W.alloc o).cell? a = some x ∧ (W.alloc o).cell? b = some y := by
  have hb : Below W.heap.size W (W.alloc o) := (Below.refl _ W).alloc (Nat.le_refl _) _
  exact ⟨(hb.cell (cell_lt h.1)).trans h.1, (hb.cell (cell_lt h.2)).trans h.2⟩

/-- The row that is gone through: its block g, its cells. -/
def Rw (W : World) (g : Option Nat) (zs : List Wv) (a : Option Addr) (n c : Nat) : Prop :=
  zs.length = n ∧ n < 2000000 ∧ n ≤ c ∧ c ≤ 9223372036854775807 ∧ (0 < n → ∃ b cs, a = some ⟨b, 0, none⟩ ∧ g = some b ∧ W.heap[b]? = some (.cells cs (141 : TypeId) (0, 0)) ∧ ∀ k x, zs[k]? = some x → ∀ j v, (wc x)[j]? = some v → cs[k * 3 + j]? = some v)
theorem Rw.keep {W W' : World} {g : Option Nat} {zs : List Wv} {a : Option Addr} {n c : Nat} (h : Rw W g zs a n c) (hk : ∀ b, g = some b → W'.heap[b]? = W.heap[b]?) : Rw W' g zs a n c := by
  obtain ⟨h1, h2, h3, h4, h5⟩ := h
  refine ⟨h1, h2, h3, h4, fun hn => ?_⟩
  obtain ⟨b, cs, e1, e2, e3, e4⟩ := h5 hn
  exact ⟨b, cs, e1, e2, (hk b e2).trans e3, e4⟩
theorem Rw.of {W : World} {base : Nat} {zs : List Wv} {a : Option Addr} {c : Nat} (h : W.ownsRow base (141 : TypeId) 3 (.slice a zs.length c) zs.length (QW.W zs)) (hn : zs.length < 2000000) : Rw W (Value.slice a zs.length c).ownBlock zs a zs.length c := by
  rcases h.2 with ⟨h1, h2⟩ | ⟨g, cap, cur, h1, hb, hg, hnc, hcm, hs, ht⟩
  · simp only [Value.slice.injEq] at h1
    obtain ⟨rfl, h3, rfl⟩ := h1
    exact ⟨rfl, hn, by omega, by omega, fun h0 => by omega⟩
  · simp only [Value.slice.injEq] at h1
    obtain ⟨rfl, _, rfl⟩ := h1
    unfold maxLen at hcm
    refine ⟨rfl, hn, hnc, by omega, fun h0 => ⟨g, cur, rfl, rfl, hg, fun k x hk j v hj => ?_⟩⟩
    have hj3 : j < 3 := by
      have := (List.getElem?_eq_some_iff.1 hj).1
      simpa [wc] using this
    have h6 := wc_get zs hk j hj3
    rw [hj] at h6
    have h7 : (QW.W zs)[k * 3 + j]? = some v := h6
    rw [← ht, List.getElem?_take] at h7
    split at h7
    · simpa using h7
    · cases h7

set_option maxHeartbeats 4000000 in
theorem close_open (h : Ch w A z m s D) (hc : s.cl = false) (I : Option Nat → List Wv → World → Prop)
    (hI0 : ∀ V D' g xs ys, Ch V A z m ⟨true, s.buf, [], []⟩ D' → Lx w D V D' → xs.filter (al A) = s.rcv → ys.filter (al A) = s.snd → (∀ x ∈ xs ++ ys, Tkv V A x) → (∀ k, g = some k → w.heap.size ≤ k ∧ k < V.heap.size ∧ ¬ D' k) → I g (xs ++ ys) V)
    (hI : ∀ g x r V, I g (x :: r) V → Calls Tryz.prog 82 #[.agg #[.pointer x.tk, .int .i64 x.val, x.told], .int .i64 0, .bool false] V fun e V' => e = .returned (.tuple #[]) ∧ I g r V' ∧ ∀ k, g = some k → V'.heap[k]? = V.heap[k]?)
    (hIb : ∀ g xs V V', I g xs V → Below V.heap.size V V' → I g xs V') :
    Calls Tryz.prog 33 #[.pointer (some ⟨z.C, 0, none⟩)] w fun e w' => e = .returned (.int .i64 0) ∧ ∃ g, I g [] w' := by
  have CM := cmade_yes h
  obtain ⟨hs1, hx1⟩ := h.shut
  obtain ⟨_, _, c3, _, _, _⟩ := h.cs
  rw [hc] at c3
  have f3 : w.frozen? ⟨z.C, 3, none⟩ = false := by
    obtain ⟨BG, DS, DR, c, hd⟩ := h
    exact frozen_of_row _ _ 3 _ _ c.obj
  obtain ⟨Y, hY⟩ : ∃ Y, Hid (Y = w.setCell ⟨z.C, 3, none⟩ (.bool true)) := ⟨_, hide rfl⟩
  rw [← hY.out] at hs1 hx1
  have M0 : Mc w A z m s D Y none none := ⟨D, hs1, hx1, fun v xs e => (by cases e), fun v xs e => (by cases e)⟩
  have c5 := hs1.cs.2.2.2.2.1
  have c6 := hs1.cs.2.2.2.2.2
  have Mb : ∀ {V V' : World} {r q}, Mc w A z m s D V r q → Below V.heap.size V V' → Mc w A z m s D V' r q := fun hM hb => by
    obtain ⟨D', k1, k2, k3, k4⟩ := hM
    exact ⟨D', k1.below hb, k2.trans (Lx.fresh D' hb), fun v xs e => (k3 v xs e).step (Lx.fresh D' hb) (Kv.below A hb), fun v xs e => (k4 v xs e).step (Lx.fresh D' hb) (Kv.below A hb)⟩
  have HR : Hid (∀ V q, Mc w A z m s D V none q → Calls Tryz.prog 81 #[.pointer (some ⟨z.RL, 0, none⟩)] V fun e W => ∃ p0 n0 c0 xs, e = .returned (.slice p0 n0 c0) ∧ (W.cell? ⟨z.C, 5, none⟩ = some (.pointer (some ⟨z.SL, 0, none⟩)) ∧ W.cell? ⟨z.C, 6, none⟩ = some (.pointer (some ⟨z.RL, 0, none⟩))) ∧ Hid (Mc w A z m s D W (some (.slice p0 n0 c0, xs)) q)) := hide (fun V q hM => hM.left_r)
  have HS : Hid (∀ V r, Mc w A z m s D V r none → Calls Tryz.prog 81 #[.pointer (some ⟨z.SL, 0, none⟩)] V fun e W => ∃ p0 n0 c0 xs, e = .returned (.slice p0 n0 c0) ∧ (W.cell? ⟨z.C, 5, none⟩ = some (.pointer (some ⟨z.SL, 0, none⟩)) ∧ W.cell? ⟨z.C, 6, none⟩ = some (.pointer (some ⟨z.RL, 0, none⟩))) ∧ Hid (Mc w A z m s D W r (some (.slice p0 n0 c0, xs)))) := hide (fun V r hM => hM.left_s)
  have HC : Hid (∀ V p1 n1 k1 xs1 p2 n2 k2 xs2, Mc w A z m s D V (some (.slice p1 n1 k1, xs1)) (some (.slice p2 n2 k2, xs2)) → Calls Tryz.prog 80 #[.slice (some ⟨V.heap.size, 0, none⟩) 2 2] (V.alloc (.cells #[.slice p1 n1 k1, .slice p2 n2 k2] (138 : TypeId))) fun e W => ∃ a n c, e = .returned (.slice a n c) ∧ (W.cell? ⟨z.C, 5, none⟩ = some (.pointer (some ⟨z.SL, 0, none⟩)) ∧ W.cell? ⟨z.C, 6, none⟩ = some (.pointer (some ⟨z.RL, 0, none⟩))) ∧ Hid (∃ g zs, I g zs W ∧ Rw W g zs a n c) ∧ (n ≤ c ∧ n < 2000000)) := hide (fun V p1 n1 k1 xs1 p2 n2 k2 xs2 hM => by
    have bA : Below V.heap.size V (V.alloc (.cells #[.slice p1 n1 k1, .slice p2 n2 k2] (138 : TypeId))) := (Below.refl _ V).alloc (Nat.le_refl _) _
    have hM2 := Mb hM bA
    obtain ⟨D', ch, hx, h1, h2⟩ := hM2
    obtain ⟨r1, l1, f1, t1, o1⟩ := h1 _ _ rfl
    obtain ⟨r2, l2, f2, t2, o2⟩ := h2 _ _ rfl
    refine (concat_any (heap_alloc_new V _) r1 r2 l1 l2).mono ?_
    rintro e W ⟨a, c, rfl, ho, hb⟩
    have ch2 := ch.below hb
    have hz := hx.tb.size
    have hz2 := hb.size
    refine ⟨a, _, c, rfl, ⟨ch2.cs.2.2.2.2.1, ch2.cs.2.2.2.2.2⟩, hide ⟨_, xs1 ++ xs2, hI0 W D' _ xs1 xs2 ch2 (hx.trans (Lx.fresh D' hb)) f1 f2 (fun x hx => ?_) (fun k hk => ?_), Rw.of ho (by simp; omega)⟩, ?_, by simp; omega⟩
    · rcases List.mem_append.1 hx with hx | hx
      · exact (t1 x hx).below hb
      · exact (t2 x hx).below hb
    · have := ho.lt k hk
      exact ⟨by omega, this.2, fun e => by have := ch.lt e; omega⟩
    · rcases row_cases ho with ⟨e, e2⟩ | ⟨g, c', e, h3, _⟩
      · simp only [Value.slice.injEq] at e
        omega
      · simp only [Value.slice.injEq] at e
        omega)
  have M1 := hide (Mb M0 (Below.refl _ Y).drew)
  have M0 := hide M0
  clear h hs1 hx1
  go_enter Tryz.func33, Tryz.ntmps33
  go_wp2_with fail
  refine CM.mono ?_
  rintro e w1 ⟨rfl, hw1⟩
  subst w1
  go_wp2_with (rw [← hY.out])
  go_region_held3 (fun V => V.cell? ⟨z.C, 5, none⟩ = some (.pointer (some ⟨z.SL, 0, none⟩)) ∧ V.cell? ⟨z.C, 6, none⟩ = some (.pointer (some ⟨z.RL, 0, none⟩)))
    (first | exact ⟨c5, c6⟩ | exact e1 | exact keep56 e1)
    (first
      | (go_at_call_of 81 (Value.pointer (some (Addr.mk z.SL 0 none))); (first | refine (HS.out _ _ M1.out).mono ?_ | refine (HS.out _ _ hMr.out).mono ?_); rintro e W ⟨p2, n2, k2, xs2, rfl, e1, hMs⟩)
      | (go_at_call_of 81 (Value.pointer (some (Addr.mk z.RL 0 none))); (first | refine (HR.out _ _ M1.out).mono ?_ | refine (HR.out _ _ hMs.out).mono ?_); rintro e W ⟨p1, n1, k1, xs1, rfl, e1, hMr⟩)
      | (go_at_call 80; (first | refine (HC.out _ _ _ _ _ _ _ _ _ hMs.out).mono ?_ | refine (HC.out _ _ _ _ _ _ _ _ _ hMr.out).mono ?_); rintro e W9 ⟨a9, n9, c9, rfl, e1, hIR, hnc⟩))
  all_goals
    clear M1 M0 HR HS HC Mb hMr hMs c5 c6 c3 f3 hY e1
    obtain ⟨g, zs, hI9, hR9⟩ := hIR.out
    have hR9 := hide hR9
    have hI9 := hide hI9
    obtain ⟨hn1, hn2⟩ := hnc
    have hc9 : c9 ≤ 9223372036854775807 := hR9.out.2.2.2.1
    have hl9 := hide hR9.out.1
    clear hIR hc hI0
    go_wp2_with fail
    go_loopw [31] (fun i wr => ∃ k : Nat, k ≤ n9 ∧ i = .int .i64 k ∧ Hid (I g (zs.drop k) wr ∧ Rw wr g zs a9 n9 c9)) (fun i _ => n9 - (intOf i).toNat)
    case atStart => exact ⟨0, Nat.zero_le _, rfl, hide ⟨by simpa using hI9.out, hR9.out⟩⟩
    case round =>
      obtain ⟨k, hk, rfl, hJ⟩ := hrel
      by_cases hlt : k < n9
      · have hkz : k < zs.length := by rw [hl9.out]; exact hlt
        obtain ⟨b, cs, rfl, hgb, hrow, hcs⟩ := hJ.out.2.2.2.2.2 (by omega)
        have hget : zs[k]? = some zs[k] := List.getElem?_eq_getElem hkz
        have hdrop : zs.drop k = zs[k] :: zs.drop (k + 1) := List.drop_eq_getElem_cons hkz
        have hcell : ∀ j v, (wc zs[k])[j]? = some v → wr.cell? ⟨b, k * 3 + j, none⟩ = some v := fun j v hj => by
          rw [cell_of_row wr b (k * 3 + j) _ _ _ hrow]
          exact hcs k _ hget j v hj
        generalize zs[k] = x at *
        have k0 : wr.cell? ⟨b, k * 3, none⟩ = some (.pointer x.tk) := hcell 0 _ rfl
        have k1 : wr.cell? ⟨b, k * 3 + 1, none⟩ = some (.int .i64 x.val) := hcell 1 _ rfl
        have k2 : wr.cell? ⟨b, k * 3 + 2, none⟩ = some x.told := hcell 2 _ rfl
        obtain ⟨A6, B6, hA6, hB6, ⟨⟨a0, a1, a2⟩, f0, f1, f2⟩, ⟨m0, m1, m2⟩, hb6, _⟩ := box_put wr x
        have CS : Hid (Calls Tryz.prog 82 #[.agg #[.pointer x.tk, .int .i64 x.val, x.told], .int .i64 0, .bool false] (p3 A6 B6 x) fun e V' => e = .returned (.tuple #[]) ∧ Hid (I g (zs.drop (k + 1)) V' ∧ Rw V' g zs (some ⟨b, 0, none⟩) n9 c9)) := hide (by
          have h1 := hJ.out.1
          rw [hdrop] at h1
          refine (hI g x _ _ (hIb g _ _ _ h1 hb6.out)).mono ?_
          rintro e V' ⟨rfl, h2, h3⟩
          refine ⟨rfl, hide ⟨h2, (hJ.out.2.keep (fun b' hb' => ?_)).keep h3⟩⟩
          rw [hgb] at hb'
          cases hb'
          exact hb6.out.block b (heap_lt hrow))
        have HST : ∀ (W : World) (a : Addr) (m : Mode), (store a x.told m).run Tryz.prog W = stored Tryz.prog W a x.told m := fun W a m => run_store Tryz.prog W a _ m x.one
        unfold p3 at CS m0 m1 m2
        clear hJ hrow hcs hcell hget hdrop hkz hb6
        go_wp2_with (rw [← hA6.out, hB6.out])
        refine CS.out.mono ?_
        rintro e V' ⟨rfl, hJ2⟩
        clear CS a0 a1 a2 f0 f1 f2 m0 m1 m2 k0 k1 k2
        go_wp2_with fail
        go_roundw
        case rel => exact ⟨k + 1, by omega, by go_num, hJ2⟩
        case measure => simp [intOf]; omega
      · obtain rfl : k = n9 := by omega
        have hE : Hid (I g [] wr) := hide (by
          have := hJ.out.1
          rwa [List.drop_of_length_le (by rw [hl9.out]; exact Nat.le_refl _)] at this)
        clear hJ
        go_wp2_with fail
        go_ret
        exact ⟨rfl, g, hE.out⟩
end

end Go.Proofs.YtgjpbekmkhanhaaGreat.CH

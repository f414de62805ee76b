/-
  Texts put into one.
-/
import Derived.Test.YtgjpbekmkhanhaaGreatQk03c98074
import Derived.Deep.RegionHeld3
import Derived.BigQuiet
import Derived.Great.BuildSlice

/-
  The law's turn: its first part, what happens is noted.
-/
namespace Go.Proofs.YtgjpbekmkhanhaaGreat.CH
open Go.RowKit QW
set_option maxRecDepth 100000

section
variable {P : Program} {ops : Array Oper} {o : Oper} {a : Act} {w w' : World} {K : Act → World → Prop} {Q : Exit → Act → World → Prop} {E : Prop}
theorem step_appendx (hw : Region.wanted o (yielded ops a.tmps) = true) (t : TypeId) (m x : Operand) (hop : o.op = Op.call { callee := Callee.builtin Builtin.append, args := #[m, x], argTypes := #[t, t] }) (mv key v : Value) (hm : a.eval m = mv) (hx : a.eval x = key) (hrun : (Builtin.append_ #[t, t] o.type #[mv, key]).run P w = .ok v w') (hK : K (a.put o.dst v) w') :
    if Region.wanted o (yielded ops a.tmps) = true then Oper.wp P o a w K Q else E := by
  rw [if_pos hw]
  unfold Oper.wp
  simp [execOp, hop, resolve, invoke, builtin, hm, hx, hrun, Result.andThen]
  exact hK
end

theorem infoV : (Tryz.prog.info? (113 : TypeId)).map (fun i => (i.zero, i.size, i.bytes)) = some (some (.agg #[.int .i64 0, .int .i64 0, .int .i64 0, .int .i64 0, .bool false]), 5, 40) := by kernel_rfl

section
variable {w w' : World} {L B : Nat} {pv cv tvv : Value} {R : Nat} {zs : List Zc} {bs : List Nat} {m m' : Nat} {σ σ' : Sg} {run : Option Nat} {left : Nat} {lab lab' : Lb}

theorem row_ty {base n size : Nat} {e : TypeId} {v : Value} {xs : List Value} (h : w.ownsRow base e size v n xs) {g : Nat} (hg : v.ownBlock = some g) : ∃ cs, w.heap[g]? = some (.cells cs e (0, 0)) := by
  rcases h.2 with ⟨rfl, _⟩ | ⟨g', cap, cur, rfl, _, hh, _⟩
  · cases hg
  · simp only [Value.ownBlock, Option.some.injEq] at hg
    subst hg
    exact ⟨_, hh⟩

/-- What a turn's event leaves of the world. -/
theorem noted (h : Wd w L B pv cv tvv R zs bs m σ run left lab) (hL : L ≤ w.heap.size) (hl : σ.ev.length ≤ 1000000) (i : Nat) :
    ∃ ea ecap v6 X6, w.cell? ⟨B, 4, none⟩ = some (.slice ea σ.ev.length ecap) ∧ (Builtin.append_ #[(34 : TypeId), (34 : TypeId)] (34 : TypeId) #[.slice ea σ.ev.length ecap, .slice (some ⟨w.heap.size, 0, none⟩) 1 1]).run Tryz.prog (w.alloc (.cells (evc (i, (σ.p i).at', (σ.p i).td)).toArray (113 : TypeId))) = .ok v6 X6 ∧
      X6.frozen? ⟨B, 4, none⟩ = false ∧ X6.cell? ⟨B, 4, none⟩ = some (.slice ea σ.ev.length ecap) ∧ v6.oneCell' = true ∧ (∃ p6 n6 c6, v6 = .slice p6 n6 c6) ∧
      (∀ k, lab k = some .fz → X6.heap[k]? = w.heap[k]?) ∧ (∀ k, lab k = some .fz → (X6.setCell ⟨B, 4, none⟩ v6).heap[k]? = w.heap[k]?) ∧
      ∃ lab', Wd (X6.setCell ⟨B, 4, none⟩ v6) L B pv cv tvv R zs bs m (σ.note i) run left lab' ∧ Wy w lab (X6.setCell ⟨B, 4, none⟩ v6) lab' := by
  obtain ⟨ev, a, s, A, K, h, q1, q2, q3, q4⟩ := h.ex
  obtain ⟨ea, ecap, rfl⟩ := row_val h.er
  obtain ⟨t3, ht3⟩ := Option.map_eq_some_iff.1 infoV
  simp only [Prod.mk.injEq] at ht3
  obtain ⟨Y, hY⟩ : ∃ Y, Y = w.alloc (.cells (evc (i, (σ.p i).at', (σ.p i).td)).toArray (113 : TypeId)) := ⟨_, rfl⟩
  have bY : Below w.heap.size w Y := by rw [hY]; exact (Below.refl _ w).alloc (Nat.le_refl _) _
  have hYn : Y.heap[w.heap.size]? = some (.cells (evc (i, (σ.p i).at', (σ.p i).td)).toArray (113 : TypeId) (0, 0)) := by rw [hY]; exact heap_alloc_new w _
  have erY := row_tb h.er (Tb.of_fresh (S := fun _ => False) bY) (fun _ _ h => h)
  obtain ⟨v', X, r1, r2, r3, _, r4⟩ := run_append_own_at (P := Tryz.prog) Y L (34 : TypeId) (34 : TypeId) (113 : TypeId) t3 (.agg #[.int .i64 0, .int .i64 0, .int .i64 0, .int .i64 0, .bool false]) 5 40 Tryz.underlying34 ht3.1 ht3.2.1 ht3.2.2.1 ht3.2.2.2 (by simp [Value.cells]) (by omega) (.slice ea σ.ev.length ecap) σ.ev.length _ erY ⟨w.heap.size, 0, none⟩ 1 1 (evc (i, (σ.p i).at', (σ.p i).td)) rfl (fun j u hj => by
      rw [Addr.add_lit, cell_of_row _ _ _ _ _ _ hYn]
      simpa using hj) (by simp [evc, Value.oneCell']) (by unfold maxLen; omega) (by omega) (by have := bY.size; omega)
  rw [← hY]
  obtain ⟨p6, c6, rfl⟩ := row_val r2
  have tX : Tb (fun k => (Value.slice ea σ.ev.length ecap).ownBlock = some k) Y X := Tb.of_grown r3 (fun k e => e)
  have hzY := bY.size
  have twX : Tb (fun k => (Value.slice ea σ.ev.length ecap).ownBlock = some k) w X := (Tb.of_fresh (S := fun k => (Value.slice ea σ.ev.length ecap).ownBlock = some k) bY).trans tX (fun k _ e => e)
  have hBX : X.heap[B]? = some (.cells #[.pointer (some ⟨a.R, 0, none⟩), pv, cv, tvv, .slice ea σ.ev.length ecap, .bool false] (36 : TypeId) (0, 0)) := (twX.block _ (heap_lt h.blk) (fun e => by have := h.le B e; rw [h.lb] at this; cases this)).trans h.blk
  have tZ : Tb (fun k => k = B) X (X.setCell ⟨B, 4, none⟩ (.slice p6 (σ.ev.length + 1) c6)) := Tb.set B 4 _ rfl
  have twZ : Tb (fun k => (Value.slice ea σ.ev.length ecap).ownBlock = some k ∨ k = B) w (X.setCell ⟨B, 4, none⟩ (.slice p6 (σ.ev.length + 1) c6)) := (show Tb (fun k => (Value.slice ea σ.ev.length ecap).ownBlock = some k ∨ k = B) w X from twX.mono (fun _ _ e => .inl e)).trans tZ (fun k _ e => .inr e)
  have hzX := tX.size
  have hlS : ∀ k l, lab k = some l → l ≠ .ev → l ≠ .b → ¬ ((Value.slice ea σ.ev.length ecap).ownBlock = some k ∨ k = B) := fun k l hk n1 n2 e => by
    rcases e with e | e
    · have := h.le k e
      rw [hk] at this
      exact n1 (Option.some.inj this)
    · rw [e, h.lb] at hk
      exact n2 (Option.some.inj hk).symm
  obtain ⟨Z, hZ⟩ : ∃ Z, Z = X.setCell ⟨B, 4, none⟩ (.slice p6 (σ.ev.length + 1) c6) := ⟨_, rfl⟩
  have hBZ : Z.heap[B]? = some (.cells #[.pointer (some ⟨a.R, 0, none⟩), pv, cv, tvv, .slice p6 (σ.ev.length + 1) c6, .bool false] (36 : TypeId) (0, 0)) := by
    rw [hZ, heap_setCell_same X B 4 _ _ _ hBX]
    rfl
  rw [← hZ] at tZ twZ
  refine ⟨ea, ecap, .slice p6 (σ.ev.length + 1) c6, X, cell_of_row w B 4 _ _ _ h.blk, r1, frozen_of_row _ _ 4 _ _ hBX, cell_of_row _ _ 4 _ _ _ hBX, rfl, ⟨_, _, _, rfl⟩, fun k hk => twX.block k (h.lt' k _ hk) (fun e => hlS k _ hk (by simp) (by simp) (.inl e)), fun k hk => by rw [← hZ]; exact twZ.block k (h.lt' k _ hk) (hlS k _ hk (by simp) (by simp)), ?_⟩
  rw [← hZ]
  have hown' : ∀ k, (Value.slice p6 (σ.ev.length + 1) c6).ownBlock = some k → lab k = some .ev ∨ w.heap.size ≤ k := fun k hk => by
    rcases r4 with e | e
    · rw [e] at hk; exact .inl (h.le k hk)
    · rw [e] at hk; cases hk; exact .inr (by omega)
  have hD : ∀ k, (Value.slice p6 (σ.ev.length + 1) c6).ownBlock = some k → lab k = some .ev ∨ lab k = none := fun k hk => (hown' k hk).imp id h.fresh
  have hoth : ∀ k l, l ≠ .ev → (relab lab .ev (fun k => (Value.slice p6 (σ.ev.length + 1) c6).ownBlock = some k) k = some l ↔ lab k = some l) := fun k l hl => relab_other hD hl
  have hsame : ∀ k l, lab k = some l → l ≠ .ev → l ≠ .b → Z.heap[k]? = w.heap[k]? := fun k l hk n1 n2 => twZ.block k (h.lt' k l hk) (hlS k l hk n1 n2)
  have hkv : Kv w A Z A := Kv.tb A twZ (fun k f ht e => by
    rcases e with e | e
    · obtain ⟨cs, hcs⟩ := row_ty h.er e
      exact ty_ne ht hcs (by decide) rfl
    · subst e
      exact ty_ne ht h.blk (by decide) rfl)
  have hfz : ∀ k, Fz lab k → Fz (relab lab .ev (fun k => (Value.slice p6 (σ.ev.length + 1) c6).ownBlock = some k)) k := fun k hk => (hoth k _ (by simp)).2 hk
  have hvB : ∀ k, (Value.slice p6 (σ.ev.length + 1) c6).ownBlock = some k → k ≠ B := fun k hk e => by
    subst e
    rcases hown' k hk with e | e
    · rw [h.lb] at e; cases e
    · have := h.lt' k _ h.lb; omega
  have hzz := twZ.size
  have hzZ := tZ.size
  refine ⟨relab lab .ev (fun k => (Value.slice p6 (σ.ev.length + 1) c6).ownBlock = some k), ⟨_, a, s, A, K, ⟨hBZ, h.rt.tb twZ (fun k hk => ?_), row_tb h.cr twZ (fun g hg => hlS g _ (h.lc g hg) (by simp) (by simp)), row_tb h.tr twZ (fun g hg => hlS g _ (h.lt g hg) (by simp) (by simp)), ?_, fun k hk => (hoth k _ (by simp)).2 (h.lr k hk), (hoth _ _ (by simp)).2 h.lq, (hoth _ _ (by simp)).2 h.lb, fun k hk => relab_same.2 hk, fun k hk => (hoth k _ (by simp)).2 (h.lc k hk), fun k hk => (hoth k _ (by simp)).2 (h.lt k hk), fun k l hk => ?_, fun j z c hz hc => ⟨(h.ch j z c hz hc).1, (h.ch j z c hz hc).2.1, ((h.ch j z c hz hc).2.2.same twZ (fun k hk => hlS k _ hk (by simp) (by simp)) hkv).iff (fun k => hoth k _ (by simp))⟩, h.cn, fun k hk => h.ha k (by omega), h.ln, h.len, fun j t p ht hp => (h.cl j t p ht hp).keep (fun k hk => hsame k _ hk (by simp) (by simp)) hfz (fun k hk => ⟨(hoth k _ (by simp)).2 hk, hsame k _ hk (by simp) (by simp), rfl⟩) h.lt', ⟨h.ok.nd, h.ok.sn, h.ok.rc, h.ok.bf⟩⟩, q1, q2, q3, q4⟩, ⟨twZ.mono (fun k _ e => ?_), fun k hk => ?_, fun k hk => ⟨hfz k hk, hsame k _ hk (by simp) (by simp)⟩⟩⟩
  · rcases hk with hk | hk
    · exact hlS k _ (h.lr k hk) (by simp) (by simp)
    · subst hk
      exact hlS _ _ h.lq (by simp) (by simp)
  · have e1 : (σ.note i).ev.length = σ.ev.length + 1 := by simp [Sg.note]
    have e2 : (σ.note i).ev.flatMap evc = σ.ev.flatMap evc ++ evc (i, (σ.p i).at', (σ.p i).td) := by simp [Sg.note]
    rw [e1, e2]
    exact row_tb r2 tZ (fun g hg e => hvB g hg e)
  · by_cases hl : l = .ev
    · subst hl
      have := r2.lt k (relab_same.1 hk)
      exact ⟨this.1, by omega⟩
    · have := h.lo k l ((hoth k l hl).1 hk)
      exact ⟨this.1, by omega⟩
  · rcases e with e | e
    · rw [h.le k e]; simp
    · subst e
      rw [h.lb]; simp
  · obtain ⟨l, hl⟩ := Option.ne_none_iff_exists'.1 hk
    by_cases e : l = .ev
    · subst e
      exact (hown' k (relab_same.1 hl)).imp (fun e => by rw [e]; simp) id
    · exact .inl (by rw [(hoth k l e).1 hl]; simp)
end

end Go.Proofs.YtgjpbekmkhanhaaGreat.CH

/-
  The law's turn, walked.
-/
namespace Go.Proofs.YtgjpbekmkhanhaaGreat.CH
open Go.RowKit QW
set_option maxRecDepth 100000

theorem kc_alloc {W : World} {o : Obj} {a : Addr} {x : Value} (h : W.cell? a = some x) : (W.alloc o).cell? a = some x :=
  (((Below.refl _ W).alloc (Nat.le_refl _) o).cell (cell_lt h)).trans h
theorem kc_box {W : World} {o : Obj} {k : Nat} {y : Value} {a : Addr} {x : Value} (h : W.cell? a = some x) : ((W.alloc o).setCell ⟨W.heap.size, k, none⟩ y).cell? a = some x :=
  ((((Below.refl _ W).alloc (Nat.le_refl _) o).setCell (Nat.le_refl _) y).cell (cell_lt h)).trans h

theorem kc_far {W : World} {g k : Nat} {y : Value} {a : Addr} {x : Value} (hg : a.block < g) (h : W.cell? a = some x) : (W.setCell ⟨g, k, none⟩ y).cell? a = some x := by
  rw [World.cell?_setCell_far _ _ _ _ (by show g ≠ a.block; omega)]
  exact h
theorem kc6c {V W : World} {k : Nat} {y : Value} {a0 a1 a2 a3 a4 a5 : Addr} {x0 x1 x2 x3 x4 x5 : Value} (h0 : V.cell? a0 = some x0 ∧ V.cell? a1 = some x1 ∧ V.cell? a2 = some x2 ∧ V.cell? a3 = some x3 ∧ V.cell? a4 = some x4 ∧ V.cell? a5 = some x5) (h : W.cell? a0 = some x0 ∧ W.cell? a1 = some x1 ∧ W.cell? a2 = some x2 ∧ W.cell? a3 = some x3 ∧ W.cell? a4 = some x4 ∧ W.cell? a5 = some x5) : (W.setCell ⟨V.heap.size, k, none⟩ y).cell? a0 = some x0 ∧ (W.setCell ⟨V.heap.size, k, none⟩ y).cell? a1 = some x1 ∧ (W.setCell ⟨V.heap.size, k, none⟩ y).cell? a2 = some x2 ∧ (W.setCell ⟨V.heap.size, k, none⟩ y).cell? a3 = some x3 ∧ (W.setCell ⟨V.heap.size, k, none⟩ y).cell? a4 = some x4 ∧ (W.setCell ⟨V.heap.size, k, none⟩ y).cell? a5 = some x5 := ⟨kc_far (cell_lt (h0.1)) (h.1), kc_far (cell_lt (h0.2.1)) (h.2.1), kc_far (cell_lt (h0.2.2.1)) (h.2.2.1), kc_far (cell_lt (h0.2.2.2.1)) (h.2.2.2.1), kc_far (cell_lt (h0.2.2.2.2.1)) (h.2.2.2.2.1), kc_far (cell_lt (h0.2.2.2.2.2)) (h.2.2.2.2.2)⟩
theorem kc6a {W : World} {o : Obj} {a0 a1 a2 a3 a4 a5 : Addr} {x0 x1 x2 x3 x4 x5 : Value} (h : W.cell? a0 = some x0 ∧ W.cell? a1 = some x1 ∧ W.cell? a2 = some x2 ∧ W.cell? a3 = some x3 ∧ W.cell? a4 = some x4 ∧ W.cell? a5 = some x5) : (W.alloc o).cell? a0 = some x0 ∧ (W.alloc o).cell? a1 = some x1 ∧ (W.alloc o).cell? a2 = some x2 ∧ (W.alloc o).cell? a3 = some x3 ∧ (W.alloc o).cell? a4 = some x4 ∧ (W.alloc o).cell? a5 = some x5 := ⟨kc_alloc h.1, kc_alloc h.2.1, kc_alloc h.2.2.1, kc_alloc h.2.2.2.1, kc_alloc h.2.2.2.2.1, kc_alloc h.2.2.2.2.2⟩
theorem kc6b {W : World} {o : Obj} {a0 a1 a2 a3 a4 a5 : Addr} {x0 x1 x2 x3 x4 x5 : Value} {k : Nat} {y : Value} (h : W.cell? a0 = some x0 ∧ W.cell? a1 = some x1 ∧ W.cell? a2 = some x2 ∧ W.cell? a3 = some x3 ∧ W.cell? a4 = some x4 ∧ W.cell? a5 = some x5) : ((W.alloc o).setCell ⟨W.heap.size, k, none⟩ y).cell? a0 = some x0 ∧ ((W.alloc o).setCell ⟨W.heap.size, k, none⟩ y).cell? a1 = some x1 ∧ ((W.alloc o).setCell ⟨W.heap.size, k, none⟩ y).cell? a2 = some x2 ∧ ((W.alloc o).setCell ⟨W.heap.size, k, none⟩ y).cell? a3 = some x3 ∧ ((W.alloc o).setCell ⟨W.heap.size, k, none⟩ y).cell? a4 = some x4 ∧ ((W.alloc o).setCell ⟨W.heap.size, k, none⟩ y).cell? a5 = some x5 := ⟨kc_box h.1, kc_box h.2.1, kc_box h.2.2.1, kc_box h.2.2.2.1, kc_box h.2.2.2.2.1, kc_box h.2.2.2.2.2⟩

/-- A slice of things that a task does, as it is read; Pb: the blocks that it lies in; nc: how many channels there are. -/
structure Dos (Pb : Nat → Prop) (nc : Nat) (w : World) (a : Option Addr) (n cap : Nat) (ds : List Dop) : Prop where
  len : ds.length = n
  le : n ≤ cap
  reach : cap ≤ 9223372036854775807
  c : ∀ d ∈ ds, 0 ≤ d.c ∧ d.c < nc ∧ d.kind ≠ 5
  lies : 0 < n → ∃ b off, Pb b ∧ a = some ⟨b, off, none⟩ ∧ ∀ k d, ds[k]? = some d → w.cell? ⟨b, off + k * 5, none⟩ = some (.int .i64 d.kind) ∧ w.cell? ⟨b, off + k * 5 + 1, none⟩ = some (.int .i64 d.c) ∧ w.cell? ⟨b, off + k * 5 + 2, none⟩ = some (.int .i64 d.v) ∧ (∃ p q r, w.cell? ⟨b, off + k * 5 + 3, none⟩ = some (.slice p q r)) ∧ ∃ y, w.cell? ⟨b, off + k * 5 + 4, none⟩ = some (.bool y)

/-- A slice of programs, as it is read. -/
structure Pgs (Pb : Nat → Prop) (nc : Nat) (w : World) (a : Option Addr) (n cap : Nat) (ps : List (List Dop)) : Prop where
  len : ps.length = n
  le : n ≤ cap
  reach : cap ≤ 9223372036854775807
  lies : 0 < n → ∃ b off, Pb b ∧ a = some ⟨b, off, none⟩ ∧ ∀ k, k < n → ∃ a' n' c', w.cell? ⟨b, off + k, none⟩ = some (.slice a' n' c') ∧ Dos Pb nc w a' n' c' (ps.getD k [])

theorem cell?_heap {w w' : World} {b off : Nat} (h : w'.heap[b]? = w.heap[b]?) : w'.cell? ⟨b, off, none⟩ = w.cell? ⟨b, off, none⟩ := by
  unfold World.cell?
  simp only [h]

section
variable {Pb S : Nat → Prop} {w w' : World} {a : Option Addr} {n nc cap : Nat}
theorem Dos.keep {ds : List Dop} (h : Dos Pb nc w a n cap ds) (hk : ∀ k, Pb k → w'.heap[k]? = w.heap[k]?) : Dos Pb nc w' a n cap ds := by
  have hc : ∀ {b off : Nat}, Pb b → w'.cell? ⟨b, off, none⟩ = w.cell? ⟨b, off, none⟩ := fun hb => cell?_heap (hk _ hb)
  refine ⟨h.len, h.le, h.reach, h.c, fun hn => ?_⟩
  obtain ⟨b, off, hP, ha, hcs⟩ := h.lies hn
  refine ⟨b, off, hP, ha, fun k d hd => ?_⟩
  rw [hc hP, hc hP, hc hP, hc hP, hc hP]
  exact hcs k d hd
theorem Pgs.keep {ps : List (List Dop)} (h : Pgs Pb nc w a n cap ps) (hk : ∀ k, Pb k → w'.heap[k]? = w.heap[k]?) : Pgs Pb nc w' a n cap ps := by
  have hc : ∀ {b off : Nat}, Pb b → w'.cell? ⟨b, off, none⟩ = w.cell? ⟨b, off, none⟩ := fun hb => cell?_heap (hk _ hb)
  refine ⟨h.len, h.le, h.reach, fun hn => ?_⟩
  obtain ⟨b, off, hP, ha, hcs⟩ := h.lies hn
  refine ⟨b, off, hP, ha, fun k hkn => ?_⟩
  obtain ⟨a', n', c', h1, h2⟩ := hcs k hkn
  exact ⟨a', n', c', by rw [hc hP]; exact h1, h2.keep hk⟩
end

section
variable {w w' : World} {L B : Nat} {pv cv tvv : Value} {R : Nat} {zs : List Zc} {bs : List Nat} {m m' : Nat} {σ σ' : Sg} {run : Option Nat} {left : Nat} {lab lab' : Lb}

/-- A running task's place is turned. -/
theorem Wd.bump (h : Wd w L B pv cv tvv R zs bs m σ run left lab) {i : Nat} {p q : Pt} (hp : σ.tk[i]? = some p) (h2 : p.st = 2) (h3 : q.st = 2) : Wd w L B pv cv tvv R zs bs m (σ.put i q) run left lab := by
  obtain ⟨ev, a, s, A, K, h, hq⟩ := h.ex
  have hnw : i ∉ σ.wts := fun e => by
    have := (h.ok.st3 e).1
    rw [p_of hp, h2] at this
    cases this
  have hg := fun k => put_get hp q k
  refine ⟨ev, a, s, A, K, ⟨h.blk, h.rt, h.cr, h.tr, h.er, h.lr, h.lq, h.lb, h.le, h.lc, h.lt, h.lo, h.ch, h.cn, h.ha, h.ln, by simpa [Sg.put] using h.len, fun k t o ht ho => ?_, h.ok.puts hnw rfl (by simp [Sg.put]) (fun k hk => ?_)⟩, hq⟩
  · rw [hg] at ho
    by_cases e : k = i
    · subst e
      rw [if_pos rfl] at ho
      cases ho
      have h4 := h.cl k t p ht hp
      exact ⟨by omega, fun e => by omega, fun e => by omega, fun _ => h4.r2 h2, fun e => by omega⟩
    · rw [if_neg e] at ho
      exact h.cl k t o ht ho
  · have := hg k
    rw [if_neg hk] at this
    simp [Sg.p, List.getD, this]

theorem Wd.blk (h : Wd w L B pv cv tvv R zs bs m σ run left lab) : ∃ ev, w.heap[B]? = some (.cells #[.pointer (some ⟨R, 0, none⟩), pv, cv, tvv, ev, .bool false] (36 : TypeId) (0, 0)) ∧ lab B = some .b := by
  obtain ⟨ev, a, s, A, K, hw, q1, _⟩ := h.ex
  exact ⟨ev, by rw [← q1]; exact hw.blk, hw.lb⟩
theorem Wd.jlt (h : Wd w L B pv cv tvv R zs bs m σ run left lab) {j : Nat} (hj : j < zs.length) : j < σ.ch.length := by
  obtain ⟨ev, a, s, A, K, hw, _⟩ := h.ex
  rw [← hw.cn]
  exact hj
/-- A channel's pointer among the world's channels. -/
theorem Wd.chan (h : Wd w L B pv cv tvv R zs bs m σ run left lab) {j : Nat} (hj : j < zs.length) : ∃ cg cc, cv = .slice (some ⟨cg, 0, none⟩) zs.length cc ∧ zs.length ≤ cc ∧ cc ≤ 9223372036854775807 ∧ w.cell? ⟨cg, j, none⟩ = some (.pointer (some ⟨(zs[j]).C, 0, none⟩)) := by
  obtain ⟨ev, a, s, A, K, h, _⟩ := h.ex
  have hr := h.cr
  rcases hr.2 with ⟨_, e⟩ | ⟨g, cap, cur, e, hb, hg, hnc, hcm, _⟩
  · omega
  · unfold maxLen at hcm
    have hcell := h.cr.cells (g := g) (by rw [e]; rfl) j (.pointer (some ⟨(zs[j]).C, 0, none⟩)) (by simp [hj])
    rw [Addr.add_lit, Nat.zero_add] at hcell
    exact ⟨g, cap, e, hnc, by omega, hcell⟩
theorem Bx.keep {F F' : Nat → Prop} {h1 h2 h3 h4 nb b i at' : Nat} (x : Bx F w h1 h2 h3 h4 nb B b i at') (hk : Agr F w w') (hs : ∀ k, F k → F' k) : Bx F' w' h1 h2 h3 h4 nb B b i at' :=
  ⟨hs _ x.f1, hs _ x.f2, hs _ x.f3, hs _ x.f4, hs _ x.fn, (hk _ x.f1).trans x.e1, (hk _ x.f2).trans x.e2, (hk _ x.f3).trans x.e3, (hk _ x.f4).trans x.e4, (hk _ x.fn).trans x.en⟩
/-- A block that is nobody's was turned. -/
theorem Wd.turned (h : Wd w L B pv cv tvv R zs bs m σ run left lab) {g : Nat} (t : Tb (fun k => k = g) w w') (hg : lab g = none) (hnt : ∀ f, ¬ Tkt w g f) : Wd w' L B pv cv tvv R zs bs m σ run left lab ∧ ∀ w0 lab0, Wy w0 lab0 w lab → w0.heap.size ≤ g → Wy w0 lab0 w' lab := by
  obtain ⟨ev, a, s, A, K, h, q⟩ := h.ex
  have hl : ∀ k l, lab k = some l → ¬ k = g := fun k l hk e => by
    subst e
    rw [hg] at hk
    cases hk
  have hkv : Kv w A w' A := Kv.tb A t (fun k f ht e => hnt f (e ▸ ht))
  have hz := t.size
  have hb : ∀ k l, lab k = some l → w'.heap[k]? = w.heap[k]? := fun k l hk => t.block k (h.lt' k l hk) (hl k l hk)
  refine ⟨⟨ev, a, s, A, K, ⟨(hb _ _ h.lb).trans h.blk, h.rt.tb t (fun k hk => hk.elim (fun e => hl k _ (h.lr k e)) (fun e => e ▸ hl _ _ h.lq)), row_tb h.cr t (fun k hk => hl k _ (h.lc k hk)), row_tb h.tr t (fun k hk => hl k _ (h.lt k hk)), row_tb h.er t (fun k hk => hl k _ (h.le k hk)), h.lr, h.lq, h.lb, h.le, h.lc, h.lt, fun k l hk => ⟨(h.lo k l hk).1, by have := h.lt' k l hk; omega⟩, fun j z c hz hc => ⟨(h.ch j z c hz hc).1, (h.ch j z c hz hc).2.1, (h.ch j z c hz hc).2.2.same t (fun k hk => hl k _ hk) hkv⟩, h.cn, fun k hk => h.ha k (by omega), h.ln, h.len, fun i u p hu hp => (h.cl i u p hu hp).keep (fun k hk => hb k _ hk) (fun _ h => h) (fun k hk => ⟨hk, hb k _ hk, rfl⟩) h.lt', h.ok⟩, q⟩, fun w0 lab0 hy hg0 => ⟨hy.tb.trans t (fun k hk e => by omega), hy.dm, fun k hk => ⟨(hy.fz k hk).1, (hb k _ (hy.fz k hk).1).trans (hy.fz k hk).2⟩⟩⟩
/-- Nothing new is labelled. -/
theorem Wd.below2 (h : Wd w L B pv cv tvv R zs bs m σ run left lab) (hL : L ≤ w.heap.size) (hb : Below w.heap.size w w') : ∃ lab', Wd w' L B pv cv tvv R zs bs m σ run left lab' ∧ Wy w lab w' lab' ∧ ∀ k, lab k = none → lab' k = none := by
  obtain ⟨h1, h2⟩ := h.boxes hL hb (N := fun _ => False) (fun _ e => e.elim)
  refine ⟨_, h1, h2, fun k hk => ?_⟩
  unfold relab
  simp [hk]
theorem Wd.fresh (h : Wd w L B pv cv tvv R zs bs m σ run left lab) {k : Nat} (hk : w.heap.size ≤ k) : lab k = none := by
  obtain ⟨ev, a, s, A, K, h, q⟩ := h.ex
  exact h.fresh hk
/-- need: nothing was refused. -/
theorem wneed (h : Wd w L B pv cv tvv R zs bs m σ run left lab) (hL : L ≤ w.heap.size) :
    Calls Tryz.prog 97 #[.pointer (some ⟨B, 0, none⟩), .int .i64 0] w fun e w' => e = .returned (.tuple #[]) ∧ ∃ lab', Wd w' L B pv cv tvv R zs bs m σ run left lab' ∧ Wy w lab w' lab' := by
  obtain ⟨ev, hB, hlb⟩ := h.blk
  refine (need_ok hB).mono ?_
  rintro e w' ⟨rfl, hw'⟩
  have t : Tb (fun k => k = B) w (w.setCell ⟨B, 5, none⟩ (.bool false)) := Tb.set B 5 _ rfl
  have hBB : (w.setCell ⟨B, 5, none⟩ (.bool false)).heap[B]? = w.heap[B]? := by
    rw [heap_setCell_same w B 5 _ _ _ hB, hB]
    rfl
  have hb : Below w.heap.size w (w.setCell ⟨B, 5, none⟩ (.bool false)) := (show Tb (fun _ => False) w (w.setCell ⟨B, 5, none⟩ (.bool false)) from ⟨t.os, t.tape, t.output, t.size, fun k hk _ => by
    by_cases e : k = B
    · subst e; exact hBB
    · exact t.block k hk e⟩).below (fun i h => h.elim) (Nat.le_refl _)
  rw [← hw'.out] at hb
  obtain ⟨l2, h2, y2⟩ := h.below hL hb
  exact ⟨rfl, l2, h2, y2⟩
theorem wid (h : Wd w L B pv cv tvv R zs bs m σ run left lab) {i b : Nat} (hb : bs[i]? = some b) : Calls Tryz.prog 95 #[.pointer (some ⟨b, 0, none⟩)] w fun e w' => e = .returned (.int .i64 i) ∧ w' = w := by
  obtain ⟨ev, a, s, A, K, h, q1, q2, q3, q4⟩ := h.ex
  rw [← q2, List.getElem?_map] at hb
  obtain ⟨t, ht, rfl⟩ := Option.map_eq_some_iff.1 hb
  exact id_any h.rt ht
end

end Go.Proofs.YtgjpbekmkhanhaaGreat.CH

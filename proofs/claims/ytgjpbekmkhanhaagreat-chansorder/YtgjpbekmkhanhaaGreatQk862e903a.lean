/-
  The law's turn, walked.
-/
import Derived.Test.YtgjpbekmkhanhaaGreatMx468d338c
import Derived.Deep.RegionHeld3
namespace Go.Proofs.YtgjpbekmkhanhaaGreat.CH
open Go.RowKit QW
set_option maxRecDepth 100000
set_option linter.unusedSimpArgs false

section
variable {P : Program} {ops : Array Oper} {o : Oper} {a : Act} {w w' : World} {K : Act → World → Prop} {Q : Exit → Act → World → Prop} {E : Prop}
theorem step_runw {v : Value} (hw : Region.wanted o (yielded ops a.tmps) = true) (hrun : (execOp a.eval o).run P w = .ok (.value v) w') (hK : K (a.put o.dst v) w') :
    if Region.wanted o (yielded ops a.tmps) = true then Oper.wp P o a w K Q else E := by
  rw [if_pos hw]
  unfold Oper.wp
  rw [hrun]
  exact hK
theorem step_skipw (hw : Region.wanted o (yielded ops a.tmps) = true) (hrun : (execOp a.eval o).run P w = .ok .skip w') (hK : K (a.put o.dst undef) w') :
    if Region.wanted o (yielded ops a.tmps) = true then Oper.wp P o a w K Q else E := by
  rw [if_pos hw]
  unfold Oper.wp
  rw [hrun]
  exact hK
theorem step_callw (hw : Region.wanted o (yielded ops a.tmps) = true) (f : FuncId) (args : Array Value) (hrun : (execOp a.eval o).run P w = .ok (.enter f args) w)
    (hc : Calls P f args w fun e w' => ∃ v, e = .returned v ∧ K (a.put o.dst v) w') : if Region.wanted o (yielded ops a.tmps) = true then Oper.wp P o a w K Q else E := by
  rw [if_pos hw]
  unfold Oper.wp
  rw [hrun, Oper.upon_enter]
  refine hc.mono fun e w' hh => ?_
  obtain ⟨v, rfl, hk⟩ := hh
  exact hk
end

theorem step_bsev {ops : Array Oper} {o : Oper} {a : Act} {w : World} {K : Act → World → Prop} {Q : Exit → Act → World → Prop} {E : Prop} (hw : Region.wanted o (yielded ops a.tmps) = true) (ho : o.op = .buildSlice 34 1 #[(0, .tmp 33)]) (x0 x1 x2 x3 : Int) (x4 : Bool) (hx : a.eval (.tmp 33) = .agg #[.int .i64 x0, .int .i64 x1, .int .i64 x2, .int .i64 x3, .bool x4])
    (h : K (a.put o.dst (.slice (some ⟨w.heap.size, 0, none⟩) 1 1)) (w.alloc (.cells #[.int .i64 x0, .int .i64 x1, .int .i64 x2, .int .i64 x3, .bool x4] (113 : TypeId)))) : if Region.wanted o (yielded ops a.tmps) = true then Oper.wp Tryz.prog o a w K Q else E := by
  rw [if_pos hw]
  obtain ⟨t3, ht3⟩ := Option.map_eq_some_iff.1 infoV
  simp only [Prod.mk.injEq] at ht3
  refine wp_buildSlice 34 (113 : TypeId) 1 _ ho _ t3 _ Tryz.underlying34 ht3.1 ht3.2.1 (by rw [ht3.2.2.1]; decide) (by rw [ht3.2.2.1]; decide) ?_ h
  rw [ht3.2.2.1]
  simp only [List.map_toArray, List.map_cons, List.map_nil, hx]
  rw [show Array.range (1 * 5) = #[0, 1, 2, 3, 4] by decide]
  simp [Instr.fill, Value.cells]

/-- A cell is written as it was. -/
theorem setCell_self {w : World} {b k : Nat} {v : Value} {cs : Array Value} {t : TypeId} (hb : w.heap[b]? = some (.cells cs t (0, 0))) (hc : cs[k]? = some v) : w.setCell ⟨b, k, none⟩ v = w := by
  have hk : k < cs.size := by
    rcases Nat.lt_or_ge k cs.size with h1 | h1
    · exact h1
    · rw [Array.getElem?_eq_none h1] at hc; cases hc
  have hs : cs.setIfInBounds k v = cs := by
    apply Array.ext_getElem?
    intro x
    rw [Array.getElem?_setIfInBounds]
    by_cases ex : k = x
    · subst ex
      rw [if_pos rfl, if_pos hk, hc]
    · rw [if_neg ex]
  have e : w.heap.modify b (fun
      | .cells c elem frozen => .cells (if (none : Option Nat).isSome then c else c.setIfInBounds k v) elem frozen
      | o => o) = w.heap := by
    apply Array.ext_getElem?
    intro i
    rw [Array.getElem?_modify]
    by_cases e : b = i
    · subst e
      rw [if_pos rfl, hb]
      simp [hs]
    · rw [if_neg e]
  unfold World.setCell
  simp only
  show { w with heap := _ } = w
  exact (congrArg (fun h => { w with heap := h }) e)

section
variable {σ : Sg} {i j : Nat} {p : Pt}
/-- What a task that tries is told. -/
theorem try6 (ok : Sok σ) (hp : σ.tk[i]? = some p) (hst : p.st = 2) (hj : j < σ.ch.length) (v : Int) : ∃ (q cn : Bool) (τ : Sg), (q = true → cn = true) ∧ τ.tk[i]? = some p ∧ τ.gets i (0, 0, q) = σ.acts i ⟨6, (j : Int), v⟩ ∧ (if (σ.c j).canS then (σ.send j v).1 else false) = q ∧ (σ.c j).canS = cn ∧ (if (σ.c j).canS then (σ.send j v).2 else σ) = τ := by
  refine ⟨_, _, _, ?_, ?_, ?_, rfl, rfl, rfl⟩
  · split
    · intro _; assumption
    · intro h; cases h
  · split
    · exact send_tk ok hp hst hj v
    · exact hp
  · by_cases h : (σ.c j).canS = true <;> simp [Sg.acts, h]
theorem try7 (ok : Sok σ) (hp : σ.tk[i]? = some p) (hst : p.st = 2) (hj : j < σ.ch.length) (v : Int) : ∃ (x cs : Int) (q cn : Bool) (τ : Sg), (cn = true → cs = 0) ∧ (cn = false → cs = 1) ∧ τ.tk[i]? = some p ∧ τ.gets i (cs, x, q) = σ.acts i ⟨7, (j : Int), v⟩ ∧ (if (σ.c j).canR then (σ.recv j).1 else 0) = x ∧ (if (σ.c j).canR then (σ.recv j).2.1 else false) = q ∧ (σ.c j).canR = cn ∧ (if (σ.c j).canR then (σ.recv j).2.2 else σ) = τ := by
  refine ⟨_, if (σ.c j).canR then 0 else 1, _, _, _, fun h => if_pos h, fun h => if_neg (by rw [h]; simp), ?_, ?_, rfl, rfl, rfl, rfl⟩
  · split
    · exact recv_tk ok hp hst hj
    · exact hp
  · by_cases h : (σ.c j).canR = true <;> simp [Sg.acts, h]
end

section
variable {w w' : World} {L B : Nat} {pv cv tvv : Value} {R : Nat} {zs : List Zc} {bs : List Nat} {m m' : Nat} {σ σ' : Sg} {run : Option Nat} {left : Nat} {lab lab' : Lb} {pa : Option Addr} {np pcap : Nat} {ps : List (List Dop)} {Pb : Nat → Prop}

/-- What a turn leaves. -/
def Tn (w : World) (lab : Lb) (L B : Nat) (pv cv tvv : Value) (R : Nat) (zs : List Zc) (bs : List Nat) (m : Nat) (σ : Sg) (run : Option Nat) (left : Nat) (w' : World) : Prop := ∃ lab', Wd w' L B pv cv tvv R zs bs m σ run left lab' ∧ Wy w lab w' lab'

set_option maxHeartbeats 8000000 in
theorem wturn {i b at' : Nat} {td : Tld} (h : Wd w L B (.slice pa np pcap) cv tvv R zs bs m σ (some i) left lab) (hL : L ≤ w.heap.size) (hP : Pgs Pb zs.length w pa np pcap ps) (hPl : ∀ k, Pb k → lab k = none ∧ k < w.heap.size) (hb : bs[i]? = some b) (hp : σ.tk[i]? = some ⟨at', 2, td, false⟩) (hin : i < np) (hat : at' ≤ 1000000) (hev : σ.ev.length ≤ 1000000) (hm : m + 1 < Mx) {d : Dop} (hd : d = (ps.getD i []).getD at' ⟨0, 0, 0⟩) :
    Calls Tryz.prog 56 (targs B b i at' td) w fun e w' => e = .returned (.tuple #[]) ∧ Tn w lab L B (.slice pa np pcap) cv tvv R zs bs (m + 1) (((σ.note i).put i ⟨at' + 1, 2, td, false⟩).acts i d) (some i) left w' := by
  obtain ⟨tc, tval, tok⟩ := td
  -- the five variables
  obtain ⟨W1, hW1⟩ : ∃ W1, Hid (W1 = w.alloc (.cells #[.pointer (some ⟨B, 0, none⟩)] (27 : TypeId))) := ⟨_, hide rfl⟩
  have b1 : Below w.heap.size w W1 := by rw [hW1.out]; exact (Below.refl _ w).alloc (Nat.le_refl _) _
  have s1 : W1.heap.size = w.heap.size + 1 := by rw [hW1.out]; simp
  obtain ⟨W2, hW2⟩ : ∃ W2, Hid (W2 = W1.alloc (.cells #[.pointer (some ⟨b, 0, none⟩)] (60 : TypeId))) := ⟨_, hide rfl⟩
  have b2 : Below W1.heap.size W1 W2 := by rw [hW2.out]; exact (Below.refl _ W1).alloc (Nat.le_refl _) _
  have s2 : W2.heap.size = W1.heap.size + 1 := by rw [hW2.out]; simp
  obtain ⟨W3, hW3⟩ : ∃ W3, Hid (W3 = W2.alloc (.cells #[.int .i64 i] 3)) := ⟨_, hide rfl⟩
  have b3 : Below W2.heap.size W2 W3 := by rw [hW3.out]; exact (Below.refl _ W2).alloc (Nat.le_refl _) _
  have s3 : W3.heap.size = W2.heap.size + 1 := by rw [hW3.out]; simp
  obtain ⟨W4, hW4⟩ : ∃ W4, Hid (W4 = W3.alloc (.cells #[.int .i64 at'] 3)) := ⟨_, hide rfl⟩
  have b4 : Below W3.heap.size W3 W4 := by rw [hW4.out]; exact (Below.refl _ W3).alloc (Nat.le_refl _) _
  have s4 : W4.heap.size = W3.heap.size + 1 := by rw [hW4.out]; simp
  obtain ⟨W5, hW5⟩ : ∃ W5, Hid (W5 = W4.alloc (.cells #[.int .i64 tc, .int .i64 tval, .bool tok] (116 : TypeId))) := ⟨_, hide rfl⟩
  have b5 : Below W4.heap.size W4 W5 := by rw [hW5.out]; exact (Below.refl _ W4).alloc (Nat.le_refl _) _
  have s5 : W5.heap.size = W4.heap.size + 1 := by rw [hW5.out]; simp
  have bw5 : Below w.heap.size w W5 := b1.trans ((b2.trans ((b3.trans ((b4.trans (b5.mono (by omega))).mono (by omega))).mono (by omega))).mono (by omega))
  obtain ⟨V5, hV5⟩ : ∃ V5, V5 = W5.drew := ⟨_, rfl⟩
  have bV : Below W5.heap.size W5 V5 := by rw [hV5]; exact (Below.refl _ W5).drew
  have bwV : Below w.heap.size w V5 := bw5.trans (bV.mono (by omega))
  have sV : V5.heap.size = W5.heap.size := by rw [hV5]; rfl
  have e1 : V5.heap[w.heap.size]? = some (.cells #[.pointer (some ⟨B, 0, none⟩)] (27 : TypeId) (0, 0)) := by
    rw [bV.block _ (by omega), b5.block _ (by omega), b4.block _ (by omega), b3.block _ (by omega), b2.block _ (by omega), hW1.out]; exact heap_alloc_new w _
  have e2 : V5.heap[W1.heap.size]? = some (.cells #[.pointer (some ⟨b, 0, none⟩)] (60 : TypeId) (0, 0)) := by
    rw [bV.block _ (by omega), b5.block _ (by omega), b4.block _ (by omega), b3.block _ (by omega), hW2.out]; exact heap_alloc_new W1 _
  have e3 : V5.heap[W2.heap.size]? = some (.cells #[.int .i64 i] 3 (0, 0)) := by
    rw [bV.block _ (by omega), b5.block _ (by omega), b4.block _ (by omega), hW3.out]; exact heap_alloc_new W2 _
  have e4 : V5.heap[W3.heap.size]? = some (.cells #[.int .i64 at'] 3 (0, 0)) := by
    rw [bV.block _ (by omega), b5.block _ (by omega), hW4.out]; exact heap_alloc_new W3 _
  have e5 : V5.heap[W4.heap.size]? = some (.cells #[.int .i64 tc, .int .i64 tval, .bool tok] (116 : TypeId) (0, 0)) := by
    rw [bV.block _ (by omega), hW5.out]; exact heap_alloc_new W4 _
  obtain ⟨h1, hh1⟩ : ∃ h1, Hid (w.heap.size = h1) := ⟨_, hide rfl⟩
  obtain ⟨h2, hh2⟩ : ∃ h2, Hid (W1.heap.size = h2) := ⟨_, hide rfl⟩
  obtain ⟨h3, hh3⟩ : ∃ h3, Hid (W2.heap.size = h3) := ⟨_, hide rfl⟩
  obtain ⟨h4, hh4⟩ : ∃ h4, Hid (W3.heap.size = h4) := ⟨_, hide rfl⟩
  obtain ⟨h5, hh5⟩ : ∃ h5, Hid (W4.heap.size = h5) := ⟨_, hide rfl⟩
  obtain ⟨ne, hne⟩ : ∃ ne, Hid (W5.heap.size = ne) := ⟨_, hide rfl⟩
  rw [hh1.out] at e1
  rw [hh2.out] at e2
  rw [hh3.out] at e3
  rw [hh4.out] at e4
  rw [hh5.out] at e5
  obtain ⟨wd5, wy5⟩ := h.boxes hL bwV (N := fun k => k = h1 ∨ k = h2 ∨ k = h3 ∨ k = h4 ∨ k = h5) (fun k hk => by have := hh1.out; have := hh2.out; have := hh3.out; have := hh4.out; have := hh5.out; omega)
  have fz5 : ∀ k, (k = h1 ∨ k = h2 ∨ k = h3 ∨ k = h4 ∨ k = h5) → relab lab .fz (fun k => lab k = some .fz ∨ (k = h1 ∨ k = h2 ∨ k = h3 ∨ k = h4 ∨ k = h5)) k = some .fz := fun k hk => relab_same.2 (.inr hk)
  generalize relab lab .fz (fun k => lab k = some .fz ∨ (k = h1 ∨ k = h2 ∨ k = h3 ∨ k = h4 ∨ k = h5)) = lab5 at *
  have hL5 : L ≤ V5.heap.size := by omega
  have CI := wid wd5 hb
  obtain ⟨ea, ecap, v6, X6, n4, nrun, nfr, nce, n1c, ⟨p6, n6, c6, hv6⟩, nX, nZ, lab6, wd6, wy6⟩ := noted wd5 hL5 hev i
  subst hv6
  rw [p_of hp] at nrun
  simp only [evc] at nrun
  rw [show V5.heap.size = ne by rw [sV]; exact hne.out] at nrun
  have cellV : ∀ {V : World} {k : Nat} {y : Value} {t : TypeId}, V.heap[k]? = some (.cells #[y] t (0, 0)) → V.cell? ⟨k, 0, none⟩ = some y := fun hc => cell_of_row _ _ 0 _ _ _ hc
  have SS : ∀ {V : World}, (∀ k, lab5 k = some .fz → V.heap[k]? = V5.heap[k]?) → V.cell? ⟨h1, 0, none⟩ = some (.pointer (some ⟨B, 0, none⟩)) ∧ V.cell? ⟨h2, 0, none⟩ = some (.pointer (some ⟨b, 0, none⟩)) ∧ V.cell? ⟨h4, 0, none⟩ = some (.int .i64 at') ∧ V.cell? ⟨h5, 0, none⟩ = some (.int .i64 tc) ∧ V.cell? ⟨h5, 1, none⟩ = some (.int .i64 tval) ∧ V.cell? ⟨h5, 2, none⟩ = some (.bool tok) := fun hk => by
    have r5 := (hk h5 (fz5 _ (by simp))).trans e5
    exact ⟨cellV ((hk h1 (fz5 _ (by simp))).trans e1), cellV ((hk h2 (fz5 _ (by simp))).trans e2), cellV ((hk h4 (fz5 _ (by simp))).trans e4), cell_of_row _ _ 0 _ _ _ r5, cell_of_row _ _ 1 _ _ _ r5, cell_of_row _ _ 2 _ _ _ r5⟩
  obtain ⟨Y5, hY5⟩ : ∃ Y5, Y5 = V5.alloc (.cells #[.int .i64 i, .int .i64 at', .int .i64 tc, .int .i64 tval, .bool tok] (113 : TypeId)) := ⟨_, rfl⟩
  obtain ⟨Z6, hZ6⟩ : ∃ Z6, Z6 = X6.setCell ⟨B, 4, none⟩ (.slice p6 n6 c6) := ⟨_, rfl⟩
  have s0 := SS (V := V5) (fun _ _ => rfl)
  have s1' := SS (V := Y5) (fun k hk => by rw [hY5]; exact heap_alloc_old _ _ (wd5.lt k _ hk))
  have s2' := SS (V := X6) nX
  have s3' := SS (V := Z6) (fun k hk => by rw [hZ6]; exact nZ k hk)
  rw [← hZ6] at wd6 wy6
  have e4w := n4
  have e4y : Y5.cell? ⟨B, 4, none⟩ = some (.slice ea σ.ev.length ecap) := by
    rw [hY5]
    exact (((Below.refl _ V5).alloc (Nat.le_refl _) _).cell (cell_lt n4)).trans n4
  obtain ⟨nev, hnev⟩ : ∃ nev, Hid (nev = σ.ev.length) := ⟨_, hide rfl⟩
  rw [← hnev.out] at e4w e4y nrun nce
  rw [← hY5] at nrun
  -- behind the event: what is to be done
  have wy06 := wy5.trans wy6
  have rowP : ∀ k, Pb k → Z6.heap[k]? = w.heap[k]? := fun k hk => (wy06.row (hPl k hk).1 (hPl k hk).2).1
  have hPZ := hP.keep rowP
  obtain ⟨pb, po, hPb, hpa, hcp⟩ := hPZ.lies (by omega)
  obtain ⟨da, dn, dc, kp, kd⟩ := hcp i hin
  subst hpa
  have hpl : Pgs Pb zs.length Z6 (some ⟨pb, po, none⟩) np pcap ps := hPZ
  have hpr1 := hpl.le
  have hpr2 := hpl.reach
  have hdr1 := kd.le
  have hdr2 := kd.reach
  obtain ⟨evB, hBZ, hBl⟩ := wd6.blk
  have k6 : ∀ {k : Nat} {o : Obj}, lab5 k = some .fz → V5.heap[k]? = some o → Z6.heap[k]? = some o := fun hk ho => by rw [hZ6]; exact (nZ _ hk).trans ho
  have g1 := k6 (fz5 h1 (by simp)) e1
  have g2 := k6 (fz5 h2 (by simp)) e2
  have g3 := k6 (fz5 h3 (by simp)) e3
  have g4 := k6 (fz5 h4 (by simp)) e4
  have HS : Hid (∀ V, Below Z6.heap.size Z6 V → V.cell? ⟨h1, 0, none⟩ = some (.pointer (some ⟨B, 0, none⟩)) ∧ V.cell? ⟨h3, 0, none⟩ = some (.int .i64 i) ∧ V.cell? ⟨h4, 0, none⟩ = some (.int .i64 at') ∧ V.cell? ⟨B, 1, none⟩ = some (.slice (some ⟨pb, po, none⟩) np pcap) ∧ V.cell? ⟨pb, po + i, none⟩ = some (.slice da dn dc)) := hide (fun V hV => ⟨cellV ((hV.block _ (heap_lt g1)).trans g1), cellV ((hV.block _ (heap_lt g3)).trans g3), cellV ((hV.block _ (heap_lt g4)).trans g4), cell_of_row _ _ 1 _ _ _ ((hV.block _ (heap_lt hBZ)).trans hBZ), (hV.cell (cell_lt kp)).trans kp⟩)
  have hno : Hid (dn ≤ at' → d = ⟨0, 0, 0⟩) := hide (fun hle => by
    rw [hd]
    have := kd.len
    simp [List.getD, List.getElem?_eq_none (show ((ps[i]?).getD []).length ≤ at' by simpa [List.getD] using (by omega : (ps.getD i []).length ≤ at'))])
  have hyes : Hid (at' < dn → ∃ db dof sp sn sc y j, da = some ⟨db, dof, none⟩ ∧ d.c = ((j : Nat) : Int) ∧ j < zs.length ∧ d.kind ≠ 5 ∧ Hid (∀ V, Below Z6.heap.size Z6 V → V.cell? ⟨db, dof + at' * 5, none⟩ = some (.int .i64 d.kind) ∧ V.cell? ⟨db, dof + at' * 5 + 1, none⟩ = some (.int .i64 d.c) ∧ V.cell? ⟨db, dof + at' * 5 + 2, none⟩ = some (.int .i64 d.v) ∧ V.cell? ⟨db, dof + at' * 5 + 3, none⟩ = some (.slice sp sn sc) ∧ V.cell? ⟨db, dof + at' * 5 + 4, none⟩ = some (.bool y))) := hide (fun hlt => by
    obtain ⟨db, dof, _, hda, hcc⟩ := kd.lies (by omega)
    have hl2 : at' < (ps.getD i []).length := by rw [kd.len]; exact hlt
    have hg : (ps.getD i [])[at']? = some d := by
      rw [hd, List.getElem?_eq_getElem hl2]
      generalize ps.getD i [] = l at hl2
      simp [List.getD, List.getElem?_eq_getElem hl2]
    obtain ⟨c0, c1, c2, ⟨sp, sn, sc, c3⟩, y, c4⟩ := hcc at' d hg
    obtain ⟨i1, i2, i3⟩ := kd.c d (List.mem_of_getElem? hg)
    obtain ⟨j, hj⟩ := Int.eq_ofNat_of_zero_le i1
    exact ⟨db, dof, sp, sn, sc, y, j, hda, hj, by omega, i3, hide (fun V hV => ⟨(hV.cell (cell_lt c0)).trans c0, (hV.cell (cell_lt c1)).trans c1, (hV.cell (cell_lt c2)).trans c2, (hV.cell (cell_lt c3)).trans c3, (hV.cell (cell_lt c4)).trans c4⟩)⟩)
  have hp6 : (σ.note i).tk[i]? = some ⟨at', 2, (tc, tval, tok), false⟩ := hp
  have wdb := wd6.bump hp6 (q := ⟨at' + 1, 2, (tc, tval, tok), false⟩) rfl rfl
  have hpq : ((σ.note i).put i ⟨at' + 1, 2, (tc, tval, tok), false⟩).tk[i]? = some ⟨at' + 1, 2, (tc, tval, tok), false⟩ := by
    have := put_get hp6 ⟨at' + 1, 2, (tc, tval, tok), false⟩ i
    rwa [if_pos rfl] at this
  have l6 : ∀ k, (k = h1 ∨ k = h2 ∨ k = h3 ∨ k = h4 ∨ k = h5) → lab6 k = some .fz := fun k hk => (wy6.fz k (fz5 k hk)).1
  have hL6 : L ≤ Z6.heap.size := Nat.le_trans hL wy06.tb.size
  -- the functions' box
  have HX : Hid (∀ (X : World) (dv nb : Nat) (sl bo : Value), Below Z6.heap.size Z6 X → Z6.heap.size ≤ dv → X.heap[dv]? = some (.cells #[.int .i64 d.kind, .int .i64 d.c, .int .i64 d.v, sl, bo] (111 : TypeId) (0, 0)) → Z6.heap.size ≤ nb → X.heap[nb]? = some (.cells #[.func (.func 96) #[] #[.pointer (some ⟨h1, 0, none⟩), .pointer (some ⟨h2, 0, none⟩), .pointer (some ⟨h3, 0, none⟩), .pointer (some ⟨h4, 0, none⟩)]] (146 : TypeId) (0, 0)) →
      ∃ lab7, Wd X L B (.slice (some ⟨pb, po, none⟩) np pcap) cv tvv R zs bs m ((σ.note i).put i ⟨at' + 1, 2, (tc, tval, tok), false⟩) (some i) left lab7 ∧ Wy w lab X lab7 ∧ Bx (Fz lab7) X h1 h2 h3 h4 nb B b i at' ∧ lab7 dv = some .fz) := hide (fun X dv nb sl bo hb hdv hD hnb hN => by
    obtain ⟨w7, y7⟩ := wdb.boxes hL6 hb (N := fun k => k = dv ∨ k = nb) (fun k hk => by
      rcases hk with rfl | rfl
      · exact ⟨hdv, heap_lt hD⟩
      · exact ⟨hnb, heap_lt hN⟩)
    have q : ∀ {k : Nat} {o : Obj}, Z6.heap[k]? = some o → X.heap[k]? = some o := fun ho => (hb.block _ (heap_lt ho)).trans ho
    exact ⟨_, w7, wy06.trans y7, ⟨(y7.fz _ (l6 _ (by simp))).1, (y7.fz _ (l6 _ (by simp))).1, (y7.fz _ (l6 _ (by simp))).1, (y7.fz _ (l6 _ (by simp))).1, relab_same.2 (.inr (.inr rfl)), q g1, q g2, q g3, q g4, hN⟩, relab_same.2 (.inr (.inl rfl))⟩)
  obtain ⟨σ1, hσ1⟩ : ∃ σ1, Hid (σ1 = (σ.note i).put i ⟨at' + 1, 2, (tc, tval, tok), false⟩) := ⟨_, hide rfl⟩
  rw [← hσ1.out] at hpq HX ⊢
  have Hpq := hide hpq
  obtain ⟨Pn, hPn⟩ : ∃ P : World → Prop, Hid (P = Tn w lab L B (.slice (some ⟨pb, po, none⟩) np pcap) cv tvv R zs bs (m + 1) (σ1.acts i d) (some i) left) := ⟨_, hide rfl⟩
  rw [← hPn.out]
  have Hb := hide hb
  have Hat := hide hat
  have Hm := hide hm
  have HL := hide hL
  have HY5 := hide hY5
  have HZ6 := hide hZ6
  rw [hV5] at s0 CI e4w HY5
  have hnw : W5.drew.heap.size = ne := hne.out
  unfold targs tv
  go_enter Tryz.func56, Tryz.ntmps56
  have z2 : h1 + 1 = h2 := by have := hh1.out; have := hh2.out; omega
  have z3 : h2 + 1 = h3 := by have := hh3.out; have := hh2.out; omega
  have z4 : h3 + 1 = h4 := by have := hh3.out; have := hh4.out; omega
  have z5 : h4 + 1 = h5 := by have := hh4.out; have := hh5.out; omega
  have Z2 := hide z2
  have Z3 := hide z3
  have Z4 := hide z4
  have Z5 := hide z5
  clear z2 z3 z4 z5
  go_wp2_with (rw [← hW1.out, hh1.out])
  rw [← hW2.out, ← hW3.out, ← hW4.out, ← hW5.out]
  simp only [hh1.out, Z2.out, Z3.out, Z4.out, Z5.out]
  rename_i Q9 K9 hK9
  suffices HC : Exit.then K9 Q9 Exit.normal { tmps := #[.pointer (some ⟨B, 0, none⟩), .pointer (some ⟨b, 0, none⟩), .int .i64 i, .int .i64 at', .agg #[.int .i64 tc, .int .i64 tval, .bool tok], .pointer (some ⟨h1, 0, none⟩), .pointer (some ⟨h2, 0, none⟩), .pointer (some ⟨h3, 0, none⟩), .pointer (some ⟨h4, 0, none⟩), .pointer (some ⟨h5, 0, none⟩), undef, undef, undef, undef, undef, undef, undef, undef, undef, .pointer (some ⟨B, 0, none⟩), .pointer (some ⟨B, 0, none⟩), .pointer (some ⟨B, 0, none⟩), .pointer (some ⟨B, 4, none⟩), .slice ea nev ecap, .pointer (some ⟨b, 0, none⟩), .int .i64 i, .int .i64 at', .pointer (some ⟨h5, 0, none⟩), .int .i64 tc, .pointer (some ⟨h5, 1, none⟩), .int .i64 tval, .pointer (some ⟨h5, 2, none⟩), .bool tok, .agg #[.int .i64 i, .int .i64 at', .int .i64 tc, .int .i64 tval, .bool tok], .slice (some ⟨ne, 0, none⟩) 1 1, .slice p6 n6 c6, .pointer (some ⟨B, 0, none⟩), .pointer (some ⟨B, 4, none⟩), undef, undef, undef, undef, undef, undef, undef, undef, undef, undef, undef, undef, undef, undef, undef, undef, undef, undef, undef, undef, undef, undef, undef, undef, undef, undef, undef, undef, undef, undef, undef, undef, undef, undef, undef, undef, undef, undef, undef, undef, undef, undef, undef, undef, undef, undef, undef, undef, undef, undef, undef, undef, undef, undef, undef, undef, undef, undef, undef, undef, undef, undef, undef, undef, undef, undef, undef, undef, undef, undef, undef, undef, undef, undef, undef, undef, undef, undef, undef, undef, undef, undef, undef, undef, undef, undef, undef, undef, undef, undef, undef, undef, undef, undef, undef, undef, undef, undef, undef, undef, undef, undef, undef, undef, undef, undef, undef, undef, undef, undef, undef, undef, undef, undef, undef, undef, undef, undef, undef, undef, undef, undef, undef, undef, undef, undef, undef, undef, undef, undef, undef, undef, undef, undef, undef, undef, undef, undef, undef, undef], defers := [] } Z6 by
    refine wp_region_held_drew (S := (fun V => V.cell? ⟨h1, 0, none⟩ = some (.pointer (some ⟨B, 0, none⟩)) ∧ V.cell? ⟨h2, 0, none⟩ = some (.pointer (some ⟨b, 0, none⟩)) ∧ V.cell? ⟨h4, 0, none⟩ = some (.int .i64 at') ∧ V.cell? ⟨h5, 0, none⟩ = some (.int .i64 tc) ∧ V.cell? ⟨h5, 1, none⟩ = some (.int .i64 tval) ∧ V.cell? ⟨h5, 2, none⟩ = some (.bool tok))) (by kernel_rfl) s0 (fun hHeld => ?_)
    try simp only [List.size_toArray, List.length_cons, List.length_nil, Nat.reduceAdd]
    refine wpAnyH_take (i := 0) (v := (.pointer (some ⟨B, 0, none⟩))) rfl (by kernel_rfl) (by kernel_rfl) (by kernel_rfl) (fun _ _ _ h => h) (Or.inl ⟨by rfl, ?hy⟩) hHeld ?_
    case hy => (intro V hV; obtain ⟨hV1, hV2, hV3, hV4, hV5, hV6⟩ := hV; go_simp <;> first | done | rfl | (try simp_all; done) | omega)
    try simp only [Act.put, List.getElem_toArray, List.getElem_cons_succ, List.getElem_cons_zero, List.setIfInBounds_toArray, List.set_cons_succ, List.set_cons_zero]
    refine wpAnyH_take (i := 1) (v := (.pointer (some ⟨B, 0, none⟩))) rfl (by kernel_rfl) (by kernel_rfl) (by kernel_rfl) (fun _ _ _ h => h) (Or.inl ⟨by rfl, ?hy⟩) hHeld ?_
    case hy => (intro V hV; obtain ⟨hV1, hV2, hV3, hV4, hV5, hV6⟩ := hV; go_simp <;> first | done | rfl | (try simp_all; done) | omega)
    try simp only [Act.put, List.getElem_toArray, List.getElem_cons_succ, List.getElem_cons_zero, List.setIfInBounds_toArray, List.set_cons_succ, List.set_cons_zero]
    refine wpAnyH_take (i := 2) (v := (.pointer (some ⟨B, 0, none⟩))) rfl (by kernel_rfl) (by kernel_rfl) (by kernel_rfl) (fun _ _ _ h => h) (Or.inl ⟨by rfl, ?hy⟩) hHeld ?_
    case hy => (intro V hV; obtain ⟨hV1, hV2, hV3, hV4, hV5, hV6⟩ := hV; go_simp <;> first | done | rfl | (try simp_all; done) | omega)
    try simp only [Act.put, List.getElem_toArray, List.getElem_cons_succ, List.getElem_cons_zero, List.setIfInBounds_toArray, List.set_cons_succ, List.set_cons_zero]
    refine wpAnyH_take (i := 3) (v := (.pointer (some ⟨B, 4, none⟩))) rfl (by kernel_rfl) (by kernel_rfl) (by kernel_rfl) (fun _ _ _ h => h) (Or.inl ⟨by rfl, ?hy⟩) hHeld ?_
    case hy => (intro V hV; obtain ⟨hV1, hV2, hV3, hV4, hV5, hV6⟩ := hV; go_simp <;> first | done | rfl | (try simp_all; done) | omega)
    try simp only [Act.put, List.getElem_toArray, List.getElem_cons_succ, List.getElem_cons_zero, List.setIfInBounds_toArray, List.set_cons_succ, List.set_cons_zero]
    refine wpAnyH_take (i := 5) (v := (.pointer (some ⟨b, 0, none⟩))) rfl (by kernel_rfl) (by kernel_rfl) (by kernel_rfl) (fun _ _ _ h => h) (Or.inl ⟨by rfl, ?hy⟩) hHeld ?_
    case hy => (intro V hV; obtain ⟨hV1, hV2, hV3, hV4, hV5, hV6⟩ := hV; go_simp <;> first | done | rfl | (try simp_all; done) | omega)
    try simp only [Act.put, List.getElem_toArray, List.getElem_cons_succ, List.getElem_cons_zero, List.setIfInBounds_toArray, List.set_cons_succ, List.set_cons_zero]
    refine wpAnyH_take (i := 7) (v := (.int .i64 at')) rfl (by kernel_rfl) (by kernel_rfl) (by kernel_rfl) (fun _ _ _ h => h) (Or.inl ⟨by rfl, ?hy⟩) hHeld ?_
    case hy => (intro V hV; obtain ⟨hV1, hV2, hV3, hV4, hV5, hV6⟩ := hV; go_simp <;> first | done | rfl | (try simp_all; done) | omega)
    try simp only [Act.put, List.getElem_toArray, List.getElem_cons_succ, List.getElem_cons_zero, List.setIfInBounds_toArray, List.set_cons_succ, List.set_cons_zero]
    refine wpAnyH_take (i := 8) (v := (.pointer (some ⟨h5, 0, none⟩))) rfl (by kernel_rfl) (by kernel_rfl) (by kernel_rfl) (fun _ _ _ h => h) (Or.inl ⟨by rfl, ?hy⟩) hHeld ?_
    case hy => (intro V hV; obtain ⟨hV1, hV2, hV3, hV4, hV5, hV6⟩ := hV; go_simp <;> first | done | rfl | (try simp_all; done) | omega)
    try simp only [Act.put, List.getElem_toArray, List.getElem_cons_succ, List.getElem_cons_zero, List.setIfInBounds_toArray, List.set_cons_succ, List.set_cons_zero]
    refine wpAnyH_take (i := 9) (v := (.int .i64 tc)) rfl (by kernel_rfl) (by kernel_rfl) (by kernel_rfl) (fun _ _ _ h => h) (Or.inl ⟨by rfl, ?hy⟩) hHeld ?_
    case hy => (intro V hV; obtain ⟨hV1, hV2, hV3, hV4, hV5, hV6⟩ := hV; go_simp <;> first | done | rfl | (try simp_all; done) | omega)
    try simp only [Act.put, List.getElem_toArray, List.getElem_cons_succ, List.getElem_cons_zero, List.setIfInBounds_toArray, List.set_cons_succ, List.set_cons_zero]
    refine wpAnyH_take (i := 10) (v := (.pointer (some ⟨h5, 1, none⟩))) rfl (by kernel_rfl) (by kernel_rfl) (by kernel_rfl) (fun _ _ _ h => h) (Or.inl ⟨by rfl, ?hy⟩) hHeld ?_
    case hy => (intro V hV; obtain ⟨hV1, hV2, hV3, hV4, hV5, hV6⟩ := hV; go_simp <;> first | done | rfl | (try simp_all; done) | omega)
    try simp only [Act.put, List.getElem_toArray, List.getElem_cons_succ, List.getElem_cons_zero, List.setIfInBounds_toArray, List.set_cons_succ, List.set_cons_zero]
    refine wpAnyH_take (i := 11) (v := (.int .i64 tval)) rfl (by kernel_rfl) (by kernel_rfl) (by kernel_rfl) (fun _ _ _ h => h) (Or.inl ⟨by rfl, ?hy⟩) hHeld ?_
    case hy => (intro V hV; obtain ⟨hV1, hV2, hV3, hV4, hV5, hV6⟩ := hV; go_simp <;> first | done | rfl | (try simp_all; done) | omega)
    try simp only [Act.put, List.getElem_toArray, List.getElem_cons_succ, List.getElem_cons_zero, List.setIfInBounds_toArray, List.set_cons_succ, List.set_cons_zero]
    refine wpAnyH_take (i := 12) (v := (.pointer (some ⟨h5, 2, none⟩))) rfl (by kernel_rfl) (by kernel_rfl) (by kernel_rfl) (fun _ _ _ h => h) (Or.inl ⟨by rfl, ?hy⟩) hHeld ?_
    case hy => (intro V hV; obtain ⟨hV1, hV2, hV3, hV4, hV5, hV6⟩ := hV; go_simp <;> first | done | rfl | (try simp_all; done) | omega)
    try simp only [Act.put, List.getElem_toArray, List.getElem_cons_succ, List.getElem_cons_zero, List.setIfInBounds_toArray, List.set_cons_succ, List.set_cons_zero]
    refine wpAnyH_take (i := 13) (v := (.bool tok)) rfl (by kernel_rfl) (by kernel_rfl) (by kernel_rfl) (fun _ _ _ h => h) (Or.inl ⟨by rfl, ?hy⟩) hHeld ?_
    case hy => (intro V hV; obtain ⟨hV1, hV2, hV3, hV4, hV5, hV6⟩ := hV; go_simp <;> first | done | rfl | (try simp_all; done) | omega)
    try simp only [Act.put, List.getElem_toArray, List.getElem_cons_succ, List.getElem_cons_zero, List.setIfInBounds_toArray, List.set_cons_succ, List.set_cons_zero]
    refine wpAnyH_ready (rs := [4, 6]) (by kernel_rfl) (by simp) ?_
    refine AllReadyH.cons (by rfl) ?_ ?_
    · intro K hK
      refine step_runw (v := .slice ea nev ecap) (w' := W5.drew) (by rfl) (by first | (go_simp; done) | (go_simp; rfl) | (go_simp; simp [e4w]) | simp [go_sem, e4w]) ?_
      refine hK.out _ _ s0 (fun hHeld => ?_)
      clear hK K
      try simp only [Act.put, List.getElem_toArray, List.getElem_cons_succ, List.getElem_cons_zero, List.setIfInBounds_toArray, List.set_cons_succ, List.set_cons_zero]
      refine wpAnyH_ready (rs := [6]) (by kernel_rfl) (by simp) ?_
      refine AllReadyH.cons (by rfl) ?_ AllReadyH.nil
      intro K hK
      refine step_callw (by rfl) 95 #[.pointer (some ⟨b, 0, none⟩)] (by go_simp) ?_
      refine CI.mono ?_
      rintro e w6 ⟨rfl, hw6⟩
      subst w6
      refine ⟨_, rfl, ?_⟩
      refine hK.out _ _ s0 (fun hHeld => ?_)
      clear hK K
      try simp only [Act.put, List.getElem_toArray, List.getElem_cons_succ, List.getElem_cons_zero, List.setIfInBounds_toArray, List.set_cons_succ, List.set_cons_zero]
      refine wpAnyH_take (i := 14) (v := (.agg #[.int .i64 i, .int .i64 at', .int .i64 tc, .int .i64 tval, .bool tok])) rfl (by kernel_rfl) (by kernel_rfl) (by kernel_rfl) (fun _ _ _ h => h) (Or.inl ⟨by rfl, ?hy⟩) hHeld ?_
      case hy => (intro V hV; obtain ⟨hV1, hV2, hV3, hV4, hV5, hV6⟩ := hV; go_simp <;> first | done | rfl | (try simp_all; done) | omega)
      try simp only [Act.put, List.getElem_toArray, List.getElem_cons_succ, List.getElem_cons_zero, List.setIfInBounds_toArray, List.set_cons_succ, List.set_cons_zero]
      refine wpAnyH_ready (rs := [15]) (by kernel_rfl) (by simp) ?_
      refine AllReadyH.cons (by rfl) ?_ AllReadyH.nil
      intro K hK
      refine step_bsev (by rfl) rfl i at' tc tval tok (by rfl) ?_
      rw [hnw, ← HY5.out]
      refine hK.out _ _ s1' (fun hHeld => ?_)
      clear hK K
      try simp only [Act.put, List.getElem_toArray, List.getElem_cons_succ, List.getElem_cons_zero, List.setIfInBounds_toArray, List.set_cons_succ, List.set_cons_zero]
      refine wpAnyH_ready (rs := [16]) (by kernel_rfl) (by simp) ?_
      refine AllReadyH.cons (by rfl) ?_ AllReadyH.nil
      intro K hK
      refine step_appendx (by rfl) (34 : TypeId) (.tmp 23) (.tmp 34) rfl (.slice ea nev ecap) (.slice (some ⟨ne, 0, none⟩) 1 1) (.slice p6 n6 c6) (by simp [Act.eval]) (by simp [Act.eval]) nrun ?_
      refine hK.out _ _ s2' (fun hHeld => ?_)
      clear hK K
      try simp only [Act.put, List.getElem_toArray, List.getElem_cons_succ, List.getElem_cons_zero, List.setIfInBounds_toArray, List.set_cons_succ, List.set_cons_zero]
      refine wpAnyH_take (i := 17) (v := (.pointer (some ⟨B, 0, none⟩))) rfl (by kernel_rfl) (by kernel_rfl) (by kernel_rfl) (fun _ _ _ h => h) (Or.inl ⟨by rfl, ?hy⟩) hHeld ?_
      case hy => (intro V hV; obtain ⟨hV1, hV2, hV3, hV4, hV5, hV6⟩ := hV; go_simp <;> first | done | rfl | (try simp_all; done) | omega)
      try simp only [Act.put, List.getElem_toArray, List.getElem_cons_succ, List.getElem_cons_zero, List.setIfInBounds_toArray, List.set_cons_succ, List.set_cons_zero]
      refine wpAnyH_take (i := 18) (v := (.pointer (some ⟨B, 4, none⟩))) rfl (by kernel_rfl) (by kernel_rfl) (by kernel_rfl) (fun _ _ _ h => h) (Or.inl ⟨by rfl, ?hy⟩) hHeld ?_
      case hy => (intro V hV; obtain ⟨hV1, hV2, hV3, hV4, hV5, hV6⟩ := hV; go_simp <;> first | done | rfl | (try simp_all; done) | omega)
      try simp only [Act.put, List.getElem_toArray, List.getElem_cons_succ, List.getElem_cons_zero, List.setIfInBounds_toArray, List.set_cons_succ, List.set_cons_zero]
      refine wpAnyH_ready (rs := [19]) (by kernel_rfl) (by simp) ?_
      refine AllReadyH.cons (by rfl) ?_ AllReadyH.nil
      intro K hK
      refine step_skipw (w' := Z6) (by rfl) (by rw [HZ6.out]; go_simp <;> first | done | rfl | trace_state) ?_
      refine hK.out _ _ s3' (fun hHeld => ?_)
      clear hK K
      try simp only [Act.put, List.getElem_toArray, List.getElem_cons_succ, List.getElem_cons_zero, List.setIfInBounds_toArray, List.set_cons_succ, List.set_cons_zero]
      refine wpAnyH_done (by kernel_rfl) ?_ _
      try try simp only [Act.put, List.getElem_toArray, List.getElem_cons_succ, List.getElem_cons_zero, List.setIfInBounds_toArray, List.set_cons_succ, List.set_cons_zero]
      exact HC
    refine AllReadyH.cons (by rfl) ?_ AllReadyH.nil
    intro K hK
    refine step_callw (by rfl) 95 #[.pointer (some ⟨b, 0, none⟩)] (by go_simp) ?_
    refine CI.mono ?_
    rintro e w6 ⟨rfl, hw6⟩
    subst w6
    refine ⟨_, rfl, ?_⟩
    refine hK.out _ _ s0 (fun hHeld => ?_)
    clear hK K
    try simp only [Act.put, List.getElem_toArray, List.getElem_cons_succ, List.getElem_cons_zero, List.setIfInBounds_toArray, List.set_cons_succ, List.set_cons_zero]
    refine wpAnyH_take (i := 14) (v := (.agg #[.int .i64 i, .int .i64 at', .int .i64 tc, .int .i64 tval, .bool tok])) rfl (by kernel_rfl) (by kernel_rfl) (by kernel_rfl) (fun _ _ _ h => h) (Or.inl ⟨by rfl, ?hy⟩) hHeld ?_
    case hy => (intro V hV; obtain ⟨hV1, hV2, hV3, hV4, hV5, hV6⟩ := hV; go_simp <;> first | done | rfl | (try simp_all; done) | omega)
    try simp only [Act.put, List.getElem_toArray, List.getElem_cons_succ, List.getElem_cons_zero, List.setIfInBounds_toArray, List.set_cons_succ, List.set_cons_zero]
    refine wpAnyH_ready (rs := [4, 15]) (by kernel_rfl) (by simp) ?_
    refine AllReadyH.cons (by rfl) ?_ ?_
    · intro K hK
      refine step_runw (v := .slice ea nev ecap) (w' := W5.drew) (by rfl) (by first | (go_simp; done) | (go_simp; rfl) | (go_simp; simp [e4w]) | simp [go_sem, e4w]) ?_
      refine hK.out _ _ s0 (fun hHeld => ?_)
      clear hK K
      try simp only [Act.put, List.getElem_toArray, List.getElem_cons_succ, List.getElem_cons_zero, List.setIfInBounds_toArray, List.set_cons_succ, List.set_cons_zero]
      refine wpAnyH_ready (rs := [15]) (by kernel_rfl) (by simp) ?_
      refine AllReadyH.cons (by rfl) ?_ AllReadyH.nil
      intro K hK
      refine step_bsev (by rfl) rfl i at' tc tval tok (by rfl) ?_
      rw [hnw, ← HY5.out]
      refine hK.out _ _ s1' (fun hHeld => ?_)
      clear hK K
      try simp only [Act.put, List.getElem_toArray, List.getElem_cons_succ, List.getElem_cons_zero, List.setIfInBounds_toArray, List.set_cons_succ, List.set_cons_zero]
      refine wpAnyH_ready (rs := [16]) (by kernel_rfl) (by simp) ?_
      refine AllReadyH.cons (by rfl) ?_ AllReadyH.nil
      intro K hK
      refine step_appendx (by rfl) (34 : TypeId) (.tmp 23) (.tmp 34) rfl (.slice ea nev ecap) (.slice (some ⟨ne, 0, none⟩) 1 1) (.slice p6 n6 c6) (by simp [Act.eval]) (by simp [Act.eval]) nrun ?_
      refine hK.out _ _ s2' (fun hHeld => ?_)
      clear hK K
      try simp only [Act.put, List.getElem_toArray, List.getElem_cons_succ, List.getElem_cons_zero, List.setIfInBounds_toArray, List.set_cons_succ, List.set_cons_zero]
      refine wpAnyH_take (i := 17) (v := (.pointer (some ⟨B, 0, none⟩))) rfl (by kernel_rfl) (by kernel_rfl) (by kernel_rfl) (fun _ _ _ h => h) (Or.inl ⟨by rfl, ?hy⟩) hHeld ?_
      case hy => (intro V hV; obtain ⟨hV1, hV2, hV3, hV4, hV5, hV6⟩ := hV; go_simp <;> first | done | rfl | (try simp_all; done) | omega)
      try simp only [Act.put, List.getElem_toArray, List.getElem_cons_succ, List.getElem_cons_zero, List.setIfInBounds_toArray, List.set_cons_succ, List.set_cons_zero]
      refine wpAnyH_take (i := 18) (v := (.pointer (some ⟨B, 4, none⟩))) rfl (by kernel_rfl) (by kernel_rfl) (by kernel_rfl) (fun _ _ _ h => h) (Or.inl ⟨by rfl, ?hy⟩) hHeld ?_
      case hy => (intro V hV; obtain ⟨hV1, hV2, hV3, hV4, hV5, hV6⟩ := hV; go_simp <;> first | done | rfl | (try simp_all; done) | omega)
      try simp only [Act.put, List.getElem_toArray, List.getElem_cons_succ, List.getElem_cons_zero, List.setIfInBounds_toArray, List.set_cons_succ, List.set_cons_zero]
      refine wpAnyH_ready (rs := [19]) (by kernel_rfl) (by simp) ?_
      refine AllReadyH.cons (by rfl) ?_ AllReadyH.nil
      intro K hK
      refine step_skipw (w' := Z6) (by rfl) (by rw [HZ6.out]; go_simp <;> first | done | rfl | trace_state) ?_
      refine hK.out _ _ s3' (fun hHeld => ?_)
      clear hK K
      try simp only [Act.put, List.getElem_toArray, List.getElem_cons_succ, List.getElem_cons_zero, List.setIfInBounds_toArray, List.set_cons_succ, List.set_cons_zero]
      refine wpAnyH_done (by kernel_rfl) ?_ _
      try try simp only [Act.put, List.getElem_toArray, List.getElem_cons_succ, List.getElem_cons_zero, List.setIfInBounds_toArray, List.set_cons_succ, List.set_cons_zero]
      exact HC
    refine AllReadyH.cons (by rfl) ?_ AllReadyH.nil
    intro K hK
    refine step_bsev (by rfl) rfl i at' tc tval tok (by rfl) ?_
    rw [hnw, ← HY5.out]
    refine hK.out _ _ s1' (fun hHeld => ?_)
    clear hK K
    try simp only [Act.put, List.getElem_toArray, List.getElem_cons_succ, List.getElem_cons_zero, List.setIfInBounds_toArray, List.set_cons_succ, List.set_cons_zero]
    refine wpAnyH_ready (rs := [4]) (by kernel_rfl) (by simp) ?_
    refine AllReadyH.cons (by rfl) ?_ AllReadyH.nil
    intro K hK
    refine step_runw (v := .slice ea nev ecap) (w' := Y5) (by rfl) (by first | (go_simp; done) | (go_simp; rfl) | (go_simp; simp [e4y]) | simp [go_sem, e4y]) ?_
    refine hK.out _ _ s1' (fun hHeld => ?_)
    clear hK K
    try simp only [Act.put, List.getElem_toArray, List.getElem_cons_succ, List.getElem_cons_zero, List.setIfInBounds_toArray, List.set_cons_succ, List.set_cons_zero]
    refine wpAnyH_ready (rs := [16]) (by kernel_rfl) (by simp) ?_
    refine AllReadyH.cons (by rfl) ?_ AllReadyH.nil
    intro K hK
    refine step_appendx (by rfl) (34 : TypeId) (.tmp 23) (.tmp 34) rfl (.slice ea nev ecap) (.slice (some ⟨ne, 0, none⟩) 1 1) (.slice p6 n6 c6) (by simp [Act.eval]) (by simp [Act.eval]) nrun ?_
    refine hK.out _ _ s2' (fun hHeld => ?_)
    clear hK K
    try simp only [Act.put, List.getElem_toArray, List.getElem_cons_succ, List.getElem_cons_zero, List.setIfInBounds_toArray, List.set_cons_succ, List.set_cons_zero]
    refine wpAnyH_take (i := 17) (v := (.pointer (some ⟨B, 0, none⟩))) rfl (by kernel_rfl) (by kernel_rfl) (by kernel_rfl) (fun _ _ _ h => h) (Or.inl ⟨by rfl, ?hy⟩) hHeld ?_
    case hy => (intro V hV; obtain ⟨hV1, hV2, hV3, hV4, hV5, hV6⟩ := hV; go_simp <;> first | done | rfl | (try simp_all; done) | omega)
    try simp only [Act.put, List.getElem_toArray, List.getElem_cons_succ, List.getElem_cons_zero, List.setIfInBounds_toArray, List.set_cons_succ, List.set_cons_zero]
    refine wpAnyH_take (i := 18) (v := (.pointer (some ⟨B, 4, none⟩))) rfl (by kernel_rfl) (by kernel_rfl) (by kernel_rfl) (fun _ _ _ h => h) (Or.inl ⟨by rfl, ?hy⟩) hHeld ?_
    case hy => (intro V hV; obtain ⟨hV1, hV2, hV3, hV4, hV5, hV6⟩ := hV; go_simp <;> first | done | rfl | (try simp_all; done) | omega)
    try simp only [Act.put, List.getElem_toArray, List.getElem_cons_succ, List.getElem_cons_zero, List.setIfInBounds_toArray, List.set_cons_succ, List.set_cons_zero]
    refine wpAnyH_ready (rs := [19]) (by kernel_rfl) (by simp) ?_
    refine AllReadyH.cons (by rfl) ?_ AllReadyH.nil
    intro K hK
    refine step_skipw (w' := Z6) (by rfl) (by rw [HZ6.out]; go_simp <;> first | done | rfl | trace_state) ?_
    refine hK.out _ _ s3' (fun hHeld => ?_)
    clear hK K
    try simp only [Act.put, List.getElem_toArray, List.getElem_cons_succ, List.getElem_cons_zero, List.setIfInBounds_toArray, List.set_cons_succ, List.set_cons_zero]
    refine wpAnyH_done (by kernel_rfl) ?_ _
    try try simp only [Act.put, List.getElem_toArray, List.getElem_cons_succ, List.getElem_cons_zero, List.setIfInBounds_toArray, List.set_cons_succ, List.set_cons_zero]
    exact HC
  dsimp only
  clear s0 s1' s2' s3' e4w e4y nrun nce CI hW1 hW2 hW3 hW4 hW5 b1 b2 b3 b4 b5 s1 s2 s3 s4 s5 bw5 bV bwV sV e1 e2 e3 e4 e5 wd5 wy5 fz5 hL5 n4 nfr n1c nX nZ wd6 wy6 SS HY5 HZ6 hnw hY5 hZ6 wdb l6 hL6 g1 g2 g3 g4 k6 hPZ hpl kp kd hcp rowP wy06 hp6 hpq hBZ hBl h hL hP hPl hb hp hat hev hm hd
  obtain ⟨A, hA⟩ : ∃ A, Hid (A = Z6.alloc (.cells #[.int .i64 0, .int .i64 0, .int .i64 0, .slice none 0 0, .bool false] (111 : TypeId))) := ⟨_, hide rfl⟩
  have bA : Below Z6.heap.size Z6 A := by rw [hA.out]; exact (Below.refl _ Z6).alloc (Nat.le_refl _) _
  have hAd : A.heap[Z6.heap.size]? = some (.cells #[.int .i64 0, .int .i64 0, .int .i64 0, .slice none 0 0, .bool false] (111 : TypeId) (0, 0)) := by rw [hA.out]; exact heap_alloc_new Z6 _
  obtain ⟨dv, hdv⟩ : ∃ dv, Hid (Z6.heap.size = dv) := ⟨_, hide rfl⟩
  obtain ⟨a1, a3, a4, aB, ap⟩ := HS.out A bA
  rw [hdv.out] at hAd
  have HBA := hide bA
  clear bA
  have z0 : A.cell? ⟨dv, 0, none⟩ = some (.int .i64 0) := cell_of_row A _ 0 _ _ _ hAd
  by_cases hlt : at' < dn
  · obtain ⟨db, dof, sp, sn, sc, y, j, hda, hdc, hj, hk5, HY⟩ := hyes.out hlt
    subst hda
    obtain ⟨y0, y1, y2, y3, y4⟩ := HY.out A HBA.out
    clear hyes hno
    have hlti : decide ((at' : Int) < (dn : Int)) = true := by simpa using hlt
    go_wp2_with fail
    rw [← hA.out, hdv.out]
    go_quiet (fail)
    go_wp2_with fail
    have z1 : A.cell? ⟨dv, 1, none⟩ = some (.int .i64 0) := cell_of_row A _ 1 _ _ _ hAd
    have z2 : A.cell? ⟨dv, 2, none⟩ = some (.int .i64 0) := cell_of_row A _ 2 _ _ _ hAd
    have z3 : A.cell? ⟨dv, 3, none⟩ = some (.slice none 0 0) := cell_of_row A _ 3 _ _ _ hAd
    have z4 : A.cell? ⟨dv, 4, none⟩ = some (.bool false) := cell_of_row A _ 4 _ _ _ hAd
    have fz0 := frozen_of_row A dv 0 _ _ hAd
    have fz1 := frozen_of_row A dv 1 _ _ hAd
    have fz2 := frozen_of_row A dv 2 _ _ hAd
    have fz3 := frozen_of_row A dv 3 _ _ hAd
    have fz4 := frozen_of_row A dv 4 _ _ hAd
    obtain ⟨X, hX⟩ : ∃ X : Nat → World, Hid (X = fun m => ((((((A.drewN m).setCell ⟨dv, 0, none⟩ (.int .i64 d.kind)).setCell ⟨dv, 1, none⟩ (.int .i64 d.c)).setCell ⟨dv, 2, none⟩ (.int .i64 d.v)).setCell ⟨dv, 3, none⟩ (.slice sp sn sc)).setCell ⟨dv, 4, none⟩ (.bool y))) := ⟨_, hide rfl⟩
    have bX : Hid (∀ m, Below Z6.heap.size Z6 (X m)) := hide (fun m => by
      rw [hX.out]
      exact (((((below_drewN HBA.out m).setCell (by simp [hdv.out]) _).setCell (by simp [hdv.out]) _).setCell (by simp [hdv.out]) _).setCell (by simp [hdv.out]) _).setCell (by simp [hdv.out]) _)
    have KS : Hid (∀ m, (X m).cell? ⟨h1, 0, none⟩ = some (.pointer (some ⟨B, 0, none⟩)) ∧ (X m).cell? ⟨h3, 0, none⟩ = some (.int .i64 i) ∧ (X m).cell? ⟨h4, 0, none⟩ = some (.int .i64 at') ∧ (X m).cell? ⟨B, 1, none⟩ = some (.slice (some ⟨pb, po, none⟩) np pcap) ∧ (X m).cell? ⟨pb, po + i, none⟩ = some (.slice (some ⟨db, dof, none⟩) dn dc) ∧ (X m).cell? ⟨db, dof + at' * 5, none⟩ = some (.int .i64 d.kind) ∧ (X m).cell? ⟨db, dof + at' * 5 + 1, none⟩ = some (.int .i64 d.c) ∧ (X m).cell? ⟨db, dof + at' * 5 + 2, none⟩ = some (.int .i64 d.v) ∧ (X m).cell? ⟨db, dof + at' * 5 + 3, none⟩ = some (.slice sp sn sc) ∧ (X m).cell? ⟨db, dof + at' * 5 + 4, none⟩ = some (.bool y)) := hide (fun m => by
      obtain ⟨k1, k2, k3, k4, k5⟩ := HS.out _ (bX.out m)
      obtain ⟨k6, k7, k8, k9, k10⟩ := HY.out _ (bX.out m)
      exact ⟨k1, k2, k3, k4, k5, k6, k7, k8, k9, k10⟩)
    have hXd : Hid (∀ m, (X m).heap[dv]? = some (.cells #[.int .i64 d.kind, .int .i64 d.c, .int .i64 d.v, .slice sp sn sc, .bool y] (111 : TypeId) (0, 0))) := hide (fun m => by
      rw [hX.out]
      have q0 : (A.drewN m).heap[dv]? = _ := hAd
      have q1 := heap_setCell_same (A.drewN m) dv 0 _ _ (.int .i64 d.kind) q0
      have q2 := heap_setCell_same _ dv 1 _ _ (.int .i64 d.c) q1
      have q3 := heap_setCell_same _ dv 2 _ _ (.int .i64 d.v) q2
      have q4 := heap_setCell_same _ dv 3 _ _ (.slice sp sn sc) q3
      have q5 := heap_setCell_same _ dv 4 _ _ (.bool y) q4
      exact q5)
    have S0 : Hid (∀ m, (A.drewN m).cell? ⟨h1, 0, none⟩ = some (.pointer (some ⟨B, 0, none⟩)) ∧ (A.drewN m).cell? ⟨h3, 0, none⟩ = some (.int .i64 i) ∧ (A.drewN m).cell? ⟨h4, 0, none⟩ = some (.int .i64 at') ∧ (A.drewN m).cell? ⟨B, 1, none⟩ = some (.slice (some ⟨pb, po, none⟩) np pcap) ∧ (A.drewN m).cell? ⟨pb, po + i, none⟩ = some (.slice (some ⟨db, dof, none⟩) dn dc) ∧ (A.drewN m).cell? ⟨db, dof + at' * 5, none⟩ = some (.int .i64 d.kind) ∧ (A.drewN m).cell? ⟨db, dof + at' * 5 + 1, none⟩ = some (.int .i64 d.c) ∧ (A.drewN m).cell? ⟨db, dof + at' * 5 + 2, none⟩ = some (.int .i64 d.v) ∧ (A.drewN m).cell? ⟨db, dof + at' * 5 + 3, none⟩ = some (.slice sp sn sc) ∧ (A.drewN m).cell? ⟨db, dof + at' * 5 + 4, none⟩ = some (.bool y)) := hide (fun m => by
      obtain ⟨k1, k2, k3, k4, k5⟩ := HS.out _ (below_drewN HBA.out m)
      obtain ⟨k6, k7, k8, k9, k10⟩ := HY.out _ (below_drewN HBA.out m)
      exact ⟨k1, k2, k3, k4, k5, k6, k7, k8, k9, k10⟩)
    have hXw : X (nq + 1) = (((((A.drewN nq).drew.setCell ⟨dv, 0, none⟩ (.int .i64 d.kind)).setCell ⟨dv, 1, none⟩ (.int .i64 d.c)).setCell ⟨dv, 2, none⟩ (.int .i64 d.v)).setCell ⟨dv, 3, none⟩ (.slice sp sn sc)).setCell ⟨dv, 4, none⟩ (.bool y) := by rw [hX.out]; rfl
    have HXw := hide hXw
    clear hXw a1 a3 a4 aB ap y0 y1 y2 y3 y4
    refine wp_region_held_drew (S := (fun V => V.cell? ⟨h1, 0, none⟩ = some (.pointer (some ⟨B, 0, none⟩)) ∧ V.cell? ⟨h3, 0, none⟩ = some (.int .i64 i) ∧ V.cell? ⟨h4, 0, none⟩ = some (.int .i64 at') ∧ V.cell? ⟨B, 1, none⟩ = some (.slice (some ⟨pb, po, none⟩) np pcap) ∧ V.cell? ⟨pb, po + i, none⟩ = some (.slice (some ⟨db, dof, none⟩) dn dc) ∧ V.cell? ⟨db, dof + at' * 5, none⟩ = some (.int .i64 d.kind) ∧ V.cell? ⟨db, dof + at' * 5 + 1, none⟩ = some (.int .i64 d.c) ∧ V.cell? ⟨db, dof + at' * 5 + 2, none⟩ = some (.int .i64 d.v) ∧ V.cell? ⟨db, dof + at' * 5 + 3, none⟩ = some (.slice sp sn sc) ∧ V.cell? ⟨db, dof + at' * 5 + 4, none⟩ = some (.bool y))) (by kernel_rfl) (S0.out (nq + 1)) (fun hHeld => ?_)
    try simp only [List.size_toArray, List.length_cons, List.length_nil, Nat.reduceAdd]
    refine wpAnyH_take (i := 0) (v := (.pointer (some ⟨B, 0, none⟩))) rfl (by kernel_rfl) (by kernel_rfl) (by kernel_rfl) (fun _ _ _ h => h) (Or.inl ⟨by rfl, ?hy⟩) hHeld ?_
    case hy => (intro V hV; obtain ⟨hV1, hV2, hV3, hV4, hV5, hV6, hV7, hV8, hV9, hV10⟩ := hV; go_simp <;> first | done | rfl | (try simp_all; done) | omega)
    try simp only [Act.put, List.getElem_toArray, List.getElem_cons_succ, List.getElem_cons_zero, List.setIfInBounds_toArray, List.set_cons_succ, List.set_cons_zero]
    refine wpAnyH_take (i := 1) (v := (.pointer (some ⟨B, 0, none⟩))) rfl (by kernel_rfl) (by kernel_rfl) (by kernel_rfl) (fun _ _ _ h => h) (Or.inl ⟨by rfl, ?hy⟩) hHeld ?_
    case hy => (intro V hV; obtain ⟨hV1, hV2, hV3, hV4, hV5, hV6, hV7, hV8, hV9, hV10⟩ := hV; go_simp <;> first | done | rfl | (try simp_all; done) | omega)
    try simp only [Act.put, List.getElem_toArray, List.getElem_cons_succ, List.getElem_cons_zero, List.setIfInBounds_toArray, List.set_cons_succ, List.set_cons_zero]
    refine wpAnyH_take (i := 2) (v := (.pointer (some ⟨B, 1, none⟩))) rfl (by kernel_rfl) (by kernel_rfl) (by kernel_rfl) (fun _ _ _ h => h) (Or.inl ⟨by rfl, ?hy⟩) hHeld ?_
    case hy => (intro V hV; obtain ⟨hV1, hV2, hV3, hV4, hV5, hV6, hV7, hV8, hV9, hV10⟩ := hV; go_simp <;> first | done | rfl | (try simp_all; done) | omega)
    try simp only [Act.put, List.getElem_toArray, List.getElem_cons_succ, List.getElem_cons_zero, List.setIfInBounds_toArray, List.set_cons_succ, List.set_cons_zero]
    refine wpAnyH_take (i := 3) (v := (.slice (some ⟨pb, po, none⟩) np pcap)) rfl (by kernel_rfl) (by kernel_rfl) (by kernel_rfl) (fun _ _ _ h => h) (Or.inl ⟨by rfl, ?hy⟩) hHeld ?_
    case hy => (intro V hV; obtain ⟨hV1, hV2, hV3, hV4, hV5, hV6, hV7, hV8, hV9, hV10⟩ := hV; go_simp <;> first | done | rfl | (try simp_all; done) | omega)
    try simp only [Act.put, List.getElem_toArray, List.getElem_cons_succ, List.getElem_cons_zero, List.setIfInBounds_toArray, List.set_cons_succ, List.set_cons_zero]
    refine wpAnyH_take (i := 4) (v := (.int .i64 i)) rfl (by kernel_rfl) (by kernel_rfl) (by kernel_rfl) (fun _ _ _ h => h) (Or.inl ⟨by rfl, ?hy⟩) hHeld ?_
    case hy => (intro V hV; obtain ⟨hV1, hV2, hV3, hV4, hV5, hV6, hV7, hV8, hV9, hV10⟩ := hV; go_simp <;> first | done | rfl | (try simp_all; done) | omega)
    try simp only [Act.put, List.getElem_toArray, List.getElem_cons_succ, List.getElem_cons_zero, List.setIfInBounds_toArray, List.set_cons_succ, List.set_cons_zero]
    refine wpAnyH_take (i := 5) (v := (.pointer (some ⟨pb, po + i, none⟩))) rfl (by kernel_rfl) (by kernel_rfl) (by kernel_rfl) (fun _ _ _ h => h) (Or.inl ⟨by rfl, ?hy⟩) hHeld ?_
    case hy => (intro V hV; obtain ⟨hV1, hV2, hV3, hV4, hV5, hV6, hV7, hV8, hV9, hV10⟩ := hV; go_simp <;> first | done | rfl | (try simp_all; done) | omega)
    try simp only [Act.put, List.getElem_toArray, List.getElem_cons_succ, List.getElem_cons_zero, List.setIfInBounds_toArray, List.set_cons_succ, List.set_cons_zero]
    refine wpAnyH_take (i := 6) (v := (.slice (some ⟨db, dof, none⟩) dn dc)) rfl (by kernel_rfl) (by kernel_rfl) (by kernel_rfl) (fun _ _ _ h => h) (Or.inl ⟨by rfl, ?hy⟩) hHeld ?_
    case hy => (intro V hV; obtain ⟨hV1, hV2, hV3, hV4, hV5, hV6, hV7, hV8, hV9, hV10⟩ := hV; go_simp <;> first | done | rfl | (try simp_all; done) | omega)
    try simp only [Act.put, List.getElem_toArray, List.getElem_cons_succ, List.getElem_cons_zero, List.setIfInBounds_toArray, List.set_cons_succ, List.set_cons_zero]
    refine wpAnyH_take (i := 7) (v := (.int .i64 at')) rfl (by kernel_rfl) (by kernel_rfl) (by kernel_rfl) (fun _ _ _ h => h) (Or.inl ⟨by rfl, ?hy⟩) hHeld ?_
    case hy => (intro V hV; obtain ⟨hV1, hV2, hV3, hV4, hV5, hV6, hV7, hV8, hV9, hV10⟩ := hV; go_simp <;> first | done | rfl | (try simp_all; done) | omega)
    try simp only [Act.put, List.getElem_toArray, List.getElem_cons_succ, List.getElem_cons_zero, List.setIfInBounds_toArray, List.set_cons_succ, List.set_cons_zero]
    refine wpAnyH_take (i := 8) (v := (.pointer (some ⟨db, dof + at' * 5, none⟩))) rfl (by kernel_rfl) (by kernel_rfl) (by kernel_rfl) (fun _ _ _ h => h) (Or.inl ⟨by rfl, ?hy⟩) hHeld ?_
    case hy => (intro V hV; obtain ⟨hV1, hV2, hV3, hV4, hV5, hV6, hV7, hV8, hV9, hV10⟩ := hV; go_simp <;> first | done | rfl | (try simp_all; done) | omega)
    try simp only [Act.put, List.getElem_toArray, List.getElem_cons_succ, List.getElem_cons_zero, List.setIfInBounds_toArray, List.set_cons_succ, List.set_cons_zero]
    refine wpAnyH_take (i := 9) (v := (.agg #[.int .i64 d.kind, .int .i64 d.c, .int .i64 d.v, .slice sp sn sc, .bool y])) rfl (by kernel_rfl) (by kernel_rfl) (by kernel_rfl) (fun _ _ _ h => h) (Or.inl ⟨by rfl, ?hy⟩) hHeld ?_
    case hy => (intro V hV; obtain ⟨hV1, hV2, hV3, hV4, hV5, hV6, hV7, hV8, hV9, hV10⟩ := hV; go_simp <;> first | done | rfl | (try simp_all; done) | omega)
    try simp only [Act.put, List.getElem_toArray, List.getElem_cons_succ, List.getElem_cons_zero, List.setIfInBounds_toArray, List.set_cons_succ, List.set_cons_zero]
    refine wpAnyH_ready (rs := [10]) (by kernel_rfl) (by simp) ?_
    refine AllReadyH.cons (by rfl) ?_ AllReadyH.nil
    intro K hK
    refine step_skipw (w' := X (nq + 1)) (by rfl) (by rw [HXw.out]; go_simp <;> first | done | rfl) ?_
    refine hK.out _ _ (KS.out (nq + 1)) (fun hHeld => ?_)
    clear hK K
    try simp only [Act.put, List.getElem_toArray, List.getElem_cons_succ, List.getElem_cons_zero, List.setIfInBounds_toArray, List.set_cons_succ, List.set_cons_zero]
    refine wpAnyH_done (by kernel_rfl) ?_ _
    try simp only [Act.put, List.getElem_toArray, List.getElem_cons_succ, List.getElem_cons_zero, List.setIfInBounds_toArray, List.set_cons_succ, List.set_cons_zero]
    obtain ⟨Y, hY⟩ : ∃ Y, Hid (Y = X (nq + 1)) := ⟨_, hide rfl⟩
    have hbY := bX.out (nq + 1)
    have hdY := hXd.out (nq + 1)
    rw [← hY.out] at hbY hdY ⊢
    clear hXd KS S0 bX hX HS HY z0 z1 z2 z3 z4 fz0 fz1 fz2 fz3 fz4 hAd HBA hA hlti hlt hY HXw
    obtain ⟨Y2, hY2⟩ : ∃ Y2, Hid (Y2 = Y.alloc (.cells #[.func (.func 96) #[] #[.pointer (some ⟨h1, 0, none⟩), .pointer (some ⟨h2, 0, none⟩), .pointer (some ⟨h3, 0, none⟩), .pointer (some ⟨h4, 0, none⟩)]] (146 : TypeId))) := ⟨_, hide rfl⟩
    obtain ⟨nb, hnb⟩ : ∃ nb, Hid (Y.heap.size = nb) := ⟨_, hide rfl⟩
    have bY2 : Below Y.heap.size Y Y2 := by rw [hY2.out]; exact (Below.refl _ Y).alloc (Nat.le_refl _) _
    have hN2 : Y2.heap[nb]? = some (.cells #[.func (.func 96) #[] #[.pointer (some ⟨h1, 0, none⟩), .pointer (some ⟨h2, 0, none⟩), .pointer (some ⟨h3, 0, none⟩), .pointer (some ⟨h4, 0, none⟩)]] (146 : TypeId) (0, 0)) := by rw [hY2.out, ← hnb.out]; exact heap_alloc_new Y _
    have hd2 := (bY2.block _ (heap_lt hdY)).trans hdY
    obtain ⟨lab7, wd7, wy7, bx7, fd7⟩ := HX.out Y2 dv nb _ _ (hbY.trans (bY2.mono hbY.size)) (Nat.le_of_eq hdv.out) hd2 (by rw [← hnb.out]; exact hbY.size) hN2
    obtain ⟨k, c, v⟩ := d
    simp only at hdc hk5 hd2
    subst hdc
    obtain ⟨z, hz⟩ : ∃ z, zs[j]? = some z := ⟨_, List.getElem?_eq_getElem hj⟩
    obtain ⟨cg, cc, hcv, hcl, hcl2, hcg⟩ := wd7.chan hj
    have hzj : zs[j] = z := by
      rw [List.getElem?_eq_getElem hj] at hz
      exact Option.some.inj hz
    subst hcv
    have HSC : Hid (∀ V σ' m' l', Wd V L B (.slice (some ⟨pb, po, none⟩) np pcap) (.slice (some ⟨cg, 0, none⟩) zs.length cc) tvv R zs bs m' σ' (some i) left l' → Wy Y2 lab7 V l' → (V.cell? ⟨h1, 0, none⟩ = some (.pointer (some ⟨B, 0, none⟩)) ∧ V.cell? ⟨h2, 0, none⟩ = some (.pointer (some ⟨b, 0, none⟩)) ∧ V.cell? ⟨dv, 1, none⟩ = some (.int .i64 j) ∧ V.cell? ⟨dv, 2, none⟩ = some (.int .i64 v) ∧ V.cell? ⟨B, 2, none⟩ = some (.slice (some ⟨cg, 0, none⟩) zs.length cc) ∧ V.cell? ⟨cg, j, none⟩ = some (.pointer (some ⟨z.C, 0, none⟩)))) := hide (fun V σ' m' l' hw hy => by
      obtain ⟨ev, hB', _⟩ := hw.blk
      obtain ⟨cg', cc', e1, _, _, e2⟩ := hw.chan hj
      simp only [Value.slice.injEq, Option.some.injEq, Addr.mk.injEq] at e1
      obtain ⟨⟨rfl, _⟩, _, _⟩ := e1
      rw [hzj] at e2
      have rd := hy.keep1 fd7 hd2
      exact ⟨cell_of_row _ _ 0 _ _ _ (hy.keep1 bx7.f1 bx7.e1), cell_of_row _ _ 0 _ _ _ (hy.keep1 bx7.f2 bx7.e2), cell_of_row _ _ 1 _ _ _ rd, cell_of_row _ _ 2 _ _ _ rd, cell_of_row _ _ 2 _ _ _ hB', e2⟩)
    have hL7 : Hid (L ≤ Y2.heap.size) := hide (Nat.le_trans HL.out wy7.tb.size)
    have HN : Hid (∀ V σ2 l2, Wd V L B (.slice (some ⟨pb, po, none⟩) np pcap) (.slice (some ⟨cg, 0, none⟩) zs.length cc) tvv R zs bs (m + 1) σ2 (some i) left l2 → Wy Y2 lab7 V l2 → σ2 = σ1.acts i ⟨k, (j : Int), v⟩ → ∀ U, Below V.heap.size V U → Calls Tryz.prog 97 #[.pointer (some ⟨B, 0, none⟩), .int .i64 0] U fun e U' => e = .returned (.tuple #[]) ∧ (U'.cell? ⟨h1, 0, none⟩ = some (.pointer (some ⟨B, 0, none⟩)) ∧ U'.cell? ⟨h2, 0, none⟩ = some (.pointer (some ⟨b, 0, none⟩)) ∧ U'.cell? ⟨dv, 1, none⟩ = some (.int .i64 j) ∧ U'.cell? ⟨dv, 2, none⟩ = some (.int .i64 v) ∧ U'.cell? ⟨B, 2, none⟩ = some (.slice (some ⟨cg, 0, none⟩) zs.length cc) ∧ U'.cell? ⟨cg, j, none⟩ = some (.pointer (some ⟨z.C, 0, none⟩))) ∧ Hid (Pn U')) := hide (fun V σ2 l2 hw hy hσ U hU => by
      obtain ⟨l3, hw3, hy3⟩ := hw.below (Nat.le_trans hL7.out hy.tb.size) hU
      refine (wneed hw3 (Nat.le_trans hL7.out (hy.trans hy3).tb.size)).mono ?_
      rintro e U' ⟨rfl, l4, hw4, hy4⟩
      have hyy := (hy.trans hy3).trans hy4
      refine ⟨rfl, HSC.out _ _ _ _ hw4 hyy, hide ?_⟩
      rw [hPn.out, ← hσ]
      exact ⟨l4, hw4, wy7.trans hyy⟩)
    have S0 : (Y2.cell? ⟨h1, 0, none⟩ = some (.pointer (some ⟨B, 0, none⟩)) ∧ Y2.cell? ⟨h2, 0, none⟩ = some (.pointer (some ⟨b, 0, none⟩)) ∧ Y2.cell? ⟨dv, 1, none⟩ = some (.int .i64 j) ∧ Y2.cell? ⟨dv, 2, none⟩ = some (.int .i64 v) ∧ Y2.cell? ⟨B, 2, none⟩ = some (.slice (some ⟨cg, 0, none⟩) zs.length cc) ∧ Y2.cell? ⟨cg, j, none⟩ = some (.pointer (some ⟨z.C, 0, none⟩))) := HSC.out Y2 _ _ _ wd7 ⟨Tb.refl _ _, fun _ h => .inl h, fun _ h => ⟨h, rfl⟩⟩
    have hdk : Y2.cell? ⟨dv, 0, none⟩ = some (.int .i64 k) := cell_of_row _ _ 0 _ _ _ hd2
    have WD7 := hide wd7
    have BX7 := hide bx7
    have Hz := hide hz
    have Hj := hide hj
    clear wd7 bx7 fd7 hd2 hN2 bY2 hbY hdY HX hz hzj hcg hdv
    by_cases k1 : k = 1
    · subst k1
      have HY : Hid (∀ V, Below Y2.heap.size Y2 V → Calls Tryz.prog 72 #[.pointer (some ⟨b, 0, none⟩), .func (.func 98) #[] #[.pointer (some ⟨nb, 0, none⟩)]] V fun e W => e = .returned (.int .i64 0) ∧ (W.cell? ⟨h1, 0, none⟩ = some (.pointer (some ⟨B, 0, none⟩)) ∧ W.cell? ⟨h2, 0, none⟩ = some (.pointer (some ⟨b, 0, none⟩)) ∧ W.cell? ⟨dv, 1, none⟩ = some (.int .i64 j) ∧ W.cell? ⟨dv, 2, none⟩ = some (.int .i64 v) ∧ W.cell? ⟨B, 2, none⟩ = some (.slice (some ⟨cg, 0, none⟩) zs.length cc) ∧ W.cell? ⟨cg, j, none⟩ = some (.pointer (some ⟨z.C, 0, none⟩))) ∧ Hid (∀ U, Below W.heap.size W U → Calls Tryz.prog 97 #[.pointer (some ⟨B, 0, none⟩), .int .i64 0] U fun e U' => e = .returned (.tuple #[]) ∧ (U'.cell? ⟨h1, 0, none⟩ = some (.pointer (some ⟨B, 0, none⟩)) ∧ U'.cell? ⟨h2, 0, none⟩ = some (.pointer (some ⟨b, 0, none⟩)) ∧ U'.cell? ⟨dv, 1, none⟩ = some (.int .i64 j) ∧ U'.cell? ⟨dv, 2, none⟩ = some (.int .i64 v) ∧ U'.cell? ⟨B, 2, none⟩ = some (.slice (some ⟨cg, 0, none⟩) zs.length cc) ∧ U'.cell? ⟨cg, j, none⟩ = some (.pointer (some ⟨z.C, 0, none⟩))) ∧ Hid (Pn U'))) := hide (fun V hV => by
        obtain ⟨l8, w8, y8⟩ := WD7.out.below hL7.out hV
        have bx8 := BX7.out.keep y8.agr y8.sub
        have hL8 := Nat.le_trans hL7.out y8.tb.size
        refine ((wyield (w8.mono (Nat.le_succ m)) hL8 Hpq.out rfl Hb.out (go_t2 bx8 Hat.out))).mono ?_
        rintro e W ⟨rfl, l9, w9, y9⟩
        exact ⟨rfl, HSC.out _ _ _ _ w9 (y8.trans y9), hide (HN.out W _ l9 w9 (y8.trans y9) (by simp [Sg.acts]))⟩)
      clear HN HSC WD7 BX7 Hz Hj
      go_wp2_with (rw [← hY2.out, hnb.out])
      go_region_held3 (fun V => (V.cell? ⟨h1, 0, none⟩ = some (.pointer (some ⟨B, 0, none⟩)) ∧ V.cell? ⟨h2, 0, none⟩ = some (.pointer (some ⟨b, 0, none⟩)) ∧ V.cell? ⟨dv, 1, none⟩ = some (.int .i64 j) ∧ V.cell? ⟨dv, 2, none⟩ = some (.int .i64 v) ∧ V.cell? ⟨B, 2, none⟩ = some (.slice (some ⟨cg, 0, none⟩) zs.length cc) ∧ V.cell? ⟨cg, j, none⟩ = some (.pointer (some ⟨z.C, 0, none⟩))))
        (first | exact S0 | exact e1)
        (first | (go_at_call 72; refine (HY.out _ ?_).mono ?_; (first | exact (Below.refl _ _).drew | assumption); rintro e W ⟨rfl, e1, HNN⟩) | (go_at_call 97; refine (HNN.out _ ?_).mono ?_; (first | exact Below.refl _ _ | exact (Below.refl _ _).drew | assumption); rintro e W9 ⟨rfl, e1, hPW⟩))
      all_goals
        go_wp2_with fail
        go_end0
        exact ⟨rfl, hPW.out⟩
    by_cases k2 : k = 2
    · subst k2
      have HY : Hid (∀ V, Below Y2.heap.size Y2 V → Calls Tryz.prog 26 #[.pointer (some ⟨b, 0, none⟩), .pointer (some ⟨z.C, 0, none⟩), .int .i64 v, .func (.func 99) #[] #[.pointer (some ⟨nb, 0, none⟩)]] V fun e W => e = .returned (.int .i64 0) ∧ (W.cell? ⟨h1, 0, none⟩ = some (.pointer (some ⟨B, 0, none⟩)) ∧ W.cell? ⟨h2, 0, none⟩ = some (.pointer (some ⟨b, 0, none⟩)) ∧ W.cell? ⟨dv, 1, none⟩ = some (.int .i64 j) ∧ W.cell? ⟨dv, 2, none⟩ = some (.int .i64 v) ∧ W.cell? ⟨B, 2, none⟩ = some (.slice (some ⟨cg, 0, none⟩) zs.length cc) ∧ W.cell? ⟨cg, j, none⟩ = some (.pointer (some ⟨z.C, 0, none⟩))) ∧ Hid (∀ U, Below W.heap.size W U → Calls Tryz.prog 97 #[.pointer (some ⟨B, 0, none⟩), .int .i64 0] U fun e U' => e = .returned (.tuple #[]) ∧ (U'.cell? ⟨h1, 0, none⟩ = some (.pointer (some ⟨B, 0, none⟩)) ∧ U'.cell? ⟨h2, 0, none⟩ = some (.pointer (some ⟨b, 0, none⟩)) ∧ U'.cell? ⟨dv, 1, none⟩ = some (.int .i64 j) ∧ U'.cell? ⟨dv, 2, none⟩ = some (.int .i64 v) ∧ U'.cell? ⟨B, 2, none⟩ = some (.slice (some ⟨cg, 0, none⟩) zs.length cc) ∧ U'.cell? ⟨cg, j, none⟩ = some (.pointer (some ⟨z.C, 0, none⟩))) ∧ Hid (Pn U'))) := hide (fun V hV => by
        obtain ⟨l8, w8, y8⟩ := WD7.out.below hL7.out hV
        have bx8 := BX7.out.keep y8.agr y8.sub
        have hL8 := Nat.le_trans hL7.out y8.tb.size
        refine ((wsend w8 hL8 Hpq.out rfl Hb.out Hz.out Hm.out v (go_t3 bx8 Hat.out))).mono ?_
        rintro e W ⟨rfl, l9, w9, y9⟩
        exact ⟨rfl, HSC.out _ _ _ _ w9 (y8.trans y9), hide (HN.out W _ l9 w9 (y8.trans y9) (by simp [Sg.acts]))⟩)
      clear HN HSC WD7 BX7 Hz Hj
      go_wp2_with (rw [← hY2.out, hnb.out])
      go_region_held3 (fun V => (V.cell? ⟨h1, 0, none⟩ = some (.pointer (some ⟨B, 0, none⟩)) ∧ V.cell? ⟨h2, 0, none⟩ = some (.pointer (some ⟨b, 0, none⟩)) ∧ V.cell? ⟨dv, 1, none⟩ = some (.int .i64 j) ∧ V.cell? ⟨dv, 2, none⟩ = some (.int .i64 v) ∧ V.cell? ⟨B, 2, none⟩ = some (.slice (some ⟨cg, 0, none⟩) zs.length cc) ∧ V.cell? ⟨cg, j, none⟩ = some (.pointer (some ⟨z.C, 0, none⟩))))
        (first | exact S0 | exact e1)
        (first | (go_at_call 26; refine (HY.out _ ?_).mono ?_; (first | exact (Below.refl _ _).drew | assumption); rintro e W ⟨rfl, e1, HNN⟩) | (go_at_call 97; refine (HNN.out _ ?_).mono ?_; (first | exact Below.refl _ _ | exact (Below.refl _ _).drew | assumption); rintro e W9 ⟨rfl, e1, hPW⟩))
      all_goals
        go_wp2_with fail
        go_end0
        exact ⟨rfl, hPW.out⟩
    by_cases k3 : k = 3
    · subst k3
      have HY : Hid (∀ V, Below Y2.heap.size Y2 V → Calls Tryz.prog 27 #[.pointer (some ⟨b, 0, none⟩), .pointer (some ⟨z.C, 0, none⟩), .func (.func 100) #[] #[.pointer (some ⟨nb, 0, none⟩)]] V fun e W => e = .returned (.int .i64 0) ∧ (W.cell? ⟨h1, 0, none⟩ = some (.pointer (some ⟨B, 0, none⟩)) ∧ W.cell? ⟨h2, 0, none⟩ = some (.pointer (some ⟨b, 0, none⟩)) ∧ W.cell? ⟨dv, 1, none⟩ = some (.int .i64 j) ∧ W.cell? ⟨dv, 2, none⟩ = some (.int .i64 v) ∧ W.cell? ⟨B, 2, none⟩ = some (.slice (some ⟨cg, 0, none⟩) zs.length cc) ∧ W.cell? ⟨cg, j, none⟩ = some (.pointer (some ⟨z.C, 0, none⟩))) ∧ Hid (∀ U, Below W.heap.size W U → Calls Tryz.prog 97 #[.pointer (some ⟨B, 0, none⟩), .int .i64 0] U fun e U' => e = .returned (.tuple #[]) ∧ (U'.cell? ⟨h1, 0, none⟩ = some (.pointer (some ⟨B, 0, none⟩)) ∧ U'.cell? ⟨h2, 0, none⟩ = some (.pointer (some ⟨b, 0, none⟩)) ∧ U'.cell? ⟨dv, 1, none⟩ = some (.int .i64 j) ∧ U'.cell? ⟨dv, 2, none⟩ = some (.int .i64 v) ∧ U'.cell? ⟨B, 2, none⟩ = some (.slice (some ⟨cg, 0, none⟩) zs.length cc) ∧ U'.cell? ⟨cg, j, none⟩ = some (.pointer (some ⟨z.C, 0, none⟩))) ∧ Hid (Pn U'))) := hide (fun V hV => by
        obtain ⟨l8, w8, y8⟩ := WD7.out.below hL7.out hV
        have bx8 := BX7.out.keep y8.agr y8.sub
        have hL8 := Nat.le_trans hL7.out y8.tb.size
        refine ((wrecv w8 hL8 Hpq.out rfl Hb.out Hz.out Hm.out (go_t4 bx8 Hat.out))).mono ?_
        rintro e W ⟨rfl, l9, w9, y9⟩
        exact ⟨rfl, HSC.out _ _ _ _ w9 (y8.trans y9), hide (HN.out W _ l9 w9 (y8.trans y9) (by simp [Sg.acts]))⟩)
      clear HN HSC WD7 BX7 Hz Hj
      go_wp2_with (rw [← hY2.out, hnb.out])
      go_region_held3 (fun V => (V.cell? ⟨h1, 0, none⟩ = some (.pointer (some ⟨B, 0, none⟩)) ∧ V.cell? ⟨h2, 0, none⟩ = some (.pointer (some ⟨b, 0, none⟩)) ∧ V.cell? ⟨dv, 1, none⟩ = some (.int .i64 j) ∧ V.cell? ⟨dv, 2, none⟩ = some (.int .i64 v) ∧ V.cell? ⟨B, 2, none⟩ = some (.slice (some ⟨cg, 0, none⟩) zs.length cc) ∧ V.cell? ⟨cg, j, none⟩ = some (.pointer (some ⟨z.C, 0, none⟩))))
        (first | exact S0 | exact e1)
        (first | (go_at_call 27; refine (HY.out _ ?_).mono ?_; (first | exact (Below.refl _ _).drew | assumption); rintro e W ⟨rfl, e1, HNN⟩) | (go_at_call 97; refine (HNN.out _ ?_).mono ?_; (first | exact Below.refl _ _ | exact (Below.refl _ _).drew | assumption); rintro e W9 ⟨rfl, e1, hPW⟩))
      all_goals
        go_wp2_with fail
        go_end0
        exact ⟨rfl, hPW.out⟩
    by_cases k4 : k = 4
    · subst k4
      obtain ⟨q, hq⟩ : ∃ q : Int, Hid (q = if (σ1.close j).1 then 0 else 150) := ⟨_, hide rfl⟩
      have HC : Hid (∀ V, Below Y2.heap.size Y2 V → Calls Tryz.prog 33 #[.pointer (some ⟨z.C, 0, none⟩)] V fun e W => e = .returned (.int .i64 q) ∧ (W.cell? ⟨h1, 0, none⟩ = some (.pointer (some ⟨B, 0, none⟩)) ∧ W.cell? ⟨h2, 0, none⟩ = some (.pointer (some ⟨b, 0, none⟩)) ∧ W.cell? ⟨dv, 1, none⟩ = some (.int .i64 j) ∧ W.cell? ⟨dv, 2, none⟩ = some (.int .i64 v) ∧ W.cell? ⟨B, 2, none⟩ = some (.slice (some ⟨cg, 0, none⟩) zs.length cc) ∧ W.cell? ⟨cg, j, none⟩ = some (.pointer (some ⟨z.C, 0, none⟩))) ∧ Hid (∀ g o, Y2.heap.size ≤ g → V.heap[g]? = some o → W.heap[g]? = some o) ∧ Hid (∀ g U, Y2.heap.size ≤ g → (g < V.heap.size ∧ (∀ f, ¬ Tkt V g f) ∨ W.heap.size ≤ g) → Tb (fun k => k = g) W U → U.heap[g]? = some (.cells #[.int .i64 q] (55 : TypeId) (0, 0)) → (U.cell? ⟨h1, 0, none⟩ = some (.pointer (some ⟨B, 0, none⟩)) ∧ U.cell? ⟨h2, 0, none⟩ = some (.pointer (some ⟨b, 0, none⟩)) ∧ U.cell? ⟨dv, 1, none⟩ = some (.int .i64 j) ∧ U.cell? ⟨dv, 2, none⟩ = some (.int .i64 v) ∧ U.cell? ⟨B, 2, none⟩ = some (.slice (some ⟨cg, 0, none⟩) zs.length cc) ∧ U.cell? ⟨cg, j, none⟩ = some (.pointer (some ⟨z.C, 0, none⟩))) ∧ Hid (∀ U2, Below U.heap.size U U2 → Calls Tryz.prog 72 #[.pointer (some ⟨b, 0, none⟩), .func (.func 101) #[] #[.pointer (some ⟨nb, 0, none⟩), .pointer (some ⟨g, 0, none⟩)]] U2 fun e W => e = .returned (.int .i64 0) ∧ (W.cell? ⟨h1, 0, none⟩ = some (.pointer (some ⟨B, 0, none⟩)) ∧ W.cell? ⟨h2, 0, none⟩ = some (.pointer (some ⟨b, 0, none⟩)) ∧ W.cell? ⟨dv, 1, none⟩ = some (.int .i64 j) ∧ W.cell? ⟨dv, 2, none⟩ = some (.int .i64 v) ∧ W.cell? ⟨B, 2, none⟩ = some (.slice (some ⟨cg, 0, none⟩) zs.length cc) ∧ W.cell? ⟨cg, j, none⟩ = some (.pointer (some ⟨z.C, 0, none⟩))) ∧ Hid (∀ U, Below W.heap.size W U → Calls Tryz.prog 97 #[.pointer (some ⟨B, 0, none⟩), .int .i64 0] U fun e U' => e = .returned (.tuple #[]) ∧ (U'.cell? ⟨h1, 0, none⟩ = some (.pointer (some ⟨B, 0, none⟩)) ∧ U'.cell? ⟨h2, 0, none⟩ = some (.pointer (some ⟨b, 0, none⟩)) ∧ U'.cell? ⟨dv, 1, none⟩ = some (.int .i64 j) ∧ U'.cell? ⟨dv, 2, none⟩ = some (.int .i64 v) ∧ U'.cell? ⟨B, 2, none⟩ = some (.slice (some ⟨cg, 0, none⟩) zs.length cc) ∧ U'.cell? ⟨cg, j, none⟩ = some (.pointer (some ⟨z.C, 0, none⟩))) ∧ Hid (Pn U')))) ∧ Hid (Y2.heap.size ≤ W.heap.size)) := hide (fun V hV => by
        obtain ⟨l8, w8, y8, n8⟩ := WD7.out.below2 hL7.out hV
        have hL8 := Nat.le_trans hL7.out y8.tb.size
        have CW := wclose w8 hL8 Hz.out
        rw [← hq.out] at CW
        refine CW.mono ?_
        rintro e W ⟨rfl, l9, w9, y9⟩
        have y79 := y8.trans y9
        refine ⟨rfl, HSC.out _ _ _ _ w9 y79, hide (fun g o hg ho => (y9.row (n8 g (WD7.out.fresh hg)) (heap_lt ho)).1.trans ho), hide (fun g U hg hgl tU hrow => ?_), hide y79.tb.size⟩
        have hg9 : l9 g = none ∧ ∀ f, ¬ Tkt W g f := by
          rcases hgl with ⟨h1, h2⟩ | h1
          · obtain ⟨r1, r2, r3⟩ := y9.row (n8 g (WD7.out.fresh hg)) h1
            exact ⟨r2, fun f hf => h2 f (by unfold Tkt at hf ⊢; rwa [r1] at hf)⟩
          · exact ⟨w9.fresh h1, fun f hf => by have := hf.lt; omega⟩
        obtain ⟨wU, yU⟩ := w9.turned tU hg9.1 hg9.2
        have y7U := yU Y2 lab7 y79 hg
        have hgL : L ≤ g := Nat.le_trans hL7.out hg
        have w10 := wU.claim (N := fun k => k = g) (fun k hk => by subst hk; exact ⟨hg9.1, hgL, heap_lt hrow⟩)
        have y10 := y7U.claim (N := fun k => k = g) (fun k hk => by subst hk; exact hg)
        have hg10 : relab l9 .fz (fun k => l9 k = some .fz ∨ k = g) g = some .fz := relab_same.2 (.inr rfl)
        refine ⟨HSC.out _ _ _ _ wU y7U, hide (fun U2 hU2 => ?_)⟩
        obtain ⟨l11, w11, y11⟩ := w10.below (Nat.le_trans hL7.out y10.tb.size) hU2
        have ya := y10.trans y11
        have bx := BX7.out.keep ya.agr ya.sub
        have hgr := y11.keep1 hg10 hrow
        refine (wyield (w11.mono (Nat.le_succ m)) (Nat.le_trans hL7.out ya.tb.size) (close_tk w8.ok Hpq.out rfl (w8.jlt Hj.out)) rfl Hb.out (go_t5 bx Hat.out (ok := (σ1.close j).1) (y11.fz _ hg10).1 (by rw [← hq.out]; exact hgr))).mono ?_
        rintro e W3 ⟨rfl, l12, w12, y12⟩
        exact ⟨rfl, HSC.out _ _ _ _ w12 (ya.trans y12), hide (HN.out W3 _ l12 w12 (ya.trans y12) (by simp [Sg.acts]))⟩)
      clear HN HSC WD7 BX7 Hz Hj
      obtain ⟨Y3, hY3⟩ : ∃ Y3, Hid (Y3 = (Y2.alloc (.cells #[.int .i64 0] (55 : TypeId))).drew) := ⟨_, hide rfl⟩
      have bY3 : Below Y2.heap.size Y2 Y3 := by rw [hY3.out]; exact ((Below.refl _ Y2).alloc (Nat.le_refl _) _).drew
      have rY3 : Y3.heap[Y2.heap.size]? = some (.cells #[.int .i64 0] (55 : TypeId) (0, 0)) := by rw [hY3.out]; exact heap_alloc_new Y2 _
      have HC2 : Hid (Calls Tryz.prog 33 #[.pointer (some ⟨z.C, 0, none⟩)] (Y2.alloc (.cells #[.int .i64 0] (55 : TypeId))).drew fun e W => e = .returned (.int .i64 q) ∧ (W.cell? ⟨h1, 0, none⟩ = some (.pointer (some ⟨B, 0, none⟩)) ∧ W.cell? ⟨h2, 0, none⟩ = some (.pointer (some ⟨b, 0, none⟩)) ∧ W.cell? ⟨dv, 1, none⟩ = some (.int .i64 j) ∧ W.cell? ⟨dv, 2, none⟩ = some (.int .i64 v) ∧ W.cell? ⟨B, 2, none⟩ = some (.slice (some ⟨cg, 0, none⟩) zs.length cc) ∧ W.cell? ⟨cg, j, none⟩ = some (.pointer (some ⟨z.C, 0, none⟩))) ∧ (W.cell? ⟨Y2.heap.size, 0, none⟩ = some (.int .i64 0) ∧ W.frozen? ⟨Y2.heap.size, 0, none⟩ = false) ∧ Hid (W.heap[Y2.heap.size]? = some (.cells #[.int .i64 0] (55 : TypeId) (0, 0)) ∧ ∀ U, Tb (fun k => k = Y2.heap.size) W U → U.heap[Y2.heap.size]? = some (.cells #[.int .i64 q] (55 : TypeId) (0, 0)) → ((U.cell? ⟨h1, 0, none⟩ = some (.pointer (some ⟨B, 0, none⟩)) ∧ U.cell? ⟨h2, 0, none⟩ = some (.pointer (some ⟨b, 0, none⟩)) ∧ U.cell? ⟨dv, 1, none⟩ = some (.int .i64 j) ∧ U.cell? ⟨dv, 2, none⟩ = some (.int .i64 v) ∧ U.cell? ⟨B, 2, none⟩ = some (.slice (some ⟨cg, 0, none⟩) zs.length cc) ∧ U.cell? ⟨cg, j, none⟩ = some (.pointer (some ⟨z.C, 0, none⟩))) ∧ Hid (∀ U2, Below U.heap.size U U2 → Calls Tryz.prog 72 #[.pointer (some ⟨b, 0, none⟩), .func (.func 101) #[] #[.pointer (some ⟨nb, 0, none⟩), .pointer (some ⟨Y2.heap.size, 0, none⟩)]] U2 fun e W => e = .returned (.int .i64 0) ∧ (W.cell? ⟨h1, 0, none⟩ = some (.pointer (some ⟨B, 0, none⟩)) ∧ W.cell? ⟨h2, 0, none⟩ = some (.pointer (some ⟨b, 0, none⟩)) ∧ W.cell? ⟨dv, 1, none⟩ = some (.int .i64 j) ∧ W.cell? ⟨dv, 2, none⟩ = some (.int .i64 v) ∧ W.cell? ⟨B, 2, none⟩ = some (.slice (some ⟨cg, 0, none⟩) zs.length cc) ∧ W.cell? ⟨cg, j, none⟩ = some (.pointer (some ⟨z.C, 0, none⟩))) ∧ Hid (∀ U, Below W.heap.size W U → Calls Tryz.prog 97 #[.pointer (some ⟨B, 0, none⟩), .int .i64 0] U fun e U' => e = .returned (.tuple #[]) ∧ (U'.cell? ⟨h1, 0, none⟩ = some (.pointer (some ⟨B, 0, none⟩)) ∧ U'.cell? ⟨h2, 0, none⟩ = some (.pointer (some ⟨b, 0, none⟩)) ∧ U'.cell? ⟨dv, 1, none⟩ = some (.int .i64 j) ∧ U'.cell? ⟨dv, 2, none⟩ = some (.int .i64 v) ∧ U'.cell? ⟨B, 2, none⟩ = some (.slice (some ⟨cg, 0, none⟩) zs.length cc) ∧ U'.cell? ⟨cg, j, none⟩ = some (.pointer (some ⟨z.C, 0, none⟩))) ∧ Hid (Pn U')))))) := hide (by
        rw [← hY3.out]
        refine (HC.out Y3 bY3).mono ?_
        rintro e W ⟨rfl, h1, h2, h3, _⟩
        have hw := h2.out _ _ (Nat.le_refl _) rY3
        exact ⟨rfl, h1, ⟨cell_of_row _ _ 0 _ _ _ hw, frozen_of_row _ _ 0 _ _ hw⟩, hide ⟨hw, fun U tU hU => h3.out _ U (Nat.le_refl _) (.inl ⟨heap_lt rY3, fun f hf => by unfold Tkt at hf; rw [rY3] at hf; simp only [Option.some.injEq, Obj.cells.injEq] at hf; exact absurd hf.2.1 (by decide)⟩) tU hU⟩⟩)
      clear hY3 bY3 rY3
      go_wp2_with (rw [← hY2.out, hnb.out])
      go_region_held3 (fun V => (V.cell? ⟨h1, 0, none⟩ = some (.pointer (some ⟨B, 0, none⟩)) ∧ V.cell? ⟨h2, 0, none⟩ = some (.pointer (some ⟨b, 0, none⟩)) ∧ V.cell? ⟨dv, 1, none⟩ = some (.int .i64 j) ∧ V.cell? ⟨dv, 2, none⟩ = some (.int .i64 v) ∧ V.cell? ⟨B, 2, none⟩ = some (.slice (some ⟨cg, 0, none⟩) zs.length cc) ∧ V.cell? ⟨cg, j, none⟩ = some (.pointer (some ⟨z.C, 0, none⟩))))
        (first | exact S0 | exact e1 | exact kc6b e1 | exact kc6c S0 e1 | exact kc6a e1 | exact kc6a S0)
        (first | (go_at_call 33; refine HC2.out.mono ?_; rintro e W ⟨rfl, e1, ⟨eb, ef⟩, HU⟩) | (go_at_call 33; refine (HC.out _ (Below.refl _ _).drew).mono ?_; rintro e W ⟨rfl, e1, _, HU, hzW⟩))
      · obtain ⟨e2, HY⟩ := HU.out W.heap.size (W.alloc (.cells #[.int .i64 q] (55 : TypeId))) hzW.out (.inr (Nat.le_refl _)) (Tb.of_fresh ((Below.refl _ W).alloc (Nat.le_refl _) _)) (heap_alloc_new W _)
        clear HU e1
        go_wp2_with fail
        go_region_held3 (fun V => (V.cell? ⟨h1, 0, none⟩ = some (.pointer (some ⟨B, 0, none⟩)) ∧ V.cell? ⟨h2, 0, none⟩ = some (.pointer (some ⟨b, 0, none⟩)) ∧ V.cell? ⟨dv, 1, none⟩ = some (.int .i64 j) ∧ V.cell? ⟨dv, 2, none⟩ = some (.int .i64 v) ∧ V.cell? ⟨B, 2, none⟩ = some (.slice (some ⟨cg, 0, none⟩) zs.length cc) ∧ V.cell? ⟨cg, j, none⟩ = some (.pointer (some ⟨z.C, 0, none⟩))))
          (first | exact e2 | exact e1)
          (first | (go_at_call 72; refine (HY.out _ ?_).mono ?_; (first | exact (Below.refl _ _).drew | assumption); rintro e W3 ⟨rfl, e1, HNN⟩) | (go_at_call 97; refine (HNN.out _ ?_).mono ?_; (first | exact Below.refl _ _ | exact (Below.refl _ _).drew | assumption); rintro e W9 ⟨rfl, e1, hPW⟩))
        all_goals
          go_wp2_with fail
          go_end0
          exact ⟨rfl, hPW.out⟩
      · obtain ⟨e2, HY⟩ := HU.out.2 (W.setCell ⟨Y2.heap.size, 0, none⟩ (.int .i64 q)) (Tb.set _ _ _ rfl) (by rw [heap_setCell_same W _ 0 _ _ _ HU.out.1]; rfl)
        clear HU e1
        go_wp2_with fail
        go_region_held3 (fun V => (V.cell? ⟨h1, 0, none⟩ = some (.pointer (some ⟨B, 0, none⟩)) ∧ V.cell? ⟨h2, 0, none⟩ = some (.pointer (some ⟨b, 0, none⟩)) ∧ V.cell? ⟨dv, 1, none⟩ = some (.int .i64 j) ∧ V.cell? ⟨dv, 2, none⟩ = some (.int .i64 v) ∧ V.cell? ⟨B, 2, none⟩ = some (.slice (some ⟨cg, 0, none⟩) zs.length cc) ∧ V.cell? ⟨cg, j, none⟩ = some (.pointer (some ⟨z.C, 0, none⟩))))
          (first | exact e2 | exact e1)
          (first | (go_at_call 72; refine (HY.out _ ?_).mono ?_; (first | exact (Below.refl _ _).drew | assumption); rintro e W3 ⟨rfl, e1, HNN⟩) | (go_at_call 97; refine (HNN.out _ ?_).mono ?_; (first | exact Below.refl _ _ | exact (Below.refl _ _).drew | assumption); rintro e W9 ⟨rfl, e1, hPW⟩))
        all_goals
          go_wp2_with fail
          go_end0
          exact ⟨rfl, hPW.out⟩
    by_cases k6 : k = 6
    · subst k6
      obtain ⟨q, cn, σ2, hqc, h2t, h2a, h2q, h2c, h2s⟩ := try6 WD7.out.ok Hpq.out rfl (WD7.out.jlt Hj.out) v
      have HC : Hid (∀ V, Below Y2.heap.size Y2 V → Calls Tryz.prog 29 #[.pointer (some ⟨z.C, 0, none⟩), .int .i64 v] V fun e W => e = .returned (.tuple #[.bool q, .bool cn]) ∧ (W.cell? ⟨h1, 0, none⟩ = some (.pointer (some ⟨B, 0, none⟩)) ∧ W.cell? ⟨h2, 0, none⟩ = some (.pointer (some ⟨b, 0, none⟩)) ∧ W.cell? ⟨dv, 1, none⟩ = some (.int .i64 j) ∧ W.cell? ⟨dv, 2, none⟩ = some (.int .i64 v) ∧ W.cell? ⟨B, 2, none⟩ = some (.slice (some ⟨cg, 0, none⟩) zs.length cc) ∧ W.cell? ⟨cg, j, none⟩ = some (.pointer (some ⟨z.C, 0, none⟩))) ∧ Hid (∀ g o, Y2.heap.size ≤ g → V.heap[g]? = some o → W.heap[g]? = some o) ∧ Hid (∀ g U, Y2.heap.size ≤ g → (g < V.heap.size ∧ (∀ f, ¬ Tkt V g f) ∨ W.heap.size ≤ g) → Tb (fun k => k = g) W U → U.heap[g]? = some (.cells #[.bool q] 4 (0, 0)) → Hid (∃ ev, U.heap[B]? = some (.cells #[.pointer (some ⟨R, 0, none⟩), .slice (some ⟨pb, po, none⟩) np pcap, .slice (some ⟨cg, 0, none⟩) zs.length cc, tvv, ev, .bool false] (36 : TypeId) (0, 0))) ∧ (U.cell? ⟨h1, 0, none⟩ = some (.pointer (some ⟨B, 0, none⟩)) ∧ U.cell? ⟨h2, 0, none⟩ = some (.pointer (some ⟨b, 0, none⟩)) ∧ U.cell? ⟨dv, 1, none⟩ = some (.int .i64 j) ∧ U.cell? ⟨dv, 2, none⟩ = some (.int .i64 v) ∧ U.cell? ⟨B, 2, none⟩ = some (.slice (some ⟨cg, 0, none⟩) zs.length cc) ∧ U.cell? ⟨cg, j, none⟩ = some (.pointer (some ⟨z.C, 0, none⟩))) ∧ Hid (∀ U2, Below U.heap.size U U2 → Calls Tryz.prog 72 #[.pointer (some ⟨b, 0, none⟩), .func (.func 102) #[] #[.pointer (some ⟨nb, 0, none⟩), .pointer (some ⟨g, 0, none⟩)]] U2 fun e W => e = .returned (.int .i64 0) ∧ (W.cell? ⟨h1, 0, none⟩ = some (.pointer (some ⟨B, 0, none⟩)) ∧ W.cell? ⟨h2, 0, none⟩ = some (.pointer (some ⟨b, 0, none⟩)) ∧ W.cell? ⟨dv, 1, none⟩ = some (.int .i64 j) ∧ W.cell? ⟨dv, 2, none⟩ = some (.int .i64 v) ∧ W.cell? ⟨B, 2, none⟩ = some (.slice (some ⟨cg, 0, none⟩) zs.length cc) ∧ W.cell? ⟨cg, j, none⟩ = some (.pointer (some ⟨z.C, 0, none⟩))) ∧ Hid (∀ U, Below W.heap.size W U → Calls Tryz.prog 97 #[.pointer (some ⟨B, 0, none⟩), .int .i64 0] U fun e U' => e = .returned (.tuple #[]) ∧ (U'.cell? ⟨h1, 0, none⟩ = some (.pointer (some ⟨B, 0, none⟩)) ∧ U'.cell? ⟨h2, 0, none⟩ = some (.pointer (some ⟨b, 0, none⟩)) ∧ U'.cell? ⟨dv, 1, none⟩ = some (.int .i64 j) ∧ U'.cell? ⟨dv, 2, none⟩ = some (.int .i64 v) ∧ U'.cell? ⟨B, 2, none⟩ = some (.slice (some ⟨cg, 0, none⟩) zs.length cc) ∧ U'.cell? ⟨cg, j, none⟩ = some (.pointer (some ⟨z.C, 0, none⟩))) ∧ Hid (Pn U')))) ∧ Hid (Y2.heap.size ≤ W.heap.size)) := hide (fun V hV => by
        obtain ⟨l8, w8, y8, n8⟩ := WD7.out.below2 hL7.out hV
        have hL8 := Nat.le_trans hL7.out y8.tb.size
        have CW := wtrySend w8 hL8 Hz.out v
        rw [h2q, h2s, h2c] at CW
        refine CW.mono ?_
        rintro e W ⟨rfl, l9, w9, y9⟩
        have y79 := y8.trans y9
        refine ⟨rfl, HSC.out _ _ _ _ w9 y79, hide (fun g o hg ho => (y9.row (n8 g (WD7.out.fresh hg)) (heap_lt ho)).1.trans ho), hide (fun g U hg hgl tU hrow => ?_), hide y79.tb.size⟩
        have hg9 : l9 g = none ∧ ∀ f, ¬ Tkt W g f := by
          rcases hgl with ⟨h1, h2⟩ | h1
          · obtain ⟨r1, r2, r3⟩ := y9.row (n8 g (WD7.out.fresh hg)) h1
            exact ⟨r2, fun f hf => h2 f (by unfold Tkt at hf ⊢; rwa [r1] at hf)⟩
          · exact ⟨w9.fresh h1, fun f hf => by have := hf.lt; omega⟩
        obtain ⟨wU, yU⟩ := w9.turned tU hg9.1 hg9.2
        have y7U := yU Y2 lab7 y79 hg
        have hgL : L ≤ g := Nat.le_trans hL7.out hg
        have w10 := wU.claim (N := fun k => k = g) (fun k hk => by subst hk; exact ⟨hg9.1, hgL, heap_lt hrow⟩)
        have y10 := y7U.claim (N := fun k => k = g) (fun k hk => by subst hk; exact hg)
        have hg10 : relab l9 .fz (fun k => l9 k = some .fz ∨ k = g) g = some .fz := relab_same.2 (.inr rfl)
        refine ⟨hide (by obtain ⟨ev, hB, _⟩ := wU.blk; exact ⟨ev, hB⟩), HSC.out _ _ _ _ wU y7U, hide (fun U2 hU2 => ?_)⟩
        obtain ⟨l11, w11, y11⟩ := w10.below (Nat.le_trans hL7.out y10.tb.size) hU2
        have ya := y10.trans y11
        have bx := BX7.out.keep ya.agr ya.sub
        have hgr := y11.keep1 hg10 hrow
        refine (wyield (w11.mono (Nat.le_succ m)) (Nat.le_trans hL7.out ya.tb.size) (h2t) rfl Hb.out (go_t6 bx Hat.out (ok := q) (y11.fz _ hg10).1 hgr)).mono ?_
        rintro e W3 ⟨rfl, l12, w12, y12⟩
        exact ⟨rfl, HSC.out _ _ _ _ w12 (ya.trans y12), hide (HN.out W3 _ l12 w12 (ya.trans y12) (h2a))⟩)
      clear HN HSC WD7 BX7 Hz Hj h2t h2a h2q h2c h2s
      obtain ⟨Y3, hY3⟩ : ∃ Y3, Hid (Y3 = (Y2.alloc (.cells #[.bool false] 4)).drew) := ⟨_, hide rfl⟩
      have bY3 : Below Y2.heap.size Y2 Y3 := by rw [hY3.out]; exact ((Below.refl _ Y2).alloc (Nat.le_refl _) _).drew
      have rY3 : Y3.heap[Y2.heap.size]? = some (.cells #[.bool false] 4 (0, 0)) := by rw [hY3.out]; exact heap_alloc_new Y2 _
      have HC2 : Hid (Calls Tryz.prog 29 #[.pointer (some ⟨z.C, 0, none⟩), .int .i64 v] (Y2.alloc (.cells #[.bool false] 4)).drew fun e W => e = .returned (.tuple #[.bool q, .bool cn]) ∧ (W.cell? ⟨h1, 0, none⟩ = some (.pointer (some ⟨B, 0, none⟩)) ∧ W.cell? ⟨h2, 0, none⟩ = some (.pointer (some ⟨b, 0, none⟩)) ∧ W.cell? ⟨dv, 1, none⟩ = some (.int .i64 j) ∧ W.cell? ⟨dv, 2, none⟩ = some (.int .i64 v) ∧ W.cell? ⟨B, 2, none⟩ = some (.slice (some ⟨cg, 0, none⟩) zs.length cc) ∧ W.cell? ⟨cg, j, none⟩ = some (.pointer (some ⟨z.C, 0, none⟩))) ∧ (W.cell? ⟨Y2.heap.size, 0, none⟩ = some (.bool false) ∧ W.frozen? ⟨Y2.heap.size, 0, none⟩ = false) ∧ Hid (W.heap[Y2.heap.size]? = some (.cells #[.bool false] 4 (0, 0)) ∧ ∀ U, Tb (fun k => k = Y2.heap.size) W U → U.heap[Y2.heap.size]? = some (.cells #[.bool q] 4 (0, 0)) → (Hid (∃ ev, U.heap[B]? = some (.cells #[.pointer (some ⟨R, 0, none⟩), .slice (some ⟨pb, po, none⟩) np pcap, .slice (some ⟨cg, 0, none⟩) zs.length cc, tvv, ev, .bool false] (36 : TypeId) (0, 0))) ∧ (U.cell? ⟨h1, 0, none⟩ = some (.pointer (some ⟨B, 0, none⟩)) ∧ U.cell? ⟨h2, 0, none⟩ = some (.pointer (some ⟨b, 0, none⟩)) ∧ U.cell? ⟨dv, 1, none⟩ = some (.int .i64 j) ∧ U.cell? ⟨dv, 2, none⟩ = some (.int .i64 v) ∧ U.cell? ⟨B, 2, none⟩ = some (.slice (some ⟨cg, 0, none⟩) zs.length cc) ∧ U.cell? ⟨cg, j, none⟩ = some (.pointer (some ⟨z.C, 0, none⟩))) ∧ Hid (∀ U2, Below U.heap.size U U2 → Calls Tryz.prog 72 #[.pointer (some ⟨b, 0, none⟩), .func (.func 102) #[] #[.pointer (some ⟨nb, 0, none⟩), .pointer (some ⟨Y2.heap.size, 0, none⟩)]] U2 fun e W => e = .returned (.int .i64 0) ∧ (W.cell? ⟨h1, 0, none⟩ = some (.pointer (some ⟨B, 0, none⟩)) ∧ W.cell? ⟨h2, 0, none⟩ = some (.pointer (some ⟨b, 0, none⟩)) ∧ W.cell? ⟨dv, 1, none⟩ = some (.int .i64 j) ∧ W.cell? ⟨dv, 2, none⟩ = some (.int .i64 v) ∧ W.cell? ⟨B, 2, none⟩ = some (.slice (some ⟨cg, 0, none⟩) zs.length cc) ∧ W.cell? ⟨cg, j, none⟩ = some (.pointer (some ⟨z.C, 0, none⟩))) ∧ Hid (∀ U, Below W.heap.size W U → Calls Tryz.prog 97 #[.pointer (some ⟨B, 0, none⟩), .int .i64 0] U fun e U' => e = .returned (.tuple #[]) ∧ (U'.cell? ⟨h1, 0, none⟩ = some (.pointer (some ⟨B, 0, none⟩)) ∧ U'.cell? ⟨h2, 0, none⟩ = some (.pointer (some ⟨b, 0, none⟩)) ∧ U'.cell? ⟨dv, 1, none⟩ = some (.int .i64 j) ∧ U'.cell? ⟨dv, 2, none⟩ = some (.int .i64 v) ∧ U'.cell? ⟨B, 2, none⟩ = some (.slice (some ⟨cg, 0, none⟩) zs.length cc) ∧ U'.cell? ⟨cg, j, none⟩ = some (.pointer (some ⟨z.C, 0, none⟩))) ∧ Hid (Pn U')))))) := hide (by
        rw [← hY3.out]
        refine (HC.out Y3 bY3).mono ?_
        rintro e W ⟨rfl, h1, h2, h3, _⟩
        have hw := h2.out _ _ (Nat.le_refl _) rY3
        exact ⟨rfl, h1, ⟨cell_of_row _ _ 0 _ _ _ hw, frozen_of_row _ _ 0 _ _ hw⟩, hide ⟨hw, fun U tU hU => h3.out _ U (Nat.le_refl _) (.inl ⟨heap_lt rY3, fun f hf => by unfold Tkt at hf; rw [rY3] at hf; simp only [Option.some.injEq, Obj.cells.injEq] at hf; exact absurd hf.2.1 (by decide)⟩) tU hU⟩⟩)
      clear hY3 bY3 rY3
      go_wp2_with (rw [← hY2.out, hnb.out])
      go_region_held3 (fun V => (V.cell? ⟨h1, 0, none⟩ = some (.pointer (some ⟨B, 0, none⟩)) ∧ V.cell? ⟨h2, 0, none⟩ = some (.pointer (some ⟨b, 0, none⟩)) ∧ V.cell? ⟨dv, 1, none⟩ = some (.int .i64 j) ∧ V.cell? ⟨dv, 2, none⟩ = some (.int .i64 v) ∧ V.cell? ⟨B, 2, none⟩ = some (.slice (some ⟨cg, 0, none⟩) zs.length cc) ∧ V.cell? ⟨cg, j, none⟩ = some (.pointer (some ⟨z.C, 0, none⟩))))
        (first | exact S0 | exact e1 | exact kc6b e1 | exact kc6c S0 e1 | exact kc6a e1 | exact kc6a S0)
        (first | (go_at_call 29; refine HC2.out.mono ?_; rintro e W ⟨rfl, e1, ⟨eb, ef⟩, HU⟩) | (go_at_call 29; refine (HC.out _ (Below.refl _ _).drew).mono ?_; rintro e W ⟨rfl, e1, _, HU, hzW⟩))
      · obtain ⟨hFB, e2, HY⟩ := HU.out W.heap.size (W.alloc (.cells #[.bool q] 4)) hzW.out (.inr (Nat.le_refl _)) (Tb.of_fresh ((Below.refl _ W).alloc (Nat.le_refl _) _)) (heap_alloc_new W _)
        have ebr := heap_alloc_new W (.cells #[.bool q] 4)
        obtain ⟨ev, hBB⟩ := hFB.out
        have ebc := cell_of_row _ _ 0 _ _ _ ebr
        generalize W.alloc (Obj.cells #[Value.bool q] 4) = U at *
        generalize W.heap.size = g at *
        have c5 := cell_of_row _ _ 5 _ _ _ hBB
        have f5 := frozen_of_row _ _ 5 _ _ hBB
        have HSelf : Hid (∀ n, (U.drewN n).setCell ⟨B, 5, none⟩ (.bool false) = U.drewN n) := hide (fun n => setCell_self (show (U.drewN n).heap[B]? = _ from hBB) rfl)
        have c1 := e2.1
        clear HU e1 hBB ebr hFB
        cases q
        · go_wp2_with fail
          go_quiet (exact ⟨HSelf.out _, rfl⟩)
          obtain ⟨U3, hU3⟩ : ∃ U3, Hid (U3 = U.drewN nq) := ⟨_, hide rfl⟩
          rw [← hU3.out]
          have bU : Below U.heap.size U U3 := by rw [hU3.out]; exact below_drewN (Below.refl _ _) _
          have HY3 := hide (fun U2 (h : Below U3.heap.size U3 U2) => HY.out U2 (bU.trans (h.mono bU.size)))
          have e3 : (U3.cell? ⟨h1, 0, none⟩ = some (.pointer (some ⟨B, 0, none⟩)) ∧ U3.cell? ⟨h2, 0, none⟩ = some (.pointer (some ⟨b, 0, none⟩)) ∧ U3.cell? ⟨dv, 1, none⟩ = some (.int .i64 j) ∧ U3.cell? ⟨dv, 2, none⟩ = some (.int .i64 v) ∧ U3.cell? ⟨B, 2, none⟩ = some (.slice (some ⟨cg, 0, none⟩) zs.length cc) ∧ U3.cell? ⟨cg, j, none⟩ = some (.pointer (some ⟨z.C, 0, none⟩))) := by rw [hU3.out]; exact e2
          clear HY HSelf e2 c1 c5 f5 ebc bU hU3
          go_wp2_with fail
          go_region_held3 (fun V => (V.cell? ⟨h1, 0, none⟩ = some (.pointer (some ⟨B, 0, none⟩)) ∧ V.cell? ⟨h2, 0, none⟩ = some (.pointer (some ⟨b, 0, none⟩)) ∧ V.cell? ⟨dv, 1, none⟩ = some (.int .i64 j) ∧ V.cell? ⟨dv, 2, none⟩ = some (.int .i64 v) ∧ V.cell? ⟨B, 2, none⟩ = some (.slice (some ⟨cg, 0, none⟩) zs.length cc) ∧ V.cell? ⟨cg, j, none⟩ = some (.pointer (some ⟨z.C, 0, none⟩))))
            (first | exact e3 | exact e1)
            (first | (go_at_call 72; refine (HY3.out _ ?_).mono ?_; (first | exact (Below.refl _ _).drew | assumption); rintro e W3 ⟨rfl, e1, HNN⟩) | (go_at_call 97; refine (HNN.out _ ?_).mono ?_; (first | exact Below.refl _ _ | exact (Below.refl _ _).drew | assumption); rintro e W9 ⟨rfl, e1, hPW⟩))
          all_goals
            go_wp2_with fail
            go_end0
            exact ⟨rfl, hPW.out⟩
        · obtain rfl := hqc rfl
          go_wp2_with fail
          go_quiet (exact ⟨HSelf.out _, rfl⟩)
          obtain ⟨U3, hU3⟩ : ∃ U3, Hid (U3 = U.drewN nq) := ⟨_, hide rfl⟩
          rw [← hU3.out]
          have bU : Below U.heap.size U U3 := by rw [hU3.out]; exact below_drewN (Below.refl _ _) _
          have HY3 := hide (fun U2 (h : Below U3.heap.size U3 U2) => HY.out U2 (bU.trans (h.mono bU.size)))
          have e3 : (U3.cell? ⟨h1, 0, none⟩ = some (.pointer (some ⟨B, 0, none⟩)) ∧ U3.cell? ⟨h2, 0, none⟩ = some (.pointer (some ⟨b, 0, none⟩)) ∧ U3.cell? ⟨dv, 1, none⟩ = some (.int .i64 j) ∧ U3.cell? ⟨dv, 2, none⟩ = some (.int .i64 v) ∧ U3.cell? ⟨B, 2, none⟩ = some (.slice (some ⟨cg, 0, none⟩) zs.length cc) ∧ U3.cell? ⟨cg, j, none⟩ = some (.pointer (some ⟨z.C, 0, none⟩))) := by rw [hU3.out]; exact e2
          clear HY HSelf e2 c1 c5 f5 ebc bU hU3
          go_wp2_with fail
          go_region_held3 (fun V => (V.cell? ⟨h1, 0, none⟩ = some (.pointer (some ⟨B, 0, none⟩)) ∧ V.cell? ⟨h2, 0, none⟩ = some (.pointer (some ⟨b, 0, none⟩)) ∧ V.cell? ⟨dv, 1, none⟩ = some (.int .i64 j) ∧ V.cell? ⟨dv, 2, none⟩ = some (.int .i64 v) ∧ V.cell? ⟨B, 2, none⟩ = some (.slice (some ⟨cg, 0, none⟩) zs.length cc) ∧ V.cell? ⟨cg, j, none⟩ = some (.pointer (some ⟨z.C, 0, none⟩))))
            (first | exact e3 | exact e1)
            (first | (go_at_call 72; refine (HY3.out _ ?_).mono ?_; (first | exact (Below.refl _ _).drew | assumption); rintro e W3 ⟨rfl, e1, HNN⟩) | (go_at_call 97; refine (HNN.out _ ?_).mono ?_; (first | exact Below.refl _ _ | exact (Below.refl _ _).drew | assumption); rintro e W9 ⟨rfl, e1, hPW⟩))
          all_goals
            go_wp2_with fail
            go_end0
            exact ⟨rfl, hPW.out⟩
      · obtain ⟨hFB, e2, HY⟩ := HU.out.2 (W.setCell ⟨Y2.heap.size, 0, none⟩ (.bool q)) (Tb.set _ _ _ rfl) (by rw [heap_setCell_same W _ 0 _ _ _ HU.out.1]; rfl)
        have ebr : (W.setCell ⟨Y2.heap.size, 0, none⟩ (.bool q)).heap[Y2.heap.size]? = some (.cells #[.bool q] 4 (0, 0)) := by rw [heap_setCell_same W _ 0 _ _ _ HU.out.1]; rfl
        obtain ⟨ev, hBB⟩ := hFB.out
        have ebc := cell_of_row _ _ 0 _ _ _ ebr
        generalize W.setCell ⟨Y2.heap.size, 0, none⟩ (Value.bool q) = U at *
        generalize Y2.heap.size = g at *
        have c5 := cell_of_row _ _ 5 _ _ _ hBB
        have f5 := frozen_of_row _ _ 5 _ _ hBB
        have HSelf : Hid (∀ n, (U.drewN n).setCell ⟨B, 5, none⟩ (.bool false) = U.drewN n) := hide (fun n => setCell_self (show (U.drewN n).heap[B]? = _ from hBB) rfl)
        have c1 := e2.1
        clear HU e1 hBB ebr hFB
        cases q
        · go_wp2_with fail
          go_quiet (exact ⟨HSelf.out _, rfl⟩)
          obtain ⟨U3, hU3⟩ : ∃ U3, Hid (U3 = U.drewN nq) := ⟨_, hide rfl⟩
          rw [← hU3.out]
          have bU : Below U.heap.size U U3 := by rw [hU3.out]; exact below_drewN (Below.refl _ _) _
          have HY3 := hide (fun U2 (h : Below U3.heap.size U3 U2) => HY.out U2 (bU.trans (h.mono bU.size)))
          have e3 : (U3.cell? ⟨h1, 0, none⟩ = some (.pointer (some ⟨B, 0, none⟩)) ∧ U3.cell? ⟨h2, 0, none⟩ = some (.pointer (some ⟨b, 0, none⟩)) ∧ U3.cell? ⟨dv, 1, none⟩ = some (.int .i64 j) ∧ U3.cell? ⟨dv, 2, none⟩ = some (.int .i64 v) ∧ U3.cell? ⟨B, 2, none⟩ = some (.slice (some ⟨cg, 0, none⟩) zs.length cc) ∧ U3.cell? ⟨cg, j, none⟩ = some (.pointer (some ⟨z.C, 0, none⟩))) := by rw [hU3.out]; exact e2
          clear HY HSelf e2 c1 c5 f5 ebc bU hU3
          go_wp2_with fail
          go_region_held3 (fun V => (V.cell? ⟨h1, 0, none⟩ = some (.pointer (some ⟨B, 0, none⟩)) ∧ V.cell? ⟨h2, 0, none⟩ = some (.pointer (some ⟨b, 0, none⟩)) ∧ V.cell? ⟨dv, 1, none⟩ = some (.int .i64 j) ∧ V.cell? ⟨dv, 2, none⟩ = some (.int .i64 v) ∧ V.cell? ⟨B, 2, none⟩ = some (.slice (some ⟨cg, 0, none⟩) zs.length cc) ∧ V.cell? ⟨cg, j, none⟩ = some (.pointer (some ⟨z.C, 0, none⟩))))
            (first | exact e3 | exact e1)
            (first | (go_at_call 72; refine (HY3.out _ ?_).mono ?_; (first | exact (Below.refl _ _).drew | assumption); rintro e W3 ⟨rfl, e1, HNN⟩) | (go_at_call 97; refine (HNN.out _ ?_).mono ?_; (first | exact Below.refl _ _ | exact (Below.refl _ _).drew | assumption); rintro e W9 ⟨rfl, e1, hPW⟩))
          all_goals
            go_wp2_with fail
            go_end0
            exact ⟨rfl, hPW.out⟩
        · obtain rfl := hqc rfl
          go_wp2_with fail
          go_quiet (exact ⟨HSelf.out _, rfl⟩)
          obtain ⟨U3, hU3⟩ : ∃ U3, Hid (U3 = U.drewN nq) := ⟨_, hide rfl⟩
          rw [← hU3.out]
          have bU : Below U.heap.size U U3 := by rw [hU3.out]; exact below_drewN (Below.refl _ _) _
          have HY3 := hide (fun U2 (h : Below U3.heap.size U3 U2) => HY.out U2 (bU.trans (h.mono bU.size)))
          have e3 : (U3.cell? ⟨h1, 0, none⟩ = some (.pointer (some ⟨B, 0, none⟩)) ∧ U3.cell? ⟨h2, 0, none⟩ = some (.pointer (some ⟨b, 0, none⟩)) ∧ U3.cell? ⟨dv, 1, none⟩ = some (.int .i64 j) ∧ U3.cell? ⟨dv, 2, none⟩ = some (.int .i64 v) ∧ U3.cell? ⟨B, 2, none⟩ = some (.slice (some ⟨cg, 0, none⟩) zs.length cc) ∧ U3.cell? ⟨cg, j, none⟩ = some (.pointer (some ⟨z.C, 0, none⟩))) := by rw [hU3.out]; exact e2
          clear HY HSelf e2 c1 c5 f5 ebc bU hU3
          go_wp2_with fail
          go_region_held3 (fun V => (V.cell? ⟨h1, 0, none⟩ = some (.pointer (some ⟨B, 0, none⟩)) ∧ V.cell? ⟨h2, 0, none⟩ = some (.pointer (some ⟨b, 0, none⟩)) ∧ V.cell? ⟨dv, 1, none⟩ = some (.int .i64 j) ∧ V.cell? ⟨dv, 2, none⟩ = some (.int .i64 v) ∧ V.cell? ⟨B, 2, none⟩ = some (.slice (some ⟨cg, 0, none⟩) zs.length cc) ∧ V.cell? ⟨cg, j, none⟩ = some (.pointer (some ⟨z.C, 0, none⟩))))
            (first | exact e3 | exact e1)
            (first | (go_at_call 72; refine (HY3.out _ ?_).mono ?_; (first | exact (Below.refl _ _).drew | assumption); rintro e W3 ⟨rfl, e1, HNN⟩) | (go_at_call 97; refine (HNN.out _ ?_).mono ?_; (first | exact Below.refl _ _ | exact (Below.refl _ _).drew | assumption); rintro e W9 ⟨rfl, e1, hPW⟩))
          all_goals
            go_wp2_with fail
            go_end0
            exact ⟨rfl, hPW.out⟩
    by_cases k7 : k = 7
    · subst k7
      obtain ⟨x, cs, q, cn, σ2, hc0, hc1, h2t, h2a, h2x, h2q, h2c, h2s⟩ := try7 WD7.out.ok Hpq.out rfl (WD7.out.jlt Hj.out) v
      have HC : Hid (∀ V, Below Y2.heap.size Y2 V → Calls Tryz.prog 30 #[.pointer (some ⟨z.C, 0, none⟩)] V fun e W => e = .returned (.tuple #[.int .i64 x, .bool q, .bool cn]) ∧ (W.cell? ⟨h1, 0, none⟩ = some (.pointer (some ⟨B, 0, none⟩)) ∧ W.cell? ⟨h2, 0, none⟩ = some (.pointer (some ⟨b, 0, none⟩)) ∧ W.cell? ⟨dv, 1, none⟩ = some (.int .i64 j) ∧ W.cell? ⟨dv, 2, none⟩ = some (.int .i64 v) ∧ W.cell? ⟨B, 2, none⟩ = some (.slice (some ⟨cg, 0, none⟩) zs.length cc) ∧ W.cell? ⟨cg, j, none⟩ = some (.pointer (some ⟨z.C, 0, none⟩))) ∧ Hid (∀ g o, Y2.heap.size ≤ g → V.heap[g]? = some o → W.heap[g]? = some o) ∧ Hid (∀ g U, Y2.heap.size ≤ g → (g < V.heap.size ∧ (∀ f, ¬ Tkt V g f) ∨ W.heap.size ≤ g) → Tb (fun k => k = g) W U → U.heap[g]? = some (.cells #[.int .i64 cs, .int .i64 x, .bool q] (116 : TypeId) (0, 0)) → (U.cell? ⟨h1, 0, none⟩ = some (.pointer (some ⟨B, 0, none⟩)) ∧ U.cell? ⟨h2, 0, none⟩ = some (.pointer (some ⟨b, 0, none⟩)) ∧ U.cell? ⟨dv, 1, none⟩ = some (.int .i64 j) ∧ U.cell? ⟨dv, 2, none⟩ = some (.int .i64 v) ∧ U.cell? ⟨B, 2, none⟩ = some (.slice (some ⟨cg, 0, none⟩) zs.length cc) ∧ U.cell? ⟨cg, j, none⟩ = some (.pointer (some ⟨z.C, 0, none⟩))) ∧ Hid (∀ U2, Below U.heap.size U U2 → Calls Tryz.prog 72 #[.pointer (some ⟨b, 0, none⟩), .func (.func 103) #[] #[.pointer (some ⟨nb, 0, none⟩), .pointer (some ⟨g, 0, none⟩)]] U2 fun e W => e = .returned (.int .i64 0) ∧ (W.cell? ⟨h1, 0, none⟩ = some (.pointer (some ⟨B, 0, none⟩)) ∧ W.cell? ⟨h2, 0, none⟩ = some (.pointer (some ⟨b, 0, none⟩)) ∧ W.cell? ⟨dv, 1, none⟩ = some (.int .i64 j) ∧ W.cell? ⟨dv, 2, none⟩ = some (.int .i64 v) ∧ W.cell? ⟨B, 2, none⟩ = some (.slice (some ⟨cg, 0, none⟩) zs.length cc) ∧ W.cell? ⟨cg, j, none⟩ = some (.pointer (some ⟨z.C, 0, none⟩))) ∧ Hid (∀ U, Below W.heap.size W U → Calls Tryz.prog 97 #[.pointer (some ⟨B, 0, none⟩), .int .i64 0] U fun e U' => e = .returned (.tuple #[]) ∧ (U'.cell? ⟨h1, 0, none⟩ = some (.pointer (some ⟨B, 0, none⟩)) ∧ U'.cell? ⟨h2, 0, none⟩ = some (.pointer (some ⟨b, 0, none⟩)) ∧ U'.cell? ⟨dv, 1, none⟩ = some (.int .i64 j) ∧ U'.cell? ⟨dv, 2, none⟩ = some (.int .i64 v) ∧ U'.cell? ⟨B, 2, none⟩ = some (.slice (some ⟨cg, 0, none⟩) zs.length cc) ∧ U'.cell? ⟨cg, j, none⟩ = some (.pointer (some ⟨z.C, 0, none⟩))) ∧ Hid (Pn U')))) ∧ Hid (Y2.heap.size ≤ W.heap.size)) := hide (fun V hV => by
        obtain ⟨l8, w8, y8, n8⟩ := WD7.out.below2 hL7.out hV
        have hL8 := Nat.le_trans hL7.out y8.tb.size
        have CW := wtryRecv w8 hL8 Hz.out
        rw [h2x, h2q, h2s, h2c] at CW
        refine CW.mono ?_
        rintro e W ⟨rfl, l9, w9, y9⟩
        have y79 := y8.trans y9
        refine ⟨rfl, HSC.out _ _ _ _ w9 y79, hide (fun g o hg ho => (y9.row (n8 g (WD7.out.fresh hg)) (heap_lt ho)).1.trans ho), hide (fun g U hg hgl tU hrow => ?_), hide y79.tb.size⟩
        have hg9 : l9 g = none ∧ ∀ f, ¬ Tkt W g f := by
          rcases hgl with ⟨h1, h2⟩ | h1
          · obtain ⟨r1, r2, r3⟩ := y9.row (n8 g (WD7.out.fresh hg)) h1
            exact ⟨r2, fun f hf => h2 f (by unfold Tkt at hf ⊢; rwa [r1] at hf)⟩
          · exact ⟨w9.fresh h1, fun f hf => by have := hf.lt; omega⟩
        obtain ⟨wU, yU⟩ := w9.turned tU hg9.1 hg9.2
        have y7U := yU Y2 lab7 y79 hg
        have hgL : L ≤ g := Nat.le_trans hL7.out hg
        have w10 := wU.claim (N := fun k => k = g) (fun k hk => by subst hk; exact ⟨hg9.1, hgL, heap_lt hrow⟩)
        have y10 := y7U.claim (N := fun k => k = g) (fun k hk => by subst hk; exact hg)
        have hg10 : relab l9 .fz (fun k => l9 k = some .fz ∨ k = g) g = some .fz := relab_same.2 (.inr rfl)
        refine ⟨HSC.out _ _ _ _ wU y7U, hide (fun U2 hU2 => ?_)⟩
        obtain ⟨l11, w11, y11⟩ := w10.below (Nat.le_trans hL7.out y10.tb.size) hU2
        have ya := y10.trans y11
        have bx := BX7.out.keep ya.agr ya.sub
        have hgr := y11.keep1 hg10 hrow
        refine (wyield (w11.mono (Nat.le_succ m)) (Nat.le_trans hL7.out ya.tb.size) (h2t) rfl Hb.out (go_t7 bx Hat.out (c0 := cs) (v := x) (ok := q) (y11.fz _ hg10).1 hgr)).mono ?_
        rintro e W3 ⟨rfl, l12, w12, y12⟩
        exact ⟨rfl, HSC.out _ _ _ _ w12 (ya.trans y12), hide (HN.out W3 _ l12 w12 (ya.trans y12) (h2a))⟩)
      clear HN HSC WD7 BX7 Hz Hj h2t h2a h2x h2q h2c h2s
      go_wp2_with (rw [← hY2.out, hnb.out])
      go_region_held3 (fun V => (V.cell? ⟨h1, 0, none⟩ = some (.pointer (some ⟨B, 0, none⟩)) ∧ V.cell? ⟨h2, 0, none⟩ = some (.pointer (some ⟨b, 0, none⟩)) ∧ V.cell? ⟨dv, 1, none⟩ = some (.int .i64 j) ∧ V.cell? ⟨dv, 2, none⟩ = some (.int .i64 v) ∧ V.cell? ⟨B, 2, none⟩ = some (.slice (some ⟨cg, 0, none⟩) zs.length cc) ∧ V.cell? ⟨cg, j, none⟩ = some (.pointer (some ⟨z.C, 0, none⟩))))
        (first | exact S0 | exact e1)
        ((go_at_call 30; refine (HC.out _ (Below.refl _ _).drew).mono ?_; rintro e W ⟨rfl, e1, _, HU, hzW⟩))
      cases cn
      · obtain rfl := hc1 rfl
        go_wp2_with fail
        obtain ⟨e2, HY⟩ := HU.out W.heap.size (W.alloc (.cells #[.int .i64 1, .int .i64 x, .bool q] (116 : TypeId))) hzW.out (.inr (Nat.le_refl _)) (Tb.of_fresh ((Below.refl _ W).alloc (Nat.le_refl _) _)) (heap_alloc_new W _)
        clear HU e1
        go_wp2_with fail
        go_region_held3 (fun V => (V.cell? ⟨h1, 0, none⟩ = some (.pointer (some ⟨B, 0, none⟩)) ∧ V.cell? ⟨h2, 0, none⟩ = some (.pointer (some ⟨b, 0, none⟩)) ∧ V.cell? ⟨dv, 1, none⟩ = some (.int .i64 j) ∧ V.cell? ⟨dv, 2, none⟩ = some (.int .i64 v) ∧ V.cell? ⟨B, 2, none⟩ = some (.slice (some ⟨cg, 0, none⟩) zs.length cc) ∧ V.cell? ⟨cg, j, none⟩ = some (.pointer (some ⟨z.C, 0, none⟩))))
          (first | exact e2 | exact e1)
          (first | (go_at_call 72; refine (HY.out _ ?_).mono ?_; (first | exact (Below.refl _ _).drew | assumption); rintro e W3 ⟨rfl, e1, HNN⟩) | (go_at_call 97; refine (HNN.out _ ?_).mono ?_; (first | exact Below.refl _ _ | exact (Below.refl _ _).drew | assumption); rintro e W9 ⟨rfl, e1, hPW⟩))
        all_goals
          go_wp2_with fail
          go_end0
          exact ⟨rfl, hPW.out⟩
      · obtain rfl := hc0 rfl
        go_wp2_with fail
        obtain ⟨e2, HY⟩ := HU.out W.heap.size (W.alloc (.cells #[.int .i64 0, .int .i64 x, .bool q] (116 : TypeId))) hzW.out (.inr (Nat.le_refl _)) (Tb.of_fresh ((Below.refl _ W).alloc (Nat.le_refl _) _)) (heap_alloc_new W _)
        clear HU e1
        go_wp2_with fail
        go_region_held3 (fun V => (V.cell? ⟨h1, 0, none⟩ = some (.pointer (some ⟨B, 0, none⟩)) ∧ V.cell? ⟨h2, 0, none⟩ = some (.pointer (some ⟨b, 0, none⟩)) ∧ V.cell? ⟨dv, 1, none⟩ = some (.int .i64 j) ∧ V.cell? ⟨dv, 2, none⟩ = some (.int .i64 v) ∧ V.cell? ⟨B, 2, none⟩ = some (.slice (some ⟨cg, 0, none⟩) zs.length cc) ∧ V.cell? ⟨cg, j, none⟩ = some (.pointer (some ⟨z.C, 0, none⟩))))
          (first | exact e2 | exact e1)
          (first | (go_at_call 72; refine (HY.out _ ?_).mono ?_; (first | exact (Below.refl _ _).drew | assumption); rintro e W3 ⟨rfl, e1, HNN⟩) | (go_at_call 97; refine (HNN.out _ ?_).mono ?_; (first | exact Below.refl _ _ | exact (Below.refl _ _).drew | assumption); rintro e W9 ⟨rfl, e1, hPW⟩))
        all_goals
          go_wp2_with fail
          go_end0
          exact ⟨rfl, hPW.out⟩
    have b1 : (k == 1) = false := by simpa using k1
    have b2 : (k == 2) = false := by simpa using k2
    have b3 : (k == 3) = false := by simpa using k3
    have b4 : (k == 4) = false := by simpa using k4
    have b6 : (k == 6) = false := by simpa using k6
    have b7 : (k == 7) = false := by simpa using k7
    have HP : Hid (Pn Y2) := hide (by
      rw [hPn.out]
      have e0 : σ1.acts i ⟨k, (j : Int), v⟩ = σ1 := by simp [Sg.acts, k1, k2, k3, k4, k6, k7]
      rw [e0]
      exact ⟨lab7, WD7.out.mono (Nat.le_succ m), wy7⟩)
    clear HN HSC WD7 BX7 Hz Hj S0
    go_wp2_with (rw [← hY2.out, hnb.out])
    go_end0
    exact ⟨rfl, HP.out⟩
  · have hd0 := hno.out (by omega)
    clear hyes hno
    have hlti : decide ((at' : Int) < (dn : Int)) = false := by simpa using hlt
    go_wp2_with fail
    rw [← hA.out, hdv.out]
    go_quiet (fail)
    obtain ⟨A2, hA2⟩ : ∃ A2, Hid (A2 = A.drewN nq) := ⟨_, hide rfl⟩
    have hAd2 : A2.heap[dv]? = A.heap[dv]? := by rw [hA2.out]; rfl
    rw [hAd] at hAd2
    have c0 : (A2.alloc (.cells #[.func (.func 96) #[] #[.pointer (some ⟨h1, 0, none⟩), .pointer (some ⟨h2, 0, none⟩), .pointer (some ⟨h3, 0, none⟩), .pointer (some ⟨h4, 0, none⟩)]] (146 : TypeId))).cell? ⟨dv, 0, none⟩ = some (.int .i64 0) := kc_alloc (cell_of_row _ _ 0 _ _ _ hAd2)
    rw [← hA2.out]
    go_wp2_with fail
    go_end0
    refine ⟨rfl, ?_⟩
    rw [hPn.out, hA2.out]
    have hbn := below_drewN HBA.out nq
    have hb2 := (Below.refl (A.drewN nq).heap.size (A.drewN nq)).alloc (Nat.le_refl _) (.cells #[.func (.func 96) #[] #[.pointer (some ⟨h1, 0, none⟩), .pointer (some ⟨h2, 0, none⟩), .pointer (some ⟨h3, 0, none⟩), .pointer (some ⟨h4, 0, none⟩)]] (146 : TypeId))
    have hAd' : (A.drewN nq).heap[dv]? = _ := hAd
    obtain ⟨lab7, wd7, wy7, _, _⟩ := HX.out _ dv (A.drewN nq).heap.size (.slice none 0 0) (.bool false) (hbn.trans (hb2.mono hbn.size)) (Nat.le_of_eq hdv.out) (by rw [hd0]; exact (hb2.block _ (heap_lt hAd')).trans hAd') hbn.size (heap_alloc_new _ _)
    have e0 : σ1.acts i d = σ1 := by rw [hd0]; rfl
    rw [e0]
    exact ⟨lab7, wd7.mono (Nat.le_succ m), wy7⟩
end

end Go.Proofs.YtgjpbekmkhanhaaGreat.CH

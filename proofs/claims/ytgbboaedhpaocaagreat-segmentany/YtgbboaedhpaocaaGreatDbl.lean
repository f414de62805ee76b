/-
  The unsynced steps of a disk: how they lie in memory; one is added.
-/
import Derived.Test.YtgbboaedhpaocaaGreatDat
import Derived.Test.YtgbboaedhpaocaaGreatDco
import Derived.Deep.RegionHeld3
namespace Go.Proofs.YtgbboaedhpaocaaGreat
open Go.RowKit
set_option maxRecDepth 100000
set_option maxRecDepth 100000

/-- Is it a step of a file's sectors? -/
def Stp.sec (t : Stp) : Bool := decide (t.kind = 1 ∨ t.kind = 2)
/-- The steps of names. -/
def nms (l : List Stp) : List Stp := l.filter fun t => !t.sec
/-- The steps of a file's sectors. -/
def scs (l : List Stp) (f : Int) : List Stp := l.filter fun t => t.sec && decide (t.file = f)

/-- The steps as they lie in memory. -/
structure Bk (w : World) (L : Lb) (us : Nat) (ns : Value) (last : Int) (l : List Stp) : Prop where
  row : w.ownsRow 0 (115 : TypeId) 70 ns (nms l).length ((nms l).flatMap Stp.cells)
  rlb : ∀ g, ns.ownBlock = some g → L g = (7, 0)
  map : ∃ sec, Rw Stp.cells (115 : TypeId) 70 w L 16 us sec ∧ (∀ f, (lk sec f).getD [] = scs l f) ∧ (sec.length : Int) ≤ last
  mlb : L us = (6, 0)
  ok : ∀ t ∈ l, t.Ok
  up : l.Pairwise fun x y => x.no < y.no
  no : ∀ t ∈ l, 1 ≤ t.no ∧ t.no ≤ last
  last : 0 ≤ last

/-- The labels of the steps' blocks. -/
def TB (x : Int × Int) : Prop := x.1 = 6 ∨ x.1 = 7 ∨ x.1 = 16

section
variable {w w' : World} {L L' : Lb} {us : Nat} {ns : Value} {last : Int} {l : List Stp}
theorem Bk.tb {S : Nat → Prop} (h : Bk w L us ns last l) (hb : Tb S w w') (hl : Lx w L L') (hS : ∀ g, TB (L g) → ¬ S g) : Bk w' L' us ns last l := by
  obtain ⟨sec, h1, h2, h3⟩ := h.map
  exact ⟨row_tb h.row hb (fun g hg => hS g (.inr (.inl (by rw [h.rlb g hg])))), fun g hg => by rw [hl g (row_lt h.row hg)]; exact h.rlb g hg, ⟨sec, h1.tb hb hl (hS _ (.inl (by rw [h.mlb]))) (fun g f e => hS g (.inr (.inr (by rw [e])))), h2, h3⟩, by rw [hl _ h1.lt]; exact h.mlb, h.ok, h.up, h.no, h.last⟩
theorem Bk.length (h : Bk w L us ns last l) : (l.length : Int) ≤ last := by
  have key : ∀ (l : List Stp) (k : Int), l.Pairwise (fun x y => x.no < y.no) → (∀ t ∈ l, k < t.no ∧ t.no ≤ last) → k ≤ last → k + (l.length : Int) ≤ last := by
    intro l
    induction l with
    | nil => intro k _ _ hk; simpa using hk
    | cons x l ih =>
      intro k hp hb _
      obtain ⟨h1, h2⟩ := List.pairwise_cons.1 hp
      have hx := hb x (by simp)
      have := ih x.no h2 (fun t ht => ⟨h1 t ht, (hb t (by simp [ht])).2⟩) hx.2
      simp only [List.length_cons]
      omega
  have := key l 0 h.up (fun t ht => by have := h.no t ht; omega) h.last
  omega
end

theorem zero47 (W : World) : (zeroValue (88 : TypeId)).run Tryz.prog W = .ok (.slice none 0 0) W := by
  have h : (Tryz.prog.info? (88 : TypeId)).map (·.zero) = some (some (.slice none 0 0)) := by kernel_rfl
  obtain ⟨i, hi, hz⟩ := Option.map_eq_some_iff.1 h
  simp [zeroValue, typeInfo, hi, hz]

theorem info81 : ∃ i z, Tryz.prog.info? (115 : TypeId) = some i ∧ i.zero = some z ∧ i.size = 70 ∧ i.bytes = 128 ∧ z.cells.size = 70 := by
  have h : (Tryz.prog.info? (115 : TypeId)).map (fun i => (i.zero.map (·.cells.size), i.size, i.bytes)) = some (some 70, 70, 128) := by kernel_rfl
  obtain ⟨i, hi, hz⟩ := Option.map_eq_some_iff.1 h
  simp only [Prod.mk.injEq] at hz
  obtain ⟨z, h1, h2⟩ := Option.map_eq_some_iff.1 hz.1
  exact ⟨i, z, hi, h1, hz.2.1, hz.2.2, h2⟩

/-- A slice of one step. -/
theorem run_oneStep (W : World) (cs : Array Value) (hsz : cs.size = 70) : (Instr.buildSlice (88 : TypeId) 1 #[(0, .agg cs)]).run Tryz.prog W = .ok (.slice (some ⟨W.heap.size, 0, none⟩) 1 1) (W.alloc (.cells cs (115 : TypeId))) := by
  obtain ⟨i, z, hi, hz, h1, h2, h3⟩ := info81
  refine run_buildSlice W (88 : TypeId) (115 : TypeId) 1 _ cs i z Tryz.underlying88 hi hz (by rw [h1]; decide) (by rw [h1]; decide) ?_
  rw [h1]
  have := Great.fill_whole (s := 70) (by decide) [.agg cs] ((Array.range (1 * 70)).map (z.cells[· % z.cells.size]!)) (by simp [Value.cells, hsz]) (by simp)
  simpa [Value.cells] using this

theorem run_loadStep {W : World} {B : Nat} {cs : Array Value} (hB : W.heap[B]? = some (.cells cs (115 : TypeId) (0, 0))) (hsz : cs.size = 70) : (Instr.loadAt (115 : TypeId) (.pointer (some ⟨B, 0, none⟩))).run Tryz.prog W = .ok (.agg cs) W := by
  obtain ⟨i, z, hi, hz, h1, h2, h3⟩ := info81
  simp only [Instr.loadAt, Instr.sureAddr, Sem.run_bind, Sem.run_pure, Result.andThen_ok, run_loadVar_row W B (115 : TypeId) (115 : TypeId) cs (0, 0) _ hB Tryz.underlying115 rfl (by rw [hi]; simp [h1, hsz])]

/-- A load of a whole struct. -/
theorem exec_load {P : Program} {o : Oper} {a : Act} {w : World} {ty : TypeId} {x : Operand} {v : Value} (pv : Value) (hop : o.op = .load ty x) (hx : a.eval x = pv) (hrun : (Instr.loadAt ty pv).run P w = .ok v w) : (execOp a.eval o).run P w = .ok (.value v) w := by
  unfold execOp
  simp only [hop, hx, Sem.run_bind, hrun, Result.andThen_ok]
  rfl

/-- A slice that is built. -/
theorem exec_build {P : Program} {o : Oper} {a : Act} {w w' : World} {ty : TypeId} {n : Nat} {parts : Array (Nat × Operand)} {v : Value} (ps : Array (Nat × Value)) (hop : o.op = .buildSlice ty n parts) (hx : (parts.map fun (i, x) => (i, a.eval x)) = ps) (hrun : (Instr.buildSlice ty n ps).run P w = .ok v w') : (execOp a.eval o).run P w = .ok (.value v) w' := by
  unfold execOp
  simp only [hop, hx, Sem.run_bind, hrun, Result.andThen_ok]
  rfl

/-- An append. -/
theorem exec_append {P : Program} {o : Oper} {a : Act} {w w' : World} {t : TypeId} {s x : Operand} {v : Value} (sv xv : Value) (hop : o.op = .call { callee := .builtin .append, args := #[s, x], argTypes := #[t, t] }) (hs : a.eval s = sv) (hx : a.eval x = xv) (hrun : (Builtin.append_ #[t, t] o.type #[sv, xv]).run P w = .ok v w') : (execOp a.eval o).run P w = .ok (.value v) w' := by
  unfold execOp
  simp [hop, resolve, invoke, builtin, hs, hx, hrun, Result.andThen]

/-- An operation of a region that draws its order, by what it comes to. -/
theorem step_run {P : Program} {ops : Array Oper} {o : Oper} {a : Act} {w w' : World} {v : Value} {K : Act → World → Prop} {Q : Exit → Act → World → Prop} {E : Prop} (hg : o.guard = none) (hrun : (execOp a.eval o).run P w = .ok (.value v) w') (hK : K (a.put o.dst v) w') :
    if Region.wanted o (yielded ops a.tmps) = true then Oper.wp P o a w K Q else E := by
  have hw : Region.wanted o (yielded ops a.tmps) = true := by simp [Region.wanted, hg]
  rw [if_pos hw]
  unfold Oper.wp
  rw [hrun]
  exact hK

/-- A step with a number. -/
def Stp.num (t : Stp) (n : Int) : Stp := { t with no := n }
theorem num_cells (t : Stp) (n : Int) : t.cells.toArray.setIfInBounds 0 (.int .i64 n) = (t.num n).cells.toArray := rfl

/-- What the own block says with other steps. -/
def Ob.bl (o : Ob) (last : Int) (ns : Value) : Ob := { o with last := last, ns := ns }

theorem scs_snoc (l : List Stp) (t : Stp) (f : Int) : scs (l ++ [t]) f = if t.sec = true ∧ t.file = f then scs l f ++ [t] else scs l f := by
  unfold scs
  rw [List.filter_append]
  by_cases h : t.sec = true ∧ t.file = f
  · rw [if_pos h]; simp [h.1, h.2]
  · rw [if_neg h]
    have : (t.sec && decide (t.file = f)) = false := by
      cases hs : t.sec
      · simp
      · simp [hs] at h; simp [h]
    simp [this]
theorem nms_snoc (l : List Stp) (t : Stp) : nms (l ++ [t]) = if t.sec = true then nms l else nms l ++ [t] := by
  unfold nms
  rw [List.filter_append]
  cases hs : t.sec <;> simp [hs]

theorem pairs_snoc {l : List Stp} {t : Stp} {last : Int} (h : l.Pairwise fun x y => x.no < y.no) (hn : ∀ x ∈ l, 1 ≤ x.no ∧ x.no ≤ last) (ht : t.no = last + 1) : (l ++ [t]).Pairwise fun x y => x.no < y.no :=
  List.pairwise_append.2 ⟨h, by simp, fun x hx y hy => by simp only [List.mem_singleton] at hy; subst hy; have := hn x hx; omega⟩

theorem Stp.Ok.num {t : Stp} (h : t.Ok) {n : Int} (hn : 0 ≤ n ∧ n ≤ 9223372036854775807) : (t.num n).Ok := ⟨hn, h.kind, h.file, h.name, h.to, h.at', h.put, h.data, h.byte⟩

/-- What a map of steps is behind one more: W is what is there, V the same with a slice of that step. -/
theorem sec_more {W V : World} {M : Lb} {us : Nat} {sec : List (Int × List Stp)} {t : Stp} (ht : t.Ok) (hS : Rw Stp.cells (115 : TypeId) 70 W M 16 us sec) (hu : M us = (6, 0)) (hn : sec.length < 9000000000000000000) (hlen : ((lk sec t.file).getD []).length < 1000000000000)
    (hV : V = (W.alloc (.cells t.cells.toArray (115 : TypeId))).drew) :
    ∃ v v' V' w', (∀ X : World, X.heap[us]? = W.heap[us]? → (Instr.lookup (89 : TypeId) (.map (some us)) (.int .i64 t.file) false).run Tryz.prog X = .ok v X) ∧
      (∀ ty, (Builtin.append_ #[(88 : TypeId), (88 : TypeId)] ty #[v, .slice (some ⟨W.heap.size, 0, none⟩) 1 1]).run Tryz.prog V = .ok v' V') ∧ (Instr.mapUpdate (89 : TypeId) (.map (some us)) (.int .i64 t.file) v').run Tryz.prog V' = .ok () w' ∧
      Rw Stp.cells (115 : TypeId) 70 w' (lab M V.heap.size (16, t.file)) 16 us (st sec t.file ((lk sec t.file).getD [] ++ [t])) ∧ Tb (fun g => M g = (16, t.file) ∨ g = us) W w' ∧ Tb (fun g => M g = (16, t.file)) W V' := by
  obtain ⟨v, hfind, hown, hlab⟩ := hS.find Tryz.underlying89 zero47 ht.i6
  obtain ⟨i, z, hi, hz, h1, h2, h3⟩ := info81
  have bV : Tb (fun _ => False) W V := by rw [hV]; exact ((Tb.refl _ _).alloc _).drew
  have hownV := row_tb hown bV (fun _ _ h => h)
  have hone : V.ownsRow 0 (115 : TypeId) 70 (.slice (some ⟨W.heap.size, 0, none⟩) 1 1) 1 t.cells := by rw [hV]; exact own_one W t.cells 70 (115 : TypeId) ht.len
  have hap := fun ty => run_append_rows (P := Tryz.prog) (w := V) 0 (88 : TypeId) ty (115 : TypeId) i z 70 128 Tryz.underlying88 hi hz h1 h2 h3 (by decide) v _ _ hownV _ 1 t.cells 0 hone t.one (by unfold maxLen; omega) (by omega) (Nat.zero_le _)
  obtain ⟨v', V', hr, ho', hg', hw'⟩ := hap 0
  have hr' : ∀ ty, (Builtin.append_ #[(88 : TypeId), (88 : TypeId)] ty #[v, .slice (some ⟨W.heap.size, 0, none⟩) 1 1]).run Tryz.prog V = .ok v' V' := fun ty => hr
  have tV : Tb (fun g => M g = (16, t.file)) V V' := Tb.of_grown hg' hlab
  have tW : Tb (fun g => M g = (16, t.file)) W V' := (bV.mono (T := fun g => M g = (16, t.file)) (fun _ _ h => h.elim)).trans tV (fun _ _ h => h)
  have hVs : W.heap.size < V.heap.size := by rw [hV]; simp
  have hlx : Lx W M (lab M V.heap.size (16, t.file)) := fun b hb => lab_old (by omega)
  have hl' : ∀ g, v'.ownBlock = some g → lab M V.heap.size (16, t.file) g = (16, t.file) := fun g hg => by
    rcases hw' with e | e
    · rw [e] at hg
      rw [lab_old (by have := row_lt hown hg; omega)]
      exact hlab g hg
    · rw [e] at hg
      simp only [Option.some.injEq] at hg
      rw [← hg]
      exact lab_new _ _ _
  have hus : us < W.heap.size := hS.lt
  have hne : ∀ g, v'.ownBlock = some g → g ≠ us := fun g hg e => by
    have := hl' g hg
    rw [e, lab_old (by omega), hu] at this
    simp at this
  obtain ⟨w', hr2, hR2, ht2⟩ := hS.store (w := V') (L' := lab M V.heap.size (16, t.file)) (v := v') (xs := (lk sec t.file).getD [] ++ [t]) Tryz.underlying89 (by omega) ht.i6 tW hlx (by rw [hu]; simp) (by rw [List.length_append, List.flatMap_append, List.flatMap_singleton]; exact ho') hl' hne
  refine ⟨v, v', V', w', fun X hX => (hfind X hX).1, hr', hr2, hR2, ?_, tW⟩
  exact (tW.mono (T := fun g => M g = (16, t.file) ∨ g = us) (fun _ _ h => .inl h)).trans (Tb.turned (S := fun k => k = us) ht2 rfl) (fun _ _ h => .inr h)

/-- What a row of steps is behind one more. -/
theorem row_more {W V : World} {M : Lb} {x : Int × Int} {ns : Value} {n : Nat} {xs : List Value} {t : Stp} (ht : t.Ok) (hS : W.ownsRow 0 (115 : TypeId) 70 ns n xs) (hl : ∀ g, ns.ownBlock = some g → M g = x) (hn : n < 1000000000000)
    (hV : V = (W.alloc (.cells t.cells.toArray (115 : TypeId))).drew) :
    ∃ ad cap V', (∀ ty, (Builtin.append_ #[(88 : TypeId), (88 : TypeId)] ty #[ns, .slice (some ⟨W.heap.size, 0, none⟩) 1 1]).run Tryz.prog V = .ok (.slice ad (n + 1) cap) V') ∧
      V'.ownsRow 0 (115 : TypeId) 70 (.slice ad (n + 1) cap) (n + 1) (xs ++ t.cells) ∧ (∀ g, (Value.slice ad (n + 1) cap).ownBlock = some g → lab M V.heap.size x g = x) ∧ Tb (fun g => M g = x) W V' := by
  obtain ⟨i, z, hi, hz, h1, h2, h3⟩ := info81
  have bV : Tb (fun _ => False) W V := by rw [hV]; exact ((Tb.refl _ _).alloc _).drew
  have hownV := row_tb hS bV (fun _ _ h => h)
  have hone : V.ownsRow 0 (115 : TypeId) 70 (.slice (some ⟨W.heap.size, 0, none⟩) 1 1) 1 t.cells := by rw [hV]; exact own_one W t.cells 70 (115 : TypeId) ht.len
  obtain ⟨v', V', hr, ho', hg', hw'⟩ := run_append_rows (P := Tryz.prog) (w := V) 0 (88 : TypeId) 0 (115 : TypeId) i z 70 128 Tryz.underlying88 hi hz h1 h2 h3 (by decide) ns _ _ hownV _ 1 t.cells 0 hone t.one (by unfold maxLen; omega) (by omega) (Nat.zero_le _)
  obtain ⟨ad, cap, rfl⟩ := row_val ho'
  have hr' : ∀ ty, (Builtin.append_ #[(88 : TypeId), (88 : TypeId)] ty #[ns, .slice (some ⟨W.heap.size, 0, none⟩) 1 1]).run Tryz.prog V = .ok (.slice ad (n + 1) cap) V' := fun ty => hr
  have hVs : W.heap.size < V.heap.size := by rw [hV]; simp
  refine ⟨ad, cap, V', hr', ho', fun g hg => ?_, (bV.mono (T := fun g => M g = x) (fun _ _ h => h.elim)).trans (Tb.of_grown (S := fun g => M g = x) hg' hl) (fun _ _ h => h)⟩
  rcases hw' with e | e
  · rw [e] at hg
    rw [lab_old (by have := row_lt hS hg; omega)]
    exact hl g hg
  · rw [e] at hg
    simp only [Option.some.injEq] at hg
    rw [← hg]
    exact lab_new _ _ _

set_option maxHeartbeats 2000000 in
theorem add_any {w : World} {L : Lb} {R : Nat} {o : Ob} {l : List Stp} {t : Stp} (hO : Oj w R o) (hR : ¬ TB (L R)) (h : Bk w L o.us o.ns o.last l) (ht : t.Ok) (hlast : o.last < 1000000000) :
    Calls Tryz.prog 108 #[.pointer (some ⟨R, 5, none⟩), .agg t.cells.toArray] w fun e w' => e = .returned (.tuple #[]) ∧ ∃ L' ns', Lx w L L' ∧ Oj w' R (o.bl (o.last + 1) ns') ∧ Bk w' L' o.us ns' (o.last + 1) (l ++ [t.num (o.last + 1)]) ∧ Tb (fun g => g = R ∨ TB (L g)) w w' := by
  obtain ⟨cs, hcs⟩ : ∃ cs, Hid (cs = t.cells.toArray) := ⟨_, hide rfl⟩
  have h1 : cs[1]? = some (.int .u8 t.kind) := by rw [hcs.out]; rfl
  have h0 : cs[0]? = some (.int .i64 t.no) := by rw [hcs.out]; rfl
  have c5 : w.cell? ⟨R, 5, none⟩ = some (.int .i64 o.last) := hO.c 5
  have f5 := hO.free 5
  have hRl := hO.lt
  have hl0 := h.last
  obtain ⟨t', ht'⟩ : ∃ t', t' = t.num (o.last + 1) := ⟨_, rfl⟩
  have htk : t'.Ok := by rw [ht']; exact ht.num (by omega)
  have htf : t'.file = t.file := by rw [ht']; rfl
  have htn : t'.no = o.last + 1 := by rw [ht']; rfl
  obtain ⟨cs', hcs'⟩ : ∃ x, Hid (x = cs.setIfInBounds 0 (.int .i64 (o.last + 1))) := ⟨_, hide rfl⟩
  have hc' : cs' = t'.cells.toArray := by rw [hcs'.out, hcs.out, num_cells, ht']
  have hsz' : cs'.size = 70 := by rw [hc', List.size_toArray]; exact htk.len
  obtain ⟨W, HW⟩ : ∃ W, W = (w.setCell ⟨R, 5, none⟩ (.int .i64 (o.last + 1))).alloc (.cells cs' (115 : TypeId)) := ⟨_, rfl⟩
  have b0 : Tb (fun k => k = R) w W := by rw [HW]; exact (Tb.set (S := fun k => k = R) R 5 _ rfl).alloc _
  have hOW : Oj W R (o.bl (o.last + 1) o.ns) := by
    have := hO.set 5 (.int .i64 (o.last + 1)) (o.bl (o.last + 1) o.ns) rfl hO.armed hO.failing
    exact this.tb (S := fun _ => False) (by rw [HW]; exact (Tb.refl _ _).alloc _) (fun h => h)
  have hsW : W.heap.size = w.heap.size + 1 := by rw [HW]; simp [World.setCell]
  have hB : W.heap[w.heap.size]? = some (.cells cs' (115 : TypeId) (0, 0)) := by rw [HW]; simpa [World.setCell] using heap_alloc_new (w.setCell ⟨R, 5, none⟩ (.int .i64 (o.last + 1))) (.cells cs' (115 : TypeId))
  obtain ⟨M, hM⟩ : ∃ M, M = onlyL w L := ⟨_, rfl⟩
  have hLM : Lx w L M := by rw [hM]; exact onlyL_lx w L
  have hMB : M w.heap.size = (0, 0) := by rw [hM, onlyL_new (Nat.le_refl _)]
  have hMR : ¬ TB (M R) := by rw [hLM R hRl]; exact hR
  have hBW : Bk W M o.us o.ns o.last l := h.tb b0 hLM (fun g hg e => hR (e ▸ hg))
  clear hM
  have g7 : W.cell? ⟨R, 7, none⟩ = some (.map (some o.us)) := hOW.c 7
  have g6 : W.cell? ⟨R, 6, none⟩ = some o.ns := hOW.c 6
  have g2 : W.cell? ⟨w.heap.size, 2, none⟩ = some (.int .i64 t.file) := by rw [cell_of_row W _ 2 _ (115 : TypeId) (0, 0) hB, hc', ← htf]; rfl
  have a7 : ∀ x, (W.alloc x).cell? ⟨R, 7, none⟩ = some (.map (some o.us)) := fun x => ((Tb.refl (fun _ => False) W).alloc x).cell g7 (fun h => h)
  have a6 : ∀ x, (W.alloc x).cell? ⟨R, 6, none⟩ = some o.ns := fun x => ((Tb.refl (fun _ => False) W).alloc x).cell g6 (fun h => h)
  have a2 : ∀ x, (W.alloc x).cell? ⟨w.heap.size, 2, none⟩ = some (.int .i64 t.file) := fun x => ((Tb.refl (fun _ => False) W).alloc x).cell g2 (fun h => h)
  have ld : (Instr.loadAt (115 : TypeId) (.pointer (some ⟨w.heap.size, 0, none⟩))).run Tryz.prog W.drew = .ok (.agg cs') W.drew := run_loadStep (W := W.drew) hB hsz'
  have bs : (Instr.buildSlice (88 : TypeId) 1 #[(0, .agg cs')]).run Tryz.prog W.drew = .ok (.slice (some ⟨W.heap.size, 0, none⟩) 1 1) (W.alloc (.cells cs' (115 : TypeId))).drew := run_oneStep W.drew cs' hsz'
  have hk := ht.kind
  have hts : t'.sec = t.sec := by rw [ht']; rfl
  by_cases hs : t.sec = true
  · have hs' : t.kind = 1 ∨ t.kind = 2 := by simpa [Stp.sec] using hs
    obtain ⟨sec, hS1, hS2, hS3⟩ := hBW.map
    have hlen := hBW.length
    have hsl : (scs l t.file).length ≤ l.length := List.length_filter_le _ _
    obtain ⟨v, v', V', w', q1, q2, q3, q4, q5, q6⟩ := sec_more (V := (W.alloc (.cells t'.cells.toArray (115 : TypeId))).drew) htk hS1 hBW.mlb (by omega) (by rw [hS2, htf]; omega) rfl
    rw [← hc'] at q2
    rw [htf] at q1 q3
    have p1 := q1 W.drew rfl
    have p2 := q1 (W.alloc (.cells cs' (115 : TypeId))).drew (((Tb.refl (fun _ => False) W).alloc _).block _ hS1.lt (fun h => h))
    have fin : Hid (∃ L' ns', Lx w L L' ∧ Oj w' R (o.bl (o.last + 1) ns') ∧ Bk w' L' o.us ns' (o.last + 1) (l ++ [t']) ∧ Tb (fun g => g = R ∨ TB (L g)) w w') := by
      have hus := hS1.lt
      have hVs : (W.alloc (.cells t'.cells.toArray (115 : TypeId))).drew.heap.size = W.heap.size + 1 := by simp
      have hlx : Lx W M (lab M (W.alloc (.cells t'.cells.toArray (115 : TypeId))).drew.heap.size (16, t'.file)) := fun b hb => lab_old (by rw [hVs]; omega)
      refine hide ⟨_, o.ns, hLM.trans (w' := W) hlx b0.size, hOW.tb q5 ?_, ?_, ?_⟩
      · rintro (e | e)
        · exact hMR (.inr (.inr (by rw [e])))
        · exact hMR (.inl (by rw [e, hBW.mlb]))
      · refine ⟨?_, ?_, ⟨_, q4, fun f => ?_, ?_⟩, ?_, ?_, ?_, ?_, by omega⟩
        · rw [nms_snoc, hts, if_pos hs]
          refine row_tb hBW.row q5 (fun g hg => ?_)
          rintro (e | e)
          · rw [hBW.rlb g hg] at e; simp at e
          · have := hBW.rlb g hg; rw [e, hBW.mlb] at this; simp at this
        · intro g hg
          rw [hlx g (row_lt hBW.row hg)]
          exact hBW.rlb g hg
        · rw [scs_snoc, hts]
          by_cases hf : t'.file = f
          · rw [if_pos ⟨hs, hf⟩, ← hf, lk_st_same, Option.getD_some, hS2]
          · rw [if_neg (fun h => hf h.2), lk_st_other (fun e => hf e.symm), hS2]
        · have := st_le sec t'.file ((lk sec t'.file).getD [] ++ [t'])
          omega
        · rw [hlx _ hus]; exact hBW.mlb
        · intro x hx
          rcases List.mem_append.1 hx with hx | hx
          · exact hBW.ok x hx
          · simp only [List.mem_singleton] at hx; subst hx; exact htk
        · exact pairs_snoc hBW.up hBW.no htn
        · intro x hx
          rcases List.mem_append.1 hx with hx | hx
          · have := hBW.no x hx; omega
          · simp only [List.mem_singleton] at hx; subst hx; omega
      · refine (b0.mono (T := fun g => g = R ∨ TB (L g)) (fun _ _ h => .inl h)).trans q5 (fun g hg e => .inr ?_)
        rcases e with e | e
        · rw [hLM g hg] at e; exact .inr (.inr (by rw [e]))
        · rw [e, ← hLM _ (by rw [← e]; exact hg), hBW.mlb]; exact .inl rfl
    rw [ht'] at fin
    have KS : ∀ (S : Nat → Prop) (X : World), Tb S W X → ¬ S R → ¬ S w.heap.size → X.heap[w.heap.size]? = some (.cells cs' (115 : TypeId) (0, 0)) ∧ X.cell? ⟨R, 7, none⟩ = some (.map (some o.us)) ∧ X.cell? ⟨w.heap.size, 2, none⟩ = some (.int .i64 t.file) := fun S X hX s1 s2 =>
      ⟨(hX.block _ (by omega) s2).trans hB, hX.cell g7 s1, hX.cell g2 s2⟩
    have k1 := KS _ _ (((Tb.refl (fun _ => False) W).alloc (.cells cs' (115 : TypeId))).drew) (fun h => h) (fun h => h)
    have k2 := KS _ V' q6 (fun e => hMR (.inr (.inr (by rw [e])))) (by rw [hMB]; simp)
    have k3 := KS _ w' q5 (by
      rintro (e | e)
      · exact hMR (.inr (.inr (by rw [e])))
      · exact hMR (.inl (by rw [e, hBW.mlb]))) (by
      rintro (e | e)
      · rw [hMB] at e; simp at e
      · have := hBW.mlb; rw [← e, hMB] at this; simp at this)
    clear KS
    rw [← hcs.out]
    have H1 := hide hcs'
    have HW' := hide HW
    have hcc := hide hc'
    clear hO hR h ht ht' htk htf htn b0 hOW hLM hMB hMR hBW hts hs hS1 hS2 hS3 hlen hsl q1 q4 q5 q6 hk HW hc' hcs'
    rcases hs' with e | e
    all_goals
      rw [e] at h1
      go_enter Tryz.func108, Tryz.ntmps108
      go_wp2_with fail
      rw [← H1.out.out, ← HW'.out]
      clear c5 f5 h0 h1
      refine wp_region_held_drew (S := fun V => V.heap[w.heap.size]? = some (.cells cs' (115 : TypeId) (0, 0)) ∧ V.cell? ⟨R, 7, none⟩ = some (.map (some o.us)) ∧ V.cell? ⟨w.heap.size, 2, none⟩ = some (.int .i64 t.file)) (by kernel_rfl) ⟨hB, g7, g2⟩ (fun hHeld => ?_)
      try simp only [List.size_toArray, List.length_cons, List.length_nil, Nat.reduceAdd]
      refine wpAnyH_take (i := 13) (v := (.agg cs')) rfl (by kernel_rfl) (by kernel_rfl) (by kernel_rfl) (fun _ _ _ h => h) (Or.inl ⟨by rfl, ?hy⟩) hHeld ?_
      case hy => (intro V hV; obtain ⟨hV1, hV2, hV3⟩ := hV; exact exec_load (.pointer (some ⟨w.heap.size, 0, none⟩)) rfl (by simp [Act.eval]) (run_loadStep hV1 hsz'))
      simp only [Act.put]
      refine wpAnyH_take (i := 0) (v := (.pointer (some ⟨R, 5, none⟩))) rfl (by kernel_rfl) (by kernel_rfl) (by kernel_rfl) (fun _ _ _ h => h) (Or.inl ⟨by rfl, ?hy⟩) hHeld ?_
      case hy => (intro V hV; obtain ⟨hV1, hV2, hV3⟩ := hV; go_simp)
      simp only [Act.put]
      refine wpAnyH_take (i := 1) (v := (.pointer (some ⟨R, 5, none⟩))) rfl (by kernel_rfl) (by kernel_rfl) (by kernel_rfl) (fun _ _ _ h => h) (Or.inl ⟨by rfl, ?hy⟩) hHeld ?_
      case hy => (intro V hV; obtain ⟨hV1, hV2, hV3⟩ := hV; go_simp)
      simp only [Act.put]
      refine wpAnyH_take (i := 2) (v := (.pointer (some ⟨R, 7, none⟩))) rfl (by kernel_rfl) (by kernel_rfl) (by kernel_rfl) (fun _ _ _ h => h) (Or.inl ⟨by rfl, ?hy⟩) hHeld ?_
      case hy => (intro V hV; obtain ⟨hV1, hV2, hV3⟩ := hV; go_simp)
      simp only [Act.put]
      refine wpAnyH_take (i := 3) (v := (.map (some o.us))) rfl (by kernel_rfl) (by kernel_rfl) (by kernel_rfl) (fun _ _ _ h => h) (Or.inl ⟨by rfl, ?hy⟩) hHeld ?_
      case hy => (intro V hV; obtain ⟨hV1, hV2, hV3⟩ := hV; go_simp)
      simp only [Act.put]
      refine wpAnyH_take (i := 4) (v := (.pointer (some ⟨w.heap.size, 2, none⟩))) rfl (by kernel_rfl) (by kernel_rfl) (by kernel_rfl) (fun _ _ _ h => h) (Or.inl ⟨by rfl, ?hy⟩) hHeld ?_
      case hy => (intro V hV; obtain ⟨hV1, hV2, hV3⟩ := hV; go_simp)
      simp only [Act.put]
      refine wpAnyH_take (i := 5) (v := (.int .i64 t.file)) rfl (by kernel_rfl) (by kernel_rfl) (by kernel_rfl) (fun _ _ _ h => h) (Or.inl ⟨by rfl, ?hy⟩) hHeld ?_
      case hy => (intro V hV; obtain ⟨hV1, hV2, hV3⟩ := hV; go_simp)
      simp only [Act.put]
      refine wpAnyH_take (i := 6) (v := (.pointer (some ⟨R, 5, none⟩))) rfl (by kernel_rfl) (by kernel_rfl) (by kernel_rfl) (fun _ _ _ h => h) (Or.inl ⟨by rfl, ?hy⟩) hHeld ?_
      case hy => (intro V hV; obtain ⟨hV1, hV2, hV3⟩ := hV; go_simp)
      simp only [Act.put]
      refine wpAnyH_take (i := 7) (v := (.pointer (some ⟨R, 5, none⟩))) rfl (by kernel_rfl) (by kernel_rfl) (by kernel_rfl) (fun _ _ _ h => h) (Or.inl ⟨by rfl, ?hy⟩) hHeld ?_
      case hy => (intro V hV; obtain ⟨hV1, hV2, hV3⟩ := hV; go_simp)
      simp only [Act.put]
      refine wpAnyH_take (i := 8) (v := (.pointer (some ⟨R, 7, none⟩))) rfl (by kernel_rfl) (by kernel_rfl) (by kernel_rfl) (fun _ _ _ h => h) (Or.inl ⟨by rfl, ?hy⟩) hHeld ?_
      case hy => (intro V hV; obtain ⟨hV1, hV2, hV3⟩ := hV; go_simp)
      simp only [Act.put]
      refine wpAnyH_take (i := 9) (v := (.map (some o.us))) rfl (by kernel_rfl) (by kernel_rfl) (by kernel_rfl) (fun _ _ _ h => h) (Or.inl ⟨by rfl, ?hy⟩) hHeld ?_
      case hy => (intro V hV; obtain ⟨hV1, hV2, hV3⟩ := hV; go_simp)
      simp only [Act.put]
      refine wpAnyH_take (i := 10) (v := (.pointer (some ⟨w.heap.size, 2, none⟩))) rfl (by kernel_rfl) (by kernel_rfl) (by kernel_rfl) (fun _ _ _ h => h) (Or.inl ⟨by rfl, ?hy⟩) hHeld ?_
      case hy => (intro V hV; obtain ⟨hV1, hV2, hV3⟩ := hV; go_simp)
      simp only [Act.put]
      refine wpAnyH_take (i := 11) (v := (.int .i64 t.file)) rfl (by kernel_rfl) (by kernel_rfl) (by kernel_rfl) (fun _ _ _ h => h) (Or.inl ⟨by rfl, ?hy⟩) hHeld ?_
      case hy => (intro V hV; obtain ⟨hV1, hV2, hV3⟩ := hV; go_simp)
      simp only [Act.put]
      refine wpAnyH_ready (rs := [12, 14]) (by kernel_rfl) (by simp) ?_
      refine AllReadyH.cons rfl (fun K hK => ?_) (AllReadyH.cons rfl (fun K hK => ?_) AllReadyH.nil)
      · go_simp
        refine hK.out _ _ hHeld (fun hHeld => ?_)
        clear hK K
        try simp only [Act.put]
        refine wpAnyH_ready (rs := [14]) (by kernel_rfl) (by simp) ?_
        refine AllReadyH.cons rfl (fun K hK => ?_) AllReadyH.nil
        refine step_run rfl (exec_build #[(0, .agg cs')] rfl (by simp [Act.eval]) bs) ?_
        refine hK.out _ _ k1 (fun hHeld => ?_)
        clear hK K
        try simp only [Act.put]
        refine wpAnyH_ready (rs := [15]) (by kernel_rfl) (by simp) ?_
        refine AllReadyH.cons rfl (fun K hK => ?_) AllReadyH.nil
        refine step_run rfl (exec_append v (.slice (some ⟨W.heap.size, 0, none⟩) 1 1) rfl (by simp [Act.eval]) (by simp [Act.eval, hsW]) (q2 _)) ?_
        refine hK.out _ _ k2 (fun hHeld => ?_)
        clear hK K
        try simp only [Act.put]
        refine wpAnyH_ready (rs := [16]) (by kernel_rfl) (by simp) ?_
        refine AllReadyH.cons rfl (fun K hK => ?_) AllReadyH.nil
        go_simp
        refine hK.out _ _ k3 (fun hHeld => ?_)
        clear hK K
        try simp only [Act.put]
        refine wpAnyH_done (by kernel_rfl) ?_ _
        go_end0
        exact ⟨rfl, fin⟩
      · refine step_run rfl (exec_build #[(0, .agg cs')] rfl (by simp [Act.eval]) bs) ?_
        refine hK.out _ _ k1 (fun hHeld => ?_)
        clear hK K
        try simp only [Act.put]
        refine wpAnyH_ready (rs := [12]) (by kernel_rfl) (by simp) ?_
        refine AllReadyH.cons rfl (fun K hK => ?_) AllReadyH.nil
        go_simp
        refine hK.out _ _ k1 (fun hHeld => ?_)
        clear hK K
        try simp only [Act.put]
        refine wpAnyH_ready (rs := [15]) (by kernel_rfl) (by simp) ?_
        refine AllReadyH.cons rfl (fun K hK => ?_) AllReadyH.nil
        refine step_run rfl (exec_append v (.slice (some ⟨W.heap.size, 0, none⟩) 1 1) rfl (by simp [Act.eval]) (by simp [Act.eval, hsW]) (q2 _)) ?_
        refine hK.out _ _ k2 (fun hHeld => ?_)
        clear hK K
        try simp only [Act.put]
        refine wpAnyH_ready (rs := [16]) (by kernel_rfl) (by simp) ?_
        refine AllReadyH.cons rfl (fun K hK => ?_) AllReadyH.nil
        go_simp
        refine hK.out _ _ k3 (fun hHeld => ?_)
        clear hK K
        try simp only [Act.put]
        refine wpAnyH_done (by kernel_rfl) ?_ _
        go_end0
        exact ⟨rfl, fin⟩
  · have hs' : t.kind = 0 ∨ t.kind = 3 ∨ t.kind = 4 := by
      simp [Stp.sec] at hs
      omega
    have hsf : t.sec = false := by simpa using hs
    have hlen := hBW.length
    have hsl : (nms l).length ≤ l.length := List.length_filter_le _ _
    obtain ⟨ad, cap, V', q2, q3, q4, q5⟩ := row_more (V := (W.alloc (.cells t'.cells.toArray (115 : TypeId))).drew) htk hBW.row hBW.rlb (by omega) rfl
    rw [← hc'] at q2
    have hOV : Oj V' R (o.bl (o.last + 1) o.ns) := hOW.tb q5 (fun e => hMR (.inr (.inl (by rw [e]))))
    obtain ⟨w', hw'⟩ : ∃ w', w' = V'.setCell ⟨R, 6, none⟩ (.slice ad ((nms l).length + 1) cap) := ⟨_, rfl⟩
    have t6 : Tb (fun k => k = R) V' w' := by rw [hw']; exact Tb.set (S := fun k => k = R) R 6 _ rfl
    have fin : Hid (∃ L' ns', Lx w L L' ∧ Oj w' R (o.bl (o.last + 1) ns') ∧ Bk w' L' o.us ns' (o.last + 1) (l ++ [t']) ∧ Tb (fun g => g = R ∨ TB (L g)) w w') := by
      have hVs : (W.alloc (.cells t'.cells.toArray (115 : TypeId))).drew.heap.size = W.heap.size + 1 := by simp
      have hlx : Lx W M (lab M (W.alloc (.cells t'.cells.toArray (115 : TypeId))).drew.heap.size (7, 0)) := fun b hb => lab_old (by rw [hVs]; omega)
      have hBV : Bk V' (lab M (W.alloc (.cells t'.cells.toArray (115 : TypeId))).drew.heap.size (7, 0)) o.us o.ns o.last l → True := fun _ => trivial
      obtain ⟨sec, hS1, hS2, hS3⟩ := hBW.map
      have hS4 := hS1.tb q5 hlx (by rw [hBW.mlb]; simp) (fun g f e => by rw [e]; simp)
      have hMR6 : ∀ {g : Nat}, TB (M g) → g ≠ R := fun h e => hMR (e ▸ h)
      have hus := hS1.lt
      refine hide ⟨_, .slice ad ((nms l).length + 1) cap, hLM.trans (w' := W) hlx b0.size, ?_, ?_, ?_⟩
      · rw [hw']
        exact hOV.set 6 _ (o.bl (o.last + 1) (.slice ad ((nms l).length + 1) cap)) rfl hOV.armed hOV.failing
      · have hnw : nms (l ++ [t']) = nms l ++ [t'] := by rw [nms_snoc, hts, hsf]; rfl
        have hRn : ∀ g, (Value.slice ad ((nms l).length + 1) cap).ownBlock = some g → g ≠ R := fun g hg e => by
          have h7 := q4 g hg
          rw [e, hlx R (by omega)] at h7
          exact hMR (.inr (.inl (by rw [h7])))
        refine ⟨?_, fun g hg => q4 g hg, ⟨sec, ?_, fun f => ?_, by omega⟩, ?_, ?_, ?_, ?_, by omega⟩
        · rw [hnw, List.length_append, List.flatMap_append, List.flatMap_singleton]
          exact row_tb q3 t6 hRn
        · refine hS4.tb t6 (Lx.refl _ _) (fun e => hMR6 (g := o.us) (.inl (by rw [hBW.mlb])) e) (fun g f e h => ?_)
          rw [h, hlx R (by omega)] at e
          exact hMR (.inr (.inr (by rw [e])))
        · rw [scs_snoc, hts, hsf]
          simpa using hS2 f
        · rw [hlx _ hus]; exact hBW.mlb
        · intro x hx
          rcases List.mem_append.1 hx with hx | hx
          · exact hBW.ok x hx
          · simp only [List.mem_singleton] at hx; subst hx; exact htk
        · exact pairs_snoc hBW.up hBW.no htn
        · intro x hx
          rcases List.mem_append.1 hx with hx | hx
          · have := hBW.no x hx; omega
          · simp only [List.mem_singleton] at hx; subst hx; omega
      · have tW : Tb (fun g => g = R ∨ TB (L g)) w V' := (b0.mono (T := fun g => g = R ∨ TB (L g)) (fun _ _ h => .inl h)).trans q5 (fun g hg e => .inr (by rw [← hLM g hg, e]; exact .inr (.inl rfl)))
        exact tW.trans t6 (fun g _ e => .inl e)
    rw [ht'] at fin
    have k1 : (W.alloc (.cells cs' (115 : TypeId))).drew.heap[w.heap.size]? = some (.cells cs' (115 : TypeId) (0, 0)) := (((Tb.refl (fun _ => False) W).alloc _).block _ (by omega) (fun h => h)).trans hB
    have k2 : V'.heap[w.heap.size]? = some (.cells cs' (115 : TypeId) (0, 0)) := (q5.block _ (by omega) (by rw [hMB]; simp)).trans hB
    have k3 : w'.heap[w.heap.size]? = some (.cells cs' (115 : TypeId) (0, 0)) := (t6.block _ (Array.getElem?_eq_some_iff.1 k2).1 (by omega)).trans k2
    have v6 : V'.cell? ⟨R, 6, none⟩ = some o.ns := hOV.c 6
    have f6 := hOV.free 6
    rw [hw'] at k3 fin
    rw [← hcs.out]
    have H1 := hide hcs'
    have HW' := hide HW
    clear hO hR h ht ht' htk htf htn b0 hOW hLM hMB hMR hBW hts hs hlen hsl q3 q4 q5 hk HW hc' hcs' hOV hsf t6 hw' g7 g2 a7 a2 ld
    rcases hs' with e | e | e
    all_goals
      rw [e] at h1
      go_enter Tryz.func108, Tryz.ntmps108
      go_wp2_with fail
      rw [← H1.out.out, ← HW'.out]
      clear c5 f5 h0 h1
      refine wp_region_held_drew (S := fun V => V.heap[w.heap.size]? = some (.cells cs' (115 : TypeId) (0, 0))) (by kernel_rfl) hB (fun hHeld => ?_)
      try simp only [List.size_toArray, List.length_cons, List.length_nil, Nat.reduceAdd]
      refine wpAnyH_take (i := 5) (v := (.agg cs')) rfl (by kernel_rfl) (by kernel_rfl) (by kernel_rfl) (fun _ _ _ h => h) (Or.inl ⟨by rfl, ?hy⟩) hHeld ?_
      case hy => (intro V hV; exact exec_load (.pointer (some ⟨w.heap.size, 0, none⟩)) rfl (by simp [Act.eval]) (run_loadStep hV hsz'))
      simp only [Act.put]
      refine wpAnyH_take (i := 0) (v := (.pointer (some ⟨R, 5, none⟩))) rfl (by kernel_rfl) (by kernel_rfl) (by kernel_rfl) (fun _ _ _ h => h) (Or.inl ⟨by rfl, ?hy⟩) hHeld ?_
      case hy => (intro V hV; go_simp)
      simp only [Act.put]
      refine wpAnyH_take (i := 1) (v := (.pointer (some ⟨R, 5, none⟩))) rfl (by kernel_rfl) (by kernel_rfl) (by kernel_rfl) (fun _ _ _ h => h) (Or.inl ⟨by rfl, ?hy⟩) hHeld ?_
      case hy => (intro V hV; go_simp)
      simp only [Act.put]
      refine wpAnyH_take (i := 2) (v := (.pointer (some ⟨R, 5, none⟩))) rfl (by kernel_rfl) (by kernel_rfl) (by kernel_rfl) (fun _ _ _ h => h) (Or.inl ⟨by rfl, ?hy⟩) hHeld ?_
      case hy => (intro V hV; go_simp)
      simp only [Act.put]
      refine wpAnyH_take (i := 3) (v := (.pointer (some ⟨R, 6, none⟩))) rfl (by kernel_rfl) (by kernel_rfl) (by kernel_rfl) (fun _ _ _ h => h) (Or.inl ⟨by rfl, ?hy⟩) hHeld ?_
      case hy => (intro V hV; go_simp)
      simp only [Act.put]
      refine wpAnyH_ready (rs := [4, 6]) (by kernel_rfl) (by simp) ?_
      refine AllReadyH.cons rfl (fun K hK => ?_) (AllReadyH.cons rfl (fun K hK => ?_) AllReadyH.nil)
      · go_simp
        refine hK.out _ _ hHeld (fun hHeld => ?_)
        clear hK K
        try simp only [Act.put]
        refine wpAnyH_ready (rs := [6]) (by kernel_rfl) (by simp) ?_
        refine AllReadyH.cons rfl (fun K hK => ?_) AllReadyH.nil
        refine step_run rfl (exec_build #[(0, .agg cs')] rfl (by simp [Act.eval]) bs) ?_
        refine hK.out _ _ k1 (fun hHeld => ?_)
        clear hK K
        try simp only [Act.put]
        refine wpAnyH_ready (rs := [7]) (by kernel_rfl) (by simp) ?_
        refine AllReadyH.cons rfl (fun K hK => ?_) AllReadyH.nil
        refine step_run rfl (exec_append o.ns (.slice (some ⟨W.heap.size, 0, none⟩) 1 1) rfl (by simp [Act.eval]) (by simp [Act.eval, hsW]) (q2 _)) ?_
        refine hK.out _ _ k2 (fun hHeld => ?_)
        clear hK K
        try simp only [Act.put]
        refine wpAnyH_take (i := 8) (v := (.pointer (some ⟨R, 5, none⟩))) rfl (by kernel_rfl) (by kernel_rfl) (by kernel_rfl) (fun _ _ _ h => h) (Or.inl ⟨by rfl, ?hy⟩) hHeld ?_
        case hy => (intro V hV; go_simp)
        simp only [Act.put]
        refine wpAnyH_take (i := 9) (v := (.pointer (some ⟨R, 6, none⟩))) rfl (by kernel_rfl) (by kernel_rfl) (by kernel_rfl) (fun _ _ _ h => h) (Or.inl ⟨by rfl, ?hy⟩) hHeld ?_
        case hy => (intro V hV; go_simp)
        simp only [Act.put]
        refine wpAnyH_ready (rs := [10]) (by kernel_rfl) (by simp) ?_
        refine AllReadyH.cons rfl (fun K hK => ?_) AllReadyH.nil
        go_simp
        refine hK.out _ _ k3 (fun hHeld => ?_)
        clear hK K
        try simp only [Act.put]
        refine wpAnyH_done (by kernel_rfl) ?_ _
        go_end0
        exact ⟨rfl, fin⟩
      · refine step_run rfl (exec_build #[(0, .agg cs')] rfl (by simp [Act.eval]) bs) ?_
        refine hK.out _ _ k1 (fun hHeld => ?_)
        clear hK K
        try simp only [Act.put]
        refine wpAnyH_ready (rs := [4]) (by kernel_rfl) (by simp) ?_
        refine AllReadyH.cons rfl (fun K hK => ?_) AllReadyH.nil
        go_simp
        refine hK.out _ _ k1 (fun hHeld => ?_)
        clear hK K
        try simp only [Act.put]
        refine wpAnyH_ready (rs := [7]) (by kernel_rfl) (by simp) ?_
        refine AllReadyH.cons rfl (fun K hK => ?_) AllReadyH.nil
        refine step_run rfl (exec_append o.ns (.slice (some ⟨W.heap.size, 0, none⟩) 1 1) rfl (by simp [Act.eval]) (by simp [Act.eval, hsW]) (q2 _)) ?_
        refine hK.out _ _ k2 (fun hHeld => ?_)
        clear hK K
        try simp only [Act.put]
        refine wpAnyH_take (i := 8) (v := (.pointer (some ⟨R, 5, none⟩))) rfl (by kernel_rfl) (by kernel_rfl) (by kernel_rfl) (fun _ _ _ h => h) (Or.inl ⟨by rfl, ?hy⟩) hHeld ?_
        case hy => (intro V hV; go_simp)
        simp only [Act.put]
        refine wpAnyH_take (i := 9) (v := (.pointer (some ⟨R, 6, none⟩))) rfl (by kernel_rfl) (by kernel_rfl) (by kernel_rfl) (fun _ _ _ h => h) (Or.inl ⟨by rfl, ?hy⟩) hHeld ?_
        case hy => (intro V hV; go_simp)
        simp only [Act.put]
        refine wpAnyH_ready (rs := [10]) (by kernel_rfl) (by simp) ?_
        refine AllReadyH.cons rfl (fun K hK => ?_) AllReadyH.nil
        go_simp
        refine hK.out _ _ k3 (fun hHeld => ?_)
        clear hK K
        try simp only [Act.put]
        refine wpAnyH_done (by kernel_rfl) ?_ _
        go_end0
        exact ⟨rfl, fin⟩

end Go.Proofs.YtgbboaedhpaocaaGreat

/-
  Texts put into one.
-/
import Derived.Test.YtkdolabhcbjipaaGreatDat
import Derived.Test.YtkdolabhcbjipaaGreatDco
import Derived.Deep.RegionHeld3

/-
  The unsynced steps of a disk: how they lie in memory; one is added.
-/
namespace Go.Proofs.YtkdolabhcbjipaaGreat
open Go.RowKit
set_option maxRecDepth 100000

/-- Is it a step of a file's sectors? -/
def Stp.sec (t : Stp) : Bool := decide (t.kind = 1 ∨ t.kind = 2)
/-- The steps of names. -/
def nms (l : List Stp) : List Stp := l.filter fun t => !t.sec
/-- The steps of a file's sectors. -/
def scs (l : List Stp) (f : Int) : List Stp := l.filter fun t => t.sec && decide (t.file = f)

/-- The steps as they lie in memory. -/
structure Bk (w : World) (L : Lb) (us : Nat) (ns : Value) (last : Int) (l : List Stp) : Prop where
  row : w.ownsRow 0 (87 : TypeId) 70 ns (nms l).length ((nms l).flatMap Stp.cells)
  rlb : ∀ g, ns.ownBlock = some g → L g = (7, 0)
  map : ∃ sec, Rw Stp.cells (87 : TypeId) 70 w L 16 us sec ∧ (∀ f, (lk sec f).getD [] = scs l f) ∧ (sec.length : Int) ≤ last
  mlb : L us = (6, 0)
  ok : ∀ t ∈ l, t.Ok
  up : l.Pairwise fun x y => x.no < y.no
  no : ∀ t ∈ l, 1 ≤ t.no ∧ t.no ≤ last
  last : 0 ≤ last

/-- The labels of the steps' blocks. -/
def TB (x : Int × Int) : Prop := x.1 = 6 ∨ x.1 = 7 ∨ x.1 = 16

section
variable {w w' : World} {L L' : Lb} {us : Nat} {ns : Value} {last : Int} {l : List Stp}
theorem Bk.tb {S : Nat → Prop} (h : Bk w L us ns last l) (hb : Tb S w w') (hl : Lx w L L') (hS : ∀ g, TB (L g) → ¬ S g) : Bk w' L' us ns last l := by
  obtain ⟨sec, h1, h2, h3⟩ := h.map
  exact ⟨row_tb h.row hb (fun g hg => hS g (.inr (.inl (by rw [h.rlb g hg])))), fun g hg => by rw [hl g (row_lt h.row hg)]; exact h.rlb g hg, ⟨sec, h1.tb hb hl (hS _ (.inl (by rw [h.mlb]))) (fun g f e => hS g (.inr (.inr (by rw [e])))), h2, h3⟩, by rw [hl _ h1.lt]; exact h.mlb, h.ok, h.up, h.no, h.last⟩
theorem Bk.length (h : Bk w L us ns last l) : (l.length : Int) ≤ last := by
  have key : ∀ (l : List Stp) (k : Int), l.Pairwise (fun x y => x.no < y.no) → (∀ t ∈ l, k < t.no ∧ t.no ≤ last) → k ≤ last → k + (l.length : Int) ≤ last := by
    intro l
    induction l with
    | nil => intro k _ _ hk; simpa using hk
    | cons x l ih =>
      intro k hp hb _
      obtain ⟨h1, h2⟩ := List.pairwise_cons.1 hp
      have hx := hb x (by simp)
      have := ih x.no h2 (fun t ht => ⟨h1 t ht, (hb t (by simp [ht])).2⟩) hx.2
      simp only [List.length_cons]
      omega
  have := key l 0 h.up (fun t ht => by have := h.no t ht; omega) h.last
  omega
end

theorem zero47 (W : World) : (zeroValue (56 : TypeId)).run Tryz.prog W = .ok (.slice none 0 0) W := by
  have h : (Tryz.prog.info? (56 : TypeId)).map (·.zero) = some (some (.slice none 0 0)) := by kernel_rfl
  obtain ⟨i, hi, hz⟩ := Option.map_eq_some_iff.1 h
  simp [zeroValue, typeInfo, hi, hz]

theorem info81 : ∃ i z, Tryz.prog.info? (87 : TypeId) = some i ∧ i.zero = some z ∧ i.size = 70 ∧ i.bytes = 128 ∧ z.cells.size = 70 := by
  have h : (Tryz.prog.info? (87 : TypeId)).map (fun i => (i.zero.map (·.cells.size), i.size, i.bytes)) = some (some 70, 70, 128) := by kernel_rfl
  obtain ⟨i, hi, hz⟩ := Option.map_eq_some_iff.1 h
  simp only [Prod.mk.injEq] at hz
  obtain ⟨z, h1, h2⟩ := Option.map_eq_some_iff.1 hz.1
  exact ⟨i, z, hi, h1, hz.2.1, hz.2.2, h2⟩

/-- A slice of one step. -/
theorem run_oneStep (W : World) (cs : Array Value) (hsz : cs.size = 70) : (Instr.buildSlice (56 : TypeId) 1 #[(0, .agg cs)]).run Tryz.prog W = .ok (.slice (some ⟨W.heap.size, 0, none⟩) 1 1) (W.alloc (.cells cs (87 : TypeId))) := by
  obtain ⟨i, z, hi, hz, h1, h2, h3⟩ := info81
  refine run_buildSlice W (56 : TypeId) (87 : TypeId) 1 _ cs i z Tryz.underlying56 hi hz (by rw [h1]; decide) (by rw [h1]; decide) ?_
  rw [h1]
  have := Great.fill_whole (s := 70) (by decide) [.agg cs] ((Array.range (1 * 70)).map (z.cells[· % z.cells.size]!)) (by simp [Value.cells, hsz]) (by simp)
  simpa [Value.cells] using this

theorem run_loadStep {W : World} {B : Nat} {cs : Array Value} (hB : W.heap[B]? = some (.cells cs (87 : TypeId) (0, 0))) (hsz : cs.size = 70) : (Instr.loadAt (87 : TypeId) (.pointer (some ⟨B, 0, none⟩))).run Tryz.prog W = .ok (.agg cs) W := by
  obtain ⟨i, z, hi, hz, h1, h2, h3⟩ := info81
  simp only [Instr.loadAt, Instr.sureAddr, Sem.run_bind, Sem.run_pure, Result.andThen_ok, run_loadVar_row W B (87 : TypeId) (87 : TypeId) cs (0, 0) _ hB Tryz.underlying87 rfl (by rw [hi]; simp [h1, hsz])]

/-- A load of a whole struct. -/
theorem exec_load {P : Program} {o : Oper} {a : Act} {w : World} {ty : TypeId} {x : Operand} {v : Value} (pv : Value) (hop : o.op = .load ty x) (hx : a.eval x = pv) (hrun : (Instr.loadAt ty pv).run P w = .ok v w) : (execOp a.eval o).run P w = .ok (.value v) w := by
  unfold execOp
  simp only [hop, hx, Sem.run_bind, hrun, Result.andThen_ok]
  rfl

/-- A slice that is built. -/
theorem exec_build {P : Program} {o : Oper} {a : Act} {w w' : World} {ty : TypeId} {n : Nat} {parts : Array (Nat × Operand)} {v : Value} (ps : Array (Nat × Value)) (hop : o.op = .buildSlice ty n parts) (hx : (parts.map fun (i, x) => (i, a.eval x)) = ps) (hrun : (Instr.buildSlice ty n ps).run P w = .ok v w') : (execOp a.eval o).run P w = .ok (.value v) w' := by
  unfold execOp
  simp only [hop, hx, Sem.run_bind, hrun, Result.andThen_ok]
  rfl

/-- An append. -/
theorem exec_append {P : Program} {o : Oper} {a : Act} {w w' : World} {t : TypeId} {s x : Operand} {v : Value} (sv xv : Value) (hop : o.op = .call { callee := .builtin .append, args := #[s, x], argTypes := #[t, t] }) (hs : a.eval s = sv) (hx : a.eval x = xv) (hrun : (Builtin.append_ #[t, t] o.type #[sv, xv]).run P w = .ok v w') : (execOp a.eval o).run P w = .ok (.value v) w' := by
  unfold execOp
  simp [hop, resolve, invoke, builtin, hs, hx, hrun, Result.andThen]

/-- An operation of a region that draws its order, by what it comes to. -/
theorem step_run {P : Program} {ops : Array Oper} {o : Oper} {a : Act} {w w' : World} {v : Value} {K : Act → World → Prop} {Q : Exit → Act → World → Prop} {E : Prop} (hg : o.guard = none) (hrun : (execOp a.eval o).run P w = .ok (.value v) w') (hK : K (a.put o.dst v) w') :
    if Region.wanted o (yielded ops a.tmps) = true then Oper.wp P o a w K Q else E := by
  have hw : Region.wanted o (yielded ops a.tmps) = true := by simp [Region.wanted, hg]
  rw [if_pos hw]
  unfold Oper.wp
  rw [hrun]
  exact hK

/-- A step with a number. -/
def Stp.num (t : Stp) (n : Int) : Stp := { t with no := n }
theorem num_cells (t : Stp) (n : Int) : t.cells.toArray.setIfInBounds 0 (.int .i64 n) = (t.num n).cells.toArray := rfl

/-- What the own block says with other steps. -/
def Ob.bl (o : Ob) (last : Int) (ns : Value) : Ob := { o with last := last, ns := ns }

theorem scs_snoc (l : List Stp) (t : Stp) (f : Int) : scs (l ++ [t]) f = if t.sec = true ∧ t.file = f then scs l f ++ [t] else scs l f := by
  unfold scs
  rw [List.filter_append]
  by_cases h : t.sec = true ∧ t.file = f
  · rw [if_pos h]; simp [h.1, h.2]
  · rw [if_neg h]
    have : (t.sec && decide (t.file = f)) = false := by
      cases hs : t.sec
      · simp
      · simp [hs] at h; simp [h]
    simp [this]
theorem nms_snoc (l : List Stp) (t : Stp) : nms (l ++ [t]) = if t.sec = true then nms l else nms l ++ [t] := by
  unfold nms
  rw [List.filter_append]
  cases hs : t.sec <;> simp [hs]

theorem pairs_snoc {l : List Stp} {t : Stp} {last : Int} (h : l.Pairwise fun x y => x.no < y.no) (hn : ∀ x ∈ l, 1 ≤ x.no ∧ x.no ≤ last) (ht : t.no = last + 1) : (l ++ [t]).Pairwise fun x y => x.no < y.no :=
  List.pairwise_append.2 ⟨h, by simp, fun x hx y hy => by simp only [List.mem_singleton] at hy; subst hy; have := hn x hx; omega⟩

theorem Stp.Ok.num {t : Stp} (h : t.Ok) {n : Int} (hn : 0 ≤ n ∧ n ≤ 9223372036854775807) : (t.num n).Ok := ⟨hn, h.kind, h.file, h.name, h.to, h.at', h.put, h.data, h.byte⟩

/-- What a map of steps is behind one more: W is what is there, V the same with a slice of that step. -/
theorem sec_more {W V : World} {M : Lb} {us : Nat} {sec : List (Int × List Stp)} {t : Stp} (ht : t.Ok) (hS : Rw Stp.cells (87 : TypeId) 70 W M 16 us sec) (hu : M us = (6, 0)) (hn : sec.length < 9000000000000000000) (hlen : ((lk sec t.file).getD []).length < 1000000000000)
    (hV : V = (W.alloc (.cells t.cells.toArray (87 : TypeId))).drew) :
    ∃ v v' V' w', (∀ X : World, X.heap[us]? = W.heap[us]? → (Instr.lookup (57 : TypeId) (.map (some us)) (.int .i64 t.file) false).run Tryz.prog X = .ok v X) ∧
      (∀ ty, (Builtin.append_ #[(56 : TypeId), (56 : TypeId)] ty #[v, .slice (some ⟨W.heap.size, 0, none⟩) 1 1]).run Tryz.prog V = .ok v' V') ∧ (Instr.mapUpdate (57 : TypeId) (.map (some us)) (.int .i64 t.file) v').run Tryz.prog V' = .ok () w' ∧
      Rw Stp.cells (87 : TypeId) 70 w' (lab M V.heap.size (16, t.file)) 16 us (st sec t.file ((lk sec t.file).getD [] ++ [t])) ∧ Tb (fun g => M g = (16, t.file) ∨ g = us) W w' ∧ Tb (fun g => M g = (16, t.file)) W V' := by
  obtain ⟨v, hfind, hown, hlab⟩ := hS.find Tryz.underlying57 zero47 ht.i6
  obtain ⟨i, z, hi, hz, h1, h2, h3⟩ := info81
  have bV : Tb (fun _ => False) W V := by rw [hV]; exact ((Tb.refl _ _).alloc _).drew
  have hownV := row_tb hown bV (fun _ _ h => h)
  have hone : V.ownsRow 0 (87 : TypeId) 70 (.slice (some ⟨W.heap.size, 0, none⟩) 1 1) 1 t.cells := by rw [hV]; exact own_one W t.cells 70 (87 : TypeId) ht.len
  have hap := fun ty => run_append_rows (P := Tryz.prog) (w := V) 0 (56 : TypeId) ty (87 : TypeId) i z 70 128 Tryz.underlying56 hi hz h1 h2 h3 (by decide) v _ _ hownV _ 1 t.cells 0 hone t.one (by unfold maxLen; omega) (by omega) (Nat.zero_le _)
  obtain ⟨v', V', hr, ho', hg', hw'⟩ := hap 0
  have hr' : ∀ ty, (Builtin.append_ #[(56 : TypeId), (56 : TypeId)] ty #[v, .slice (some ⟨W.heap.size, 0, none⟩) 1 1]).run Tryz.prog V = .ok v' V' := fun ty => hr
  have tV : Tb (fun g => M g = (16, t.file)) V V' := Tb.of_grown hg' hlab
  have tW : Tb (fun g => M g = (16, t.file)) W V' := (bV.mono (T := fun g => M g = (16, t.file)) (fun _ _ h => h.elim)).trans tV (fun _ _ h => h)
  have hVs : W.heap.size < V.heap.size := by rw [hV]; simp
  have hlx : Lx W M (lab M V.heap.size (16, t.file)) := fun b hb => lab_old (by omega)
  have hl' : ∀ g, v'.ownBlock = some g → lab M V.heap.size (16, t.file) g = (16, t.file) := fun g hg => by
    rcases hw' with e | e
    · rw [e] at hg
      rw [lab_old (by have := row_lt hown hg; omega)]
      exact hlab g hg
    · rw [e] at hg
      simp only [Option.some.injEq] at hg
      rw [← hg]
      exact lab_new _ _ _
  have hus : us < W.heap.size := hS.lt
  have hne : ∀ g, v'.ownBlock = some g → g ≠ us := fun g hg e => by
    have := hl' g hg
    rw [e, lab_old (by omega), hu] at this
    simp at this
  obtain ⟨w', hr2, hR2, ht2⟩ := hS.store (w := V') (L' := lab M V.heap.size (16, t.file)) (v := v') (xs := (lk sec t.file).getD [] ++ [t]) Tryz.underlying57 (by omega) ht.i6 tW hlx (by rw [hu]; simp) (by rw [List.length_append, List.flatMap_append, List.flatMap_singleton]; exact ho') hl' hne
  refine ⟨v, v', V', w', fun X hX => (hfind X hX).1, hr', hr2, hR2, ?_, tW⟩
  exact (tW.mono (T := fun g => M g = (16, t.file) ∨ g = us) (fun _ _ h => .inl h)).trans (Tb.turned (S := fun k => k = us) ht2 rfl) (fun _ _ h => .inr h)

/-- What a row of steps is behind one more. -/
theorem row_more {W V : World} {M : Lb} {x : Int × Int} {ns : Value} {n : Nat} {xs : List Value} {t : Stp} (ht : t.Ok) (hS : W.ownsRow 0 (87 : TypeId) 70 ns n xs) (hl : ∀ g, ns.ownBlock = some g → M g = x) (hn : n < 1000000000000)
    (hV : V = (W.alloc (.cells t.cells.toArray (87 : TypeId))).drew) :
    ∃ ad cap V', (∀ ty, (Builtin.append_ #[(56 : TypeId), (56 : TypeId)] ty #[ns, .slice (some ⟨W.heap.size, 0, none⟩) 1 1]).run Tryz.prog V = .ok (.slice ad (n + 1) cap) V') ∧
      V'.ownsRow 0 (87 : TypeId) 70 (.slice ad (n + 1) cap) (n + 1) (xs ++ t.cells) ∧ (∀ g, (Value.slice ad (n + 1) cap).ownBlock = some g → lab M V.heap.size x g = x) ∧ Tb (fun g => M g = x) W V' := by
  obtain ⟨i, z, hi, hz, h1, h2, h3⟩ := info81
  have bV : Tb (fun _ => False) W V := by rw [hV]; exact ((Tb.refl _ _).alloc _).drew
  have hownV := row_tb hS bV (fun _ _ h => h)
  have hone : V.ownsRow 0 (87 : TypeId) 70 (.slice (some ⟨W.heap.size, 0, none⟩) 1 1) 1 t.cells := by rw [hV]; exact own_one W t.cells 70 (87 : TypeId) ht.len
  obtain ⟨v', V', hr, ho', hg', hw'⟩ := run_append_rows (P := Tryz.prog) (w := V) 0 (56 : TypeId) 0 (87 : TypeId) i z 70 128 Tryz.underlying56 hi hz h1 h2 h3 (by decide) ns _ _ hownV _ 1 t.cells 0 hone t.one (by unfold maxLen; omega) (by omega) (Nat.zero_le _)
  obtain ⟨ad, cap, rfl⟩ := row_val ho'
  have hr' : ∀ ty, (Builtin.append_ #[(56 : TypeId), (56 : TypeId)] ty #[ns, .slice (some ⟨W.heap.size, 0, none⟩) 1 1]).run Tryz.prog V = .ok (.slice ad (n + 1) cap) V' := fun ty => hr
  have hVs : W.heap.size < V.heap.size := by rw [hV]; simp
  refine ⟨ad, cap, V', hr', ho', fun g hg => ?_, (bV.mono (T := fun g => M g = x) (fun _ _ h => h.elim)).trans (Tb.of_grown (S := fun g => M g = x) hg' hl) (fun _ _ h => h)⟩
  rcases hw' with e | e
  · rw [e] at hg
    rw [lab_old (by have := row_lt hS hg; omega)]
    exact hl g hg
  · rw [e] at hg
    simp only [Option.some.injEq] at hg
    rw [← hg]
    exact lab_new _ _ _

set_option maxHeartbeats 2000000 in
theorem add_any {w : World} {L : Lb} {R : Nat} {o : Ob} {l : List Stp} {t : Stp} (hO : Oj w R o) (hR : ¬ TB (L R)) (h : Bk w L o.us o.ns o.last l) (ht : t.Ok) (hlast : o.last < 1000000000) :
    Calls Tryz.prog 87 #[.pointer (some ⟨R, 5, none⟩), .agg t.cells.toArray] w fun e w' => e = .returned (.tuple #[]) ∧ ∃ L' ns', Lx w L L' ∧ Oj w' R (o.bl (o.last + 1) ns') ∧ Bk w' L' o.us ns' (o.last + 1) (l ++ [t.num (o.last + 1)]) ∧ Tb (fun g => g = R ∨ TB (L g)) w w' := by
  obtain ⟨cs, hcs⟩ : ∃ cs, Hid (cs = t.cells.toArray) := ⟨_, hide rfl⟩
  have h1 : cs[1]? = some (.int .u8 t.kind) := by rw [hcs.out]; rfl
  have h0 : cs[0]? = some (.int .i64 t.no) := by rw [hcs.out]; rfl
  have c5 : w.cell? ⟨R, 5, none⟩ = some (.int .i64 o.last) := hO.c 5
  have f5 := hO.free 5
  have hRl := hO.lt
  have hl0 := h.last
  obtain ⟨t', ht'⟩ : ∃ t', t' = t.num (o.last + 1) := ⟨_, rfl⟩
  have htk : t'.Ok := by rw [ht']; exact ht.num (by omega)
  have htf : t'.file = t.file := by rw [ht']; rfl
  have htn : t'.no = o.last + 1 := by rw [ht']; rfl
  obtain ⟨cs', hcs'⟩ : ∃ x, Hid (x = cs.setIfInBounds 0 (.int .i64 (o.last + 1))) := ⟨_, hide rfl⟩
  have hc' : cs' = t'.cells.toArray := by rw [hcs'.out, hcs.out, num_cells, ht']
  have hsz' : cs'.size = 70 := by rw [hc', List.size_toArray]; exact htk.len
  obtain ⟨W, HW⟩ : ∃ W, W = (w.setCell ⟨R, 5, none⟩ (.int .i64 (o.last + 1))).alloc (.cells cs' (87 : TypeId)) := ⟨_, rfl⟩
  have b0 : Tb (fun k => k = R) w W := by rw [HW]; exact (Tb.set (S := fun k => k = R) R 5 _ rfl).alloc _
  have hOW : Oj W R (o.bl (o.last + 1) o.ns) := by
    have := hO.set 5 (.int .i64 (o.last + 1)) (o.bl (o.last + 1) o.ns) rfl hO.armed hO.failing
    exact this.tb (S := fun _ => False) (by rw [HW]; exact (Tb.refl _ _).alloc _) (fun h => h)
  have hsW : W.heap.size = w.heap.size + 1 := by rw [HW]; simp [World.setCell]
  have hB : W.heap[w.heap.size]? = some (.cells cs' (87 : TypeId) (0, 0)) := by rw [HW]; simpa [World.setCell] using heap_alloc_new (w.setCell ⟨R, 5, none⟩ (.int .i64 (o.last + 1))) (.cells cs' (87 : TypeId))
  obtain ⟨M, hM⟩ : ∃ M, M = onlyL w L := ⟨_, rfl⟩
  have hLM : Lx w L M := by rw [hM]; exact onlyL_lx w L
  have hMB : M w.heap.size = (0, 0) := by rw [hM, onlyL_new (Nat.le_refl _)]
  have hMR : ¬ TB (M R) := by rw [hLM R hRl]; exact hR
  have hBW : Bk W M o.us o.ns o.last l := h.tb b0 hLM (fun g hg e => hR (e ▸ hg))
  clear hM
  have g7 : W.cell? ⟨R, 7, none⟩ = some (.map (some o.us)) := hOW.c 7
  have g6 : W.cell? ⟨R, 6, none⟩ = some o.ns := hOW.c 6
  have g2 : W.cell? ⟨w.heap.size, 2, none⟩ = some (.int .i64 t.file) := by rw [cell_of_row W _ 2 _ (87 : TypeId) (0, 0) hB, hc', ← htf]; rfl
  have a7 : ∀ x, (W.alloc x).cell? ⟨R, 7, none⟩ = some (.map (some o.us)) := fun x => ((Tb.refl (fun _ => False) W).alloc x).cell g7 (fun h => h)
  have a6 : ∀ x, (W.alloc x).cell? ⟨R, 6, none⟩ = some o.ns := fun x => ((Tb.refl (fun _ => False) W).alloc x).cell g6 (fun h => h)
  have a2 : ∀ x, (W.alloc x).cell? ⟨w.heap.size, 2, none⟩ = some (.int .i64 t.file) := fun x => ((Tb.refl (fun _ => False) W).alloc x).cell g2 (fun h => h)
  have ld : (Instr.loadAt (87 : TypeId) (.pointer (some ⟨w.heap.size, 0, none⟩))).run Tryz.prog W.drew = .ok (.agg cs') W.drew := run_loadStep (W := W.drew) hB hsz'
  have bs : (Instr.buildSlice (56 : TypeId) 1 #[(0, .agg cs')]).run Tryz.prog W.drew = .ok (.slice (some ⟨W.heap.size, 0, none⟩) 1 1) (W.alloc (.cells cs' (87 : TypeId))).drew := run_oneStep W.drew cs' hsz'
  have hk := ht.kind
  have hts : t'.sec = t.sec := by rw [ht']; rfl
  by_cases hs : t.sec = true
  · have hs' : t.kind = 1 ∨ t.kind = 2 := by simpa [Stp.sec] using hs
    obtain ⟨sec, hS1, hS2, hS3⟩ := hBW.map
    have hlen := hBW.length
    have hsl : (scs l t.file).length ≤ l.length := List.length_filter_le _ _
    obtain ⟨v, v', V', w', q1, q2, q3, q4, q5, q6⟩ := sec_more (V := (W.alloc (.cells t'.cells.toArray (87 : TypeId))).drew) htk hS1 hBW.mlb (by omega) (by rw [hS2, htf]; omega) rfl
    rw [← hc'] at q2
    rw [htf] at q1 q3
    have p1 := q1 W.drew rfl
    have p2 := q1 (W.alloc (.cells cs' (87 : TypeId))).drew (((Tb.refl (fun _ => False) W).alloc _).block _ hS1.lt (fun h => h))
    have fin : Hid (∃ L' ns', Lx w L L' ∧ Oj w' R (o.bl (o.last + 1) ns') ∧ Bk w' L' o.us ns' (o.last + 1) (l ++ [t']) ∧ Tb (fun g => g = R ∨ TB (L g)) w w') := by
      have hus := hS1.lt
      have hVs : (W.alloc (.cells t'.cells.toArray (87 : TypeId))).drew.heap.size = W.heap.size + 1 := by simp
      have hlx : Lx W M (lab M (W.alloc (.cells t'.cells.toArray (87 : TypeId))).drew.heap.size (16, t'.file)) := fun b hb => lab_old (by rw [hVs]; omega)
      refine hide ⟨_, o.ns, hLM.trans (w' := W) hlx b0.size, hOW.tb q5 ?_, ?_, ?_⟩
      · rintro (e | e)
        · exact hMR (.inr (.inr (by rw [e])))
        · exact hMR (.inl (by rw [e, hBW.mlb]))
      · refine ⟨?_, ?_, ⟨_, q4, fun f => ?_, ?_⟩, ?_, ?_, ?_, ?_, by omega⟩
        · rw [nms_snoc, hts, if_pos hs]
          refine row_tb hBW.row q5 (fun g hg => ?_)
          rintro (e | e)
          · rw [hBW.rlb g hg] at e; simp at e
          · have := hBW.rlb g hg; rw [e, hBW.mlb] at this; simp at this
        · intro g hg
          rw [hlx g (row_lt hBW.row hg)]
          exact hBW.rlb g hg
        · rw [scs_snoc, hts]
          by_cases hf : t'.file = f
          · rw [if_pos ⟨hs, hf⟩, ← hf, lk_st_same, Option.getD_some, hS2]
          · rw [if_neg (fun h => hf h.2), lk_st_other (fun e => hf e.symm), hS2]
        · have := st_le sec t'.file ((lk sec t'.file).getD [] ++ [t'])
          omega
        · rw [hlx _ hus]; exact hBW.mlb
        · intro x hx
          rcases List.mem_append.1 hx with hx | hx
          · exact hBW.ok x hx
          · simp only [List.mem_singleton] at hx; subst hx; exact htk
        · exact pairs_snoc hBW.up hBW.no htn
        · intro x hx
          rcases List.mem_append.1 hx with hx | hx
          · have := hBW.no x hx; omega
          · simp only [List.mem_singleton] at hx; subst hx; omega
      · refine (b0.mono (T := fun g => g = R ∨ TB (L g)) (fun _ _ h => .inl h)).trans q5 (fun g hg e => .inr ?_)
        rcases e with e | e
        · rw [hLM g hg] at e; exact .inr (.inr (by rw [e]))
        · rw [e, ← hLM _ (by rw [← e]; exact hg), hBW.mlb]; exact .inl rfl
    rw [ht'] at fin
    have KS : ∀ (S : Nat → Prop) (X : World), Tb S W X → ¬ S R → ¬ S w.heap.size → X.heap[w.heap.size]? = some (.cells cs' (87 : TypeId) (0, 0)) ∧ X.cell? ⟨R, 7, none⟩ = some (.map (some o.us)) ∧ X.cell? ⟨w.heap.size, 2, none⟩ = some (.int .i64 t.file) := fun S X hX s1 s2 =>
      ⟨(hX.block _ (by omega) s2).trans hB, hX.cell g7 s1, hX.cell g2 s2⟩
    have k1 := KS _ _ (((Tb.refl (fun _ => False) W).alloc (.cells cs' (87 : TypeId))).drew) (fun h => h) (fun h => h)
    have k2 := KS _ V' q6 (fun e => hMR (.inr (.inr (by rw [e])))) (by rw [hMB]; simp)
    have k3 := KS _ w' q5 (by
      rintro (e | e)
      · exact hMR (.inr (.inr (by rw [e])))
      · exact hMR (.inl (by rw [e, hBW.mlb]))) (by
      rintro (e | e)
      · rw [hMB] at e; simp at e
      · have := hBW.mlb; rw [← e, hMB] at this; simp at this)
    clear KS
    rw [← hcs.out]
    have H1 := hide hcs'
    have HW' := hide HW
    have hcc := hide hc'
    clear hO hR h ht ht' htk htf htn b0 hOW hLM hMB hMR hBW hts hs hS1 hS2 hS3 hlen hsl q1 q4 q5 q6 hk HW hc' hcs'
    rcases hs' with e | e
    all_goals
      rw [e] at h1
      go_enter Tryz.func87, Tryz.ntmps87
      go_wp2_with fail
      rw [← H1.out.out, ← HW'.out]
      clear c5 f5 h0 h1
      refine wp_region_held_drew (S := fun V => V.heap[w.heap.size]? = some (.cells cs' (87 : TypeId) (0, 0)) ∧ V.cell? ⟨R, 7, none⟩ = some (.map (some o.us)) ∧ V.cell? ⟨w.heap.size, 2, none⟩ = some (.int .i64 t.file)) (by kernel_rfl) ⟨hB, g7, g2⟩ (fun hHeld => ?_)
      try simp only [List.size_toArray, List.length_cons, List.length_nil, Nat.reduceAdd]
      refine wpAnyH_take (i := 13) (v := (.agg cs')) rfl (by kernel_rfl) (by kernel_rfl) (by kernel_rfl) (fun _ _ _ h => h) (Or.inl ⟨by rfl, ?hy⟩) hHeld ?_
      case hy => (intro V hV; obtain ⟨hV1, hV2, hV3⟩ := hV; exact exec_load (.pointer (some ⟨w.heap.size, 0, none⟩)) rfl (by simp [Act.eval]) (run_loadStep hV1 hsz'))
      simp only [Act.put]
      refine wpAnyH_take (i := 0) (v := (.pointer (some ⟨R, 5, none⟩))) rfl (by kernel_rfl) (by kernel_rfl) (by kernel_rfl) (fun _ _ _ h => h) (Or.inl ⟨by rfl, ?hy⟩) hHeld ?_
      case hy => (intro V hV; obtain ⟨hV1, hV2, hV3⟩ := hV; go_simp)
      simp only [Act.put]
      refine wpAnyH_take (i := 1) (v := (.pointer (some ⟨R, 5, none⟩))) rfl (by kernel_rfl) (by kernel_rfl) (by kernel_rfl) (fun _ _ _ h => h) (Or.inl ⟨by rfl, ?hy⟩) hHeld ?_
      case hy => (intro V hV; obtain ⟨hV1, hV2, hV3⟩ := hV; go_simp)
      simp only [Act.put]
      refine wpAnyH_take (i := 2) (v := (.pointer (some ⟨R, 7, none⟩))) rfl (by kernel_rfl) (by kernel_rfl) (by kernel_rfl) (fun _ _ _ h => h) (Or.inl ⟨by rfl, ?hy⟩) hHeld ?_
      case hy => (intro V hV; obtain ⟨hV1, hV2, hV3⟩ := hV; go_simp)
      simp only [Act.put]
      refine wpAnyH_take (i := 3) (v := (.map (some o.us))) rfl (by kernel_rfl) (by kernel_rfl) (by kernel_rfl) (fun _ _ _ h => h) (Or.inl ⟨by rfl, ?hy⟩) hHeld ?_
      case hy => (intro V hV; obtain ⟨hV1, hV2, hV3⟩ := hV; go_simp)
      simp only [Act.put]
      refine wpAnyH_take (i := 4) (v := (.pointer (some ⟨w.heap.size, 2, none⟩))) rfl (by kernel_rfl) (by kernel_rfl) (by kernel_rfl) (fun _ _ _ h => h) (Or.inl ⟨by rfl, ?hy⟩) hHeld ?_
      case hy => (intro V hV; obtain ⟨hV1, hV2, hV3⟩ := hV; go_simp)
      simp only [Act.put]
      refine wpAnyH_take (i := 5) (v := (.int .i64 t.file)) rfl (by kernel_rfl) (by kernel_rfl) (by kernel_rfl) (fun _ _ _ h => h) (Or.inl ⟨by rfl, ?hy⟩) hHeld ?_
      case hy => (intro V hV; obtain ⟨hV1, hV2, hV3⟩ := hV; go_simp)
      simp only [Act.put]
      refine wpAnyH_take (i := 6) (v := (.pointer (some ⟨R, 5, none⟩))) rfl (by kernel_rfl) (by kernel_rfl) (by kernel_rfl) (fun _ _ _ h => h) (Or.inl ⟨by rfl, ?hy⟩) hHeld ?_
      case hy => (intro V hV; obtain ⟨hV1, hV2, hV3⟩ := hV; go_simp)
      simp only [Act.put]
      refine wpAnyH_take (i := 7) (v := (.pointer (some ⟨R, 5, none⟩))) rfl (by kernel_rfl) (by kernel_rfl) (by kernel_rfl) (fun _ _ _ h => h) (Or.inl ⟨by rfl, ?hy⟩) hHeld ?_
      case hy => (intro V hV; obtain ⟨hV1, hV2, hV3⟩ := hV; go_simp)
      simp only [Act.put]
      refine wpAnyH_take (i := 8) (v := (.pointer (some ⟨R, 7, none⟩))) rfl (by kernel_rfl) (by kernel_rfl) (by kernel_rfl) (fun _ _ _ h => h) (Or.inl ⟨by rfl, ?hy⟩) hHeld ?_
      case hy => (intro V hV; obtain ⟨hV1, hV2, hV3⟩ := hV; go_simp)
      simp only [Act.put]
      refine wpAnyH_take (i := 9) (v := (.map (some o.us))) rfl (by kernel_rfl) (by kernel_rfl) (by kernel_rfl) (fun _ _ _ h => h) (Or.inl ⟨by rfl, ?hy⟩) hHeld ?_
      case hy => (intro V hV; obtain ⟨hV1, hV2, hV3⟩ := hV; go_simp)
      simp only [Act.put]
      refine wpAnyH_take (i := 10) (v := (.pointer (some ⟨w.heap.size, 2, none⟩))) rfl (by kernel_rfl) (by kernel_rfl) (by kernel_rfl) (fun _ _ _ h => h) (Or.inl ⟨by rfl, ?hy⟩) hHeld ?_
      case hy => (intro V hV; obtain ⟨hV1, hV2, hV3⟩ := hV; go_simp)
      simp only [Act.put]
      refine wpAnyH_take (i := 11) (v := (.int .i64 t.file)) rfl (by kernel_rfl) (by kernel_rfl) (by kernel_rfl) (fun _ _ _ h => h) (Or.inl ⟨by rfl, ?hy⟩) hHeld ?_
      case hy => (intro V hV; obtain ⟨hV1, hV2, hV3⟩ := hV; go_simp)
      simp only [Act.put]
      refine wpAnyH_ready (rs := [12, 14]) (by kernel_rfl) (by simp) ?_
      refine AllReadyH.cons rfl (fun K hK => ?_) (AllReadyH.cons rfl (fun K hK => ?_) AllReadyH.nil)
      · go_simp
        refine hK.out _ _ hHeld (fun hHeld => ?_)
        clear hK K
        try simp only [Act.put]
        refine wpAnyH_ready (rs := [14]) (by kernel_rfl) (by simp) ?_
        refine AllReadyH.cons rfl (fun K hK => ?_) AllReadyH.nil
        refine step_run rfl (exec_build #[(0, .agg cs')] rfl (by simp [Act.eval]) bs) ?_
        refine hK.out _ _ k1 (fun hHeld => ?_)
        clear hK K
        try simp only [Act.put]
        refine wpAnyH_ready (rs := [15]) (by kernel_rfl) (by simp) ?_
        refine AllReadyH.cons rfl (fun K hK => ?_) AllReadyH.nil
        refine step_run rfl (exec_append v (.slice (some ⟨W.heap.size, 0, none⟩) 1 1) rfl (by simp [Act.eval]) (by simp [Act.eval, hsW]) (q2 _)) ?_
        refine hK.out _ _ k2 (fun hHeld => ?_)
        clear hK K
        try simp only [Act.put]
        refine wpAnyH_ready (rs := [16]) (by kernel_rfl) (by simp) ?_
        refine AllReadyH.cons rfl (fun K hK => ?_) AllReadyH.nil
        go_simp
        refine hK.out _ _ k3 (fun hHeld => ?_)
        clear hK K
        try simp only [Act.put]
        refine wpAnyH_done (by kernel_rfl) ?_ _
        go_end0
        exact ⟨rfl, fin⟩
      · refine step_run rfl (exec_build #[(0, .agg cs')] rfl (by simp [Act.eval]) bs) ?_
        refine hK.out _ _ k1 (fun hHeld => ?_)
        clear hK K
        try simp only [Act.put]
        refine wpAnyH_ready (rs := [12]) (by kernel_rfl) (by simp) ?_
        refine AllReadyH.cons rfl (fun K hK => ?_) AllReadyH.nil
        go_simp
        refine hK.out _ _ k1 (fun hHeld => ?_)
        clear hK K
        try simp only [Act.put]
        refine wpAnyH_ready (rs := [15]) (by kernel_rfl) (by simp) ?_
        refine AllReadyH.cons rfl (fun K hK => ?_) AllReadyH.nil
        refine step_run rfl (exec_append v (.slice (some ⟨W.heap.size, 0, none⟩) 1 1) rfl (by simp [Act.eval]) (by simp [Act.eval, hsW]) (q2 _)) ?_
        refine hK.out _ _ k2 (fun hHeld => ?_)
        clear hK K
        try simp only [Act.put]
        refine wpAnyH_ready (rs := [16]) (by kernel_rfl) (by simp) ?_
        refine AllReadyH.cons rfl (fun K hK => ?_) AllReadyH.nil
        go_simp
        refine hK.out _ _ k3 (fun hHeld => ?_)
        clear hK K
        try simp only [Act.put]
        refine wpAnyH_done (by kernel_rfl) ?_ _
        go_end0
        exact ⟨rfl, fin⟩
  · have hs' : t.kind = 0 ∨ t.kind = 3 ∨ t.kind = 4 := by
      simp [Stp.sec] at hs
      omega
    have hsf : t.sec = false := by simpa using hs
    have hlen := hBW.length
    have hsl : (nms l).length ≤ l.length := List.length_filter_le _ _
    obtain ⟨ad, cap, V', q2, q3, q4, q5⟩ := row_more (V := (W.alloc (.cells t'.cells.toArray (87 : TypeId))).drew) htk hBW.row hBW.rlb (by omega) rfl
    rw [← hc'] at q2
    have hOV : Oj V' R (o.bl (o.last + 1) o.ns) := hOW.tb q5 (fun e => hMR (.inr (.inl (by rw [e]))))
    obtain ⟨w', hw'⟩ : ∃ w', w' = V'.setCell ⟨R, 6, none⟩ (.slice ad ((nms l).length + 1) cap) := ⟨_, rfl⟩
    have t6 : Tb (fun k => k = R) V' w' := by rw [hw']; exact Tb.set (S := fun k => k = R) R 6 _ rfl
    have fin : Hid (∃ L' ns', Lx w L L' ∧ Oj w' R (o.bl (o.last + 1) ns') ∧ Bk w' L' o.us ns' (o.last + 1) (l ++ [t']) ∧ Tb (fun g => g = R ∨ TB (L g)) w w') := by
      have hVs : (W.alloc (.cells t'.cells.toArray (87 : TypeId))).drew.heap.size = W.heap.size + 1 := by simp
      have hlx : Lx W M (lab M (W.alloc (.cells t'.cells.toArray (87 : TypeId))).drew.heap.size (7, 0)) := fun b hb => lab_old (by rw [hVs]; omega)
      have hBV : Bk V' (lab M (W.alloc (.cells t'.cells.toArray (87 : TypeId))).drew.heap.size (7, 0)) o.us o.ns o.last l → True := fun _ => trivial
      obtain ⟨sec, hS1, hS2, hS3⟩ := hBW.map
      have hS4 := hS1.tb q5 hlx (by rw [hBW.mlb]; simp) (fun g f e => by rw [e]; simp)
      have hMR6 : ∀ {g : Nat}, TB (M g) → g ≠ R := fun h e => hMR (e ▸ h)
      have hus := hS1.lt
      refine hide ⟨_, .slice ad ((nms l).length + 1) cap, hLM.trans (w' := W) hlx b0.size, ?_, ?_, ?_⟩
      · rw [hw']
        exact hOV.set 6 _ (o.bl (o.last + 1) (.slice ad ((nms l).length + 1) cap)) rfl hOV.armed hOV.failing
      · have hnw : nms (l ++ [t']) = nms l ++ [t'] := by rw [nms_snoc, hts, hsf]; rfl
        have hRn : ∀ g, (Value.slice ad ((nms l).length + 1) cap).ownBlock = some g → g ≠ R := fun g hg e => by
          have h7 := q4 g hg
          rw [e, hlx R (by omega)] at h7
          exact hMR (.inr (.inl (by rw [h7])))
        refine ⟨?_, fun g hg => q4 g hg, ⟨sec, ?_, fun f => ?_, by omega⟩, ?_, ?_, ?_, ?_, by omega⟩
        · rw [hnw, List.length_append, List.flatMap_append, List.flatMap_singleton]
          exact row_tb q3 t6 hRn
        · refine hS4.tb t6 (Lx.refl _ _) (fun e => hMR6 (g := o.us) (.inl (by rw [hBW.mlb])) e) (fun g f e h => ?_)
          rw [h, hlx R (by omega)] at e
          exact hMR (.inr (.inr (by rw [e])))
        · rw [scs_snoc, hts, hsf]
          simpa using hS2 f
        · rw [hlx _ hus]; exact hBW.mlb
        · intro x hx
          rcases List.mem_append.1 hx with hx | hx
          · exact hBW.ok x hx
          · simp only [List.mem_singleton] at hx; subst hx; exact htk
        · exact pairs_snoc hBW.up hBW.no htn
        · intro x hx
          rcases List.mem_append.1 hx with hx | hx
          · have := hBW.no x hx; omega
          · simp only [List.mem_singleton] at hx; subst hx; omega
      · have tW : Tb (fun g => g = R ∨ TB (L g)) w V' := (b0.mono (T := fun g => g = R ∨ TB (L g)) (fun _ _ h => .inl h)).trans q5 (fun g hg e => .inr (by rw [← hLM g hg, e]; exact .inr (.inl rfl)))
        exact tW.trans t6 (fun g _ e => .inl e)
    rw [ht'] at fin
    have k1 : (W.alloc (.cells cs' (87 : TypeId))).drew.heap[w.heap.size]? = some (.cells cs' (87 : TypeId) (0, 0)) := (((Tb.refl (fun _ => False) W).alloc _).block _ (by omega) (fun h => h)).trans hB
    have k2 : V'.heap[w.heap.size]? = some (.cells cs' (87 : TypeId) (0, 0)) := (q5.block _ (by omega) (by rw [hMB]; simp)).trans hB
    have k3 : w'.heap[w.heap.size]? = some (.cells cs' (87 : TypeId) (0, 0)) := (t6.block _ (Array.getElem?_eq_some_iff.1 k2).1 (by omega)).trans k2
    have v6 : V'.cell? ⟨R, 6, none⟩ = some o.ns := hOV.c 6
    have f6 := hOV.free 6
    rw [hw'] at k3 fin
    rw [← hcs.out]
    have H1 := hide hcs'
    have HW' := hide HW
    clear hO hR h ht ht' htk htf htn b0 hOW hLM hMB hMR hBW hts hs hlen hsl q3 q4 q5 hk HW hc' hcs' hOV hsf t6 hw' g7 g2 a7 a2 ld
    rcases hs' with e | e | e
    all_goals
      rw [e] at h1
      go_enter Tryz.func87, Tryz.ntmps87
      go_wp2_with fail
      rw [← H1.out.out, ← HW'.out]
      clear c5 f5 h0 h1
      refine wp_region_held_drew (S := fun V => V.heap[w.heap.size]? = some (.cells cs' (87 : TypeId) (0, 0))) (by kernel_rfl) hB (fun hHeld => ?_)
      try simp only [List.size_toArray, List.length_cons, List.length_nil, Nat.reduceAdd]
      refine wpAnyH_take (i := 5) (v := (.agg cs')) rfl (by kernel_rfl) (by kernel_rfl) (by kernel_rfl) (fun _ _ _ h => h) (Or.inl ⟨by rfl, ?hy⟩) hHeld ?_
      case hy => (intro V hV; exact exec_load (.pointer (some ⟨w.heap.size, 0, none⟩)) rfl (by simp [Act.eval]) (run_loadStep hV hsz'))
      simp only [Act.put]
      refine wpAnyH_take (i := 0) (v := (.pointer (some ⟨R, 5, none⟩))) rfl (by kernel_rfl) (by kernel_rfl) (by kernel_rfl) (fun _ _ _ h => h) (Or.inl ⟨by rfl, ?hy⟩) hHeld ?_
      case hy => (intro V hV; go_simp)
      simp only [Act.put]
      refine wpAnyH_take (i := 1) (v := (.pointer (some ⟨R, 5, none⟩))) rfl (by kernel_rfl) (by kernel_rfl) (by kernel_rfl) (fun _ _ _ h => h) (Or.inl ⟨by rfl, ?hy⟩) hHeld ?_
      case hy => (intro V hV; go_simp)
      simp only [Act.put]
      refine wpAnyH_take (i := 2) (v := (.pointer (some ⟨R, 5, none⟩))) rfl (by kernel_rfl) (by kernel_rfl) (by kernel_rfl) (fun _ _ _ h => h) (Or.inl ⟨by rfl, ?hy⟩) hHeld ?_
      case hy => (intro V hV; go_simp)
      simp only [Act.put]
      refine wpAnyH_take (i := 3) (v := (.pointer (some ⟨R, 6, none⟩))) rfl (by kernel_rfl) (by kernel_rfl) (by kernel_rfl) (fun _ _ _ h => h) (Or.inl ⟨by rfl, ?hy⟩) hHeld ?_
      case hy => (intro V hV; go_simp)
      simp only [Act.put]
      refine wpAnyH_ready (rs := [4, 6]) (by kernel_rfl) (by simp) ?_
      refine AllReadyH.cons rfl (fun K hK => ?_) (AllReadyH.cons rfl (fun K hK => ?_) AllReadyH.nil)
      · go_simp
        refine hK.out _ _ hHeld (fun hHeld => ?_)
        clear hK K
        try simp only [Act.put]
        refine wpAnyH_ready (rs := [6]) (by kernel_rfl) (by simp) ?_
        refine AllReadyH.cons rfl (fun K hK => ?_) AllReadyH.nil
        refine step_run rfl (exec_build #[(0, .agg cs')] rfl (by simp [Act.eval]) bs) ?_
        refine hK.out _ _ k1 (fun hHeld => ?_)
        clear hK K
        try simp only [Act.put]
        refine wpAnyH_ready (rs := [7]) (by kernel_rfl) (by simp) ?_
        refine AllReadyH.cons rfl (fun K hK => ?_) AllReadyH.nil
        refine step_run rfl (exec_append o.ns (.slice (some ⟨W.heap.size, 0, none⟩) 1 1) rfl (by simp [Act.eval]) (by simp [Act.eval, hsW]) (q2 _)) ?_
        refine hK.out _ _ k2 (fun hHeld => ?_)
        clear hK K
        try simp only [Act.put]
        refine wpAnyH_take (i := 8) (v := (.pointer (some ⟨R, 5, none⟩))) rfl (by kernel_rfl) (by kernel_rfl) (by kernel_rfl) (fun _ _ _ h => h) (Or.inl ⟨by rfl, ?hy⟩) hHeld ?_
        case hy => (intro V hV; go_simp)
        simp only [Act.put]
        refine wpAnyH_take (i := 9) (v := (.pointer (some ⟨R, 6, none⟩))) rfl (by kernel_rfl) (by kernel_rfl) (by kernel_rfl) (fun _ _ _ h => h) (Or.inl ⟨by rfl, ?hy⟩) hHeld ?_
        case hy => (intro V hV; go_simp)
        simp only [Act.put]
        refine wpAnyH_ready (rs := [10]) (by kernel_rfl) (by simp) ?_
        refine AllReadyH.cons rfl (fun K hK => ?_) AllReadyH.nil
        go_simp
        refine hK.out _ _ k3 (fun hHeld => ?_)
        clear hK K
        try simp only [Act.put]
        refine wpAnyH_done (by kernel_rfl) ?_ _
        go_end0
        exact ⟨rfl, fin⟩
      · refine step_run rfl (exec_build #[(0, .agg cs')] rfl (by simp [Act.eval]) bs) ?_
        refine hK.out _ _ k1 (fun hHeld => ?_)
        clear hK K
        try simp only [Act.put]
        refine wpAnyH_ready (rs := [4]) (by kernel_rfl) (by simp) ?_
        refine AllReadyH.cons rfl (fun K hK => ?_) AllReadyH.nil
        go_simp
        refine hK.out _ _ k1 (fun hHeld => ?_)
        clear hK K
        try simp only [Act.put]
        refine wpAnyH_ready (rs := [7]) (by kernel_rfl) (by simp) ?_
        refine AllReadyH.cons rfl (fun K hK => ?_) AllReadyH.nil
        refine step_run rfl (exec_append o.ns (.slice (some ⟨W.heap.size, 0, none⟩) 1 1) rfl (by simp [Act.eval]) (by simp [Act.eval, hsW]) (q2 _)) ?_
        refine hK.out _ _ k2 (fun hHeld => ?_)
        clear hK K
        try simp only [Act.put]
        refine wpAnyH_take (i := 8) (v := (.pointer (some ⟨R, 5, none⟩))) rfl (by kernel_rfl) (by kernel_rfl) (by kernel_rfl) (fun _ _ _ h => h) (Or.inl ⟨by rfl, ?hy⟩) hHeld ?_
        case hy => (intro V hV; go_simp)
        simp only [Act.put]
        refine wpAnyH_take (i := 9) (v := (.pointer (some ⟨R, 6, none⟩))) rfl (by kernel_rfl) (by kernel_rfl) (by kernel_rfl) (fun _ _ _ h => h) (Or.inl ⟨by rfl, ?hy⟩) hHeld ?_
        case hy => (intro V hV; go_simp)
        simp only [Act.put]
        refine wpAnyH_ready (rs := [10]) (by kernel_rfl) (by simp) ?_
        refine AllReadyH.cons rfl (fun K hK => ?_) AllReadyH.nil
        go_simp
        refine hK.out _ _ k3 (fun hHeld => ?_)
        clear hK K
        try simp only [Act.put]
        refine wpAnyH_done (by kernel_rfl) ?_ _
        go_end0
        exact ⟨rfl, fin⟩

end Go.Proofs.YtkdolabhcbjipaaGreat

/-
  A step is done: it is added to the unsynced ones, and carried out on what stands.
-/
namespace Go.Proofs.YtkdolabhcbjipaaGreat
open Go.RowKit
set_option maxRecDepth 100000

/-- A call of a function in a region that draws its order. -/
theorem step_call {P : Program} {ops : Array Oper} {o : Oper} {a : Act} {w : World} {K : Act → World → Prop} {Q : Exit → Act → World → Prop} {E : Prop} (hg : o.guard = none) (f : FuncId) (args : Array Value) (hrun : (execOp a.eval o).run P w = .ok (.enter f args) w)
    (hc : Calls P f args w fun e w' => ∃ v, e = .returned v ∧ K (a.put o.dst v) w') : if Region.wanted o (yielded ops a.tmps) = true then Oper.wp P o a w K Q else E := by
  have hw : Region.wanted o (yielded ops a.tmps) = true := by simp [Region.wanted, hg]
  rw [if_pos hw]
  unfold Oper.wp
  rw [hrun, Oper.upon_enter]
  refine hc.mono fun e w' hh => ?_
  obtain ⟨v, rfl, hk⟩ := hh
  exact hk

/-- The labels of a disk's blocks. -/
def TD (x : Int × Int) : Prop := x.1 = 1 ∨ TA 2 x ∨ TA 4 x ∨ TB x

theorem TA_B {a : Int} {x : Int × Int} (h : TA a x) (ha : a = 2 ∨ a = 4) : ¬ TB x := by
  unfold TA at h
  unfold TB
  omega
theorem TA_A {x : Int × Int} (h : TA 2 x) : ¬ TA 4 x := by
  unfold TA at h ⊢
  omega

theorem does_num (s : Shp) (t : Stp) (n : Int) : s.does (t.num n) = s.does t := rfl

/-- A disk in memory, with what its own block says. -/
structure Di (w : World) (L : Lb) (R : Nat) (o : Ob) (dur std : Shp) (l : List Stp) : Prop where
  oj : Oj w R o
  lb : L R = (1, 0)
  dur : Sh w L 2 o.dn o.dr dur
  std : Sh w L 4 o.sn o.sr std
  bk : Bk w L o.us o.ns o.last l

section
variable {w w' : World} {L L' : Lb} {R : Nat} {o : Ob} {dur std : Shp} {l : List Stp}
theorem Di.tb {S : Nat → Prop} (h : Di w L R o dur std l) (hb : Tb S w w') (hl : Lx w L L') (hS : ∀ g, TD (L g) → ¬ S g) : Di w' L' R o dur std l :=
  ⟨h.oj.tb hb (hS R (.inl (by rw [h.lb]))), by rw [hl R h.oj.lt]; exact h.lb, h.dur.tb hb hl (fun g hg => hS g (.inr (.inl hg))), h.std.tb hb hl (fun g hg => hS g (.inr (.inr (.inl hg)))), h.bk.tb hb hl (fun g hg => hS g (.inr (.inr (.inr hg))))⟩
theorem Di.nR (h : Di w L R o dur std l) : ¬ TB (L R) ∧ ¬ TA 2 (L R) ∧ ¬ TA 4 (L R) := by
  rw [h.lb]
  unfold TB TA
  simp
end

set_option maxHeartbeats 2000000 in
theorem do_any {w : World} {L : Lb} {R : Nat} {o : Ob} {dur std : Shp} {l : List Stp} {K : Nat} {t : Stp} (h : Di w L R o dur std l) (ht : t.Ok) (hlast : o.last < 1000000000) (hm : Sm std K) (hK : K < 9000000000000000000) :
    Calls Tryz.prog 71 #[.pointer (some ⟨R, 0, none⟩), .agg t.cells.toArray] w fun e w' => e = .returned (.tuple #[]) ∧ ∃ L' ns', Lx w L L' ∧ Di w' L' R (o.bl (o.last + 1) ns') dur (std.does t) (l ++ [t.num (o.last + 1)]) ∧ Tl L TD w w' := by
  obtain ⟨cs, hcs⟩ : ∃ cs, Hid (cs = t.cells.toArray) := ⟨_, hide rfl⟩
  have hsz : cs.size = 70 := by rw [hcs.out, List.size_toArray]; exact ht.len
  rw [← hcs.out]
  obtain ⟨W, HW⟩ : ∃ W, W = w.alloc (.cells cs (87 : TypeId)) := ⟨_, rfl⟩
  have b0 : Tb (fun _ => False) w W := by rw [HW]; exact (Tb.refl _ _).alloc _
  have hsW : W.heap.size = w.heap.size + 1 := by rw [HW]; simp
  have hB : W.heap[w.heap.size]? = some (.cells cs (87 : TypeId) (0, 0)) := by rw [HW]; exact heap_alloc_new w _
  obtain ⟨M, hM⟩ : ∃ M, M = onlyL w L := ⟨_, rfl⟩
  have hLM : Lx w L M := by rw [hM]; exact onlyL_lx w L
  have hMB : M w.heap.size = (0, 0) := by rw [hM, onlyL_new (Nat.le_refl _)]
  clear hM
  have hW : Di W M R o dur std l := h.tb b0 hLM (fun _ _ h => h)
  have hDB : ¬ TD (M w.heap.size) := by rw [hMB]; unfold TD TA TB; simp
  have hadd : ∀ X : World, Di X M R o dur std l → X.heap.size = W.heap.size → Calls Tryz.prog 87 #[.pointer (some ⟨R, 5, none⟩), .agg cs] X fun e w' => e = .returned (.tuple #[]) ∧ ∃ L' ns', Lx X M L' ∧ Di w' L' R (o.bl (o.last + 1) ns') dur std (l ++ [t.num (o.last + 1)]) ∧ Tl M TD X w' := fun X hX _ => by
    rw [hcs.out]
    refine (add_any hX.oj hX.nR.1 hX.bk ht hlast).mono ?_
    rintro e w1 ⟨rfl, L', ns', hlx, hO, hBk, hT⟩
    refine ⟨rfl, L', ns', hlx, ⟨hO, by rw [hlx R hX.oj.lt]; exact hX.lb, hX.dur.tb hT hlx ?_, hX.std.tb hT hlx ?_, hBk⟩, hT.mono ?_⟩
    · rintro g hg (rfl | h1)
      · exact hX.nR.2.1 hg
      · exact TA_B hg (.inl rfl) h1
    · rintro g hg (rfl | h1)
      · exact hX.nR.2.2 hg
      · exact TA_B hg (.inr rfl) h1
    · rintro g _ (rfl | h1)
      · exact .inl (by rw [hX.lb])
      · exact .inr (.inr (.inr h1))
  have hcar : ∀ (X : World) (L1 : Lb) (o1 : Ob) (l1 : List Stp), Di X L1 R o1 dur std l1 → o1.sn = o.sn → o1.sr = o.sr → Calls Tryz.prog 40 #[.agg #[.map (some o.sn), .map (some o.sr)], .agg cs] X fun e w' => e = .returned (.tuple #[]) ∧ ∃ L', Lx X L1 L' ∧ Di w' L' R o1 dur (std.does t) l1 ∧ Tl L1 TD X w' := fun X L1 o1 l1 hX e1 e2 => by
    rw [hcs.out, ← e1, ← e2]
    refine (carry_any hX.std (by decide) hm hK ht).mono ?_
    rintro e w1 ⟨rfl, L', hlx, hS, hT⟩
    refine ⟨rfl, L', hlx, ⟨hX.oj.tb hT hX.nR.2.2, by rw [hlx R hX.oj.lt]; exact hX.lb, hX.dur.tb hT hlx (fun g hg h4 => TA_A hg h4), hS, hX.bk.tb hT hlx (fun g hg h4 => TA_B h4 (.inr rfl) hg)⟩, hT.mono (fun g _ h4 => .inr (.inr (.inl h4)))⟩
  have hW' := hide hW
  have HA := hide hadd
  have HC := hide hcar
  have hWd : Di W.drew M R o dur std l := hW.tb ((Tb.refl (fun _ => False) W).drew) (Lx.refl _ _) (fun _ _ h => h)
  have HD := hide hWd
  have HF : Hid (∀ (X : World) (L1 : Lb) (Y : World) (L2 : Lb) (ns' : Value), Lx W.drew M L1 → Tl M TD W.drew X → Lx X.drew L1 L2 → Tl L1 TD X.drew Y → Di Y L2 R (o.bl (o.last + 1) ns') dur (std.does t) (l ++ [t.num (o.last + 1)]) →
      ∃ L' ns', Lx w L L' ∧ Di Y L' R (o.bl (o.last + 1) ns') dur (std.does t) (l ++ [t.num (o.last + 1)]) ∧ Tl L TD w Y) := hide (by
    intro X L1 Y L2 ns' x1 t1 x2 t2 hd
    have bW : Tl L TD w W.drew := (b0.drew).mono (fun _ _ h => h.elim)
    have tX : Tl L TD w X.drew := Tb.drew (Tl.trans bW t1 hLM (fun _ h => h))
    have hsz1 : w.heap.size ≤ X.drew.heap.size := Tb.size tX
    have l1 : Lx w L L1 := hLM.trans (w' := W.drew) x1 (by show w.heap.size ≤ W.heap.size; omega)
    exact ⟨L2, ns', l1.trans (w' := X.drew) x2 hsz1, hd, Tl.trans tX t2 l1 (fun _ h => h)⟩)
  have hwl : w.heap.size < W.heap.size := by omega
  have HK1 : Hid (∀ X : World, Tl M TD W.drew X → X.heap[w.heap.size]? = some (.cells cs (87 : TypeId) (0, 0))) := hide (fun X hT => (hT.block _ hwl hDB).trans hB)
  have HK2 : Hid (∀ (X : World) (L1 : Lb) (Y : World), Lx W.drew M L1 → Tl M TD W.drew X → Tl L1 TD X.drew Y → Y.heap[w.heap.size]? = some (.cells cs (87 : TypeId) (0, 0))) := hide (fun X L1 Y x1 t1 t2 => by
    have hs0 : W.drew.heap.size ≤ X.heap.size := Tb.size t1
    have hs : W.heap.size ≤ X.heap.size := hs0
    exact (t2.block _ (Nat.lt_of_lt_of_le hwl hs) (by rw [x1 _ hwl]; exact hDB)).trans (HK1.out X t1))
  clear h hW hadd hcar hWd hDB hLM b0 hm ht
  have HW' := hide HW
  clear HW
  go_enter Tryz.func71, Tryz.ntmps71
  go_wp2_with fail
  rw [← HW'.out]
  refine wp_region_held_drew (S := fun V => V.heap[w.heap.size]? = some (.cells cs (87 : TypeId) (0, 0))) (by kernel_rfl) hB (fun hHeld => ?_)
  try simp only [List.size_toArray, List.length_cons, List.length_nil, Nat.reduceAdd]
  refine wpAnyH_take (i := 3) (v := (.agg cs)) rfl (by kernel_rfl) (by kernel_rfl) (by kernel_rfl) (fun _ _ _ h => h) (Or.inl ⟨by rfl, ?hy⟩) hHeld ?_
  case hy => (intro V hV; exact exec_load (.pointer (some ⟨w.heap.size, 0, none⟩)) rfl (by simp [Act.eval]) (run_loadStep hV hsz))
  refine wpAnyH_take (i := 0) (v := (.pointer (some ⟨R, 0, none⟩))) rfl (by kernel_rfl) (by kernel_rfl) (by kernel_rfl) (fun _ _ _ h => h) (Or.inl ⟨by rfl, ?hy⟩) hHeld ?_
  case hy => (intro V hV; go_simp)
  refine wpAnyH_take (i := 1) (v := (.pointer (some ⟨R, 0, none⟩))) rfl (by kernel_rfl) (by kernel_rfl) (by kernel_rfl) (fun _ _ _ h => h) (Or.inl ⟨by rfl, ?hy⟩) hHeld ?_
  case hy => (intro V hV; go_simp)
  refine wpAnyH_take (i := 2) (v := (.pointer (some ⟨R, 5, none⟩))) rfl (by kernel_rfl) (by kernel_rfl) (by kernel_rfl) (fun _ _ _ h => h) (Or.inl ⟨by rfl, ?hy⟩) hHeld ?_
  case hy => (intro V hV; go_simp)
  refine wpAnyH_ready (rs := [4]) (by kernel_rfl) (by simp) ?_
  refine AllReadyH.cons rfl (fun K hK => ?_) AllReadyH.nil
  refine step_call rfl 87 #[.pointer (some ⟨R, 5, none⟩), .agg cs] (by go_simp) ?_
  refine (HA.out W.drew HD.out rfl).mono ?_
  rintro e w1 ⟨rfl, L1, ns', x1, d1, t1⟩
  refine ⟨_, rfl, ?_⟩
  refine hK.out _ _ (HK1.out w1 t1) (fun hHeld => ?_)
  clear hK K
  refine wpAnyH_done (by kernel_rfl) ?_ _
  simp only [Act.put, List.getElem_toArray, List.getElem_cons_succ, List.getElem_cons_zero, List.setIfInBounds_toArray, List.set_cons_succ, List.set_cons_zero]
  have c3 : w1.cell? ⟨R, 3, none⟩ = some (.map (some o.sn)) := d1.oj.c 3
  have c4 : w1.cell? ⟨R, 4, none⟩ = some (.map (some o.sr)) := d1.oj.c 4
  go_wp2_with fail
  refine wp_region_held_drew (S := fun V => V.heap[w.heap.size]? = some (.cells cs (87 : TypeId) (0, 0)) ∧ V.cell? ⟨R, 3, none⟩ = some (.map (some o.sn)) ∧ V.cell? ⟨R, 4, none⟩ = some (.map (some o.sr))) (by kernel_rfl) ⟨hHeld, c3, c4⟩ (fun hHeld => ?_)
  try simp only [List.size_toArray, List.length_cons, List.length_nil, Nat.reduceAdd]
  refine wpAnyH_take (i := 4) (v := (.agg cs)) rfl (by kernel_rfl) (by kernel_rfl) (by kernel_rfl) (fun _ _ _ h => h) (Or.inl ⟨by rfl, ?hy⟩) hHeld ?_
  case hy => (intro V hV; obtain ⟨hV1, hV2, hV3⟩ := hV; exact exec_load (.pointer (some ⟨w.heap.size, 0, none⟩)) rfl (by simp [Act.eval]) (run_loadStep hV1 hsz))
  refine wpAnyH_take (i := 0) (v := (.pointer (some ⟨R, 0, none⟩))) rfl (by kernel_rfl) (by kernel_rfl) (by kernel_rfl) (fun _ _ _ h => h) (Or.inl ⟨by rfl, ?hy⟩) hHeld ?_
  case hy => (intro V hV; obtain ⟨hV1, hV2, hV3⟩ := hV; go_simp)
  refine wpAnyH_take (i := 1) (v := (.pointer (some ⟨R, 0, none⟩))) rfl (by kernel_rfl) (by kernel_rfl) (by kernel_rfl) (fun _ _ _ h => h) (Or.inl ⟨by rfl, ?hy⟩) hHeld ?_
  case hy => (intro V hV; obtain ⟨hV1, hV2, hV3⟩ := hV; go_simp)
  refine wpAnyH_take (i := 2) (v := (.pointer (some ⟨R, 3, none⟩))) rfl (by kernel_rfl) (by kernel_rfl) (by kernel_rfl) (fun _ _ _ h => h) (Or.inl ⟨by rfl, ?hy⟩) hHeld ?_
  case hy => (intro V hV; obtain ⟨hV1, hV2, hV3⟩ := hV; go_simp)
  refine wpAnyH_take (i := 3) (v := (.agg #[.map (some o.sn), .map (some o.sr)])) rfl (by kernel_rfl) (by kernel_rfl) (by kernel_rfl) (fun _ _ _ h => h) (Or.inl ⟨by rfl, ?hy⟩) hHeld ?_
  case hy => (intro V hV; obtain ⟨hV1, hV2, hV3⟩ := hV; go_simp)
  refine wpAnyH_ready (rs := [5]) (by kernel_rfl) (by simp) ?_
  refine AllReadyH.cons rfl (fun K hK => ?_) AllReadyH.nil
  refine step_call rfl 40 #[.agg #[.map (some o.sn), .map (some o.sr)], .agg cs] (by go_simp) ?_
  refine (HC.out w1.drew L1 _ _ (d1.tb ((Tb.refl (fun _ => False) w1).drew) (Lx.refl _ _) (fun _ _ h => h)) rfl rfl).mono ?_
  rintro e w2 ⟨rfl, L2, x2, d2, t2⟩
  refine ⟨_, rfl, ?_⟩
  refine hK.out _ _ ⟨HK2.out w1 L1 w2 x1 t1 t2, d2.oj.c 3, d2.oj.c 4⟩ (fun hHeld => ?_)
  clear hK K
  refine wpAnyH_done (by kernel_rfl) ?_ _
  go_end0
  exact ⟨rfl, HF.out w1 L1 w2 L2 ns' x1 t1 x2 t2 d2⟩

end Go.Proofs.YtkdolabhcbjipaaGreat

/-
  A new disk; a step that a sector is put; find.
-/
namespace Go.Proofs.YtkdolabhcbjipaaGreat
open Go.RowKit
set_option maxRecDepth 100000

theorem Nm.made (w : World) : Nm (w.alloc (.map #[] 0)) w.heap.size [] :=
  ⟨List.Pairwise.nil, .map [], .of (World.ownsMap_made w Tryz.prog 9 hold), rfl, fun _ => rfl⟩
theorem Rw.made {α : Type} (c : α → List Value) (T : TypeId) (size : Nat) (w : World) (L : Lb) (tag : Int) : Rw c T size (w.alloc (.map #[] 0)) L tag w.heap.size [] :=
  ⟨List.Pairwise.nil, by simp, .map [], .of (World.ownsMap_made w Tryz.prog 3 hold), rfl, fun _ _ _ => rfl, fun _ _ h => by simp [lk] at h⟩

theorem mk43 (W : World) : (Instr.makeMap (51 : TypeId) none).run Tryz.prog W = .ok (.map (some W.heap.size)) (W.alloc (.map #[] 0)) := run_makeMap _ _
theorem mk44 (W : World) : (Instr.makeMap (52 : TypeId) none).run Tryz.prog W = .ok (.map (some W.heap.size)) (W.alloc (.map #[] 0)) := run_makeMap _ _
theorem mk48 (W : World) : (Instr.makeMap (57 : TypeId) none).run Tryz.prog W = .ok (.map (some W.heap.size)) (W.alloc (.map #[] 0)) := run_makeMap _ _

set_option maxHeartbeats 1000000 in
theorem newShape_any (w : World) : Calls Tryz.prog 24 #[] w fun e w' => ∃ nb rb, e = .returned (.agg #[.map (some nb), .map (some rb)]) ∧ w.heap.size ≤ nb ∧ nb < rb ∧ rb < w'.heap.size ∧ Nm w' nb [] ∧ (∀ L tag, Rw U (85 : TypeId) 64 w' L tag rb []) ∧ Tb (fun _ => False) w w' := by
  have m1 := mk43
  have m2 := mk44
  go_enter Tryz.func24, Tryz.ntmps24
  go_wp2_with fail
  refine bodyPost_ret (v := .agg #[.map (some (w.heap.size + 1)), .map (some (w.heap.size + 2))]) (by simp [results, Tryz.results24, go_sem]) rfl ?_
  refine ⟨w.heap.size + 1, w.heap.size + 2, rfl, by omega, by omega, by simp, ?_, fun L tag => ?_, ?_⟩
  · have := (Nm.made (w.alloc (.cells #[.map (some (w.heap.size + 1)), .map (some (w.heap.size + 2))] (54 : TypeId)))).heap (w' := ((w.alloc (.cells #[.map (some (w.heap.size + 1)), .map (some (w.heap.size + 2))] (54 : TypeId))).alloc (.map #[] 0)).alloc (.map #[] 0)) (((Tb.refl (fun _ => False) _).alloc _).block _ (by simp) (fun h => h))
    simpa using this
  · have := Rw.made U (85 : TypeId) 64 ((w.alloc (.cells #[.map (some (w.heap.size + 1)), .map (some (w.heap.size + 2))] (54 : TypeId))).alloc (.map #[] 0)) L tag
    simpa using this
  · exact (((Tb.refl _ _).alloc _).alloc _).alloc _

set_option maxHeartbeats 1000000 in
theorem newBacklog_any (w : World) : Calls Tryz.prog 25 #[] w fun e w' => ∃ us, e = .returned (.agg #[.int .i64 0, .slice none 0 0, .map (some us)]) ∧ w.heap.size ≤ us ∧ us < w'.heap.size ∧ (∀ L tag, Rw Stp.cells (87 : TypeId) 70 w' L tag us []) ∧ Tb (fun _ => False) w w' := by
  have m1 := mk48
  go_enter Tryz.func25, Tryz.ntmps25
  go_wp2_with fail
  refine bodyPost_ret (v := .agg #[.int .i64 0, .slice none 0 0, .map (some (w.heap.size + 1))]) (by simp [results, Tryz.results25, go_sem]) rfl ?_
  refine ⟨w.heap.size + 1, rfl, by omega, by simp, fun L tag => ?_, ((Tb.refl _ _).alloc _).alloc _⟩
  have := Rw.made Stp.cells (87 : TypeId) 70 (w.alloc (.cells #[.int .i64 0, .slice none 0 0, .map (some (w.heap.size + 1))] (59 : TypeId))) L tag
  simpa using this

/-- A disk. -/
structure Dsk where
  dur : Shp
  std : Shp
  l : List Stp
  last : Int
  made : Int
  down : Bool
  armed : Int
  failing : Int
  failure : Int

/-- What the own block says of it. -/
structure Says (o : Ob) (d : Dsk) : Prop where
  last : o.last = d.last
  made : o.made = d.made
  down : o.down = d.down
  armed : o.armed = d.armed
  failing : o.failing = d.failing
  failure : o.failure = d.failure

/-- A disk in memory. -/
def Dk (w : World) (L : Lb) (R : Nat) (d : Dsk) : Prop := ∃ o, Di w L R o d.dur d.std d.l ∧ Says o d

def newDsk : Dsk := ⟨⟨[], []⟩, ⟨[], []⟩, [], 0, 0, false, -1, -1, 0⟩

theorem built57 (a b c d e : Nat) : Tryz.prog.built (67 : TypeId) [(1, .agg #[.map (some a), .map (some b)]), (2, .agg #[.map (some c), .map (some d)]), (3, .agg #[.int .i64 0, .slice none 0 0, .map (some e)])] =
    some #[.pointer none, .map (some a), .map (some b), .map (some c), .map (some d), .int .i64 0, .slice none 0 0, .map (some e), .int .i64 0, .bool false, .int .i64 0, .int .i64 0, .int .i64 0] := by kernel_rfl

set_option maxHeartbeats 1000000 in
theorem new_any (w : World) : Calls Tryz.prog 5 #[] w fun e w' => ∃ R L, e = .returned (.pointer (some ⟨R, 0, none⟩)) ∧ w.heap.size ≤ R ∧ Dk w' L R newDsk ∧ (∀ g, g < w.heap.size → L g = (0, 0)) ∧ Tb (fun _ => False) w w' := by
  go_enter Tryz.func5, Tryz.ntmps5
  go_wp2_with fail
  refine (newShape_any w).mono ?_
  rintro e w1 ⟨dn, dr, rfl, a1, a2, a3, n1, r1, t1⟩
  go_wp2_with fail
  refine (newShape_any w1).mono ?_
  rintro e w2 ⟨sn, sr, rfl, b1, b2, b3, n2, r2, t2⟩
  go_wp2_with fail
  refine (newBacklog_any w2).mono ?_
  rintro e w3 ⟨us, rfl, c1, c2, r3, t3⟩
  have s1 := t1.size
  have s2 := t2.size
  have s3 := t3.size
  obtain ⟨L, hL⟩ : ∃ L : Lb, L = fun g => if g = w3.heap.size then (1, 0) else if g = dn then (2, 0) else if g = dr then (3, 0) else if g = sn then (4, 0) else if g = sr then (5, 0) else if g = us then (6, 0) else (0, 0) := ⟨_, rfl⟩
  have l1 : L w3.heap.size = (1, 0) := by rw [hL]; simp
  have l2 : L dn = (2, 0) := by rw [hL]; exact (if_neg (by omega)).trans (if_pos rfl)
  have l3 : L dr = (3, 0) := by rw [hL]; exact (if_neg (by omega)).trans ((if_neg (by omega)).trans (if_pos rfl))
  have l4 : L sn = (4, 0) := by rw [hL]; exact (if_neg (by omega)).trans ((if_neg (by omega)).trans ((if_neg (by omega)).trans (if_pos rfl)))
  have l5 : L sr = (5, 0) := by rw [hL]; exact (if_neg (by omega)).trans ((if_neg (by omega)).trans ((if_neg (by omega)).trans ((if_neg (by omega)).trans (if_pos rfl))))
  have l6 : L us = (6, 0) := by rw [hL]; exact (if_neg (by omega)).trans ((if_neg (by omega)).trans ((if_neg (by omega)).trans ((if_neg (by omega)).trans ((if_neg (by omega)).trans (if_pos rfl)))))
  have l7 : ∀ g, g < w.heap.size → L g = (0, 0) := fun g hg => by rw [hL]; exact (if_neg (by omega)).trans ((if_neg (by omega)).trans ((if_neg (by omega)).trans ((if_neg (by omega)).trans ((if_neg (by omega)).trans (if_neg (by omega))))))
  clear hL
  obtain ⟨o, ho⟩ : ∃ o : Ob, o = ⟨dn, dr, sn, sr, 0, .slice none 0 0, us, 0, false, 0, 0, 0⟩ := ⟨_, rfl⟩
  obtain ⟨W, HW⟩ : ∃ W, W = w3.alloc (.cells (o.cells w3.heap.size) (67 : TypeId)) := ⟨_, rfl⟩
  have hO : Oj W w3.heap.size o := ⟨by rw [HW]; exact heap_alloc_new w3 _, by rw [ho]; simp, by rw [ho]; simp⟩
  have t4 : Tb (fun _ => False) w3 W := by rw [HW]; exact (Tb.refl _ _).alloc _
  have fin : Hid (∀ X : World, Oj X w3.heap.size { o with armed := -1, failing := -1 } → Tb (fun k => k = w3.heap.size) W X → ∃ R L, (Ending.returned (.pointer (some ⟨w3.heap.size, 0, none⟩)) : Ending) = .returned (.pointer (some ⟨R, 0, none⟩)) ∧ w.heap.size ≤ R ∧ Dk X L R newDsk ∧ (∀ g, g < w.heap.size → L g = (0, 0)) ∧ Tb (fun _ => False) w X) := hide (by
    intro X hX tX
    have tE : ∀ {a b : World} {S : Nat → Prop}, Tb (fun _ => False) a b → Tb S a b := fun h => h.mono (fun _ _ h => h.elim)
    have u1 : Tb (fun k => k = w3.heap.size) w1 X := (((tE t2).trans t3 (fun _ _ h => h.elim)).trans t4 (fun _ _ h => h.elim)).trans tX (fun _ _ h => h)
    have u2 : Tb (fun k => k = w3.heap.size) w2 X := ((tE t3).trans t4 (fun _ _ h => h.elim)).trans tX (fun _ _ h => h)
    have u3 : Tb (fun k => k = w3.heap.size) w3 X := (tE t4).trans tX (fun _ _ h => h)
    have u0 : Tb (fun _ => False) w X := ((tE t1).trans u1 (fun i hi e => by omega))
    refine ⟨w3.heap.size, L, rfl, by omega, ⟨_, ⟨hX, l1, ⟨?_, ?_, ?_, ?_⟩, ⟨?_, ?_, ?_, ?_⟩, ⟨?_, ?_, ⟨[], ?_, fun _ => rfl, ?_⟩, ?_, by simp [newDsk], by simp [newDsk], by simp [newDsk], ?_⟩⟩, ?_⟩, l7, u0⟩
    all_goals (try rw [ho])
    · exact n1.tb u1 (by omega)
    · exact (r1 L _).tb u1 (Lx.refl _ _) (by omega) (fun g f e h => by rw [h, l1] at e; simp at e)
    · exact l2
    · exact l3
    · exact n2.tb u2 (by omega)
    · exact (r2 L _).tb u2 (Lx.refl _ _) (by omega) (fun g f e h => by rw [h, l1] at e; simp at e)
    · exact l4
    · exact l5
    · exact World.ownsRow_nil _ _ _ _
    · intro g hg; cases hg
    · exact (r3 L _).tb u3 (Lx.refl _ _) (by omega) (fun g f e h => by rw [h, l1] at e; simp at e)
    · simp
    · exact l6
    · simp
    · exact ⟨rfl, rfl, rfl, rfl, rfl, rfl⟩)
  have hd := disarm_any hO
  clear hO t4
  rw [ho] at HW
  simp only [Ob.cells] at HW
  go_wp2_with (refine wpList_buildTo rfl (67 : TypeId) #[(1, .tmp 2), (2, .tmp 3), (3, .tmp 4)] rfl (some 5) rfl #[.pointer none, .map (some dn), .map (some dr), .map (some sn), .map (some sr), .int .i64 0, .slice none 0 0, .map (some us), .int .i64 0, .bool false, .int .i64 0, .int .i64 0, .int .i64 0] (by simpa [Act.eval] using built57 dn dr sn sr us) ?_)
  rw [← HW]
  refine hd.mono ?_
  rintro e w5 ⟨rfl, hO5, t5⟩
  go_wp2_with fail
  go_ret
  exact fin.out w5 hO5 t5

/-- The step that a sector is put. -/
def putStp (f at' : Int) (d : List Int) : Stp := ⟨0, 1, f, ByteArray.empty, ByteArray.empty, at', d⟩
theorem putStp_ok {f at' : Int} {d : List Int} (hf : 1 ≤ f ∧ f ≤ 9223372036854775807) (ha : 0 ≤ at' ∧ at' ≤ 4095) (hd : d.length = 64) (hb : ∀ z ∈ d, 0 ≤ z ∧ z ≤ 255) : (putStp f at' d).Ok :=
  ⟨by simp [putStp], by simp [putStp], hf, by simp [putStp], by simp [putStp], ⟨ha.1, by simp only [putStp]; omega⟩, fun _ => ha.2, hd, hb⟩

/-- The step that a file is made. -/
def madeStp (f : Int) (s : ByteArray) : Stp := ⟨0, 0, f, s, ByteArray.empty, 0, List.replicate 64 0⟩
theorem madeStp_ok {f : Int} {s : ByteArray} (hf : 1 ≤ f ∧ f ≤ 9223372036854775807) (hs : s.size ≤ 64) : (madeStp f s).Ok :=
  ⟨by simp [madeStp], by simp [madeStp], hf, hs, by simp [madeStp], by simp [madeStp], fun h => by simp [madeStp] at h, by simp [madeStp], fun z hz => by rw [(List.mem_replicate.1 hz).2]; omega⟩

theorem built81m (f : Int) (s : ByteArray) : Tryz.prog.built (87 : TypeId) [(1, .int .u8 0), (2, .int .i64 f), (3, .string s)] = some (madeStp f s).cells.toArray := by kernel_rfl

/-- The fields of a step that is put, all but its data: six cells, then noughts. -/
theorem zero81 : ∃ i, Tryz.prog.info? (87 : TypeId) = some i ∧ i.zero = some (.agg ([Value.int .i64 0, .int .u8 0, .int .i64 0, .string ByteArray.empty, .string ByteArray.empty, .int .i64 0] ++ U (List.replicate 64 0)).toArray) := by
  have h : (Tryz.prog.info? (87 : TypeId)).map (·.zero) = some (some (.agg ([Value.int .i64 0, .int .u8 0, .int .i64 0, .string ByteArray.empty, .string ByteArray.empty, .int .i64 0] ++ U (List.replicate 64 0)).toArray)) := by kernel_rfl
  obtain ⟨i, hi, hz⟩ := Option.map_eq_some_iff.1 h
  exact ⟨i, hi, hz⟩

end Go.Proofs.YtkdolabhcbjipaaGreat

/-
  putOf: the step that a sector is put.
-/
namespace Go.Proofs.YtkdolabhcbjipaaGreat
open Go.RowKit
set_option maxRecDepth 100000

/-- A part that is laid at the end. -/
theorem fill_last (place : Nat → Option (Nat × Nat)) (cells D : Array Value) (off : Nat) (i : Nat) (hp : place i = some (off, D.size)) (hs : off + D.size = cells.size) : Instr.fill place cells [(i, .agg D)] = some (cells.toList.take off ++ D.toList).toArray := by
  have h1 := Great.foldl_set off D.toList 0 cells
  simp only [Instr.fill, hp]
  rw [if_neg (by simp [Value.cells]; omega)]
  simp only [Option.some.injEq]
  show Array.foldl (fun cs (x : Value × Nat) => cs.setIfInBounds (off + x.2) x.1) cells D.zipIdx = _
  have e : Array.foldl (fun cs (x : Value × Nat) => cs.setIfInBounds (off + x.2) x.1) cells D.zipIdx = (D.toList.zipIdx 0).foldl (fun cs (x : Value × Nat) => cs.setIfInBounds (off + x.2) x.1) cells := by
    rw [← Array.foldl_toList, Array.toList_zipIdx]
  apply Array.ext_getElem?
  intro k
  rw [e, h1.2 k]
  simp only [Nat.add_zero, Array.length_toList, List.getElem?_toArray]
  by_cases hk : off ≤ k
  · rw [List.getElem?_append_right (by simp; omega)]
    simp only [List.length_take, Array.length_toList]
    rw [Nat.min_eq_left (by omega)]
    by_cases hk2 : k < off + D.size
    · rw [if_pos ⟨hk, hk2, by omega⟩]
    · rw [if_neg (fun h => hk2 h.2.1)]
      rw [Array.getElem?_eq_none (by omega), List.getElem?_eq_none (by simp; omega)]
  · rw [if_neg (fun h => hk h.1), List.getElem?_append_left (by simp; omega), List.getElem?_take, if_pos (by omega)]
    simp

theorem fill_append (place : Nat → Option (Nat × Nat)) (m : List (Nat × Value)) : ∀ (l : List (Nat × Value)) (cells : Array Value), Instr.fill place cells (l ++ m) = (Instr.fill place cells l).bind fun c => Instr.fill place c m := by
  intro l
  induction l with
  | nil => intro cells; rfl
  | cons p l ih =>
    intro cells
    obtain ⟨i, v⟩ := p
    simp only [List.cons_append, Instr.fill]
    cases place i with
    | none => rfl
    | some q =>
      obtain ⟨off, size⟩ := q
      simp only
      split
      · rfl
      · exact ih _

theorem built81_fill : ∃ (place : Nat → Option (Nat × Nat)) (z : Array Value), (∀ parts, Tryz.prog.built (87 : TypeId) parts = Instr.fill place z parts) ∧ place 6 = some (6, 64) := by
  have h : ((Tryz.prog.info? (87 : TypeId)).bind fun it => it.zero.bind fun z => (Tryz.prog.underlying (87 : TypeId)).bind fun d => match d with
      | .struct fields => (fields.toList.mapM (fun f => (Tryz.prog.info? f.type).map fun i => (f.offset, i.size))).map fun places => places.toArray[6]?
      | _ => none) = some (some (6, 64)) := by kernel_rfl
  cases hi : Tryz.prog.info? (87 : TypeId) with
  | none => rw [hi] at h; cases h
  | some it =>
    cases hz : it.zero with
    | none => rw [hi] at h; simp [hz] at h
    | some z =>
      cases hu : Tryz.prog.underlying (87 : TypeId) with
      | none => rw [hi, hu] at h; simp at h
      | some d =>
        rw [hi, hu] at h
        simp only [Option.bind_some, hz] at h
        cases d
        case struct fields =>
          simp only at h
          obtain ⟨places, hp, h6⟩ := Option.map_eq_some_iff.1 h
          refine ⟨(places.toArray[·]?), z.cells, fun parts => ?_, h6⟩
          unfold Program.built
          rw [hi, hu]
          simp only [hz, hp]
        all_goals cases h

theorem built81p (f at' : Int) (d : List Int) (hd : d.length = 64) : Tryz.prog.built (87 : TypeId) [(1, .int .u8 1), (2, .int .i64 f), (5, .int .i64 at'), (6, .agg (U d).toArray)] = some (putStp f at' d).cells.toArray := by
  obtain ⟨place, z, hb, h6⟩ := built81_fill
  have h1 : Tryz.prog.built (87 : TypeId) [(1, .int .u8 1), (2, .int .i64 f), (5, .int .i64 at')] = some ([Value.int .i64 0, .int .u8 1, .int .i64 f, .string ByteArray.empty, .string ByteArray.empty, .int .i64 at'] ++ U (List.replicate 64 0)).toArray := by kernel_rfl
  rw [hb] at h1 ⊢
  have e : ([(1, .int .u8 1), (2, .int .i64 f), (5, .int .i64 at'), (6, .agg (U d).toArray)] : List (Nat × Value)) = [(1, .int .u8 1), (2, .int .i64 f), (5, .int .i64 at')] ++ [(6, .agg (U d).toArray)] := rfl
  rw [e, fill_append, h1, Option.bind_some, fill_last place _ (U d).toArray 6 6 (by rw [h6]; simp [U_length, hd]) (by simp [U_length, hd])]
  rfl

theorem arr79 {a : Option Addr} {cap : Nat} (W : World) : (Instr.arrayAt (85 : TypeId) (.slice a 64 cap)).run Tryz.prog W = .ok (.pointer a) W := by
  simp [Instr.arrayAt, run_underlying Tryz.underlying85]

set_option maxHeartbeats 1000000 in
theorem putOf_any {w : World} {b off cap : Nat} {f at' : Int} {d : List Int} (hB : Bs w (some ⟨b, off, none⟩) 64 cap d) :
    Calls Tryz.prog 72 #[.int .i64 f, .int .i64 at', .slice (some ⟨b, off, none⟩) 64 cap] w fun e w' => e = .returned (.agg (putStp f at' d).cells.toArray) ∧ Tb (fun _ => False) w w' := by
  have hd := hB.len
  obtain ⟨i, z, hi, hz, h1, h2, h3⟩ := info81
  obtain ⟨i9, hi9, hz9⟩ := Option.map_eq_some_iff.1 info79
  simp only [Prod.mk.injEq] at hz9
  have ha := arr79 (a := some ⟨b, off, none⟩) (cap := cap)
  obtain ⟨b', off', e, hc⟩ := hB.lies (by omega)
  simp only [Option.some.injEq, Addr.mk.injEq, and_true] at e
  obtain ⟨rfl, rfl⟩ := e
  have hrg : ∀ x : Obj, (w.alloc x).rangeAt b off (U d) := fun x => World.rangeAt_alloc (fun j v hv => by
    have hj : j < d.length := by
      rcases Nat.lt_or_ge j d.length with h | h
      · exact h
      · simp [U, List.getElem?_eq_none h] at hv
    rw [hc j (by omega)]
    simp [U, List.getElem?_eq_getElem hj] at hv
    simp [← hv, List.getD, List.getElem?_eq_getElem hj]) x
  have hs79 : (Tryz.prog.info? (85 : TypeId)).map (·.size) = some (U d).length := by rw [hi9]; simp [hz9.2.1, U_length, hd]
  obtain ⟨cs, hcs⟩ : ∃ cs, Hid (cs = (putStp f at' d).cells.toArray) := ⟨_, hide rfl⟩
  have hsz : cs.size = 70 := by rw [hcs.out, List.size_toArray]; simp [Stp.cells, putStp, U, hd]
  have hone : cs.all (·.oneCell') = true := by rw [hcs.out]; exact all_oneCell_toArray (Stp.one _)
  have hbd := built81p f at' d hd
  rw [← hcs.out] at hbd
  rw [← hcs.out]
  have HR := hide hrg
  clear hB hc hrg
  go_enter Tryz.func72, Tryz.ntmps72
  go_wp2_with (first
    | (refine wpList_load_mid rfl (85 : TypeId) (.tmp 10) rfl b off rfl (U d) _ (HR.out _) Tryz.underlying85 rfl hs79 ?_)
    | (refine wpList_buildTo rfl (87 : TypeId) #[(1, .const (.int .u8 1)), (2, .tmp 7), (5, .tmp 8), (6, .tmp 11)] rfl (some 12) rfl cs (by simpa [Act.eval, Act.put] using hbd) ?_)
    | (refine wpList_store_rowTo rfl (87 : TypeId) (.tmp 6) (.tmp 12) rfl rfl w.heap.size cs (by simp [Act.eval, Act.put]) (by simp [Act.eval, Act.put]) (87 : TypeId) Tryz.zeroCells87 (heap_alloc_new w _) (by rw [hi]; simp [h1, hsz]) (by rw [hsz]; kernel_rfl) hone ?_))
  refine bodyPost_ret (results_cell_row rfl _ _ w.heap.size (87 : TypeId) cs (0, 0) _ rfl (setRow_heap _ _ _ _ (87 : TypeId) (0, 0) (heap_alloc_new w _)) Tryz.underlying87 rfl (by rw [hi]; simp [h1, hsz])) rfl ?_
  refine ⟨rfl, ?_⟩
  have t1 : Tb (fun _ => False) w (w.alloc (.cells Tryz.zeroCells87 (87 : TypeId))) := (Tb.refl _ _).alloc _
  refine t1.trans (T := fun k => k = w.heap.size) ⟨rfl, rfl, rfl, by simp, fun k _ hne => setRow_other _ _ _ _ hne⟩ (fun k hk e => ?_)
  omega

end Go.Proofs.YtkdolabhcbjipaaGreat

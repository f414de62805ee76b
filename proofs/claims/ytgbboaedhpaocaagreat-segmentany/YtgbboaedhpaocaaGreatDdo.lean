/-
  A step is done: it is added to the unsynced ones, and carried out on what stands.
-/
import Derived.Test.YtgbboaedhpaocaaGreatDbl
namespace Go.Proofs.YtgbboaedhpaocaaGreat
open Go.RowKit
set_option maxRecDepth 100000
set_option maxRecDepth 100000

/-- A call of a function in a region that draws its order. -/
theorem step_call {P : Program} {ops : Array Oper} {o : Oper} {a : Act} {w : World} {K : Act → World → Prop} {Q : Exit → Act → World → Prop} {E : Prop} (hg : o.guard = none) (f : FuncId) (args : Array Value) (hrun : (execOp a.eval o).run P w = .ok (.enter f args) w)
    (hc : Calls P f args w fun e w' => ∃ v, e = .returned v ∧ K (a.put o.dst v) w') : if Region.wanted o (yielded ops a.tmps) = true then Oper.wp P o a w K Q else E := by
  have hw : Region.wanted o (yielded ops a.tmps) = true := by simp [Region.wanted, hg]
  rw [if_pos hw]
  unfold Oper.wp
  rw [hrun, Oper.upon_enter]
  refine hc.mono fun e w' hh => ?_
  obtain ⟨v, rfl, hk⟩ := hh
  exact hk

/-- The labels of a disk's blocks. -/
def TD (x : Int × Int) : Prop := x.1 = 1 ∨ TA 2 x ∨ TA 4 x ∨ TB x

theorem TA_B {a : Int} {x : Int × Int} (h : TA a x) (ha : a = 2 ∨ a = 4) : ¬ TB x := by
  unfold TA at h
  unfold TB
  omega
theorem TA_A {x : Int × Int} (h : TA 2 x) : ¬ TA 4 x := by
  unfold TA at h ⊢
  omega

theorem does_num (s : Shp) (t : Stp) (n : Int) : s.does (t.num n) = s.does t := rfl

/-- A disk in memory, with what its own block says. -/
structure Di (w : World) (L : Lb) (R : Nat) (o : Ob) (dur std : Shp) (l : List Stp) : Prop where
  oj : Oj w R o
  lb : L R = (1, 0)
  dur : Sh w L 2 o.dn o.dr dur
  std : Sh w L 4 o.sn o.sr std
  bk : Bk w L o.us o.ns o.last l

section
variable {w w' : World} {L L' : Lb} {R : Nat} {o : Ob} {dur std : Shp} {l : List Stp}
theorem Di.tb {S : Nat → Prop} (h : Di w L R o dur std l) (hb : Tb S w w') (hl : Lx w L L') (hS : ∀ g, TD (L g) → ¬ S g) : Di w' L' R o dur std l :=
  ⟨h.oj.tb hb (hS R (.inl (by rw [h.lb]))), by rw [hl R h.oj.lt]; exact h.lb, h.dur.tb hb hl (fun g hg => hS g (.inr (.inl hg))), h.std.tb hb hl (fun g hg => hS g (.inr (.inr (.inl hg)))), h.bk.tb hb hl (fun g hg => hS g (.inr (.inr (.inr hg))))⟩
theorem Di.nR (h : Di w L R o dur std l) : ¬ TB (L R) ∧ ¬ TA 2 (L R) ∧ ¬ TA 4 (L R) := by
  rw [h.lb]
  unfold TB TA
  simp
end

set_option maxHeartbeats 2000000 in
theorem do_any {w : World} {L : Lb} {R : Nat} {o : Ob} {dur std : Shp} {l : List Stp} {K : Nat} {t : Stp} (h : Di w L R o dur std l) (ht : t.Ok) (hlast : o.last < 1000000000) (hm : Sm std K) (hK : K < 9000000000000000000) :
    Calls Tryz.prog 65 #[.pointer (some ⟨R, 0, none⟩), .agg t.cells.toArray] w fun e w' => e = .returned (.tuple #[]) ∧ ∃ L' ns', Lx w L L' ∧ Di w' L' R (o.bl (o.last + 1) ns') dur (std.does t) (l ++ [t.num (o.last + 1)]) ∧ Tl L TD w w' := by
  obtain ⟨cs, hcs⟩ : ∃ cs, Hid (cs = t.cells.toArray) := ⟨_, hide rfl⟩
  have hsz : cs.size = 70 := by rw [hcs.out, List.size_toArray]; exact ht.len
  rw [← hcs.out]
  obtain ⟨W, HW⟩ : ∃ W, W = w.alloc (.cells cs (115 : TypeId)) := ⟨_, rfl⟩
  have b0 : Tb (fun _ => False) w W := by rw [HW]; exact (Tb.refl _ _).alloc _
  have hsW : W.heap.size = w.heap.size + 1 := by rw [HW]; simp
  have hB : W.heap[w.heap.size]? = some (.cells cs (115 : TypeId) (0, 0)) := by rw [HW]; exact heap_alloc_new w _
  obtain ⟨M, hM⟩ : ∃ M, M = onlyL w L := ⟨_, rfl⟩
  have hLM : Lx w L M := by rw [hM]; exact onlyL_lx w L
  have hMB : M w.heap.size = (0, 0) := by rw [hM, onlyL_new (Nat.le_refl _)]
  clear hM
  have hW : Di W M R o dur std l := h.tb b0 hLM (fun _ _ h => h)
  have hDB : ¬ TD (M w.heap.size) := by rw [hMB]; unfold TD TA TB; simp
  have hadd : ∀ X : World, Di X M R o dur std l → X.heap.size = W.heap.size → Calls Tryz.prog 108 #[.pointer (some ⟨R, 5, none⟩), .agg cs] X fun e w' => e = .returned (.tuple #[]) ∧ ∃ L' ns', Lx X M L' ∧ Di w' L' R (o.bl (o.last + 1) ns') dur std (l ++ [t.num (o.last + 1)]) ∧ Tl M TD X w' := fun X hX _ => by
    rw [hcs.out]
    refine (add_any hX.oj hX.nR.1 hX.bk ht hlast).mono ?_
    rintro e w1 ⟨rfl, L', ns', hlx, hO, hBk, hT⟩
    refine ⟨rfl, L', ns', hlx, ⟨hO, by rw [hlx R hX.oj.lt]; exact hX.lb, hX.dur.tb hT hlx ?_, hX.std.tb hT hlx ?_, hBk⟩, hT.mono ?_⟩
    · rintro g hg (rfl | h1)
      · exact hX.nR.2.1 hg
      · exact TA_B hg (.inl rfl) h1
    · rintro g hg (rfl | h1)
      · exact hX.nR.2.2 hg
      · exact TA_B hg (.inr rfl) h1
    · rintro g _ (rfl | h1)
      · exact .inl (by rw [hX.lb])
      · exact .inr (.inr (.inr h1))
  have hcar : ∀ (X : World) (L1 : Lb) (o1 : Ob) (l1 : List Stp), Di X L1 R o1 dur std l1 → o1.sn = o.sn → o1.sr = o.sr → Calls Tryz.prog 56 #[.agg #[.map (some o.sn), .map (some o.sr)], .agg cs] X fun e w' => e = .returned (.tuple #[]) ∧ ∃ L', Lx X L1 L' ∧ Di w' L' R o1 dur (std.does t) l1 ∧ Tl L1 TD X w' := fun X L1 o1 l1 hX e1 e2 => by
    rw [hcs.out, ← e1, ← e2]
    refine (carry_any hX.std (by decide) hm hK ht).mono ?_
    rintro e w1 ⟨rfl, L', hlx, hS, hT⟩
    refine ⟨rfl, L', hlx, ⟨hX.oj.tb hT hX.nR.2.2, by rw [hlx R hX.oj.lt]; exact hX.lb, hX.dur.tb hT hlx (fun g hg h4 => TA_A hg h4), hS, hX.bk.tb hT hlx (fun g hg h4 => TA_B h4 (.inr rfl) hg)⟩, hT.mono (fun g _ h4 => .inr (.inr (.inl h4)))⟩
  have hW' := hide hW
  have HA := hide hadd
  have HC := hide hcar
  have hWd : Di W.drew M R o dur std l := hW.tb ((Tb.refl (fun _ => False) W).drew) (Lx.refl _ _) (fun _ _ h => h)
  have HD := hide hWd
  have HF : Hid (∀ (X : World) (L1 : Lb) (Y : World) (L2 : Lb) (ns' : Value), Lx W.drew M L1 → Tl M TD W.drew X → Lx X.drew L1 L2 → Tl L1 TD X.drew Y → Di Y L2 R (o.bl (o.last + 1) ns') dur (std.does t) (l ++ [t.num (o.last + 1)]) →
      ∃ L' ns', Lx w L L' ∧ Di Y L' R (o.bl (o.last + 1) ns') dur (std.does t) (l ++ [t.num (o.last + 1)]) ∧ Tl L TD w Y) := hide (by
    intro X L1 Y L2 ns' x1 t1 x2 t2 hd
    have bW : Tl L TD w W.drew := (b0.drew).mono (fun _ _ h => h.elim)
    have tX : Tl L TD w X.drew := Tb.drew (Tl.trans bW t1 hLM (fun _ h => h))
    have hsz1 : w.heap.size ≤ X.drew.heap.size := Tb.size tX
    have l1 : Lx w L L1 := hLM.trans (w' := W.drew) x1 (by show w.heap.size ≤ W.heap.size; omega)
    exact ⟨L2, ns', l1.trans (w' := X.drew) x2 hsz1, hd, Tl.trans tX t2 l1 (fun _ h => h)⟩)
  have hwl : w.heap.size < W.heap.size := by omega
  have HK1 : Hid (∀ X : World, Tl M TD W.drew X → X.heap[w.heap.size]? = some (.cells cs (115 : TypeId) (0, 0))) := hide (fun X hT => (hT.block _ hwl hDB).trans hB)
  have HK2 : Hid (∀ (X : World) (L1 : Lb) (Y : World), Lx W.drew M L1 → Tl M TD W.drew X → Tl L1 TD X.drew Y → Y.heap[w.heap.size]? = some (.cells cs (115 : TypeId) (0, 0))) := hide (fun X L1 Y x1 t1 t2 => by
    have hs0 : W.drew.heap.size ≤ X.heap.size := Tb.size t1
    have hs : W.heap.size ≤ X.heap.size := hs0
    exact (t2.block _ (Nat.lt_of_lt_of_le hwl hs) (by rw [x1 _ hwl]; exact hDB)).trans (HK1.out X t1))
  clear h hW hadd hcar hWd hDB hLM b0 hm ht
  have HW' := hide HW
  clear HW
  go_enter Tryz.func65, Tryz.ntmps65
  go_wp2_with fail
  rw [← HW'.out]
  refine wp_region_held_drew (S := fun V => V.heap[w.heap.size]? = some (.cells cs (115 : TypeId) (0, 0))) (by kernel_rfl) hB (fun hHeld => ?_)
  try simp only [List.size_toArray, List.length_cons, List.length_nil, Nat.reduceAdd]
  refine wpAnyH_take (i := 3) (v := (.agg cs)) rfl (by kernel_rfl) (by kernel_rfl) (by kernel_rfl) (fun _ _ _ h => h) (Or.inl ⟨by rfl, ?hy⟩) hHeld ?_
  case hy => (intro V hV; exact exec_load (.pointer (some ⟨w.heap.size, 0, none⟩)) rfl (by simp [Act.eval]) (run_loadStep hV hsz))
  refine wpAnyH_take (i := 0) (v := (.pointer (some ⟨R, 0, none⟩))) rfl (by kernel_rfl) (by kernel_rfl) (by kernel_rfl) (fun _ _ _ h => h) (Or.inl ⟨by rfl, ?hy⟩) hHeld ?_
  case hy => (intro V hV; go_simp)
  refine wpAnyH_take (i := 1) (v := (.pointer (some ⟨R, 0, none⟩))) rfl (by kernel_rfl) (by kernel_rfl) (by kernel_rfl) (fun _ _ _ h => h) (Or.inl ⟨by rfl, ?hy⟩) hHeld ?_
  case hy => (intro V hV; go_simp)
  refine wpAnyH_take (i := 2) (v := (.pointer (some ⟨R, 5, none⟩))) rfl (by kernel_rfl) (by kernel_rfl) (by kernel_rfl) (fun _ _ _ h => h) (Or.inl ⟨by rfl, ?hy⟩) hHeld ?_
  case hy => (intro V hV; go_simp)
  refine wpAnyH_ready (rs := [4]) (by kernel_rfl) (by simp) ?_
  refine AllReadyH.cons rfl (fun K hK => ?_) AllReadyH.nil
  refine step_call rfl 108 #[.pointer (some ⟨R, 5, none⟩), .agg cs] (by go_simp) ?_
  refine (HA.out W.drew HD.out rfl).mono ?_
  rintro e w1 ⟨rfl, L1, ns', x1, d1, t1⟩
  refine ⟨_, rfl, ?_⟩
  refine hK.out _ _ (HK1.out w1 t1) (fun hHeld => ?_)
  clear hK K
  refine wpAnyH_done (by kernel_rfl) ?_ _
  simp only [Act.put, List.getElem_toArray, List.getElem_cons_succ, List.getElem_cons_zero, List.setIfInBounds_toArray, List.set_cons_succ, List.set_cons_zero]
  have c3 : w1.cell? ⟨R, 3, none⟩ = some (.map (some o.sn)) := d1.oj.c 3
  have c4 : w1.cell? ⟨R, 4, none⟩ = some (.map (some o.sr)) := d1.oj.c 4
  go_wp2_with fail
  refine wp_region_held_drew (S := fun V => V.heap[w.heap.size]? = some (.cells cs (115 : TypeId) (0, 0)) ∧ V.cell? ⟨R, 3, none⟩ = some (.map (some o.sn)) ∧ V.cell? ⟨R, 4, none⟩ = some (.map (some o.sr))) (by kernel_rfl) ⟨hHeld, c3, c4⟩ (fun hHeld => ?_)
  try simp only [List.size_toArray, List.length_cons, List.length_nil, Nat.reduceAdd]
  refine wpAnyH_take (i := 4) (v := (.agg cs)) rfl (by kernel_rfl) (by kernel_rfl) (by kernel_rfl) (fun _ _ _ h => h) (Or.inl ⟨by rfl, ?hy⟩) hHeld ?_
  case hy => (intro V hV; obtain ⟨hV1, hV2, hV3⟩ := hV; exact exec_load (.pointer (some ⟨w.heap.size, 0, none⟩)) rfl (by simp [Act.eval]) (run_loadStep hV1 hsz))
  refine wpAnyH_take (i := 0) (v := (.pointer (some ⟨R, 0, none⟩))) rfl (by kernel_rfl) (by kernel_rfl) (by kernel_rfl) (fun _ _ _ h => h) (Or.inl ⟨by rfl, ?hy⟩) hHeld ?_
  case hy => (intro V hV; obtain ⟨hV1, hV2, hV3⟩ := hV; go_simp)
  refine wpAnyH_take (i := 1) (v := (.pointer (some ⟨R, 0, none⟩))) rfl (by kernel_rfl) (by kernel_rfl) (by kernel_rfl) (fun _ _ _ h => h) (Or.inl ⟨by rfl, ?hy⟩) hHeld ?_
  case hy => (intro V hV; obtain ⟨hV1, hV2, hV3⟩ := hV; go_simp)
  refine wpAnyH_take (i := 2) (v := (.pointer (some ⟨R, 3, none⟩))) rfl (by kernel_rfl) (by kernel_rfl) (by kernel_rfl) (fun _ _ _ h => h) (Or.inl ⟨by rfl, ?hy⟩) hHeld ?_
  case hy => (intro V hV; obtain ⟨hV1, hV2, hV3⟩ := hV; go_simp)
  refine wpAnyH_take (i := 3) (v := (.agg #[.map (some o.sn), .map (some o.sr)])) rfl (by kernel_rfl) (by kernel_rfl) (by kernel_rfl) (fun _ _ _ h => h) (Or.inl ⟨by rfl, ?hy⟩) hHeld ?_
  case hy => (intro V hV; obtain ⟨hV1, hV2, hV3⟩ := hV; go_simp)
  refine wpAnyH_ready (rs := [5]) (by kernel_rfl) (by simp) ?_
  refine AllReadyH.cons rfl (fun K hK => ?_) AllReadyH.nil
  refine step_call rfl 56 #[.agg #[.map (some o.sn), .map (some o.sr)], .agg cs] (by go_simp) ?_
  refine (HC.out w1.drew L1 _ _ (d1.tb ((Tb.refl (fun _ => False) w1).drew) (Lx.refl _ _) (fun _ _ h => h)) rfl rfl).mono ?_
  rintro e w2 ⟨rfl, L2, x2, d2, t2⟩
  refine ⟨_, rfl, ?_⟩
  refine hK.out _ _ ⟨HK2.out w1 L1 w2 x1 t1 t2, d2.oj.c 3, d2.oj.c 4⟩ (fun hHeld => ?_)
  clear hK K
  refine wpAnyH_done (by kernel_rfl) ?_ _
  go_end0
  exact ⟨rfl, HF.out w1 L1 w2 L2 ns' x1 t1 x2 t2 d2⟩

end Go.Proofs.YtgbboaedhpaocaaGreat

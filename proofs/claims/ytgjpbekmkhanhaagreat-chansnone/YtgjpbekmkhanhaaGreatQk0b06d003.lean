/-
  The first task's closure: a task of another runtime, no channel, one that nobody made.
-/
import Derived.Test.YtgjpbekmkhanhaaGreatQk05525edd
import Derived.Test.YtgjpbekmkhanhaaGreatQk862e903a
namespace Go.Proofs.YtgjpbekmkhanhaaGreat.CH
open Go.RowKit QW
set_option maxRecDepth 100000
set_option linter.unusedSimpArgs false
set_option linter.unusedVariables false

section
variable {w : World} {base LB n k : Nat} {va : Option Addr} {vc : Nat} {xs news : List Value}

/-- The five boxes that are read. -/
abbrev Sv (CB TB KB NB ZB Z : Nat) (cp : Option Addr) (V : World) : Prop := V.cell? ⟨CB, 0, none⟩ = some (.pointer cp) ∧ V.cell? ⟨TB, 0, none⟩ = some (.func (.func 20) #[] #[]) ∧ V.cell? ⟨KB, 0, none⟩ = some (.func (.func 21) #[] #[]) ∧ V.cell? ⟨NB, 0, none⟩ = some (.pointer none) ∧ V.cell? ⟨ZB, 0, none⟩ = some (.pointer (some ⟨Z, 0, none⟩))

theorem Sv.on {w V : World} {CB TB KB NB ZB Z : Nat} {cp : Option Addr} {S : Nat → Prop} (hCB : w.heap[CB]? = some (.cells #[.pointer cp] (48 : TypeId) (0, 0))) (hTB : w.heap[TB]? = some (.cells #[.func (.func 20) #[] #[]] (67 : TypeId) (0, 0))) (hKB : w.heap[KB]? = some (.cells #[.func (.func 21) #[] #[]] (68 : TypeId) (0, 0))) (hNB : w.heap[NB]? = some (.cells #[.pointer none] (48 : TypeId) (0, 0))) (hZB : w.heap[ZB]? = some (.cells #[.pointer (some ⟨Z, 0, none⟩)] (48 : TypeId) (0, 0))) (t : Tb S w V) (hS : ∀ k u (cs : Array Value), S k → w.heap[k]? = some (.cells cs u (0, 0)) → u = (71 : TypeId) ∨ u = (55 : TypeId)) : Sv CB TB KB NB ZB Z cp V := by
  have key : ∀ {b : Nat} {x : Value} {u : TypeId}, w.heap[b]? = some (.cells #[x] u (0, 0)) → ¬ (u = (71 : TypeId) ∨ u = (55 : TypeId)) → V.cell? ⟨b, 0, none⟩ = some x := fun hb hu => cell_of_row _ _ 0 _ _ _ ((t.block _ (heap_lt hb) (fun e => hu (hS _ _ _ e hb))).trans hb)
  exact ⟨key hCB (by decide), key hTB (by decide), key hKB (by decide), key hNB (by decide), key hZB (by decide)⟩

set_option maxHeartbeats 4000000 in
theorem f25_any {CB TB KB NB ZB Z : Nat} {tp cp : Option Addr} (h : Nt w base LB n va vc xs) (hn : n ≤ 1000) (hCB : w.heap[CB]? = some (.cells #[.pointer cp] (48 : TypeId) (0, 0))) (hTB : w.heap[TB]? = some (.cells #[.func (.func 20) #[] #[]] (67 : TypeId) (0, 0))) (hKB : w.heap[KB]? = some (.cells #[.func (.func 21) #[] #[]] (68 : TypeId) (0, 0))) (hNB : w.heap[NB]? = some (.cells #[.pointer none] (48 : TypeId) (0, 0))) (hZB : w.heap[ZB]? = some (.cells #[.pointer (some ⟨Z, 0, none⟩)] (48 : TypeId) (0, 0)))
    (C1 : ∀ V, Below w.heap.size w V → Calls Tryz.prog 26 #[.pointer tp, .pointer cp, .int .i64 1, .func (.func 20) #[] #[]] V fun e w' => e = .returned (.int .i64 160) ∧ Below V.heap.size V w')
    (C2 : ∀ V, Below w.heap.size w V → Calls Tryz.prog 27 #[.pointer tp, .pointer cp, .func (.func 21) #[] #[]] V fun e w' => e = .returned (.int .i64 160) ∧ Below V.heap.size V w')
    (C3 : ∀ V, Below w.heap.size w V → Calls Tryz.prog 26 #[.pointer tp, .pointer none, .int .i64 1, .func (.func 20) #[] #[]] V fun e w' => e = .returned (.int .i64 1) ∧ Below V.heap.size V w')
    (C4 : ∀ V, Below w.heap.size w V → Calls Tryz.prog 27 #[.pointer tp, .pointer (some ⟨Z, 0, none⟩), .func (.func 21) #[] #[]] V fun e w' => e = .returned (.int .i64 1) ∧ Below V.heap.size V w') :
    Calls Tryz.prog 25 #[.pointer tp, .pointer (some ⟨LB, 0, none⟩), .pointer (some ⟨CB, 0, none⟩), .pointer (some ⟨TB, 0, none⟩), .pointer (some ⟨KB, 0, none⟩), .pointer (some ⟨NB, 0, none⟩), .pointer (some ⟨ZB, 0, none⟩)] w fun e w' => e = .returned (.tuple #[]) ∧ ∃ pa pc, Nt w' base LB (n + 4) pa pc (xs ++ [.int .i64 160, .int .i64 160, .int .i64 1, .int .i64 1]) ∧ Tb (fun j => j = LB ∨ (Value.slice va n vc).ownBlock = some j) w w' := by
  have HM : Hid (∀ X, Below w.heap.size w X → Sv CB TB KB NB ZB Z cp X ∧ Sv CB TB KB NB ZB Z cp (X.alloc (.cells #[.int .i64 160, .int .i64 160, .int .i64 1, .int .i64 1] (55 : TypeId))) ∧ X.cell? ⟨LB, 0, none⟩ = some (.slice va n vc) ∧ (X.alloc (.cells #[.int .i64 160, .int .i64 160, .int .i64 1, .int .i64 1] (55 : TypeId))).cell? ⟨LB, 0, none⟩ = some (.slice va n vc) ∧ ∃ pa pc Y, (Builtin.append_ #[(71 : TypeId), (71 : TypeId)] (71 : TypeId) #[.slice va n vc, .slice (some ⟨X.heap.size, 0, none⟩) 4 4]).run Tryz.prog (X.alloc (.cells #[.int .i64 160, .int .i64 160, .int .i64 1, .int .i64 1] (55 : TypeId))) = .ok (.slice pa (n + 4) pc) Y ∧
      Sv CB TB KB NB ZB Z cp Y ∧ Sv CB TB KB NB ZB Z cp (Y.setCell ⟨LB, 0, none⟩ (.slice pa (n + 4) pc)) ∧ Y.cell? ⟨LB, 0, none⟩ = some (.slice va n vc) ∧ Y.frozen? ⟨LB, 0, none⟩ = false ∧ Hid (Nt (Y.setCell ⟨LB, 0, none⟩ (.slice pa (n + 4) pc)) base LB (n + 4) pa pc (xs ++ [.int .i64 160, .int .i64 160, .int .i64 1, .int .i64 1]) ∧ Tb (fun j => j = LB ∨ (Value.slice va n vc).ownBlock = some j) w (Y.setCell ⟨LB, 0, none⟩ (.slice pa (n + 4) pc)))) := hide (fun X hX => by
    have hA : Below w.heap.size w (X.alloc (.cells #[.int .i64 160, .int .i64 160, .int .i64 1, .int .i64 1] (55 : TypeId))) := hX.trans ((Below.refl _ X).alloc (Nat.le_refl _) _ |>.mono hX.size)
    obtain ⟨q1, q2, q3⟩ := h.more (news := [.int .i64 160, .int .i64 160, .int .i64 1, .int .i64 1]) (k := 4) hn rfl (by omega) (by omega) (by simp [Value.oneCell']) hX
    obtain ⟨pa, pc, Y, r1, r2, r3, r4, r5⟩ := q3
    have hty : ∀ k u (cs : Array Value), (k = LB ∨ (Value.slice va n vc).ownBlock = some k) → w.heap[k]? = some (.cells cs u (0, 0)) → u = (71 : TypeId) ∨ u = (55 : TypeId) := fun k u cs hk hc => by
      rcases hk with rfl | hk
      · have := h.box
        rw [hc] at this
        simp only [Option.some.injEq, Obj.cells.injEq] at this
        exact .inl this.2.1
      · obtain ⟨cs', hcs⟩ := row_ty h.row hk
        rw [hc] at hcs
        simp only [Option.some.injEq, Obj.cells.injEq] at hcs
        exact .inr hcs.2.1
    exact ⟨Sv.on hCB hTB hKB hNB hZB (Tb.of_fresh (S := fun _ => False) hX) (fun _ _ _ e => e.elim), Sv.on hCB hTB hKB hNB hZB (Tb.of_fresh (S := fun _ => False) hA) (fun _ _ _ e => e.elim), q1, q2, pa, pc, Y, r1, Sv.on hCB hTB hKB hNB hZB (r5.mono (fun j _ e => .inr e)) hty, Sv.on hCB hTB hKB hNB hZB r4.out.2 hty, r2, r3, r4⟩)
  obtain ⟨a0, _, l0, _⟩ := HM.out w.drew (Below.refl _ _).drew
  have C1 := hide C1
  have C2 := hide C2
  have C3 := hide C3
  have C4 := hide C4
  clear h hCB hTB hKB hNB hZB
  go_enter Tryz.func25, Tryz.ntmps25
  refine wp_region_held_drew (S := Sv CB TB KB NB ZB Z cp) (by kernel_rfl) a0 (fun hHeld => ?_)
  try simp only [List.size_toArray, List.length_cons, List.length_nil, Nat.reduceAdd]
  refine wpAnyH_take (i := 1) (v := (.pointer tp)) rfl (by kernel_rfl) (by kernel_rfl) (by kernel_rfl) (fun _ _ _ h => h) (Or.inl ⟨by rfl, ?hy⟩) hHeld ?_
  case hy => (intro V hV; obtain ⟨hV1, hV2, hV3, hV4, hV5⟩ := hV; go_simp <;> first | done | rfl | (try simp_all; done) | omega)
  try simp only [Act.put, List.getElem_toArray, List.getElem_cons_succ, List.getElem_cons_zero, List.setIfInBounds_toArray, List.set_cons_succ, List.set_cons_zero]
  refine wpAnyH_take (i := 2) (v := (.pointer cp)) rfl (by kernel_rfl) (by kernel_rfl) (by kernel_rfl) (fun _ _ _ h => h) (Or.inl ⟨by rfl, ?hy⟩) hHeld ?_
  case hy => (intro V hV; obtain ⟨hV1, hV2, hV3, hV4, hV5⟩ := hV; go_simp <;> first | done | rfl | (try simp_all; done) | omega)
  try simp only [Act.put, List.getElem_toArray, List.getElem_cons_succ, List.getElem_cons_zero, List.setIfInBounds_toArray, List.set_cons_succ, List.set_cons_zero]
  refine wpAnyH_take (i := 3) (v := (.func (.func 20) #[] #[])) rfl (by kernel_rfl) (by kernel_rfl) (by kernel_rfl) (fun _ _ _ h => h) (Or.inl ⟨by rfl, ?hy⟩) hHeld ?_
  case hy => (intro V hV; obtain ⟨hV1, hV2, hV3, hV4, hV5⟩ := hV; go_simp <;> first | done | rfl | (try simp_all; done) | omega)
  try simp only [Act.put, List.getElem_toArray, List.getElem_cons_succ, List.getElem_cons_zero, List.setIfInBounds_toArray, List.set_cons_succ, List.set_cons_zero]
  refine wpAnyH_take (i := 5) (v := (.pointer tp)) rfl (by kernel_rfl) (by kernel_rfl) (by kernel_rfl) (fun _ _ _ h => h) (Or.inl ⟨by rfl, ?hy⟩) hHeld ?_
  case hy => (intro V hV; obtain ⟨hV1, hV2, hV3, hV4, hV5⟩ := hV; go_simp <;> first | done | rfl | (try simp_all; done) | omega)
  try simp only [Act.put, List.getElem_toArray, List.getElem_cons_succ, List.getElem_cons_zero, List.setIfInBounds_toArray, List.set_cons_succ, List.set_cons_zero]
  refine wpAnyH_take (i := 6) (v := (.pointer cp)) rfl (by kernel_rfl) (by kernel_rfl) (by kernel_rfl) (fun _ _ _ h => h) (Or.inl ⟨by rfl, ?hy⟩) hHeld ?_
  case hy => (intro V hV; obtain ⟨hV1, hV2, hV3, hV4, hV5⟩ := hV; go_simp <;> first | done | rfl | (try simp_all; done) | omega)
  try simp only [Act.put, List.getElem_toArray, List.getElem_cons_succ, List.getElem_cons_zero, List.setIfInBounds_toArray, List.set_cons_succ, List.set_cons_zero]
  refine wpAnyH_take (i := 7) (v := (.func (.func 21) #[] #[])) rfl (by kernel_rfl) (by kernel_rfl) (by kernel_rfl) (fun _ _ _ h => h) (Or.inl ⟨by rfl, ?hy⟩) hHeld ?_
  case hy => (intro V hV; obtain ⟨hV1, hV2, hV3, hV4, hV5⟩ := hV; go_simp <;> first | done | rfl | (try simp_all; done) | omega)
  try simp only [Act.put, List.getElem_toArray, List.getElem_cons_succ, List.getElem_cons_zero, List.setIfInBounds_toArray, List.set_cons_succ, List.set_cons_zero]
  refine wpAnyH_take (i := 9) (v := (.pointer tp)) rfl (by kernel_rfl) (by kernel_rfl) (by kernel_rfl) (fun _ _ _ h => h) (Or.inl ⟨by rfl, ?hy⟩) hHeld ?_
  case hy => (intro V hV; obtain ⟨hV1, hV2, hV3, hV4, hV5⟩ := hV; go_simp <;> first | done | rfl | (try simp_all; done) | omega)
  try simp only [Act.put, List.getElem_toArray, List.getElem_cons_succ, List.getElem_cons_zero, List.setIfInBounds_toArray, List.set_cons_succ, List.set_cons_zero]
  refine wpAnyH_take (i := 10) (v := (.pointer none)) rfl (by kernel_rfl) (by kernel_rfl) (by kernel_rfl) (fun _ _ _ h => h) (Or.inl ⟨by rfl, ?hy⟩) hHeld ?_
  case hy => (intro V hV; obtain ⟨hV1, hV2, hV3, hV4, hV5⟩ := hV; go_simp <;> first | done | rfl | (try simp_all; done) | omega)
  try simp only [Act.put, List.getElem_toArray, List.getElem_cons_succ, List.getElem_cons_zero, List.setIfInBounds_toArray, List.set_cons_succ, List.set_cons_zero]
  refine wpAnyH_take (i := 11) (v := (.func (.func 20) #[] #[])) rfl (by kernel_rfl) (by kernel_rfl) (by kernel_rfl) (fun _ _ _ h => h) (Or.inl ⟨by rfl, ?hy⟩) hHeld ?_
  case hy => (intro V hV; obtain ⟨hV1, hV2, hV3, hV4, hV5⟩ := hV; go_simp <;> first | done | rfl | (try simp_all; done) | omega)
  try simp only [Act.put, List.getElem_toArray, List.getElem_cons_succ, List.getElem_cons_zero, List.setIfInBounds_toArray, List.set_cons_succ, List.set_cons_zero]
  refine wpAnyH_take (i := 13) (v := (.pointer tp)) rfl (by kernel_rfl) (by kernel_rfl) (by kernel_rfl) (fun _ _ _ h => h) (Or.inl ⟨by rfl, ?hy⟩) hHeld ?_
  case hy => (intro V hV; obtain ⟨hV1, hV2, hV3, hV4, hV5⟩ := hV; go_simp <;> first | done | rfl | (try simp_all; done) | omega)
  try simp only [Act.put, List.getElem_toArray, List.getElem_cons_succ, List.getElem_cons_zero, List.setIfInBounds_toArray, List.set_cons_succ, List.set_cons_zero]
  refine wpAnyH_take (i := 14) (v := (.pointer (some ⟨Z, 0, none⟩))) rfl (by kernel_rfl) (by kernel_rfl) (by kernel_rfl) (fun _ _ _ h => h) (Or.inl ⟨by rfl, ?hy⟩) hHeld ?_
  case hy => (intro V hV; obtain ⟨hV1, hV2, hV3, hV4, hV5⟩ := hV; go_simp <;> first | done | rfl | (try simp_all; done) | omega)
  try simp only [Act.put, List.getElem_toArray, List.getElem_cons_succ, List.getElem_cons_zero, List.setIfInBounds_toArray, List.set_cons_succ, List.set_cons_zero]
  refine wpAnyH_take (i := 15) (v := (.func (.func 21) #[] #[])) rfl (by kernel_rfl) (by kernel_rfl) (by kernel_rfl) (fun _ _ _ h => h) (Or.inl ⟨by rfl, ?hy⟩) hHeld ?_
  case hy => (intro V hV; obtain ⟨hV1, hV2, hV3, hV4, hV5⟩ := hV; go_simp <;> first | done | rfl | (try simp_all; done) | omega)
  try simp only [Act.put, List.getElem_toArray, List.getElem_cons_succ, List.getElem_cons_zero, List.setIfInBounds_toArray, List.set_cons_succ, List.set_cons_zero]
  refine wpAnyH_ready (rs := [0, 4]) (by kernel_rfl) (by simp) ?_
  refine AllReadyH.cons (by rfl) ?_ (AllReadyH.cons (by rfl) ?_ AllReadyH.nil)
  · intro K hK
    have hl := l0
    go_simp
    refine hK.out _ _ a0 (fun hHeld => ?_)
    clear hK K
    try simp only [Act.put, List.getElem_toArray, List.getElem_cons_succ, List.getElem_cons_zero, List.setIfInBounds_toArray, List.set_cons_succ, List.set_cons_zero]
    refine wpAnyH_ready (rs := [4]) (by kernel_rfl) (by simp) ?_
    refine AllReadyH.cons (by rfl) ?_ AllReadyH.nil
    intro K hK
    refine step_callw (by rfl) 26 #[.pointer tp, .pointer cp, .int .i64 1, .func (.func 20) #[] #[]] (by go_simp) ?_
    refine (C1.out _ (Below.refl _ w).drew).mono ?_
    rintro e X1 ⟨rfl, b1⟩
    have b1' := (Below.refl _ w).drew.trans b1
    obtain ⟨s1, _, l1, _⟩ := HM.out _ b1'
    refine ⟨_, rfl, ?_⟩
    refine hK.out _ _ s1 (fun hHeld => ?_)
    clear hK K
    try simp only [Act.put, List.getElem_toArray, List.getElem_cons_succ, List.getElem_cons_zero, List.setIfInBounds_toArray, List.set_cons_succ, List.set_cons_zero]
    refine wpAnyH_ready (rs := [8]) (by kernel_rfl) (by simp) ?_
    refine AllReadyH.cons (by rfl) ?_ AllReadyH.nil
    intro K hK
    refine step_callw (by rfl) 27 #[.pointer tp, .pointer cp, .func (.func 21) #[] #[]] (by go_simp) ?_
    refine (C2.out _ b1').mono ?_
    rintro e X2 ⟨rfl, b2⟩
    have b2' := b1'.trans (b2.mono b1'.size)
    obtain ⟨s2, _, l2, _⟩ := HM.out _ b2'
    refine ⟨_, rfl, ?_⟩
    refine hK.out _ _ s2 (fun hHeld => ?_)
    clear hK K
    try simp only [Act.put, List.getElem_toArray, List.getElem_cons_succ, List.getElem_cons_zero, List.setIfInBounds_toArray, List.set_cons_succ, List.set_cons_zero]
    refine wpAnyH_ready (rs := [12]) (by kernel_rfl) (by simp) ?_
    refine AllReadyH.cons (by rfl) ?_ AllReadyH.nil
    intro K hK
    refine step_callw (by rfl) 26 #[.pointer tp, .pointer none, .int .i64 1, .func (.func 20) #[] #[]] (by go_simp) ?_
    refine (C3.out _ b2').mono ?_
    rintro e X3 ⟨rfl, b3⟩
    have b3' := b2'.trans (b3.mono b2'.size)
    obtain ⟨s3, _, l3, _⟩ := HM.out _ b3'
    refine ⟨_, rfl, ?_⟩
    refine hK.out _ _ s3 (fun hHeld => ?_)
    clear hK K
    try simp only [Act.put, List.getElem_toArray, List.getElem_cons_succ, List.getElem_cons_zero, List.setIfInBounds_toArray, List.set_cons_succ, List.set_cons_zero]
    refine wpAnyH_ready (rs := [16]) (by kernel_rfl) (by simp) ?_
    refine AllReadyH.cons (by rfl) ?_ AllReadyH.nil
    intro K hK
    refine step_callw (by rfl) 27 #[.pointer tp, .pointer (some ⟨Z, 0, none⟩), .func (.func 21) #[] #[]] (by go_simp) ?_
    refine (C4.out _ b3').mono ?_
    rintro e X4 ⟨rfl, b4⟩
    obtain ⟨s4, s5, l4, l4', pa, pc, Y, run, s6, s7, y1, y2, HY⟩ := HM.out X4 (b3'.trans (b4.mono b3'.size))
    refine ⟨_, rfl, ?_⟩
    refine hK.out _ _ s4 (fun hHeld => ?_)
    clear hK K
    try simp only [Act.put, List.getElem_toArray, List.getElem_cons_succ, List.getElem_cons_zero, List.setIfInBounds_toArray, List.set_cons_succ, List.set_cons_zero]
    refine wpAnyH_ready (rs := [17]) (by kernel_rfl) (by simp) ?_
    refine AllReadyH.cons (by rfl) ?_ AllReadyH.nil
    intro K hK
    refine step_runw (v := .slice (some ⟨X4.heap.size, 0, none⟩) 4 4) (w' := X4.alloc (.cells #[.int .i64 160, .int .i64 160, .int .i64 1, .int .i64 1] (55 : TypeId))) (by rfl) (by go_simp) ?_
    refine hK.out _ _ s5 (fun hHeld => ?_)
    clear hK K
    try simp only [Act.put, List.getElem_toArray, List.getElem_cons_succ, List.getElem_cons_zero, List.setIfInBounds_toArray, List.set_cons_succ, List.set_cons_zero]
    refine wpAnyH_ready (rs := [18]) (by kernel_rfl) (by simp) ?_
    refine AllReadyH.cons (by rfl) ?_ AllReadyH.nil
    intro K hK
    refine step_appendx (by rfl) (71 : TypeId) (.tmp 8) (.tmp 25) rfl (.slice va n vc) (.slice (some ⟨X4.heap.size, 0, none⟩) 4 4) (.slice pa (n + 4) pc) (by simp [Act.eval]) (by simp [Act.eval]) run ?_
    refine hK.out _ _ s6 (fun hHeld => ?_)
    clear hK K
    try simp only [Act.put, List.getElem_toArray, List.getElem_cons_succ, List.getElem_cons_zero, List.setIfInBounds_toArray, List.set_cons_succ, List.set_cons_zero]
    refine wpAnyH_ready (rs := [19]) (by kernel_rfl) (by simp) ?_
    refine AllReadyH.cons (by rfl) ?_ AllReadyH.nil
    intro K hK
    go_simp
    refine hK.out _ _ s7 (fun hHeld => ?_)
    clear hK K
    try simp only [Act.put, List.getElem_toArray, List.getElem_cons_succ, List.getElem_cons_zero, List.setIfInBounds_toArray, List.set_cons_succ, List.set_cons_zero]
    refine wpAnyH_done (by kernel_rfl) ?_ _
    try try simp only [Act.put, List.getElem_toArray, List.getElem_cons_succ, List.getElem_cons_zero, List.setIfInBounds_toArray, List.set_cons_succ, List.set_cons_zero]
    have HF := hide HY.out
    clear HM C1 C2 C3 C4 run y1 y2 HY
    go_end0
    exact ⟨rfl, pa, pc, HF.out⟩
  · intro K hK
    refine step_callw (by rfl) 26 #[.pointer tp, .pointer cp, .int .i64 1, .func (.func 20) #[] #[]] (by go_simp) ?_
    refine (C1.out _ (Below.refl _ w).drew).mono ?_
    rintro e X1 ⟨rfl, b1⟩
    have b1' := (Below.refl _ w).drew.trans b1
    obtain ⟨s1, _, l1, _⟩ := HM.out _ b1'
    refine ⟨_, rfl, ?_⟩
    refine hK.out _ _ s1 (fun hHeld => ?_)
    clear hK K
    try simp only [Act.put, List.getElem_toArray, List.getElem_cons_succ, List.getElem_cons_zero, List.setIfInBounds_toArray, List.set_cons_succ, List.set_cons_zero]
    refine wpAnyH_ready (rs := [0, 8]) (by kernel_rfl) (by simp) ?_
    refine AllReadyH.cons (by rfl) ?_ (AllReadyH.cons (by rfl) ?_ AllReadyH.nil)
    · intro K hK
      have hl := l1
      go_simp
      refine hK.out _ _ s1 (fun hHeld => ?_)
      clear hK K
      try simp only [Act.put, List.getElem_toArray, List.getElem_cons_succ, List.getElem_cons_zero, List.setIfInBounds_toArray, List.set_cons_succ, List.set_cons_zero]
      refine wpAnyH_ready (rs := [8]) (by kernel_rfl) (by simp) ?_
      refine AllReadyH.cons (by rfl) ?_ AllReadyH.nil
      intro K hK
      refine step_callw (by rfl) 27 #[.pointer tp, .pointer cp, .func (.func 21) #[] #[]] (by go_simp) ?_
      refine (C2.out _ b1').mono ?_
      rintro e X2 ⟨rfl, b2⟩
      have b2' := b1'.trans (b2.mono b1'.size)
      obtain ⟨s2, _, l2, _⟩ := HM.out _ b2'
      refine ⟨_, rfl, ?_⟩
      refine hK.out _ _ s2 (fun hHeld => ?_)
      clear hK K
      try simp only [Act.put, List.getElem_toArray, List.getElem_cons_succ, List.getElem_cons_zero, List.setIfInBounds_toArray, List.set_cons_succ, List.set_cons_zero]
      refine wpAnyH_ready (rs := [12]) (by kernel_rfl) (by simp) ?_
      refine AllReadyH.cons (by rfl) ?_ AllReadyH.nil
      intro K hK
      refine step_callw (by rfl) 26 #[.pointer tp, .pointer none, .int .i64 1, .func (.func 20) #[] #[]] (by go_simp) ?_
      refine (C3.out _ b2').mono ?_
      rintro e X3 ⟨rfl, b3⟩
      have b3' := b2'.trans (b3.mono b2'.size)
      obtain ⟨s3, _, l3, _⟩ := HM.out _ b3'
      refine ⟨_, rfl, ?_⟩
      refine hK.out _ _ s3 (fun hHeld => ?_)
      clear hK K
      try simp only [Act.put, List.getElem_toArray, List.getElem_cons_succ, List.getElem_cons_zero, List.setIfInBounds_toArray, List.set_cons_succ, List.set_cons_zero]
      refine wpAnyH_ready (rs := [16]) (by kernel_rfl) (by simp) ?_
      refine AllReadyH.cons (by rfl) ?_ AllReadyH.nil
      intro K hK
      refine step_callw (by rfl) 27 #[.pointer tp, .pointer (some ⟨Z, 0, none⟩), .func (.func 21) #[] #[]] (by go_simp) ?_
      refine (C4.out _ b3').mono ?_
      rintro e X4 ⟨rfl, b4⟩
      obtain ⟨s4, s5, l4, l4', pa, pc, Y, run, s6, s7, y1, y2, HY⟩ := HM.out X4 (b3'.trans (b4.mono b3'.size))
      refine ⟨_, rfl, ?_⟩
      refine hK.out _ _ s4 (fun hHeld => ?_)
      clear hK K
      try simp only [Act.put, List.getElem_toArray, List.getElem_cons_succ, List.getElem_cons_zero, List.setIfInBounds_toArray, List.set_cons_succ, List.set_cons_zero]
      refine wpAnyH_ready (rs := [17]) (by kernel_rfl) (by simp) ?_
      refine AllReadyH.cons (by rfl) ?_ AllReadyH.nil
      intro K hK
      refine step_runw (v := .slice (some ⟨X4.heap.size, 0, none⟩) 4 4) (w' := X4.alloc (.cells #[.int .i64 160, .int .i64 160, .int .i64 1, .int .i64 1] (55 : TypeId))) (by rfl) (by go_simp) ?_
      refine hK.out _ _ s5 (fun hHeld => ?_)
      clear hK K
      try simp only [Act.put, List.getElem_toArray, List.getElem_cons_succ, List.getElem_cons_zero, List.setIfInBounds_toArray, List.set_cons_succ, List.set_cons_zero]
      refine wpAnyH_ready (rs := [18]) (by kernel_rfl) (by simp) ?_
      refine AllReadyH.cons (by rfl) ?_ AllReadyH.nil
      intro K hK
      refine step_appendx (by rfl) (71 : TypeId) (.tmp 8) (.tmp 25) rfl (.slice va n vc) (.slice (some ⟨X4.heap.size, 0, none⟩) 4 4) (.slice pa (n + 4) pc) (by simp [Act.eval]) (by simp [Act.eval]) run ?_
      refine hK.out _ _ s6 (fun hHeld => ?_)
      clear hK K
      try simp only [Act.put, List.getElem_toArray, List.getElem_cons_succ, List.getElem_cons_zero, List.setIfInBounds_toArray, List.set_cons_succ, List.set_cons_zero]
      refine wpAnyH_ready (rs := [19]) (by kernel_rfl) (by simp) ?_
      refine AllReadyH.cons (by rfl) ?_ AllReadyH.nil
      intro K hK
      go_simp
      refine hK.out _ _ s7 (fun hHeld => ?_)
      clear hK K
      try simp only [Act.put, List.getElem_toArray, List.getElem_cons_succ, List.getElem_cons_zero, List.setIfInBounds_toArray, List.set_cons_succ, List.set_cons_zero]
      refine wpAnyH_done (by kernel_rfl) ?_ _
      try try simp only [Act.put, List.getElem_toArray, List.getElem_cons_succ, List.getElem_cons_zero, List.setIfInBounds_toArray, List.set_cons_succ, List.set_cons_zero]
      have HF := hide HY.out
      clear HM C1 C2 C3 C4 run y1 y2 HY
      go_end0
      exact ⟨rfl, pa, pc, HF.out⟩
    · intro K hK
      refine step_callw (by rfl) 27 #[.pointer tp, .pointer cp, .func (.func 21) #[] #[]] (by go_simp) ?_
      refine (C2.out _ b1').mono ?_
      rintro e X2 ⟨rfl, b2⟩
      have b2' := b1'.trans (b2.mono b1'.size)
      obtain ⟨s2, _, l2, _⟩ := HM.out _ b2'
      refine ⟨_, rfl, ?_⟩
      refine hK.out _ _ s2 (fun hHeld => ?_)
      clear hK K
      try simp only [Act.put, List.getElem_toArray, List.getElem_cons_succ, List.getElem_cons_zero, List.setIfInBounds_toArray, List.set_cons_succ, List.set_cons_zero]
      refine wpAnyH_ready (rs := [0, 12]) (by kernel_rfl) (by simp) ?_
      refine AllReadyH.cons (by rfl) ?_ (AllReadyH.cons (by rfl) ?_ AllReadyH.nil)
      · intro K hK
        have hl := l2
        go_simp
        refine hK.out _ _ s2 (fun hHeld => ?_)
        clear hK K
        try simp only [Act.put, List.getElem_toArray, List.getElem_cons_succ, List.getElem_cons_zero, List.setIfInBounds_toArray, List.set_cons_succ, List.set_cons_zero]
        refine wpAnyH_ready (rs := [12]) (by kernel_rfl) (by simp) ?_
        refine AllReadyH.cons (by rfl) ?_ AllReadyH.nil
        intro K hK
        refine step_callw (by rfl) 26 #[.pointer tp, .pointer none, .int .i64 1, .func (.func 20) #[] #[]] (by go_simp) ?_
        refine (C3.out _ b2').mono ?_
        rintro e X3 ⟨rfl, b3⟩
        have b3' := b2'.trans (b3.mono b2'.size)
        obtain ⟨s3, _, l3, _⟩ := HM.out _ b3'
        refine ⟨_, rfl, ?_⟩
        refine hK.out _ _ s3 (fun hHeld => ?_)
        clear hK K
        try simp only [Act.put, List.getElem_toArray, List.getElem_cons_succ, List.getElem_cons_zero, List.setIfInBounds_toArray, List.set_cons_succ, List.set_cons_zero]
        refine wpAnyH_ready (rs := [16]) (by kernel_rfl) (by simp) ?_
        refine AllReadyH.cons (by rfl) ?_ AllReadyH.nil
        intro K hK
        refine step_callw (by rfl) 27 #[.pointer tp, .pointer (some ⟨Z, 0, none⟩), .func (.func 21) #[] #[]] (by go_simp) ?_
        refine (C4.out _ b3').mono ?_
        rintro e X4 ⟨rfl, b4⟩
        obtain ⟨s4, s5, l4, l4', pa, pc, Y, run, s6, s7, y1, y2, HY⟩ := HM.out X4 (b3'.trans (b4.mono b3'.size))
        refine ⟨_, rfl, ?_⟩
        refine hK.out _ _ s4 (fun hHeld => ?_)
        clear hK K
        try simp only [Act.put, List.getElem_toArray, List.getElem_cons_succ, List.getElem_cons_zero, List.setIfInBounds_toArray, List.set_cons_succ, List.set_cons_zero]
        refine wpAnyH_ready (rs := [17]) (by kernel_rfl) (by simp) ?_
        refine AllReadyH.cons (by rfl) ?_ AllReadyH.nil
        intro K hK
        refine step_runw (v := .slice (some ⟨X4.heap.size, 0, none⟩) 4 4) (w' := X4.alloc (.cells #[.int .i64 160, .int .i64 160, .int .i64 1, .int .i64 1] (55 : TypeId))) (by rfl) (by go_simp) ?_
        refine hK.out _ _ s5 (fun hHeld => ?_)
        clear hK K
        try simp only [Act.put, List.getElem_toArray, List.getElem_cons_succ, List.getElem_cons_zero, List.setIfInBounds_toArray, List.set_cons_succ, List.set_cons_zero]
        refine wpAnyH_ready (rs := [18]) (by kernel_rfl) (by simp) ?_
        refine AllReadyH.cons (by rfl) ?_ AllReadyH.nil
        intro K hK
        refine step_appendx (by rfl) (71 : TypeId) (.tmp 8) (.tmp 25) rfl (.slice va n vc) (.slice (some ⟨X4.heap.size, 0, none⟩) 4 4) (.slice pa (n + 4) pc) (by simp [Act.eval]) (by simp [Act.eval]) run ?_
        refine hK.out _ _ s6 (fun hHeld => ?_)
        clear hK K
        try simp only [Act.put, List.getElem_toArray, List.getElem_cons_succ, List.getElem_cons_zero, List.setIfInBounds_toArray, List.set_cons_succ, List.set_cons_zero]
        refine wpAnyH_ready (rs := [19]) (by kernel_rfl) (by simp) ?_
        refine AllReadyH.cons (by rfl) ?_ AllReadyH.nil
        intro K hK
        go_simp
        refine hK.out _ _ s7 (fun hHeld => ?_)
        clear hK K
        try simp only [Act.put, List.getElem_toArray, List.getElem_cons_succ, List.getElem_cons_zero, List.setIfInBounds_toArray, List.set_cons_succ, List.set_cons_zero]
        refine wpAnyH_done (by kernel_rfl) ?_ _
        try try simp only [Act.put, List.getElem_toArray, List.getElem_cons_succ, List.getElem_cons_zero, List.setIfInBounds_toArray, List.set_cons_succ, List.set_cons_zero]
        have HF := hide HY.out
        clear HM C1 C2 C3 C4 run y1 y2 HY
        go_end0
        exact ⟨rfl, pa, pc, HF.out⟩
      · intro K hK
        refine step_callw (by rfl) 26 #[.pointer tp, .pointer none, .int .i64 1, .func (.func 20) #[] #[]] (by go_simp) ?_
        refine (C3.out _ b2').mono ?_
        rintro e X3 ⟨rfl, b3⟩
        have b3' := b2'.trans (b3.mono b2'.size)
        obtain ⟨s3, _, l3, _⟩ := HM.out _ b3'
        refine ⟨_, rfl, ?_⟩
        refine hK.out _ _ s3 (fun hHeld => ?_)
        clear hK K
        try simp only [Act.put, List.getElem_toArray, List.getElem_cons_succ, List.getElem_cons_zero, List.setIfInBounds_toArray, List.set_cons_succ, List.set_cons_zero]
        refine wpAnyH_ready (rs := [0, 16]) (by kernel_rfl) (by simp) ?_
        refine AllReadyH.cons (by rfl) ?_ (AllReadyH.cons (by rfl) ?_ AllReadyH.nil)
        · intro K hK
          have hl := l3
          go_simp
          refine hK.out _ _ s3 (fun hHeld => ?_)
          clear hK K
          try simp only [Act.put, List.getElem_toArray, List.getElem_cons_succ, List.getElem_cons_zero, List.setIfInBounds_toArray, List.set_cons_succ, List.set_cons_zero]
          refine wpAnyH_ready (rs := [16]) (by kernel_rfl) (by simp) ?_
          refine AllReadyH.cons (by rfl) ?_ AllReadyH.nil
          intro K hK
          refine step_callw (by rfl) 27 #[.pointer tp, .pointer (some ⟨Z, 0, none⟩), .func (.func 21) #[] #[]] (by go_simp) ?_
          refine (C4.out _ b3').mono ?_
          rintro e X4 ⟨rfl, b4⟩
          obtain ⟨s4, s5, l4, l4', pa, pc, Y, run, s6, s7, y1, y2, HY⟩ := HM.out X4 (b3'.trans (b4.mono b3'.size))
          refine ⟨_, rfl, ?_⟩
          refine hK.out _ _ s4 (fun hHeld => ?_)
          clear hK K
          try simp only [Act.put, List.getElem_toArray, List.getElem_cons_succ, List.getElem_cons_zero, List.setIfInBounds_toArray, List.set_cons_succ, List.set_cons_zero]
          refine wpAnyH_ready (rs := [17]) (by kernel_rfl) (by simp) ?_
          refine AllReadyH.cons (by rfl) ?_ AllReadyH.nil
          intro K hK
          refine step_runw (v := .slice (some ⟨X4.heap.size, 0, none⟩) 4 4) (w' := X4.alloc (.cells #[.int .i64 160, .int .i64 160, .int .i64 1, .int .i64 1] (55 : TypeId))) (by rfl) (by go_simp) ?_
          refine hK.out _ _ s5 (fun hHeld => ?_)
          clear hK K
          try simp only [Act.put, List.getElem_toArray, List.getElem_cons_succ, List.getElem_cons_zero, List.setIfInBounds_toArray, List.set_cons_succ, List.set_cons_zero]
          refine wpAnyH_ready (rs := [18]) (by kernel_rfl) (by simp) ?_
          refine AllReadyH.cons (by rfl) ?_ AllReadyH.nil
          intro K hK
          refine step_appendx (by rfl) (71 : TypeId) (.tmp 8) (.tmp 25) rfl (.slice va n vc) (.slice (some ⟨X4.heap.size, 0, none⟩) 4 4) (.slice pa (n + 4) pc) (by simp [Act.eval]) (by simp [Act.eval]) run ?_
          refine hK.out _ _ s6 (fun hHeld => ?_)
          clear hK K
          try simp only [Act.put, List.getElem_toArray, List.getElem_cons_succ, List.getElem_cons_zero, List.setIfInBounds_toArray, List.set_cons_succ, List.set_cons_zero]
          refine wpAnyH_ready (rs := [19]) (by kernel_rfl) (by simp) ?_
          refine AllReadyH.cons (by rfl) ?_ AllReadyH.nil
          intro K hK
          go_simp
          refine hK.out _ _ s7 (fun hHeld => ?_)
          clear hK K
          try simp only [Act.put, List.getElem_toArray, List.getElem_cons_succ, List.getElem_cons_zero, List.setIfInBounds_toArray, List.set_cons_succ, List.set_cons_zero]
          refine wpAnyH_done (by kernel_rfl) ?_ _
          try try simp only [Act.put, List.getElem_toArray, List.getElem_cons_succ, List.getElem_cons_zero, List.setIfInBounds_toArray, List.set_cons_succ, List.set_cons_zero]
          have HF := hide HY.out
          clear HM C1 C2 C3 C4 run y1 y2 HY
          go_end0
          exact ⟨rfl, pa, pc, HF.out⟩
        · intro K hK
          refine step_callw (by rfl) 27 #[.pointer tp, .pointer (some ⟨Z, 0, none⟩), .func (.func 21) #[] #[]] (by go_simp) ?_
          refine (C4.out _ b3').mono ?_
          rintro e X4 ⟨rfl, b4⟩
          obtain ⟨s4, s5, l4, l4', pa, pc, Y, run, s6, s7, y1, y2, HY⟩ := HM.out X4 (b3'.trans (b4.mono b3'.size))
          refine ⟨_, rfl, ?_⟩
          refine hK.out _ _ s4 (fun hHeld => ?_)
          clear hK K
          try simp only [Act.put, List.getElem_toArray, List.getElem_cons_succ, List.getElem_cons_zero, List.setIfInBounds_toArray, List.set_cons_succ, List.set_cons_zero]
          refine wpAnyH_ready (rs := [0, 17]) (by kernel_rfl) (by simp) ?_
          refine AllReadyH.cons (by rfl) ?_ (AllReadyH.cons (by rfl) ?_ AllReadyH.nil)
          · intro K hK
            have hl := l4
            go_simp
            refine hK.out _ _ s4 (fun hHeld => ?_)
            clear hK K
            try simp only [Act.put, List.getElem_toArray, List.getElem_cons_succ, List.getElem_cons_zero, List.setIfInBounds_toArray, List.set_cons_succ, List.set_cons_zero]
            refine wpAnyH_ready (rs := [17]) (by kernel_rfl) (by simp) ?_
            refine AllReadyH.cons (by rfl) ?_ AllReadyH.nil
            intro K hK
            refine step_runw (v := .slice (some ⟨X4.heap.size, 0, none⟩) 4 4) (w' := X4.alloc (.cells #[.int .i64 160, .int .i64 160, .int .i64 1, .int .i64 1] (55 : TypeId))) (by rfl) (by go_simp) ?_
            refine hK.out _ _ s5 (fun hHeld => ?_)
            clear hK K
            try simp only [Act.put, List.getElem_toArray, List.getElem_cons_succ, List.getElem_cons_zero, List.setIfInBounds_toArray, List.set_cons_succ, List.set_cons_zero]
            refine wpAnyH_ready (rs := [18]) (by kernel_rfl) (by simp) ?_
            refine AllReadyH.cons (by rfl) ?_ AllReadyH.nil
            intro K hK
            refine step_appendx (by rfl) (71 : TypeId) (.tmp 8) (.tmp 25) rfl (.slice va n vc) (.slice (some ⟨X4.heap.size, 0, none⟩) 4 4) (.slice pa (n + 4) pc) (by simp [Act.eval]) (by simp [Act.eval]) run ?_
            refine hK.out _ _ s6 (fun hHeld => ?_)
            clear hK K
            try simp only [Act.put, List.getElem_toArray, List.getElem_cons_succ, List.getElem_cons_zero, List.setIfInBounds_toArray, List.set_cons_succ, List.set_cons_zero]
            refine wpAnyH_ready (rs := [19]) (by kernel_rfl) (by simp) ?_
            refine AllReadyH.cons (by rfl) ?_ AllReadyH.nil
            intro K hK
            go_simp
            refine hK.out _ _ s7 (fun hHeld => ?_)
            clear hK K
            try simp only [Act.put, List.getElem_toArray, List.getElem_cons_succ, List.getElem_cons_zero, List.setIfInBounds_toArray, List.set_cons_succ, List.set_cons_zero]
            refine wpAnyH_done (by kernel_rfl) ?_ _
            try try simp only [Act.put, List.getElem_toArray, List.getElem_cons_succ, List.getElem_cons_zero, List.setIfInBounds_toArray, List.set_cons_succ, List.set_cons_zero]
            have HF := hide HY.out
            clear HM C1 C2 C3 C4 run y1 y2 HY
            go_end0
            exact ⟨rfl, pa, pc, HF.out⟩
          · intro K hK
            refine step_runw (v := .slice (some ⟨X4.heap.size, 0, none⟩) 4 4) (w' := X4.alloc (.cells #[.int .i64 160, .int .i64 160, .int .i64 1, .int .i64 1] (55 : TypeId))) (by rfl) (by go_simp) ?_
            refine hK.out _ _ s5 (fun hHeld => ?_)
            clear hK K
            try simp only [Act.put, List.getElem_toArray, List.getElem_cons_succ, List.getElem_cons_zero, List.setIfInBounds_toArray, List.set_cons_succ, List.set_cons_zero]
            refine wpAnyH_ready (rs := [0]) (by kernel_rfl) (by simp) ?_
            refine AllReadyH.cons (by rfl) ?_ AllReadyH.nil
            intro K hK
            have hl := l4'
            go_simp
            refine hK.out _ _ s5 (fun hHeld => ?_)
            clear hK K
            try simp only [Act.put, List.getElem_toArray, List.getElem_cons_succ, List.getElem_cons_zero, List.setIfInBounds_toArray, List.set_cons_succ, List.set_cons_zero]
            refine wpAnyH_ready (rs := [18]) (by kernel_rfl) (by simp) ?_
            refine AllReadyH.cons (by rfl) ?_ AllReadyH.nil
            intro K hK
            refine step_appendx (by rfl) (71 : TypeId) (.tmp 8) (.tmp 25) rfl (.slice va n vc) (.slice (some ⟨X4.heap.size, 0, none⟩) 4 4) (.slice pa (n + 4) pc) (by simp [Act.eval]) (by simp [Act.eval]) run ?_
            refine hK.out _ _ s6 (fun hHeld => ?_)
            clear hK K
            try simp only [Act.put, List.getElem_toArray, List.getElem_cons_succ, List.getElem_cons_zero, List.setIfInBounds_toArray, List.set_cons_succ, List.set_cons_zero]
            refine wpAnyH_ready (rs := [19]) (by kernel_rfl) (by simp) ?_
            refine AllReadyH.cons (by rfl) ?_ AllReadyH.nil
            intro K hK
            go_simp
            refine hK.out _ _ s7 (fun hHeld => ?_)
            clear hK K
            try simp only [Act.put, List.getElem_toArray, List.getElem_cons_succ, List.getElem_cons_zero, List.setIfInBounds_toArray, List.set_cons_succ, List.set_cons_zero]
            refine wpAnyH_done (by kernel_rfl) ?_ _
            try try simp only [Act.put, List.getElem_toArray, List.getElem_cons_succ, List.getElem_cons_zero, List.setIfInBounds_toArray, List.set_cons_succ, List.set_cons_zero]
            have HF := hide HY.out
            clear HM C1 C2 C3 C4 run y1 y2 HY
            go_end0
            exact ⟨rfl, pa, pc, HF.out⟩
end
end Go.Proofs.YtgjpbekmkhanhaaGreat.CH

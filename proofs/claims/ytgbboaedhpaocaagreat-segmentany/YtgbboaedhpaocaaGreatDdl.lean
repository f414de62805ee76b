/-
  The first steps of names are taken off.
-/
import Derived.Test.YtgbboaedhpaocaaGreatDtk
import Derived.Laws.OwnMore
namespace Go.Proofs.YtgbboaedhpaocaaGreat
open Go.RowKit
set_option maxRecDepth 100000
set_option maxRecDepth 100000

/-- clear of a slice of structs. -/
theorem run_clear_rows {P : Program} (w : World) (t e ty : TypeId) (z : Value) (ht : P.underlying t = some (.slice e)) (hv : ∀ w, (zeroValue e).run P w = .ok z w) (g o n c : Nat) (hn : 0 < n) (h1 : ∀ v ∈ (Builtin.zeroCells z.cells n).toList, v.oneCell' = true) (hth : w.there g o (Builtin.zeroCells z.cells n).toList.length) :
    (Builtin.clear_ #[t] ty #[.slice (some ⟨g, o, none⟩) n c]).run P w = .ok (.tuple #[]) (w.setCells g o (Builtin.zeroCells z.cells n).toList) := by
  have hst := run_storeCells_cells (P := P) g o (Builtin.zeroCells z.cells n).toList 0 w (fun j hj => by simpa using (hth j hj).1) (fun j hj => by simpa using (hth j hj).2) h1
  simp only [Nat.add_zero] at hst
  obtain ⟨m, rfl⟩ : ∃ m, n = m + 1 := ⟨n - 1, by omega⟩
  simp [Builtin.clear_, run_underlying ht, hv, hst]

/-- Cells behind a row's end are laid anew. -/
theorem own_beyond {w : World} {base m size cap g o : Nat} {e : TypeId} {xs vs : List Value} (h : w.ownsRow base e size (.slice (some ⟨g, 0, none⟩) m cap) m xs) (ho : m * size ≤ o) (hv : o + vs.length ≤ cap * size) :
    w.there g o vs.length ∧ (w.setCells g o vs).ownsRow base e size (.slice (some ⟨g, 0, none⟩) m cap) m xs := by
  rcases h.2 with ⟨h1, _⟩ | ⟨g', c', cur, h1, hb, hg, hn, hm, hs, ht⟩
  · cases h1
  · simp only [Value.slice.injEq, Option.some.injEq, Addr.mk.injEq] at h1
    obtain ⟨⟨rfl, _, _⟩, _, rfl⟩ := h1
    refine ⟨there_over hg _ _ (by omega), h.1, .inr ⟨_, _, _, rfl, hb, heap_over _ _ _ _ hg, hn, hm, by rw [over_size, hs], ?_⟩⟩
    rw [over_list _ _ _ (by omega), List.append_assoc, List.take_append_of_le_length (by simp; omega), List.take_take, Nat.min_eq_left ho]
    exact ht

theorem zero81v : ∃ z, (∀ W, (zeroValue (115 : TypeId)).run Tryz.prog W = .ok z W) ∧ z.cells.size = 70 ∧ ∀ v ∈ z.cells.toList, v.oneCell' = true := by
  have h : (Tryz.prog.info? (115 : TypeId)).map (fun i => i.zero.map fun z => (z.cells.size, z.cells.toList.all (·.oneCell'))) = some (some (70, true)) := by kernel_rfl
  obtain ⟨i, hi, hz⟩ := Option.map_eq_some_iff.1 h
  obtain ⟨z, h1, h2⟩ := Option.map_eq_some_iff.1 hz
  simp only [Prod.mk.injEq] at h2
  exact ⟨z, fun W => by simp [zeroValue, typeInfo, hi, h1], h2.1, fun v hv => List.all_eq_true.1 h2.2 v hv⟩

theorem zeroCells_one {z : Array Value} {n : Nat} (h : ∀ v ∈ z.toList, v.oneCell' = true) : ∀ v ∈ (Builtin.zeroCells z n).toList, v.oneCell' = true := by
  intro v hv
  unfold Builtin.zeroCells at hv
  simp only [Array.toList_map, List.mem_map] at hv
  obtain ⟨i, hi, rfl⟩ := hv
  have hz : 0 < z.size := by
    rcases Nat.eq_zero_or_pos z.size with h0 | h0
    · simp [h0] at hi
    · exact h0
  rw [getElem!_pos z _ (Nat.mod_lt _ hz)]
  exact h _ (by simp)

set_option maxHeartbeats 2000000 in
theorem delete_any {w : World} {ts : List Stp} {x : Value} {n : Nat} (hx : w.ownsRow 0 (115 : TypeId) 70 x ts.length (ts.flatMap Stp.cells)) (hok : ∀ t ∈ ts, t.Ok) (hn : n ≤ ts.length) (hlen : ts.length < 1000000000000) :
    Calls Tryz.prog 123 #[x, .int .i64 0, .int .i64 n] w fun e w' => ∃ v, e = .returned v ∧ w'.ownsRow 0 (115 : TypeId) 70 v (ts.drop n).length ((ts.drop n).flatMap Stp.cells) ∧ v.ownBlock = x.ownBlock ∧ Tb (fun g => x.ownBlock = some g) w w' := by
  obtain ⟨N, hN⟩ : ∃ N, N = ts.length := ⟨_, rfl⟩
  rw [← hN] at hx hlen hn
  obtain ⟨ad, cap, rfl⟩ := row_val hx
  have hcap : N ≤ cap ∧ cap ≤ 9223372036854775807 := by
    rcases hx.2 with ⟨h1, h2⟩ | ⟨g, c, cur, h1, _, _, hn, hc, _⟩
    · simp only [Value.slice.injEq] at h1; omega
    · simp only [Value.slice.injEq] at h1; unfold maxLen at hc; omega
  obtain ⟨hcap1, hcap2⟩ := hcap
  by_cases h0 : n = 0
  · subst h0
    have fin : Hid (w.ownsRow 0 (115 : TypeId) 70 (.slice ad N cap) (ts.drop 0).length ((ts.drop 0).flatMap Stp.cells)) := hide (by simpa [← hN] using hx)
    clear hx hN
    go_enter Tryz.func123, Tryz.ntmps123
    go_wp2_with fail
    go_ret
    exact ⟨_, rfl, fin.out, rfl, Tb.refl _ _⟩
  · obtain ⟨g, hg⟩ : ∃ g, ad = some ⟨g, 0, none⟩ := by
      rcases hx.2 with ⟨h1, h2⟩ | ⟨g, c, cur, h1, _⟩
      · omega
      · simp only [Value.slice.injEq] at h1
        exact ⟨g, h1.1⟩
    subst hg
    obtain ⟨i, z0, hi, hz, q1, q2, q3⟩ := info81
    obtain ⟨z, hzv, hzs, hz1⟩ := zero81v
    have hd0 : w.drew.ownsRow 0 (115 : TypeId) 70 (.slice (some ⟨g, 0, none⟩) 0 cap) 0 [] := by
      have := own_cut (m := 0) hx (by omega) (by omega)
      have h2 : w.ownsRow 0 (115 : TypeId) 70 (.slice (some ⟨g, 0, none⟩) 0 cap) 0 [] := by simpa using this
      exact row_heap (w := w) (w' := w.drew) h2 (fun _ _ => rfl)
    have hcells := hx.cells (g := g) rfl
    have hnews : ∀ j u, ((ts.drop n).flatMap Stp.cells)[j]? = some u → w.drew.cell? ((⟨g, n * 70, none⟩ : Addr).add j) = some u := fun j u hu => by
      have e1 : ts.flatMap Stp.cells = (ts.take n).flatMap Stp.cells ++ ((ts.drop n).flatMap Stp.cells) := by rw [← List.flatMap_append, List.take_append_drop]
      have e2 : ((ts.take n).flatMap Stp.cells).length = n * 70 := by
        rw [flatMap_take Stp.cells 70 n ts (fun t ht => (hok t ht).len), List.length_take, hx.1]
        omega
      have := hcells (n * 70 + j) u (by rw [e1, List.getElem?_append_right (by omega), e2, Nat.add_sub_cancel_left]; exact hu)
      rw [Addr.add_mid, Nat.zero_add] at this
      rw [Addr.add_mid]
      exact this
    have hdl : ((ts.drop n).flatMap Stp.cells).length = (N - n) * 70 := by
      have e1 : ts.flatMap Stp.cells = (ts.take n).flatMap Stp.cells ++ ((ts.drop n).flatMap Stp.cells) := by rw [← List.flatMap_append, List.take_append_drop]
      have e2 : ((ts.take n).flatMap Stp.cells).length = n * 70 := by
        rw [flatMap_take Stp.cells 70 n ts (fun t ht => (hok t ht).len), List.length_take, hx.1]
        omega
      have := hx.1
      rw [e1, List.length_append, e2] at this
      rw [Nat.sub_mul]
      omega
    have hone : ∀ u ∈ (ts.drop n).flatMap Stp.cells, u.oneCell' = true := fun u hu => by
      obtain ⟨t, _, htu⟩ := List.mem_flatMap.1 hu
      exact t.one u htu
    -- where the tail begins: at its own place, or, where nothing is behind, at the row's
    obtain ⟨sa, hsa, hrunA⟩ : ∃ sa : Addr, sa = (if cap = n then (⟨g, 0, none⟩ : Addr) else ⟨g, n * 70, none⟩) ∧ ∃ w1, (∀ ty, (Builtin.append_ #[(88 : TypeId), (88 : TypeId)] ty #[.slice (some ⟨g, 0, none⟩) 0 cap, .slice (some sa) (N - n) (cap - n)]).run Tryz.prog w.drew = .ok (.slice (some ⟨g, 0, none⟩) (N - n) cap) w1) ∧
        w1.ownsRow 0 (115 : TypeId) 70 (.slice (some ⟨g, 0, none⟩) (N - n) cap) (N - n) ((ts.drop n).flatMap Stp.cells) ∧ w.drew.grownBy w1 (some g) := by
      by_cases hcn : cap = n
      · refine ⟨⟨g, 0, none⟩, by rw [if_pos hcn], ?_⟩
        have hNn : N - n = 0 := by omega
        have he : (ts.drop n).flatMap Stp.cells = [] := List.eq_nil_of_length_eq_zero (by rw [hdl, hNn])
        obtain ⟨w1, r1, r2, r3⟩ := run_append_fits (P := Tryz.prog) w.drew 0 (88 : TypeId) 0 (115 : TypeId) i 70 Tryz.underlying88 hi q1 g 0 cap [] hd0 ⟨g, 0, none⟩ 0 (cap - n) [] (by simp) (fun j u hu => by simp at hu) (by simp) (by omega)
        rw [he, hNn]
        have r1' : ∀ ty, (Builtin.append_ #[(88 : TypeId), (88 : TypeId)] ty #[.slice (some ⟨g, 0, none⟩) 0 cap, .slice (some ⟨g, 0, none⟩) 0 (cap - n)]).run Tryz.prog w.drew = .ok (.slice (some ⟨g, 0, none⟩) 0 cap) w1 := fun ty => r1
        exact ⟨w1, r1', by simpa using r2, r3⟩
      · refine ⟨⟨g, n * 70, none⟩, by rw [if_neg hcn], ?_⟩
        obtain ⟨w1, r1, r2, r3⟩ := run_append_fits (P := Tryz.prog) w.drew 0 (88 : TypeId) 0 (115 : TypeId) i 70 Tryz.underlying88 hi q1 g 0 cap [] hd0 ⟨g, n * 70, none⟩ (N - n) (cap - n) _ hdl hnews hone (by omega)
        have r1' : ∀ ty, (Builtin.append_ #[(88 : TypeId), (88 : TypeId)] ty #[.slice (some ⟨g, 0, none⟩) 0 cap, .slice (some ⟨g, n * 70, none⟩) (N - n) (cap - n)]).run Tryz.prog w.drew = .ok (.slice (some ⟨g, 0, none⟩) (N - n) cap) w1 := fun ty => by
          have := r1
          rw [Nat.zero_add] at this
          exact this
        exact ⟨w1, r1', by simpa using r2, r3⟩
    obtain ⟨w1, r1, r2, r3⟩ := hrunA
    have hzl : (Builtin.zeroCells z.cells n).toList.length = n * 70 := by rw [Array.length_toList, size_zeroCells, hzs]
    have hms : (N - n) * 70 + n * 70 ≤ cap * 70 := by rw [← Nat.add_mul]; exact Nat.mul_le_mul_right _ (by omega)
    obtain ⟨b1, b2⟩ := own_beyond (o := (N - n) * 70) (vs := (Builtin.zeroCells z.cells n).toList) r2 (Nat.le_refl _) (by rw [hzl]; exact hms)
    have hclr := run_clear_rows (P := Tryz.prog) w1 (88 : TypeId) (115 : TypeId) 0 z Tryz.underlying88 hzv g ((N - n) * 70) n (cap - (N - n)) (by omega) (zeroCells_one hz1) b1
    obtain ⟨w2, hw2⟩ : ∃ w2, w2 = w1.setCells g ((N - n) * 70) (Builtin.zeroCells z.cells n).toList := ⟨_, rfl⟩
    rw [← hw2] at hclr b2
    have t2 : Tb (fun k => k = g) w1 w2 := by rw [hw2]; exact tb_over (S := fun k => k = g) rfl _ _ _
    have t1 : Tb (fun k => k = g) w w1 := (Tb.refl _ w).drew.trans (Tb.of_grown (S := fun k => k = g) r3 (fun k e => by simpa using e.symm)) (fun _ _ h => h)
    have hlenD : (ts.drop n).length = N - n := by rw [List.length_drop, ← hN]
    have fin : Hid (w2.ownsRow 0 (115 : TypeId) 70 (.slice (some ⟨g, 0, none⟩) (N - n) cap) (ts.drop n).length ((ts.drop n).flatMap Stp.cells) ∧ Tb (fun k => (Value.slice (some ⟨g, 0, none⟩) N cap).ownBlock = some k) w w2) := hide ⟨by rw [hlenD]; exact b2, (t1.trans t2 (fun _ _ h => h)).mono (fun k _ e => by subst e; rfl)⟩
    clear hx hok hd0 hcells hnews hdl hone r2 r3 hzl hms b1 b2 hw2 t1 t2 hzv hzs hz1 hN hlenD
    obtain ⟨D, hD⟩ : ∃ D, N = D + n := ⟨N - n, by omega⟩
    subst hD
    rw [Nat.add_sub_cancel] at fin hclr
    simp only [Nat.add_sub_cancel] at r1
    have hnI : (n : Int) ≤ (D : Int) + (n : Int) := by omega
    have hnC : (n : Int) ≤ (cap : Int) := by omega
    have hNC : (D : Int) + (n : Int) ≤ (cap : Int) := by omega
    have hn0 : ((n : Int) == 0) = false := by simp; omega
    have hn0' : ((0 : Int) == (n : Int)) = false := by simp; omega
    by_cases hcn : cap = n
    · rw [if_pos hcn] at hsa
      subst hsa
      have hclr2 := hclr
      rw [hcn] at hclr2
      go_enter Tryz.func123, Tryz.ntmps123
      go_wp2_with fail
      refine wp_region_held_drew (S := fun _ => True) (by kernel_rfl) trivial (fun _ => ?_)
      try simp only [List.size_toArray, List.length_cons, List.length_nil, Nat.reduceAdd]
      refine wpAnyH_take (i := 0) (v := (.slice (some ⟨g, 0, none⟩) (D + n) cap)) rfl (by kernel_rfl) (by kernel_rfl) (by kernel_rfl) (fun _ _ _ h => h) (Or.inl ⟨by rfl, ?hy⟩) trivial ?_
      case hy => (intro V _; go_simp)
      refine wpAnyH_take (i := 1) (v := (.int .i64 0)) rfl (by kernel_rfl) (by kernel_rfl) (by kernel_rfl) (fun _ _ _ h => h) (Or.inl ⟨by rfl, ?hy⟩) trivial ?_
      case hy => (intro V _; go_simp)
      refine wpAnyH_take (i := 2) (v := (.slice (some ⟨g, 0, none⟩) 0 cap)) rfl (by kernel_rfl) (by kernel_rfl) (by kernel_rfl) (fun _ _ _ h => h) (Or.inl ⟨by rfl, ?hy⟩) trivial ?_
      case hy => (intro V _; go_simp)
      refine wpAnyH_take (i := 3) (v := (.slice (some ⟨g, 0, none⟩) (D + n) cap)) rfl (by kernel_rfl) (by kernel_rfl) (by kernel_rfl) (fun _ _ _ h => h) (Or.inl ⟨by rfl, ?hy⟩) trivial ?_
      case hy => (intro V _; go_simp)
      refine wpAnyH_take (i := 4) (v := (.int .i64 n)) rfl (by kernel_rfl) (by kernel_rfl) (by kernel_rfl) (fun _ _ _ h => h) (Or.inl ⟨by rfl, ?hy⟩) trivial ?_
      case hy => (intro V _; go_simp)
      refine wpAnyH_take (i := 5) (v := (.slice (some ⟨g, 0, none⟩) D (cap - n))) rfl (by kernel_rfl) (by kernel_rfl) (by kernel_rfl) (fun _ _ _ h => h) (Or.inl ⟨by rfl, ?hy⟩) trivial ?_
      case hy => (intro V _; go_simp)
      refine wpAnyH_ready (rs := [6]) (by kernel_rfl) (by simp) ?_
      refine AllReadyH.cons rfl (fun K hK => ?_) AllReadyH.nil
      refine step_run rfl (exec_append (.slice (some ⟨g, 0, none⟩) 0 cap) (.slice (some ⟨g, 0, none⟩) D (cap - n)) rfl (by simp [Act.eval, Act.put]) (by simp [Act.eval, Act.put]) (r1 _)) ?_
      refine hK.out _ _ trivial (fun _ => ?_)
      clear hK K
      refine wpAnyH_take (i := 7) (v := (.slice (some ⟨g, 0, none⟩) D cap)) rfl (by kernel_rfl) (by kernel_rfl) (by kernel_rfl) (fun _ _ _ h => h) (Or.inl ⟨by rfl, ?hy⟩) trivial ?_
      case hy => (intro V _; go_simp)
      refine wpAnyH_done (by kernel_rfl) ?_ _
      simp only [Act.put, List.getElem_toArray, List.getElem_cons_succ, List.getElem_cons_zero, List.setIfInBounds_toArray, List.set_cons_succ, List.set_cons_zero]
      go_wp2_with fail
      go_ret
      exact ⟨_, rfl, fin.out.1, rfl, fin.out.2⟩
    · rw [if_neg hcn] at hsa
      subst hsa
      go_enter Tryz.func123, Tryz.ntmps123
      go_wp2_with fail
      refine wp_region_held_drew (S := fun _ => True) (by kernel_rfl) trivial (fun _ => ?_)
      try simp only [List.size_toArray, List.length_cons, List.length_nil, Nat.reduceAdd]
      refine wpAnyH_take (i := 0) (v := (.slice (some ⟨g, 0, none⟩) (D + n) cap)) rfl (by kernel_rfl) (by kernel_rfl) (by kernel_rfl) (fun _ _ _ h => h) (Or.inl ⟨by rfl, ?hy⟩) trivial ?_
      case hy => (intro V _; go_simp)
      refine wpAnyH_take (i := 1) (v := (.int .i64 0)) rfl (by kernel_rfl) (by kernel_rfl) (by kernel_rfl) (fun _ _ _ h => h) (Or.inl ⟨by rfl, ?hy⟩) trivial ?_
      case hy => (intro V _; go_simp)
      refine wpAnyH_take (i := 2) (v := (.slice (some ⟨g, 0, none⟩) 0 cap)) rfl (by kernel_rfl) (by kernel_rfl) (by kernel_rfl) (fun _ _ _ h => h) (Or.inl ⟨by rfl, ?hy⟩) trivial ?_
      case hy => (intro V _; go_simp)
      refine wpAnyH_take (i := 3) (v := (.slice (some ⟨g, 0, none⟩) (D + n) cap)) rfl (by kernel_rfl) (by kernel_rfl) (by kernel_rfl) (fun _ _ _ h => h) (Or.inl ⟨by rfl, ?hy⟩) trivial ?_
      case hy => (intro V _; go_simp)
      refine wpAnyH_take (i := 4) (v := (.int .i64 n)) rfl (by kernel_rfl) (by kernel_rfl) (by kernel_rfl) (fun _ _ _ h => h) (Or.inl ⟨by rfl, ?hy⟩) trivial ?_
      case hy => (intro V _; go_simp)
      refine wpAnyH_take (i := 5) (v := (.slice (some ⟨g, n * 70, none⟩) D (cap - n))) rfl (by kernel_rfl) (by kernel_rfl) (by kernel_rfl) (fun _ _ _ h => h) (Or.inl ⟨by rfl, ?hy⟩) trivial ?_
      case hy => (intro V _; go_simp)
      refine wpAnyH_ready (rs := [6]) (by kernel_rfl) (by simp) ?_
      refine AllReadyH.cons rfl (fun K hK => ?_) AllReadyH.nil
      refine step_run rfl (exec_append (.slice (some ⟨g, 0, none⟩) 0 cap) (.slice (some ⟨g, n * 70, none⟩) D (cap - n)) rfl (by simp [Act.eval, Act.put]) (by simp [Act.eval, Act.put]) (r1 _)) ?_
      refine hK.out _ _ trivial (fun _ => ?_)
      clear hK K
      refine wpAnyH_take (i := 7) (v := (.slice (some ⟨g, 0, none⟩) D cap)) rfl (by kernel_rfl) (by kernel_rfl) (by kernel_rfl) (fun _ _ _ h => h) (Or.inl ⟨by rfl, ?hy⟩) trivial ?_
      case hy => (intro V _; go_simp)
      refine wpAnyH_done (by kernel_rfl) ?_ _
      simp only [Act.put, List.getElem_toArray, List.getElem_cons_succ, List.getElem_cons_zero, List.setIfInBounds_toArray, List.set_cons_succ, List.set_cons_zero]
      go_wp2_with fail
      go_ret
      exact ⟨_, rfl, fin.out.1, rfl, fin.out.2⟩


/-- Without the first n steps of names. -/
def offN : Nat → List Stp → List Stp
  | 0, l => l
  | _ + 1, [] => []
  | n + 1, t :: l => if t.sec then t :: offN (n + 1) l else offN n l

theorem nms_offN (n : Nat) (l : List Stp) : nms (offN n l) = (nms l).drop n := by
  induction l generalizing n with
  | nil => cases n <;> simp [offN, nms]
  | cons t l ih =>
    cases n with
    | zero => simp [offN]
    | succ n =>
      unfold offN
      cases hs : t.sec
      · have := ih n
        simp only [nms] at this ⊢
        simp [hs, this]
      · have := ih (n + 1)
        simp only [nms] at this ⊢
        simp [hs, this]
theorem scs_offN (n : Nat) (l : List Stp) (f : Int) : scs (offN n l) f = scs l f := by
  induction l generalizing n with
  | nil => cases n <;> simp [offN]
  | cons t l ih =>
    cases n with
    | zero => simp [offN]
    | succ n =>
      unfold offN
      cases hs : t.sec
      · have := ih n
        simp only [scs] at this ⊢
        simp [hs, this]
      · have := ih (n + 1)
        simp only [scs] at this ⊢
        simp only [if_true, List.filter_cons, hs, Bool.true_and]
        split <;> simp [this]
theorem offN_sub (n : Nat) (l : List Stp) : (offN n l).Sublist l := by
  induction l generalizing n with
  | nil => cases n <;> simp [offN]
  | cons t l ih =>
    cases n with
    | zero => simp [offN]
    | succ n =>
      unfold offN
      split
      · exact (ih (n + 1)).cons_cons t
      · exact (ih n).cons t

set_option maxHeartbeats 2000000 in
theorem takeNames_any {w : World} {L : Lb} {R : Nat} {o : Ob} {dur std : Shp} {l : List Stp} {n : Nat} (h : Di w L R o dur std l) (hn : n ≤ (nms l).length) (hlast : o.last < 1000000000) :
    Calls Tryz.prog 96 #[.pointer (some ⟨R, 5, none⟩), .int .i64 n] w fun e w' => ∃ v L' ns', e = .returned v ∧ w'.ownsRow 0 (115 : TypeId) 70 v ((nms l).take n).length (((nms l).take n).flatMap Stp.cells) ∧ (∀ g, v.ownBlock = some g → w.heap.size ≤ g ∧ L' g = (0, 0)) ∧ Lx w L L' ∧ Di w' L' R (o.bl o.last ns') dur std (offN n l) ∧ Tl L TD w w' := by
  have hl := h.bk.length
  have hnl : (nms l).length ≤ l.length := List.length_filter_le _ _
  obtain ⟨N, hN⟩ : ∃ N, N = (nms l).length := ⟨_, rfl⟩
  have hrow := h.bk.row
  rw [← hN] at hn hnl hrow
  have hrl := h.bk.rlb
  have c6 : w.cell? ⟨R, 6, none⟩ = some o.ns := h.oj.c 6
  obtain ⟨ns, hns⟩ : ∃ ns, ns = o.ns := ⟨_, rfl⟩
  rw [← hns] at hrow hrl c6
  obtain ⟨ad, cap, rfl⟩ := row_val hrow
  have hcap : N ≤ cap ∧ cap ≤ 9223372036854775807 := by
    rcases hrow.2 with ⟨h1, h2⟩ | ⟨g, c, cur, h1, _, _, hn, hc, _⟩
    · simp only [Value.slice.injEq] at h1; omega
    · simp only [Value.slice.injEq] at h1; unfold maxLen at hc; omega
  obtain ⟨hcap1, hcap2⟩ := hcap
  obtain ⟨i, z, hi, hz, q1, q2, q3⟩ := info81
  have hok : ∀ t ∈ nms l, t.Ok := fun t ht => h.bk.ok t (List.mem_filter.1 ht).1
  -- the first n, as a slice of the row
  have hfirst : w.ownsRow 0 (115 : TypeId) 70 (.slice ad n cap) n (((nms l).take n).flatMap Stp.cells) := by
    by_cases h0 : N = 0
    · have hn0 : n = 0 := by omega
      have he : (nms l) = [] := List.eq_nil_of_length_eq_zero (by rw [← hN]; exact h0)
      rw [he, hn0]
      rw [he, h0] at hrow
      simpa using hrow
    · have := own_cut (m := n) hrow hn (by omega)
      rw [flatMap_take Stp.cells 70 n _ (fun t ht => (hok t ht).len)]
      exact this
  have hone : ∀ u ∈ ((nms l).take n).flatMap Stp.cells, u.oneCell' = true := fun u hu => by
    obtain ⟨t, _, htu⟩ := List.mem_flatMap.1 hu
    exact t.one u htu
  have hap := fun ty => run_append_rows (P := Tryz.prog) (w := w) w.heap.size (88 : TypeId) ty (115 : TypeId) i z 70 128 Tryz.underlying88 hi hz q1 q2 q3 (by decide) (.slice none 0 0) 0 [] (World.ownsRow_nil _ _ _ _) (.slice ad n cap) n _ 0 hfirst hone (by unfold maxLen; omega) (by omega) (Nat.le_refl _)
  obtain ⟨v, w1, hr1, ho1, hg1, hw1⟩ := hap 0
  have hr1' : ∀ ty, (Builtin.append_ #[(88 : TypeId), (88 : TypeId)] ty #[.slice none 0 0, .slice ad n cap]).run Tryz.prog w = .ok v w1 := fun ty => hr1
  have t1 : Tb (fun _ => False) w w1 := Tb.of_grown hg1 (fun k e => by cases e)
  have hvb : ∀ g, v.ownBlock = some g → w.heap.size ≤ g := fun g hg => (ho1.lt g hg).1
  have hrow1 := row_tb hrow t1 (fun _ _ h => h)
  have hdel := delete_any (ts := nms l) (x := .slice ad N cap) (n := n) (by rw [← hN]; exact hrow1) hok (by rw [← hN]; exact hn) (by rw [← hN]; omega)
  obtain ⟨M, hM⟩ : ∃ M, M = onlyL w L := ⟨_, rfl⟩
  have hLM : Lx w L M := by rw [hM]; exact onlyL_lx w L
  have hM0 : ∀ g, w.heap.size ≤ g → M g = (0, 0) := fun g hg => by rw [hM]; exact onlyL_new hg
  clear hM
  have hd1 : Di w1 M R o dur std l := h.tb t1 hLM (fun _ _ h => h)
  have hnsb : ∀ g, (Value.slice ad N cap).ownBlock = some g → M g = (7, 0) := fun g hg => by rw [hLM g (row_lt hrow hg)]; exact hrl g hg
  have FIN : Hid (∀ (ad2 : Option Addr) (m2 cap2 : Nat) (w2 : World), w2.ownsRow 0 (115 : TypeId) 70 (.slice ad2 m2 cap2) ((nms l).drop n).length (((nms l).drop n).flatMap Stp.cells) → (Value.slice ad2 m2 cap2).ownBlock = (Value.slice ad N cap).ownBlock → Tb (fun g => (Value.slice ad N cap).ownBlock = some g) w1 w2 →
      ∃ v' L' ns', (Ending.returned v : Ending) = .returned v' ∧ (w2.setCell ⟨R, 6, none⟩ (.slice ad2 m2 cap2)).ownsRow 0 (115 : TypeId) 70 v' ((nms l).take n).length (((nms l).take n).flatMap Stp.cells) ∧ (∀ g, v'.ownBlock = some g → w.heap.size ≤ g ∧ L' g = (0, 0)) ∧ Lx w L L' ∧ Di (w2.setCell ⟨R, 6, none⟩ (.slice ad2 m2 cap2)) L' R (o.bl o.last ns') dur std (offN n l) ∧ Tl L TD w (w2.setCell ⟨R, 6, none⟩ (.slice ad2 m2 cap2))) := hide (by
    intro ad2 m2 cap2 w2 hv2 hb2 t2
    have hRb : ∀ g, (Value.slice ad N cap).ownBlock = some g → g ≠ R := fun g hg e => by
      have := hnsb g hg
      rw [e, hd1.lb] at this
      simp at this
    have t3 : Tb (fun k => k = R) w2 (w2.setCell ⟨R, 6, none⟩ (.slice ad2 m2 cap2)) := Tb.set (S := fun k => k = R) R 6 _ rfl
    have hO2 : Oj w2 R o := hd1.oj.tb t2 (fun e => hRb R e rfl)
    have hO3 : Oj (w2.setCell ⟨R, 6, none⟩ (.slice ad2 m2 cap2)) R (o.bl o.last (.slice ad2 m2 cap2)) := hO2.set 6 _ _ rfl hO2.armed hO2.failing
    have t13 : Tb (fun g => g = R ∨ (Value.slice ad N cap).ownBlock = some g) w1 (w2.setCell ⟨R, 6, none⟩ (.slice ad2 m2 cap2)) := (t2.mono (T := fun g => g = R ∨ (Value.slice ad N cap).ownBlock = some g) (fun _ _ h => .inr h)).trans t3 (fun _ _ h => .inl h)
    have ns7 : ∀ {g : Nat} {T : Int × Int → Prop}, T (M g) → ¬ T (1, 0) → ¬ T (7, 0) → ¬ (g = R ∨ (Value.slice ad N cap).ownBlock = some g) := fun {g T} hT h1 h7 hh => by
      rcases hh with e | e
      · rw [e, hd1.lb] at hT; exact h1 hT
      · rw [hnsb g e] at hT; exact h7 hT
    have hv7 : ∀ g, v.ownBlock = some g → ¬ (g = R ∨ (Value.slice ad N cap).ownBlock = some g) := fun g hg hh => by
      have h1 := hvb g hg
      rcases hh with e | e
      · have := h.oj.lt; omega
      · have := row_lt hrow e; omega
    obtain ⟨sec, hS1, hS2, hS3⟩ := hd1.bk.map
    refine ⟨v, M, .slice ad2 m2 cap2, rfl, ?_, fun g hg => ⟨hvb g hg, hM0 g (hvb g hg)⟩, hLM, ⟨hO3, hd1.lb, hd1.dur.tb t13 (Lx.refl _ _) (fun g hg => ns7 (T := TA 2) hg (by unfold TA; simp) (by unfold TA; simp)), hd1.std.tb t13 (Lx.refl _ _) (fun g hg => ns7 (T := TA 4) hg (by unfold TA; simp) (by unfold TA; simp)), ?_⟩, ?_⟩
    · have hlt : ((nms l).take n).length = n := by rw [List.length_take, ← hN]; omega
      rw [hlt]
      have h2 : w1.ownsRow 0 (115 : TypeId) 70 v n (((nms l).take n).flatMap Stp.cells) := by
        have h3 := ho1
        rw [Nat.zero_add, List.nil_append] at h3
        exact ⟨h3.1, h3.2.imp id (fun ⟨g, c, cur, e1, e2, e3⟩ => ⟨g, c, cur, e1, Nat.zero_le _, e3⟩)⟩
      exact row_tb h2 t13 hv7
    · refine ⟨?_, fun g hg => ?_, ⟨sec, ?_, fun f => by rw [scs_offN]; exact hS2 f, hS3⟩, hd1.bk.mlb, fun t ht => hd1.bk.ok t ((offN_sub n l).subset ht), hd1.bk.up.sublist (offN_sub n l), fun t ht => hd1.bk.no t ((offN_sub n l).subset ht), hd1.bk.last⟩
      · rw [nms_offN]
        exact row_tb hv2 t3 (fun g hg e => hRb g (by rw [← hb2]; exact hg) e)
      · exact hnsb g (by rw [← hb2]; exact hg)
      · exact hS1.tb t13 (Lx.refl _ _) (ns7 (T := fun x => x = (6, 0)) hd1.bk.mlb (by simp) (by simp)) (fun g f e => ns7 (T := fun x => x = (16, f)) e (by simp) (by simp))
    · have tA : Tl L TD w w1 := t1.mono (fun _ _ h => h.elim)
      refine Tb.trans tA t13 (fun g hg hh => ?_)
      rcases hh with e | e
      · rw [e, h.lb]; exact .inl rfl
      · rw [hrl g e]; exact .inr (.inr (.inr (.inr (.inl rfl)))))
  have d6 : w1.cell? ⟨R, 6, none⟩ = some (.slice ad N cap) := t1.cell c6 (fun h => h)
  have HC : Hid (∀ w2 : World, Tb (fun g => (Value.slice ad N cap).ownBlock = some g) w1 w2 → w2.cell? ⟨R, 6, none⟩ = some (.slice ad N cap) ∧ w2.frozen? ⟨R, 6, none⟩ = false) := hide (fun w2 t2 => by
    have hO2 : Oj w2 R o := hd1.oj.tb t2 (fun e => by
      have := hnsb R e
      rw [hd1.lb] at this
      simp at this)
    exact ⟨by rw [hO2.c 6, hns]; rfl, hO2.free 6⟩)
  have HD := hide hdel
  clear h hrow hrl hfirst hone hap hr1 ho1 hg1 hw1 hvb hrow1 hdel hLM hM0 hd1 hnsb hok t1 hns hN
  have hnI : (n : Int) ≤ (cap : Int) := by omega
  go_enter Tryz.func96, Tryz.ntmps96
  go_wp2_with (first
    | (at_builtin; refine wpList_append_run rfl (88 : TypeId) (.const (.slice none 0 0)) (.tmp 11) rfl (.slice none 0 0) (.slice ad n cap) v rfl (by simp [Act.eval]) (hr1' _) ?_)
    | (go_at_call 123; refine HD.out.mono ?_; rintro e w2 ⟨v2, rfl, e1, e2, e3⟩; obtain ⟨ad2, cap2, rfl⟩ := row_val e1; obtain ⟨g6, f6⟩ := HC.out w2 e3))
  go_ret
  exact FIN.out _ _ _ w2 (by rw [← List.length_drop]; exact e1) (by rw [← List.length_drop]; exact e2) e3

end Go.Proofs.YtgbboaedhpaocaaGreat

/-
  Texts put into one.
-/
import Derived.Test.YtkdolabhcbjipaaGreatQk4600003f
import Derived.Laws.OwnMore

/-
  The first steps of names are taken off.
-/
namespace Go.Proofs.YtkdolabhcbjipaaGreat
open Go.RowKit
set_option maxRecDepth 100000

/-- clear of a slice of structs. -/
theorem run_clear_rows {P : Program} (w : World) (t e ty : TypeId) (z : Value) (ht : P.underlying t = some (.slice e)) (hv : ∀ w, (zeroValue e).run P w = .ok z w) (g o n c : Nat) (hn : 0 < n) (h1 : ∀ v ∈ (Builtin.zeroCells z.cells n).toList, v.oneCell' = true) (hth : w.there g o (Builtin.zeroCells z.cells n).toList.length) :
    (Builtin.clear_ #[t] ty #[.slice (some ⟨g, o, none⟩) n c]).run P w = .ok (.tuple #[]) (w.setCells g o (Builtin.zeroCells z.cells n).toList) := by
  have hst := run_storeCells_cells (P := P) g o (Builtin.zeroCells z.cells n).toList 0 w (fun j hj => by simpa using (hth j hj).1) (fun j hj => by simpa using (hth j hj).2) h1
  simp only [Nat.add_zero] at hst
  obtain ⟨m, rfl⟩ : ∃ m, n = m + 1 := ⟨n - 1, by omega⟩
  simp [Builtin.clear_, run_underlying ht, hv, hst]

/-- Cells behind a row's end are laid anew. -/
theorem own_beyond {w : World} {base m size cap g o : Nat} {e : TypeId} {xs vs : List Value} (h : w.ownsRow base e size (.slice (some ⟨g, 0, none⟩) m cap) m xs) (ho : m * size ≤ o) (hv : o + vs.length ≤ cap * size) :
    w.there g o vs.length ∧ (w.setCells g o vs).ownsRow base e size (.slice (some ⟨g, 0, none⟩) m cap) m xs := by
  rcases h.2 with ⟨h1, _⟩ | ⟨g', c', cur, h1, hb, hg, hn, hm, hs, ht⟩
  · cases h1
  · simp only [Value.slice.injEq, Option.some.injEq, Addr.mk.injEq] at h1
    obtain ⟨⟨rfl, _, _⟩, _, rfl⟩ := h1
    refine ⟨there_over hg _ _ (by omega), h.1, .inr ⟨_, _, _, rfl, hb, heap_over _ _ _ _ hg, hn, hm, by rw [over_size, hs], ?_⟩⟩
    rw [over_list _ _ _ (by omega), List.append_assoc, List.take_append_of_le_length (by simp; omega), List.take_take, Nat.min_eq_left ho]
    exact ht

theorem zero81v : ∃ z, (∀ W, (zeroValue (87 : TypeId)).run Tryz.prog W = .ok z W) ∧ z.cells.size = 70 ∧ ∀ v ∈ z.cells.toList, v.oneCell' = true := by
  have h : (Tryz.prog.info? (87 : TypeId)).map (fun i => i.zero.map fun z => (z.cells.size, z.cells.toList.all (·.oneCell'))) = some (some (70, true)) := by kernel_rfl
  obtain ⟨i, hi, hz⟩ := Option.map_eq_some_iff.1 h
  obtain ⟨z, h1, h2⟩ := Option.map_eq_some_iff.1 hz
  simp only [Prod.mk.injEq] at h2
  exact ⟨z, fun W => by simp [zeroValue, typeInfo, hi, h1], h2.1, fun v hv => List.all_eq_true.1 h2.2 v hv⟩

theorem zeroCells_one {z : Array Value} {n : Nat} (h : ∀ v ∈ z.toList, v.oneCell' = true) : ∀ v ∈ (Builtin.zeroCells z n).toList, v.oneCell' = true := by
  intro v hv
  unfold Builtin.zeroCells at hv
  simp only [Array.toList_map, List.mem_map] at hv
  obtain ⟨i, hi, rfl⟩ := hv
  have hz : 0 < z.size := by
    rcases Nat.eq_zero_or_pos z.size with h0 | h0
    · simp [h0] at hi
    · exact h0
  rw [getElem!_pos z _ (Nat.mod_lt _ hz)]
  exact h _ (by simp)

set_option maxHeartbeats 2000000 in
theorem delete_any {w : World} {ts : List Stp} {x : Value} {n : Nat} (hx : w.ownsRow 0 (87 : TypeId) 70 x ts.length (ts.flatMap Stp.cells)) (hok : ∀ t ∈ ts, t.Ok) (hn : n ≤ ts.length) (hlen : ts.length < 1000000000000) :
    Calls Tryz.prog 80 #[x, .int .i64 0, .int .i64 n] w fun e w' => ∃ v, e = .returned v ∧ w'.ownsRow 0 (87 : TypeId) 70 v (ts.drop n).length ((ts.drop n).flatMap Stp.cells) ∧ v.ownBlock = x.ownBlock ∧ Tb (fun g => x.ownBlock = some g) w w' := by
  obtain ⟨N, hN⟩ : ∃ N, N = ts.length := ⟨_, rfl⟩
  rw [← hN] at hx hlen hn
  obtain ⟨ad, cap, rfl⟩ := row_val hx
  have hcap : N ≤ cap ∧ cap ≤ 9223372036854775807 := by
    rcases hx.2 with ⟨h1, h2⟩ | ⟨g, c, cur, h1, _, _, hn, hc, _⟩
    · simp only [Value.slice.injEq] at h1; omega
    · simp only [Value.slice.injEq] at h1; unfold maxLen at hc; omega
  obtain ⟨hcap1, hcap2⟩ := hcap
  by_cases h0 : n = 0
  · subst h0
    have fin : Hid (w.ownsRow 0 (87 : TypeId) 70 (.slice ad N cap) (ts.drop 0).length ((ts.drop 0).flatMap Stp.cells)) := hide (by simpa [← hN] using hx)
    clear hx hN
    go_enter Tryz.func80, Tryz.ntmps80
    go_wp2_with fail
    go_ret
    exact ⟨_, rfl, fin.out, rfl, Tb.refl _ _⟩
  · obtain ⟨g, hg⟩ : ∃ g, ad = some ⟨g, 0, none⟩ := by
      rcases hx.2 with ⟨h1, h2⟩ | ⟨g, c, cur, h1, _⟩
      · omega
      · simp only [Value.slice.injEq] at h1
        exact ⟨g, h1.1⟩
    subst hg
    obtain ⟨i, z0, hi, hz, q1, q2, q3⟩ := info81
    obtain ⟨z, hzv, hzs, hz1⟩ := zero81v
    have hd0 : w.drew.ownsRow 0 (87 : TypeId) 70 (.slice (some ⟨g, 0, none⟩) 0 cap) 0 [] := by
      have := own_cut (m := 0) hx (by omega) (by omega)
      have h2 : w.ownsRow 0 (87 : TypeId) 70 (.slice (some ⟨g, 0, none⟩) 0 cap) 0 [] := by simpa using this
      exact row_heap (w := w) (w' := w.drew) h2 (fun _ _ => rfl)
    have hcells := hx.cells (g := g) rfl
    have hnews : ∀ j u, ((ts.drop n).flatMap Stp.cells)[j]? = some u → w.drew.cell? ((⟨g, n * 70, none⟩ : Addr).add j) = some u := fun j u hu => by
      have e1 : ts.flatMap Stp.cells = (ts.take n).flatMap Stp.cells ++ ((ts.drop n).flatMap Stp.cells) := by rw [← List.flatMap_append, List.take_append_drop]
      have e2 : ((ts.take n).flatMap Stp.cells).length = n * 70 := by
        rw [flatMap_take Stp.cells 70 n ts (fun t ht => (hok t ht).len), List.length_take, hx.1]
        omega
      have := hcells (n * 70 + j) u (by rw [e1, List.getElem?_append_right (by omega), e2, Nat.add_sub_cancel_left]; exact hu)
      rw [Addr.add_mid, Nat.zero_add] at this
      rw [Addr.add_mid]
      exact this
    have hdl : ((ts.drop n).flatMap Stp.cells).length = (N - n) * 70 := by
      have e1 : ts.flatMap Stp.cells = (ts.take n).flatMap Stp.cells ++ ((ts.drop n).flatMap Stp.cells) := by rw [← List.flatMap_append, List.take_append_drop]
      have e2 : ((ts.take n).flatMap Stp.cells).length = n * 70 := by
        rw [flatMap_take Stp.cells 70 n ts (fun t ht => (hok t ht).len), List.length_take, hx.1]
        omega
      have := hx.1
      rw [e1, List.length_append, e2] at this
      rw [Nat.sub_mul]
      omega
    have hone : ∀ u ∈ (ts.drop n).flatMap Stp.cells, u.oneCell' = true := fun u hu => by
      obtain ⟨t, _, htu⟩ := List.mem_flatMap.1 hu
      exact t.one u htu
    -- where the tail begins: at its own place, or, where nothing is behind, at the row's
    obtain ⟨sa, hsa, hrunA⟩ : ∃ sa : Addr, sa = (if cap = n then (⟨g, 0, none⟩ : Addr) else ⟨g, n * 70, none⟩) ∧ ∃ w1, (∀ ty, (Builtin.append_ #[(56 : TypeId), (56 : TypeId)] ty #[.slice (some ⟨g, 0, none⟩) 0 cap, .slice (some sa) (N - n) (cap - n)]).run Tryz.prog w.drew = .ok (.slice (some ⟨g, 0, none⟩) (N - n) cap) w1) ∧
        w1.ownsRow 0 (87 : TypeId) 70 (.slice (some ⟨g, 0, none⟩) (N - n) cap) (N - n) ((ts.drop n).flatMap Stp.cells) ∧ w.drew.grownBy w1 (some g) := by
      by_cases hcn : cap = n
      · refine ⟨⟨g, 0, none⟩, by rw [if_pos hcn], ?_⟩
        have hNn : N - n = 0 := by omega
        have he : (ts.drop n).flatMap Stp.cells = [] := List.eq_nil_of_length_eq_zero (by rw [hdl, hNn])
        obtain ⟨w1, r1, r2, r3⟩ := run_append_fits (P := Tryz.prog) w.drew 0 (56 : TypeId) 0 (87 : TypeId) i 70 Tryz.underlying56 hi q1 g 0 cap [] hd0 ⟨g, 0, none⟩ 0 (cap - n) [] (by simp) (fun j u hu => by simp at hu) (by simp) (by omega)
        rw [he, hNn]
        have r1' : ∀ ty, (Builtin.append_ #[(56 : TypeId), (56 : TypeId)] ty #[.slice (some ⟨g, 0, none⟩) 0 cap, .slice (some ⟨g, 0, none⟩) 0 (cap - n)]).run Tryz.prog w.drew = .ok (.slice (some ⟨g, 0, none⟩) 0 cap) w1 := fun ty => r1
        exact ⟨w1, r1', by simpa using r2, r3⟩
      · refine ⟨⟨g, n * 70, none⟩, by rw [if_neg hcn], ?_⟩
        obtain ⟨w1, r1, r2, r3⟩ := run_append_fits (P := Tryz.prog) w.drew 0 (56 : TypeId) 0 (87 : TypeId) i 70 Tryz.underlying56 hi q1 g 0 cap [] hd0 ⟨g, n * 70, none⟩ (N - n) (cap - n) _ hdl hnews hone (by omega)
        have r1' : ∀ ty, (Builtin.append_ #[(56 : TypeId), (56 : TypeId)] ty #[.slice (some ⟨g, 0, none⟩) 0 cap, .slice (some ⟨g, n * 70, none⟩) (N - n) (cap - n)]).run Tryz.prog w.drew = .ok (.slice (some ⟨g, 0, none⟩) (N - n) cap) w1 := fun ty => by
          have := r1
          rw [Nat.zero_add] at this
          exact this
        exact ⟨w1, r1', by simpa using r2, r3⟩
    obtain ⟨w1, r1, r2, r3⟩ := hrunA
    have hzl : (Builtin.zeroCells z.cells n).toList.length = n * 70 := by rw [Array.length_toList, size_zeroCells, hzs]
    have hms : (N - n) * 70 + n * 70 ≤ cap * 70 := by rw [← Nat.add_mul]; exact Nat.mul_le_mul_right _ (by omega)
    obtain ⟨b1, b2⟩ := own_beyond (o := (N - n) * 70) (vs := (Builtin.zeroCells z.cells n).toList) r2 (Nat.le_refl _) (by rw [hzl]; exact hms)
    have hclr := run_clear_rows (P := Tryz.prog) w1 (56 : TypeId) (87 : TypeId) 0 z Tryz.underlying56 hzv g ((N - n) * 70) n (cap - (N - n)) (by omega) (zeroCells_one hz1) b1
    obtain ⟨w2, hw2⟩ : ∃ w2, w2 = w1.setCells g ((N - n) * 70) (Builtin.zeroCells z.cells n).toList := ⟨_, rfl⟩
    rw [← hw2] at hclr b2
    have t2 : Tb (fun k => k = g) w1 w2 := by rw [hw2]; exact tb_over (S := fun k => k = g) rfl _ _ _
    have t1 : Tb (fun k => k = g) w w1 := (Tb.refl _ w).drew.trans (Tb.of_grown (S := fun k => k = g) r3 (fun k e => by simpa using e.symm)) (fun _ _ h => h)
    have hlenD : (ts.drop n).length = N - n := by rw [List.length_drop, ← hN]
    have fin : Hid (w2.ownsRow 0 (87 : TypeId) 70 (.slice (some ⟨g, 0, none⟩) (N - n) cap) (ts.drop n).length ((ts.drop n).flatMap Stp.cells) ∧ Tb (fun k => (Value.slice (some ⟨g, 0, none⟩) N cap).ownBlock = some k) w w2) := hide ⟨by rw [hlenD]; exact b2, (t1.trans t2 (fun _ _ h => h)).mono (fun k _ e => by subst e; rfl)⟩
    clear hx hok hd0 hcells hnews hdl hone r2 r3 hzl hms b1 b2 hw2 t1 t2 hzv hzs hz1 hN hlenD
    obtain ⟨D, hD⟩ : ∃ D, N = D + n := ⟨N - n, by omega⟩
    subst hD
    rw [Nat.add_sub_cancel] at fin hclr
    simp only [Nat.add_sub_cancel] at r1
    have hnI : (n : Int) ≤ (D : Int) + (n : Int) := by omega
    have hnC : (n : Int) ≤ (cap : Int) := by omega
    have hNC : (D : Int) + (n : Int) ≤ (cap : Int) := by omega
    have hn0 : ((n : Int) == 0) = false := by simp; omega
    have hn0' : ((0 : Int) == (n : Int)) = false := by simp; omega
    by_cases hcn : cap = n
    · rw [if_pos hcn] at hsa
      subst hsa
      have hclr2 := hclr
      rw [hcn] at hclr2
      go_enter Tryz.func80, Tryz.ntmps80
      go_wp2_with fail
      refine wp_region_held_drew (S := fun _ => True) (by kernel_rfl) trivial (fun _ => ?_)
      try simp only [List.size_toArray, List.length_cons, List.length_nil, Nat.reduceAdd]
      refine wpAnyH_take (i := 0) (v := (.slice (some ⟨g, 0, none⟩) (D + n) cap)) rfl (by kernel_rfl) (by kernel_rfl) (by kernel_rfl) (fun _ _ _ h => h) (Or.inl ⟨by rfl, ?hy⟩) trivial ?_
      case hy => (intro V _; go_simp)
      refine wpAnyH_take (i := 1) (v := (.int .i64 0)) rfl (by kernel_rfl) (by kernel_rfl) (by kernel_rfl) (fun _ _ _ h => h) (Or.inl ⟨by rfl, ?hy⟩) trivial ?_
      case hy => (intro V _; go_simp)
      refine wpAnyH_take (i := 2) (v := (.slice (some ⟨g, 0, none⟩) 0 cap)) rfl (by kernel_rfl) (by kernel_rfl) (by kernel_rfl) (fun _ _ _ h => h) (Or.inl ⟨by rfl, ?hy⟩) trivial ?_
      case hy => (intro V _; go_simp)
      refine wpAnyH_take (i := 3) (v := (.slice (some ⟨g, 0, none⟩) (D + n) cap)) rfl (by kernel_rfl) (by kernel_rfl) (by kernel_rfl) (fun _ _ _ h => h) (Or.inl ⟨by rfl, ?hy⟩) trivial ?_
      case hy => (intro V _; go_simp)
      refine wpAnyH_take (i := 4) (v := (.int .i64 n)) rfl (by kernel_rfl) (by kernel_rfl) (by kernel_rfl) (fun _ _ _ h => h) (Or.inl ⟨by rfl, ?hy⟩) trivial ?_
      case hy => (intro V _; go_simp)
      refine wpAnyH_take (i := 5) (v := (.slice (some ⟨g, 0, none⟩) D (cap - n))) rfl (by kernel_rfl) (by kernel_rfl) (by kernel_rfl) (fun _ _ _ h => h) (Or.inl ⟨by rfl, ?hy⟩) trivial ?_
      case hy => (intro V _; go_simp)
      refine wpAnyH_ready (rs := [6]) (by kernel_rfl) (by simp) ?_
      refine AllReadyH.cons rfl (fun K hK => ?_) AllReadyH.nil
      refine step_run rfl (exec_append (.slice (some ⟨g, 0, none⟩) 0 cap) (.slice (some ⟨g, 0, none⟩) D (cap - n)) rfl (by simp [Act.eval, Act.put]) (by simp [Act.eval, Act.put]) (r1 _)) ?_
      refine hK.out _ _ trivial (fun _ => ?_)
      clear hK K
      refine wpAnyH_take (i := 7) (v := (.slice (some ⟨g, 0, none⟩) D cap)) rfl (by kernel_rfl) (by kernel_rfl) (by kernel_rfl) (fun _ _ _ h => h) (Or.inl ⟨by rfl, ?hy⟩) trivial ?_
      case hy => (intro V _; go_simp)
      refine wpAnyH_done (by kernel_rfl) ?_ _
      simp only [Act.put, List.getElem_toArray, List.getElem_cons_succ, List.getElem_cons_zero, List.setIfInBounds_toArray, List.set_cons_succ, List.set_cons_zero]
      go_wp2_with fail
      go_ret
      exact ⟨_, rfl, fin.out.1, rfl, fin.out.2⟩
    · rw [if_neg hcn] at hsa
      subst hsa
      go_enter Tryz.func80, Tryz.ntmps80
      go_wp2_with fail
      refine wp_region_held_drew (S := fun _ => True) (by kernel_rfl) trivial (fun _ => ?_)
      try simp only [List.size_toArray, List.length_cons, List.length_nil, Nat.reduceAdd]
      refine wpAnyH_take (i := 0) (v := (.slice (some ⟨g, 0, none⟩) (D + n) cap)) rfl (by kernel_rfl) (by kernel_rfl) (by kernel_rfl) (fun _ _ _ h => h) (Or.inl ⟨by rfl, ?hy⟩) trivial ?_
      case hy => (intro V _; go_simp)
      refine wpAnyH_take (i := 1) (v := (.int .i64 0)) rfl (by kernel_rfl) (by kernel_rfl) (by kernel_rfl) (fun _ _ _ h => h) (Or.inl ⟨by rfl, ?hy⟩) trivial ?_
      case hy => (intro V _; go_simp)
      refine wpAnyH_take (i := 2) (v := (.slice (some ⟨g, 0, none⟩) 0 cap)) rfl (by kernel_rfl) (by kernel_rfl) (by kernel_rfl) (fun _ _ _ h => h) (Or.inl ⟨by rfl, ?hy⟩) trivial ?_
      case hy => (intro V _; go_simp)
      refine wpAnyH_take (i := 3) (v := (.slice (some ⟨g, 0, none⟩) (D + n) cap)) rfl (by kernel_rfl) (by kernel_rfl) (by kernel_rfl) (fun _ _ _ h => h) (Or.inl ⟨by rfl, ?hy⟩) trivial ?_
      case hy => (intro V _; go_simp)
      refine wpAnyH_take (i := 4) (v := (.int .i64 n)) rfl (by kernel_rfl) (by kernel_rfl) (by kernel_rfl) (fun _ _ _ h => h) (Or.inl ⟨by rfl, ?hy⟩) trivial ?_
      case hy => (intro V _; go_simp)
      refine wpAnyH_take (i := 5) (v := (.slice (some ⟨g, n * 70, none⟩) D (cap - n))) rfl (by kernel_rfl) (by kernel_rfl) (by kernel_rfl) (fun _ _ _ h => h) (Or.inl ⟨by rfl, ?hy⟩) trivial ?_
      case hy => (intro V _; go_simp)
      refine wpAnyH_ready (rs := [6]) (by kernel_rfl) (by simp) ?_
      refine AllReadyH.cons rfl (fun K hK => ?_) AllReadyH.nil
      refine step_run rfl (exec_append (.slice (some ⟨g, 0, none⟩) 0 cap) (.slice (some ⟨g, n * 70, none⟩) D (cap - n)) rfl (by simp [Act.eval, Act.put]) (by simp [Act.eval, Act.put]) (r1 _)) ?_
      refine hK.out _ _ trivial (fun _ => ?_)
      clear hK K
      refine wpAnyH_take (i := 7) (v := (.slice (some ⟨g, 0, none⟩) D cap)) rfl (by kernel_rfl) (by kernel_rfl) (by kernel_rfl) (fun _ _ _ h => h) (Or.inl ⟨by rfl, ?hy⟩) trivial ?_
      case hy => (intro V _; go_simp)
      refine wpAnyH_done (by kernel_rfl) ?_ _
      simp only [Act.put, List.getElem_toArray, List.getElem_cons_succ, List.getElem_cons_zero, List.setIfInBounds_toArray, List.set_cons_succ, List.set_cons_zero]
      go_wp2_with fail
      go_ret
      exact ⟨_, rfl, fin.out.1, rfl, fin.out.2⟩


/-- Without the first n steps of names. -/
def offN : Nat → List Stp → List Stp
  | 0, l => l
  | _ + 1, [] => []
  | n + 1, t :: l => if t.sec then t :: offN (n + 1) l else offN n l

theorem nms_offN (n : Nat) (l : List Stp) : nms (offN n l) = (nms l).drop n := by
  induction l generalizing n with
  | nil => cases n <;> simp [offN, nms]
  | cons t l ih =>
    cases n with
    | zero => simp [offN]
    | succ n =>
      unfold offN
      cases hs : t.sec
      · have := ih n
        simp only [nms] at this ⊢
        simp [hs, this]
      · have := ih (n + 1)
        simp only [nms] at this ⊢
        simp [hs, this]
theorem scs_offN (n : Nat) (l : List Stp) (f : Int) : scs (offN n l) f = scs l f := by
  induction l generalizing n with
  | nil => cases n <;> simp [offN]
  | cons t l ih =>
    cases n with
    | zero => simp [offN]
    | succ n =>
      unfold offN
      cases hs : t.sec
      · have := ih n
        simp only [scs] at this ⊢
        simp [hs, this]
      · have := ih (n + 1)
        simp only [scs] at this ⊢
        simp only [if_true, List.filter_cons, hs, Bool.true_and]
        split <;> simp [this]
theorem offN_sub (n : Nat) (l : List Stp) : (offN n l).Sublist l := by
  induction l generalizing n with
  | nil => cases n <;> simp [offN]
  | cons t l ih =>
    cases n with
    | zero => simp [offN]
    | succ n =>
      unfold offN
      split
      · exact (ih (n + 1)).cons_cons t
      · exact (ih n).cons t

set_option maxHeartbeats 2000000 in
theorem takeNames_any {w : World} {L : Lb} {R : Nat} {o : Ob} {dur std : Shp} {l : List Stp} {n : Nat} (h : Di w L R o dur std l) (hn : n ≤ (nms l).length) (hlast : o.last < 1000000000) :
    Calls Tryz.prog 59 #[.pointer (some ⟨R, 5, none⟩), .int .i64 n] w fun e w' => ∃ v L' ns', e = .returned v ∧ w'.ownsRow 0 (87 : TypeId) 70 v ((nms l).take n).length (((nms l).take n).flatMap Stp.cells) ∧ (∀ g, v.ownBlock = some g → w.heap.size ≤ g ∧ L' g = (0, 0)) ∧ Lx w L L' ∧ Di w' L' R (o.bl o.last ns') dur std (offN n l) ∧ Tl L TD w w' := by
  have hl := h.bk.length
  have hnl : (nms l).length ≤ l.length := List.length_filter_le _ _
  obtain ⟨N, hN⟩ : ∃ N, N = (nms l).length := ⟨_, rfl⟩
  have hrow := h.bk.row
  rw [← hN] at hn hnl hrow
  have hrl := h.bk.rlb
  have c6 : w.cell? ⟨R, 6, none⟩ = some o.ns := h.oj.c 6
  obtain ⟨ns, hns⟩ : ∃ ns, ns = o.ns := ⟨_, rfl⟩
  rw [← hns] at hrow hrl c6
  obtain ⟨ad, cap, rfl⟩ := row_val hrow
  have hcap : N ≤ cap ∧ cap ≤ 9223372036854775807 := by
    rcases hrow.2 with ⟨h1, h2⟩ | ⟨g, c, cur, h1, _, _, hn, hc, _⟩
    · simp only [Value.slice.injEq] at h1; omega
    · simp only [Value.slice.injEq] at h1; unfold maxLen at hc; omega
  obtain ⟨hcap1, hcap2⟩ := hcap
  obtain ⟨i, z, hi, hz, q1, q2, q3⟩ := info81
  have hok : ∀ t ∈ nms l, t.Ok := fun t ht => h.bk.ok t (List.mem_filter.1 ht).1
  -- the first n, as a slice of the row
  have hfirst : w.ownsRow 0 (87 : TypeId) 70 (.slice ad n cap) n (((nms l).take n).flatMap Stp.cells) := by
    by_cases h0 : N = 0
    · have hn0 : n = 0 := by omega
      have he : (nms l) = [] := List.eq_nil_of_length_eq_zero (by rw [← hN]; exact h0)
      rw [he, hn0]
      rw [he, h0] at hrow
      simpa using hrow
    · have := own_cut (m := n) hrow hn (by omega)
      rw [flatMap_take Stp.cells 70 n _ (fun t ht => (hok t ht).len)]
      exact this
  have hone : ∀ u ∈ ((nms l).take n).flatMap Stp.cells, u.oneCell' = true := fun u hu => by
    obtain ⟨t, _, htu⟩ := List.mem_flatMap.1 hu
    exact t.one u htu
  have hap := fun ty => run_append_rows (P := Tryz.prog) (w := w) w.heap.size (56 : TypeId) ty (87 : TypeId) i z 70 128 Tryz.underlying56 hi hz q1 q2 q3 (by decide) (.slice none 0 0) 0 [] (World.ownsRow_nil _ _ _ _) (.slice ad n cap) n _ 0 hfirst hone (by unfold maxLen; omega) (by omega) (Nat.le_refl _)
  obtain ⟨v, w1, hr1, ho1, hg1, hw1⟩ := hap 0
  have hr1' : ∀ ty, (Builtin.append_ #[(56 : TypeId), (56 : TypeId)] ty #[.slice none 0 0, .slice ad n cap]).run Tryz.prog w = .ok v w1 := fun ty => hr1
  have t1 : Tb (fun _ => False) w w1 := Tb.of_grown hg1 (fun k e => by cases e)
  have hvb : ∀ g, v.ownBlock = some g → w.heap.size ≤ g := fun g hg => (ho1.lt g hg).1
  have hrow1 := row_tb hrow t1 (fun _ _ h => h)
  have hdel := delete_any (ts := nms l) (x := .slice ad N cap) (n := n) (by rw [← hN]; exact hrow1) hok (by rw [← hN]; exact hn) (by rw [← hN]; omega)
  obtain ⟨M, hM⟩ : ∃ M, M = onlyL w L := ⟨_, rfl⟩
  have hLM : Lx w L M := by rw [hM]; exact onlyL_lx w L
  have hM0 : ∀ g, w.heap.size ≤ g → M g = (0, 0) := fun g hg => by rw [hM]; exact onlyL_new hg
  clear hM
  have hd1 : Di w1 M R o dur std l := h.tb t1 hLM (fun _ _ h => h)
  have hnsb : ∀ g, (Value.slice ad N cap).ownBlock = some g → M g = (7, 0) := fun g hg => by rw [hLM g (row_lt hrow hg)]; exact hrl g hg
  have FIN : Hid (∀ (ad2 : Option Addr) (m2 cap2 : Nat) (w2 : World), w2.ownsRow 0 (87 : TypeId) 70 (.slice ad2 m2 cap2) ((nms l).drop n).length (((nms l).drop n).flatMap Stp.cells) → (Value.slice ad2 m2 cap2).ownBlock = (Value.slice ad N cap).ownBlock → Tb (fun g => (Value.slice ad N cap).ownBlock = some g) w1 w2 →
      ∃ v' L' ns', (Ending.returned v : Ending) = .returned v' ∧ (w2.setCell ⟨R, 6, none⟩ (.slice ad2 m2 cap2)).ownsRow 0 (87 : TypeId) 70 v' ((nms l).take n).length (((nms l).take n).flatMap Stp.cells) ∧ (∀ g, v'.ownBlock = some g → w.heap.size ≤ g ∧ L' g = (0, 0)) ∧ Lx w L L' ∧ Di (w2.setCell ⟨R, 6, none⟩ (.slice ad2 m2 cap2)) L' R (o.bl o.last ns') dur std (offN n l) ∧ Tl L TD w (w2.setCell ⟨R, 6, none⟩ (.slice ad2 m2 cap2))) := hide (by
    intro ad2 m2 cap2 w2 hv2 hb2 t2
    have hRb : ∀ g, (Value.slice ad N cap).ownBlock = some g → g ≠ R := fun g hg e => by
      have := hnsb g hg
      rw [e, hd1.lb] at this
      simp at this
    have t3 : Tb (fun k => k = R) w2 (w2.setCell ⟨R, 6, none⟩ (.slice ad2 m2 cap2)) := Tb.set (S := fun k => k = R) R 6 _ rfl
    have hO2 : Oj w2 R o := hd1.oj.tb t2 (fun e => hRb R e rfl)
    have hO3 : Oj (w2.setCell ⟨R, 6, none⟩ (.slice ad2 m2 cap2)) R (o.bl o.last (.slice ad2 m2 cap2)) := hO2.set 6 _ _ rfl hO2.armed hO2.failing
    have t13 : Tb (fun g => g = R ∨ (Value.slice ad N cap).ownBlock = some g) w1 (w2.setCell ⟨R, 6, none⟩ (.slice ad2 m2 cap2)) := (t2.mono (T := fun g => g = R ∨ (Value.slice ad N cap).ownBlock = some g) (fun _ _ h => .inr h)).trans t3 (fun _ _ h => .inl h)
    have ns7 : ∀ {g : Nat} {T : Int × Int → Prop}, T (M g) → ¬ T (1, 0) → ¬ T (7, 0) → ¬ (g = R ∨ (Value.slice ad N cap).ownBlock = some g) := fun {g T} hT h1 h7 hh => by
      rcases hh with e | e
      · rw [e, hd1.lb] at hT; exact h1 hT
      · rw [hnsb g e] at hT; exact h7 hT
    have hv7 : ∀ g, v.ownBlock = some g → ¬ (g = R ∨ (Value.slice ad N cap).ownBlock = some g) := fun g hg hh => by
      have h1 := hvb g hg
      rcases hh with e | e
      · have := h.oj.lt; omega
      · have := row_lt hrow e; omega
    obtain ⟨sec, hS1, hS2, hS3⟩ := hd1.bk.map
    refine ⟨v, M, .slice ad2 m2 cap2, rfl, ?_, fun g hg => ⟨hvb g hg, hM0 g (hvb g hg)⟩, hLM, ⟨hO3, hd1.lb, hd1.dur.tb t13 (Lx.refl _ _) (fun g hg => ns7 (T := TA 2) hg (by unfold TA; simp) (by unfold TA; simp)), hd1.std.tb t13 (Lx.refl _ _) (fun g hg => ns7 (T := TA 4) hg (by unfold TA; simp) (by unfold TA; simp)), ?_⟩, ?_⟩
    · have hlt : ((nms l).take n).length = n := by rw [List.length_take, ← hN]; omega
      rw [hlt]
      have h2 : w1.ownsRow 0 (87 : TypeId) 70 v n (((nms l).take n).flatMap Stp.cells) := by
        have h3 := ho1
        rw [Nat.zero_add, List.nil_append] at h3
        exact ⟨h3.1, h3.2.imp id (fun ⟨g, c, cur, e1, e2, e3⟩ => ⟨g, c, cur, e1, Nat.zero_le _, e3⟩)⟩
      exact row_tb h2 t13 hv7
    · refine ⟨?_, fun g hg => ?_, ⟨sec, ?_, fun f => by rw [scs_offN]; exact hS2 f, hS3⟩, hd1.bk.mlb, fun t ht => hd1.bk.ok t ((offN_sub n l).subset ht), hd1.bk.up.sublist (offN_sub n l), fun t ht => hd1.bk.no t ((offN_sub n l).subset ht), hd1.bk.last⟩
      · rw [nms_offN]
        exact row_tb hv2 t3 (fun g hg e => hRb g (by rw [← hb2]; exact hg) e)
      · exact hnsb g (by rw [← hb2]; exact hg)
      · exact hS1.tb t13 (Lx.refl _ _) (ns7 (T := fun x => x = (6, 0)) hd1.bk.mlb (by simp) (by simp)) (fun g f e => ns7 (T := fun x => x = (16, f)) e (by simp) (by simp))
    · have tA : Tl L TD w w1 := t1.mono (fun _ _ h => h.elim)
      refine Tb.trans tA t13 (fun g hg hh => ?_)
      rcases hh with e | e
      · rw [e, h.lb]; exact .inl rfl
      · rw [hrl g e]; exact .inr (.inr (.inr (.inr (.inl rfl)))))
  have d6 : w1.cell? ⟨R, 6, none⟩ = some (.slice ad N cap) := t1.cell c6 (fun h => h)
  have HC : Hid (∀ w2 : World, Tb (fun g => (Value.slice ad N cap).ownBlock = some g) w1 w2 → w2.cell? ⟨R, 6, none⟩ = some (.slice ad N cap) ∧ w2.frozen? ⟨R, 6, none⟩ = false) := hide (fun w2 t2 => by
    have hO2 : Oj w2 R o := hd1.oj.tb t2 (fun e => by
      have := hnsb R e
      rw [hd1.lb] at this
      simp at this)
    exact ⟨by rw [hO2.c 6, hns]; rfl, hO2.free 6⟩)
  have HD := hide hdel
  clear h hrow hrl hfirst hone hap hr1 ho1 hg1 hw1 hvb hrow1 hdel hLM hM0 hd1 hnsb hok t1 hns hN
  have hnI : (n : Int) ≤ (cap : Int) := by omega
  go_enter Tryz.func59, Tryz.ntmps59
  go_wp2_with (first
    | (at_builtin; refine wpList_append_run rfl (56 : TypeId) (.const (.slice none 0 0)) (.tmp 11) rfl (.slice none 0 0) (.slice ad n cap) v rfl (by simp [Act.eval]) (hr1' _) ?_)
    | (go_at_call 80; refine HD.out.mono ?_; rintro e w2 ⟨v2, rfl, e1, e2, e3⟩; obtain ⟨ad2, cap2, rfl⟩ := row_val e1; obtain ⟨g6, f6⟩ := HC.out w2 e3))
  go_ret
  exact FIN.out _ _ _ w2 (by rw [← List.length_drop]; exact e1) (by rw [← List.length_drop]; exact e2) e3

end Go.Proofs.YtkdolabhcbjipaaGreat

/-
  Sync of a disk.
-/
namespace Go.Proofs.YtkdolabhcbjipaaGreat
open Go.RowKit
set_option maxRecDepth 100000

/-- The steps of a file, and of names up to its making, are carried out on what is durable. -/
def Dsk.settled (d : Dsk) (f : Int) : Dsk :=
  { d with
    dur := (scs (offN (toMake f (nms d.l)) d.l) f).foldl Shp.does (((nms d.l).take (toMake f (nms d.l))).foldl Shp.does d.dur)
    l := offS (offN (toMake f (nms d.l)) d.l) f }

def Dsk.sync (d : Dsk) (s : ByteArray) : Int × Dsk :=
  if d.find s = 0 then (70, d) else if d.begin.1 ≠ 0 then d.begin else (0, d.begin.2.settled (d.find s))

theorem Says.bl {o : Ob} {d d' : Dsk} (h : Says o d) (ns : Value) (h1 : d'.last = d.last) (h2 : d'.made = d.made) (h3 : d'.down = d.down) (h4 : d'.armed = d.armed) (h5 : d'.failing = d.failing) (h6 : d'.failure = d.failure) : Says (o.bl o.last ns) d' :=
  ⟨by rw [h1]; exact h.last, by rw [h2]; exact h.made, by rw [h3]; exact h.down, by rw [h4]; exact h.armed, by rw [h5]; exact h.failing, by rw [h6]; exact h.failure⟩

set_option maxHeartbeats 2000000 in
theorem sync_no {w : World} {L : Lb} {R : Nat} {o : Ob} {d : Dsk} {s : ByteArray} (h : Di w L R o d.dur d.std d.l) (hs : s.size ≤ 9223372036854775807) (h0 : d.find s = 0) :
    Calls Tryz.prog 37 #[.pointer (some ⟨R, 0, none⟩), .string s] w fun e w' => e = .returned (.int .i64 70) ∧ w' = w := by
  have hf := find_any h hs
  rw [show (lk d.std.nm s.data.toList).getD 0 = 0 from h0] at hf
  clear h
  go_enter Tryz.func37, Tryz.ntmps37
  go_wp2_with (go_at_call 42; refine hf.mono ?_; rintro e w1 ⟨rfl, hw1⟩; subst w1)
  go_ret
  exact ⟨rfl, rfl⟩

set_option maxHeartbeats 2000000 in
theorem sync_go {w : World} {L : Lb} {R : Nat} {o : Ob} {d : Dsk} {K : Nat} {s : ByteArray} (h : Di w L R o d.dur d.std d.l) (hsy : Says o d) (hm : Sm d.std K) (hmd : Sm d.dur K) (hK : K < 8000000000000000000) (hlast : d.last < 900000000) (hs : s.size ≤ 9223372036854775807) (h0 : d.find s ≠ 0) :
    Calls Tryz.prog 37 #[.pointer (some ⟨R, 0, none⟩), .string s] w fun e w' => e = .returned (.int .i64 (d.sync s).1) ∧ ∃ L', Lx w L L' ∧ Dk w' L' R (d.sync s).2 ∧ Tl L TD w w' := by
  have hf := find_any h hs
  obtain ⟨F, hF⟩ : ∃ F, F = d.find s := ⟨_, rfl⟩
  have hf6 := hm.fileOf s.data.toList
  rw [show (lk d.std.nm s.data.toList).getD 0 = F from hF.symm] at hf hf6
  have hp : d.sync s = if d.begin.1 ≠ 0 then d.begin else (0, d.begin.2.settled F) := by unfold Dsk.sync; rw [if_neg h0, hF]
  rw [← hF] at h0
  rw [if_neg h0] at hf
  have hbg := begin_dk h hsy
  obtain ⟨p1, p2, p3, p4, p5⟩ := begin_parts d
  have hlb := h.lb
  have HBG := hide hbg
  have HP := hide hp
  have HMD := hide hmd
  have HI := hide hf6
  clear h hsy hm hmd hbg hp hF hf6
  go_enter Tryz.func37, Tryz.ntmps37
  go_wp2_with (go_at_call 42; refine hf.mono ?_; rintro e w1 ⟨rfl, hw1⟩; subst w1)
  refine HBG.out.mono ?_
  rintro e w1 ⟨rfl, o1, hd1, hs1, q1, q2, q3, q4, t1⟩
  have tl1 : Hid (Tl L TD w w1) := hide (Tl.own hlb t1)
  by_cases hb : d.begin.1 = 0
  · rw [hb]
    have hpe : Hid (d.sync s = (0, d.begin.2.settled F)) := hide (by rw [HP.out, if_neg (by rw [hb]; simp)])
    have ho1 : o1.last < 1000000000 := by rw [hs1.last, p4]; omega
    obtain ⟨T, hT⟩ : ∃ T, T = toMake F (nms d.l) := ⟨_, rfl⟩
    have hTle : T ≤ (nms d.l).length := by rw [hT]; exact toMake_le _ _
    have hTI := toMaking_any (f := F) hd1 ho1
    rw [← hT] at hTI
    have hd1d : Di w1.drew L R o1 d.dur d.std d.l := hd1.tb ((Tb.refl (fun _ => False) w1).drew) (Lx.refl _ _) (fun _ _ h => h)
    have hTId := toMaking_any (f := F) hd1d ho1
    rw [← hT] at hTId
    have hlen := hd1.bk.length
    have hnl : (nms d.l).length ≤ d.l.length := List.length_filter_le _ _
    have hll : (d.l.length : Int) < 900000000 := by rw [hs1.last, p4] at hlen; omega
    have HD := hide hd1d
    have HT := hide hTId
    have HTL := hide hTle
    have HHT := hide hT
    have HS1 := hide hs1
    have hok : Hid (∀ t ∈ d.l, t.Ok) := hide hd1.bk.ok
    have TE : Hid (Tl L TD w w1.drew) := hide (Tb.drew tl1.out)
    clear hd1 hd1d hTI hTId hs1 hT q1 q2 q3 q4 t1 HBG hf hlen
    go_wp2_with fail
    refine wp_region_held_drew (S := fun _ => True) (by kernel_rfl) trivial (fun _ => ?_)
    try simp only [List.size_toArray, List.length_cons, List.length_nil, Nat.reduceAdd]
    refine wpAnyH_take (i := 0) (v := (.pointer (some ⟨R, 0, none⟩))) rfl (by kernel_rfl) (by kernel_rfl) (by kernel_rfl) (fun _ _ _ h => h) (Or.inl ⟨by rfl, ?hy⟩) trivial ?_
    case hy => (intro V _; go_simp)
    refine wpAnyH_take (i := 1) (v := (.pointer (some ⟨R, 0, none⟩))) rfl (by kernel_rfl) (by kernel_rfl) (by kernel_rfl) (fun _ _ _ h => h) (Or.inl ⟨by rfl, ?hy⟩) trivial ?_
    case hy => (intro V _; go_simp)
    refine wpAnyH_take (i := 2) (v := (.pointer (some ⟨R, 0, none⟩))) rfl (by kernel_rfl) (by kernel_rfl) (by kernel_rfl) (fun _ _ _ h => h) (Or.inl ⟨by rfl, ?hy⟩) trivial ?_
    case hy => (intro V _; go_simp)
    refine wpAnyH_take (i := 3) (v := (.pointer (some ⟨R, 5, none⟩))) rfl (by kernel_rfl) (by kernel_rfl) (by kernel_rfl) (fun _ _ _ h => h) (Or.inl ⟨by rfl, ?hy⟩) trivial ?_
    case hy => (intro V _; go_simp)
    refine wpAnyH_take (i := 4) (v := (.pointer (some ⟨R, 0, none⟩))) rfl (by kernel_rfl) (by kernel_rfl) (by kernel_rfl) (fun _ _ _ h => h) (Or.inl ⟨by rfl, ?hy⟩) trivial ?_
    case hy => (intro V _; go_simp)
    refine wpAnyH_take (i := 5) (v := (.pointer (some ⟨R, 0, none⟩))) rfl (by kernel_rfl) (by kernel_rfl) (by kernel_rfl) (fun _ _ _ h => h) (Or.inl ⟨by rfl, ?hy⟩) trivial ?_
    case hy => (intro V _; go_simp)
    refine wpAnyH_take (i := 6) (v := (.pointer (some ⟨R, 5, none⟩))) rfl (by kernel_rfl) (by kernel_rfl) (by kernel_rfl) (fun _ _ _ h => h) (Or.inl ⟨by rfl, ?hy⟩) trivial ?_
    case hy => (intro V _; go_simp)
    refine wpAnyH_take (i := 7) (v := (.int .i64 F)) rfl (by kernel_rfl) (by kernel_rfl) (by kernel_rfl) (fun _ _ _ h => h) (Or.inl ⟨by rfl, ?hy⟩) trivial ?_
    case hy => (intro V _; go_simp)
    refine wpAnyH_ready (rs := [8]) (by kernel_rfl) (by simp) ?_
    refine AllReadyH.cons rfl (fun K hK => ?_) AllReadyH.nil
    refine step_call rfl 60 #[.pointer (some ⟨R, 5, none⟩), .int .i64 F] (by go_simp) ?_
    refine HT.out.mono ?_
    rintro e w2 ⟨rfl, t2⟩
    refine ⟨_, rfl, ?_⟩
    refine hK.out _ _ trivial (fun _ => ?_)
    clear hK K
    refine wpAnyH_ready (rs := [9]) (by kernel_rfl) (by simp) ?_
    refine AllReadyH.cons rfl (fun K hK => ?_) AllReadyH.nil
    refine step_call rfl 59 #[.pointer (some ⟨R, 5, none⟩), .int .i64 (T : Nat)] (by go_simp) ?_
    have hd2 := HD.out.tb t2 (Lx.refl _ _) (fun _ _ h => h)
    refine (takeNames_any hd2 HTL.out ho1).mono ?_
    rintro e w3 ⟨v3, L3, ns3, rfl, r3, b3, x3, d3, t3⟩
    refine ⟨_, rfl, ?_⟩
    refine hK.out _ _ trivial (fun _ => ?_)
    clear hK K
    refine wpAnyH_ready (rs := [10]) (by kernel_rfl) (by simp) ?_
    refine AllReadyH.cons rfl (fun K hK => ?_) AllReadyH.nil
    refine step_call rfl 58 #[.pointer (some ⟨R, 0, none⟩), v3] (by go_simp) ?_
    have hl3 : ((nms d.l).take T).length ≤ (nms d.l).length := by rw [List.length_take]; omega
    refine (settle_any d3 r3 (fun g hg => by rw [(b3 g hg).2]; unfold TA; simp) (fun t ht => hok.out t (List.mem_filter.1 (List.mem_of_mem_take ht)).1) HMD.out (by omega) (by omega)).mono ?_
    rintro e w4 ⟨rfl, L4, x4, d4, t4⟩
    refine ⟨_, rfl, ?_⟩
    refine hK.out _ _ trivial (fun _ => ?_)
    clear hK K
    refine wpAnyH_done (by kernel_rfl) ?_ _
    simp only [Act.put, List.getElem_toArray, List.getElem_cons_succ, List.getElem_cons_zero, List.setIfInBounds_toArray, List.set_cons_succ, List.set_cons_zero]
    have T3 : Hid (Lx w L L4 ∧ Tl L TD w w4) := hide (by
      have a2 : Tl L TD w w2 := Tb.trans (T := fun _ => False) TE.out t2 (fun _ _ h => h.elim)
      have a3 : Tl L TD w w3 := Tl.trans a2 t3 (Lx.refl _ _) (fun _ h => h)
      have y3 : Lx w L L3 := fun g hg => x3 g (Nat.lt_of_lt_of_le hg (Tb.size a2))
      exact ⟨y3.trans (w' := w3) x4 (Tb.size a3), Tl.trans a3 t4 y3 (fun _ h => .inr (.inl h))⟩)
    have HD4 := hide d4
    clear d3 d4 hd2 t2 t3 t4 x3 x4 r3 b3
    have HI4 := HI
    go_wp2_with (go_at_call 61; refine (takeSectors_any HD4.out HI4.out).mono ?_; rintro e w5 ⟨v5, rfl, r5, b5, d5, t5⟩)
    have hl5 : (scs (offN T d.l) F).length ≤ d.l.length := Nat.le_trans (List.length_filter_le _ _) (offN_sub T d.l).length_le
    have hmd5 : Sm (((nms d.l).take T).foldl Shp.does d.dur) (K + 1000000000) := (fold_sm HMD.out ((nms d.l).take T) (fun t ht => hok.out t (List.mem_filter.1 (List.mem_of_mem_take ht)).1)).mono (by omega)
    refine (settle_any d5 r5 (fun g hg => by rw [b5 g hg]; unfold TA; simp) (fun t ht => hok.out t ((offN_sub T d.l).subset (List.mem_filter.1 ht).1)) hmd5 (by omega) (by omega)).mono ?_
    rintro e w6 ⟨rfl, L6, x6, d6, t6⟩
    have FIN : Hid (∃ L', Lx w L L' ∧ Dk w6 L' R (d.begin.2.settled F) ∧ Tl L TD w w6) := hide (by
      obtain ⟨y4, a4⟩ := T3.out
      have a5 : Tl L TD w w5 := Tl.trans a4 t5 y4 (fun _ h => .inr (.inr (.inr h)))
      have y6 : Lx w L L6 := y4.trans (w' := w5) x6 (Tb.size a5)
      refine ⟨L6, y6, ⟨_, ?_, HS1.out.bl ns3 rfl rfl rfl rfl rfl rfl⟩, Tl.trans a5 t6 y4 (fun _ h => .inr (.inl h))⟩
      unfold Dsk.settled
      simp only
      rw [p1, p2, p3, ← HHT.out]
      exact d6)
    clear d5 d6 r5 b5 t5 t6 x6
    go_wp2_with fail
    go_ret
    rw [hpe.out]
    exact ⟨rfl, FIN.out⟩
  · have e9 : (d.begin.1 == 0) = false := by simpa using hb
    have hpe : Hid (d.sync s = d.begin) := hide (by rw [HP.out, if_pos hb])
    have HD1 : Hid (Dk w1 L R d.begin.2) := hide ⟨o1, by rw [p1, p2, p3]; exact hd1, hs1⟩
    obtain ⟨E, hE⟩ : ∃ E, E = d.begin.1 := ⟨_, rfl⟩
    rw [← hE] at hb e9
    rw [← hE]
    have hE2 := hide hE.symm
    clear hd1 hs1 HBG hf hE
    go_wp2_with fail
    go_ret
    rw [hpe.out]
    exact ⟨by rw [hE2.out]; rfl, L, Lx.refl _ _, HD1.out, tl1.out⟩

end Go.Proofs.YtkdolabhcbjipaaGreat

/-
  A range over a map of rows.
-/
namespace Go.Proofs.YtkdolabhcbjipaaGreat
open Go.RowKit
set_option maxRecDepth 100000

theorem ranges_heap {w w' : World} {kt : TypeId} {b r n : Nat} {D : DataW Value} {left : Lit → Bool} {cnt : Nat} (h : w.ranges Tryz.prog kt hold b r n D left cnt) (hb : w'.heap[b]? = w.heap[b]?) (hr : w'.heap[r]? = w.heap[r]?) : w'.ranges Tryz.prog kt hold b r n D left cnt := by
  obtain ⟨es, clock, since, seen, c0, h1, h2, h3, h4, h5, h6⟩ := h
  exact ⟨es, clock, since, seen, c0, hb.trans h1, h2, h3, h4, hr.trans h5, h6⟩

/-- A range over a map of rows under way: ps have come, qs are to come; r is the iterator's block. -/
structure Rg {α : Type} (c : α → List Value) (T : TypeId) (size : Nat) (L : Lb) (tag : Int) (b : Nat) (rw : List (Int × List α)) (r : Nat) (ps qs : List (Int × List α)) (w : World) : Prop where
  un : Un rw
  ix : ∀ p ∈ rw, I6 p.1
  perm : (ps ++ qs).Perm rw
  ex : ∃ D left cnt, w.ranges Tryz.prog 3 hold b r (Maps.size D) D left cnt ∧ (∀ f xs, lk rw f = some xs → ∃ v, (∀ z, D.atKey (.int .i64 f) z = .held v) ∧ w.ownsRow 0 T size v xs.length (xs.flatMap c) ∧ ∀ g, v.ownBlock = some g → L g = (tag, f)) ∧
    ∀ f, I6 f → (left (.int .i64 f) = true ↔ ∃ xs, (f, xs) ∈ qs)

section
variable {α : Type} {c : α → List Value} {T : TypeId} {size : Nat} {w w' : World} {L : Lb} {tag : Int} {b r : Nat} {rw ps qs : List (Int × List α)}

theorem Rg.lt (h : Rg c T size L tag b rw r ps qs w) : b < w.heap.size ∧ r < w.heap.size := by
  obtain ⟨D, left, cnt, h1, _⟩ := h.ex
  exact ⟨h1.owns.lt, h1.lt⟩

theorem Rg.tb {S : Nat → Prop} (h : Rg c T size L tag b rw r ps qs w) (hb : Tb S w w') (h1 : ¬ S b) (h2 : ¬ S r) (h3 : ∀ g f, L g = (tag, f) → ¬ S g) : Rg c T size L tag b rw r ps qs w' := by
  have hl := h.lt
  obtain ⟨D, left, cnt, e1, e2, e3⟩ := h.ex
  refine ⟨h.un, h.ix, h.perm, D, left, cnt, ranges_heap e1 (hb.block b hl.1 h1) (hb.block r hl.2 h2), fun f xs hx => ?_, e3⟩
  obtain ⟨v, q1, q2, q3⟩ := e2 f xs hx
  exact ⟨v, q1, row_tb q2 hb (fun g hg => h3 g f (q3 g hg)), q3⟩

/-- The range begins. -/
theorem Rw.range (h : Rw c T size w L tag b rw) {t e : TypeId} (ht : Tryz.prog.underlying t = some (.map 3 e)) :
    ∃ w', (Instr.range t (.map (some b))).run Tryz.prog w = .ok (.pointer (some ⟨w.heap.size, 0, none⟩)) w' ∧ Rg c T size L tag b rw w.heap.size [] rw w' ∧ Tb (fun _ => False) w w' ∧ w'.heap.size = w.heap.size + 1 := by
  obtain ⟨D, g1, g2, g3, g4⟩ := h.ex
  obtain ⟨w', hrun, r1, r2, r3⟩ := g1.own.range K3 ht
  have t1 : Tb (fun _ => False) w w' := Tb.of_grown r2 (fun k e => by cases e)
  have hat : ∀ f v, I6 f → gt D (.int .i64 f) = some v → ∀ z, D.atKey (.int .i64 f) z = .held v := fun f v hf hv => by
    rcases g1.at K3 (key3 hf) with ⟨_, q, _⟩ | ⟨u, q1, q2, _⟩
    · rw [q] at hv; cases hv
    · rw [q2] at hv; cases hv; exact q1
  refine ⟨w', hrun, ⟨h.un, h.ix, List.Perm.refl _, D, _, _, r1, fun f xs hx => ?_, fun f hf => ?_⟩, t1, r3⟩
  · obtain ⟨v, q1, q2, q3⟩ := g4 f xs hx
    exact ⟨v, hat f v (h.ix _ (lk_mem hx)) q1, row_tb q2 t1 (fun _ _ h => h), q3⟩
  · rw [has_gt g1 K3 (key3 hf)]
    constructor
    · intro hh
      cases hl : lk rw f with
      | none => rw [g3 f hf hl] at hh; cases hh
      | some xs => exact ⟨xs, lk_mem hl⟩
    · rintro ⟨xs, hm⟩
      obtain ⟨v, q1, _⟩ := g4 f xs (mem_lk h.un hm)
      rw [q1]
      rfl

theorem perm_mem {p : Int × List α} (h : (ps ++ qs).Perm rw) (hp : p ∈ qs) : p ∈ rw := h.mem_iff.1 (List.mem_append_right _ hp)

/-- The step of the range. -/
theorem wpList_next_rows {ops : Array Oper} {rest : List Oper} {o : Oper} {a : Act} {Q : Exit → Act → World → Prop} (h : Rg c T size L tag b rw r ps qs w) (hg : o.guard = none) (it : Operand) (hop : o.op = Op.next it false) (hit : a.eval it = .pointer (some ⟨r, 0, none⟩))
    (hDone : qs = [] → wpList Tryz.prog ops Q rest (a.put o.dst (.tuple #[.bool false])) w)
    (hMore : ∀ (f : Int) (xs : List α) (ad : Option Addr) (cap : Nat) (w' : World) (qs' : List (Int × List α)), I6 f → (f, xs) ∈ rw → w'.ownsRow 0 T size (.slice ad xs.length cap) xs.length (xs.flatMap c) → (∀ g, (Value.slice ad xs.length cap).ownBlock = some g → L g = (tag, f)) → Rg c T size L tag b rw r (ps ++ [(f, xs)]) qs' w' → w'.rangeLeft b r < w.rangeLeft b r →
      Tb (fun k => k = r) w w' → w'.heap.size = w.heap.size → (Instr.entry (.pointer (some ⟨r, 0, none⟩))).run Tryz.prog w' = .ok (.tuple #[.int .i64 f, .slice ad xs.length cap]) w' → wpList Tryz.prog ops Q rest (a.put o.dst (.tuple #[.bool true, .int .i64 f, .slice ad xs.length cap])) w')
    (hrl : ∀ g f, L g = (tag, f) → g ≠ r) : wpList Tryz.prog ops Q (o :: rest) a w := by
  obtain ⟨D, left, cnt, e1, e2, e3⟩ := h.ex
  refine wpList_plain hg fun K' hK' => ?_
  unfold Oper.wp
  rcases e1.next K3 o.type with ⟨h0, hl, hrun⟩ | ⟨key, v, kl, y, w', cnt', hkey, hlk, hv, hat, hrun, hrg, hlt, hgr, hsz, hen⟩
  · simp [execOp, hop, hit, hrun, Result.andThen]
    refine hK' _ _ (hDone ?_)
    cases qs with
    | nil => rfl
    | cons p qs =>
      have hp := perm_mem (p := p) h.perm (by simp)
      have := (e3 p.1 (h.ix _ hp)).2 ⟨p.2, by simp⟩
      rw [hl] at this
      cases this
  · obtain ⟨f, rfl, rfl, hw⟩ := Maps.keyOf_int_inv Tryz.underlying3 hkey
    have hf : I6 f := by
      simp [Lit.wf, IntKind.min, IntKind.max, IntKind.signed, IntKind.bits] at hw
      exact ⟨by omega, by omega⟩
    obtain ⟨xs, hxs⟩ := (e3 f hf).1 hlk
    have hin := perm_mem h.perm hxs
    obtain ⟨u, u1, u2, u3⟩ := e2 f xs (mem_lk h.un hin)
    have hvu : v = u := by
      have h1 : hold v = some (.held v, []) := rfl
      rw [h1] at hv
      cases hv
      have := hat (.nil)
      rw [u1] at this
      cases this
      rfl
    subst hvu
    obtain ⟨ad, cap, rfl⟩ := row_val u2
    have tw : Tb (fun k => k = r) w w' := Tb.of_grown hgr (fun k e => by simpa using e.symm)
    have hperm : (ps ++ [(f, xs)] ++ qs.filter (fun p => !decide (p.1 = f))).Perm rw := by
      have hq : qs.Perm ((f, xs) :: qs.filter fun p => !decide (p.1 = f)) := by
        have hun : Un (ps ++ qs) := (h.perm.pairwise_iff (fun {_ _} hne => Ne.symm hne)).2 h.un
        have hunq : Un qs := (List.pairwise_append.1 hun).2.1
        clear e3 h hMore hDone hin
        induction qs with
        | nil => cases hxs
        | cons p qs ih =>
          obtain ⟨q1, q2⟩ := List.pairwise_cons.1 hunq
          rcases List.mem_cons.1 hxs with e | e
          · subst e
            rw [List.filter_cons]
            simp only [decide_true, Bool.not_true, Bool.false_eq_true, if_false]
            rw [List.filter_eq_self.2 (fun p hp => by
              have := q1 p hp
              simp only at this
              simp [Ne.symm this])]
          · have hne : p.1 ≠ f := q1 _ e
            rw [List.filter_cons]
            simp only [hne, decide_false, Bool.not_false, if_true]
            exact ((ih e (by
              have : Un (ps ++ p :: qs) := hun
              exact (List.pairwise_append.2 ⟨(List.pairwise_append.1 this).1, q2, fun a ha b hb => (List.pairwise_append.1 this).2.2 a ha b (by simp [hb])⟩)) q2).cons p).trans (List.Perm.swap _ _ _)
      refine List.Perm.trans ?_ h.perm
      rw [List.append_assoc]
      exact List.Perm.append_left ps hq.symm
    simp [execOp, hop, hit, hrun, Result.andThen]
    refine hK' _ _ (hMore f xs ad cap w' _ hf hin (row_tb u2 tw (fun g hg => hrl g f (u3 g hg))) u3 ⟨h.un, h.ix, hperm, D, _, cnt', hrg, fun f' xs' hx' => ?_, fun f' hf' => ?_⟩ ?_ tw hsz hen)
    · obtain ⟨v', q1, q2, q3⟩ := e2 f' xs' hx'
      exact ⟨v', q1, row_tb q2 tw (fun g hg => hrl g f' (q3 g hg)), q3⟩
    · have hsk : (Lit.int .i64 f').sameKey (.int .i64 f) = decide (f' = f) := by
        by_cases e : f' = f
        · subst e
          rw [WideAt.sameKey_self (K3.key (key3 hf))]
          simp
        · rw [Maps.sameKey_ne (by simpa using e)]
          simp [e]
      simp only [hsk, Bool.and_eq_true, Bool.not_eq_true', decide_eq_false_iff_not, List.mem_filter]
      constructor
      · rintro ⟨a1, a2⟩
        obtain ⟨xs', hx'⟩ := (e3 f' hf').1 a1
        exact ⟨xs', hx', a2⟩
      · rintro ⟨xs', a1, a2⟩
        exact ⟨(e3 f' hf').2 ⟨xs', a1⟩, a2⟩
    · rw [hrg.left_eq, e1.left_eq]
      exact hlt
end

end Go.Proofs.YtkdolabhcbjipaaGreat

/-
  How many steps are unsynced.
-/
namespace Go.Proofs.YtkdolabhcbjipaaGreat
open Go.RowKit
set_option maxRecDepth 100000
set_option maxRecDepth 100000

theorem flat_perm (sec : List (Int × List Stp)) : ∀ (m : List Stp), Un sec → (∀ p ∈ sec, p.2 = m.filter fun t => decide (t.file = p.1)) → (∀ x ∈ m, ∃ p ∈ sec, p.1 = x.file) → (sec.flatMap (·.2)).Perm m := by
  induction sec with
  | nil =>
    intro m _ _ h
    cases m with
    | nil => exact List.Perm.refl _
    | cons x m =>
      obtain ⟨p, hp, _⟩ := h x (by simp)
      cases hp
  | cons p sec ih =>
    intro m hu h1 h2
    obtain ⟨u1, u2⟩ := List.pairwise_cons.1 hu
    rw [List.flatMap_cons, h1 p (by simp)]
    refine List.Perm.trans (List.Perm.append_left _ (ih (m.filter fun t => !decide (t.file = p.1)) u2 (fun q hq => ?_) (fun x hx => ?_))) (List.filter_append_perm _ m)
    · rw [h1 q (by simp [hq]), List.filter_filter]
      congr 1
      funext t
      by_cases e : t.file = q.1
      · have : q.1 ≠ p.1 := fun e2 => u1 q hq e2.symm
        simp [e, this]
      · simp [e]
    · obtain ⟨hx1, hx2⟩ := List.mem_filter.1 hx
      obtain ⟨q, hq, hqe⟩ := h2 x hx1
      rcases List.mem_cons.1 hq with e | e
      · subst e
        simp [hqe] at hx2
      · exact ⟨q, e, hqe⟩

theorem sec_perm {sec : List (Int × List Stp)} {l : List Stp} (hu : Un sec) (h : ∀ f, (lk sec f).getD [] = scs l f) : (sec.flatMap (·.2)).Perm (l.filter Stp.sec) := by
  refine flat_perm sec _ hu (fun p hp => ?_) (fun x hx => ?_)
  · have := h p.1
    rw [mem_lk hu hp] at this
    simp only [Option.getD_some] at this
    rw [this]
    unfold scs
    rw [List.filter_filter]
    congr 1
    funext t
    exact Bool.and_comm _ _
  · obtain ⟨hx1, hx2⟩ := List.mem_filter.1 hx
    have := h x.file
    cases e : lk sec x.file with
    | none =>
      rw [e] at this
      simp only [Option.getD_none] at this
      have hm : x ∈ scs l x.file := List.mem_filter.2 ⟨hx1, by simp [hx2]⟩
      rw [← this] at hm
      cases hm
    | some xs => exact ⟨_, lk_mem e, rfl⟩

theorem both_length (l : List Stp) : (nms l).length + (l.filter Stp.sec).length = l.length := by
  unfold nms
  induction l with
  | nil => rfl
  | cons t l ih => cases hs : t.sec <;> simp [hs] <;> omega

theorem flat_length (sec : List (Int × List Stp)) : (sec.flatMap (·.2)).length = (sec.map fun p => p.2.length).sum := by
  induction sec with
  | nil => rfl
  | cons p sec ih => simp [List.flatMap_cons, ih]

end Go.Proofs.YtkdolabhcbjipaaGreat

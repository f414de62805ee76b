/-
  Steps that are taken off are carried out on what is durable.
-/
import Derived.Test.YtkdolabhcbjipaaGreatQk4631174f
namespace Go.Proofs.YtkdolabhcbjipaaGreat
open Go.RowKit
set_option maxRecDepth 100000

/-- The cells of one element of a row. -/
theorem own_range {w : World} {g n cap : Nat} {ts : List Stp} (h : w.ownsRow 0 (87 : TypeId) 70 (.slice (some ⟨g, 0, none⟩) n cap) n (ts.flatMap Stp.cells)) (hn : ts.length = n) (hok : ∀ t ∈ ts, t.Ok) {k : Nat} (hk : k < ts.length) : w.rangeAt g (k * 70) ts[k].cells := fun j v hv => by
  have hj : j < ts[k].cells.length := (List.getElem?_eq_some_iff.1 hv).1
  have hl := (hok ts[k] (List.getElem_mem _)).len
  have hc := h.cells (g := g) rfl (k * 70 + j) v (by
    have e1 : ts.flatMap Stp.cells = (ts.take k).flatMap Stp.cells ++ ((ts.drop k).flatMap Stp.cells) := by rw [← List.flatMap_append, List.take_append_drop]
    have e2 : ((ts.take k).flatMap Stp.cells).length = k * 70 := by
      rw [flatMap_take Stp.cells 70 k ts (fun t ht => (hok t ht).len), List.length_take, h.1, ← hn]
      omega
    rw [e1, List.getElem?_append_right (by omega), e2, Nat.add_sub_cancel_left, List.drop_eq_getElem_cons hk, List.flatMap_cons, List.getElem?_append_left hj]
    exact hv)
  rwa [Addr.add_mid, Nat.zero_add] at hc

/-- So far the first k steps are carried out. -/
def Sx (w : World) (L : Lb) (R : Nat) (o : Ob) (dur std : Shp) (l ts : List Stp) (k : Nat) (wr : World) : Prop := ∃ L', Lx w L L' ∧ Di wr L' R o ((ts.take k).foldl Shp.does dur) std l ∧ Tl L (TA 2) w wr

theorem fold_sm {dur : Shp} {K : Nat} (h : Sm dur K) : ∀ (ts : List Stp), (∀ t ∈ ts, t.Ok) → Sm (ts.foldl Shp.does dur) (K + ts.length) := by
  intro ts
  induction ts generalizing dur K with
  | nil => intro _; exact h
  | cons t ts ih =>
    intro hok
    have := ih (h.does (hok t (by simp))) (fun x hx => hok x (by simp [hx]))
    rw [List.foldl_cons, List.length_cons]
    exact this.mono (by omega)

/-- One more is carried out: B is where it lies by itself. -/
theorem Sx.more {w : World} {L : Lb} {R : Nat} {o : Ob} {dur std : Shp} {l ts : List Stp} {k K : Nat} {wr X : World} {cs : Array Value} (h : Sx w L R o dur std l ts k wr) (hk : k < ts.length) (hok : ∀ t ∈ ts, t.Ok) (hm : Sm dur K) (hK : K + ts.length < 9000000000000000000) (hcs : cs = ts[k].cells.toArray)
    (hX : Tb (fun _ => False) wr X) (hB : X.heap[wr.heap.size]? = some (.cells cs (87 : TypeId) (0, 0))) :
    Calls Tryz.prog 40 #[.agg #[.map (some o.dn), .map (some o.dr)], .agg cs] X fun e w' => e = .returned (.tuple #[]) ∧ Sx w L R o dur std l ts (k + 1) w' ∧ w'.heap[wr.heap.size]? = some (.cells cs (87 : TypeId) (0, 0)) ∧ w'.cell? ⟨R, 1, none⟩ = some (.map (some o.dn)) ∧ w'.cell? ⟨R, 2, none⟩ = some (.map (some o.dr)) := by
  obtain ⟨L1, x1, d1, t1⟩ := h
  obtain ⟨M, hM⟩ : ∃ M, M = onlyL wr L1 := ⟨_, rfl⟩
  have hLM : Lx wr L1 M := by rw [hM]; exact onlyL_lx wr L1
  have hMB : M wr.heap.size = (0, 0) := by rw [hM, onlyL_new (Nat.le_refl _)]
  have dX := d1.tb hX hLM (fun _ _ h => h)
  have hmk : Sm ((ts.take k).foldl Shp.does dur) (K + ts.length) := (fold_sm hm (ts.take k) (fun t ht => hok t (List.mem_of_mem_take ht))).mono (by rw [List.length_take]; omega)
  rw [hcs]
  refine (carry_any dX.dur (by decide) hmk hK (hok ts[k] (List.getElem_mem _))).mono ?_
  rintro e w1 ⟨rfl, L', hlx, hS, hT⟩
  have hd : Di w1 L' R o (((ts.take k).foldl Shp.does dur).does ts[k]) std l := ⟨dX.oj.tb hT dX.nR.2.1, by rw [hlx R dX.oj.lt]; exact dX.lb, hS, dX.std.tb hT hlx (fun g hg h2 => TA_A h2 hg), dX.bk.tb hT hlx (fun g hg h2 => TA_B h2 (.inl rfl) hg)⟩
  have e1 : (ts.take (k + 1)).foldl Shp.does dur = ((ts.take k).foldl Shp.does dur).does ts[k] := by rw [List.take_succ_eq_append_getElem hk, List.foldl_append]; rfl
  have hwx : Lx w L M := x1.trans (w' := wr) hLM (Tb.size t1)
  have hs1 : wr.heap.size ≤ X.heap.size := hX.size
  have hs2 : w.heap.size ≤ X.heap.size := Nat.le_trans (Tb.size t1) hs1
  refine ⟨rfl, ⟨L', hwx.trans (w' := X) hlx hs2, by rw [e1]; exact hd, ?_⟩, ?_, hd.oj.c 1, hd.oj.c 2⟩
  · have tX : Tl L (TA 2) w X := Tb.trans (T := fun _ => False) t1 hX (fun _ _ h => h.elim)
    exact Tl.trans tX hT hwx (fun _ h => h)
  · rw [hT.block _ (Array.getElem?_eq_some_iff.1 hB).1 (by rw [hMB]; unfold TA; simp), ← hcs]
    exact hB

set_option maxHeartbeats 2000000 in
theorem settle_any {w : World} {L : Lb} {R : Nat} {o : Ob} {dur std : Shp} {l ts : List Stp} {K : Nat} {x : Value} (h : Di w L R o dur std l) (hx : w.ownsRow 0 (87 : TypeId) 70 x ts.length (ts.flatMap Stp.cells)) (hxl : ∀ g, x.ownBlock = some g → ¬ TA 2 (L g)) (hok : ∀ t ∈ ts, t.Ok) (hm : Sm dur K) (hK : K + ts.length < 9000000000000000000) (hlen : ts.length < 1000000000000) :
    Calls Tryz.prog 58 #[.pointer (some ⟨R, 0, none⟩), x] w fun e w' => e = .returned (.tuple #[]) ∧ ∃ L', Lx w L L' ∧ Di w' L' R o (ts.foldl Shp.does dur) std l ∧ Tl L (TA 2) w w' := by
  obtain ⟨N, hN⟩ : ∃ N, Hid (N = ts.length) := ⟨_, hide rfl⟩
  rw [← hN.out] at hx hlen
  obtain ⟨ad, cap, rfl⟩ := row_val hx
  have hcap : N ≤ cap ∧ cap ≤ 9223372036854775807 := by
    rcases hx.2 with ⟨h1, h2⟩ | ⟨g, c, cur, h1, _, _, hn, hc, _⟩
    · simp only [Value.slice.injEq] at h1; omega
    · simp only [Value.slice.injEq] at h1; unfold maxLen at hc; omega
  obtain ⟨hcap1, hcap2⟩ := hcap
  obtain ⟨i, z, hi, hz, q1, q2, q3⟩ := info81
  have h0 : Hid (Sx w L R o dur std l ts 0 w) := hide ⟨L, Lx.refl _ _, by simpa using h, Tb.refl _ _⟩
  have HX := hide hx
  have HL := hide hxl
  have HK : Hid (∀ t ∈ ts, t.Ok) := hide hok
  have HM := hide hm
  have HKK := hide hK
  clear h hx hxl hok hm hK
  go_enter Tryz.func58, Tryz.ntmps58
  go_wp2_with fail
  go_loopw [8] (fun iv wr => ∃ k : Nat, k ≤ N ∧ iv = .int .i64 k ∧ Hid (Sx w L R o dur std l ts k wr)) (fun iv _ => N - (intOf iv).toNat)
  case atStart => exact ⟨0, Nat.zero_le _, rfl, h0⟩
  case round =>
    obtain ⟨k, hk, rfl, hs⟩ := hrel
    by_cases hlt : k < N
    · obtain ⟨g, hg⟩ : ∃ g, ad = some ⟨g, 0, none⟩ := by
        rcases HX.out.2 with ⟨h1, h2⟩ | ⟨g, c, cur, h1, _⟩
        · omega
        · simp only [Value.slice.injEq] at h1
          exact ⟨g, h1.1⟩
      subst hg
      have hkr : k < ts.length := by rw [← hN.out]; exact hlt
      obtain ⟨cs, hcs⟩ : ∃ cs, Hid (cs = ts[k].cells.toArray) := ⟨_, hide rfl⟩
      have hkok := HK.out ts[k] (List.getElem_mem _)
      have hsz : cs.size = 70 := by rw [hcs.out, List.size_toArray]; exact hkok.len
      have hone : cs.all (·.oneCell') = true := by rw [hcs.out]; exact all_oneCell_toArray (Stp.one _)
      have hrg : Hid (wr.rangeAt g (k * 70) ts[k].cells) := hide (by
        obtain ⟨L1, x1, d1, t1⟩ := hs.out
        have hxr := row_tb HX.out t1 (fun g' hg' => HL.out g' hg')
        exact own_range hxr hN.out.symm HK.out hkr)
      have hs81 : (Tryz.prog.info? (87 : TypeId)).map (·.size) = some ts[k].cells.length := by rw [hi]; simp [q1, hkok.len]
      go_wp2_with (first
        | (refine wpList_load_mid rfl (87 : TypeId) (.tmp 10) rfl g (k * 70) (by simp [Act.eval]) ts[k].cells _ hrg.out Tryz.underlying87 rfl hs81 ?_; rw [← hcs.out])
        | (refine wpList_store_rowTo rfl (87 : TypeId) (.tmp 5) (.tmp 11) rfl rfl wr.heap.size cs (by simp [Act.eval]) (by simp [Act.eval]) (87 : TypeId) Tryz.zeroCells87 (heap_alloc_new wr _) (by rw [hi]; simp [q1, hsz]) (by rw [hsz]; kernel_rfl) hone ?_))
      obtain ⟨X, hX⟩ : ∃ X, Hid (X = (wr.alloc (.cells Tryz.zeroCells87 (87 : TypeId))).setRow wr.heap.size cs) := ⟨_, hide rfl⟩
      rw [← hX.out]
      have hXB : X.heap[wr.heap.size]? = some (.cells cs (87 : TypeId) (0, 0)) := by rw [hX.out]; exact setRow_heap _ _ _ _ (87 : TypeId) (0, 0) (heap_alloc_new wr _)
      have tX : Tb (fun _ => False) wr X := by
        rw [hX.out]
        exact Tb.trans ((Tb.refl _ _).alloc _) (T := fun k => k = wr.heap.size) ⟨rfl, rfl, rfl, by simp, fun k _ hne => setRow_other _ _ _ _ hne⟩ (fun k hk e => by omega)
      have hcl : X.cell? ⟨R, 1, none⟩ = some (.map (some o.dn)) ∧ X.cell? ⟨R, 2, none⟩ = some (.map (some o.dr)) := by
        obtain ⟨L1, x1, d1, t1⟩ := hs.out
        have hO := d1.oj.tb tX (fun h => h)
        exact ⟨hO.c 1, hO.c 2⟩
      obtain ⟨c1, c2⟩ := hcl
      have CC := hide (Sx.more (X := X.drew) (cs := cs) hs.out hkr HK.out HM.out HKK.out hcs.out tX.drew hXB)
      clear hrg hs81 hs tX
      refine wp_region_held_drew (S := fun V => V.heap[wr.heap.size]? = some (.cells cs (87 : TypeId) (0, 0)) ∧ V.cell? ⟨R, 1, none⟩ = some (.map (some o.dn)) ∧ V.cell? ⟨R, 2, none⟩ = some (.map (some o.dr))) (by kernel_rfl) ⟨hXB, c1, c2⟩ (fun hHeld => ?_)
      try simp only [List.size_toArray, List.length_cons, List.length_nil, Nat.reduceAdd]
      refine wpAnyH_take (i := 4) (v := (.agg cs)) rfl (by kernel_rfl) (by kernel_rfl) (by kernel_rfl) (fun _ _ _ h => h) (Or.inl ⟨by rfl, ?hy⟩) hHeld ?_
      case hy => (intro V hV; obtain ⟨hV1, hV2, hV3⟩ := hV; exact exec_load (.pointer (some ⟨wr.heap.size, 0, none⟩)) rfl (by simp [Act.eval]) (run_loadStep hV1 hsz))
      refine wpAnyH_take (i := 0) (v := (.pointer (some ⟨R, 0, none⟩))) rfl (by kernel_rfl) (by kernel_rfl) (by kernel_rfl) (fun _ _ _ h => h) (Or.inl ⟨by rfl, ?hy⟩) hHeld ?_
      case hy => (intro V hV; obtain ⟨hV1, hV2, hV3⟩ := hV; go_simp)
      refine wpAnyH_take (i := 1) (v := (.pointer (some ⟨R, 0, none⟩))) rfl (by kernel_rfl) (by kernel_rfl) (by kernel_rfl) (fun _ _ _ h => h) (Or.inl ⟨by rfl, ?hy⟩) hHeld ?_
      case hy => (intro V hV; obtain ⟨hV1, hV2, hV3⟩ := hV; go_simp)
      refine wpAnyH_take (i := 2) (v := (.pointer (some ⟨R, 1, none⟩))) rfl (by kernel_rfl) (by kernel_rfl) (by kernel_rfl) (fun _ _ _ h => h) (Or.inl ⟨by rfl, ?hy⟩) hHeld ?_
      case hy => (intro V hV; obtain ⟨hV1, hV2, hV3⟩ := hV; go_simp)
      refine wpAnyH_take (i := 3) (v := (.agg #[.map (some o.dn), .map (some o.dr)])) rfl (by kernel_rfl) (by kernel_rfl) (by kernel_rfl) (fun _ _ _ h => h) (Or.inl ⟨by rfl, ?hy⟩) hHeld ?_
      case hy => (intro V hV; obtain ⟨hV1, hV2, hV3⟩ := hV; go_simp)
      refine wpAnyH_ready (rs := [5]) (by kernel_rfl) (by simp) ?_
      refine AllReadyH.cons rfl (fun K hK => ?_) AllReadyH.nil
      refine step_call rfl 40 #[.agg #[.map (some o.dn), .map (some o.dr)], .agg cs] (by go_simp) ?_
      refine CC.out.mono ?_
      rintro e w2 ⟨rfl, hs2, k1, k2, k3⟩
      refine ⟨_, rfl, ?_⟩
      refine hK.out _ _ ⟨k1, k2, k3⟩ (fun hHeld => ?_)
      clear hK K
      refine wpAnyH_done (by kernel_rfl) ?_ _
      simp only [Act.put, List.getElem_toArray, List.getElem_cons_succ, List.getElem_cons_zero, List.setIfInBounds_toArray, List.set_cons_succ, List.set_cons_zero]
      have HS2 := hide hs2
      clear hs2 CC hHeld
      go_wp2_with fail
      go_roundw
      case rel => exact ⟨k + 1, by omega, by simp, HS2⟩
      case measure => simp [intOf]; omega
    · obtain rfl : k = N := by omega
      have hfin := hs.out
      unfold Sx at hfin
      rw [show ts.take k = ts from List.take_of_length_le (by rw [← hN.out]; exact Nat.le_refl _)] at hfin
      have HF := hide hfin
      clear hfin hs
      go_wp2_with fail
      go_end0
      exact ⟨rfl, HF.out⟩

end Go.Proofs.YtkdolabhcbjipaaGreat

/-
  A shape copied.
-/
import Derived.Test.YtgbboaedhpaocaaGreatDio
namespace Go.Proofs.YtgbboaedhpaocaaGreat
open Go.RowKit
set_option maxRecDepth 100000
set_option maxRecDepth 100000

theorem info79' : ∃ i z, Tryz.prog.info? (113 : TypeId) = some i ∧ i.zero = some z ∧ i.size = 64 ∧ i.bytes = 64 ∧ z.cells.size = 64 := by
  obtain ⟨i, hi, hz⟩ := Option.map_eq_some_iff.1 info79
  simp only [Prod.mk.injEq] at hz
  exact ⟨i, _, hi, hz.1, hz.2.1, hz.2.2, by rfl⟩

theorem dl_none {κ ν : Type} [DecidableEq κ] {l : List (κ × ν)} {k : κ} (h : ∀ p ∈ l, p.1 ≠ k) : dl l k = l := by
  unfold dl
  rw [List.filter_eq_self]
  intro p hp
  simp [h p hp]

theorem Un.perm {κ ν : Type} {l m : List (κ × ν)} (h : Un l) (p : m.Perm l) : Un m := (p.pairwise_iff (fun h e => h e.symm)).2 h

theorem lk_perm {κ ν : Type} [DecidableEq κ] {l m : List (κ × ν)} (hu : Un l) (p : m.Perm l) (k : κ) : lk m k = lk l k := by
  cases e : lk l k with
  | some v => exact mem_lk (hu.perm p) (p.mem_iff.2 (lk_mem e))
  | none =>
    rw [lk_none_iff] at e ⊢
    exact fun q hq => e q (p.mem_iff.1 hq)

theorem Rw.perm {α : Type} {c : α → List Value} {T : TypeId} {size : Nat} {w : World} {L : Lb} {tag : Int} {b : Nat} {ra rb : List (Int × List α)} (h : Rw c T size w L tag b ra) (p : ra.Perm rb) : Rw c T size w L tag b rb := by
  obtain ⟨D, g1, g2, g3, g4⟩ := h.ex
  exact ⟨h.un.perm p.symm, fun q hq => h.ix q (p.mem_iff.2 hq), D, g1, by rw [g2, p.length_eq], fun f hf e => g3 f hf (by rw [lk_perm (h.un.perm p.symm) p]; exact e), fun f xs e => g4 f xs (by rw [lk_perm (h.un.perm p.symm) p]; exact e)⟩

theorem rows_one (ts : List (List Int)) : ∀ u ∈ ts.flatMap U, u.oneCell' = true := fun u hu => by
  obtain ⟨t, _, h⟩ := List.mem_flatMap.1 hu
  exact U_one _ u h

theorem Nm.cloned {w : World} {b : Nat} {nm : List (List UInt8 × Int)} (h : Nm w b nm) : Calls Tryz.prog 105 #[.map (some b)] w fun e w' => e = .returned (.map (some w.heap.size)) ∧ Nm w' w.heap.size nm ∧ w'.heap.size = w.heap.size + 1 ∧ Tb (fun _ => False) w w' := by
  obtain ⟨D, g1, g2, g3⟩ := h.ex
  obtain ⟨es, clock, hb, F, hs, hD⟩ := g1.own
  refine (AnyW.maps_Clone laysMapClone b es clock w hb).mono ?_
  rintro e w' ⟨rfl, rfl⟩
  exact ⟨rfl, ⟨h.un, D, ⟨es, clock, heap_alloc_new w _, F, hs, hD⟩, g2, g3⟩, by simp, (Tb.refl _ _).alloc _⟩

/-- What the loop has copied. -/
structure Cpd (w : World) (L : Lb) (a : Int) (nb rb B2 B3 r : Nat) (s : Shp) (ps : List (Int × List (List Int))) (wr : World) : Prop where
  b2 : wr.heap[B2]? = some (.cells #[.map none, .map none] (86 : TypeId) (0, 0))
  b3 : wr.heap[B3]? = some (.cells #[.map (some nb), .map (some rb)] (86 : TypeId) (0, 0))
  ex : ∃ L', Lx w L L' ∧ Sh wr L' a nb rb ⟨s.nm, ps⟩ ∧ ∀ f, L' r ≠ (a + 10, f) ∧ L' B2 ≠ (a + 10, f)
  tb : Tb (fun _ => False) w wr

set_option maxHeartbeats 2000000 in
theorem copied_any {w : World} {L : Lb} {tag : Int} {nb rb : Nat} {s : Shp} {K : Nat} (a : Int) (hnm : Nm w nb s.nm) (hrw : Rw U (113 : TypeId) 64 w L tag rb s.rw) (hK : Sm s K) (hK2 : K < 9000000000000000000) (htag : tag ≠ 0) (ha : 0 ≤ a) :
    Calls Tryz.prog 57 #[.agg #[.map (some nb), .map (some rb)]] w fun e w' => ∃ nb' rb' L', e = .returned (.agg #[.map (some nb'), .map (some rb')]) ∧ w.heap.size ≤ nb' ∧ w.heap.size ≤ rb' ∧ Lx w L L' ∧ Sh w' L' a nb' rb' s ∧ Tb (fun _ => False) w w' := by
  have m2 := mk44
  obtain ⟨wa, hwa⟩ : ∃ wa, Hid (wa = (w.alloc (.cells #[.map (some nb), .map (some rb)] (86 : TypeId))).alloc (.cells #[.map none, .map none] (86 : TypeId))) := ⟨_, hide rfl⟩
  have ta : Tb (fun _ => False) w wa := by rw [hwa.out]; exact ((Tb.refl _ _).alloc _).alloc _
  have hcl := (hnm.tb ta (fun h => h)).cloned
  have HT := hide ta
  clear hnm ta
  go_enter Tryz.func57, Tryz.ntmps57
  go_wp2_with fail
  rw [← hwa.out]
  refine hcl.mono ?_
  rintro e w1 ⟨rfl, n1, z1, t1⟩
  obtain ⟨w2, hw2⟩ : ∃ w2, Hid (w2 = (w1.alloc (.map #[] 0)).alloc (.cells #[.map (some wa.heap.size), .map (some (wa.heap.size + 1))] (86 : TypeId))) := ⟨_, hide rfl⟩
  have t2 : Tb (fun _ => False) w1 w2 := by rw [hw2.out]; exact ((Tb.refl _ _).alloc _).alloc _
  have zb : wa.heap.size = w.heap.size + 2 := by rw [hwa.out]; simp
  have z2 : w2.heap.size = wa.heap.size + 3 := by rw [hw2.out]; simp [z1]
  have t02 : Tb (fun _ => False) w w2 := (HT.out.trans t1 (fun _ _ h => h)).trans t2 (fun _ _ h => h)
  have ta2 : Tb (fun _ => False) wa w2 := t1.trans t2 (fun _ _ h => h)
  have hb1 : w2.heap[w.heap.size]? = some (.cells #[.map (some nb), .map (some rb)] (86 : TypeId) (0, 0)) := by
    rw [ta2.block _ (by omega) (fun h => h), hwa.out, ((Tb.refl (fun _ => False) (w.alloc (.cells #[.map (some nb), .map (some rb)] (86 : TypeId)))).alloc _).block _ (by simp) (fun h => h)]
    exact heap_alloc_new w _
  have c1 : w2.cell? ⟨w.heap.size, 1, none⟩ = some (.map (some rb)) := by
    simp only [World.cell?, hb1]
    rfl
  have hb2 : w2.heap[w.heap.size + 1]? = some (.cells #[.map none, .map none] (86 : TypeId) (0, 0)) := by
    rw [ta2.block _ (by omega) (fun h => h), hwa.out]
    have := heap_alloc_new (w.alloc (.cells #[.map (some nb), .map (some rb)] (86 : TypeId))) (.cells #[.map none, .map none] (86 : TypeId))
    simpa only [World.size_alloc] using this
  have hb3 : w2.heap[wa.heap.size + 1 + 1]? = some (.cells #[.map (some wa.heap.size), .map (some (wa.heap.size + 1))] (86 : TypeId) (0, 0)) := by
    rw [hw2.out]
    have := heap_alloc_new (w1.alloc (.map #[] 0)) (.cells #[.map (some wa.heap.size), .map (some (wa.heap.size + 1))] (86 : TypeId))
    simpa only [World.size_alloc, z1] using this
  have hn2 : Nm w2 wa.heap.size s.nm := n1.tb t2 (fun h => h)
  have hr2 : ∀ L' tag', Rw U (113 : TypeId) 64 w2 L' tag' (wa.heap.size + 1) [] := fun L' tag' => by
    have := (Rw.made U (113 : TypeId) 64 w1 L' tag').tb (S := fun _ => False) (w' := w2) (L' := L') (by rw [hw2.out]; exact (Tb.refl _ _).alloc _) (Lx.refl _ _) (fun h => h) (fun _ _ _ h => h)
    rwa [z1] at this
  obtain ⟨M, hM⟩ : ∃ M, M = onlyL w L := ⟨_, rfl⟩
  have hLM : Lx w L M := by rw [hM]; exact onlyL_lx w L
  obtain ⟨w3, hrun, hRg, t3, z3⟩ := (hrw.tb t02 hLM (fun h => h) (fun _ _ _ h => h)).range Tryz.underlying84
  have hrl : ∀ g f, M g = (tag, f) → g < w.heap.size := fun g f e => by
    rcases Nat.lt_or_ge g w.heap.size with h | h
    · exact h
    · rw [hM, onlyL_new h] at e; simp at e; exact absurd e.1.symm htag
  obtain ⟨r, hr⟩ : ∃ r, Hid (r = w2.heap.size) := ⟨_, hide rfl⟩
  rw [← hr.out] at hrun hRg
  obtain ⟨L1, hL1⟩ : ∃ L1 : Lb, L1 = lab (lab M wa.heap.size (a, 0)) (wa.heap.size + 1) (a + 1, 0) := ⟨_, rfl⟩
  have HG : Hid (Cpd w L a wa.heap.size (wa.heap.size + 1) (w.heap.size + 1) (wa.heap.size + 1 + 1) r s [] w3) := hide (by
    refine ⟨by rw [t3.block _ (by omega) (fun h => h)]; exact hb2, by rw [t3.block _ (by omega) (fun h => h)]; exact hb3, ⟨L1, ?_, ⟨hn2.tb t3 (fun h => h), (hr2 L1 _).tb t3 (Lx.refl _ _) (fun h => h) (fun _ _ _ h => h), ?_, ?_⟩, ?_⟩, t02.trans t3 (fun _ _ h => h)⟩
    · intro b hb
      rw [hL1, lab_old (by omega), lab_old (by omega)]
      exact hLM b hb
    · rw [hL1, lab_old (by omega), lab_new]
    · rw [hL1, lab_new]
    · intro f
      have e1 : L1 r = (0, 0) := by
        rw [hL1, hr.out, z2]
        simp [lab, hM, onlyL_new (show w.heap.size ≤ wa.heap.size + 3 by omega)]
      have e2 : L1 (w.heap.size + 1) = (0, 0) := by
        rw [hL1, lab_old (by omega), lab_old (by omega), hM, onlyL_new (Nat.le_succ _)]
      rw [e1, e2]
      simp
      omega)
  have HR := hide hRg
  have HL := hide hrl
  have HZ : Hid (w.heap.size ≤ r ∧ wa.heap.size = w.heap.size + 2 ∧ r = wa.heap.size + 3 ∧ rb < w.heap.size) := hide ⟨by rw [hr.out]; omega, zb, by rw [hr.out, z2], hrw.lt⟩
  have HK := hide hK
  have HK2 := hide hK2
  have HU := hide hrw.un
  rw [hw2.out] at c1 hrun
  clear hcl hrw hK hK2 n1 t1 t2 zb z2 t02 ta2 hb1 hb2 hb3 hn2 hr2 hLM hRg t3 z3 hrl hL1 hM
  go_wp2_with fail
  go_loopw [] (fun wr => ∃ (ps qs : List (Int × List (List Int))), Hid (Cpd w L a wa.heap.size (wa.heap.size + 1) (w.heap.size + 1) (wa.heap.size + 1 + 1) r s ps wr) ∧ Hid (Rg U (113 : TypeId) 64 M tag rb s.rw r ps qs wr)) (fun wr => wr.rangeLeft rb r)
  case atStart => exact ⟨[], _, HG, HR⟩
  case round =>
    obtain ⟨ps, qs, hg, hr⟩ := hrel
    go_wp2_with (at_next; refine wpList_next_rows hr.out rfl (.tmp 13) rfl rfl ?_ ?_ (fun g f e => by have := HL.out g f e; have := HZ.out; omega))
    · intro hq
      subst hq
      have hp := hr.out.perm
      rw [List.append_nil] at hp
      obtain ⟨L', x1, x2, x3⟩ := hg.out.ex
      have hb2 := hg.out.b2
      have hb3 := hg.out.b3
      have c2 : wr.cell? ⟨w.heap.size + 1, 0, none⟩ = some (.map none) ∧ wr.cell? ⟨w.heap.size + 1, 1, none⟩ = some (.map none) := by
        constructor <;> (simp only [World.cell?, hb2]; rfl)
      have c3 : wr.cell? ⟨wa.heap.size + 1 + 1, 0, none⟩ = some (.map (some wa.heap.size)) ∧ wr.cell? ⟨wa.heap.size + 1 + 1, 1, none⟩ = some (.map (some (wa.heap.size + 1))) := by
        constructor <;> (simp only [World.cell?, hb3]; rfl)
      have f2 : wr.frozen? ⟨w.heap.size + 1, 0, none⟩ = false ∧ wr.frozen? ⟨w.heap.size + 1, 1, none⟩ = false := by
        constructor <;> simp [World.frozen?, hb2]
      obtain ⟨c20, c21⟩ := c2
      obtain ⟨c30, c31⟩ := c3
      obtain ⟨f20, f21⟩ := f2
      have HS := hide x2
      have H3 : Hid (∀ f, L' r ≠ (a + 10, f) ∧ L' (w.heap.size + 1) ≠ (a + 10, f)) := hide x3
      have HX := hide x1
      have HP := hide hp
      clear hp x1 x2 x3
      go_wp2_with fail
      refine bodyPost_ret (v := .agg #[.map (some wa.heap.size), .map (some (wa.heap.size + 1))]) (by simp [results, Tryz.results57, go_sem, c20, c21]) rfl ?_
      have tS : Tb (fun k => k = w.heap.size + 1) wr ((wr.setCell ⟨w.heap.size + 1, 0, none⟩ (.map (some wa.heap.size))).setCell ⟨w.heap.size + 1, 1, none⟩ (.map (some (wa.heap.size + 1)))) := Tb.trans (T := fun k => k = w.heap.size + 1) (Tb.set _ _ _ rfl) (Tb.set _ _ _ rfl) (fun _ _ h => h)
      have hz := HZ.out
      refine ⟨_, _, L', rfl, by omega, by omega, HX.out, ⟨HS.out.nm.tb tS (by omega), (HS.out.rw.perm HP.out).tb tS (Lx.refl _ _) (by omega) (fun g f e e2 => (H3.out f).2 (by rw [← e2]; exact e)), HS.out.ln, HS.out.lr⟩, hg.out.tb.trans tS (fun k hk e => by omega)⟩
    · intro f xs ad1 cap1 w' qs' hf hin hown hlab hrg hlt htb hsz hen
      have hz := HZ.out
      obtain ⟨i, z, hi, hz', q1, q2, q3⟩ := info79'
      obtain ⟨L', x1, x2, x3⟩ := hg.out.ex
      have hxl : xs.length ≤ 4096 := (HK.out.row _ hin).1
      have hps : ps.length ≤ K := by
        have := hr.out.perm.length_eq
        rw [List.length_append] at this
        have := HK.out.rw
        omega
      have hK2 := HK2.out
      have hnew : ∀ p ∈ ps, p.1 ≠ f := by
        have hu := HU.out.perm hrg.perm
        rw [List.append_assoc] at hu
        intro p hp
        exact (List.pairwise_append.1 hu).2.2 p hp (f, xs) (by simp)
      obtain ⟨wd, hwd⟩ : ∃ wd, Hid (wd = w'.drew) := ⟨_, hide rfl⟩
      have td : Tb (fun _ => False) w' wd := by rw [hwd.out]; exact (Tb.refl _ _).drew
      have sr := hg.out.tb.size
      have sd := td.size
      have hrlt := hrg.lt.2
      obtain ⟨v2, w2', hr2, o2, g2, b2⟩ := run_append_rows (P := Tryz.prog) (w := wd) w.heap.size (118 : TypeId) (118 : TypeId) (113 : TypeId) i z 64 64 Tryz.underlying118 hi hz' q1 q2 q3 (by decide) (.slice none 0 0) 0 [] (World.ownsRow_nil _ _ _ _) (.slice ad1 xs.length cap1) _ _ 0 (row_tb hown td (fun _ _ h => h)) (rows_one _) (by unfold maxLen; omega) (by omega) (by omega)
      have t2 : Tb (fun _ => False) wd w2' := Tb.of_grown g2 (fun k e => by cases e)
      have tr : Tb (fun k => k = r) wr wd := htb.trans td (fun _ _ h => h.elim)
      have hRw : Rw U (113 : TypeId) 64 wd L' (a + 10) (wa.heap.size + 1) ps := x2.rw.tb tr (Lx.refl _ _) (by omega) (fun g f e e2 => (x3 f).1 (by rw [← e2]; exact e))
      have hbn : ∀ g, v2.ownBlock = some g → g = wd.heap.size := fun g hg' => by
        rcases b2 with b | b
        · rw [b] at hg'; cases hg'
        · rw [b] at hg'; cases hg'; rfl
      obtain ⟨w3', hr3, hRw3, t3⟩ := hRw.store (w := w2') (L' := lab L' wd.heap.size (a + 10, f)) Tryz.underlying84 (by omega) hf (t2.mono (fun _ _ h => h.elim)) (Lx.lab L' _ (Nat.le_refl _)) (by rw [x2.lr]; simp) (v := v2) (xs := xs) (by simpa using o2.mono (Nat.zero_le _)) (fun g hg' => by rw [hbn g hg', lab_new]) (fun g hg' => by rw [hbn g hg']; omega)
      have t3' : Tb (fun k => k = wa.heap.size + 1) w2' w3' := Tb.turned t3 rfl
      have tw' : Tb (fun k => k = wa.heap.size + 1) w' w3' := ((td.mono (fun _ _ h => h.elim)).trans t2 (fun _ _ h => h.elim)).trans t3' (fun _ _ h => h)
      have tall : Tb (fun k => k = r ∨ k = wa.heap.size + 1) wr w3' := (htb.mono (fun _ _ h => .inl h)).trans tw' (fun _ _ h => .inr h)
      have est : st ps f xs = ps ++ [(f, xs)] := by unfold st; rw [dl_none hnew]
      rw [est] at hRw3
      have hb2r := (Array.getElem?_eq_some_iff.1 hg.out.b2).1
      have hb3r := (Array.getElem?_eq_some_iff.1 hg.out.b3).1
      have HN : Hid (Cpd w L a wa.heap.size (wa.heap.size + 1) (w.heap.size + 1) (wa.heap.size + 1 + 1) r s (ps ++ [(f, xs)]) w3') := hide (by
        refine ⟨by rw [tall.block _ hb2r (by omega)]; exact hg.out.b2, by rw [tall.block _ hb3r (by omega)]; exact hg.out.b3, ⟨lab L' wd.heap.size (a + 10, f), ?_, ⟨x2.nm.tb tall (by omega), hRw3, ?_, ?_⟩, ?_⟩, hg.out.tb.trans tall (fun k hk e => by omega)⟩
        · exact x1.trans (Lx.lab (w' := wd) L' _ (by omega) : Lx wr L' _) sr
        · rw [lab_old (by omega)]; exact x2.ln
        · rw [lab_old (by omega)]; exact x2.lr
        · intro f'
          rw [lab_old (by omega), lab_old (by omega)]
          exact x3 f')
      have HRG : Hid (Rg U (113 : TypeId) 64 M tag rb s.rw r (ps ++ [(f, xs)]) qs' w3') := hide (hrg.tb tw' (by omega) (by omega) (fun g f e e2 => by have := HL.out g f e; omega))
      have HLT : Hid (w3'.rangeLeft rb r < wr.rangeLeft rb r) := hide (by rw [left_heap (tw'.block _ hrg.lt.1 (by omega)) (tw'.block _ hrlt (by omega))]; exact hlt)
      have hcd : wd.cell? ⟨wa.heap.size + 1 + 1, 1, none⟩ = some (.map (some (wa.heap.size + 1))) := by
        have : wd.heap[wa.heap.size + 1 + 1]? = _ := (tr.block _ hb3r (by omega)).trans hg.out.b3
        simp only [World.cell?, this]
        rfl
      have hc2 : w2'.cell? ⟨wa.heap.size + 1 + 1, 1, none⟩ = some (.map (some (wa.heap.size + 1))) := t2.cell hcd (fun h => h)
      have hc3 : w3'.cell? ⟨wa.heap.size + 1 + 1, 1, none⟩ = some (.map (some (wa.heap.size + 1))) := t3'.cell hc2 (by simp)
      obtain ⟨X, hX⟩ : ∃ X, Hid (X = xs.length) := ⟨_, hide rfl⟩
      rw [← hX.out] at hen hr2
      rw [← hX.out]
      clear hown hlab hrg hlt htb hin hsz td t2 tr hRw hbn hRw3 t3 t3' tw' tall est hb2r hb3r b2 g2 o2 x1 x2 x3 hnew hps hxl hK2 sr sd hrlt hz hf
      go_wp2_with fail
      refine wp_region_held_drew (S := fun V => V.cell? ⟨wa.heap.size + 1 + 1, 1, none⟩ = some (.map (some (wa.heap.size + 1)))) (by kernel_rfl) (by rw [← hwd.out]; exact hcd) (fun hHeld => ?_)
      try simp only [List.size_toArray, List.length_cons, List.length_nil, Nat.reduceAdd]
      refine wpAnyH_take (i := 0) (v := (.pointer (some ⟨wa.heap.size + 1 + 1, 1, none⟩))) rfl (by kernel_rfl) (by kernel_rfl) (by kernel_rfl) (fun _ _ _ h => h) (Or.inl ⟨by rfl, ?hy⟩) hHeld ?_
      case hy => (intro V hV; go_simp)
      simp only [Act.put]
      refine wpAnyH_take (i := 1) (v := (.map (some (wa.heap.size + 1)))) rfl (by kernel_rfl) (by kernel_rfl) (by kernel_rfl) (fun _ _ _ h => h) (Or.inl ⟨by rfl, ?hy⟩) hHeld ?_
      case hy => (intro V hV; go_simp)
      simp only [Act.put]
      refine wpAnyH_take (i := 2) (v := (.int .i64 f)) rfl (by kernel_rfl) (by kernel_rfl) (by kernel_rfl) (fun _ _ _ h => h) (Or.inl ⟨by rfl, ?hy⟩) hHeld ?_
      case hy => (intro V hV; go_simp)
      simp only [Act.put]
      refine wpAnyH_take (i := 3) (v := (.slice ad1 X cap1)) rfl (by kernel_rfl) (by kernel_rfl) (by kernel_rfl) (fun _ _ _ h => h) (Or.inl ⟨by rfl, ?hy⟩) hHeld ?_
      case hy => (intro V hV; go_simp)
      simp only [Act.put]
      refine wpAnyH_ready (rs := [4]) (by kernel_rfl) (by simp) ?_
      refine AllReadyH.cons rfl (fun K hK => ?_) AllReadyH.nil
      refine step_run rfl (exec_append (.slice none 0 0) (.slice ad1 X cap1) rfl (by simp [Act.eval]) (by simp [Act.eval]) (by rw [← hwd.out]; exact hr2)) ?_
      refine hK.out _ _ hc2 (fun hHeld => ?_)
      clear hK K
      try simp only [Act.put]
      refine wpAnyH_ready (rs := [5]) (by kernel_rfl) (by simp) ?_
      refine AllReadyH.cons rfl (fun K hK => ?_) AllReadyH.nil
      go_simp
      refine hK.out _ _ hc3 (fun hHeld => ?_)
      clear hK K
      try simp only [Act.put]
      refine wpAnyH_done (by kernel_rfl) ?_ _
      go_wp2_with fail
      go_roundw
      case rel => exact ⟨_, _, HN, HRG⟩
      case measure => exact HLT.out

end Go.Proofs.YtgbboaedhpaocaaGreat

/-
  Texts put into one.
-/
import Derived.Test.YtkdolabhcbjipaaGreatQkd40eb9f7
import Derived.Deep.Onto

/-
  The unsynced steps in their order.
-/
namespace Go.Proofs.YtkdolabhcbjipaaGreat
open Go.RowKit
set_option maxRecDepth 100000

theorem left_heap {w w' : World} {b r : Nat} (h1 : w'.heap[b]? = w.heap[b]?) (h2 : w'.heap[r]? = w.heap[r]?) : w'.rangeLeft b r = w.rangeLeft b r := by
  unfold World.rangeLeft
  rw [h1, h2]

theorem cells_one (ts : List Stp) : ∀ u ∈ ts.flatMap Stp.cells, u.oneCell' = true := fun u hu => by
  obtain ⟨t, _, h⟩ := List.mem_flatMap.1 hu
  exact t.one u h

/-- What the loop has gathered. -/
structure Gth (w : World) (l : List Stp) (r : Nat) (ps : List (Int × List Stp)) (v : Value) (wr : World) : Prop where
  row : wr.ownsRow w.heap.size (87 : TypeId) 70 v (nms l ++ ps.flatMap (·.2)).length ((nms l ++ ps.flatMap (·.2)).flatMap Stp.cells)
  ne : ∀ g, v.ownBlock = some g → g ≠ r
  tb : Tb (fun _ => False) w wr

set_option maxHeartbeats 2000000 in
theorem inOrder_any {w : World} {L : Lb} {R : Nat} {o : Ob} {dur std : Shp} {l : List Stp} (h : Di w L R o dur std l) (hlast : o.last < 1000000000) :
    Calls Tryz.prog 39 #[.pointer (some ⟨R, 5, none⟩)] w fun e w' => ∃ v, e = .returned v ∧ w'.ownsRow w.heap.size (87 : TypeId) 70 v l.length (l.flatMap Stp.cells) ∧ Tb (fun _ => False) w w' := by
  have hlen := h.bk.length
  obtain ⟨i, z, hi, hz, q1, q2, q3⟩ := info81
  have hrow := h.bk.row
  have c6 : w.cell? ⟨R, 6, none⟩ = some o.ns := h.oj.c 6
  have c7 : w.cell? ⟨R, 7, none⟩ = some (.map (some o.us)) := h.oj.c 7
  obtain ⟨ns, hns⟩ : ∃ ns, ns = o.ns := ⟨_, rfl⟩
  rw [← hns] at hrow c6
  have hbl := both_length l
  obtain ⟨v1, w1, hr1, o1, g1, b1⟩ := run_append_rows (P := Tryz.prog) (w := w) w.heap.size (56 : TypeId) (56 : TypeId) (87 : TypeId) i z 70 128 Tryz.underlying56 hi hz q1 q2 q3 (by decide) (.slice none 0 0) 0 [] (World.ownsRow_nil _ _ _ _) ns _ _ 0 hrow (cells_one _) (by unfold maxLen; omega) (by omega) (Nat.le_refl _)
  have t1 : Tb (fun _ => False) w w1 := Tb.of_grown g1 (fun k e => by cases e)
  obtain ⟨sec, hS1, hS2, hS3⟩ := h.bk.map
  obtain ⟨M, hM⟩ : ∃ M, M = onlyL w L := ⟨_, rfl⟩
  have hLM : Lx w L M := by rw [hM]; exact onlyL_lx w L
  have hus : o.us < w.heap.size := hS1.lt
  have hS1' := hS1.tb t1 hLM (fun h => h) (fun _ _ _ h => h)
  obtain ⟨w2, hrun, hRg, t2, hs2⟩ := hS1'.range Tryz.underlying57
  obtain ⟨r, hr⟩ : ∃ r, Hid (r = w1.heap.size) := ⟨_, hide rfl⟩
  rw [← hr.out] at hrun hRg
  have hwr : w.heap.size ≤ r := by rw [hr.out]; exact t1.size
  have hrl : ∀ g f, M g = ((16 : Int), f) → g < w.heap.size := fun g f e => by
    rcases Nat.lt_or_ge g w.heap.size with h | h
    · exact h
    · rw [hM, onlyL_new h] at e; simp at e
  have c7' : w1.cell? ⟨R, 7, none⟩ = some (.map (some o.us)) := t1.cell c7 (fun h => h)
  have HG : Hid (Gth w l r [] v1 w2) := hide ⟨by simpa using row_tb o1 t2 (fun _ _ h => h), fun g hg => by
    have := row_lt o1 hg
    rw [hr.out]; omega, t1.trans t2 (fun _ _ h => h)⟩
  have hpm : Hid (∀ ps : List (Int × List Stp), ps.Perm sec → (nms l ++ ps.flatMap (·.2)).Perm l) := hide (fun ps hp => by
    refine List.Perm.trans (List.Perm.append_left _ ((hp.flatMap_right (·.2)).trans (sec_perm hS1.un hS2))) ?_
    have := List.filter_append_perm (fun t : Stp => !t.sec) l
    simpa [nms] using this)
  have hpart : Hid (∀ ps qs : List (Int × List Stp), (ps ++ qs).Perm sec → (nms l ++ ps.flatMap (·.2)).length ≤ l.length) := hide (fun ps qs hp => by
    have := (hpm.out _ hp).length_eq
    rw [List.flatMap_append, ← List.append_assoc, List.length_append] at this
    omega)
  have hll : Hid (l.length < 1000000000) := hide (by omega)
  have HOK : Hid (∀ t ∈ l, t.Ok) := hide h.bk.ok
  have HUP := hide h.bk.up
  have HR := hide hRg
  have HL := hide hrl
  have HW := hide hwr
  have HU := hide hus
  have HI := hide hi
  clear h hrow hS1 hS2 hS3 hS1' hRg t1 hrl hLM hM hlen hns o1 g1 b1 t2 hs2 c7 hbl hwr hus hi
  go_enter Tryz.func39, Tryz.ntmps39
  go_wp2_with (refine wpList_append_run rfl (56 : TypeId) _ _ rfl (.slice none 0 0) ns v1 (by simp [Act.eval]) (by simp [Act.eval]) hr1 ?_)
  go_loopw [3] (fun nv wr => ∃ (v : Value) (ps qs : List (Int × List Stp)), v = nv ∧ Hid (Gth w l r ps v wr) ∧ Hid (Rg Stp.cells (87 : TypeId) 70 M 16 o.us sec r ps qs wr)) (fun _ wr => wr.rangeLeft o.us r)
  case atStart => exact ⟨v1, [], sec, rfl, HG, HR⟩
  case round =>
    obtain ⟨v, ps, qs, rfl, hg, hr⟩ := hrel
    go_wp2_with (at_next; refine wpList_next_rows hr.out rfl (.tmp 15) rfl rfl ?_ ?_ (fun g f e => by have := HL.out g f e; have := HW.out; omega))
    · intro hq
      subst hq
      have hp := hr.out.perm
      rw [List.append_nil] at hp
      have hp2 := hpm.out ps hp
      have hso := sort_any (hg.out.row.mono (Nat.zero_le _)) (fun t ht => HOK.out t (hp2.mem_iff.1 ht)) hp2 HUP.out (by rw [hp2.length_eq]; have := hll.out; omega)
      have hbase := hg.out.row.lt
      have HTB := hide hg.out.tb
      have HB := hide hbase
      clear hp hp2 hbase
      go_wp2_with (go_at_call 62; refine hso.mono ?_; rintro e w3 ⟨rfl, r1, r2⟩)
      go_ret
      refine ⟨_, rfl, ⟨r1.1, ?_⟩, HTB.out.trans r2 (fun k hk e => by have := HB.out k e; omega)⟩
      rcases r1.2 with h1 | ⟨g, cap, cur, h1, h2, h3⟩
      · exact .inl h1
      · exact .inr ⟨g, cap, cur, h1, (HB.out g (by rw [h1]; rfl)).1, h3⟩
    · intro f xs ad1 cap1 w' qs' hf hin hown hlab hrg hlt htb hsz hen
      have hG := hg.out
      have hrow' : w'.ownsRow w.heap.size (87 : TypeId) 70 v (nms l ++ ps.flatMap (·.2)).length ((nms l ++ ps.flatMap (·.2)).flatMap Stp.cells) := row_tb hG.row htb (fun g hg => hG.ne g hg)
      have hp2 := hpart.out _ _ hrg.perm
      have hll' := hll.out
      have e : nms l ++ (ps ++ [(f, xs)]).flatMap (·.2) = (nms l ++ ps.flatMap (·.2)) ++ xs := by simp
      rw [e, List.length_append] at hp2
      have hwr' : w.heap.size ≤ w'.heap.size := by rw [hsz]; exact hG.tb.size
      obtain ⟨v2, w2', hr2, o2, g2, b2⟩ := run_append_rows (P := Tryz.prog) (w := w') w.heap.size (56 : TypeId) (56 : TypeId) (87 : TypeId) i z 70 128 Tryz.underlying56 HI.out hz q1 q2 q3 (by decide) v _ _ hrow' (.slice ad1 xs.length cap1) _ _ 0 hown (cells_one _) (by unfold maxLen; omega) (by omega) hwr'
      have t3 : Tb (fun k => v.ownBlock = some k) w' w2' := Tb.of_grown g2 (fun k e => e)
      have hvb := hrow'.lt
      have HN : Hid (Gth w l r (ps ++ [(f, xs)]) v2 w2') := hide ⟨by rw [e, List.length_append, List.flatMap_append]; exact o2, fun g hg => by
        rcases b2 with b | b
        · rw [b] at hg; exact hG.ne g hg
        · rw [b] at hg
          have := hrg.lt.2
          cases hg
          omega, (hG.tb.trans htb (fun k hk e => by have := HW.out; omega)).trans t3 (fun k hk e => by have := hvb k e; omega)⟩
      have hnu : ¬ v.ownBlock = some o.us := fun e => by have := hvb _ e; have := HU.out; omega
      have hnr : ¬ v.ownBlock = some r := fun e => hG.ne _ e rfl
      have HRG : Hid (Rg Stp.cells (87 : TypeId) 70 M 16 o.us sec r (ps ++ [(f, xs)]) qs' w2') := hide (hrg.tb t3 hnu hnr (fun g f e e2 => by have := HL.out g f e; have := hvb _ e2; omega))
      have HLT : Hid (w2'.rangeLeft o.us r < wr.rangeLeft o.us r) := hide (by rw [left_heap (t3.block _ hrg.lt.1 hnu) (t3.block _ hrg.lt.2 hnr)]; exact hlt)
      obtain ⟨X, hX⟩ : ∃ X, Hid (X = xs.length) := ⟨_, hide rfl⟩
      rw [← hX.out] at hen hr2
      rw [← hX.out]
      clear hown hlab hrg hlt htb hin hp2 hsz hnu hnr hvb t3 b2 g2 o2 hwr' e hll' hrow' hG
      go_wp2_with (refine wpList_append_run rfl (56 : TypeId) _ _ rfl v (.slice ad1 X cap1) v2 (by simp [Act.eval]) (by simp [Act.eval]) hr2 ?_)
      go_roundw
      case rel => exact ⟨_, _, _, rfl, HN, HRG⟩
      case measure => exact HLT.out

end Go.Proofs.YtkdolabhcbjipaaGreat

/-
  A shape copied.
-/
namespace Go.Proofs.YtkdolabhcbjipaaGreat
open Go.RowKit
set_option maxRecDepth 100000

theorem info79' : ∃ i z, Tryz.prog.info? (85 : TypeId) = some i ∧ i.zero = some z ∧ i.size = 64 ∧ i.bytes = 64 ∧ z.cells.size = 64 := by
  obtain ⟨i, hi, hz⟩ := Option.map_eq_some_iff.1 info79
  simp only [Prod.mk.injEq] at hz
  exact ⟨i, _, hi, hz.1, hz.2.1, hz.2.2, by rfl⟩

theorem dl_none {κ ν : Type} [DecidableEq κ] {l : List (κ × ν)} {k : κ} (h : ∀ p ∈ l, p.1 ≠ k) : dl l k = l := by
  unfold dl
  rw [List.filter_eq_self]
  intro p hp
  simp [h p hp]

theorem Un.perm {κ ν : Type} {l m : List (κ × ν)} (h : Un l) (p : m.Perm l) : Un m := (p.pairwise_iff (fun h e => h e.symm)).2 h

theorem lk_perm {κ ν : Type} [DecidableEq κ] {l m : List (κ × ν)} (hu : Un l) (p : m.Perm l) (k : κ) : lk m k = lk l k := by
  cases e : lk l k with
  | some v => exact mem_lk (hu.perm p) (p.mem_iff.2 (lk_mem e))
  | none =>
    rw [lk_none_iff] at e ⊢
    exact fun q hq => e q (p.mem_iff.1 hq)

theorem Rw.perm {α : Type} {c : α → List Value} {T : TypeId} {size : Nat} {w : World} {L : Lb} {tag : Int} {b : Nat} {ra rb : List (Int × List α)} (h : Rw c T size w L tag b ra) (p : ra.Perm rb) : Rw c T size w L tag b rb := by
  obtain ⟨D, g1, g2, g3, g4⟩ := h.ex
  exact ⟨h.un.perm p.symm, fun q hq => h.ix q (p.mem_iff.2 hq), D, g1, by rw [g2, p.length_eq], fun f hf e => g3 f hf (by rw [lk_perm (h.un.perm p.symm) p]; exact e), fun f xs e => g4 f xs (by rw [lk_perm (h.un.perm p.symm) p]; exact e)⟩

theorem rows_one (ts : List (List Int)) : ∀ u ∈ ts.flatMap U, u.oneCell' = true := fun u hu => by
  obtain ⟨t, _, h⟩ := List.mem_flatMap.1 hu
  exact U_one _ u h

theorem Nm.cloned {w : World} {b : Nat} {nm : List (List UInt8 × Int)} (h : Nm w b nm) : Calls Tryz.prog 68 #[.map (some b)] w fun e w' => e = .returned (.map (some w.heap.size)) ∧ Nm w' w.heap.size nm ∧ w'.heap.size = w.heap.size + 1 ∧ Tb (fun _ => False) w w' := by
  obtain ⟨D, g1, g2, g3⟩ := h.ex
  obtain ⟨es, clock, hb, F, hs, hD⟩ := g1.own
  refine (AnyW.maps_Clone laysMapClone b es clock w hb).mono ?_
  rintro e w' ⟨rfl, rfl⟩
  exact ⟨rfl, ⟨h.un, D, ⟨es, clock, heap_alloc_new w _, F, hs, hD⟩, g2, g3⟩, by simp, (Tb.refl _ _).alloc _⟩

/-- What the loop has copied. -/
structure Cpd (w : World) (L : Lb) (a : Int) (nb rb B2 B3 r : Nat) (s : Shp) (ps : List (Int × List (List Int))) (wr : World) : Prop where
  b2 : wr.heap[B2]? = some (.cells #[.map none, .map none] (54 : TypeId) (0, 0))
  b3 : wr.heap[B3]? = some (.cells #[.map (some nb), .map (some rb)] (54 : TypeId) (0, 0))
  ex : ∃ L', Lx w L L' ∧ Sh wr L' a nb rb ⟨s.nm, ps⟩ ∧ ∀ f, L' r ≠ (a + 10, f) ∧ L' B2 ≠ (a + 10, f)
  tb : Tb (fun _ => False) w wr

set_option maxHeartbeats 2000000 in
theorem copied_any {w : World} {L : Lb} {tag : Int} {nb rb : Nat} {s : Shp} {K : Nat} (a : Int) (hnm : Nm w nb s.nm) (hrw : Rw U (85 : TypeId) 64 w L tag rb s.rw) (hK : Sm s K) (hK2 : K < 9000000000000000000) (htag : tag ≠ 0) (ha : 0 ≤ a) :
    Calls Tryz.prog 41 #[.agg #[.map (some nb), .map (some rb)]] w fun e w' => ∃ nb' rb' L', e = .returned (.agg #[.map (some nb'), .map (some rb')]) ∧ w.heap.size ≤ nb' ∧ w.heap.size ≤ rb' ∧ Lx w L L' ∧ Sh w' L' a nb' rb' s ∧ Tb (fun _ => False) w w' := by
  have m2 := mk44
  obtain ⟨wa, hwa⟩ : ∃ wa, Hid (wa = (w.alloc (.cells #[.map (some nb), .map (some rb)] (54 : TypeId))).alloc (.cells #[.map none, .map none] (54 : TypeId))) := ⟨_, hide rfl⟩
  have ta : Tb (fun _ => False) w wa := by rw [hwa.out]; exact ((Tb.refl _ _).alloc _).alloc _
  have hcl := (hnm.tb ta (fun h => h)).cloned
  have HT := hide ta
  clear hnm ta
  go_enter Tryz.func41, Tryz.ntmps41
  go_wp2_with fail
  rw [← hwa.out]
  refine hcl.mono ?_
  rintro e w1 ⟨rfl, n1, z1, t1⟩
  obtain ⟨w2, hw2⟩ : ∃ w2, Hid (w2 = (w1.alloc (.map #[] 0)).alloc (.cells #[.map (some wa.heap.size), .map (some (wa.heap.size + 1))] (54 : TypeId))) := ⟨_, hide rfl⟩
  have t2 : Tb (fun _ => False) w1 w2 := by rw [hw2.out]; exact ((Tb.refl _ _).alloc _).alloc _
  have zb : wa.heap.size = w.heap.size + 2 := by rw [hwa.out]; simp
  have z2 : w2.heap.size = wa.heap.size + 3 := by rw [hw2.out]; simp [z1]
  have t02 : Tb (fun _ => False) w w2 := (HT.out.trans t1 (fun _ _ h => h)).trans t2 (fun _ _ h => h)
  have ta2 : Tb (fun _ => False) wa w2 := t1.trans t2 (fun _ _ h => h)
  have hb1 : w2.heap[w.heap.size]? = some (.cells #[.map (some nb), .map (some rb)] (54 : TypeId) (0, 0)) := by
    rw [ta2.block _ (by omega) (fun h => h), hwa.out, ((Tb.refl (fun _ => False) (w.alloc (.cells #[.map (some nb), .map (some rb)] (54 : TypeId)))).alloc _).block _ (by simp) (fun h => h)]
    exact heap_alloc_new w _
  have c1 : w2.cell? ⟨w.heap.size, 1, none⟩ = some (.map (some rb)) := by
    simp only [World.cell?, hb1]
    rfl
  have hb2 : w2.heap[w.heap.size + 1]? = some (.cells #[.map none, .map none] (54 : TypeId) (0, 0)) := by
    rw [ta2.block _ (by omega) (fun h => h), hwa.out]
    have := heap_alloc_new (w.alloc (.cells #[.map (some nb), .map (some rb)] (54 : TypeId))) (.cells #[.map none, .map none] (54 : TypeId))
    simpa only [World.size_alloc] using this
  have hb3 : w2.heap[wa.heap.size + 1 + 1]? = some (.cells #[.map (some wa.heap.size), .map (some (wa.heap.size + 1))] (54 : TypeId) (0, 0)) := by
    rw [hw2.out]
    have := heap_alloc_new (w1.alloc (.map #[] 0)) (.cells #[.map (some wa.heap.size), .map (some (wa.heap.size + 1))] (54 : TypeId))
    simpa only [World.size_alloc, z1] using this
  have hn2 : Nm w2 wa.heap.size s.nm := n1.tb t2 (fun h => h)
  have hr2 : ∀ L' tag', Rw U (85 : TypeId) 64 w2 L' tag' (wa.heap.size + 1) [] := fun L' tag' => by
    have := (Rw.made U (85 : TypeId) 64 w1 L' tag').tb (S := fun _ => False) (w' := w2) (L' := L') (by rw [hw2.out]; exact (Tb.refl _ _).alloc _) (Lx.refl _ _) (fun h => h) (fun _ _ _ h => h)
    rwa [z1] at this
  obtain ⟨M, hM⟩ : ∃ M, M = onlyL w L := ⟨_, rfl⟩
  have hLM : Lx w L M := by rw [hM]; exact onlyL_lx w L
  obtain ⟨w3, hrun, hRg, t3, z3⟩ := (hrw.tb t02 hLM (fun h => h) (fun _ _ _ h => h)).range Tryz.underlying52
  have hrl : ∀ g f, M g = (tag, f) → g < w.heap.size := fun g f e => by
    rcases Nat.lt_or_ge g w.heap.size with h | h
    · exact h
    · rw [hM, onlyL_new h] at e; simp at e; exact absurd e.1.symm htag
  obtain ⟨r, hr⟩ : ∃ r, Hid (r = w2.heap.size) := ⟨_, hide rfl⟩
  rw [← hr.out] at hrun hRg
  obtain ⟨L1, hL1⟩ : ∃ L1 : Lb, L1 = lab (lab M wa.heap.size (a, 0)) (wa.heap.size + 1) (a + 1, 0) := ⟨_, rfl⟩
  have HG : Hid (Cpd w L a wa.heap.size (wa.heap.size + 1) (w.heap.size + 1) (wa.heap.size + 1 + 1) r s [] w3) := hide (by
    refine ⟨by rw [t3.block _ (by omega) (fun h => h)]; exact hb2, by rw [t3.block _ (by omega) (fun h => h)]; exact hb3, ⟨L1, ?_, ⟨hn2.tb t3 (fun h => h), (hr2 L1 _).tb t3 (Lx.refl _ _) (fun h => h) (fun _ _ _ h => h), ?_, ?_⟩, ?_⟩, t02.trans t3 (fun _ _ h => h)⟩
    · intro b hb
      rw [hL1, lab_old (by omega), lab_old (by omega)]
      exact hLM b hb
    · rw [hL1, lab_old (by omega), lab_new]
    · rw [hL1, lab_new]
    · intro f
      have e1 : L1 r = (0, 0) := by
        rw [hL1, hr.out, z2]
        simp [lab, hM, onlyL_new (show w.heap.size ≤ wa.heap.size + 3 by omega)]
      have e2 : L1 (w.heap.size + 1) = (0, 0) := by
        rw [hL1, lab_old (by omega), lab_old (by omega), hM, onlyL_new (Nat.le_succ _)]
      rw [e1, e2]
      simp
      omega)
  have HR := hide hRg
  have HL := hide hrl
  have HZ : Hid (w.heap.size ≤ r ∧ wa.heap.size = w.heap.size + 2 ∧ r = wa.heap.size + 3 ∧ rb < w.heap.size) := hide ⟨by rw [hr.out]; omega, zb, by rw [hr.out, z2], hrw.lt⟩
  have HK := hide hK
  have HK2 := hide hK2
  have HU := hide hrw.un
  rw [hw2.out] at c1 hrun
  clear hcl hrw hK hK2 n1 t1 t2 zb z2 t02 ta2 hb1 hb2 hb3 hn2 hr2 hLM hRg t3 z3 hrl hL1 hM
  go_wp2_with fail
  go_loopw [] (fun wr => ∃ (ps qs : List (Int × List (List Int))), Hid (Cpd w L a wa.heap.size (wa.heap.size + 1) (w.heap.size + 1) (wa.heap.size + 1 + 1) r s ps wr) ∧ Hid (Rg U (85 : TypeId) 64 M tag rb s.rw r ps qs wr)) (fun wr => wr.rangeLeft rb r)
  case atStart => exact ⟨[], _, HG, HR⟩
  case round =>
    obtain ⟨ps, qs, hg, hr⟩ := hrel
    go_wp2_with (at_next; refine wpList_next_rows hr.out rfl (.tmp 13) rfl rfl ?_ ?_ (fun g f e => by have := HL.out g f e; have := HZ.out; omega))
    · intro hq
      subst hq
      have hp := hr.out.perm
      rw [List.append_nil] at hp
      obtain ⟨L', x1, x2, x3⟩ := hg.out.ex
      have hb2 := hg.out.b2
      have hb3 := hg.out.b3
      have c2 : wr.cell? ⟨w.heap.size + 1, 0, none⟩ = some (.map none) ∧ wr.cell? ⟨w.heap.size + 1, 1, none⟩ = some (.map none) := by
        constructor <;> (simp only [World.cell?, hb2]; rfl)
      have c3 : wr.cell? ⟨wa.heap.size + 1 + 1, 0, none⟩ = some (.map (some wa.heap.size)) ∧ wr.cell? ⟨wa.heap.size + 1 + 1, 1, none⟩ = some (.map (some (wa.heap.size + 1))) := by
        constructor <;> (simp only [World.cell?, hb3]; rfl)
      have f2 : wr.frozen? ⟨w.heap.size + 1, 0, none⟩ = false ∧ wr.frozen? ⟨w.heap.size + 1, 1, none⟩ = false := by
        constructor <;> simp [World.frozen?, hb2]
      obtain ⟨c20, c21⟩ := c2
      obtain ⟨c30, c31⟩ := c3
      obtain ⟨f20, f21⟩ := f2
      have HS := hide x2
      have H3 : Hid (∀ f, L' r ≠ (a + 10, f) ∧ L' (w.heap.size + 1) ≠ (a + 10, f)) := hide x3
      have HX := hide x1
      have HP := hide hp
      clear hp x1 x2 x3
      go_wp2_with fail
      refine bodyPost_ret (v := .agg #[.map (some wa.heap.size), .map (some (wa.heap.size + 1))]) (by simp [results, Tryz.results41, go_sem, c20, c21]) rfl ?_
      have tS : Tb (fun k => k = w.heap.size + 1) wr ((wr.setCell ⟨w.heap.size + 1, 0, none⟩ (.map (some wa.heap.size))).setCell ⟨w.heap.size + 1, 1, none⟩ (.map (some (wa.heap.size + 1)))) := Tb.trans (T := fun k => k = w.heap.size + 1) (Tb.set _ _ _ rfl) (Tb.set _ _ _ rfl) (fun _ _ h => h)
      have hz := HZ.out
      refine ⟨_, _, L', rfl, by omega, by omega, HX.out, ⟨HS.out.nm.tb tS (by omega), (HS.out.rw.perm HP.out).tb tS (Lx.refl _ _) (by omega) (fun g f e e2 => (H3.out f).2 (by rw [← e2]; exact e)), HS.out.ln, HS.out.lr⟩, hg.out.tb.trans tS (fun k hk e => by omega)⟩
    · intro f xs ad1 cap1 w' qs' hf hin hown hlab hrg hlt htb hsz hen
      have hz := HZ.out
      obtain ⟨i, z, hi, hz', q1, q2, q3⟩ := info79'
      obtain ⟨L', x1, x2, x3⟩ := hg.out.ex
      have hxl : xs.length ≤ 4096 := (HK.out.row _ hin).1
      have hps : ps.length ≤ K := by
        have := hr.out.perm.length_eq
        rw [List.length_append] at this
        have := HK.out.rw
        omega
      have hK2 := HK2.out
      have hnew : ∀ p ∈ ps, p.1 ≠ f := by
        have hu := HU.out.perm hrg.perm
        rw [List.append_assoc] at hu
        intro p hp
        exact (List.pairwise_append.1 hu).2.2 p hp (f, xs) (by simp)
      obtain ⟨wd, hwd⟩ : ∃ wd, Hid (wd = w'.drew) := ⟨_, hide rfl⟩
      have td : Tb (fun _ => False) w' wd := by rw [hwd.out]; exact (Tb.refl _ _).drew
      have sr := hg.out.tb.size
      have sd := td.size
      have hrlt := hrg.lt.2
      obtain ⟨v2, w2', hr2, o2, g2, b2⟩ := run_append_rows (P := Tryz.prog) (w := wd) w.heap.size (90 : TypeId) (90 : TypeId) (85 : TypeId) i z 64 64 Tryz.underlying90 hi hz' q1 q2 q3 (by decide) (.slice none 0 0) 0 [] (World.ownsRow_nil _ _ _ _) (.slice ad1 xs.length cap1) _ _ 0 (row_tb hown td (fun _ _ h => h)) (rows_one _) (by unfold maxLen; omega) (by omega) (by omega)
      have t2 : Tb (fun _ => False) wd w2' := Tb.of_grown g2 (fun k e => by cases e)
      have tr : Tb (fun k => k = r) wr wd := htb.trans td (fun _ _ h => h.elim)
      have hRw : Rw U (85 : TypeId) 64 wd L' (a + 10) (wa.heap.size + 1) ps := x2.rw.tb tr (Lx.refl _ _) (by omega) (fun g f e e2 => (x3 f).1 (by rw [← e2]; exact e))
      have hbn : ∀ g, v2.ownBlock = some g → g = wd.heap.size := fun g hg' => by
        rcases b2 with b | b
        · rw [b] at hg'; cases hg'
        · rw [b] at hg'; cases hg'; rfl
      obtain ⟨w3', hr3, hRw3, t3⟩ := hRw.store (w := w2') (L' := lab L' wd.heap.size (a + 10, f)) Tryz.underlying52 (by omega) hf (t2.mono (fun _ _ h => h.elim)) (Lx.lab L' _ (Nat.le_refl _)) (by rw [x2.lr]; simp) (v := v2) (xs := xs) (by simpa using o2.mono (Nat.zero_le _)) (fun g hg' => by rw [hbn g hg', lab_new]) (fun g hg' => by rw [hbn g hg']; omega)
      have t3' : Tb (fun k => k = wa.heap.size + 1) w2' w3' := Tb.turned t3 rfl
      have tw' : Tb (fun k => k = wa.heap.size + 1) w' w3' := ((td.mono (fun _ _ h => h.elim)).trans t2 (fun _ _ h => h.elim)).trans t3' (fun _ _ h => h)
      have tall : Tb (fun k => k = r ∨ k = wa.heap.size + 1) wr w3' := (htb.mono (fun _ _ h => .inl h)).trans tw' (fun _ _ h => .inr h)
      have est : st ps f xs = ps ++ [(f, xs)] := by unfold st; rw [dl_none hnew]
      rw [est] at hRw3
      have hb2r := (Array.getElem?_eq_some_iff.1 hg.out.b2).1
      have hb3r := (Array.getElem?_eq_some_iff.1 hg.out.b3).1
      have HN : Hid (Cpd w L a wa.heap.size (wa.heap.size + 1) (w.heap.size + 1) (wa.heap.size + 1 + 1) r s (ps ++ [(f, xs)]) w3') := hide (by
        refine ⟨by rw [tall.block _ hb2r (by omega)]; exact hg.out.b2, by rw [tall.block _ hb3r (by omega)]; exact hg.out.b3, ⟨lab L' wd.heap.size (a + 10, f), ?_, ⟨x2.nm.tb tall (by omega), hRw3, ?_, ?_⟩, ?_⟩, hg.out.tb.trans tall (fun k hk e => by omega)⟩
        · exact x1.trans (Lx.lab (w' := wd) L' _ (by omega) : Lx wr L' _) sr
        · rw [lab_old (by omega)]; exact x2.ln
        · rw [lab_old (by omega)]; exact x2.lr
        · intro f'
          rw [lab_old (by omega), lab_old (by omega)]
          exact x3 f')
      have HRG : Hid (Rg U (85 : TypeId) 64 M tag rb s.rw r (ps ++ [(f, xs)]) qs' w3') := hide (hrg.tb tw' (by omega) (by omega) (fun g f e e2 => by have := HL.out g f e; omega))
      have HLT : Hid (w3'.rangeLeft rb r < wr.rangeLeft rb r) := hide (by rw [left_heap (tw'.block _ hrg.lt.1 (by omega)) (tw'.block _ hrlt (by omega))]; exact hlt)
      have hcd : wd.cell? ⟨wa.heap.size + 1 + 1, 1, none⟩ = some (.map (some (wa.heap.size + 1))) := by
        have : wd.heap[wa.heap.size + 1 + 1]? = _ := (tr.block _ hb3r (by omega)).trans hg.out.b3
        simp only [World.cell?, this]
        rfl
      have hc2 : w2'.cell? ⟨wa.heap.size + 1 + 1, 1, none⟩ = some (.map (some (wa.heap.size + 1))) := t2.cell hcd (fun h => h)
      have hc3 : w3'.cell? ⟨wa.heap.size + 1 + 1, 1, none⟩ = some (.map (some (wa.heap.size + 1))) := t3'.cell hc2 (by simp)
      obtain ⟨X, hX⟩ : ∃ X, Hid (X = xs.length) := ⟨_, hide rfl⟩
      rw [← hX.out] at hen hr2
      rw [← hX.out]
      clear hown hlab hrg hlt htb hin hsz td t2 tr hRw hbn hRw3 t3 t3' tw' tall est hb2r hb3r b2 g2 o2 x1 x2 x3 hnew hps hxl hK2 sr sd hrlt hz hf
      go_wp2_with fail
      refine wp_region_held_drew (S := fun V => V.cell? ⟨wa.heap.size + 1 + 1, 1, none⟩ = some (.map (some (wa.heap.size + 1)))) (by kernel_rfl) (by rw [← hwd.out]; exact hcd) (fun hHeld => ?_)
      try simp only [List.size_toArray, List.length_cons, List.length_nil, Nat.reduceAdd]
      refine wpAnyH_take (i := 0) (v := (.pointer (some ⟨wa.heap.size + 1 + 1, 1, none⟩))) rfl (by kernel_rfl) (by kernel_rfl) (by kernel_rfl) (fun _ _ _ h => h) (Or.inl ⟨by rfl, ?hy⟩) hHeld ?_
      case hy => (intro V hV; go_simp)
      simp only [Act.put]
      refine wpAnyH_take (i := 1) (v := (.map (some (wa.heap.size + 1)))) rfl (by kernel_rfl) (by kernel_rfl) (by kernel_rfl) (fun _ _ _ h => h) (Or.inl ⟨by rfl, ?hy⟩) hHeld ?_
      case hy => (intro V hV; go_simp)
      simp only [Act.put]
      refine wpAnyH_take (i := 2) (v := (.int .i64 f)) rfl (by kernel_rfl) (by kernel_rfl) (by kernel_rfl) (fun _ _ _ h => h) (Or.inl ⟨by rfl, ?hy⟩) hHeld ?_
      case hy => (intro V hV; go_simp)
      simp only [Act.put]
      refine wpAnyH_take (i := 3) (v := (.slice ad1 X cap1)) rfl (by kernel_rfl) (by kernel_rfl) (by kernel_rfl) (fun _ _ _ h => h) (Or.inl ⟨by rfl, ?hy⟩) hHeld ?_
      case hy => (intro V hV; go_simp)
      simp only [Act.put]
      refine wpAnyH_ready (rs := [4]) (by kernel_rfl) (by simp) ?_
      refine AllReadyH.cons rfl (fun K hK => ?_) AllReadyH.nil
      refine step_run rfl (exec_append (.slice none 0 0) (.slice ad1 X cap1) rfl (by simp [Act.eval]) (by simp [Act.eval]) (by rw [← hwd.out]; exact hr2)) ?_
      refine hK.out _ _ hc2 (fun hHeld => ?_)
      clear hK K
      try simp only [Act.put]
      refine wpAnyH_ready (rs := [5]) (by kernel_rfl) (by simp) ?_
      refine AllReadyH.cons rfl (fun K hK => ?_) AllReadyH.nil
      go_simp
      refine hK.out _ _ hc3 (fun hHeld => ?_)
      clear hK K
      try simp only [Act.put]
      refine wpAnyH_done (by kernel_rfl) ?_ _
      go_wp2_with fail
      go_roundw
      case rel => exact ⟨_, _, HN, HRG⟩
      case measure => exact HLT.out

end Go.Proofs.YtkdolabhcbjipaaGreat

/-
  A crash.
-/
namespace Go.Proofs.YtkdolabhcbjipaaGreat
open Go.RowKit
set_option maxRecDepth 100000

/-- The steps that are kept. -/
def kep : List Stp → List Bool → List Stp
  | t :: ts, b :: bs => (if b then [t] else []) ++ kep ts bs
  | _, _ => []

theorem kep_nil (ts : List Stp) : kep ts [] = [] := by cases ts <;> rfl

theorem kep_take : ∀ (i : Nat) (ts : List Stp) (ks : List Bool), kep ts ks = kep (ts.take i) ks ++ kep (ts.drop i) (ks.drop i)
  | 0, ts, ks => by simp [kep]
  | i + 1, [], ks => by simp [kep]
  | i + 1, t :: ts, [] => by simp [kep_nil]
  | i + 1, t :: ts, b :: bs => by
    simp only [kep, List.take_succ_cons, List.drop_succ_cons, List.append_assoc]
    rw [kep_take i ts bs]

theorem kep_sub : ∀ (ts : List Stp) (ks : List Bool), (kep ts ks).Sublist ts
  | [], ks => by cases ks <;> simp [kep]
  | t :: ts, [] => by simp [kep_nil]
  | t :: ts, b :: bs => by
    cases b
    · simpa [kep] using (kep_sub ts bs).cons t
    · simpa [kep] using (kep_sub ts bs).cons_cons t

theorem kep_next {ts : List Stp} {ks : List Bool} {i : Nat} (hi : i < ts.length) : kep (ts.take (i + 1)) ks = kep (ts.take i) ks ++ (if ks[i]? = some true then [ts[i]] else []) := by
  rw [kep_take i (ts.take (i + 1)) ks, List.take_take, Nat.min_eq_left (Nat.le_succ i)]
  congr 1
  rw [List.drop_take, Nat.add_sub_cancel_left, List.drop_eq_getElem_cons hi, List.take_succ_cons, List.take_zero]
  cases e : ks.drop i with
  | nil =>
    have : ks[i]? = none := by rw [List.getElem?_eq_none_iff]; exact List.drop_eq_nil_iff.1 e
    simp [this, kep_nil]
  | cons b bs =>
    have : ks[i]? = some b := by
      have := congrArg (·[0]?) e
      simpa using this
    cases b <;> simp [this, kep]

theorem Sx.kept {w : World} {L : Lb} {R : Nat} {o : Ob} {dur std : Shp} {l ts : List Stp} {k : Nat} {wr X : World} (h : Sx w L R o dur std l ts k wr) (hX : Tb (fun _ => False) wr X) : Sx w L R o dur std l ts k X := by
  obtain ⟨L1, x1, d1, t1⟩ := h
  exact ⟨L1, x1, d1.tb hX (Lx.refl _ _) (fun _ _ h => h), Tb.trans (T := fun _ => False) t1 hX (fun _ _ h => h.elim)⟩

theorem kep_at {ts : List Stp} {ks : List Bool} {i : Nat} (hi : i < ts.length) (hk : ks[i]? = some true) : (kep ts ks)[(kep (ts.take i) ks).length]? = some ts[i] ∧ (kep (ts.take (i + 1)) ks).length = (kep (ts.take i) ks).length + 1 := by
  have e := kep_next (ks := ks) hi
  rw [if_pos hk] at e
  refine ⟨?_, by rw [e]; simp⟩
  rw [kep_take (i + 1) ts ks, e]
  simp

theorem kep_off {ts : List Stp} {ks : List Bool} {i : Nat} (hi : i < ts.length) (hk : ¬ ks[i]? = some true) : (kep (ts.take (i + 1)) ks).length = (kep (ts.take i) ks).length := by
  rw [kep_next hi, if_neg hk]
  simp

/-- Which are kept, as it lies in memory. -/
def Kp (w : World) (p : Option Addr) (ks : List Bool) : Prop := ∀ i b, ks[i]? = some b → ∃ g off, p = some ⟨g, off, none⟩ ∧ w.cell? ⟨g, off + i, none⟩ = some (.bool b)

set_option maxHeartbeats 2000000 in
theorem crash_any {w : World} {L : Lb} {R : Nat} {o : Ob} {dur std : Shp} {l : List Stp} {K : Nat} {p : Option Addr} {m cap : Nat} {ks : List Bool} (h : Di w L R o dur std l) (hlast : o.last < 1000000000) (hm : Sm dur K) (hK : K < 1000000000000)
    (hks : ks.length = m) (hcap : m ≤ cap ∧ cap ≤ 9223372036854775807) (hp : Kp w p ks) (hpl : ∀ a, ks ≠ [] → p = some a → ¬ TA 2 (L a.block)) (hpb : ∀ a, ks ≠ [] → p = some a → a.block < w.heap.size) :
    Calls Tryz.prog 10 #[.pointer (some ⟨R, 0, none⟩), .slice p m cap] w fun e w' => e = .returned (.int .i64 0) ∧ ∃ L' sn sr us, Lx w L L' ∧ Di w' L' R { o with sn := sn, sr := sr, last := 0, ns := .slice none 0 0, us := us, down := false, armed := -1, failing := -1 } ((kep l ks).foldl Shp.does dur) ((kep l ks).foldl Shp.does dur) [] ∧ Tl L TD w w' := by
  have hr := right_yes h.oj
  have hio := inOrder_any h hlast
  obtain ⟨M, hM⟩ : ∃ M, M = onlyL w L := ⟨_, rfl⟩
  have hLM : Lx w L M := by rw [hM]; exact onlyL_lx w L
  have hMn : ∀ g, w.heap.size ≤ g → M g = (0, 0) := fun g hg => by rw [hM, onlyL_new hg]
  have hN := h.bk.length
  obtain ⟨N, hN'⟩ : ∃ N, Hid (N = l.length) := ⟨_, hide rfl⟩
  rw [← hN'.out] at hio hN
  obtain ⟨i81, z81, hi, hz, q1, q2, q3⟩ := info81
  have HD := hide h
  have HK : Hid (∀ t ∈ l, t.Ok) := hide h.bk.ok
  have HM := hide hm
  have HP := hide hp
  have HPL := hide hpl
  have HPB := hide hpb
  have HKS := hide hks
  obtain ⟨hcap1, hcap2⟩ := hcap
  have HNN : Hid ((N : Int) < 1000000000) := hide (by omega)
  have HLM := hide hLM
  have HMN := hide hMn
  clear h hm hp hpl hpb hks hLM hMn hM hN hlast
  obtain ⟨dur', hdur⟩ : ∃ dur', Hid (dur' = (kep l ks).foldl Shp.does dur) := ⟨_, hide rfl⟩
  rw [← hdur.out]
  go_enter Tryz.func10, Tryz.ntmps10
  go_wp2_with (first | (go_at_call 38; refine hr.mono ?_; rintro e w1 ⟨rfl, hw1⟩; subst w1) | (go_at_call 39; refine hio.mono ?_; rintro e w1 ⟨x, rfl, r1, t1⟩; obtain ⟨ad, cp, hx⟩ := row_val r1; subst hx))
  have h0 : Hid (Sx w1 M R o dur std l (kep l ks) (kep (l.take 0) ks).length w1) := hide ⟨M, Lx.refl _ _, by
    have := HD.out.tb t1 HLM.out (fun _ _ h => h)
    cases ks <;> simpa [kep] using this, Tb.refl _ _⟩
  have hcp : N ≤ cp ∧ cp ≤ 9223372036854775807 := by
    rcases r1.2 with ⟨h1, h2⟩ | ⟨g, c, cur, h1, _, _, hn, hc, _⟩
    · simp only [Value.slice.injEq] at h1; omega
    · simp only [Value.slice.injEq] at h1; unfold maxLen at hc; omega
  obtain ⟨hcp1, hcp2⟩ := hcp
  have HX := hide r1
  have HT := hide t1
  have hrb := r1.lt
  have HXB : Hid (∀ g, (Value.slice ad N cp).ownBlock = some g → M g = (0, 0)) := hide (fun g hg => HMN.out g (hrb g hg).1)
  clear r1 t1 hrb hr hio
  go_loopw [15] (fun iv wr => ∃ k : Nat, k ≤ N ∧ iv = .int .i64 k ∧ Hid (Sx w1 M R o dur std l (kep l ks) (kep (l.take k) ks).length wr)) (fun iv _ => N - (intOf iv).toNat)
  case atStart => exact ⟨0, Nat.zero_le _, rfl, h0⟩
  case round =>
    obtain ⟨k, hk, rfl, hs⟩ := hrel
    have hNN := HNN.out
    by_cases hlt : k < N
    · obtain ⟨g, hg⟩ : ∃ g, ad = some ⟨g, 0, none⟩ := by
        rcases HX.out.2 with ⟨h1, h2⟩ | ⟨g, c, cur, h1, _⟩
        · omega
        · simp only [Value.slice.injEq] at h1
          exact ⟨g, h1.1⟩
      subst hg
      have hkr : k < l.length := by rw [← hN'.out]; exact hlt
      obtain ⟨cs, hcs⟩ : ∃ cs, Hid (cs = l[k].cells.toArray) := ⟨_, hide rfl⟩
      have hkok := HK.out l[k] (List.getElem_mem _)
      have hsz : cs.size = 70 := by rw [hcs.out, List.size_toArray]; exact hkok.len
      have hone : cs.all (·.oneCell') = true := by rw [hcs.out]; exact all_oneCell_toArray (Stp.one _)
      have hrg : Hid (wr.rangeAt g (k * 70) l[k].cells) := hide (by
        obtain ⟨L1, x1, d1, t1⟩ := hs.out
        have hxr := row_tb (HX.out.mono (Nat.zero_le _)) t1 (fun g' hg' => by rw [HXB.out g' hg']; unfold TA; simp)
        exact own_range hxr hN'.out.symm HK.out hkr)
      have hs81 : (Tryz.prog.info? (87 : TypeId)).map (·.size) = some l[k].cells.length := by rw [hi]; simp [q1, hkok.len]
      obtain ⟨X, hX⟩ : ∃ X, Hid (X = (wr.alloc (.cells Tryz.zeroCells87 (87 : TypeId))).setRow wr.heap.size cs) := ⟨_, hide rfl⟩
      have hXB : X.heap[wr.heap.size]? = some (.cells cs (87 : TypeId) (0, 0)) := by rw [hX.out]; exact setRow_heap _ _ _ _ (87 : TypeId) (0, 0) (heap_alloc_new wr _)
      have tX : Tb (fun _ => False) wr X := by
        rw [hX.out]
        exact Tb.trans ((Tb.refl _ _).alloc _) (T := fun k => k = wr.heap.size) ⟨rfl, rfl, rfl, by simp, fun k _ hne => setRow_other _ _ _ _ hne⟩ (fun k hk e => by omega)
      have hcell : Hid (∀ b, ks[k]? = some b → ∃ g' off, p = some ⟨g', off, none⟩ ∧ X.cell? ⟨g', off + k, none⟩ = some (.bool b)) := hide (fun b hb => by
        obtain ⟨L1, x1, d1, t1⟩ := hs.out
        obtain ⟨g', off, e1, e2⟩ := HP.out k b hb
        refine ⟨g', off, e1, tX.cell (ad := ⟨g', off + k, none⟩) (t1.cell (ad := ⟨g', off + k, none⟩) (HT.out.cell e2 (fun h => h)) ?_) (fun h => h)⟩
        have hne : ks ≠ [] := fun e => by rw [e] at hb; simp at hb
        have h1 := HPB.out _ hne e1
        have h2 := HPL.out _ hne e1
        simp only at h1 h2
        rw [HLM.out g' h1]
        exact h2)
      by_cases hkp : ks[k]? = some true
      · obtain ⟨ha1, ha2⟩ := kep_at hkr hkp
        obtain ⟨hc1, hc2⟩ := List.getElem?_eq_some_iff.1 ha1
        obtain ⟨g', off, hp, hc⟩ := hcell.out true hkp
        subst hp
        have hkm : k < m := by rw [← HKS.out]; exact (List.getElem?_eq_some_iff.1 hkp).1
        have hkd : (k : Int) < (m : Int) := by omega
        have hcl : X.cell? ⟨R, 1, none⟩ = some (.map (some o.dn)) ∧ X.cell? ⟨R, 2, none⟩ = some (.map (some o.dr)) := by
          obtain ⟨L1, x1, d1, t1⟩ := hs.out
          have hO := d1.oj.tb tX (fun h => h)
          exact ⟨hO.c 1, hO.c 2⟩
        obtain ⟨c1, c2⟩ := hcl
        have hkl : (kep l ks).length ≤ l.length := (kep_sub l ks).length_le
        have CC := hide (Sx.more (X := X.drew) (cs := cs) hs.out hc1 (fun t ht => HK.out t ((kep_sub l ks).subset ht)) HM.out (by rw [← hN'.out] at hkl; omega) (by rw [hc2]; exact hcs.out) tX.drew hXB)
        rw [← ha2] at CC
        clear hs tX ha1 ha2 hc1 hc2 hkl hkp hcell hN' hK hNN HNN
        go_wp2_with (first
          | (refine wpList_load_mid rfl (87 : TypeId) (.tmp 18) rfl g (k * 70) (by simp [Act.eval]) l[k].cells _ hrg.out Tryz.underlying87 rfl hs81 ?_; rw [← hcs.out])
          | (refine wpList_store_rowTo rfl (87 : TypeId) (.tmp 6) (.tmp 19) rfl rfl wr.heap.size cs (by simp [Act.eval]) (by simp [Act.eval]) (87 : TypeId) Tryz.zeroCells87 (heap_alloc_new wr _) (by rw [hi]; simp [q1, hsz]) (by rw [hsz]; kernel_rfl) hone ?_; rw [← hX.out]))
        refine wp_region_held_drew (S := fun V => V.heap[wr.heap.size]? = some (.cells cs (87 : TypeId) (0, 0)) ∧ V.cell? ⟨R, 1, none⟩ = some (.map (some o.dn)) ∧ V.cell? ⟨R, 2, none⟩ = some (.map (some o.dr))) (by kernel_rfl) ⟨hXB, c1, c2⟩ (fun hHeld => ?_)
        try simp only [List.size_toArray, List.length_cons, List.length_nil, Nat.reduceAdd]
        refine wpAnyH_take (i := 4) (v := (.agg cs)) rfl (by kernel_rfl) (by kernel_rfl) (by kernel_rfl) (fun _ _ _ h => h) (Or.inl ⟨by rfl, ?hy⟩) hHeld ?_
        case hy => (intro V hV; obtain ⟨hV1, hV2, hV3⟩ := hV; exact exec_load (.pointer (some ⟨wr.heap.size, 0, none⟩)) rfl (by simp [Act.eval]) (run_loadStep hV1 hsz))
        refine wpAnyH_take (i := 0) (v := (.pointer (some ⟨R, 0, none⟩))) rfl (by kernel_rfl) (by kernel_rfl) (by kernel_rfl) (fun _ _ _ h => h) (Or.inl ⟨by rfl, ?hy⟩) hHeld ?_
        case hy => (intro V hV; obtain ⟨hV1, hV2, hV3⟩ := hV; go_simp)
        refine wpAnyH_take (i := 1) (v := (.pointer (some ⟨R, 0, none⟩))) rfl (by kernel_rfl) (by kernel_rfl) (by kernel_rfl) (fun _ _ _ h => h) (Or.inl ⟨by rfl, ?hy⟩) hHeld ?_
        case hy => (intro V hV; obtain ⟨hV1, hV2, hV3⟩ := hV; go_simp)
        refine wpAnyH_take (i := 2) (v := (.pointer (some ⟨R, 1, none⟩))) rfl (by kernel_rfl) (by kernel_rfl) (by kernel_rfl) (fun _ _ _ h => h) (Or.inl ⟨by rfl, ?hy⟩) hHeld ?_
        case hy => (intro V hV; obtain ⟨hV1, hV2, hV3⟩ := hV; go_simp)
        refine wpAnyH_take (i := 3) (v := (.agg #[.map (some o.dn), .map (some o.dr)])) rfl (by kernel_rfl) (by kernel_rfl) (by kernel_rfl) (fun _ _ _ h => h) (Or.inl ⟨by rfl, ?hy⟩) hHeld ?_
        case hy => (intro V hV; obtain ⟨hV1, hV2, hV3⟩ := hV; go_simp)
        refine wpAnyH_ready (rs := [5]) (by kernel_rfl) (by simp) ?_
        refine AllReadyH.cons rfl (fun K hK => ?_) AllReadyH.nil
        refine step_call rfl 40 #[.agg #[.map (some o.dn), .map (some o.dr)], .agg cs] (by go_simp) ?_
        refine CC.out.mono ?_
        rintro e w2 ⟨rfl, hs2, k1, k2, k3⟩
        refine ⟨_, rfl, ?_⟩
        refine hK.out _ _ ⟨k1, k2, k3⟩ (fun hHeld => ?_)
        clear hK K
        refine wpAnyH_done (by kernel_rfl) ?_ _
        simp only [Act.put, List.getElem_toArray, List.getElem_cons_succ, List.getElem_cons_zero, List.setIfInBounds_toArray, List.set_cons_succ, List.set_cons_zero]
        have HS2 := hide hs2
        clear hs2 CC hHeld
        go_wp2_with fail
        go_roundw
        case rel => exact ⟨k + 1, by omega, by simp, HS2⟩
        case measure => simp [intOf]; omega
      · have hsk := kep_off hkr hkp
        have HS2 : Hid (Sx w1 M R o dur std l (kep l ks) (kep (l.take (k + 1)) ks).length X) := hide (by rw [hsk]; exact hs.out.kept tX)
        clear hsk hs tX hXB
        cases hkk : ks[k]? with
        | none =>
          have hkm : m ≤ k := by rw [← HKS.out]; exact List.getElem?_eq_none_iff.1 hkk
          clear hkk hkp
          have hkd : ¬ ((k : Int) < (m : Int)) := by omega
          have hkd2 : ¬ (k < m) := by omega
          clear hkm hN' hcap1 hcap2 hK hNN HNN
          go_wp2_with (first
            | (refine wpList_load_mid rfl (87 : TypeId) (.tmp 18) rfl g (k * 70) (by simp [Act.eval]) l[k].cells _ hrg.out Tryz.underlying87 rfl hs81 ?_; rw [← hcs.out])
            | (refine wpList_store_rowTo rfl (87 : TypeId) (.tmp 6) (.tmp 19) rfl rfl wr.heap.size cs (by simp [Act.eval]) (by simp [Act.eval]) (87 : TypeId) Tryz.zeroCells87 (heap_alloc_new wr _) (by rw [hi]; simp [q1, hsz]) (by rw [hsz]; kernel_rfl) hone ?_; rw [← hX.out]))
          go_roundw
          case rel => exact ⟨k + 1, by omega, by simp, HS2⟩
          case measure => simp [intOf]; omega
        | some b =>
          have hb : b = false := by
            cases b with
            | false => rfl
            | true => exact absurd hkk hkp
          subst hb
          obtain ⟨g', off, hp, hc⟩ := hcell.out false hkk
          subst hp
          have hkm : k < m := by rw [← HKS.out]; exact (List.getElem?_eq_some_iff.1 hkk).1
          clear hkk hkp
          have hkd : (k : Int) < (m : Int) := by omega
          clear hN' hK hNN HNN
          go_wp2_with (first
            | (refine wpList_load_mid rfl (87 : TypeId) (.tmp 18) rfl g (k * 70) (by simp [Act.eval]) l[k].cells _ hrg.out Tryz.underlying87 rfl hs81 ?_; rw [← hcs.out])
            | (refine wpList_store_rowTo rfl (87 : TypeId) (.tmp 6) (.tmp 19) rfl rfl wr.heap.size cs (by simp [Act.eval]) (by simp [Act.eval]) (87 : TypeId) Tryz.zeroCells87 (heap_alloc_new wr _) (by rw [hi]; simp [q1, hsz]) (by rw [hsz]; kernel_rfl) hone ?_; rw [← hX.out]))
          go_roundw
          case rel => exact ⟨k + 1, by omega, by simp, HS2⟩
          case measure => simp [intOf]; omega
    · obtain rfl : k = N := by omega
      have hfin := hs.out
      rw [show l.take k = l from List.take_of_length_le (by rw [← hN'.out]; exact Nat.le_refl _)] at hfin
      unfold Sx at hfin
      rw [List.take_length] at hfin
      obtain ⟨L2, x2, d2, t2⟩ := hfin
      have hkl : (kep l ks).length ≤ l.length := (kep_sub l ks).length_le
      have hsm := fold_sm HM.out (kep l ks) (fun t ht => HK.out t ((kep_sub l ks).subset ht))
      have hcp := copied_any 4 d2.dur.nm d2.dur.rw hsm (by rw [← hN'.out] at hkl; omega) (by decide) (by decide)
      have c1 : wr.cell? ⟨R, 1, none⟩ = some (.map (some o.dn)) := d2.oj.c 1
      have c2 : wr.cell? ⟨R, 2, none⟩ = some (.map (some o.dr)) := d2.oj.c 2
      rw [← hdur.out] at hcp d2
      have H2 := hide d2
      have X2 := hide x2
      have T2 := hide t2
      clear d2 x2 t2 hkl hsm hs
      go_wp2_with fail
      refine hcp.mono ?_
      rintro e w3 ⟨sn, sr, L3, rfl, b1, b2, x3, s3, t3⟩
      go_wp2_with fail
      refine (newBacklog_any w3).mono ?_
      rintro e w4 ⟨us, rfl, u1, u2, u3, t4⟩
      have O2 := H2.out.oj
      have t24 : Tb (fun _ => False) wr w4 := t3.trans t4 (fun _ _ h => h)
      have O4 := O2.tb t24 (fun h => h)
      have d3 : w4.cell? ⟨R, 3, none⟩ = some (.map (some o.sn)) := O4.c 3
      have d4 : w4.cell? ⟨R, 4, none⟩ = some (.map (some o.sr)) := O4.c 4
      have d5 : w4.cell? ⟨R, 5, none⟩ = some (.int .i64 o.last) := O4.c 5
      have d6 : w4.cell? ⟨R, 6, none⟩ = some o.ns := O4.c 6
      have d7 : w4.cell? ⟨R, 7, none⟩ = some (.map (some o.us)) := O4.c 7
      have d9 : w4.cell? ⟨R, 9, none⟩ = some (.bool o.down) := O4.c 9
      have f3 := O4.free 3
      have f4 := O4.free 4
      have f5 := O4.free 5
      have f6 := O4.free 6
      have f7 := O4.free 7
      have f9 := O4.free 9
      have O10 := ((((((O4.set 3 (.map (some sn)) { o with sn := sn } rfl O4.armed O4.failing).set 4 (.map (some sr)) { o with sn := sn, sr := sr } rfl O4.armed O4.failing).set 5 (.int .i64 0) { o with sn := sn, sr := sr, last := 0 } rfl O4.armed O4.failing).set 6 (.slice none 0 0) { o with sn := sn, sr := sr, last := 0, ns := .slice none 0 0 } rfl O4.armed O4.failing).set 7 (.map (some us)) { o with sn := sn, sr := sr, last := 0, ns := .slice none 0 0, us := us } rfl O4.armed O4.failing).set 9 (.bool false) { o with sn := sn, sr := sr, last := 0, ns := .slice none 0 0, us := us, down := false } rfl O4.armed O4.failing)
      have tS : ∀ {a b : World}, Tb (fun k => k = R) a b → ∀ j v, Tb (fun k => k = R) a (b.setCell ⟨R, j, none⟩ v) := fun h j v => h.trans (T := fun k => k = R) (Tb.set R j v rfl) (fun _ _ h => h)
      have T10 := tS (tS (tS (tS (tS (tS (Tb.refl (fun k => k = R) w4) 3 (.map (some sn))) 4 (.map (some sr))) 5 (.int .i64 0)) 6 (.slice none 0 0)) 7 (.map (some us))) 9 (.bool false)
      have OO := hide O10
      have TT := hide T10
      have XX := hide x3
      have SS := hide s3
      have UU := hide u3
      have T3' := hide t3
      have T4' := hide t4
      clear O2 t24 O4 O10 tS T10 x3 s3 u3 t3 t4 hcp
      go_wp2_with fail
      refine (disarm_any OO.out).mono ?_
      rintro e w5 ⟨rfl, O5, t5⟩
      have FIN : Hid (∃ L' sn sr us, Lx w L L' ∧ Di w5 L' R { o with sn := sn, sr := sr, last := 0, ns := .slice none 0 0, us := us, down := false, armed := -1, failing := -1 } dur' dur' [] ∧ Tl L TD w w5) := hide (by
        have hlb := HD.out.lb
        have hRl := HD.out.oj.lt
        have s1 := HT.out.size
        have s2 : w1.heap.size ≤ wr.heap.size := Tb.size T2.out
        have s3 := T3'.out.size
        have T45 : Tb (fun k => k = R) w4 w5 := TT.out.trans t5 (fun _ _ h => h)
        have T35 : Tb (fun k => k = R) w3 w5 := (T4'.out.mono (fun _ _ h => h.elim)).trans T45 (fun _ _ h => h)
        have Tr5 : Tb (fun k => k = R) wr w5 := (T3'.out.mono (fun _ _ h => h.elim)).trans T35 (fun _ _ h => h)
        have y3 : Lx w3 L3 (lab L3 us (6, 0)) := fun b hb => lab_old (by omega)
        have yr : Lx wr L2 (lab L3 us (6, 0)) := XX.out.trans (w' := w3) y3 s3
        have y0 : Lx w L (lab L3 us (6, 0)) := (HLM.out.trans (w' := w1) X2.out s1).trans (w' := wr) yr (by omega)
        have l5 : lab L3 us (6, 0) R = (1, 0) := by rw [y0 R hRl]; exact hlb
        have l3 : L3 R = (1, 0) := by rw [← y3 R (by omega)]; exact l5
        refine ⟨lab L3 us (6, 0), sn, sr, us, y0, ⟨O5, l5, H2.out.dur.tb Tr5 yr (fun g hg e => by rw [e, H2.out.lb] at hg; revert hg; unfold TA; simp), SS.out.tb T35 y3 (fun g hg e => by rw [e, l3] at hg; revert hg; unfold TA; simp), ⟨World.ownsRow_nil _ _ _ _, fun g hg => (by cases hg), ⟨[], (UU.out _ _).tb T45 (Lx.refl _ _) (by omega) (fun g f e h => by rw [h, l5] at e; simp at e), fun _ => rfl, by simp⟩, lab_new _ _ _, by simp, by simp, by simp, by simp⟩⟩, ?_⟩
        have a1 : Tl L TD w w1 := HT.out.mono (fun _ _ h => h.elim)
        have a2 : Tl L TD w wr := Tl.trans a1 T2.out HLM.out (fun _ h => .inr (.inl h))
        exact Tb.trans a2 Tr5 (fun i hi e => by rw [e]; exact .inl (by rw [hlb])))
      clear O5 t5 OO TT XX SS UU T3' T4' H2 X2 T2
      go_wp2_with fail
      go_ret
      exact ⟨rfl, FIN.out⟩

end Go.Proofs.YtkdolabhcbjipaaGreat

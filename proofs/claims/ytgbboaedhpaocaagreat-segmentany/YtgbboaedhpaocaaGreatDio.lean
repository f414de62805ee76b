/-
  The unsynced steps in their order.
-/
import Derived.Test.YtgbboaedhpaocaaGreatDso
import Derived.Deep.Onto
namespace Go.Proofs.YtgbboaedhpaocaaGreat
open Go.RowKit
set_option maxRecDepth 100000
set_option maxRecDepth 100000

theorem left_heap {w w' : World} {b r : Nat} (h1 : w'.heap[b]? = w.heap[b]?) (h2 : w'.heap[r]? = w.heap[r]?) : w'.rangeLeft b r = w.rangeLeft b r := by
  unfold World.rangeLeft
  rw [h1, h2]

theorem cells_one (ts : List Stp) : ∀ u ∈ ts.flatMap Stp.cells, u.oneCell' = true := fun u hu => by
  obtain ⟨t, _, h⟩ := List.mem_flatMap.1 hu
  exact t.one u h

/-- What the loop has gathered. -/
structure Gth (w : World) (l : List Stp) (r : Nat) (ps : List (Int × List Stp)) (v : Value) (wr : World) : Prop where
  row : wr.ownsRow w.heap.size (115 : TypeId) 70 v (nms l ++ ps.flatMap (·.2)).length ((nms l ++ ps.flatMap (·.2)).flatMap Stp.cells)
  ne : ∀ g, v.ownBlock = some g → g ≠ r
  tb : Tb (fun _ => False) w wr

set_option maxHeartbeats 2000000 in
theorem inOrder_any {w : World} {L : Lb} {R : Nat} {o : Ob} {dur std : Shp} {l : List Stp} (h : Di w L R o dur std l) (hlast : o.last < 1000000000) :
    Calls Tryz.prog 55 #[.pointer (some ⟨R, 5, none⟩)] w fun e w' => ∃ v, e = .returned v ∧ w'.ownsRow w.heap.size (115 : TypeId) 70 v l.length (l.flatMap Stp.cells) ∧ Tb (fun _ => False) w w' := by
  have hlen := h.bk.length
  obtain ⟨i, z, hi, hz, q1, q2, q3⟩ := info81
  have hrow := h.bk.row
  have c6 : w.cell? ⟨R, 6, none⟩ = some o.ns := h.oj.c 6
  have c7 : w.cell? ⟨R, 7, none⟩ = some (.map (some o.us)) := h.oj.c 7
  obtain ⟨ns, hns⟩ : ∃ ns, ns = o.ns := ⟨_, rfl⟩
  rw [← hns] at hrow c6
  have hbl := both_length l
  obtain ⟨v1, w1, hr1, o1, g1, b1⟩ := run_append_rows (P := Tryz.prog) (w := w) w.heap.size (88 : TypeId) (88 : TypeId) (115 : TypeId) i z 70 128 Tryz.underlying88 hi hz q1 q2 q3 (by decide) (.slice none 0 0) 0 [] (World.ownsRow_nil _ _ _ _) ns _ _ 0 hrow (cells_one _) (by unfold maxLen; omega) (by omega) (Nat.le_refl _)
  have t1 : Tb (fun _ => False) w w1 := Tb.of_grown g1 (fun k e => by cases e)
  obtain ⟨sec, hS1, hS2, hS3⟩ := h.bk.map
  obtain ⟨M, hM⟩ : ∃ M, M = onlyL w L := ⟨_, rfl⟩
  have hLM : Lx w L M := by rw [hM]; exact onlyL_lx w L
  have hus : o.us < w.heap.size := hS1.lt
  have hS1' := hS1.tb t1 hLM (fun h => h) (fun _ _ _ h => h)
  obtain ⟨w2, hrun, hRg, t2, hs2⟩ := hS1'.range Tryz.underlying89
  obtain ⟨r, hr⟩ : ∃ r, Hid (r = w1.heap.size) := ⟨_, hide rfl⟩
  rw [← hr.out] at hrun hRg
  have hwr : w.heap.size ≤ r := by rw [hr.out]; exact t1.size
  have hrl : ∀ g f, M g = ((16 : Int), f) → g < w.heap.size := fun g f e => by
    rcases Nat.lt_or_ge g w.heap.size with h | h
    · exact h
    · rw [hM, onlyL_new h] at e; simp at e
  have c7' : w1.cell? ⟨R, 7, none⟩ = some (.map (some o.us)) := t1.cell c7 (fun h => h)
  have HG : Hid (Gth w l r [] v1 w2) := hide ⟨by simpa using row_tb o1 t2 (fun _ _ h => h), fun g hg => by
    have := row_lt o1 hg
    rw [hr.out]; omega, t1.trans t2 (fun _ _ h => h)⟩
  have hpm : Hid (∀ ps : List (Int × List Stp), ps.Perm sec → (nms l ++ ps.flatMap (·.2)).Perm l) := hide (fun ps hp => by
    refine List.Perm.trans (List.Perm.append_left _ ((hp.flatMap_right (·.2)).trans (sec_perm hS1.un hS2))) ?_
    have := List.filter_append_perm (fun t : Stp => !t.sec) l
    simpa [nms] using this)
  have hpart : Hid (∀ ps qs : List (Int × List Stp), (ps ++ qs).Perm sec → (nms l ++ ps.flatMap (·.2)).length ≤ l.length) := hide (fun ps qs hp => by
    have := (hpm.out _ hp).length_eq
    rw [List.flatMap_append, ← List.append_assoc, List.length_append] at this
    omega)
  have hll : Hid (l.length < 1000000000) := hide (by omega)
  have HOK : Hid (∀ t ∈ l, t.Ok) := hide h.bk.ok
  have HUP := hide h.bk.up
  have HR := hide hRg
  have HL := hide hrl
  have HW := hide hwr
  have HU := hide hus
  have HI := hide hi
  clear h hrow hS1 hS2 hS3 hS1' hRg t1 hrl hLM hM hlen hns o1 g1 b1 t2 hs2 c7 hbl hwr hus hi
  go_enter Tryz.func55, Tryz.ntmps55
  go_wp2_with (refine wpList_append_run rfl (88 : TypeId) _ _ rfl (.slice none 0 0) ns v1 (by simp [Act.eval]) (by simp [Act.eval]) hr1 ?_)
  go_loopw [3] (fun nv wr => ∃ (v : Value) (ps qs : List (Int × List Stp)), v = nv ∧ Hid (Gth w l r ps v wr) ∧ Hid (Rg Stp.cells (115 : TypeId) 70 M 16 o.us sec r ps qs wr)) (fun _ wr => wr.rangeLeft o.us r)
  case atStart => exact ⟨v1, [], sec, rfl, HG, HR⟩
  case round =>
    obtain ⟨v, ps, qs, rfl, hg, hr⟩ := hrel
    go_wp2_with (at_next; refine wpList_next_rows hr.out rfl (.tmp 15) rfl rfl ?_ ?_ (fun g f e => by have := HL.out g f e; have := HW.out; omega))
    · intro hq
      subst hq
      have hp := hr.out.perm
      rw [List.append_nil] at hp
      have hp2 := hpm.out ps hp
      have hso := sort_any (hg.out.row.mono (Nat.zero_le _)) (fun t ht => HOK.out t (hp2.mem_iff.1 ht)) hp2 HUP.out (by rw [hp2.length_eq]; have := hll.out; omega)
      have hbase := hg.out.row.lt
      have HTB := hide hg.out.tb
      have HB := hide hbase
      clear hp hp2 hbase
      go_wp2_with (go_at_call 99; refine hso.mono ?_; rintro e w3 ⟨rfl, r1, r2⟩)
      go_ret
      refine ⟨_, rfl, ⟨r1.1, ?_⟩, HTB.out.trans r2 (fun k hk e => by have := HB.out k e; omega)⟩
      rcases r1.2 with h1 | ⟨g, cap, cur, h1, h2, h3⟩
      · exact .inl h1
      · exact .inr ⟨g, cap, cur, h1, (HB.out g (by rw [h1]; rfl)).1, h3⟩
    · intro f xs ad1 cap1 w' qs' hf hin hown hlab hrg hlt htb hsz hen
      have hG := hg.out
      have hrow' : w'.ownsRow w.heap.size (115 : TypeId) 70 v (nms l ++ ps.flatMap (·.2)).length ((nms l ++ ps.flatMap (·.2)).flatMap Stp.cells) := row_tb hG.row htb (fun g hg => hG.ne g hg)
      have hp2 := hpart.out _ _ hrg.perm
      have hll' := hll.out
      have e : nms l ++ (ps ++ [(f, xs)]).flatMap (·.2) = (nms l ++ ps.flatMap (·.2)) ++ xs := by simp
      rw [e, List.length_append] at hp2
      have hwr' : w.heap.size ≤ w'.heap.size := by rw [hsz]; exact hG.tb.size
      obtain ⟨v2, w2', hr2, o2, g2, b2⟩ := run_append_rows (P := Tryz.prog) (w := w') w.heap.size (88 : TypeId) (88 : TypeId) (115 : TypeId) i z 70 128 Tryz.underlying88 HI.out hz q1 q2 q3 (by decide) v _ _ hrow' (.slice ad1 xs.length cap1) _ _ 0 hown (cells_one _) (by unfold maxLen; omega) (by omega) hwr'
      have t3 : Tb (fun k => v.ownBlock = some k) w' w2' := Tb.of_grown g2 (fun k e => e)
      have hvb := hrow'.lt
      have HN : Hid (Gth w l r (ps ++ [(f, xs)]) v2 w2') := hide ⟨by rw [e, List.length_append, List.flatMap_append]; exact o2, fun g hg => by
        rcases b2 with b | b
        · rw [b] at hg; exact hG.ne g hg
        · rw [b] at hg
          have := hrg.lt.2
          cases hg
          omega, (hG.tb.trans htb (fun k hk e => by have := HW.out; omega)).trans t3 (fun k hk e => by have := hvb k e; omega)⟩
      have hnu : ¬ v.ownBlock = some o.us := fun e => by have := hvb _ e; have := HU.out; omega
      have hnr : ¬ v.ownBlock = some r := fun e => hG.ne _ e rfl
      have HRG : Hid (Rg Stp.cells (115 : TypeId) 70 M 16 o.us sec r (ps ++ [(f, xs)]) qs' w2') := hide (hrg.tb t3 hnu hnr (fun g f e e2 => by have := HL.out g f e; have := hvb _ e2; omega))
      have HLT : Hid (w2'.rangeLeft o.us r < wr.rangeLeft o.us r) := hide (by rw [left_heap (t3.block _ hrg.lt.1 hnu) (t3.block _ hrg.lt.2 hnr)]; exact hlt)
      obtain ⟨X, hX⟩ : ∃ X, Hid (X = xs.length) := ⟨_, hide rfl⟩
      rw [← hX.out] at hen hr2
      rw [← hX.out]
      clear hown hlab hrg hlt htb hin hp2 hsz hnu hnr hvb t3 b2 g2 o2 hwr' e hll' hrow' hG
      go_wp2_with (refine wpList_append_run rfl (88 : TypeId) _ _ rfl v (.slice ad1 X cap1) v2 (by simp [Act.eval]) (by simp [Act.eval]) hr2 ?_)
      go_roundw
      case rel => exact ⟨_, _, _, rfl, HN, HRG⟩
      case measure => exact HLT.out

end Go.Proofs.YtgbboaedhpaocaaGreat

/-
  Steps are carried out on a shape.
-/
import Derived.Test.YtkdolabhcbjipaaGreatDpu
namespace Go.Proofs.YtkdolabhcbjipaaGreat
open Go.RowKit
set_option maxRecDepth 100000

/-- A step is carried out. -/
def Shp.does (s : Shp) (t : Stp) : Shp :=
  if t.kind = 0 then ⟨st (s.take t.name.data.toList).nm t.name.data.toList t.file, st (s.take t.name.data.toList).rw t.file []⟩
  else if t.kind = 1 then s.put t.file t.at' t.data
  else if t.kind = 2 then s.cut t.file t.at'
  else if t.kind = 3 then
    (if (lk s.nm t.name.data.toList).getD 0 = t.file then ⟨st ((⟨dl s.nm t.name.data.toList, s.rw⟩ : Shp).take t.to.data.toList).nm t.to.data.toList t.file, ((⟨dl s.nm t.name.data.toList, s.rw⟩ : Shp).take t.to.data.toList).rw⟩ else s)
  else (if (lk s.nm t.name.data.toList).getD 0 = t.file then s.take t.name.data.toList else s)

theorem dl_le {κ ν : Type} [DecidableEq κ] (l : List (κ × ν)) (k : κ) : (dl l k).length ≤ l.length := List.length_filter_le _ _
theorem st_le {κ ν : Type} [DecidableEq κ] (l : List (κ × ν)) (k : κ) (v : ν) : (st l k v).length ≤ l.length + 1 := by
  unfold st
  rw [List.length_append]
  have := dl_le l k
  simp
  omega
theorem dl_mem {κ ν : Type} [DecidableEq κ] {l : List (κ × ν)} {k : κ} {p : κ × ν} (h : p ∈ dl l k) : p ∈ l := (List.mem_filter.1 h).1
theorem st_mem {κ ν : Type} [DecidableEq κ] {l : List (κ × ν)} {k : κ} {v : ν} {p : κ × ν} (h : p ∈ st l k v) : p ∈ l ∨ p = (k, v) := by
  rcases List.mem_append.1 h with h | h
  · exact .inl (dl_mem h)
  · exact .inr (by simpa using h)

section
variable {s : Shp} {K : Nat}
theorem Sm.mono (h : Sm s K) {K' : Nat} (hk : K ≤ K') : Sm s K' := ⟨Nat.le_trans h.nm hk, Nat.le_trans h.rw hk, h.file, h.row⟩
theorem Sm.take (h : Sm s K) (k : List UInt8) : Sm (s.take k) K :=
  ⟨Nat.le_trans (dl_le _ _) h.nm, Nat.le_trans (dl_le _ _) h.rw, fun p hp => h.file p (dl_mem hp), fun p hp => h.row p (dl_mem hp)⟩
theorem Sm.dln (h : Sm s K) (k : List UInt8) : Sm ⟨dl s.nm k, s.rw⟩ K := ⟨Nat.le_trans (dl_le _ _) h.nm, h.rw, fun p hp => h.file p (dl_mem hp), h.row⟩
theorem Sm.stn (h : Sm s K) (k : List UInt8) {f : Int} (hf : I6 f) : Sm ⟨st s.nm k f, s.rw⟩ (K + 1) :=
  ⟨Nat.le_trans (st_le _ _ _) (Nat.succ_le_succ h.nm), Nat.le_succ_of_le h.rw, fun p hp => (st_mem hp).elim (h.file p) (fun e => by rw [e]; exact hf), h.row⟩
theorem Sm.str (h : Sm s K) (f : Int) {r : List (List Int)} (hr : r.length ≤ 4096 ∧ ∀ x ∈ r, x.length = 64 ∧ ∀ z ∈ x, 0 ≤ z ∧ z ≤ 255) : Sm ⟨s.nm, st s.rw f r⟩ (K + 1) :=
  ⟨Nat.le_succ_of_le h.nm, Nat.le_trans (st_le _ _ _) (Nat.succ_le_succ h.rw), h.file, fun p hp => (st_mem hp).elim (h.row p) (fun e => by rw [e]; exact hr)⟩
theorem Sm.put (h : Sm s K) (f at' : Int) {d : List Int} (ha : 0 ≤ at' ∧ at' ≤ 4095) (hd : d.length = 64) (hb : ∀ z ∈ d, 0 ≤ z ∧ z ≤ 255) : Sm (s.put f at' d) (K + 1) := by
  unfold Shp.put
  cases e : lk s.rw f with
  | none => exact h.mono (Nat.le_succ _)
  | some r =>
    have hr := h.row _ (lk_mem e)
    refine h.str f ⟨?_, fun x hx => ?_⟩
    · simp only [putIn, List.length_set, List.length_append, List.length_replicate]
      have := hr.1
      simp only at this
      omega
    · rcases List.mem_or_eq_of_mem_set hx with hx | rfl
      · rcases List.mem_append.1 hx with hx | hx
        · exact hr.2 x hx
        · rw [(List.mem_replicate.1 hx).2]
          exact ⟨by simp, fun z hz => by rw [(List.mem_replicate.1 hz).2]; omega⟩
      · exact ⟨hd, hb⟩
theorem Sm.cut (h : Sm s K) (f at' : Int) : Sm (s.cut f at') (K + 1) := by
  unfold Shp.cut
  cases e : lk s.rw f with
  | none => exact h.mono (Nat.le_succ _)
  | some r =>
    have hr := h.row _ (lk_mem e)
    simp only
    split
    · exact h.str f ⟨by rw [List.length_take]; have := hr.1; simp only at this; omega, fun x hx => hr.2 x (List.mem_of_mem_take hx)⟩
    · exact h.mono (Nat.le_succ _)
theorem Stp.Ok.i6 {t : Stp} (h : t.Ok) : I6 t.file := ⟨by have := h.file; omega, h.file.2⟩
theorem Sm.does (h : Sm s K) {t : Stp} (ht : t.Ok) : Sm (s.does t) (K + 1) := by
  unfold Shp.does
  split
  · have h1 := (h.take t.name.data.toList).stn t.name.data.toList ht.i6
    have h2 := (h.take t.name.data.toList).str t.file (r := []) ⟨by simp, by simp⟩
    exact ⟨h1.nm, h2.rw, h1.file, h2.row⟩
  · split
    · next hk => exact h.put _ _ ⟨ht.at'.1, ht.put hk⟩ ht.data ht.byte
    · split
      · exact h.cut _ _
      · split
        · split
          · exact ((h.dln _).take _).stn _ ht.i6
          · exact h.mono (Nat.le_succ _)
        · split
          · exact (h.take _).mono (Nat.le_succ _)
          · exact h.mono (Nat.le_succ _)
end

/-- The labels as they are of what is there. -/
def onlyL (w : World) (L : Lb) : Lb := fun b => if b < w.heap.size then L b else (0, 0)
theorem onlyL_lx (w : World) (L : Lb) : Lx w L (onlyL w L) := fun b hb => by simp [onlyL, hb]
theorem onlyL_new {w : World} {L : Lb} {b : Nat} (h : w.heap.size ≤ b) : onlyL w L b = (0, 0) := by simp [onlyL, Nat.not_lt.2 h]

theorem Tl.labels {w w' : World} {L L' : Lb} {T : Int × Int → Prop} (h : Tl L' T w w') (hl : Lx w L L') : Tl L T w w' := Tb.mono h (fun i hi ht => by rw [hl i hi] at ht; exact ht)

set_option maxHeartbeats 2000000 in
theorem carry_any {w : World} {L : Lb} {a : Int} {nb rb : Nat} {s : Shp} {K : Nat} {t : Stp} (h : Sh w L a nb rb s) (ha : 0 < a) (hm : Sm s K) (hK : K < 9000000000000000000) (ht : t.Ok) :
    Calls Tryz.prog 40 #[.agg #[.map (some nb), .map (some rb)], .agg t.cells.toArray] w fun e w' => e = .returned (.tuple #[]) ∧ ∃ L', Lx w L L' ∧ Sh w' L' a nb rb (s.does t) ∧ Tl L (TA a) w w' := by
  obtain ⟨cs, hcs⟩ : ∃ cs, Hid (cs = t.cells.toArray) := ⟨_, hide rfl⟩
  have h1 : cs[1]? = some (.int .u8 t.kind) := by rw [hcs.out]; rfl
  have h2 : cs[2]? = some (.int .i64 t.file) := by rw [hcs.out]; rfl
  have h3 : cs[3]? = some (.string t.name) := by rw [hcs.out]; rfl
  have h4 : cs[4]? = some (.string t.to) := by rw [hcs.out]; rfl
  have h5 : cs[5]? = some (.int .i64 t.at') := by rw [hcs.out]; rfl
  have hsz : Hid (cs.size = 70) := hide (by rw [hcs.out, List.size_toArray]; exact ht.len)
  rw [← hcs.out]
  obtain ⟨W, HW⟩ : ∃ W, W = (w.alloc (.cells #[.map (some nb), .map (some rb)] (54 : TypeId))).alloc (.cells cs (87 : TypeId)) := ⟨_, rfl⟩
  have b0 : Tb (fun _ => False) w W := by rw [HW]; exact ((Tb.refl _ _).alloc _).alloc _
  obtain ⟨M, hM⟩ : ∃ M, M = onlyL w L := ⟨_, rfl⟩
  have hLM : Lx w L M := by rw [hM]; exact onlyL_lx w L
  have hS : Sh W M a nb rb s := h.tb b0 hLM (fun _ _ h => h)
  have hW0 : W.heap[w.heap.size]? = some (.cells #[.map (some nb), .map (some rb)] (54 : TypeId) (0, 0)) := by rw [HW]; exact (((Tb.refl (fun _ => False) _).alloc _).block w.heap.size (by simp) (fun h => h)).trans (heap_alloc_new w _)
  have hW1 : W.heap[w.heap.size + 1]? = some (.cells cs (87 : TypeId) (0, 0)) := by rw [HW]; simpa using heap_alloc_new (w.alloc (.cells #[.map (some nb), .map (some rb)] (54 : TypeId))) (.cells cs (87 : TypeId))
  have hM0 : ¬ TA a (M w.heap.size) := by rw [hM, onlyL_new (Nat.le_refl _)]; unfold TA; simp; omega
  have hM1 : ¬ TA a (M (w.heap.size + 1)) := by rw [hM, onlyL_new (Nat.le_succ _)]; unfold TA; simp; omega
  clear hM
  -- what stays of the two boxes
  have keep : ∀ W' : World, Tl M (TA a) W W' → Hid (W'.heap[w.heap.size]? = some (.cells #[.map (some nb), .map (some rb)] (54 : TypeId) (0, 0)) ∧ W'.heap[w.heap.size + 1]? = some (.cells cs (87 : TypeId) (0, 0))) := fun W' hT =>
    hide ⟨(hT.block _ (Array.getElem?_eq_some_iff.1 hW0).1 hM0).trans hW0, (hT.block _ (Array.getElem?_eq_some_iff.1 hW1).1 hM1).trans hW1⟩
  have fin : ∀ (W' : World) (L' : Lb) (s' : Shp), Lx W M L' → Sh W' L' a nb rb s' → Tl M (TA a) W W' → Hid (∃ L', Lx w L L' ∧ Sh W' L' a nb rb s' ∧ Tl L (TA a) w W') := fun W' L' s' hx hs hT =>
    hide ⟨L', hLM.trans (w' := W) hx b0.size, hs, Tl.trans (L := L) (T := TA a) (b0.mono (fun _ _ h => h.elim)) hT hLM (fun _ h => h)⟩
  have CL : ∀ X : World, Tl M (TA a) W X → X.cell? ⟨w.heap.size, 0, none⟩ = some (.map (some nb)) ∧ X.cell? ⟨w.heap.size, 1, none⟩ = some (.map (some rb)) ∧ X.cell? ⟨w.heap.size + 1, 2, none⟩ = some (.int .i64 t.file) ∧ X.cell? ⟨w.heap.size + 1, 3, none⟩ = some (.string t.name) ∧ X.cell? ⟨w.heap.size + 1, 4, none⟩ = some (.string t.to) := fun X hX => by
    obtain ⟨c0, c1⟩ := (keep X hX).out
    refine ⟨?_, ?_, ?_, ?_, ?_⟩
    · rw [cell_of_row X _ 0 _ (54 : TypeId) (0, 0) c0]; rfl
    · rw [cell_of_row X _ 1 _ (54 : TypeId) (0, 0) c0]; rfl
    · rw [cell_of_row X _ 2 _ (87 : TypeId) (0, 0) c1]; exact h2
    · rw [cell_of_row X _ 3 _ (87 : TypeId) (0, 0) c1]; exact h3
    · rw [cell_of_row X _ 4 _ (87 : TypeId) (0, 0) c1]; exact h4
  have HC := hide CL
  clear CL keep
  have hk := ht.kind
  rcases (by omega : t.kind = 0 ∨ t.kind = 1 ∨ t.kind = 2 ∨ t.kind = 3 ∨ t.kind = 4) with e | e | e | e | e
  · rw [e] at h1
    have ed : s.does t = ⟨st (s.take t.name.data.toList).nm t.name.data.toList t.file, st (s.take t.name.data.toList).rw t.file []⟩ := by unfold Shp.does; rw [if_pos e]
    have htake := take_any (x := t.name) hS hm (by have := ht.name; omega)
    have HP := hide htake
    have HF := hide fin
    have HM := hide (hm.take t.name.data.toList)
    have hnm : t.name.size ≤ 9223372036854775807 := by have := ht.name; omega
    have hi6 := hide ht.i6
    clear h hm hS hW0 hM0 hM1 b0 hLM ht htake fin hW1
    have HW' := hide HW
    clear HW
    go_enter Tryz.func40, Tryz.ntmps40
    go_wp2_with (go_at_call 65; rw [← HW'.out]; refine HP.out.mono ?_; rintro e w1 ⟨rfl, hs, hT⟩)
    obtain ⟨d0, d1, d2, d3, _⟩ := HC.out w1 hT
    have hne : nb ≠ rb := fun e2 => by have := hs.ln; rw [e2, hs.lr] at this; simp at this; omega
    have hsd : Sh w1.drew M a nb rb (s.take t.name.data.toList) := hs.none (Tb.refl _ _).drew
    have TN : ∀ {X Y : World}, X.mapTurned Y nb → Tl M (TA a) X Y := fun h => Tb.turned h (.inl (by rw [hs.ln]))
    have TR : ∀ {X Y : World}, X.mapTurned Y rb → Tl M (TA a) X Y := fun h => Tb.turned h (.inr (.inl (by rw [hs.lr])))
    have t1 : Tl M (TA a) W w1.drew := Tb.drew hT
    have bn := HM.out.nm
    have bw := HM.out.rw
    -- names first, then rows
    obtain ⟨wa, ra, na, ta⟩ := hsd.nm.store Tryz.underlying51 (by omega) hnm t.file
    have ka : Rw U (85 : TypeId) 64 wa M (a + 10) rb (s.take t.name.data.toList).rw := hsd.rw.tb (Tb.turned (S := fun k => k = nb) ta rfl) (Lx.refl _ _) hne.symm (fun g f e he => by rw [he, hs.ln] at e; simp at e; omega)
    obtain ⟨wb, rb1, nb1, tb1⟩ := ka.store (w := wa) (L' := M) (v := .slice none 0 0) (xs := []) Tryz.underlying52 (by omega) hi6.out (Tb.refl _ _) (Lx.refl _ _) (by rw [hs.lr]; simp) (World.ownsRow_nil _ _ _ _) (fun g hg => by cases hg) (fun g hg => by cases hg)
    have fa : Hid (∃ L', Lx w L L' ∧ Sh wb L' a nb rb (s.does t) ∧ Tl L (TA a) w wb) := by
      rw [ed]
      refine HF.out wb M _ (Lx.refl _ _) ⟨na.tb (Tb.turned (S := fun k => k = rb) tb1 rfl) hne, nb1, hs.ln, hs.lr⟩ ?_
      exact Tl.trans (Tl.trans t1 (TN ta) (Lx.refl _ _) (fun _ h => h)) (TR tb1) (Lx.refl _ _) (fun _ h => h)
    obtain ⟨a0, a1, a2, a3, _⟩ := HC.out wa (Tl.trans t1 (TN ta) (Lx.refl _ _) (fun _ h => h))
    clear hs hT hsd TN TR t1 bn bw na ta ka nb1 tb1 hne HM
    go_region
    all_goals go_end0
    exact ⟨rfl, fa⟩
  · rw [e] at h1
    have ed : s.does t = s.put t.file t.at' t.data := by unfold Shp.does; rw [if_neg (by omega), if_pos e]
    have hrange : W.rangeAt (w.heap.size + 1) 6 (U t.data) := fun j v hv => by
      rw [cell_of_row W _ _ _ (87 : TypeId) (0, 0) hW1, hcs.out]
      simp only [Stp.cells, List.getElem?_toArray]
      rw [List.getElem?_append_right (by simp)]
      simpa using hv
    have hput := put_any hS hm (by omega) ht.i6 ⟨ht.at'.1, ht.put e⟩ ht.data
    rw [← ed] at hput
    have HP := hide hput
    have HF := hide fin
    have hi : (Tryz.prog.info? (85 : TypeId)).map (·.size) = some (U t.data).length := by rw [U_length, ht.data]; kernel_rfl
    have HR := hide hrange
    clear h hm hS hW0 hM0 hM1 b0 hLM ht hput fin hrange
    rw [HW] at hW1
    have HW' := hide HW
    clear HW
    go_enter Tryz.func40, Tryz.ntmps40
    go_wp2_with (first
      | (refine wpList_load_mid rfl (85 : TypeId) _ rfl (w.heap.size + 1) 6 rfl (U t.data) _ (by rw [← HW'.out]; exact HR.out) Tryz.underlying85 rfl hi ?_)
      | (go_at_call 66; rw [← HW'.out]; refine HP.out.mono ?_; rintro e w1 ⟨rfl, L', hx, hs, hT⟩))
    go_end0
    exact ⟨rfl, HF.out w1 L' _ hx hs hT⟩
  · rw [e] at h1
    have ed : s.does t = s.cut t.file t.at' := by unfold Shp.does; rw [if_neg (by omega), if_neg (by omega), if_pos e]
    have hcut := cut_any hS hm (by omega) ht.i6 ht.at'
    rw [← ed] at hcut
    have HP := hide hcut
    have HF := hide fin
    clear h hm hS hW0 hM0 hM1 b0 hLM ht hcut fin hW1
    have HW' := hide HW
    clear HW
    go_enter Tryz.func40, Tryz.ntmps40
    go_wp2_with (go_at_call 67; rw [← HW'.out]; refine HP.out.mono ?_; rintro e w1 ⟨rfl, hs, hT⟩)
    go_end0
    exact ⟨rfl, HF.out w1 M _ (Lx.refl _ _) hs hT⟩
  · rw [e] at h1
    have hnm : t.name.size ≤ 9223372036854775807 := by have := ht.name; omega
    have hto : t.to.size ≤ 9223372036854775807 := by have := ht.to; omega
    have hfind := hS.nm.find Tryz.underlying51 zero3 hnm
    have hi6 := ht.i6
    by_cases hq : (lk s.nm t.name.data.toList).getD 0 = t.file
    · have ed : s.does t = ⟨st ((⟨dl s.nm t.name.data.toList, s.rw⟩ : Shp).take t.to.data.toList).nm t.to.data.toList t.file, ((⟨dl s.nm t.name.data.toList, s.rw⟩ : Shp).take t.to.data.toList).rw⟩ := by
        unfold Shp.does; rw [if_neg (by omega), if_neg (by omega), if_neg (by omega), if_pos e, if_pos hq]
      rw [hq] at hfind
      have hne : nb ≠ rb := fun e2 => by have := hS.ln; rw [e2, hS.lr] at this; simp at this; omega
      obtain ⟨wa, ra, na, ta⟩ := hS.nm.drop Tryz.underlying51 hnm 0
      have t1 : Tl M (TA a) W wa := Tb.turned ta (.inl (by rw [hS.ln]))
      have sa : Sh wa M a nb rb ⟨dl s.nm t.name.data.toList, s.rw⟩ := ⟨na, hS.rw.tb (Tb.turned (S := fun k => k = nb) ta rfl) (Lx.refl _ _) hne.symm (fun g f e he => by rw [he, hS.ln] at e; simp at e; omega), hS.ln, hS.lr⟩
      have htake := take_any (x := t.to) sa (hm.dln _) hto
      obtain ⟨a0, a1, a2, a3, a4⟩ := HC.out wa t1
      have hbn := ((hm.dln t.name.data.toList).take t.to.data.toList).nm
      have nx : ∀ w1 : World, Sh w1 M a nb rb ((⟨dl s.nm t.name.data.toList, s.rw⟩ : Shp).take t.to.data.toList) → Tl M (TA a) wa w1 → ∃ w2, (Instr.mapUpdate (51 : TypeId) (.map (some nb)) (.string t.to) (.int .i64 t.file)).run Tryz.prog w1 = .ok () w2 ∧
          Hid (∃ L', Lx w L L' ∧ Sh w2 L' a nb rb (s.does t) ∧ Tl L (TA a) w w2) := fun w1 hs hT => by
        obtain ⟨wb, rb1, nb1, tb1⟩ := hs.nm.store Tryz.underlying51 (by omega) hto t.file
        refine ⟨wb, rb1, ?_⟩
        rw [ed]
        refine fin wb M _ (Lx.refl _ _) ⟨nb1, hs.rw.tb (Tb.turned (S := fun k => k = nb) tb1 rfl) (Lx.refl _ _) hne.symm (fun g f e he => by rw [he, hS.ln] at e; simp at e; omega), hS.ln, hS.lr⟩ ?_
        exact Tl.trans (Tl.trans t1 hT (Lx.refl _ _) (fun _ h => h)) (Tb.turned tb1 (.inl (by rw [hS.ln])) : Tl M (TA a) w1 wb) (Lx.refl _ _) (fun _ h => h)
      have cl : ∀ w1 : World, Tl M (TA a) wa w1 → Hid (w1.cell? ⟨w.heap.size, 0, none⟩ = some (.map (some nb)) ∧ w1.cell? ⟨w.heap.size + 1, 2, none⟩ = some (.int .i64 t.file) ∧ w1.cell? ⟨w.heap.size + 1, 4, none⟩ = some (.string t.to)) := fun w1 hT => by
        obtain ⟨a0, a1, a2, a3, a4⟩ := HC.out w1 (Tl.trans t1 hT (Lx.refl _ _) (fun _ h => h))
        exact hide ⟨a0, a2, a4⟩
      have HP := hide htake
      have HN := hide nx
      have HL := hide cl
      clear h hm hS hW0 hM0 hM1 b0 hLM ht htake fin hW1 nx cl na ta t1 sa HC hq ed hbn
      subst HW
      go_enter Tryz.func40, Tryz.ntmps40
      go_wp2_with (go_at_call 65; refine HP.out.mono ?_; rintro e w1 ⟨rfl, hs, hT⟩; obtain ⟨w2, hr2, hf2⟩ := HN.out w1 hs hT; obtain ⟨b0, b2, b4⟩ := (HL.out w1 hT).out)
      go_end0
      exact ⟨rfl, hf2⟩
    · have ed : s.does t = s := by unfold Shp.does; rw [if_neg (by omega), if_neg (by omega), if_neg (by omega), if_pos e, if_neg hq]
      have hf := fin W M s (Lx.refl _ _) hS (Tb.refl _ _)
      rw [← ed] at hf
      obtain ⟨F, hF⟩ : ∃ F, F = (lk s.nm t.name.data.toList).getD 0 := ⟨_, rfl⟩
      rw [← hF] at hq hfind
      have hq' : (F == t.file) = false := by simpa using hq
      clear h hm hS hW0 hM0 hM1 b0 hLM ht fin hW1 HC ed hF
      subst HW
      go_enter Tryz.func40, Tryz.ntmps40
      go_wp2_with fail
      go_end0
      exact ⟨rfl, hf⟩
  · rw [e] at h1
    have hnm : t.name.size ≤ 9223372036854775807 := by have := ht.name; omega
    have hfind := hS.nm.find Tryz.underlying51 zero3 hnm
    by_cases hq : (lk s.nm t.name.data.toList).getD 0 = t.file
    · have ed : s.does t = s.take t.name.data.toList := by
        unfold Shp.does; rw [if_neg (by omega), if_neg (by omega), if_neg (by omega), if_neg (by omega), if_pos hq]
      rw [hq] at hfind
      have htake := take_any (x := t.name) hS hm hnm
      rw [← ed] at htake
      have HP := hide htake
      have HF := hide fin
      clear h hm hS hW0 hM0 hM1 b0 hLM ht htake fin hW1 HC hq ed
      subst HW
      go_enter Tryz.func40, Tryz.ntmps40
      go_wp2_with (go_at_call 65; refine HP.out.mono ?_; rintro e w1 ⟨rfl, hs, hT⟩)
      go_end0
      exact ⟨rfl, HF.out w1 M _ (Lx.refl _ _) hs hT⟩
    · have ed : s.does t = s := by unfold Shp.does; rw [if_neg (by omega), if_neg (by omega), if_neg (by omega), if_neg (by omega), if_neg hq]
      have hf := fin W M s (Lx.refl _ _) hS (Tb.refl _ _)
      rw [← ed] at hf
      obtain ⟨F, hF⟩ : ∃ F, F = (lk s.nm t.name.data.toList).getD 0 := ⟨_, rfl⟩
      rw [← hF] at hq hfind
      have hq' : (F == t.file) = false := by simpa using hq
      clear h hm hS hW0 hM0 hM1 b0 hLM ht fin hW1 HC ed hF
      subst HW
      go_enter Tryz.func40, Tryz.ntmps40
      go_wp2_with fail
      go_end0
      exact ⟨rfl, hf⟩

end Go.Proofs.YtkdolabhcbjipaaGreat

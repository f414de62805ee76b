/-
  How many steps are unsynced.
-/
import Derived.Test.YtgbboaedhpaocaaGreatDrg
namespace Go.Proofs.YtgbboaedhpaocaaGreat
open Go.RowKit
set_option maxRecDepth 100000
set_option maxRecDepth 100000

theorem flat_perm (sec : List (Int × List Stp)) : ∀ (m : List Stp), Un sec → (∀ p ∈ sec, p.2 = m.filter fun t => decide (t.file = p.1)) → (∀ x ∈ m, ∃ p ∈ sec, p.1 = x.file) → (sec.flatMap (·.2)).Perm m := by
  induction sec with
  | nil =>
    intro m _ _ h
    cases m with
    | nil => exact List.Perm.refl _
    | cons x m =>
      obtain ⟨p, hp, _⟩ := h x (by simp)
      cases hp
  | cons p sec ih =>
    intro m hu h1 h2
    obtain ⟨u1, u2⟩ := List.pairwise_cons.1 hu
    rw [List.flatMap_cons, h1 p (by simp)]
    refine List.Perm.trans (List.Perm.append_left _ (ih (m.filter fun t => !decide (t.file = p.1)) u2 (fun q hq => ?_) (fun x hx => ?_))) (List.filter_append_perm _ m)
    · rw [h1 q (by simp [hq]), List.filter_filter]
      congr 1
      funext t
      by_cases e : t.file = q.1
      · have : q.1 ≠ p.1 := fun e2 => u1 q hq e2.symm
        simp [e, this]
      · simp [e]
    · obtain ⟨hx1, hx2⟩ := List.mem_filter.1 hx
      obtain ⟨q, hq, hqe⟩ := h2 x hx1
      rcases List.mem_cons.1 hq with e | e
      · subst e
        simp [hqe] at hx2
      · exact ⟨q, e, hqe⟩

theorem sec_perm {sec : List (Int × List Stp)} {l : List Stp} (hu : Un sec) (h : ∀ f, (lk sec f).getD [] = scs l f) : (sec.flatMap (·.2)).Perm (l.filter Stp.sec) := by
  refine flat_perm sec _ hu (fun p hp => ?_) (fun x hx => ?_)
  · have := h p.1
    rw [mem_lk hu hp] at this
    simp only [Option.getD_some] at this
    rw [this]
    unfold scs
    rw [List.filter_filter]
    congr 1
    funext t
    exact Bool.and_comm _ _
  · obtain ⟨hx1, hx2⟩ := List.mem_filter.1 hx
    have := h x.file
    cases e : lk sec x.file with
    | none =>
      rw [e] at this
      simp only [Option.getD_none] at this
      have hm : x ∈ scs l x.file := List.mem_filter.2 ⟨hx1, by simp [hx2]⟩
      rw [← this] at hm
      cases hm
    | some xs => exact ⟨_, lk_mem e, rfl⟩

theorem both_length (l : List Stp) : (nms l).length + (l.filter Stp.sec).length = l.length := by
  unfold nms
  induction l with
  | nil => rfl
  | cons t l ih => cases hs : t.sec <;> simp [hs] <;> omega

theorem flat_length (sec : List (Int × List Stp)) : (sec.flatMap (·.2)).length = (sec.map fun p => p.2.length).sum := by
  induction sec with
  | nil => rfl
  | cons p sec ih => simp [List.flatMap_cons, ih]

set_option maxHeartbeats 2000000 in
theorem count_any {w : World} {L : Lb} {R : Nat} {o : Ob} {dur std : Shp} {l : List Stp} (h : Di w L R o dur std l) (hlast : o.last < 1000000000) :
    Calls Tryz.prog 84 #[.pointer (some ⟨R, 5, none⟩)] w fun e w' => e = .returned (.int .i64 l.length) ∧ Tb (fun _ => False) w w' := by
  have hlen := h.bk.length
  obtain ⟨N, hN⟩ : ∃ N, Hid (N = (nms l).length) := ⟨_, hide rfl⟩
  have hrow := h.bk.row
  rw [← hN.out] at hrow
  have c6 : w.cell? ⟨R, 6, none⟩ = some o.ns := h.oj.c 6
  have c7 : w.cell? ⟨R, 7, none⟩ = some (.map (some o.us)) := h.oj.c 7
  obtain ⟨ns, hns⟩ : ∃ ns, ns = o.ns := ⟨_, rfl⟩
  rw [← hns] at hrow c6
  obtain ⟨ad, cap, rfl⟩ := row_val hrow
  obtain ⟨sec, hS1, hS2, hS3⟩ := h.bk.map
  obtain ⟨M, hM⟩ : ∃ M, M = onlyL w L := ⟨_, rfl⟩
  have hLM : Lx w L M := by rw [hM]; exact onlyL_lx w L
  have hS1' := hS1.tb (Tb.refl (fun _ => False) w) hLM (fun h => h) (fun _ _ _ h => h)
  obtain ⟨w1, hrun, hRg, t1, hs1⟩ := hS1'.range Tryz.underlying89
  have hrl : ∀ g f, M g = ((16 : Int), f) → g ≠ w.heap.size := fun g f e e2 => by rw [e2, hM, onlyL_new (Nat.le_refl _)] at e; simp at e
  have hsum : Hid (∀ ps : List (Int × List Stp), ps.Perm sec → N + (ps.map fun p => p.2.length).sum = l.length) := hide (fun ps hp => by
    rw [hN.out, ← flat_length, (hp.flatMap_right (·.2)).length_eq, (sec_perm hS1.un hS2).length_eq]
    exact both_length l)
  have hpart : Hid (∀ ps qs : List (Int × List Stp), (ps ++ qs).Perm sec → N + (ps.map fun p => p.2.length).sum ≤ l.length) := hide (fun ps qs hp => by
    have := hsum.out _ hp
    rw [List.map_append, List.sum_append] at this
    omega)
  have hll : l.length < 1000000000 := by omega
  have HR := hide hRg
  have HT := hide t1
  have HL := hide hrl
  clear h hrow hS1 hS2 hS3 hS1' hRg t1 hrl hLM hM hlen hns
  go_enter Tryz.func84, Tryz.ntmps84
  go_wp2_with fail
  go_loopw [3] (fun nv wr => ∃ (ps qs : List (Int × List Stp)) (m : Nat), nv = .int .i64 m ∧ m ≤ 1000000000 ∧ Hid (m = N + (ps.map fun p => p.2.length).sum) ∧ Hid (Rg Stp.cells (115 : TypeId) 70 M 16 o.us sec w.heap.size ps qs wr) ∧ Hid (Tb (fun _ => False) w wr)) (fun _ wr => wr.rangeLeft o.us w.heap.size)
  case atStart => exact ⟨[], sec, N, rfl, by have := hpart.out [] sec (List.Perm.refl _); simp at this; omega, hide (by simp), HR, HT⟩
  case round =>
    obtain ⟨ps, qs, m, rfl, hm, hm2, hr, ht⟩ := hrel
    go_wp2_with (at_next; refine wpList_next_rows hr.out rfl (.tmp 15) rfl rfl ?_ ?_ HL.out)
    · intro hq
      subst hq
      have hp := hr.out.perm
      rw [List.append_nil] at hp
      have hfin : Hid (m = l.length) := hide (by rw [hm2.out]; exact hsum.out ps hp)
      clear hp
      go_wp2_with fail
      go_ret
      exact ⟨by rw [← hfin.out]; rfl, ht.out⟩
    · intro f xs ad1 cap1 w' qs' hf hin hown hlab hrg hlt htb hsz hen
      have hp2 := hpart.out _ _ hrg.perm
      rw [List.map_append, List.sum_append] at hp2
      simp only [List.map_cons, List.map_nil, List.sum_cons, List.sum_nil, Nat.add_zero] at hp2
      obtain ⟨X, hX⟩ : ∃ X, Hid (X = xs.length) := ⟨_, hide rfl⟩
      rw [← hX.out] at hen hp2
      rw [← hX.out]
      have hmX : m + X ≤ 1000000000 := by rw [hm2.out]; omega
      have HRG := hide hrg
      have HLT := hide hlt
      have HTB := hide htb
      clear hown hlab hrg hlt htb hin hp2 hsz
      go_wp2_with fail
      go_roundw
      case rel =>
        refine ⟨ps ++ [(f, xs)], qs', m + X, by simp, hmX, hide ?_, HRG, hide ?_⟩
        · rw [hm2.out, List.map_append, List.sum_append, hX.out]
          simp
          omega
        · exact ht.out.trans HTB.out (fun k hk e => by omega)
      case measure => exact HLT.out

set_option maxHeartbeats 1000000 in
theorem pending_any {w : World} {L : Lb} {R : Nat} {o : Ob} {dur std : Shp} {l : List Stp} (h : Di w L R o dur std l) (hlast : o.last < 1000000000) :
    Calls Tryz.prog 31 #[.pointer (some ⟨R, 0, none⟩)] w fun e w' => e = .returned (.int .i64 l.length) ∧ Tb (fun _ => False) w w' := by
  have hr := right_yes h.oj
  have hc := count_any h hlast
  clear h
  go_enter Tryz.func31, Tryz.ntmps31
  go_wp2_with (first | (go_at_call 54; refine hr.mono ?_; rintro e w1 ⟨rfl, hw1⟩; subst w1) | (go_at_call 84; refine hc.mono ?_; rintro e w1 ⟨rfl, t1⟩))
  go_ret
  exact ⟨rfl, t1⟩

end Go.Proofs.YtgbboaedhpaocaaGreat

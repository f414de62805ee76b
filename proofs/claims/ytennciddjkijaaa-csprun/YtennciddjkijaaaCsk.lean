/-
  CspTurns: turns that were taken, and who is ready or parked.
-/
import Derived.Test.YtennciddjkijaaaCsj
import Derived.Test.YtennciddjkijaaaCmi
namespace Go.Proofs.Ytennciddjkijaaa
open Go.RowKit QI
set_option maxRecDepth 100000
set_option linter.unusedSimpArgs false

/-- How many turns were taken. -/
def Sg.cnt (σ : Sg) : Nat := (σ.ev.filter fun e => decide (0 ≤ e.2.1)).length
theorem cnt_note (σ : Sg) (i what n : Int) : (σ.note i what n).cnt = σ.cnt + if 0 ≤ what then 1 else 0 := by
  unfold Sg.cnt Sg.note
  by_cases h : 0 ≤ what <;> simp [List.filter_append, h]
theorem cnt_ev {σ σ' : Sg} (h : σ'.ev = σ.ev) : σ'.cnt = σ.cnt := by unfold Sg.cnt; rw [h]
theorem cnt_acts (np : Nat) (σ : Sg) (i : Nat) (q : Pt) (d : Dop) (rest : Nat) : (σ.acts np i q d rest).cnt = σ.cnt := by
  have hw : ∀ k y, (σ.wake k y).cnt = σ.cnt := fun k y => cnt_ev (by unfold Sg.wake; split <;> rfl)
  have hs : ∀ k, (σ.spawn k).cnt = σ.cnt := fun k => cnt_ev (by unfold Sg.spawn; split <;> rfl)
  have hg : ∀ τ : Sg, (τ.gets i q).cnt = τ.cnt := fun τ => cnt_ev rfl
  unfold Sg.acts
  split
  · exact hg σ
  split
  · exact cnt_ev rfl
  split
  · rw [hg, cnt_note, hw]; simp
  split
  · rw [hg, cnt_note, hs]; simp
  split
  · rw [cnt_note, hg]; simp
  split
  · rw [hg, cnt_note]; simp
  split
  · rw [hg, cnt_note]; simp
  · rfl
theorem cnt_step (ps : List (List Dop)) (σ : Sg) (p : Nat) : (σ.step ps p).cnt = σ.cnt + if σ.line ≠ [] then 1 else 0 := by
  unfold Sg.step
  by_cases h : σ.line = []
  · simp [h]
  · rw [if_neg (by simpa using h), if_pos h]
    have hf : ∀ (τ : Sg) (i : Nat), (τ.fin i).cnt = τ.cnt := fun τ i => cnt_ev (by unfold Sg.fin; split <;> rfl)
    simp only [Sg.turn]
    rw [hf, cnt_acts, cnt_note]
    rw [if_pos (by omega)]
    rfl

section
variable {w w' : World} {L B : Nat} {σ : Sg} {F D Pb : Nat → Prop} {R : Nat} {bs : List Nat} {left : Nat} {pa : Option Addr} {np pcap N : Nat} {ps : List (List Dop)}

/-- Who is ready or parked: each once, and just those that are not over. -/
theorem Wt.ids (h : Wt w L B pa np pcap ps Pb R bs σ N F D) : (σ.line ++ σ.pkd).Nodup ∧ ∀ x, x ∈ σ.line ++ σ.pkd ↔ ∃ (i : Nat) (p : Pt), x = (i : Int) ∧ σ.tk[i]? = some p ∧ p.st ≠ 0 := by
  obtain ⟨l, wd⟩ := h.wd
  obtain ⟨a, s, tv, ev, m, q1, q2, q3, _⟩ := wd.ex
  have hline : ∀ x, x ∈ σ.line ↔ ∃ (i : Nat) (p : Pt), x = (i : Int) ∧ σ.tk[i]? = some p ∧ p.st = 1 := fun x => by
    rw [← m.ln, m.rt.ok.mem]
    constructor
    · rintro ⟨i, t, rfl, hi, ho⟩
      have hil : i < σ.tk.length := by rw [← m.len]; exact (List.getElem?_eq_some_iff.1 hi).1
      have hp : σ.tk[i]? = some σ.tk[i] := List.getElem?_eq_getElem hil
      have ht := m.cl i t _ hi hp
      refine ⟨i, _, rfl, hp, ?_⟩
      have hle := ht.le
      have h4 : σ.tk[i].st = 0 ∨ σ.tk[i].st = 1 ∨ σ.tk[i].st = 2 ∨ σ.tk[i].st = 3 := by omega
      rcases h4 with e | e | e | e
      · rw [(ht.r0 e).2.1] at ho; cases ho
      · exact e
      · rw [(ht.r2 e).2.1] at ho; cases ho
      · rw [(ht.r3 e).1] at ho; cases ho
    · rintro ⟨i, p, rfl, hp, hs⟩
      have hil : i < s.ts.length := by rw [m.len]; exact (List.getElem?_eq_some_iff.1 hp).1
      have hi : s.ts[i]? = some s.ts[i] := List.getElem?_eq_getElem hil
      exact ⟨i, _, rfl, hi, ((m.cl i _ p hi hp).r1 hs).1.on⟩
  have hpk : ∀ x, x ∈ σ.pkd ↔ ∃ (i : Nat) (p : Pt), x = (i : Int) ∧ σ.tk[i]? = some p ∧ p.st = 3 := fun x => by
    simp only [Sg.pkd, List.mem_filter, List.mem_map, List.mem_range, decide_eq_true_eq]
    constructor
    · rintro ⟨⟨i, hi, rfl⟩, hs⟩
      have hp : σ.tk[i]? = some σ.tk[i] := List.getElem?_eq_getElem hi
      refine ⟨i, _, rfl, hp, ?_⟩
      have : (σ.tk.getD ((i : Int)).toNat pt0).st = 3 := hs
      simpa [List.getD, hp] using this
    · rintro ⟨i, p, rfl, hp, hs⟩
      refine ⟨⟨i, (List.getElem?_eq_some_iff.1 hp).1, rfl⟩, ?_⟩
      simp [List.getD, hp, hs]
  have hpn : σ.pkd.Nodup := by
    rw [← m.pkd]
    exact (parked_rises s).imp (fun h => by omega)
  refine ⟨List.nodup_append.2 ⟨by rw [← m.ln]; exact m.rt.ok.nd, hpn, fun x hx y hy e => ?_⟩, fun x => ?_⟩
  · subst e
    obtain ⟨i, p, rfl, hp, hs⟩ := (hline x).1 hx
    obtain ⟨j, q, e, hq, hs'⟩ := (hpk _).1 hy
    obtain rfl : i = j := by omega
    rw [hp] at hq
    cases hq
    omega
  · rw [List.mem_append, hline, hpk]
    constructor
    · rintro (⟨i, p, rfl, hp, hs⟩ | ⟨i, p, rfl, hp, hs⟩)
      · exact ⟨i, p, rfl, hp, by omega⟩
      · exact ⟨i, p, rfl, hp, by omega⟩
    · rintro ⟨i, p, rfl, hp, hs⟩
      have hil : i < s.ts.length := by rw [m.len]; exact (List.getElem?_eq_some_iff.1 hp).1
      have hi : s.ts[i]? = some s.ts[i] := List.getElem?_eq_getElem hil
      have ht := m.cl i _ p hi hp
      have hle := ht.le
      have h4 : p.st = 1 ∨ p.st = 2 ∨ p.st = 3 := by omega
      rcases h4 with e | e | e
      · exact .inl ⟨i, p, rfl, hp, e⟩
      · have := (ht.r2 e).1
        rw [q3] at this
        cases this
      · exact .inr ⟨i, p, rfl, hp, e⟩

theorem cnt_take (l : List (Int × Int × Int)) {k : Nat} {e : Int × Int × Int} (hk : l[k]? = some e) : ((l.take (k + 1)).filter fun e => decide (0 ≤ e.2.1)).length = ((l.take k).filter fun e => decide (0 ≤ e.2.1)).length + if 0 ≤ e.2.1 then 1 else 0 := by
  have hl : k < l.length := (List.getElem?_eq_some_iff.1 hk).1
  rw [List.take_succ_eq_append_getElem hl, (List.getElem?_eq_some_iff.1 hk).2, List.filter_append]
  by_cases h : 0 ≤ e.2.1 <;> simp [h]

set_option maxHeartbeats 1000000 in
/-- The law's turns(): how many turns were taken. -/
theorem turns_any (h : Wt w L B pa np pcap ps Pb R bs σ N F D) (hN : N ≤ 1000) {g : Nat} (hg : w.cell? ⟨g, 0, none⟩ = some (.pointer (some ⟨B, 0, none⟩))) :
    Calls Try.prog 40 #[.pointer (some ⟨g, 0, none⟩)] w fun e w' => e = .returned (.int .i64 σ.cnt) ∧ Below w.heap.size w w' := by
  obtain ⟨pe, ce, c3, hev⟩ := h.c3
  have hel := h.el
  obtain ⟨n, hn⟩ : ∃ n, Hid (n = σ.ev.length) := ⟨_, hide rfl⟩
  have hn2 : (n : Int) ≤ 2000 := by have := hn.out; omega
  rw [← hn.out] at c3 hev
  have hfull : Hid (((σ.ev.take n).filter fun e => decide (0 ≤ e.2.1)).length = σ.cnt) := hide (by rw [hn.out, List.take_length]; rfl)
  have hcell : Hid (∀ k, k < n → ∃ ge e, pe = some ⟨ge, 0, none⟩ ∧ σ.ev[k]? = some e ∧ ∀ V, Below w.heap.size w V → V.cell? ⟨ge, k * 3, none⟩ = some (.int .i64 e.1) ∧ V.cell? ⟨ge, k * 3 + 1, none⟩ = some (.int .i64 e.2.1) ∧ V.cell? ⟨ge, k * 3 + 2, none⟩ = some (.int .i64 e.2.2)) := hide (fun k hk => by
    obtain ⟨ge, hge, _, hc⟩ := hev (by omega)
    have hkl : k < σ.ev.length := by rw [← hn.out]; exact hk
    have hx : σ.ev[k]? = some σ.ev[k] := List.getElem?_eq_getElem hkl
    obtain ⟨j1, j2, j3⟩ := hc k _ hx
    exact ⟨ge, _, hge, hx, fun V hV => ⟨(hV.cell (cell_lt j1)).trans j1, (hV.cell (cell_lt j2)).trans j2, (hV.cell (cell_lt j3)).trans j3⟩⟩)
  have hle : Hid (∀ k, ((σ.ev.take k).filter fun e => decide (0 ≤ e.2.1)).length ≤ k) := hide (fun k => Nat.le_trans (List.length_filter_le _ _) (List.length_take_le _ _))
  generalize σ.cnt = c at *
  clear h hev hel
  go_enter Try.func40, Try.ntmps40
  go_wp2_with fail
  go_loopw [2, 10] (fun nv iv wr => ∃ k m : Nat, k ≤ n ∧ iv = .int .i64 k ∧ nv = .int .i64 m ∧ m ≤ k ∧ Hid (m = ((σ.ev.take k).filter fun e => decide (0 ≤ e.2.1)).length) ∧ Hid (Below w.heap.size w wr)) (fun _ iv _ => n - (intOf iv).toNat)
  case atStart => exact ⟨0, 0, Nat.zero_le _, rfl, rfl, Nat.le_refl _, hide (by simp), hide (Below.refl _ _)⟩
  case round =>
    obtain ⟨k, m, hk, rfl, rfl, hmk, hm, hb⟩ := hrel
    by_cases hlt : k < n
    · obtain ⟨ge, e, hge, hx, hc⟩ := hcell.out k hlt
      obtain ⟨j1, j2, j3⟩ := hc wr hb.out
      subst hge
      obtain ⟨e1, e2, e3⟩ := e
      simp only at j1 j2 j3
      obtain ⟨G, hG⟩ : ∃ G, Hid (G = wr.heap.size) := ⟨_, hide rfl⟩
      obtain ⟨Y, hY⟩ : ∃ Y, Hid (Y = wr.alloc (.cells #[.int .i64 e1, .int .i64 e2, .int .i64 e3] (64 : TypeId))) := ⟨_, hide rfl⟩
      have hYG : Y.heap[G]? = some (.cells #[.int .i64 e1, .int .i64 e2, .int .i64 e3] (64 : TypeId) (0, 0)) := by rw [hY.out, hG.out]; exact heap_alloc_new wr _
      have y1 : Y.cell? ⟨G, 1, none⟩ = some (.int .i64 e2) := cell_of_row Y _ 1 _ _ _ hYG
      have HBY : Hid (Below w.heap.size w Y) := hide (by rw [hY.out]; exact hb.out.alloc hb.out.size _)
      have hstep := cnt_take σ.ev hx
      have HG : Hid (wr.heap.size = G) := hide hG.out.symm
      have hw1 : IntKind.i64.wrap ((k : Int) + 1) = ((k + 1 : Nat) : Int) := by rw [IntKind.wrap_i64]; omega
      have hw2 : IntKind.i64.wrap ((m : Int) + 1) = ((m + 1 : Nat) : Int) := by rw [IntKind.wrap_i64]; omega
      have hkn : (k : Int) < (n : Int) := by omega
      clear hc hYG
      by_cases h0 : 0 ≤ e2
      · have HM : Hid (m + 1 = ((σ.ev.take (k + 1)).filter fun e => decide (0 ≤ e.2.1)).length) := hide (by rw [hstep, if_pos h0, hm.out])
        clear hstep
        go_wp2_with (first | (rw [← hY.out, HG.out]))
        go_roundw
        case rel => exact ⟨k + 1, m + 1, by omega, by go_num, by go_num, by omega, HM, HBY⟩
        case measure => simp [intOf]; omega
      · have HM : Hid (m = ((σ.ev.take (k + 1)).filter fun e => decide (0 ≤ e.2.1)).length) := hide (by rw [hstep, if_neg h0, hm.out]; rfl)
        have q0 : decide ((0 : Int) ≤ e2) = false := by simpa using h0
        clear hstep
        go_wp2_with (first | (rw [← hY.out, HG.out]))
        go_roundw
        case rel => exact ⟨k + 1, m, by omega, by go_num, by go_num, by omega, HM, HBY⟩
        case measure => simp [intOf]; omega
    · obtain rfl : k = n := by omega
      have HM : Hid (m = c) := hide (by rw [hm.out, hfull.out])
      go_wp2_with fail
      go_ret
      exact ⟨by rw [← HM.out]; rfl, hb.out⟩
end

end Go.Proofs.Ytennciddjkijaaa

/-
  The law's world: a step.
-/
import Derived.Test.YtennciddjkijaaaCsg
namespace Go.Proofs.Ytennciddjkijaaa
open Go.RowKit QI
set_option maxRecDepth 100000
set_option linter.unusedSimpArgs false

/-- A tale as it may be: np programs; no place above N. -/
structure Sok (np N : Nat) (σ : Sg) : Prop where
  at' : ∀ p ∈ σ.tk, p.at' ≤ N ∧ p.prog < np
  tl : σ.tk.length ≤ N
  el : σ.ev.length ≤ 2 * N
  ln : ∀ x ∈ σ.line, ∃ (i : Nat) (p : Pt), x = (i : Int) ∧ σ.tk[i]? = some p ∧ p.st = 1

section
variable {w w' : World} {L B : Nat} {σ : Sg} {F D Pb : Nat → Prop} {R : Nat} {bs : List Nat} {left : Nat} {pa : Option Addr} {np pcap N : Nat} {ps : List (List Dop)} {pv : Value}

/-- The law's world between steps. -/
structure Wt (w : World) (L B : Nat) (pa : Option Addr) (np pcap : Nat) (ps : List (List Dop)) (Pb : Nat → Prop) (R : Nat) (bs : List Nat) (σ : Sg) (N : Nat) (F D : Nat → Prop) : Prop where
  wd : ∃ left, Wd w L B (.slice pa np pcap) R bs σ none left F D
  pg : Pg w Pb D pa np pcap ps
  low : L ≤ w.heap.size
  ok : ∀ p ∈ σ.tk, p.at' ≤ N ∧ p.prog < np
  tl : σ.tk.length ≤ N
  el : σ.ev.length ≤ 2 * N
  np1 : 0 < np ∧ np ≤ 1000
  psl : ps.length = np

theorem Wt.tb {S : Nat → Prop} (h : Wt w L B pa np pcap ps Pb R bs σ N F D) (t : Tb S w w') (hs : ∀ k, D k ∨ Pb k → ¬ S k) : Wt w' L B pa np pcap ps Pb R bs σ N F D := by
  obtain ⟨l, wd⟩ := h.wd
  exact ⟨⟨l, wd.tb t (fun k hk => hs k (.inl hk))⟩, ⟨h.pg.pgs.tb t (fun k hk => hs k (.inr hk)), fun k hk => Nat.lt_of_lt_of_le (h.pg.lt k hk) t.size, h.pg.ap⟩, Nat.le_trans h.low t.size, h.ok, h.tl, h.el, h.np1, h.psl⟩
theorem Wt.below (h : Wt w L B pa np pcap ps Pb R bs σ N F D) (hb : Below w.heap.size w w') : Wt w' L B pa np pcap ps Pb R bs σ N F D :=
  h.tb (S := fun _ => False) (Tb.of_fresh hb) (fun _ _ h => h)

theorem mem_gets {σ : Sg} {i : Nat} {q x : Pt} (h : x ∈ (σ.gets i q).tk) : x = { q with st := 1 } ∨ x ∈ σ.tk := (List.mem_or_eq_of_mem_set h).symm
theorem mem_put {σ : Sg} {i : Nat} {q x : Pt} (h : x ∈ (σ.put i q).tk) : x = q ∨ x ∈ σ.tk := (List.mem_or_eq_of_mem_set h).symm
theorem getD_mem {l : List Pt} {i : Nat} (h : l.getD i pt0 ∉ l) : l.getD i pt0 = pt0 := by
  rcases Nat.lt_or_ge i l.length with hl | hl
  · refine absurd ?_ h
    simp [List.getD, List.getElem?_eq_getElem hl]
  · simp [List.getD, List.getElem?_eq_none hl]

/-- What holds of places, programs and lengths behind what a task does. -/
structure Bnd (np N T E : Nat) (σ : Sg) : Prop where
  ok : ∀ p ∈ σ.tk, p.at' ≤ N ∧ p.prog < np
  tl : σ.tk.length ≤ T
  el : σ.ev.length ≤ E
theorem Bnd.note {T E : Nat} (h : Bnd np N T E σ) (i what n : Int) : Bnd np N T (E + 1) (σ.note i what n) := ⟨h.ok, h.tl, by simp [Sg.note]; exact h.el⟩
theorem Bnd.gets {T E : Nat} (h : Bnd np N T E σ) (i : Nat) {q : Pt} (hq : q.at' ≤ N ∧ q.prog < np) : Bnd np N T E (σ.gets i q) := ⟨fun p hp => (mem_gets hp).elim (fun e => by rw [e]; exact hq) (h.ok p), by simp [Sg.gets]; exact h.tl, h.el⟩
theorem Bnd.put {T E : Nat} (h : Bnd np N T E σ) (i : Nat) {q : Pt} (hq : q.at' ≤ N ∧ q.prog < np) : Bnd np N T E (σ.put i q) := ⟨fun p hp => (mem_put hp).elim (fun e => by rw [e]; exact hq) (h.ok p), by simp [Sg.put]; exact h.tl, h.el⟩
theorem Bnd.getD {T E : Nat} (h : Bnd np N T E σ) (hn : 0 < np) (i : Nat) : (σ.tk.getD i pt0).at' ≤ N ∧ (σ.tk.getD i pt0).prog < np := by
  by_cases hm : σ.tk.getD i pt0 ∈ σ.tk
  · exact h.ok _ hm
  · rw [getD_mem hm]; exact ⟨Nat.zero_le _, hn⟩
theorem Bnd.wake {T E : Nat} (h : Bnd np N T E σ) (hn : 0 < np) (k why : Int) : Bnd np N T E (σ.wake k why) := by
  unfold Sg.wake
  split
  · exact h.gets _ (q := { σ.tk.getD k.toNat pt0 with why := why }) (h.getD hn k.toNat)
  · exact h
theorem Bnd.spawn {T E : Nat} (h : Bnd np N T E σ) {prog : Nat} (hp : prog < np) : Bnd np N (T + 1) E (σ.spawn prog) := by
  unfold Sg.spawn
  split
  · exact ⟨h.ok, Nat.le_succ_of_le h.tl, h.el⟩
  · refine ⟨fun p hp' => ?_, by simp [Sg.add]; exact h.tl, h.el⟩
    rcases List.mem_append.1 hp' with h1 | h1
    · exact h.ok p h1
    · simp only [List.mem_singleton] at h1
      subst h1
      exact ⟨Nat.zero_le _, hp⟩
theorem Bnd.mono {T E T' E' : Nat} (h : Bnd np N T E σ) (h1 : T ≤ T') (h2 : E ≤ E') : Bnd np N T' E' σ := ⟨h.ok, Nat.le_trans h.tl h1, Nat.le_trans h.el h2⟩
theorem Bnd.acts {T E : Nat} (h : Bnd np N T E σ) (hn : 0 < np) (i : Nat) {q : Pt} (hq : q.at' ≤ N ∧ q.prog < np) (d : Dop) (rest : Nat) : Bnd np N (T + 1) (E + 1) (σ.acts np i q d rest) := by
  unfold Sg.acts
  split
  · exact (h.gets i hq).mono (by omega) (by omega)
  split
  · exact (h.put i (q := { q with st := 3 }) hq).mono (by omega) (by omega)
  split
  · exact (((h.wake hn _ _).note _ _ _).gets i hq).mono (by omega) (by omega)
  split
  · exact (((h.spawn (pck_lt _ hn)).note _ _ _).gets i hq).mono (by omega) (by omega)
  split
  · exact ((h.gets i hq).note _ _ _).mono (by omega) (by omega)
  split
  · exact ((h.note _ _ _).gets i hq).mono (by omega) (by omega)
  split
  · exact ((h.note _ _ _).gets i hq).mono (by omega) (by omega)
  · exact h.mono (by omega) (by omega)
theorem Bnd.fin {T E : Nat} (h : Bnd np N T E σ) (hn : 0 < np) (i : Nat) : Bnd np N T E (σ.fin i) := by
  unfold Sg.fin
  split
  · exact h.put i (q := { σ.tk.getD i pt0 with st := 0 }) (h.getD hn i)
  · exact h
theorem Bnd.step {T E : Nat} (h : Bnd np N T E σ) (hn : 0 < np) (hp : ps.length = np) (p : Nat) : Bnd np (N + 1) (T + 1) (E + 2) (σ.step ps p) := by
  have up : Bnd np (N + 1) T E σ := ⟨fun p hp => ⟨Nat.le_succ_of_le (h.ok p hp).1, (h.ok p hp).2⟩, h.tl, h.el⟩
  unfold Sg.step
  split
  · exact up.mono (by omega) (by omega)
  · have hg := h.getD hn (σ.line.getD (p % σ.line.length) 0).toNat
    simp only [Sg.turn]
    rw [hp]
    have up2 : Bnd np (N + 1) T E { σ with line := σ.line.eraseIdx (p % σ.line.length) } := ⟨up.ok, up.tl, up.el⟩
    have hq : (σ.tk.getD (σ.line.getD (p % σ.line.length) 0).toNat pt0).at' + 1 ≤ N + 1 ∧ (σ.tk.getD (σ.line.getD (p % σ.line.length) 0).toNat pt0).prog < np := ⟨by omega, hg.2⟩
    exact ((((up2.put _ (q := ⟨_, _, 2, 0⟩) hq).note _ _ _).acts hn _ (q := ⟨_, _, 2, 0⟩) hq _ _).fin hn _).mono (by omega) (by omega)

/-- Behind the turn: who has said nothing is over. -/
theorem Wd.done {i : Nat} {a2 : Ad} {s2 : Rs} {tv ev : Value} {w2 : World} (m : Wm w2 L B pv a2 s2 σ F tv ev) (hd : ∀ k, D k ↔ dom B a2 s2 F tv ev k) (hr : s2.run = some i) (hL : L ≤ w2.heap.size) (x : Rp w2 a2 s2 w' a2 s2.done) :
    ∃ D', Wd w' L B pv a2.R (s2.ts.map Tc.b) (σ.fin i) none s2.left F D' ∧ Wx w2 F D (s2.ts.map Tc.b) w' F D' (s2.ts.map Tc.b) := by
  have hi2 : i < s2.ts.length := m.rt.ok.runs i hr
  have hit : i < σ.tk.length := by rw [← m.len]; exact hi2
  have hp : σ.tk[i]? = some σ.tk[i] := List.getElem?_eq_getElem hit
  have hgd : σ.tk.getD i pt0 = σ.tk[i] := by simp [List.getD, hp]
  have e1 : (σ.fin i).ev = σ.ev := by unfold Sg.fin; split <;> rfl
  have e2 : (σ.fin i).line = σ.line := by unfold Sg.fin; split <;> rfl
  have e3 : (σ.fin i).tk.length = σ.tk.length := by unfold Sg.fin; split <;> simp [Sg.put]
  have := m.wd (σ' := σ.fin i) (F' := F) hd x rfl hL (fun _ h => h) (fun _ h => .inl h) e1 (by rw [e2]; exact m.ln) (by rw [e3]; exact m.len) (fun hag j u q hj hq => ?_)
  · exact this
  · have hju : s2.ts[j]? = some u := hj
    have hjl : j < σ.tk.length := by rw [← m.len]; exact (List.getElem?_eq_some_iff.1 hju).1
    by_cases e : j = i
    · subst e
      have ht := m.cl j u _ hju hp
      unfold Sg.fin at hq
      rw [hgd] at hq
      split at hq
      · rename_i h2
        simp only [Sg.put, pt_set hp, if_pos, Option.some.injEq] at hq
        subst hq
        exact ⟨by simp, fun h => by simp at h, fun h => by simp at h, fun h => by simp at h, fun _ => ⟨by simp [Rs.done], (ht.r2 h2).2⟩⟩
      · rename_i h2
        rw [hp] at hq
        cases hq
        have ht' := ht.keep hag (fun _ h => h)
        exact ⟨ht'.le, ht'.r1, ht'.r3, fun h => absurd h h2, fun h => absurd hr (ht.r0 h).1⟩
    · have hq' : σ.tk[j]? = some q := by
        unfold Sg.fin at hq
        split at hq
        · simp only [Sg.put, pt_set hp, if_neg e] at hq
          exact hq
        · exact hq
      have ht := (m.cl j u q hju hq').keep hag (fun _ h => h)
      exact ⟨ht.le, ht.r1, ht.r3, fun h => by
        have := (ht.r2 h).1
        rw [hr] at this
        simp only [Option.some.injEq] at this
        exact absurd this.symm e, fun h => ⟨by simp [Rs.done], (ht.r0 h).2⟩⟩

/-- The turn begins. -/
theorem Wm.begins {a a1 : Ad} {s : Rs} {tv ev : Value} {X : World} {i j lf : Nat} {t : Tc} {p : Pt} (m : Wm w L B pv a s σ F tv ev) (hL : L ≤ w.heap.size) (hd : ∀ k, D k ↔ dom B a s F tv ev k) (hi : s.ts[i]? = some t) (hp : σ.tk[i]? = some p) (hrun : s.run = none) (hs : p.st = 1) (x : Rp w a s X a1 (s.begin i j ⟨t.b, .nilFunc, t.wk⟩ lf)) :
    ∃ D', Wd X L B pv a.R (s.ts.map Tc.b) (({ σ with line := σ.line.eraseIdx j } : Sg).put i ⟨p.prog, p.at' + 1, 2, 0⟩) (some i) lf F D' ∧ Wx w F D (s.ts.map Tc.b) X F D' (s.ts.map Tc.b) := by
  refine m.wd (σ' := ({ σ with line := σ.line.eraseIdx j } : Sg).put i ⟨p.prog, p.at' + 1, 2, 0⟩) (F' := F) hd x (map_set hi rfl) hL (fun _ h => h) (fun _ h => .inl h) rfl (by simp [Rs.begin, Sg.put, m.ln]) (by simp [Rs.begin, Sg.put, m.len]) (fun hag k u q hj hq => ?_)
  simp only [Rs.begin, get_set hi] at hj
  simp only [Sg.put, pt_set hp] at hq
  have ht := m.cl i t p hi hp
  by_cases e : k = i
  · subst e
    simp only [if_pos, Option.some.injEq] at hj hq
    subst hj hq
    exact ⟨by simp, fun h => by simp at h, fun h => by simp at h, fun _ => ⟨rfl, rfl, (ht.r1 hs).2⟩, fun h => by simp at h⟩
  · rw [if_neg e] at hj hq
    have h1 := (m.cl k u q hj hq).keep hag (fun _ h => h)
    exact ⟨h1.le, h1.r1, h1.r3, fun h => (by have := (h1.r2 h).1; rw [hrun] at this; cases this), fun h => ⟨by simp only [Rs.begin]; intro h'; simp only [Option.some.injEq] at h'; exact e h'.symm, (h1.r0 h).2⟩⟩

/-- A step of the law's world. -/
theorem wstep (h : Wt w L B pa np pcap ps Pb R bs σ N F D) (hN : N ≤ 400) (p : Nat) (hp : p ≤ 18446744073709551615) :
    Calls Try.prog 11 #[.pointer (some ⟨R, 0, none⟩), .int .u64 p] w fun e w' => e = .returned (.bool (decide (σ.line ≠ []))) ∧ ∃ F' D' bs', Wt w' L B pa np pcap ps Pb R bs' (σ.step ps p) (N + 1) F' D' ∧ Wx w F D bs w' F' D' bs' := by
  obtain ⟨l0, wd⟩ := h.wd
  obtain ⟨a, s, tv, ev, m, q1, q2, q3, q4, hd⟩ := wd.ex
  subst q1 q2
  have hbnd := (Bnd.mk h.ok h.tl h.el : Bnd np N N (2 * N) σ).step (ps := ps) h.np1.1 h.psl p
  by_cases hl : σ.line = []
  · have e0 : σ.step ps p = σ := by unfold Sg.step; rw [if_pos (by simp [hl])]
    rw [e0] at hbnd ⊢
    refine (step_no m.rt q3 (by rw [m.ln]; exact hl) p).mono ?_
    rintro e w' ⟨rfl, rfl⟩
    exact ⟨by simp [hl], F, D, _, ⟨⟨l0, wd⟩, h.pg, h.low, hbnd.ok, hbnd.tl, by have := hbnd.el; omega, h.np1, h.psl⟩, ⟨Tb.refl _ _, fun k hk => .inl hk, fun _ h => h, fun _ _ => rfl, ⟨[], by simp⟩, fun k hk => (m.fz k hk).2.1⟩⟩
  · have hl0 : 0 < σ.line.length := List.length_pos_iff.2 hl
    have hjl : p % σ.line.length < σ.line.length := Nat.mod_lt _ hl0
    obtain ⟨j, hj⟩ : ∃ j, j = p % σ.line.length := ⟨_, rfl⟩
    rw [← hj] at hjl
    have hjx : σ.line[j]? = some σ.line[j] := List.getElem?_eq_getElem hjl
    have hsj : s.line[j]? = some σ.line[j] := by rw [m.ln]; exact hjx
    obtain ⟨i, t, hix, hi, hon⟩ := (m.rt.ok.mem σ.line[j]).1 (List.mem_of_getElem? hsj)
    have hil : i < σ.tk.length := by rw [← m.len]; exact (List.getElem?_eq_some_iff.1 hi).1
    have hpt : σ.tk[i]? = some σ.tk[i] := List.getElem?_eq_getElem hil
    have ht := m.cl i t _ hi hpt
    have hst : σ.tk[i].st = 1 := by
      have := ht.le
      have h4 : σ.tk[i].st = 0 ∨ σ.tk[i].st = 1 ∨ σ.tk[i].st = 2 ∨ σ.tk[i].st = 3 := by omega
      rcases h4 with e | e | e | e
      · rw [(ht.r0 e).2.1] at hon; cases hon
      · exact e
      · rw [(ht.r2 e).2.1] at hon; cases hon
      · rw [(ht.r3 e).1] at hon; cases hon
    obtain ⟨⟨fn, caps, hnx, hen, hcall⟩, hwk⟩ := ht.r1 hst
    have estep : σ.step ps p = ((({ σ with line := σ.line.eraseIdx j } : Sg).put i ⟨σ.tk[i].prog, σ.tk[i].at' + 1, 2, 0⟩).note i σ.tk[i].at' σ.tk[i].why |>.acts np i ⟨σ.tk[i].prog, σ.tk[i].at' + 1, 2, 0⟩ (dop ps σ.tk[i]) (p / σ.line.length)).fin i := by
      unfold Sg.step
      rw [if_neg (by omega)]
      have e1 : (σ.line.getD j 0).toNat = i := by
        simp [List.getD, hjx, hix]
      have e2 : σ.tk.getD i pt0 = σ.tk[i] := by simp [List.getD, hpt]
      simp only [e1, e2, Sg.turn, ← hj, h.psl]
    have hok := h.ok σ.tk[i] (List.getElem_mem hil)
    have CS := step_yes m.rt q3 p hp (j := j) (hide (by rw [m.ln]; exact hj)) (by rw [hsj, hix]) hi hnx hen
      (fun w2 a2 s2 => ∃ tv2 ev2 F2 D2, Wm w2 L B (.slice pa np pcap) a2 s2 ((({ σ with line := σ.line.eraseIdx j } : Sg).put i ⟨σ.tk[i].prog, σ.tk[i].at' + 1, 2, 0⟩).note i σ.tk[i].at' σ.tk[i].why |>.acts np i ⟨σ.tk[i].prog, σ.tk[i].at' + 1, 2, 0⟩ (dop ps σ.tk[i]) (p / σ.line.length)) F2 tv2 ev2 ∧ s2.run = some i ∧ a2.R = a.R ∧ (∀ k, D2 k ↔ dom B a2 s2 F2 tv2 ev2 k) ∧ Wx w F D (s.ts.map Tc.b) w2 F2 D2 (s2.ts.map Tc.b))
      (fun X a1 x => by
        obtain ⟨D1, wd1, wx1⟩ := m.begins h.low hd hi hpt q3 hst x
        refine hcall X _ wx1.kp ?_
        rw [m.ln] at wd1
        have CT := wturn (i := i) (b := t.b) (prog := σ.tk[i].prog) (at' := σ.tk[i].at') (why := σ.tk[i].why) wd1 (h.pg.step wx1) (wx1.low h.low) (by simp [hi]) (by simp [Sg.put, pt_set hpt]) hok.2 h.np1.2 (by omega) (by have := h.el; show σ.ev.length ≤ 999990; omega) (by have := h.tl; simp [Sg.put]; omega) (d := dop ps σ.tk[i]) rfl
        refine CT.mono ?_
        rintro e w2 ⟨rfl, l2, F2, D2, bs2, wd2, wx2⟩
        obtain ⟨a2, s2, tv2, ev2, m2, y1, y2, y3, y4, hd2⟩ := wd2.ex
        subst y2
        have wx3 := wx1.trans wx2
        have hti : (s2.ts.map Tc.b)[i]? = some t.b := by
          obtain ⟨l, e⟩ := wx3.bs
          rw [e, List.getElem?_append_left (by simpa using (List.getElem?_eq_some_iff.1 hi).1)]
          simp [hi]
        obtain ⟨t2, ht2, hb2⟩ := m2.task hti
        exact ⟨rfl, a2, s2, t2, m2.rt, y3, ht2, hb2, y1, tv2, ev2, F2, D2, m2, y3, y1, hd2, wx3⟩)
    refine CS.mono ?_
    rintro e w' ⟨rfl, w2, a2, s2, ⟨tv2, ev2, F2, D2, m2, y3, y1, hd2, wx3⟩, x⟩
    obtain ⟨D3, wd3, wx4⟩ := Wd.done m2 hd2 y3 (wx3.low h.low) x
    rw [y1, ← estep] at wd3
    have wx5 := wx3.trans wx4
    exact ⟨by simp [hl], F2, D3, _, ⟨⟨_, wd3⟩, h.pg.step wx5, wx5.low h.low, hbnd.ok, hbnd.tl, by have := hbnd.el; omega, h.np1, h.psl⟩, wx5⟩
end

end Go.Proofs.Ytennciddjkijaaa

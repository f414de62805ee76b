/-
  Texts put into one.
-/
import Derived.Test.YtgjpbekmkhanhaaGreatQk862e903a
import Derived.Test.YtgjpbekmkhanhaaGreatMx2fdd7107

/-
  A step of the law's world.
-/
namespace Go.Proofs.YtgjpbekmkhanhaaGreat.CH
open Go.RowKit QW
set_option maxRecDepth 100000

/-- A step: the task at the picked place of the line has its turn. -/
def Sg.step (ps : List (List Dop)) (p : Nat) (σ : Sg) : Sg :=
  if σ.line = [] then σ else
    (({ σ with line := σ.line.eraseIdx (p % σ.line.length) } : Sg).put (σ.line.getD (p % σ.line.length) 0).toNat ⟨(σ.p (σ.line.getD (p % σ.line.length) 0).toNat).at', 2, (σ.p (σ.line.getD (p % σ.line.length) 0).toNat).td, false⟩).turn (σ.line.getD (p % σ.line.length) 0).toNat ((ps.getD (σ.line.getD (p % σ.line.length) 0).toNat []).getD (σ.p (σ.line.getD (p % σ.line.length) 0).toNat).at' ⟨0, 0, 0⟩)

section
variable {w w' : World} {L B : Nat} {pv cv tvv ev : Value} {a a' : Ad} {s s' : Rs} {A A' : Nat → Bool} {zs : List Zc} {m m' : Nat} {K K' : Nat → Pkr} {σ σ' : Sg} {lab lab' : Lb}

/-- The runtime alone was turned. -/
theorem Wm.rts (h : Wm w L B pv cv tvv ev a s A zs m K σ lab) (hL : L ≤ w.heap.size) (hr : Rp w a s w' a' s') (eT : s'.ts.map Tc.b = s.ts.map Tc.b) (ec : σ'.ch = σ.ch) (ee : σ'.ev = σ.ev) (el : s'.line = σ'.line) (en : σ'.tk.length = σ.tk.length)
    (cl' : ∀ j u q, s'.ts[j]? = some u → σ'.tk[j]? = some q → Tst lab w A B s'.run j u q (K j)) (ok' : Sok σ') :
    Wm w' L B pv cv tvv ev a' s' A zs m K σ' (relab lab .rt (own a' s')) ∧ Wy w lab w' (relab lab .rt (own a' s')) := by
  have f := Fr.rt h (fun k hk => hr.x.own hk) hr.x.tb
  have hz := hr.x.tb.size
  have hkv : Kv w A w' A := Kv.tb A hr.x.tb (fun k f ht hk => by
    have h1 := own_ty h.rt.m hk ht
    revert h1
    decide)
  refine ⟨h.build f hL (fun e => by cases e) (fun e => by cases e) (fun e => by cases e) (fun e => by cases e) (fun e => by cases e) (fun k l hk => ?_) hr.rt hr.x.R hr.x.Q eT (fun k hk => relab_same.2 hk) ee (fun j z c hz hc => ?_) (by rw [ec]) (fun k hk => h.ha k (by omega)) el en (fun j u q hu hq => (cl' j u q hu hq).keep (f.wy h.lt').agr (f.wy h.lt').sub (fun k hk => ⟨(f.eq k _ (by simp) (by simp)).2 hk, f.blk h.lt' hk (by simp), rfl⟩) h.lt') ok', f.wy h.lt'⟩
  · by_cases hl : l = .rt
    · subst hl
      exact hr.rt.m.own_lt (relab_same.1 hk)
    · have hD : ∀ k, own a' s' k → lab k = some .rt ∨ lab k = none := fun k hk => (hr.x.own hk).imp (h.lr k) h.fresh
      have := h.lt' k l ((relab_other hD hl).1 hk); omega
  · rw [ec] at hc
    refine ⟨(h.ch j z c hz hc).1, (h.ch j z c hz hc).2.1, h.chK f hz hc (fun e => by cases e) hkv (fun i hi => ?_) (fun _ _ => rfl) (Nat.le_refl _)⟩
    obtain ⟨t, p, _, _, _, h4⟩ := h.waits (mem_wts.2 ⟨j, c, hc, hi⟩)
    exact h4

theorem Sok.cast (h : Sok σ) (ec : σ'.ch = σ.ch) (et : σ'.tk = σ.tk) : Sok σ' := by
  have ew : σ'.wts = σ.wts := by unfold Sg.wts; rw [ec]
  have ep : ∀ k, σ'.p k = σ.p k := fun k => by unfold Sg.p; rw [et]
  refine ⟨by rw [ew]; exact h.nd, fun j c hc x hx => ?_, fun j c hc x hx => ?_, fun j c hc => h.bf j c (ec ▸ hc)⟩
  · rw [ep, et]; exact h.sn j c (ec ▸ hc) x hx
  · rw [ep, et]; exact h.rc j c (ec ▸ hc) x hx
theorem put_p {i : Nat} (hi : i < σ.tk.length) (q : Pt) (k : Nat) (hk : k ≠ i) : (σ.put i q).p k = σ.p k := by
  have := put_get (of_p hi) q k
  rw [if_neg hk] at this
  simp [Sg.p, List.getD, this]

/-- The turn begins. -/
theorem Wm.begins (h : Wm w L B pv cv tvv ev a s A zs m K σ lab) (hL : L ≤ w.heap.size) {i j lf : Nat} {t : Tc} {p : Pt} (hi : s.ts[i]? = some t) (hp : σ.tk[i]? = some p) (hrun : s.run = none) (hs : p.st = 1) (hr : Rp w a s w' a' (s.begin i j ⟨t.b, .nilFunc, t.wk⟩ lf)) :
    Wm w' L B pv cv tvv ev a' (s.begin i j ⟨t.b, .nilFunc, t.wk⟩ lf) A zs m K (({ σ with line := σ.line.eraseIdx j } : Sg).put i ⟨p.at', 2, p.td, false⟩) (relab lab .rt (own a' (s.begin i j ⟨t.b, .nilFunc, t.wk⟩ lf))) ∧ Wy w lab w' (relab lab .rt (own a' (s.begin i j ⟨t.b, .nilFunc, t.wk⟩ lf))) := by
  have hil : i < σ.tk.length := (List.getElem?_eq_some_iff.1 hp).1
  have hnw : i ∉ σ.wts := fun e => by
    have := (h.ok.st3 e).1
    rw [p_of hp, hs] at this
    cases this
  refine h.rts hL hr (map_set hi rfl) rfl rfl (by simp [Rs.begin, Sg.put, h.ln]) (by simp [Sg.put]) (fun k u q hu hq => ?_) (h.ok.puts hnw rfl (by simp [Sg.put]) (fun k hk => ?_))
  · simp only [Rs.begin, get_set hi] at hu
    have hq' : (if k = i then some (⟨p.at', 2, p.td, false⟩ : Pt) else σ.tk[k]?) = some q := (put_get (σ := { σ with line := σ.line.eraseIdx j }) hp ⟨p.at', 2, p.td, false⟩ k).symm.trans hq
    have h1 := h.cl i t p hi hp
    by_cases e : k = i
    · subst e
      rw [if_pos rfl] at hu hq'
      cases hu
      cases hq'
      exact ⟨by simp, fun e => by simp at e, fun e => by simp at e, fun _ => ⟨rfl, rfl, (h1.r1 hs).2⟩, fun e => by simp at e⟩
    · rw [if_neg e] at hu hq'
      have h2 := h.cl k u q hu hq'
      exact ⟨h2.le, h2.r1, h2.r3, fun e2 => (by
        have := (h2.r2 e2).1
        rw [hrun] at this
        cases this), fun e0 => ⟨by simp only [Rs.begin, ne_eq, Option.some.injEq]; exact fun e' => e e'.symm, (h2.r0 e0).2⟩⟩
  · exact put_p (σ := { σ with line := σ.line.eraseIdx j }) hil _ k hk

/-- Behind the turn: who has said nothing is over. -/
theorem Wm.done (h : Wm w L B pv cv tvv ev a s A zs m K σ lab) (hL : L ≤ w.heap.size) {i : Nat} (hrun : s.run = some i) (hr : Rp w a s w' a s.done) :
    Wm w' L B pv cv tvv ev a s.done A zs m K (σ.fin i) (relab lab .rt (own a s.done)) ∧ Wy w lab w' (relab lab .rt (own a s.done)) := by
  have hi2 : i < s.ts.length := h.rt.ok.runs i hrun
  have hil : i < σ.tk.length := by rw [← h.len]; exact hi2
  have hp := of_p hil
  have hi : s.ts[i]? = some s.ts[i] := List.getElem?_eq_getElem hi2
  have h1 := h.cl i _ _ hi hp
  have e2 : ∀ k, (σ.fin i).tk[k]? = if k = i ∧ (σ.p i).st = 2 then some { σ.p i with st := 0 } else σ.tk[k]? := fun k => by
    unfold Sg.fin
    by_cases e : (σ.p i).st = 2
    · rw [if_pos e, put_get hp]
      simp [e]
    · rw [if_neg e]
      simp [e]
  have hch : (σ.fin i).ch = σ.ch := by unfold Sg.fin; split <;> rfl
  have hsame : ∀ k, k ≠ i → (σ.fin i).p k = σ.p k := fun k hk => by
    have := e2 k
    rw [if_neg (fun h => hk h.1)] at this
    simp [Sg.p, List.getD, this]
  have hlen : (σ.fin i).tk.length = σ.tk.length := by unfold Sg.fin; split <;> simp [Sg.put]
  refine h.rts hL hr rfl hch (by unfold Sg.fin; split <;> rfl) (by rw [show (σ.fin i).line = σ.line by unfold Sg.fin; split <;> rfl]; exact h.ln) hlen (fun k u q hu hq => ?_) ?_
  · rw [e2] at hq
    have hu' : s.ts[k]? = some u := hu
    by_cases e : k = i
    · subst e
      by_cases e3 : (σ.p k).st = 2
      · rw [if_pos ⟨rfl, e3⟩] at hq
        cases hq
        rw [hi] at hu'
        cases hu'
        exact ⟨by simp, fun e => by simp at e, fun e => by simp at e, fun e => by simp at e, fun _ => ⟨by simp [Rs.done], (h1.r2 e3).2⟩⟩
      · rw [if_neg (fun h => e3 h.2)] at hq
        have h2 := h.cl k u q hu' hq
        rw [hp] at hq
        cases hq
        exact ⟨h2.le, h2.r1, h2.r3, fun e => absurd e e3, fun e0 => absurd hrun (h2.r0 e0).1⟩
    · rw [if_neg (fun h => e h.1)] at hq
      have h2 := h.cl k u q hu' hq
      exact ⟨h2.le, h2.r1, h2.r3, fun e2 => by
        have := (h2.r2 e2).1
        rw [hrun] at this
        exact absurd (Option.some.inj this).symm e, fun e0 => ⟨by simp [Rs.done], (h2.r0 e0).2⟩⟩
  · by_cases e3 : (σ.p i).st = 2
    · refine h.ok.puts (i := i) (fun e => ?_) hch hlen hsame
      have := (h.ok.st3 e).1
      rw [e3] at this
      cases this
    · have : σ.fin i = σ := by unfold Sg.fin; rw [if_neg e3]
      rw [this]
      exact h.ok
end

/-- No place is above N. -/
def Bnd (N : Nat) (σ : Sg) : Prop := ∀ p ∈ σ.tk, p.at' ≤ N
section
variable {σ : Sg} {N i j : Nat}
theorem Bnd.p (h : Bnd N σ) (i : Nat) : (σ.p i).at' ≤ N := by
  unfold Sg.p
  by_cases hl : i < σ.tk.length
  · rw [List.getD, List.getElem?_eq_getElem hl]
    exact h _ (List.getElem_mem hl)
  · rw [List.getD, List.getElem?_eq_none (by omega)]
    exact Nat.zero_le _
theorem Bnd.put (h : Bnd N σ) (i : Nat) {q : Pt} (hq : q.at' ≤ N) : Bnd N (σ.put i q) := fun x hx => by
  rcases List.mem_or_eq_of_mem_set hx with h1 | h1
  · exact h x h1
  · rw [h1]; exact hq
theorem Bnd.gets (h : Bnd N σ) (i : Nat) (d : Tld) : Bnd N (σ.gets i d) := fun x hx => by
  rcases List.mem_or_eq_of_mem_set hx with h1 | h1
  · exact h x h1
  · rw [h1]; exact h.p i
theorem Bnd.setc (h : Bnd N σ) (j : Nat) (c : Cz) : Bnd N (σ.setc j c) := h
theorem Bnd.note (h : Bnd N σ) (i : Nat) : Bnd N (σ.note i) := h
theorem Bnd.mono {M : Nat} (h : Bnd N σ) (hn : N ≤ M) : Bnd M σ := fun p hp => Nat.le_trans (h p hp) hn
theorem Bnd.tells {σ : Sg} (l : List Nat) (h : Bnd N σ) : Bnd N (σ.tells l) := by
  induction l generalizing σ with
  | nil => exact h
  | cons i r ih => exact ih (h.gets i _)
theorem Bnd.send (h : Bnd N σ) (j : Nat) (v : Int) : Bnd N (σ.send j v).2 := by
  unfold Sg.send
  split
  · exact h
  · split
    · exact (h.setc j _).gets _ _
    · exact h.setc j _
theorem Bnd.recv (h : Bnd N σ) (j : Nat) : Bnd N (σ.recv j).2.2 := by
  unfold Sg.recv
  split
  · exact (h.setc j _).gets _ _
  · exact h.setc j _
theorem Bnd.close (h : Bnd N σ) (j : Nat) : Bnd N (σ.close j).2 := by
  unfold Sg.close
  split
  · exact h
  · exact (h.setc j _).tells _
theorem Bnd.acts (h : Bnd N σ) (i : Nat) (d : Dop) : Bnd N (σ.acts i d) := by
  unfold Sg.acts
  split
  · exact h.gets _ _
  split
  · split
    · exact (h.send _ _).gets _ _
    · exact (h.setc _ _).put i (q := { σ.p i with st := 3, rc := false }) (h.p i)
  split
  · split
    · exact (h.recv _).gets _ _
    · exact (h.setc _ _).put i (q := { σ.p i with st := 3, rc := true }) (h.p i)
  split
  · exact (h.close _).gets _ _
  split
  · split
    · exact (h.send _ _).gets _ _
    · exact h.gets _ _
  split
  · split
    · exact (h.recv _).gets _ _
    · exact h.gets _ _
  · exact h
theorem Bnd.fin (h : Bnd N σ) (i : Nat) : Bnd N (σ.fin i) := by
  unfold Sg.fin
  split
  · exact h.put i (q := { σ.p i with st := 0 }) (h.p i)
  · exact h
theorem Bnd.step (h : Bnd N σ) (ps : List (List Dop)) (p : Nat) : Bnd (N + 1) (σ.step ps p) := by
  unfold Sg.step
  split
  · exact h.mono (by omega)
  · have h0 : Bnd (N + 1) ({ σ with line := σ.line.eraseIdx (p % σ.line.length) } : Sg) := h.mono (Nat.le_succ N)
    have h1 := h0.put (σ.line.getD (p % σ.line.length) 0).toNat (q := ⟨(σ.p (σ.line.getD (p % σ.line.length) 0).toNat).at', 2, (σ.p (σ.line.getD (p % σ.line.length) 0).toNat).td, false⟩) (Nat.le_succ_of_le (h.p _))
    generalize (σ.line.getD (p % σ.line.length) 0).toNat = i at h1 ⊢
    refine ((((h1.note i).put i ?_).acts i _).fin i)
    simp only
    by_cases hl : i < σ.tk.length
    · have := put_get (σ := { σ with line := σ.line.eraseIdx (p % σ.line.length) }) (of_p hl) ⟨(σ.p i).at', 2, (σ.p i).td, false⟩ i
      rw [if_pos rfl] at this
      rw [p_of this]
      exact Nat.succ_le_succ (h.p i)
    · have : (({ σ with line := σ.line.eraseIdx (p % σ.line.length) } : Sg).put i ⟨(σ.p i).at', 2, (σ.p i).td, false⟩).p i = pt0 := by
        unfold Sg.p Sg.put
        rw [List.getD, List.getElem?_eq_none (by simp; omega)]
        rfl
      rw [this]
      exact Nat.succ_le_succ (Nat.zero_le _)
theorem ev_tells {σ : Sg} (l : List Nat) : (σ.tells l).ev = σ.ev := by
  induction l generalizing σ with
  | nil => rfl
  | cons i r ih => exact ih
theorem ev_send (j : Nat) (v : Int) : (σ.send j v).2.ev = σ.ev := by
  unfold Sg.send
  split
  · rfl
  · split <;> rfl
theorem ev_recv (j : Nat) : (σ.recv j).2.2.ev = σ.ev := by
  unfold Sg.recv
  split <;> rfl
theorem ev_close (j : Nat) : (σ.close j).2.ev = σ.ev := by
  unfold Sg.close
  split
  · rfl
  · exact ev_tells _
theorem ev_acts (i : Nat) (d : Dop) : (σ.acts i d).ev = σ.ev := by
  unfold Sg.acts
  split
  · rfl
  split
  · split
    · exact ev_send _ _
    · rfl
  split
  · split
    · exact ev_recv _
    · rfl
  split
  · exact ev_close _
  split
  · split
    · exact ev_send _ _
    · rfl
  split
  · split
    · exact ev_recv _
    · rfl
  · rfl
theorem ev_step (ps : List (List Dop)) (p : Nat) : (σ.step ps p).ev.length ≤ σ.ev.length + 1 := by
  unfold Sg.step
  split
  · omega
  · unfold Sg.turn
    have e1 : ∀ (τ : Sg) (i : Nat), (τ.fin i).ev = τ.ev := fun τ i => by unfold Sg.fin; split <;> rfl
    rw [e1, ev_acts]
    simp [Sg.put, Sg.note]
end

section
variable {w w' : World} {L B : Nat} {σ : Sg} {lab lab' : Lb} {Pb : Nat → Prop} {R N : Nat} {zs : List Zc} {bs : List Nat} {pa : Option Addr} {np pcap : Nat} {ps : List (List Dop)} {cv tvv : Value}

/-- The law's world between steps. -/
structure Wt (w : World) (L B : Nat) (pa : Option Addr) (np pcap : Nat) (ps : List (List Dop)) (Pb : Nat → Prop) (cv tvv : Value) (R : Nat) (zs : List Zc) (bs : List Nat) (σ : Sg) (N : Nat) (lab : Lb) : Prop where
  wd : ∃ left, Wd w L B (.slice pa np pcap) cv tvv R zs bs N σ none left lab
  pg : Pgs Pb zs.length w pa np pcap ps
  pl : ∀ k, Pb k → lab k = none ∧ k < w.heap.size
  low : L ≤ w.heap.size
  ok : Bnd N σ
  el : σ.ev.length ≤ N
  bn : bs.length ≤ np

theorem Wt.keep (h : Wt w L B pa np pcap ps Pb cv tvv R zs bs σ N lab) {zl : Nat} (y : Wy w lab w' lab') (hp : Pgs Pb zl w pa np pcap ps) : Pgs Pb zl w' pa np pcap ps ∧ (∀ k, Pb k → lab' k = none ∧ k < w'.heap.size) ∧ L ≤ w'.heap.size := by
  have hz := y.tb.size
  refine ⟨hp.keep (fun k hk => (y.row (h.pl k hk).1 (h.pl k hk).2).1), fun k hk => ?_, Nat.le_trans h.low hz⟩
  obtain ⟨h1, h2⟩ := h.pl k hk
  exact ⟨(y.row h1 h2).2.1, by omega⟩

/-- A step of the law's world. -/
theorem wstep (h : Wt w L B pa np pcap ps Pb cv tvv R zs bs σ N lab) (hN : N ≤ 100000) (p : Nat) (hp : p ≤ 18446744073709551615) :
    Calls Tryz.prog 12 #[.pointer (some ⟨R, 0, none⟩), .int .u64 p] w fun e w' => e = .returned (.bool (decide (σ.line ≠ []))) ∧ ∃ lab', Wt w' L B pa np pcap ps Pb cv tvv R zs bs (σ.step ps p) (N + 1) lab' ∧ Wy w lab w' lab' := by
  obtain ⟨l0, wd⟩ := h.wd
  obtain ⟨ev, a, s, A, K, m, q1, q2, q3, q4⟩ := wd.ex
  subst q1 q2
  have hbnd := h.ok.step ps p
  have hevl := ev_step (σ := σ) ps p
  by_cases hl : σ.line = []
  · have e0 : σ.step ps p = σ := by unfold Sg.step; rw [if_pos hl]
    rw [e0] at hbnd ⊢
    refine (step_no m.rt q3 (by rw [m.ln]; exact hl) p).mono ?_
    rintro e w' ⟨rfl, rfl⟩
    exact ⟨by simp [hl], lab, ⟨⟨l0, wd.mono (Nat.le_succ N)⟩, h.pg, h.pl, h.low, hbnd, by have := h.el; omega, h.bn⟩, ⟨Tb.refl _ _, fun _ h => .inl h, fun _ h => ⟨h, rfl⟩⟩⟩
  · have hl0 : 0 < σ.line.length := List.length_pos_iff.2 hl
    have hjl : p % σ.line.length < σ.line.length := Nat.mod_lt _ hl0
    obtain ⟨j, hj⟩ : ∃ j, j = p % σ.line.length := ⟨_, rfl⟩
    rw [← hj] at hjl
    have hjx : σ.line[j]? = some σ.line[j] := List.getElem?_eq_getElem hjl
    have hsj : s.line[j]? = some σ.line[j] := by rw [m.ln]; exact hjx
    obtain ⟨i, t, hix, hi, hon⟩ := (m.rt.ok.mem σ.line[j]).1 (List.mem_of_getElem? hsj)
    have hil : i < σ.tk.length := by rw [← m.len]; exact (List.getElem?_eq_some_iff.1 hi).1
    have hpt := of_p hil
    have ht := m.cl i t _ hi hpt
    have hst : (σ.p i).st = 1 := by
      have := ht.le
      have h4 : (σ.p i).st = 0 ∨ (σ.p i).st = 1 ∨ (σ.p i).st = 2 ∨ (σ.p i).st = 3 := by omega
      rcases h4 with e | e | e | e
      · rw [(ht.r0 e).2.1] at hon; cases hon
      · exact e
      · rw [(ht.r2 e).2.1] at hon; cases hon
      · rw [(ht.r3 e).1] at hon; cases hon
    obtain ⟨⟨fn, caps, hnx, hen, hcall⟩, hwk⟩ := ht.r1 hst
    have hgd : (σ.line.getD j 0).toNat = i := by simp [List.getD, hjx, hix]
    have estep : σ.step ps p = ((((({ σ with line := σ.line.eraseIdx j } : Sg).put i ⟨(σ.p i).at', 2, (σ.p i).td, false⟩).note i).put i ⟨(σ.p i).at' + 1, 2, (σ.p i).td, false⟩).acts i ((ps.getD i []).getD (σ.p i).at' ⟨0, 0, 0⟩)).fin i := by
      unfold Sg.step
      rw [if_neg hl, ← hj, hgd]
      unfold Sg.turn
      have e1 : (({ σ with line := σ.line.eraseIdx j } : Sg).put i ⟨(σ.p i).at', 2, (σ.p i).td, false⟩).p i = ⟨(σ.p i).at', 2, (σ.p i).td, false⟩ := by
        have := put_get (σ := { σ with line := σ.line.eraseIdx j }) hpt ⟨(σ.p i).at', 2, (σ.p i).td, false⟩ i
        rw [if_pos rfl] at this
        exact p_of this
      rw [e1]
    have hok := h.ok.p i
    have CS := step_yes m.rt q3 p hp (j := j) (hide (by rw [m.ln]; exact hj)) (by rw [hsj, hix]) hi hnx hen
      (fun w2 a2 s2 => ∃ ev2 A2 K2 lab2, Wm w2 L B (.slice pa np pcap) cv tvv ev2 a2 s2 A2 zs (N + 1) K2 ((((({ σ with line := σ.line.eraseIdx j } : Sg).put i ⟨(σ.p i).at', 2, (σ.p i).td, false⟩).note i).put i ⟨(σ.p i).at' + 1, 2, (σ.p i).td, false⟩).acts i ((ps.getD i []).getD (σ.p i).at' ⟨0, 0, 0⟩)) lab2 ∧ Wy w lab w2 lab2 ∧ s2.run = some i ∧ a2.R = a.R ∧ s2.ts.map Tc.b = s.ts.map Tc.b)
      (fun X a1 x => by
        obtain ⟨m1, y1⟩ := m.begins h.low hi hpt q3 hst x
        have eT : (s.begin i j ⟨t.b, .nilFunc, t.wk⟩ (p / s.line.length)).ts.map Tc.b = s.ts.map Tc.b := map_set hi rfl
        have wd1 : Wd X L B (.slice pa np pcap) cv tvv a.R zs (s.ts.map Tc.b) N (({ σ with line := σ.line.eraseIdx j } : Sg).put i ⟨(σ.p i).at', 2, (σ.p i).td, false⟩) (some i) (p / s.line.length) _ := ⟨_, _, _, _, _, m1, x.x.R, eT, rfl, rfl⟩
        refine hcall X _ y1.agr (fun V' hV' => ?_)
        have hLX : L ≤ X.heap.size := Nat.le_trans h.low y1.tb.size
        obtain ⟨l2, wd2, y2⟩ := wd1.below hLX hV'
        have y12 := y1.trans y2
        obtain ⟨p1, p2, p3⟩ := h.keep y12 h.pg
        have CT := wturn (i := i) (b := t.b) (at' := (σ.p i).at') (td := (σ.p i).td) wd2 p3 p1 p2 (by simp [hi]) (by
          have := put_get (σ := { σ with line := σ.line.eraseIdx j }) hpt ⟨(σ.p i).at', 2, (σ.p i).td, false⟩ i
          rwa [if_pos rfl] at this) (by have := h.bn; have := (List.getElem?_eq_some_iff.1 hi).1; simp at *; omega) (by omega) (by show σ.ev.length ≤ 1000000; have := h.el; omega) (by unfold Mx; omega) (d := (ps.getD i []).getD (σ.p i).at' ⟨0, 0, 0⟩) rfl
        refine CT.mono ?_
        rintro e w2 ⟨rfl, lab2, wd3, y3⟩
        obtain ⟨ev2, a2, s2, A2, K2, m2, z1, z2, z3, z4⟩ := wd3.ex
        have y13 := y12.trans y3
        have hti : (s2.ts.map Tc.b)[i]? = some t.b := by rw [z2]; simp [hi]
        rw [List.getElem?_map] at hti
        obtain ⟨t2, ht2, hb2⟩ := Option.map_eq_some_iff.1 hti
        exact ⟨rfl, a2, s2, t2, m2.rt, z3, ht2, hb2, z1, ev2, A2, K2, lab2, m2, y13, z3, z1, z2⟩)
    refine CS.mono ?_
    rintro e w' ⟨rfl, w2, a2, s2, ⟨ev2, A2, K2, lab2, m2, y2, z3, z1, z2⟩, x⟩
    have hL2 : L ≤ w2.heap.size := Nat.le_trans h.low y2.tb.size
    obtain ⟨m3, y3⟩ := m2.done hL2 z3 x
    rw [← estep] at m3
    have y23 := y2.trans y3
    obtain ⟨p1, p2, p3⟩ := h.keep y23 h.pg
    exact ⟨by simp [hl], _, ⟨⟨s2.left, ⟨ev2, a2, s2.done, A2, K2, m3, z1, z2, rfl, rfl⟩⟩, p1, p2, p3, hbnd, by have := h.el; omega, h.bn⟩, y23⟩
end

end Go.Proofs.YtgjpbekmkhanhaaGreat.CH

/-
  A channel is made.
-/
namespace Go.Proofs.YtgjpbekmkhanhaaGreat.CH
open Go.RowKit QW
set_option maxRecDepth 100000
set_option linter.unusedSimpArgs false

theorem make_any {w : World} (A : Nat → Bool) (m : Nat) {r n : Nat} (hn : n ≤ 64) (CR : ∀ V, Below w.heap.size w V → Calls Tryz.prog 58 #[.pointer (some ⟨r, 0, none⟩)] V fun e w' => e = .returned (.bool true) ∧ w' = V) :
    Calls Tryz.prog 19 #[.pointer (some ⟨r, 0, none⟩), .int .i64 n] w fun e w' => ∃ z, e = .returned (.tuple #[.pointer (some ⟨z.C, 0, none⟩), .int .i64 0]) ∧ z.rt = r ∧ z.size = n ∧ Below w.heap.size w w' ∧ ∃ D, Ch w' A z m ⟨false, [], [], []⟩ D ∧ ∀ k, D k → w.heap.size ≤ k := by
  have CM := CR w (Below.refl _ _)
  have CO := QI.of_any (w := w) (a := none) (n := 0) (cap := 0) (xs := []) ⟨rfl, Nat.le_refl _, by omega, fun h => by omega⟩ (fun _ h => by cases h) (by unfold QI.Mx; omega)
  have h1 : ((n : Int) < 0) = False := by simp
  have h1' : decide ((n : Int) < 0) = false := by simp
  have h2' : decide ((64 : Int) < (n : Int)) = false := by simp; omega
  have FIN : Hid (∀ w1 w2 w3 L1 L2 D1 D2, QI.Qu w1 w.heap.size (w.heap.size + 1) (2 * 0 + 1) 0 [] → Below w.heap.size w w1 → Below w1.heap.size w1 w2 → Ln w2 A L1 w1.heap.size 0 [] D1 → (∀ k, D1 k → w1.heap.size ≤ k) → Below w2.heap.size w2 w3 → Ln w3 A L2 w2.heap.size 0 [] D2 → (∀ k, D2 k → w2.heap.size ≤ k) →
      ∃ z, z.C = w3.heap.size ∧ z.rt = r ∧ z.size = n ∧ ∀ W, W = w3.alloc (.cells #[.pointer (some ⟨w3.heap.size, 0, none⟩), .pointer (some ⟨r, 0, none⟩), .int .i64 n, .bool false, .pointer (some ⟨w.heap.size, 0, none⟩), .pointer (some ⟨L1, 0, none⟩), .pointer (some ⟨L2, 0, none⟩)] (66 : TypeId)) →
        Below w.heap.size w W ∧ ∃ D, Ch W A z m ⟨false, [], [], []⟩ D ∧ ∀ k, D k → w.heap.size ≤ k) := hide (fun w1 w2 w3 L1 L2 D1 D2 q b1 b2 l1 d1 b3 l2 d2 => by
    refine ⟨⟨w3.heap.size, r, n, w.heap.size, L1, w1.heap.size, L2, w2.heap.size⟩, rfl, rfl, rfl, fun W hW => ?_⟩
    have b4 : Below w3.heap.size w3 W := by rw [hW]; exact (Below.refl _ w3).alloc (Nat.le_refl _) _
    have z1 := b1.size
    have z2 := b2.size
    have z3 := b3.size
    have bw : Below w.heap.size w W := ((b1.trans (b2.mono z1)).trans (b3.mono (by omega))).trans (b4.mono (by omega))
    refine ⟨bw, cdom ⟨w3.heap.size, r, n, w.heap.size, L1, w1.heap.size, L2, w2.heap.size⟩ (w.heap.size + 1) D1 D2, ⟨w.heap.size + 1, D1, D2, ⟨?_, ⟨_, _, ((q.below b2).below b3).below b4⟩, ((l1.below b3).below b4).mono (Nat.zero_le _), (l2.below b4).mono (Nat.zero_le _), fun k h1 h2 => ?_, hn, Nat.zero_le _⟩, fun _ => Iff.rfl⟩, fun k hk => ?_⟩
    · rw [hW]; exact heap_alloc_new w3 _
    · have := l1.lt h1
      have := d2 k h2
      omega
    · rcases hk with rfl | rfl | rfl | hk | hk
      · simp only; omega
      · exact Nat.le_refl _
      · omega
      · have := d1 k hk; omega
      · have := d2 k hk; omega)
  clear h1
  go_enter Tryz.func19, Tryz.ntmps19
  go_wp2_with fail
  refine CM.mono ?_
  rintro e w0 ⟨rfl, rfl⟩
  go_wp2_with fail
  refine CO.mono ?_
  rintro e w1 ⟨rfl, q, b1⟩
  have CN1 := newline_any w1 A
  go_wp2_with fail
  refine CN1.mono ?_
  rintro e w2 ⟨L1, rfl, b2, D1, l1, d1⟩
  have CN2 := newline_any w2 A
  go_wp2_with fail
  refine CN2.mono ?_
  rintro e w3 ⟨L2, rfl, b3, D2, l2, d2⟩
  obtain ⟨z, zC, zr, zs, HZ⟩ := FIN.out w1 w2 w3 L1 L2 D1 D2 q b1 b2 l1 d1 b3 l2 d2
  clear FIN CN1 CN2 q l1 l2 d1 d2
  go_wp2_with fail
  go_ret2
  obtain ⟨h1, h2⟩ := HZ _ rfl

  exact ⟨z, by rw [zC]; rfl, zr, zs, h1, h2⟩

end Go.Proofs.YtgjpbekmkhanhaaGreat.CH

/-
  The law's world: a channel more, a task more.
-/
namespace Go.Proofs.YtgjpbekmkhanhaaGreat.CH
open Go.RowKit QW
set_option maxRecDepth 100000
set_option linter.unusedSimpArgs false

/-- A thing more at the end of a row of one's own. -/
theorem row_app (w : World) (base : Nat) (t e : TypeId) (i : TypeInfo) (z : Value) (size bytes : Nat) (ht : Tryz.prog.underlying t = some (.slice e)) (hi : Tryz.prog.info? e = some i) (hz : i.zero = some z) (hsize : i.size = size) (hby : i.bytes = bytes) (hzs : z.cells.size = size) (hsz : 0 < size)
    {v : Value} {n : Nat} {xs : List Value} (hown : w.ownsRow base e size v n xs) (news : List Value) (hl : news.length = size) (h1 : ∀ u ∈ news, u.oneCell' = true) (h63 : n ≤ 1000000) (hbytes : bytes ≤ 1000) (hbase : base ≤ w.heap.size) :
    ∃ va vc v' X, v = .slice va n vc ∧ (Builtin.append_ #[t, t] t #[v, .slice (some ⟨w.heap.size, 0, none⟩) 1 1]).run Tryz.prog (w.alloc (.cells news.toArray e)) = .ok v' X ∧ (∃ p c, v' = .slice p (n + 1) c) ∧ X.ownsRow base e size v' (n + 1) (xs ++ news) ∧ Tb (fun k => v.ownBlock = some k) w X ∧ (∀ k, v'.ownBlock = some k → v.ownBlock = some k ∨ w.heap.size ≤ k) := by
  obtain ⟨va, vc, rfl⟩ := row_val hown
  have bY : Below w.heap.size w (w.alloc (.cells news.toArray e)) := (Below.refl _ w).alloc (Nat.le_refl _) _
  have hYn : (w.alloc (.cells news.toArray e)).heap[w.heap.size]? = some (.cells news.toArray e (0, 0)) := heap_alloc_new w _
  have erY := row_tb hown (Tb.of_fresh (S := fun _ => False) bY) (fun _ _ h => h)
  have hm : (n + 1) * bytes ≤ 1000001 * 1000 := Nat.mul_le_mul (by omega) hbytes
  obtain ⟨v', X, r1, r2, r3, _, r4⟩ := run_append_own_at (P := Tryz.prog) (w := w.alloc (.cells news.toArray e)) base t t e i z size bytes ht hi hz hsize hby hzs hsz (.slice va n vc) n xs erY ⟨w.heap.size, 0, none⟩ 1 1 news (by omega) (fun j u hj => by
    rw [Addr.add_lit, cell_of_row _ _ _ _ _ _ hYn]
    simpa using hj) h1 (by unfold maxLen; omega) (by omega) (by have := bY.size; omega)
  have hzY := bY.size
  refine ⟨va, vc, v', X, rfl, r1, row_val r2, r2, (Tb.of_fresh (S := fun k => (Value.slice va n vc).ownBlock = some k) bY).trans (Tb.of_grown r3 (fun k e => e)) (fun k _ e => e), fun k hk => ?_⟩
  rcases r4 with e | e
  · rw [e] at hk; exact .inl hk
  · rw [e] at hk; cases hk; exact .inr (by omega)

section
variable {w w' X : World} {L B : Nat} {pv cv cv' tvv tvv' ev : Value} {a a' : Ad} {s s' : Rs} {A A' : Nat → Bool} {zs : List Zc} {m m' : Nat} {K K' : Nat → Pkr} {σ σ' : Sg} {lab lab' : Lb}

/-- A channel more. -/
def Sg.more (σ : Sg) (n : Nat) : Sg := { σ with ch := σ.ch ++ [⟨n, false, [], [], []⟩] }
theorem more_wts (n : Nat) : (σ.more n).wts = σ.wts := by
  unfold Sg.wts Sg.more
  simp [List.flatMap_append, Cz.wts]

theorem Wm.addch (h : Wm w L B pv cv tvv ev a s A zs m K σ lab) (z : Zc) (hzr : z.rt = a.R) (hn : z.size ≤ 64) {D : Nat → Prop} (hD : Ch w A z m ⟨false, [], [], []⟩ D) (hDn : ∀ k, D k → lab k = none ∧ L ≤ k) (t : Tb (fun k => cv.ownBlock = some k) w X)
    (cr' : X.ownsRow L (48 : TypeId) 1 cv' (zs.length + 1) ((zs.map fun z => .pointer (some ⟨z.C, 0, none⟩)) ++ [.pointer (some ⟨z.C, 0, none⟩)])) (own' : ∀ k, cv'.ownBlock = some k → cv.ownBlock = some k ∨ w.heap.size ≤ k) :
    ∃ lab', Wm (X.setCell ⟨B, 2, none⟩ cv') L B pv cv' tvv ev a s A (zs ++ [z]) m K (σ.more z.size) lab' ∧ (∀ k, lab k = some .fz → lab' k = some .fz) ∧ (∀ k, lab' k ≠ none → lab k ≠ none ∨ D k ∨ w.heap.size ≤ k) ∧ Tb (fun k => cv.ownBlock = some k ∨ k = B) w (X.setCell ⟨B, 2, none⟩ cv') := by
  obtain ⟨Z, hZ⟩ : ∃ Z, Z = X.setCell ⟨B, 2, none⟩ cv' := ⟨_, rfl⟩
  have tZ : Tb (fun k => k = B) X Z := by rw [hZ]; exact Tb.set B 2 _ rfl
  have hBX : X.heap[B]? = some (.cells #[.pointer (some ⟨a.R, 0, none⟩), pv, cv, tvv, ev, .bool false] (36 : TypeId) (0, 0)) := (t.block _ (heap_lt h.blk) (fun e => by have := h.lc B e; rw [h.lb] at this; cases this)).trans h.blk
  have hBZ : Z.heap[B]? = some (.cells #[.pointer (some ⟨a.R, 0, none⟩), pv, cv', tvv, ev, .bool false] (36 : TypeId) (0, 0)) := by
    rw [hZ, heap_setCell_same X B 2 _ _ _ hBX]
    rfl
  have twZ : Tb (fun k => cv.ownBlock = some k ∨ k = B) w Z := (show Tb (fun k => cv.ownBlock = some k ∨ k = B) w X from t.mono (fun _ _ e => .inl e)).trans tZ (fun k _ e => .inr e)
  rw [← hZ]
  have hzX := t.size
  have hzZ := tZ.size
  have hlS : ∀ k l, lab k = some l → l ≠ .cv → l ≠ .b → ¬ (cv.ownBlock = some k ∨ k = B) := fun k l hk n1 n2 e => by
    rcases e with e | e
    · have := h.lc k e
      rw [hk] at this
      exact n1 (Option.some.inj this)
    · rw [e, h.lb] at hk
      exact n2 (Option.some.inj hk).symm
  have hD1 : ∀ k, cv'.ownBlock = some k → lab k = some .cv ∨ lab k = none := fun k hk => (own' k hk).imp (h.lc k) h.fresh
  obtain ⟨lab1, hl1⟩ : ∃ lab1, lab1 = relab lab .cv (fun k => cv'.ownBlock = some k) := ⟨_, rfl⟩
  have o1 : ∀ k l, l ≠ .cv → (lab1 k = some l ↔ lab k = some l) := fun k l hl => by rw [hl1]; exact relab_other hD1 hl
  have s1 : ∀ k, lab1 k = some .cv ↔ cv'.ownBlock = some k := fun k => by rw [hl1]; exact relab_same
  have hDl : ∀ k, D k → k < w.heap.size := fun k hk => hD.lt hk
  have hD2 : ∀ k, D k → lab1 k = some (.ch zs.length) ∨ lab1 k = none := fun k hk => by
    cases e : lab1 k with
    | none => exact .inr rfl
    | some l =>
      by_cases e' : l = .cv
      · subst e'
        rcases own' k ((s1 k).1 e) with e2 | e2
        · have := h.lc k e2
          rw [(hDn k hk).1] at this
          cases this
        · have := hDl k hk; omega
      · have := (o1 k l e').1 e
        rw [(hDn k hk).1] at this
        cases this
  obtain ⟨lab2, hl2⟩ : ∃ lab2, lab2 = relab lab1 (.ch zs.length) D := ⟨_, rfl⟩
  have s2 : ∀ k, lab2 k = some (.ch zs.length) ↔ D k := fun k => by rw [hl2]; exact relab_same
  have o2 : ∀ k l, l ≠ .ch zs.length → (lab2 k = some l ↔ lab1 k = some l) := fun k l hl => by rw [hl2]; exact relab_other hD2 hl
  have o : ∀ k l, l ≠ .cv → l ≠ .ch zs.length → (lab2 k = some l ↔ lab k = some l) := fun k l n1 n2 => (o2 k l n2).trans (o1 k l n1)
  have hsame : ∀ k l, lab k = some l → l ≠ .cv → l ≠ .b → Z.heap[k]? = w.heap[k]? := fun k l hk n1 n2 => twZ.block k (h.lt' k l hk) (hlS k l hk n1 n2)
  have hkv : Kv w A Z A := Kv.tb A twZ (fun k f ht e => by
    rcases e with e | e
    · obtain ⟨cs, hcs⟩ := row_ty h.cr e
      exact ty_ne ht hcs (by decide) rfl
    · subst e
      exact ty_ne ht h.blk (by decide) rfl)
  have hfz : ∀ k, Fz lab k → Fz lab2 k := fun k hk => (o k _ (by simp) (by simp)).2 hk
  have hpk : ∀ i k, lab k = some (.pk i) → lab2 k = some (.pk i) ∧ Z.heap[k]? = w.heap[k]? ∧ A k = A k := fun i k hk => ⟨(o k _ (by simp) (by simp)).2 hk, hsame k _ hk (by simp) (by simp), rfl⟩
  have hDS : ∀ k, D k → ¬ (cv.ownBlock = some k ∨ k = B) := fun k hk e => by
    rcases e with e | e
    · have := h.lc k e
      rw [(hDn k hk).1] at this; cases this
    · subst e
      have := h.lb
      rw [(hDn _ hk).1] at this; cases this
  have hcvB : ∀ k, cv'.ownBlock = some k → ¬ k = B := fun k hk e => by
    subst e
    rcases hD1 k hk with e | e
    · rw [h.lb] at e; cases e
    · rw [h.lb] at e; cases e
  have hcn := h.cn
  refine ⟨lab2, ⟨hBZ, h.rt.tb twZ (fun k hk => ?_), ?_, row_tb h.tr twZ (fun g hg => hlS g _ (h.lt g hg) (by simp) (by simp)), row_tb h.er twZ (fun g hg => hlS g _ (h.le g hg) (by simp) (by simp)), fun k hk => (o k _ (by simp) (by simp)).2 (h.lr k hk), (o _ _ (by simp) (by simp)).2 h.lq, (o _ _ (by simp) (by simp)).2 h.lb, fun k hk => (o k _ (by simp) (by simp)).2 (h.le k hk), fun k hk => (o2 k _ (by simp)).2 ((s1 k).2 hk), fun k hk => (o k _ (by simp) (by simp)).2 (h.lt k hk), fun k l hk => ?_, fun j y c hy hc => ?_, by simp [Sg.more, hcn], fun k hk => h.ha k (by omega), h.ln, h.len, fun i u p hu hp => (h.cl i u p hu hp).keep (fun k hk => hsame k _ hk (by simp) (by simp)) hfz (hpk i) h.lt', ?_⟩, hfz, fun k hk => ?_, twZ⟩
  · rcases hk with hk | hk
    · exact hlS k _ (h.lr k hk) (by simp) (by simp)
    · subst hk
      exact hlS _ _ h.lq (by simp) (by simp)
  · have e1 : (zs ++ [z]).length = zs.length + 1 := by simp
    have e2 : ((zs ++ [z]).map fun z => Value.pointer (some ⟨z.C, 0, none⟩)) = (zs.map fun z => .pointer (some ⟨z.C, 0, none⟩)) ++ [.pointer (some ⟨z.C, 0, none⟩)] := by simp
    rw [e1, e2]
    exact row_tb cr' tZ hcvB
  · by_cases e1 : l = .ch zs.length
    · subst e1
      have := hDl k ((s2 k).1 hk)
      exact ⟨(hDn k ((s2 k).1 hk)).2, by omega⟩
    · by_cases e2 : l = .cv
      · subst e2
        have := cr'.lt k ((s1 k).1 ((o2 k _ e1).1 hk))
        exact ⟨this.1, by omega⟩
      · have := h.lo k l ((o k l e2 e1).1 hk)
        exact ⟨this.1, by omega⟩
  · by_cases hj : j < zs.length
    · rw [List.getElem?_append_left hj] at hy
      simp only [Sg.more, List.getElem?_append_left (show j < σ.ch.length by omega)] at hc
      obtain ⟨g1, g2, g3⟩ := h.ch j y c hy hc
      refine ⟨g1, g2, (g3.same twZ (fun k hk => hlS k _ hk (by simp) (by simp)) hkv).iff (fun k => o k _ (by simp) (fun e => by cases e; omega))⟩
    · have hjl : j < (zs ++ [z]).length := (List.getElem?_eq_some_iff.1 hy).1
      have hje : j = zs.length := by simp at hjl; omega
      subst hje
      simp only [List.getElem?_concat_length, Option.some.injEq] at hy
      rw [hcn] at hc
      simp only [Sg.more, List.getElem?_concat_length, Option.some.injEq] at hc
      subst hy hc
      exact ⟨hzr, rfl, (hD.same twZ hDS hkv).iff s2⟩
  · refine ⟨by rw [more_wts]; exact h.ok.nd, fun j c hc => ?_, fun j c hc => ?_, fun j c hc => ?_⟩
    all_goals
      by_cases hj : j < σ.ch.length
      · simp only [Sg.more, List.getElem?_append_left hj] at hc
        first
          | exact h.ok.sn j c hc
          | exact h.ok.rc j c hc
          | exact h.ok.bf j c hc
      · have hjl := (List.getElem?_eq_some_iff.1 hc).1
        have hje : j = σ.ch.length := by simp [Sg.more] at hjl; omega
        subst hje
        simp only [Sg.more, List.getElem?_concat_length, Option.some.injEq] at hc
        subst hc
        first
          | exact ⟨Nat.zero_le _, hn⟩
          | (intro x hx; cases hx)
  · obtain ⟨l, hl⟩ := Option.ne_none_iff_exists'.1 hk
    by_cases e1 : l = .ch zs.length
    · subst e1
      exact .inr (.inl ((s2 k).1 hl))
    · by_cases e2 : l = .cv
      · subst e2
        rcases own' k ((s1 k).1 ((o2 k _ e1).1 hl)) with e | e
        · exact .inl (by rw [h.lc k e]; simp)
        · exact .inr (.inr e)
      · exact .inl (by rw [(o k l e2 e1).1 hl]; simp)

/-- A task more. -/
def Sg.add (σ : Sg) : Sg := { σ with tk := σ.tk ++ [⟨0, 1, (0, 0, false), false⟩], line := σ.line ++ [(σ.tk.length : Int)] }

theorem Wm.addtk (h : Wm w L B pv cv tvv ev a s A zs m K σ lab) (hL : L ≤ w.heap.size) {w1 : World} {v : Value} {b : Nat} (x : Rp w a s w1 a' (s.spawn b v)) {N : Nat → Prop} (hN : ∀ k, N k → w.heap.size ≤ k ∧ k < w1.heap.size ∧ ¬ own a' (s.spawn b v) k) (hgo : Go0 (fun k => lab k = some .fz ∨ N k) w1 v (QT B b σ.tk.length 0 (0, 0, false))) (t : Tb (fun k => tvv.ownBlock = some k) w1 X)
    (tr' : X.ownsRow L (60 : TypeId) 1 tvv' (s.ts.length + 1) ((s.ts.map fun t => .pointer (some ⟨t.b, 0, none⟩)) ++ [.pointer (some ⟨b, 0, none⟩)])) (own' : ∀ k, tvv'.ownBlock = some k → tvv.ownBlock = some k ∨ w1.heap.size ≤ k) :
    ∃ lab', Wm (X.setCell ⟨B, 3, none⟩ tvv') L B pv cv tvv' ev a' (s.spawn b v) A zs m K σ.add lab' ∧ Wy w lab (X.setCell ⟨B, 3, none⟩ tvv') lab' := by
  obtain ⟨Z, hZ⟩ : ∃ Z, Z = X.setCell ⟨B, 3, none⟩ tvv' := ⟨_, rfl⟩
  have tZ : Tb (fun k => k = B) X Z := by rw [hZ]; exact Tb.set B 3 _ rfl
  have t1 := x.x.tb
  have hz1 := t1.size
  have hzX := t.size
  have hzZ := tZ.size
  have hBl : B < w.heap.size := heap_lt h.blk
  have nB : ¬ own a s B := fun e => by have := h.lr B e; rw [h.lb] at this; cases this
  have nBt : ¬ tvv.ownBlock = some B := fun e => by have := h.lt B e; rw [h.lb] at this; cases this
  have hB1 : w1.heap[B]? = _ := (t1.block _ hBl nB).trans h.blk
  have hBX : X.heap[B]? = some (.cells #[.pointer (some ⟨a.R, 0, none⟩), pv, cv, tvv, ev, .bool false] (36 : TypeId) (0, 0)) := (t.block _ (by omega) nBt).trans hB1
  have hBZ : Z.heap[B]? = some (.cells #[.pointer (some ⟨a.R, 0, none⟩), pv, cv, tvv', ev, .bool false] (36 : TypeId) (0, 0)) := by
    rw [hZ, heap_setCell_same X B 3 _ _ _ hBX]
    rfl
  have tw1Z : Tb (fun k => tvv.ownBlock = some k ∨ k = B) w1 Z := (show Tb (fun k => tvv.ownBlock = some k ∨ k = B) w1 X from t.mono (fun _ _ e => .inl e)).trans tZ (fun k _ e => .inr e)
  have twZ : Tb (fun k => own a s k ∨ tvv.ownBlock = some k ∨ k = B) w Z := (show Tb (fun k => own a s k ∨ tvv.ownBlock = some k ∨ k = B) w w1 from t1.mono (fun _ _ e => .inl e)).trans tw1Z (fun k _ e => .inr e)
  rw [← hZ]
  have hlS : ∀ k l, lab k = some l → l ≠ .rt → l ≠ .tv → l ≠ .b → ¬ (own a s k ∨ tvv.ownBlock = some k ∨ k = B) := fun k l hk n0 n1 n2 e => by
    rcases e with e | e | e
    · have := h.lr k e
      rw [hk] at this
      exact n0 (Option.some.inj this)
    · have := h.lt k e
      rw [hk] at this
      exact n1 (Option.some.inj this)
    · rw [e, h.lb] at hk
      exact n2 (Option.some.inj hk).symm
  have hD1 : ∀ k, own a' (s.spawn b v) k → lab k = some .rt ∨ lab k = none := fun k hk => (x.x.own hk).imp (h.lr k) h.fresh
  obtain ⟨lab1, hl1⟩ : ∃ lab1, lab1 = relab lab .rt (own a' (s.spawn b v)) := ⟨_, rfl⟩
  have o1 : ∀ k l, l ≠ .rt → (lab1 k = some l ↔ lab k = some l) := fun k l hl => by rw [hl1]; exact relab_other hD1 hl
  have s1 : ∀ k, lab1 k = some .rt ↔ own a' (s.spawn b v) k := fun k => by rw [hl1]; exact relab_same
  have hnl1 : ∀ k, lab k = none → ¬ own a' (s.spawn b v) k → lab1 k = none := fun k hk hn => by
    cases e : lab1 k with
    | none => rfl
    | some l =>
      by_cases e' : l = .rt
      · subst e'; exact absurd ((s1 k).1 e) hn
      · have := (o1 k l e').1 e; rw [hk] at this; cases this
  have ownlt : ∀ k, own a' (s.spawn b v) k → k < w1.heap.size := fun k hk => x.rt.m.own_lt hk
  have hD2 : ∀ k, tvv'.ownBlock = some k → lab1 k = some .tv ∨ lab1 k = none := fun k hk => (own' k hk).imp (fun e => (o1 k _ (by simp)).2 (h.lt k e)) (fun e => hnl1 k (h.fresh (by omega)) (fun e' => by have := ownlt k e'; omega))
  obtain ⟨lab2, hl2⟩ : ∃ lab2, lab2 = relab lab1 .tv (fun k => tvv'.ownBlock = some k) := ⟨_, rfl⟩
  have s2 : ∀ k, lab2 k = some .tv ↔ tvv'.ownBlock = some k := fun k => by rw [hl2]; exact relab_same
  have o2 : ∀ k l, l ≠ .tv → (lab2 k = some l ↔ lab1 k = some l) := fun k l hl => by rw [hl2]; exact relab_other hD2 hl
  have hD3 : ∀ k, (lab k = some .fz ∨ N k) → lab2 k = some .fz ∨ lab2 k = none := fun k hk => by
    rcases hk with hk | hk
    · exact .inl ((o2 k _ (by simp)).2 ((o1 k _ (by simp)).2 hk))
    · obtain ⟨n1, n2, n3⟩ := hN k hk
      refine .inr ?_
      cases e : lab2 k with
      | none => rfl
      | some l =>
        by_cases e' : l = .tv
        · subst e'
          rcases own' k ((s2 k).1 e) with e2 | e2
          · have := h.lt' k _ (h.lt k e2); omega
          · omega
        · have := (o2 k l e').1 e
          rw [hnl1 k (h.fresh n1) n3] at this
          cases this
  obtain ⟨lab3, hl3⟩ : ∃ lab3, lab3 = relab lab2 .fz (fun k => lab k = some .fz ∨ N k) := ⟨_, rfl⟩
  have s3 : ∀ k, lab3 k = some .fz ↔ (lab k = some .fz ∨ N k) := fun k => by rw [hl3]; exact relab_same
  have o3 : ∀ k l, l ≠ .fz → (lab3 k = some l ↔ lab2 k = some l) := fun k l hl => by rw [hl3]; exact relab_other hD3 hl
  have o : ∀ k l, l ≠ .rt → l ≠ .tv → l ≠ .fz → (lab3 k = some l ↔ lab k = some l) := fun k l n1 n2 n3 => ((o3 k l n3).trans (o2 k l n2)).trans (o1 k l n1)
  have hfz : ∀ k, Fz lab k → Fz lab3 k := fun k hk => (s3 k).2 (.inl hk)
  have hsame : ∀ k l, lab k = some l → l ≠ .rt → l ≠ .tv → l ≠ .b → Z.heap[k]? = w.heap[k]? := fun k l hk n0 n1 n2 => twZ.block k (h.lt' k l hk) (hlS k l hk n0 n1 n2)
  have hkv : Kv w A Z A := Kv.tb A twZ (fun k f ht e => by
    rcases e with e | e | e
    · have h1 := own_ty h.rt.m e ht
      revert h1
      decide
    · obtain ⟨cs, hcs⟩ := row_ty h.tr e
      exact ty_ne ht hcs (by decide) rfl
    · subst e
      exact ty_ne ht h.blk (by decide) rfl)
  have hpk : ∀ i k, lab k = some (.pk i) → lab3 k = some (.pk i) ∧ Z.heap[k]? = w.heap[k]? ∧ A k = A k := fun i k hk => ⟨(o k _ (by simp) (by simp) (by simp)).2 hk, hsame k _ hk (by simp) (by simp) (by simp), rfl⟩
  have hnt : ∀ k, own a' (s.spawn b v) k ∨ k = a'.Q → ¬ (tvv.ownBlock = some k ∨ k = B) := fun k hk e => by
    have hk' : lab k = some .rt ∨ lab k = none ∧ w.heap.size ≤ k ∨ lab k = some .q := by
      rcases hk with hk | hk
      · exact (x.x.own hk).elim (fun e => .inl (h.lr k e)) (fun e => .inr (.inl ⟨h.fresh e, e⟩))
      · rw [hk, x.x.Q]; exact .inr (.inr h.lq)
    have he : lab k = some .tv ∨ lab k = some .b := e.imp (h.lt k) (fun e => by rw [e]; exact h.lb)
    rcases hk' with e1 | ⟨e1, _⟩ | e1 <;> rw [e1] at he <;> simp at he
  have hNt : ∀ k, N k → ¬ (tvv.ownBlock = some k ∨ k = B) := fun k hk e => by
    obtain ⟨n1, _, _⟩ := hN k hk
    rcases e with e | e
    · have := h.lt' k _ (h.lt k e); omega
    · omega
  have ht'B : ∀ k, tvv'.ownBlock = some k → ¬ k = B := fun k hk e => by
    subst e
    rcases own' k hk with e | e
    · exact nBt e
    · omega
  refine ⟨lab3, ⟨by rw [x.x.R]; exact hBZ, x.rt.tb tw1Z hnt, row_tb h.cr twZ (fun g hg => hlS g _ (h.lc g hg) (by simp) (by simp) (by simp)), ?_, row_tb h.er twZ (fun g hg => hlS g _ (h.le g hg) (by simp) (by simp) (by simp)), fun k hk => (o3 k _ (by simp)).2 ((o2 k _ (by simp)).2 ((s1 k).2 hk)), by rw [x.x.Q]; exact (o _ _ (by simp) (by simp) (by simp)).2 h.lq, (o _ _ (by simp) (by simp) (by simp)).2 h.lb, fun k hk => (o k _ (by simp) (by simp) (by simp)).2 (h.le k hk), fun k hk => (o k _ (by simp) (by simp) (by simp)).2 (h.lc k hk), fun k hk => (o3 k _ (by simp)).2 ((s2 k).2 hk), fun k l hk => ?_, fun j y c hy hc => ?_, h.cn, fun k hk => h.ha k (by omega), by simp [Rs.spawn, Sg.add, h.ln, h.len], by simp [Rs.spawn, Sg.add, h.len], fun i u p hu hp => ?_, ?_⟩, ⟨twZ.mono (fun k _ e => ?_), fun k hk => ?_, fun k hk => ⟨hfz k hk, hsame k _ hk (by simp) (by simp) (by simp)⟩⟩⟩
  · have e1 : (s.spawn b v).ts.length = s.ts.length + 1 := by simp [Rs.spawn]
    have e2 : (s.spawn b v).ts.map (fun t => Value.pointer (some ⟨t.b, 0, none⟩)) = s.ts.map (fun t => .pointer (some ⟨t.b, 0, none⟩)) ++ [.pointer (some ⟨b, 0, none⟩)] := by simp [Rs.spawn]
    rw [e1, e2]
    exact row_tb tr' tZ ht'B
  · by_cases e3 : l = .fz
    · subst e3
      rcases (s3 k).1 hk with e | e
      · have := h.lo k _ e; exact ⟨this.1, by omega⟩
      · obtain ⟨n1, n2, _⟩ := hN k e; exact ⟨by omega, by omega⟩
    · by_cases e2 : l = .tv
      · subst e2
        have := tr'.lt k ((s2 k).1 ((o3 k _ e3).1 hk))
        exact ⟨this.1, by omega⟩
      · by_cases e1 : l = .rt
        · subst e1
          have hk' := (s1 k).1 ((o2 k _ e2).1 ((o3 k _ e3).1 hk))
          have := ownlt k hk'
          refine ⟨?_, by omega⟩
          rcases x.x.own hk' with e | e
          · exact (h.lo k _ (h.lr k e)).1
          · omega
        · have := h.lo k l ((o k l e1 e2 e3).1 hk)
          exact ⟨this.1, by omega⟩
  · obtain ⟨g1, g2, g3⟩ := h.ch j y c hy hc
    rw [x.x.R]
    exact ⟨g1, g2, (g3.same twZ (fun k hk => hlS k _ hk (by simp) (by simp) (by simp)) hkv).iff (fun k => o k _ (by simp) (by simp) (by simp))⟩
  · by_cases hk : i < s.ts.length
    · simp only [Rs.spawn, List.getElem?_append_left hk] at hu
      simp only [Sg.add, List.getElem?_append_left (show i < σ.tk.length by rw [← h.len]; exact hk)] at hp
      exact (h.cl i u p hu hp).keep (fun k hk => hsame k _ hk (by simp) (by simp) (by simp)) hfz (hpk i) h.lt'
    · have : i = s.ts.length := by
        have := (List.getElem?_eq_some_iff.1 hu).1
        simp only [Rs.spawn, List.length_append, List.length_cons, List.length_nil] at this
        omega
      subst this
      simp only [Rs.spawn, List.getElem?_concat_length, Option.some.injEq] at hu
      rw [h.len] at hp ⊢
      simp only [Sg.add, List.getElem?_concat_length, Option.some.injEq] at hp
      subst hu hp
      refine ⟨by simp, fun _ => ⟨hgo.keep (fun k hk => tw1Z.block k ?_ ?_) (fun k hk => (s3 k).2 hk), rfl⟩, fun e => by simp at e, fun e => by simp at e, fun e => by simp at e⟩
      · rcases hk with e | e
        · have := h.lt' k _ e; omega
        · exact (hN k e).2.1
      · rcases hk with e | e
        · exact fun e' => hlS k _ e (by simp) (by simp) (by simp) (.inr e')
        · exact hNt k e
  · have ep : ∀ k, k < σ.tk.length → σ.add.p k = σ.p k := fun k hk => by
      simp only [Sg.p, Sg.add, List.getD]
      rw [List.getElem?_append_left hk]
    refine ⟨h.ok.nd, fun j c hc y hy => ?_, fun j c hc y hy => ?_, h.ok.bf⟩
    · obtain ⟨q1, q2, q3⟩ := h.ok.sn j c hc y hy
      rw [ep _ q3]
      exact ⟨q1, q2, by simp [Sg.add]; omega⟩
    · obtain ⟨q1, q2, q3⟩ := h.ok.rc j c hc y hy
      rw [ep _ q3]
      exact ⟨q1, q2, by simp [Sg.add]; omega⟩
  · rcases e with e | e | e
    · rw [h.lr k e]; simp
    · rw [h.lt k e]; simp
    · subst e
      rw [h.lb]; simp
  · obtain ⟨l, hl⟩ := Option.ne_none_iff_exists'.1 hk
    by_cases e3 : l = .fz
    · subst e3
      rcases (s3 k).1 hl with e | e
      · exact .inl (by rw [e]; simp)
      · exact .inr (hN k e).1
    · by_cases e2 : l = .tv
      · subst e2
        rcases own' k ((s2 k).1 ((o3 k _ e3).1 hl)) with e | e
        · exact .inl (by rw [h.lt k e]; simp)
        · exact .inr (by omega)
      · by_cases e1 : l = .rt
        · subst e1
          rcases x.x.own ((s1 k).1 ((o2 k _ e2).1 ((o3 k _ e3).1 hl))) with e | e
          · exact .inl (by rw [h.lr k e]; simp)
          · exact .inr e
        · exact .inl (by rw [(o k l e1 e2 e3).1 hl]; simp)
end

end Go.Proofs.YtgjpbekmkhanhaaGreat.CH

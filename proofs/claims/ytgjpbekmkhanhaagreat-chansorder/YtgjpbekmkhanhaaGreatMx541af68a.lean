/-
  Texts put into one.
-/
import Derived.Test.YtgjpbekmkhanhaaGreatMx76cb5c82

/-
  The law's world: a task that waits is served; a task begins to wait.
-/
namespace Go.Proofs.YtgjpbekmkhanhaaGreat.CH
open Go.RowKit QW
set_option maxRecDepth 100000

section
variable {w w' : World} {L B : Nat} {pv cv tvv ev : Value} {a a' : Ad} {s s' : Rs} {A A' : Nat → Bool} {zs : List Zc} {m m' : Nat} {K K' : Nat → Pkr} {σ σ' : Sg} {lab lab' : Lb}

/-- A ticket has fired. -/
def fire (A : Nat → Bool) (k : Nat) : Nat → Bool := fun j => if j = k then false else A j

theorem relab_sub {lab : Lb} {l l' : Lab} {D : Nat → Prop} {k : Nat} (h : lab k = some l') (hl : l' ≠ l) (hD : ¬ D k) : relab lab l D k = some l' := by
  unfold relab
  rw [if_neg hD, if_neg (fun e => hl (by rw [h] at e; exact Option.some.inj e)), h]
theorem relab_from {lab : Lb} {l l' : Lab} {D : Nat → Prop} {k : Nat} (h : relab lab l D k = some l') (hl : l' ≠ l) : lab k = some l' := by
  unfold relab at h
  by_cases h1 : D k
  · rw [if_pos h1] at h
    exact absurd (Option.some.inj h).symm hl
  · rw [if_neg h1] at h
    by_cases h2 : lab k = some l
    · rw [if_pos h2] at h
      cases h
    · rwa [if_neg h2] at h

theorem Wm.serves (h : Wm w L B pv cv tvv ev a s A zs m K σ lab) (hL : L ≤ w.heap.size) {i : Nat} {t : Tc} {p : Pt} (hi : s.ts[i]? = some t) (hp : σ.tk[i]? = some p) (hst : p.st = 3) (hnw : i ∉ σ.wts) {v : Int} {ok : Bool} (hs : Served w a s i t.b (K i).k (K i).sv (K i).tb (K i).ub (K i).th v ok w') :
    ∃ a' w1 w2 lab', Wm w' L B pv cv tvv ev a' (s.gets i ⟨t.b, wkf w1 w2, .nilFunc⟩) (fire A (K i).k) zs m K (σ.gets i (0, if p.rc then v else 0, ok)) lab' ∧ Wy w lab w' lab' ∧ Kv w A w' (fire A (K i).k) := by
  obtain ⟨a', w1, w2, g1, g2, rt', eR, eQ, ho, tb, hkt, e1, e2, es, eg1, eg2, hfr⟩ := hs.ex
  obtain ⟨h1, h2, hpk, hgo, l1, l2, l3, l4, l5, hA⟩ := (h.cl i t p hi hp).r3 hst
  have hz := tb.size
  refine ⟨a', w1, w2, relab (relab (relab lab .rt (own a' (s.gets i ⟨t.b, wkf w1 w2, .nilFunc⟩))) (.pk i) (fun _ => False)) .fz (fun k => lab k = some .fz ∨ (k = w1 ∨ k = w2 ∨ k = g1 ∨ k = g2 ∨ k = (K i).sv)), ?_⟩
  have hnew : ∀ k, k = w1 ∨ k = w2 ∨ k = g1 ∨ k = g2 → lab k = none := fun k hk => h.fresh (hfr k hk).1
  have hso : ¬ own a' (s.gets i ⟨t.b, wkf w1 w2, .nilFunc⟩) (K i).sv := fun e => by
    rcases ho _ e with h3 | h3
    · have := h.lr _ h3
      rw [l2] at this
      cases this
    · have := h.lt' _ _ l2; omega
  have hfz : ∀ k, lab k = some .fz → ¬ own a' (s.gets i ⟨t.b, wkf w1 w2, .nilFunc⟩) k := fun k hk e => by
    rcases ho _ e with h3 | h3
    · have := h.lr _ h3
      rw [hk] at this
      cases this
    · have := h.lt' _ _ hk; omega
  -- the labels
  have hkeep : ∀ k l, l ≠ .rt → l ≠ .pk i → l ≠ .fz → (relab (relab (relab lab .rt (own a' (s.gets i ⟨t.b, wkf w1 w2, .nilFunc⟩))) (.pk i) (fun _ => False)) .fz (fun k => lab k = some .fz ∨ (k = w1 ∨ k = w2 ∨ k = g1 ∨ k = g2 ∨ k = (K i).sv)) k = some l ↔ lab k = some l) := fun k l n1 n2 n3 => by
    constructor
    · intro e
      exact relab_from (relab_from (relab_from e n3) n2) n1
    · intro e
      refine relab_sub (relab_sub (relab_sub e n1 (fun e' => ?_)) n2 (fun e' => e')) n3 (fun e' => ?_)
      · rcases ho _ e' with h3 | h3
        · have := h.lr _ h3
          rw [e] at this
          exact n1 (Option.some.inj this)
        · have := h.lt' _ _ e; omega
      · rcases e' with e' | e' | e' | e' | e' | e'
        · rw [e] at e'
          exact n3 (Option.some.inj e')
        · rw [hnew k (.inl e')] at e; cases e
        · rw [hnew k (.inr (.inl e'))] at e; cases e
        · rw [hnew k (.inr (.inr (.inl e')))] at e; cases e
        · rw [hnew k (.inr (.inr (.inr e')))] at e; cases e
        · subst e'
          rw [l2] at e
          exact n2 (Option.some.inj e).symm
  have hrt : ∀ k, own a' (s.gets i ⟨t.b, wkf w1 w2, .nilFunc⟩) k → relab (relab (relab lab .rt (own a' (s.gets i ⟨t.b, wkf w1 w2, .nilFunc⟩))) (.pk i) (fun _ => False)) .fz (fun k => lab k = some .fz ∨ (k = w1 ∨ k = w2 ∨ k = g1 ∨ k = g2 ∨ k = (K i).sv)) k = some .rt := fun k hk => by
    refine relab_sub (relab_sub (relab_same.2 hk) (by simp) (fun e => e)) (by simp) (fun e' => ?_)
    rcases e' with e' | e' | e' | e' | e' | e'
    · exact hfz k e' hk
    · exact (hfr k (.inl e')).2 hk
    · exact (hfr k (.inr (.inl e'))).2 hk
    · exact (hfr k (.inr (.inr (.inl e')))).2 hk
    · exact (hfr k (.inr (.inr (.inr e')))).2 hk
    · subst e'
      exact hso hk
  have hrtf : ∀ k, relab (relab (relab lab .rt (own a' (s.gets i ⟨t.b, wkf w1 w2, .nilFunc⟩))) (.pk i) (fun _ => False)) .fz (fun k => lab k = some .fz ∨ (k = w1 ∨ k = w2 ∨ k = g1 ∨ k = g2 ∨ k = (K i).sv)) k = some .rt → own a' (s.gets i ⟨t.b, wkf w1 w2, .nilFunc⟩) k := fun k hk => relab_same.1 (relab_from (relab_from hk (by simp)) (by simp))
  have hpkf : ∀ k, ¬ relab (relab (relab lab .rt (own a' (s.gets i ⟨t.b, wkf w1 w2, .nilFunc⟩))) (.pk i) (fun _ => False)) .fz (fun k => lab k = some .fz ∨ (k = w1 ∨ k = w2 ∨ k = g1 ∨ k = g2 ∨ k = (K i).sv)) k = some (.pk i) := fun k hk => relab_same.1 (relab_from hk (by simp))
  have hfz1 : ∀ k, relab (relab (relab lab .rt (own a' (s.gets i ⟨t.b, wkf w1 w2, .nilFunc⟩))) (.pk i) (fun _ => False)) .fz (fun k => lab k = some .fz ∨ (k = w1 ∨ k = w2 ∨ k = g1 ∨ k = g2 ∨ k = (K i).sv)) k = some .fz ↔ lab k = some .fz ∨ (k = w1 ∨ k = w2 ∨ k = g1 ∨ k = g2 ∨ k = (K i).sv) := fun k => relab_same
  generalize relab (relab (relab lab .rt (own a' (s.gets i ⟨t.b, wkf w1 w2, .nilFunc⟩))) (.pk i) (fun _ => False)) .fz (fun k => lab k = some .fz ∨ (k = w1 ∨ k = w2 ∨ k = g1 ∨ k = g2 ∨ k = (K i).sv)) = lab' at *
  have f : Fr w lab (fun l => l = .rt ∨ l = .pk i) w' lab' := by
    refine ⟨tb.mono (fun k _ hk => ?_), (fun e => by rcases e with e | e <;> cases e), fun k l hT hl => hkeep k l (fun e => hT (.inl e)) (fun e => hT (.inr e)) hl, fun k hk => (hfz1 k).2 (.inl hk), fun k hk => ?_, fun k l hT hk => ?_⟩
    · rcases hk with hk | hk | hk
      · exact ⟨_, h.lr k hk, .inl rfl⟩
      · exact ⟨_, hk ▸ l1, .inr rfl⟩
      · exact ⟨_, hk ▸ l2, .inr rfl⟩
    · rcases (hfz1 k).1 hk with e' | e' | e' | e' | e' | e'
      · exact .inl e'
      · exact .inr (.inr (hfr k (.inl e')).1)
      · exact .inr (.inr (hfr k (.inr (.inl e'))).1)
      · exact .inr (.inr (hfr k (.inr (.inr (.inl e')))).1)
      · exact .inr (.inr (hfr k (.inr (.inr (.inr e')))).1)
      · exact .inr (.inl ⟨_, e' ▸ l2, .inr rfl⟩)
    · rcases hT with rfl | rfl
      · exact (ho k (hrtf k hk)).imp (fun h3 => ⟨_, h.lr k h3, .inl rfl⟩) id
      · exact absurd hk (hpkf k)
  have hkv : Kv w A w' (fire A (K i).k) := fun x hx => by
    obtain ⟨j, g, hx1, hx2, hx3⟩ := hx
    have hal : al (fire A (K i).k) x = true → al A x = true := by
      unfold al fire
      rw [hx1]
      by_cases e : j = (K i).k
      · simp [e]
      · simp [e]
    refine ⟨?_, hal⟩
    by_cases e : j = (K i).k
    · subst e
      exact ⟨_, _, hx1, hkt, .inr ⟨by simp [fire], rfl⟩⟩
    · refine ⟨j, g, hx1, hx2.tb tb (fun e' => ?_), by simpa [fire, e] using hx3⟩
      rcases e' with e' | e' | e'
      · have h3 := own_ty h.rt.m e' hx2
        revert h3
        decide
      · exact e e'
      · subst e'
        exact ty_ne hx2 hpk.hs (by decide) rfl
  have hil : i < σ.tk.length := (List.getElem?_eq_some_iff.1 hp).1
  refine ⟨h.build f hL (fun e => by rcases e with e | e <;> cases e) (fun e => by rcases e with e | e <;> cases e) (fun e => by rcases e with e | e <;> cases e) (fun e => by rcases e with e | e <;> cases e) (fun e => by rcases e with e | e <;> cases e) (fun k l hk => ?_) rt' eR eQ ?_ hrt rfl (fun j z c hz hc => ⟨(h.ch j z c hz hc).1, (h.ch j z c hz hc).2.1, h.chK f hz hc (fun e => by rcases e with e | e <;> cases e) hkv (fun q hq => ?_) (fun _ _ => rfl) (Nat.le_refl _)⟩) rfl (fun k hk => ?_) (by simp [Rs.gets, Sg.gets, h.ln]) (by simp [Sg.gets]) (fun j u q hu hq => ?_) (h.ok.gets hnw _ hil), f.wy h.lt', hkv⟩
  · by_cases n1 : l = .rt
    · subst n1
      exact rt'.m.own_lt (hrtf k hk)
    · by_cases n2 : l = .pk i
      · subst n2
        exact absurd hk (hpkf k)
      · by_cases n3 : l = .fz
        · subst n3
          rcases (hfz1 k).1 hk with e' | e' | e' | e' | e' | e'
          · have := h.lt' k _ e'; omega
          · subst e'; exact heap_lt e1
          · subst e'; exact heap_lt e2
          · subst e'; exact heap_lt eg1
          · subst e'; exact heap_lt eg2
          · subst e'; exact heap_lt es
        · have := h.lt' k l ((hkeep k l n1 n2 n3).1 hk); omega
  · exact map_set hi rfl
  · obtain ⟨t', p', ht', hp', h3, h4⟩ := h.waits (mem_wts.2 ⟨j, c, hc, hq⟩)
    have hne : q ≠ i := fun e => hnw (e ▸ mem_wts.2 ⟨j, c, hc, hq⟩)
    have hlq := ((h.cl q t' p' ht' hp').r3 h3).2.2.2.2.1
    have : (K q).k ≠ (K i).k := fun e => by
      rw [e, l1] at hlq
      exact hne (by cases hlq; rfl)
    simp [fire, this, h4]
  · have : k ≠ (K i).k := fun e => by have := h.lt' _ _ l1; omega
    simp [fire, this, h.ha k (by omega)]
  · simp only [Rs.gets, get_set hi] at hu
    rw [gets_get hp] at hq
    by_cases e : j = i
    · subst e
      rw [if_pos rfl] at hu hq
      cases hu
      cases hq
      have hgo' : Go2 (Fz lab') w' (K j).f (fun v ok => QT B t.b j p.at' (0, if p.rc then v else 0, ok)) := hgo.keep (f.wy h.lt').agr (f.wy h.lt').sub
      have eth : w'.heap[(K j).th]? = some (.cells #[(K j).f] (68 : TypeId) (0, 0)) := (f.blk h.lt' l5 (fun e => by rcases e with e | e <;> cases e)).trans hpk.hh
      have hserved := nx_served hgo' (w1 := w1) (w2 := w2) (sv := (K j).sv) (tb := (K j).tb) (ub := (K j).ub) (th := (K j).th) (g1 := g1) (g2 := g2) (x := v) (b := ok) ((hfz1 _).2 (.inr (.inl rfl))) ((hfz1 _).2 (.inr (.inr (.inl rfl)))) ((hfz1 _).2 (.inr (.inr (.inr (.inr (.inr rfl)))))) ((hfz1 _).2 (.inl l5)) ((hfz1 _).2 (.inr (.inr (.inr (.inl rfl))))) ((hfz1 _).2 (.inr (.inr (.inr (.inr (.inl rfl)))))) e1 e2 es eth eg1 eg2
      exact ⟨(by simp), (fun _ => ⟨hserved, rfl⟩), (fun e => by simp at e), (fun e => by simp at e), (fun e => by simp at e)⟩
    · rw [if_neg e] at hu hq
      have hnpk : ¬ ((Lab.pk j = .rt) ∨ (Lab.pk j = .pk i)) := fun e' => by
        rcases e' with e' | e'
        · cases e'
        · cases e'
          exact e rfl
      refine (h.cl j u q hu hq).keep (f.wy h.lt').agr (f.wy h.lt').sub (fun k hk => ⟨(f.eq k _ hnpk (by simp)).2 hk, f.blk h.lt' hk hnpk, ?_⟩) h.lt'
      have : k ≠ (K i).k := fun e' => by
        rw [e', l1] at hk
        exact e (by cases hk; rfl)
      simp [fire, this]
end

end Go.Proofs.YtgjpbekmkhanhaaGreat.CH

/-
  The law's world: a task begins to wait.
-/
namespace Go.Proofs.YtgjpbekmkhanhaaGreat.CH
open Go.RowKit QW
set_option maxRecDepth 100000

section
variable {w w' : World} {L B : Nat} {pv cv tvv ev : Value} {a a' : Ad} {s s' : Rs} {A A' : Nat → Bool} {zs : List Zc} {m m' : Nat} {K K' : Nat → Pkr} {σ σ' : Sg} {lab lab' : Lb}

/-- A channel's blocks are of six types. -/
theorem Ch.ty {z : Zc} {c : Cs} {D : Nat → Prop} (h : Ch w A z m c D) {k : Nat} (hk : D k) {cs : Array Value} {t : TypeId} {fr : Nat × Nat} (hc : w.heap[k]? = some (.cells cs t fr)) : t = (66 : TypeId) ∨ t = (161 : TypeId) ∨ t = 3 ∨ t = (165 : TypeId) ∨ t = (187 : TypeId) ∨ t = (141 : TypeId) := by
  obtain ⟨BG, DS, DR, cm, hd⟩ := h
  have key : ∀ {c2 : Array Value} {t2 : TypeId}, w.heap[k]? = some (.cells c2 t2 (0, 0)) → t = t2 := fun h2 => by
    rw [hc] at h2
    simp only [Option.some.injEq, Obj.cells.injEq] at h2
    exact h2.2.1
  rcases (hd k).1 hk with rfl | rfl | rfl | h1 | h1
  · exact .inl (key cm.obj)
  · obtain ⟨_, h2⟩ := cm.qobj; exact .inr (.inl (key h2))
  · obtain ⟨_, h2⟩ := cm.gobj; exact .inr (.inr (.inl (key h2)))
  · obtain ⟨_, _, h2, h3⟩ := cm.sl.ty h1
    have e := key h2
    subst e
    exact .inr (.inr (.inr h3))
  · obtain ⟨_, _, h2, h3⟩ := cm.rl.ty h1
    have e := key h2
    subst e
    exact .inr (.inr (.inr h3))

def upd (K : Nat → Pkr) (i : Nat) (r : Pkr) : Nat → Pkr := fun q => if q = i then r else K q

set_option maxHeartbeats 1000000 in
theorem Wm.parks (h : Wm w L B pv cv tvv ev a s A zs m K σ lab) (hL : L ≤ w.heap.size) {i j : Nat} {t : Tc} {p : Pt} {z : Zc} {c d : Cz} (hi : s.ts[i]? = some t) (hp : σ.tk[i]? = some p) (hst : p.st = 2) (hz : zs[j]? = some z) (hc : σ.ch[j]? = some c) {v : Int} {f : Value} {nxt : Wv → Cs} (rc : Bool)
    (hpk : Pked w a s i t A z (m + 1) (fun k => lab k = some (.ch j)) v f nxt w') (hd : ∀ r : Pkr, nxt (pkw r.k v r.th r.sv) = mem (upd K i r) d) (hsz : d.sz = c.sz) (hok : Sok ((σ.setc j d).put i { p with st := 3, rc := rc }))
    (N : Nat → Prop) (hN : ∀ k, N k → w.heap.size ≤ k ∧ ∃ cs, w'.heap[k]? = some (.cells cs (67 : TypeId) (0, 0)))
    (hgo : ∀ lab' : Lb, (∀ k, Fz lab k → Fz lab' k) → (∀ k, N k → Fz lab' k) → Agr (Fz lab) w w' → Go2 (Fz lab') w' f (fun v ok => QT B t.b i p.at' (0, if rc then v else 0, ok))) :
    ∃ s' K' lab', Wm w' L B pv cv tvv ev a s' A zs (m + 1) K' ((σ.setc j d).put i { p with st := 3, rc := rc }) lab' ∧ Wy w lab w' lab' ∧ s'.ts.map Tc.b = s.ts.map Tc.b ∧ s'.run = s.run ∧ s'.left = s.left := by
  obtain ⟨k, sv, tb, ub, th, D', pk, ch, rt', tt, dm, bl⟩ := hpk
  obtain ⟨q1, q2, q3⟩ := (h.cl i t p hi hp).r2 hst
  have hzz := tt.size
  have hbk := bl k (.inl rfl)
  have hbs := bl sv (.inr (.inl rfl))
  have hbt := bl tb (.inr (.inr (.inl rfl)))
  have hbu := bl ub (.inr (.inr (.inr (.inl rfl))))
  have hbh := bl th (.inr (.inr (.inr (.inr rfl))))
  have hN1 : ∀ q, N q → ¬ D' q ∧ q ≠ k ∧ q ≠ sv := fun q hq => by
    obtain ⟨cs, hcs⟩ := (hN q hq).2
    refine ⟨fun e => ?_, ?_, ?_⟩
    · have := ch.ty e hcs
      revert this
      decide
    · exact ty_ne hcs pk.hk (by decide)
    · exact ty_ne hcs pk.hs (by decide)
  have hkn : k ≠ tb ∧ k ≠ ub ∧ k ≠ th := ⟨ty_ne pk.hk pk.ht (by decide), ty_ne pk.hk pk.hu (by decide), ty_ne pk.hk pk.hh (by decide)⟩
  have hsn : sv ≠ tb ∧ sv ≠ ub ∧ sv ≠ th := ⟨ty_ne pk.hs pk.ht (by decide), ty_ne pk.hs pk.hu (by decide), ty_ne pk.hs pk.hh (by decide)⟩
  have hDf : ∀ q, D' q → lab q = some (.ch j) ∨ lab q = none := fun q hq => (dm q hq).imp id h.fresh
  have hdD : ∀ q l, lab q = some l → l ≠ .ch j → ¬ D' q := fun q l hq hl e => by
    rcases hDf q e with e' | e'
    · rw [hq] at e'
      exact hl (Option.some.inj e')
    · rw [hq] at e'
      cases e'
  obtain ⟨lab', hlab⟩ : ∃ lab', lab' = relab (relab (relab lab (.ch j) D') (.pk i) (fun q => q = k ∨ q = sv)) .fz (fun q => lab q = some .fz ∨ q = tb ∨ q = ub ∨ q = th ∨ N q) := ⟨_, rfl⟩
  have hfz : ∀ q, lab' q = some .fz ↔ lab q = some .fz ∨ q = tb ∨ q = ub ∨ q = th ∨ N q := fun q => by rw [hlab]; exact relab_same
  have hnew : ∀ q, q = tb ∨ q = ub ∨ q = th ∨ N q → w.heap.size ≤ q ∧ ¬ D' q ∧ q ≠ k ∧ q ≠ sv := fun q hq => by
    rcases hq with rfl | rfl | rfl | hq
    · exact ⟨hbt.1, hbt.2, hkn.1.symm, hsn.1.symm⟩
    · exact ⟨hbu.1, hbu.2, hkn.2.1.symm, hsn.2.1.symm⟩
    · exact ⟨hbh.1, hbh.2, hkn.2.2.symm, hsn.2.2.symm⟩
    · exact ⟨(hN q hq).1, hN1 q hq⟩
  have hpki : ∀ q, lab' q = some (.pk i) ↔ q = k ∨ q = sv := fun q => by
    rw [hlab]
    constructor
    · intro e
      exact relab_same.1 (relab_from e (by simp))
    · intro e
      refine relab_sub (relab_same.2 e) (by simp) (fun e' => ?_)
      rcases e' with e' | e'
      · have := h.lt' q _ e'
        rcases e with rfl | rfl
        · have := hbk.1; omega
        · have := hbs.1; omega
      · obtain ⟨_, _, n1, n2⟩ := hnew q e'
        exact e.elim n1 n2
  have hchj : ∀ q, lab' q = some (.ch j) ↔ D' q := fun q => by
    rw [hlab]
    constructor
    · intro e
      exact relab_same.1 (relab_from (relab_from e (by simp)) (by simp))
    · intro e
      refine relab_sub (relab_sub (relab_same.2 e) (by simp) (fun e' => ?_)) (by simp) (fun e' => ?_)
      · rcases e' with rfl | rfl
        · exact hbk.2 e
        · exact hbs.2 e
      · rcases e' with e' | e'
        · exact hdD q _ e' (by simp) e
        · exact (hnew q e').2.1 e
  have hoth : ∀ q l, l ≠ .ch j → l ≠ .pk i → l ≠ .fz → (lab' q = some l ↔ lab q = some l) := fun q l n1 n2 n3 => by
    rw [hlab]
    constructor
    · intro e
      exact relab_from (relab_from (relab_from e n3) n2) n1
    · intro e
      have hq := h.lt' q l e
      refine relab_sub (relab_sub (relab_sub e n1 (hdD q l e n1)) n2 (fun e' => ?_)) n3 (fun e' => ?_)
      · rcases e' with rfl | rfl
        · have := hbk.1; omega
        · have := hbs.1; omega
      · rcases e' with e' | e'
        · rw [e] at e'
          exact n3 (Option.some.inj e')
        · have := (hnew q e').1; omega
  clear hlab
  have fr : Fr w lab (fun l => l = .rt ∨ l = .ch j ∨ l = .pk i) w' lab' := by
    refine ⟨tt.mono (fun q _ hq => ?_), (fun e => by rcases e with e | e | e <;> cases e), fun q l hT hl => hoth q l (fun e => hT (.inr (.inl e))) (fun e => hT (.inr (.inr e))) hl, fun q hq => (hfz q).2 (.inl hq), fun q hq => ((hfz q).1 hq).imp id (fun e => .inr (hnew q e).1), fun q l hT hq => ?_⟩
    · rcases hq with hq | hq
      · exact ⟨_, h.lr q hq, .inl rfl⟩
      · exact ⟨_, hq, .inr (.inl rfl)⟩
    · rcases hT with rfl | rfl | rfl
      · exact .inl ⟨_, (hoth q _ (by simp) (by simp) (by simp)).1 hq, .inl rfl⟩
      · exact (dm q ((hchj q).1 hq)).imp (fun e => ⟨_, e, .inr (.inl rfl)⟩) id
      · rcases (hpki q).1 hq with rfl | rfl
        · exact .inr hbk.1
        · exact .inr hbs.1
  have hkv : Kv w A w' A := Kv.tb A tt (fun q g ht e => by
    rcases e with e | e
    · have h3 := own_ty h.rt.m e ht
      revert h3
      decide
    · exact (h.ch j z c hz hc).2.2.notk ht e)
  have hnw : i ∉ σ.wts := fun e => by
    have := (h.ok.st3 e).1
    rw [p_of hp, hst] at this
    cases this
  have hKq : ∀ q, q ∈ σ.wts → upd K i ⟨k, sv, tb, ub, th, f⟩ q = K q := fun q hq => by
    have : q ≠ i := fun e => hnw (e ▸ hq)
    simp [upd, this]
  have hput : ∀ q, ((σ.setc j d).put i { p with st := 3, rc := rc }).tk[q]? = if q = i then some { p with st := 3, rc := rc } else σ.tk[q]? := fun q => put_get (σ := σ.setc j d) hp _ q
  have hAr := fr.wy h.lt'
  refine ⟨s.put i { t with wk := pkv sv tb ub }, upd K i ⟨k, sv, tb, ub, th, f⟩, lab', h.build fr hL (fun e => by rcases e with e | e | e <;> cases e) (fun e => by rcases e with e | e | e <;> cases e) (fun e => by rcases e with e | e | e <;> cases e) (fun e => by rcases e with e | e | e <;> cases e) (fun e => by rcases e with e | e | e <;> cases e) (fun q l hq => ?_) rt' rfl rfl ?_ (fun q hq => ?_) rfl (fun q y e hy he => ?_) (by simp [Sg.setc, Sg.put]) (fun q hq => h.ha q (by omega)) h.ln (by simp [Sg.setc, Sg.put]) (fun q u o hu ho => ?_) hok, hAr, map_set hi rfl, rfl, rfl⟩
  · by_cases n1 : l = .ch j
    · subst n1
      exact ch.lt ((hchj q).1 hq)
    · by_cases n2 : l = .pk i
      · subst n2
        rcases (hpki q).1 hq with rfl | rfl
        · exact pk.hk.lt
        · exact heap_lt pk.hs
      · by_cases n3 : l = .fz
        · subst n3
          rcases (hfz q).1 hq with e | rfl | rfl | rfl | e
          · have := h.lt' q _ e; omega
          · exact heap_lt pk.ht
          · exact heap_lt pk.hu
          · exact heap_lt pk.hh
          · obtain ⟨cs, hcs⟩ := (hN q e).2
            exact heap_lt hcs
        · have := h.lt' q l ((hoth q l n1 n2 n3).1 hq); omega
  · exact map_set hi rfl
  · refine (hoth q _ (by simp) (by simp) (by simp)).2 (h.lr q ?_)
    rcases hq with hq | hq | hq | hq | ⟨u, hu, hq⟩
    · exact .inl hq
    · exact .inr (.inl hq)
    · exact .inr (.inr (.inl hq))
    · exact .inr (.inr (.inr (.inl hq)))
    · rcases mem_set hi hu with rfl | hu
      · exact .inr (.inr (.inr (.inr ⟨t, List.mem_of_getElem? hi, hq⟩)))
      · exact .inr (.inr (.inr (.inr ⟨u, hu, hq⟩)))
  · have he' : (σ.setc j d).ch[q]? = some e := he
    rw [setc_get hc] at he'
    by_cases e' : q = j
    · subst e'
      rw [if_pos rfl] at he'
      cases he'
      rw [hz] at hy
      cases hy
      refine ⟨(h.ch q z c hz hc).1, by rw [hsz]; exact (h.ch q z c hz hc).2.1, ?_⟩
      have h9 := hd ⟨k, sv, tb, ub, th, f⟩
      simp only at h9
      rw [← h9]
      exact ch.iff hchj
    · rw [if_neg e'] at he'
      refine ⟨(h.ch q y e hy he').1, (h.ch q y e hy he').2.1, h.chK fr hy he' (fun e'' => ?_) hkv (fun x hx => ?_) (fun x hx => hKq x (mem_wts.2 ⟨q, e, he', hx⟩)) (by omega)⟩
      · rcases e'' with e'' | e'' | e''
        · cases e''
        · cases e''
          exact e' rfl
        · cases e''
      · obtain ⟨t9, p9, _, _, _, h4⟩ := h.waits (mem_wts.2 ⟨q, e, he', hx⟩)
        exact h4
  · simp only [Rs.put, get_set hi] at hu
    rw [hput] at ho
    by_cases e : q = i
    · subst e
      rw [if_pos rfl] at hu ho
      cases hu
      cases ho
      have hg := hgo lab' hAr.sub (fun x hx => (hfz x).2 (.inr (.inr (.inr (.inr hx))))) hAr.agr
      have hu0 : upd K q ⟨k, sv, tb, ub, th, f⟩ q = ⟨k, sv, tb, ub, th, f⟩ := by simp [upd]
      rw [hu0]
      refine ⟨(by simp), (fun e => by simp at e), (fun _ => ⟨q2, rfl, pk, hg, (hpki _).2 (.inl rfl), (hpki _).2 (.inr rfl), (hfz _).2 (.inr (.inl rfl)), (hfz _).2 (.inr (.inr (.inl rfl))), (hfz _).2 (.inr (.inr (.inr (.inl rfl)))), h.ha k hbk.1⟩), (fun e => by simp at e), (fun e => by simp at e)⟩
    · rw [if_neg e] at hu ho
      have hnpk : ¬ ((Lab.pk q = .rt) ∨ (Lab.pk q = .ch j) ∨ (Lab.pk q = .pk i)) := fun e' => by
        rcases e' with e' | e' | e'
        · cases e'
        · cases e'
        · cases e'
          exact e rfl
      have hu0 : upd K i ⟨k, sv, tb, ub, th, f⟩ q = K q := by simp [upd, e]
      rw [hu0]
      exact (h.cl q u o hu ho).keep hAr.agr hAr.sub (fun x hx => ⟨(fr.eq x _ hnpk (by simp)).2 hx, fr.blk h.lt' hx hnpk, rfl⟩) h.lt'

/-- It waits to send, to receive: what may be stays. -/
theorem Sok.waitS (h : Sok σ) {i j : Nat} (hi : i < σ.tk.length) (hj : j < σ.ch.length) (hn : i ∉ σ.wts) (v : Int) : Sok (σ.waitS i j v) := by
  have hc := of_c hj
  obtain ⟨u, v', e1, e2⟩ := flat_set (f := Cz.wts) (d := ({ σ.c j with snd := (σ.c j).snd ++ [(i, v)] } : Cz)) hc
  have hp := of_p hi
  have hpp : ∀ k, (σ.waitS i j v).p k = if k = i then { σ.p i with st := 3, rc := false } else σ.p k := fun k => by
    have := put_get (σ := σ.setc j { σ.c j with snd := (σ.c j).snd ++ [(i, v)] }) hp { σ.p i with st := 3, rc := false } k
    simp only [Sg.waitS, Sg.p, List.getD] at this ⊢
    rw [this]
    by_cases e : k = i
    · simp [e]
    · simp [e, Sg.setc]
  have hl : (σ.waitS i j v).tk.length = σ.tk.length := by simp [Sg.waitS, Sg.put, Sg.setc]
  have hch : ∀ k, (σ.waitS i j v).ch[k]? = if k = j then some { σ.c j with snd := (σ.c j).snd ++ [(i, v)] } else σ.ch[k]? := fun k => setc_get hc _ k
  refine ⟨?_, fun k c hk x hx => ?_, fun k c hk x hx => ?_, fun k c hk => ?_⟩
  · have h1 := h.nd
    unfold Sg.wts at h1 hn ⊢
    show (List.flatMap Cz.wts (σ.ch.set j _)).Nodup
    rw [e2]
    rw [e1] at h1 hn
    have hperm : (u ++ Cz.wts { σ.c j with snd := (σ.c j).snd ++ [(i, v)] } ++ v').Perm (i :: (u ++ Cz.wts (σ.c j) ++ v')) := by
      simp only [Cz.wts, List.map_append, List.map_cons, List.map_nil]
      have : (u ++ (List.map Prod.fst (σ.c j).snd ++ [i] ++ (σ.c j).rcv) ++ v') = (u ++ List.map Prod.fst (σ.c j).snd) ++ i :: ((σ.c j).rcv ++ v') := by simp
      rw [this]
      refine List.perm_middle.trans ?_
      simp
    exact hperm.nodup_iff.2 (List.nodup_cons.2 ⟨hn, h1⟩)
  · rw [hch] at hk
    rw [hpp, hl]
    by_cases e : k = j
    · rw [if_pos e] at hk
      cases hk
      rcases List.mem_append.1 hx with hx | hx
      · have h2 := h.sn j _ hc x hx
        have hne : x.1 ≠ i := fun e' => hn (e' ▸ mem_wts.2 ⟨j, _, hc, List.mem_append_left _ (List.mem_map_of_mem hx)⟩)
        rw [if_neg hne]
        exact h2
      · simp only [List.mem_singleton] at hx
        subst hx
        simp [hi]
    · rw [if_neg e] at hk
      have h2 := h.sn k c hk x hx
      have hne : x.1 ≠ i := fun e' => hn (e' ▸ mem_wts.2 ⟨k, c, hk, List.mem_append_left _ (List.mem_map_of_mem hx)⟩)
      rw [if_neg hne]
      exact h2
  · rw [hch] at hk
    rw [hpp, hl]
    by_cases e : k = j
    · rw [if_pos e] at hk
      cases hk
      have h2 := h.rc j _ hc x hx
      have hne : x ≠ i := fun e' => hn (e' ▸ mem_wts.2 ⟨j, _, hc, List.mem_append_right _ hx⟩)
      rw [if_neg hne]
      exact h2
    · rw [if_neg e] at hk
      have h2 := h.rc k c hk x hx
      have hne : x ≠ i := fun e' => hn (e' ▸ mem_wts.2 ⟨k, c, hk, List.mem_append_right _ hx⟩)
      rw [if_neg hne]
      exact h2
  · rw [hch] at hk
    by_cases e : k = j
    · rw [if_pos e] at hk
      cases hk
      have h2 := h.bf j (σ.c j) hc
      exact h2
    · rw [if_neg e] at hk
      exact h.bf k c hk
theorem Sok.waitR (h : Sok σ) {i j : Nat} (hi : i < σ.tk.length) (hj : j < σ.ch.length) (hn : i ∉ σ.wts) : Sok (σ.waitR i j) := by
  have hc := of_c hj
  obtain ⟨u, v', e1, e2⟩ := flat_set (f := Cz.wts) (d := ({ σ.c j with rcv := (σ.c j).rcv ++ [i] } : Cz)) hc
  have hp := of_p hi
  have hpp : ∀ k, (σ.waitR i j).p k = if k = i then { σ.p i with st := 3, rc := true } else σ.p k := fun k => by
    have := put_get (σ := σ.setc j { σ.c j with rcv := (σ.c j).rcv ++ [i] }) hp { σ.p i with st := 3, rc := true } k
    simp only [Sg.waitR, Sg.p, List.getD] at this ⊢
    rw [this]
    by_cases e : k = i
    · simp [e]
    · simp [e, Sg.setc]
  have hl : (σ.waitR i j).tk.length = σ.tk.length := by simp [Sg.waitR, Sg.put, Sg.setc]
  have hch : ∀ k, (σ.waitR i j).ch[k]? = if k = j then some { σ.c j with rcv := (σ.c j).rcv ++ [i] } else σ.ch[k]? := fun k => setc_get hc _ k
  refine ⟨?_, fun k c hk x hx => ?_, fun k c hk x hx => ?_, fun k c hk => ?_⟩
  · have h1 := h.nd
    unfold Sg.wts at h1 hn ⊢
    show (List.flatMap Cz.wts (σ.ch.set j _)).Nodup
    rw [e2]
    rw [e1] at h1 hn
    have hperm : (u ++ Cz.wts { σ.c j with rcv := (σ.c j).rcv ++ [i] } ++ v').Perm (i :: (u ++ Cz.wts (σ.c j) ++ v')) := by
      simp only [Cz.wts]
      have : (u ++ (List.map Prod.fst (σ.c j).snd ++ ((σ.c j).rcv ++ [i])) ++ v') = (u ++ List.map Prod.fst (σ.c j).snd ++ (σ.c j).rcv) ++ i :: v' := by simp
      rw [this]
      refine List.perm_middle.trans ?_
      simp
    exact hperm.nodup_iff.2 (List.nodup_cons.2 ⟨hn, h1⟩)
  · rw [hch] at hk
    rw [hpp, hl]
    by_cases e : k = j
    · rw [if_pos e] at hk
      cases hk
      have h2 := h.sn j _ hc x hx
      have hne : x.1 ≠ i := fun e' => hn (e' ▸ mem_wts.2 ⟨j, _, hc, List.mem_append_left _ (List.mem_map_of_mem hx)⟩)
      rw [if_neg hne]
      exact h2
    · rw [if_neg e] at hk
      have h2 := h.sn k c hk x hx
      have hne : x.1 ≠ i := fun e' => hn (e' ▸ mem_wts.2 ⟨k, c, hk, List.mem_append_left _ (List.mem_map_of_mem hx)⟩)
      rw [if_neg hne]
      exact h2
  · rw [hch] at hk
    rw [hpp, hl]
    by_cases e : k = j
    · rw [if_pos e] at hk
      cases hk
      rcases List.mem_append.1 hx with hx | hx
      · have h2 := h.rc j _ hc x hx
        have hne : x ≠ i := fun e' => hn (e' ▸ mem_wts.2 ⟨j, _, hc, List.mem_append_right _ hx⟩)
        rw [if_neg hne]
        exact h2
      · simp only [List.mem_singleton] at hx
        subst hx
        simp [hi]
    · rw [if_neg e] at hk
      have h2 := h.rc k c hk x hx
      have hne : x ≠ i := fun e' => hn (e' ▸ mem_wts.2 ⟨k, c, hk, List.mem_append_right _ hx⟩)
      rw [if_neg hne]
      exact h2
  · rw [hch] at hk
    by_cases e : k = j
    · rw [if_pos e] at hk
      cases hk
      have h2 := h.bf j (σ.c j) hc
      exact h2
    · rw [if_neg e] at hk
      exact h.bf k c hk
end

end Go.Proofs.YtgjpbekmkhanhaaGreat.CH

/-
  The law's world: values are sent and received, now.
-/
namespace Go.Proofs.YtgjpbekmkhanhaaGreat.CH
open Go.RowKit QW
set_option maxRecDepth 100000

/-- The law's world, what is in it beside its tale hidden. -/
structure Wd (w : World) (L B : Nat) (pv cv tvv : Value) (R : Nat) (zs : List Zc) (bs : List Nat) (m : Nat) (σ : Sg) (run : Option Nat) (left : Nat) (lab : Lb) : Prop where
  ex : ∃ ev a s A K, Wm w L B pv cv tvv ev a s A zs m K σ lab ∧ a.R = R ∧ s.ts.map Tc.b = bs ∧ s.run = run ∧ s.left = left

section
variable {w w' : World} {L B : Nat} {pv cv tvv : Value} {R : Nat} {zs : List Zc} {bs : List Nat} {m m' : Nat} {σ σ' : Sg} {run : Option Nat} {left : Nat} {lab lab' : Lb}

theorem Wd.lt (h : Wd w L B pv cv tvv R zs bs m σ run left lab) : ∀ k l, lab k = some l → k < w.heap.size := by
  obtain ⟨ev, a, s, A, K, h, _⟩ := h.ex
  exact h.lt'
theorem Wd.ok (h : Wd w L B pv cv tvv R zs bs m σ run left lab) : Sok σ := by
  obtain ⟨ev, a, s, A, K, h, _⟩ := h.ex
  exact h.ok
theorem setc_same {j : Nat} {c : Cz} (h : σ.ch[j]? = some c) : σ.setc j c = σ := by
  unfold Sg.setc
  have : σ.ch.set j c = σ.ch := by
    apply List.ext_getElem?
    intro k
    rw [List.getElem?_set]
    by_cases e : j = k
    · subst e
      have hl : j < σ.ch.length := (List.getElem?_eq_some_iff.1 h).1
      simp [hl, (List.getElem?_eq_some_iff.1 h).2]
    · simp [e]
  rw [this]
theorem mem_canS {K : Nat → Pkr} {z : Zc} {c : Cz} (hz : z.size = c.sz) : canS z (mem K c) none = c.canS := by
  unfold canS Cz.canS mem oth
  rw [hz]
  cases hr : c.rcv with
  | nil => simp
  | cons x r => simp [pkw]
theorem mem_canR {K : Nat → Pkr} {c : Cz} : canR (mem K c) none = c.canR := by
  unfold canR Cz.canR mem oth
  cases hr : c.snd with
  | nil => simp
  | cons x r => simp [pkw]
/-- Boxes that nobody turns are kept. -/
theorem Wd.boxes (h : Wd w L B pv cv tvv R zs bs m σ run left lab) (hL : L ≤ w.heap.size) (hb : Below w.heap.size w w') {N : Nat → Prop} (hN : ∀ k, N k → w.heap.size ≤ k ∧ k < w'.heap.size) :
    Wd w' L B pv cv tvv R zs bs m σ run left (relab lab .fz (fun k => lab k = some .fz ∨ N k)) ∧ Wy w lab w' (relab lab .fz (fun k => lab k = some .fz ∨ N k)) := by
  obtain ⟨ev, a, s, A, K, h, q⟩ := h.ex
  obtain ⟨h1, h2⟩ := h.boxes hL hb hN
  exact ⟨⟨ev, a, s, A, K, h1, q⟩, h2⟩
theorem Fr.claim {ev : Value} {a : Ad} {s : Rs} {A : Nat → Bool} {K : Nat → Pkr} (_h : Wm w L B pv cv tvv ev a s A zs m K σ lab) {N : Nat → Prop} (hN : ∀ k, N k → lab k = none) :
    (∀ k l, l ≠ .fz → (relab lab .fz (fun k => lab k = some .fz ∨ N k) k = some l ↔ lab k = some l)) ∧ (∀ k, relab lab .fz (fun k => lab k = some .fz ∨ N k) k = some .fz ↔ lab k = some .fz ∨ N k) :=
  ⟨fun _ _ hl => relab_other (fun k hk => hk.imp id (hN k)) hl, fun _ => relab_same⟩
theorem Wd.claim (h : Wd w L B pv cv tvv R zs bs m σ run left lab) {N : Nat → Prop} (hN : ∀ k, N k → lab k = none ∧ L ≤ k ∧ k < w.heap.size) : Wd w L B pv cv tvv R zs bs m σ run left (relab lab .fz (fun k => lab k = some .fz ∨ N k)) := by
  obtain ⟨ev, a, s, A, K, h, q⟩ := h.ex
  obtain ⟨e1, e2⟩ := Fr.claim h (fun k hk => (hN k hk).1)
  have hsub : ∀ k, Fz lab k → Fz (relab lab .fz (fun k => lab k = some .fz ∨ N k)) k := fun k hk => (e2 k).2 (.inl hk)
  refine ⟨ev, a, s, A, K, ⟨h.blk, h.rt, h.cr, h.tr, h.er, fun k hk => (e1 k _ (by simp)).2 (h.lr k hk), (e1 _ _ (by simp)).2 h.lq, (e1 _ _ (by simp)).2 h.lb, fun k hk => (e1 k _ (by simp)).2 (h.le k hk), fun k hk => (e1 k _ (by simp)).2 (h.lc k hk), fun k hk => (e1 k _ (by simp)).2 (h.lt k hk), fun k l hk => ?_, fun j z c hz hc => ⟨(h.ch j z c hz hc).1, (h.ch j z c hz hc).2.1, (h.ch j z c hz hc).2.2.iff (fun k => e1 k _ (by simp))⟩, h.cn, h.ha, h.ln, h.len, fun i t p ht hp => (h.cl i t p ht hp).keep (fun _ _ => rfl) hsub (fun k hk => ⟨(e1 k _ (by simp)).2 hk, rfl, rfl⟩) h.lt', h.ok⟩, q⟩
  by_cases hl : l = .fz
  · subst hl
    rcases (e2 k).1 hk with h1 | h1
    · exact h.lo k _ h1
    · exact (hN k h1).2
  · exact h.lo k l ((e1 k l hl).1 hk)
theorem Wy.claim {lab1 : Lb} (hy : Wy w lab w' lab1) {N : Nat → Prop} (hN : ∀ k, N k → w.heap.size ≤ k) : Wy w lab w' (relab lab1 .fz (fun k => lab1 k = some .fz ∨ N k)) := by
  refine ⟨hy.tb, fun k hk => ?_, fun k hk => ⟨relab_same.2 (.inl (hy.fz k hk).1), (hy.fz k hk).2⟩⟩
  obtain ⟨l, hl⟩ := Option.ne_none_iff_exists'.1 hk
  by_cases e : l = .fz
  · subst e
    rcases relab_same.1 hl with h1 | h1
    · exact hy.dm k (by rw [h1]; simp)
    · exact .inr (hN k h1)
  · have := relab_from hl e
    exact hy.dm k (by rw [this]; simp)

/-- A task that waits is served, its channel turned ahead. -/
theorem Wm.sv {ev : Value} {a : Ad} {s : Rs} {A : Nat → Bool} {K : Nat → Pkr} (h : Wm w L B pv cv tvv ev a s A zs m K σ lab) (hL : L ≤ w.heap.size) {i : Nat} (hil : i < σ.tk.length) (hst : (σ.p i).st = 3) (hnw : i ∉ σ.wts) (v0 v : Int) (ok : Bool) :
    Calls Tryz.prog 82 #[.agg #[.pointer (pkw (K i).k v0 (K i).th (K i).sv).tk, .int .i64 (pkw (K i).k v0 (K i).th (K i).sv).val, (pkw (K i).k v0 (K i).th (K i).sv).told], .int .i64 v, .bool ok] w fun e w' => e = .returned (.tuple #[]) ∧ ∃ a' s' A' lab', Wm w' L B pv cv tvv ev a' s' A' zs m K (σ.gets i (0, if (σ.p i).rc then v else 0, ok)) lab' ∧ Wy w lab w' lab' ∧ a'.R = a.R ∧ s'.ts.map Tc.b = s.ts.map Tc.b ∧ s'.run = s.run ∧ s'.left = s.left ∧ A' = fire A (K i).k ∧ Kv w A w' A' ∧ A (K i).k = true := by
  have hp := of_p hil
  have hl2 : i < s.ts.length := by rw [h.len]; exact hil
  have hi : s.ts[i]? = some s.ts[i] := List.getElem?_eq_getElem hl2
  generalize s.ts[i] = t at hi
  obtain ⟨h1, h2, hpk, hgo, l1, l2, l3, l4, l5, hA⟩ := (h.cl i t _ hi hp).r3 hst
  have hno : ∀ j l, lab j = some l → l ≠ .rt → l ≠ .q → ¬ own a s j ∧ j ≠ a.Q := fun j l hj n1 n2 => ⟨fun e => by
    have := h.lr j e
    rw [hj] at this
    exact n1 (Option.some.inj this), fun e => by
    subst e
    rw [h.lq] at hj
    exact n2 (Option.some.inj hj).symm⟩
  refine (serve_parked h.rt hi h2 hpk (fun j hj => ?_) v0 v ok).mono ?_
  · rcases hj with rfl | rfl | rfl | rfl | rfl
    · exact hno _ _ l1 (by simp) (by simp)
    · exact hno _ _ l2 (by simp) (by simp)
    · exact hno _ _ l3 (by simp) (by simp)
    · exact hno _ _ l4 (by simp) (by simp)
    · exact hno _ _ l5 (by simp) (by simp)
  · rintro e w' ⟨rfl, hs⟩
    obtain ⟨a9, w1, w2, g1, g2, _, eR, _⟩ := hs.ex
    obtain ⟨a', w1, w2, lab', hw, hy, hkv⟩ := h.serves hL hi hp hst hnw hs
    refine ⟨rfl, a', _, _, lab', hw, hy, ?_, map_set hi rfl, rfl, rfl, rfl, hkv, hA⟩
    have b1 := h.blk
    have b2 := hw.blk
    have e1 : w'.heap[B]? = w.heap[B]? := by
      have f1 := hs.ex
      obtain ⟨_, _, _, _, _, _, _, _, _, tb, _⟩ := f1
      refine tb.block B (heap_lt h.blk) (fun e => ?_)
      rcases e with e | e | e
      · have := h.lr B e
        rw [h.lb] at this
        cases this
      · have := h.lb
        rw [e, l1] at this
        cases this
      · have := h.lb
        rw [e, l2] at this
        cases this
    rw [e1, b1] at b2
    simp only [Option.some.injEq, Obj.cells.injEq, Array.mk.injEq, List.cons.injEq, Value.pointer.injEq, Addr.mk.injEq] at b2
    exact b2.1.1.1.symm
end

end Go.Proofs.YtgjpbekmkhanhaaGreat.CH

/-
  The law's world: values are sent and received, now; a channel is closed.
-/
namespace Go.Proofs.YtgjpbekmkhanhaaGreat.CH
open Go.RowKit QW
set_option maxRecDepth 100000

section
variable {w w' : World} {L B : Nat} {pv cv tvv : Value} {R : Nat} {zs : List Zc} {bs : List Nat} {m m' : Nat} {σ σ' : Sg} {run : Option Nat} {left : Nat} {lab lab' : Lb}

/-- Who waits in a channel that was turned waits nowhere else. -/
theorem not_wts {j : Nat} {c d : Cz} {i : Nat} (h : σ.wts.Nodup) (hc : σ.ch[j]? = some c) (hp : c.wts.Perm (i :: d.wts)) : i ∉ (σ.setc j d).wts := by
  obtain ⟨u, v, e1, e2⟩ := flat_set (f := Cz.wts) (d := d) hc
  unfold Sg.wts at h ⊢
  show i ∉ List.flatMap Cz.wts (σ.ch.set j d)
  rw [e2]
  rw [e1] at h
  have h1 : (u ++ c.wts ++ v).Perm (i :: (u ++ d.wts ++ v)) := by
    have : (u ++ c.wts ++ v).Perm (u ++ (i :: d.wts) ++ v) := ((List.Perm.refl u).append hp).append (List.Perm.refl v)
    refine this.trans ?_
    simp only [List.append_assoc, List.cons_append]
    exact List.perm_middle
  exact (List.nodup_cons.1 (h1.nodup_iff.1 h)).1

theorem wsendNow (h : Wd w L B pv cv tvv R zs bs m σ run left lab) (hL : L ≤ w.heap.size) {j : Nat} {z : Zc} (hz : zs[j]? = some z) (hcan : (σ.c j).canS = true) (v : Int) :
    Calls Tryz.prog 71 #[.pointer (some ⟨z.C, 0, none⟩), .int .i64 v] w fun e w' => e = .returned (.bool (σ.send j v).1) ∧ ∃ lab', Wd w' L B pv cv tvv R zs bs m (σ.send j v).2 run left lab' ∧ Wy w lab w' lab' := by
  obtain ⟨ev, a, s, A, K, h, q1, q2, q3, q4⟩ := h.ex
  have hjl : j < σ.ch.length := by rw [← h.cn]; exact (List.getElem?_eq_some_iff.1 hz).1
  have hc := of_c hjl
  obtain ⟨hzr, hzs, hch⟩ := h.ch j z _ hz hc
  have hbf := h.ok.bf j _ hc
  unfold Sg.send
  generalize hcc : σ.c j = c at *
  cases hcl : c.cl with
  | true =>
    rw [if_pos rfl]
    refine (sendNow_closed hch hcl).mono ?_
    rintro e w' ⟨rfl, rfl⟩
    exact ⟨rfl, lab, ⟨ev, a, s, A, K, h, q1, q2, q3, q4⟩, ⟨Tb.refl _ _, fun _ hk => .inl hk, fun _ hk => ⟨hk, rfl⟩⟩⟩
  | false =>
    rw [if_neg (by simp)]
    cases hr : c.rcv with
    | nil =>
      have hlt : c.buf.length < c.sz := by simpa [Cz.canS, hcl, hr] using hcan
      refine (sendNow_buf (v := v) hch hcl (by simp [mem, hr]) (by show c.buf.length < 200; omega)).mono ?_
      rintro e w' ⟨rfl, D', hd, x⟩
      have hok := h.ok.setc (d := { c with buf := c.buf ++ [v] }) hc (List.Sublist.refl _) (List.Sublist.refl _) (by simp; omega) rfl
      obtain ⟨hw, hy⟩ := h.chan hL (d := { c with buf := c.buf ++ [v] }) hz hc hd (Nat.le_refl _) x rfl hok
      have e5 : ({ c with buf := c.buf ++ [v] } : Cz) = ⟨c.sz, false, c.buf ++ [v], c.snd, []⟩ := by rw [← hcl, ← hr]
      rw [e5] at hw
      refine ⟨rfl, _, ⟨ev, a, s, A, K, ?_, q1, q2, q3, q4⟩, hy⟩
      simpa only [hcl, hr] using hw
    | cons i r =>
      refine sendNow_serve (v := v) hch hcl (y := pkw (K i).k 0 (K i).th (K i).sv) (r := r.map fun i => pkw (K i).k 0 (K i).th (K i).sv) (by simp [mem, hr]) (fun V D' hd x => ?_)
      have hok := h.ok.setc (d := { c with rcv := r }) hc (List.Sublist.refl _) (by rw [hr]; exact List.sublist_cons_self i r) hbf.1 rfl
      obtain ⟨hw, hy⟩ := h.chan hL (d := { c with rcv := r }) hz hc hd (Nat.le_refl _) x rfl hok
      have hmem : i ∈ c.wts := List.mem_append_right _ (by rw [hr]; simp)
      obtain ⟨g1, g2, g3⟩ := h.ok.rc j c hc i (by rw [hr]; simp)
      have hni : i ∉ (σ.setc j { c with rcv := r }).wts := not_wts h.ok.nd hc (by
        simp only [Cz.wts, hr]
        exact List.perm_middle)
      refine (hw.sv (Nat.le_trans hL x.tb.size) (i := i) (by simpa [Sg.setc] using g3) (by simpa [Sg.setc, Sg.p] using g1) hni 0 v true).mono ?_
      rintro e w' ⟨rfl, a', s', A', lab', hw', hy', z1, z2, z3, z4, _⟩
      refine ⟨rfl, lab', ⟨ev, a', s', A', K, ?_, z1.trans q1, z2.trans q2, z3.trans q3, z4.trans q4⟩, hy.trans hy'⟩
      have e6 : ((σ.setc j { c with rcv := r }).p i).rc = true := by simpa [Sg.setc, Sg.p] using g2
      rw [e6, if_pos rfl] at hw'
      simpa only [hcl] using hw'

theorem wrecvNow (h : Wd w L B pv cv tvv R zs bs m σ run left lab) (hL : L ≤ w.heap.size) {j : Nat} {z : Zc} (hz : zs[j]? = some z) :
    Calls Tryz.prog 77 #[.pointer (some ⟨z.C, 0, none⟩)] w fun e w' => e = .returned (.tuple #[.int .i64 (σ.recv j).1, .bool (σ.recv j).2.1]) ∧ ∃ lab', Wd w' L B pv cv tvv R zs bs m (σ.recv j).2.2 run left lab' ∧ Wy w lab w' lab' := by
  obtain ⟨ev, a, s, A, K, h, q1, q2, q3, q4⟩ := h.ex
  have hjl : j < σ.ch.length := by rw [← h.cn]; exact (List.getElem?_eq_some_iff.1 hz).1
  have hc := of_c hjl
  obtain ⟨hzr, hzs, hch⟩ := h.ch j z _ hz hc
  have hbf := h.ok.bf j _ hc
  unfold Sg.recv
  generalize hcc : σ.c j = c at *
  cases hr : c.snd with
  | nil =>
    refine (recvNow_buf hch (by simp [mem, hr])).mono ?_
    rintro e w' ⟨rfl, D', hd, x⟩
    have hok := h.ok.setc (d := { c with buf := c.buf.tail }) hc (List.Sublist.refl _) (List.Sublist.refl _) (by simp; omega) rfl
    obtain ⟨hw, hy⟩ := h.chan hL (d := { c with buf := c.buf.tail }) hz hc hd (Nat.le_refl _) x rfl hok
    refine ⟨rfl, _, ⟨ev, a, s, A, K, ?_, q1, q2, q3, q4⟩, hy⟩
    simpa only [hr] using hw
  | cons y r =>
    obtain ⟨i, x0⟩ := y
    refine recvNow_serve hch (y := pkw (K i).k x0 (K i).th (K i).sv) (r := r.map fun x => pkw (K x.1).k x.2 (K x.1).th (K x.1).sv) (by simp [mem, hr]) (by show c.buf.length < 200; omega) (fun V D' hd x => ?_)
    have hok := h.ok.setc (d := { c with buf := (c.buf ++ [x0]).tail, snd := r }) hc (by rw [hr]; exact List.sublist_cons_self _ r) (List.Sublist.refl _) (by simp; omega) rfl
    obtain ⟨hw, hy⟩ := h.chan hL (d := { c with buf := (c.buf ++ [x0]).tail, snd := r }) hz hc hd (Nat.le_refl _) x rfl hok
    obtain ⟨g1, g2, g3⟩ := h.ok.sn j c hc (i, x0) (by rw [hr]; simp)
    have hni : i ∉ (σ.setc j { c with buf := (c.buf ++ [x0]).tail, snd := r }).wts := not_wts h.ok.nd hc (by
      simp only [Cz.wts, hr]
      exact List.Perm.refl _)
    refine (hw.sv (Nat.le_trans hL x.tb.size) (i := i) (by simpa [Sg.setc] using g3) (by simpa [Sg.setc, Sg.p] using g1) hni x0 x0 true).mono ?_
    rintro e w' ⟨rfl, a', s', A', lab', hw', hy', z1, z2, z3, z4, _⟩
    refine ⟨rfl, lab', ⟨ev, a', s', A', K, ?_, z1.trans q1, z2.trans q2, z3.trans q3, z4.trans q4⟩, hy.trans hy'⟩
    have e6 : ((σ.setc j { c with buf := (c.buf ++ [x0]).tail, snd := r }).p i).rc = false := by simpa [Sg.setc, Sg.p] using g2
    rw [e6, if_neg (by simp)] at hw'
    exact hw'
end

end Go.Proofs.YtgjpbekmkhanhaaGreat.CH

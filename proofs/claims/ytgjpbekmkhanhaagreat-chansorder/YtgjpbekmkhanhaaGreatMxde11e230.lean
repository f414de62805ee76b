/-
  Texts put into one.
-/
import Derived.Test.YtgjpbekmkhanhaaGreatMx76cb5c82
import Derived.Test.YtgjpbekmkhanhaaGreatMx541af68a

/-
  A world of tasks at channels in memory, whatever else lies there, whatever a turn does.
-/
namespace Go.Proofs.YtgjpbekmkhanhaaGreat.CG
open Go.RowKit QW CH
set_option maxRecDepth 100000
set_option linter.unusedSimpArgs false
set_option linter.unusedVariables false

/-- Labels of what stays but where its owner turns it. -/
def own5 (l : Lab) : Prop := l = .b ∨ l = .ev ∨ l = .cv ∨ l = .tv ∨ l = .fz

/-- A law's world beside its tasks and channels: what a turn does, what else lies in memory. -/
structure Xw where
  QT : Nat → Nat → Nat → Tld → World → (World → Prop) → Prop
  E : World → Lb → Nat → List Nat → List (Nat × Nat × Tld) → Prop
  keep : ∀ {w : World} {lab : Lb} {R : Nat} {bs : List Nat} {ev : List (Nat × Nat × Tld)} {w' : World} {lab' : Lb}, E w lab R bs ev → (∀ k l, own5 l → lab k = some l → lab' k = some l ∧ w'.heap[k]? = w.heap[k]?) → w.heap.size ≤ w'.heap.size → E w' lab' R bs ev

/-- How a task stands, in memory. -/
structure Tst (lab : Lb) (w : World) (A : Nat → Bool) (Ξ : Xw) (run : Option Nat) (i : Nat) (t : Tc) (p : Pt) (r : Pkr) : Prop where
  le : p.st ≤ 3
  r1 : p.st = 1 → Go0 (Fz lab) w t.nx (Ξ.QT t.b i p.at' p.td) ∧ t.wk = .nilFunc
  r3 : p.st = 3 → t.nx = .nilFunc ∧ t.wk = pkv r.sv r.tb r.ub ∧ Pkd w r.k r.sv r.tb r.ub r.th t.b r.f ∧ Go2 (Fz lab) w r.f (fun v ok => Ξ.QT t.b i p.at' (0, if p.rc then v else 0, ok)) ∧ lab r.k = some (.pk i) ∧ lab r.sv = some (.pk i) ∧ lab r.tb = some .fz ∧ lab r.ub = some .fz ∧ lab r.th = some .fz ∧ A r.k = true
  r2 : p.st = 2 → run = some i ∧ t.nx = .nilFunc ∧ t.wk = .nilFunc
  r0 : p.st = 0 → run ≠ some i ∧ t.nx = .nilFunc ∧ t.wk = .nilFunc

/-- The law's world. -/
structure Wm (w : World) (L : Nat) (Ξ : Xw) (a : Ad) (s : Rs) (A : Nat → Bool) (zs : List Zc) (m : Nat) (K : Nat → Pkr) (σ : Sg) (lab : Lb) : Prop where
  ex : Ξ.E w lab a.R (s.ts.map Tc.b) σ.ev
  rt : Rt w a s
  lr : ∀ k, own a s k → lab k = some .rt
  lq : lab a.Q = some .q
  lo : ∀ k l, lab k = some l → L ≤ k ∧ k < w.heap.size
  ch : ∀ (j : Nat) (z : Zc) (c : Cz), zs[j]? = some z → σ.ch[j]? = some c → z.rt = a.R ∧ z.size = c.sz ∧ Ch w A z m (mem K c) (fun k => lab k = some (.ch j))
  cn : zs.length = σ.ch.length
  ha : ∀ k, w.heap.size ≤ k → A k = true
  ln : s.line = σ.line
  len : s.ts.length = σ.tk.length
  cl : ∀ i t p, s.ts[i]? = some t → σ.tk[i]? = some p → Tst lab w A Ξ s.run i t p (K i)
  ok : Sok σ

section
variable {w w' : World} {L : Nat} {Ξ : Xw} {a : Ad} {s : Rs} {A A' : Nat → Bool} {zs : List Zc} {m m' : Nat} {K K' : Nat → Pkr} {σ : Sg} {lab lab' : Lb} {S : Nat → Prop} {T : Lab → Prop}

theorem Tst.keep {run : Option Nat} {i : Nat} {t : Tc} {p : Pt} {r : Pkr} (h : Tst lab w A Ξ run i t p r) (ha : Agr (Fz lab) w w') (hs : ∀ k, Fz lab k → Fz lab' k) (hp : ∀ k, lab k = some (.pk i) → lab' k = some (.pk i) ∧ w'.heap[k]? = w.heap[k]? ∧ A' k = A k) (_hlt : ∀ k l, lab k = some l → k < w.heap.size) : Tst lab' w' A' Ξ run i t p r := by
  refine ⟨h.le, fun e => ⟨(h.r1 e).1.keep ha hs, (h.r1 e).2⟩, fun e => ?_, h.r2, h.r0⟩
  obtain ⟨h1, h2, h3, h4, h5, h6, h7, h8, h9, h10⟩ := h.r3 e
  refine ⟨h1, h2, ⟨?_, (hp _ h6).2.1.trans h3.hs, (ha _ h7).trans h3.ht, (ha _ h8).trans h3.hu, (ha _ h9).trans h3.hh⟩, h4.keep ha hs, (hp _ h5).1, (hp _ h6).1, hs _ h7, hs _ h8, hs _ h9, by rw [(hp _ h5).2.2]; exact h10⟩
  have := h3.hk
  unfold Tkt at this ⊢
  exact (hp _ h5).2.1.trans this
theorem Wm.lt' (h : Wm w L Ξ a s A zs m K σ lab) : ∀ k l, lab k = some l → k < w.heap.size := fun k l hk => (h.lo k l hk).2
theorem Wm.notk (h : Wm w L Ξ a s A zs m K σ lab) {k : Nat} {f : Value} (ht : Tkt w k f) : lab k ≠ some .rt ∨ ¬ own a s k := by
  refine .inr (fun ho => ?_)
  have h1 := own_ty h.rt.m ho ht
  revert h1
  decide
/-- A channel where only other labels were turned. -/
theorem Wm.chK (h : Wm w L Ξ a s A zs m K σ lab) (f : Fr w lab T w' lab') {j : Nat} {z : Zc} {c : Cz} (hz : zs[j]? = some z) (hc : σ.ch[j]? = some c) (hT : ¬ T (.ch j)) (hk : Kv w A w' A') (hal : ∀ i, i ∈ c.wts → A' (K i).k = true) (hK : ∀ i, i ∈ c.wts → K' i = K i) (hm : m ≤ m') : Ch w' A' z m' (mem K' c) (fun k => lab' k = some (.ch j)) := by
  obtain ⟨_, _, hch⟩ := h.ch j z c hz hc
  have h1 := hch.keep f.tb (fun k hk e => by
    obtain ⟨l, e1, e2⟩ := e
    rw [hk] at e1
    cases e1
    exact hT e2) hk
  have e1 : (mem K c).snd.filter (al A') = (mem K' c).snd := by
    have : (mem K c).snd = (mem K' c).snd := List.map_congr_left (fun x hx => by rw [hK x.1 (List.mem_append_left _ (List.mem_map_of_mem hx))])
    rw [← this]
    refine List.filter_eq_self.2 (fun x hx => ?_)
    obtain ⟨y, hy, rfl⟩ := List.mem_map.1 hx
    exact hal y.1 (List.mem_append_left _ (List.mem_map_of_mem hy))
  have e2 : (mem K c).rcv.filter (al A') = (mem K' c).rcv := by
    have : (mem K c).rcv = (mem K' c).rcv := List.map_congr_left (fun x hx => by rw [hK x (List.mem_append_right _ hx)])
    rw [← this]
    refine List.filter_eq_self.2 (fun x hx => ?_)
    obtain ⟨y, hy, rfl⟩ := List.mem_map.1 hx
    exact hal y (List.mem_append_right _ hy)
  rw [e1, e2] at h1
  exact (h1.iff (fun k => f.eq k _ hT (by simp))).mono hm
/-- Who waits has a ticket that is to fire. -/
theorem Wm.waits (h : Wm w L Ξ a s A zs m K σ lab) {i : Nat} (hi : i ∈ σ.wts) : ∃ t p, s.ts[i]? = some t ∧ σ.tk[i]? = some p ∧ p.st = 3 ∧ A (K i).k = true := by
  obtain ⟨h3, hl⟩ := h.ok.st3 hi
  have hp := of_p hl
  have hl2 : i < s.ts.length := by rw [h.len]; exact hl
  have ht : s.ts[i]? = some s.ts[i] := List.getElem?_eq_getElem hl2
  have hst := h.cl i _ _ ht hp
  exact ⟨_, _, ht, hp, h3, (hst.r3 h3).2.2.2.2.2.2.2.2.2⟩
end

end Go.Proofs.YtgjpbekmkhanhaaGreat.CG

/-
  What stays where some labels' blocks were turned; a task yields; a channel is turned; boxes are made.
-/
namespace Go.Proofs.YtgjpbekmkhanhaaGreat.CG
open Go.RowKit QW CH
set_option maxRecDepth 100000
set_option linter.unusedSimpArgs false
set_option linter.unusedVariables false

section
variable {w w' : World} {L : Nat} {Ξ : Xw} {a a' : Ad} {s s' : Rs} {A A' : Nat → Bool} {zs : List Zc} {m m' : Nat} {K K' : Nat → Pkr} {σ σ' : Sg} {lab lab' : Lb} {S : Nat → Prop} {T : Lab → Prop}
/-- The world's parts put together again. -/
theorem Wm.build (h : Wm w L Ξ a s A zs m K σ lab) (f : Fr w lab T w' lab') (hL : L ≤ w.heap.size) (hTb : ¬ T .b) (hTq : ¬ T .q) (hTe : ¬ T .ev) (hTc : ¬ T .cv) (hTt : ¬ T .tv) (hlt : ∀ k l, lab' k = some l → k < w'.heap.size)
    (rt' : Rt w' a' s') (eR : a'.R = a.R) (eQ : a'.Q = a.Q) (eT : s'.ts.map Tc.b = s.ts.map Tc.b) (lr' : ∀ k, own a' s' k → lab' k = some .rt) (ev' : σ'.ev = σ.ev)
    (ch' : ∀ (j : Nat) (z : Zc) (c : Cz), zs[j]? = some z → σ'.ch[j]? = some c → z.rt = a.R ∧ z.size = c.sz ∧ Ch w' A' z m' (mem K' c) (fun k => lab' k = some (.ch j))) (cn' : σ'.ch.length = σ.ch.length)
    (ha' : ∀ k, w'.heap.size ≤ k → A' k = true) (ln' : s'.line = σ'.line) (len' : σ'.tk.length = σ.tk.length)
    (cl' : ∀ i t p, s'.ts[i]? = some t → σ'.tk[i]? = some p → Tst lab' w' A' Ξ s'.run i t p (K' i)) (ok' : Sok σ') : Wm w' L Ξ a' s' A' zs m' K' σ' lab' := by
  have hlen : s'.ts.length = s.ts.length := by
    have := congrArg List.length eT
    simpa using this
  refine ⟨?_, rt', lr', by rw [eQ]; exact (f.eq _ _ hTq (by simp)).2 h.lq, fun k l hk => ⟨?_, hlt k l hk⟩, fun j z c hz hc => by rw [eR]; exact ch' j z c hz hc, by rw [cn']; exact h.cn, ha', ln', by rw [hlen, len']; exact h.len, cl', ok'⟩
  · rw [eR, eT, ev']
    refine Ξ.keep h.ex (fun k l hl hk => ?_) f.tb.size
    rcases hl with rfl | rfl | rfl | rfl | rfl
    · exact ⟨(f.eq k _ hTb (by simp)).2 hk, f.blk h.lt' hk hTb⟩
    · exact ⟨(f.eq k _ hTe (by simp)).2 hk, f.blk h.lt' hk hTe⟩
    · exact ⟨(f.eq k _ hTc (by simp)).2 hk, f.blk h.lt' hk hTc⟩
    · exact ⟨(f.eq k _ hTt (by simp)).2 hk, f.blk h.lt' hk hTt⟩
    · exact ⟨f.fz k hk, f.blk h.lt' hk f.nf⟩
  · rcases (f.wy h.lt').dm k (by rw [hk]; simp) with h1 | h1
    · obtain ⟨l', hl'⟩ := Option.ne_none_iff_exists'.1 h1
      exact (h.lo k l' hl').1
    · omega

theorem Wm.fresh (h : Wm w L Ξ a s A zs m K σ lab) {k : Nat} (hk : w.heap.size ≤ k) : lab k = none := by
  cases e : lab k with
  | none => rfl
  | some l => have := h.lt' k l e; omega

theorem Fr.rt (h : Wm w L Ξ a s A zs m K σ lab) (ho : ∀ k, own a' s' k → own a s k ∨ w.heap.size ≤ k) (t : Tb (own a s) w w') : Fr w lab (fun l => l = .rt) w' (relab lab .rt (own a' s')) := by
  have hD : ∀ k, own a' s' k → lab k = some .rt ∨ lab k = none := fun k hk => (ho k hk).imp (h.lr k) h.fresh
  refine ⟨t.mono (fun k _ hk => ⟨_, h.lr k hk, rfl⟩), (fun e => by cases e), fun k l hT _ => relab_other hD hT, fun k hk => (relab_other hD (by simp)).2 hk, fun k hk => .inl ((relab_other hD (by simp)).1 hk), fun k l hT hk => ?_⟩
  subst hT
  exact (ho k (relab_same.1 hk)).imp (fun h1 => ⟨_, h.lr k h1, rfl⟩) id

theorem Fr.chan (h : Wm w L Ξ a s A zs m K σ lab) {j : Nat} {D : Nat → Prop} (x : Lx w (fun k => lab k = some (.ch j)) w' D) : Fr w lab (fun l => l = .ch j) w' (relab lab (.ch j) D) := by
  have hD : ∀ k, D k → lab k = some (.ch j) ∨ lab k = none := fun k hk => (x.dom k hk).imp id h.fresh
  refine ⟨x.tb.mono (fun k _ hk => ⟨_, hk, rfl⟩), (fun e => by cases e), fun k l hT _ => relab_other hD hT, fun k hk => (relab_other hD (by simp)).2 hk, fun k hk => .inl ((relab_other hD (by simp)).1 hk), fun k l hT hk => ?_⟩
  subst hT
  exact (x.dom k (relab_same.1 hk)).imp (fun h1 => ⟨_, h1, rfl⟩) id

theorem Fr.boxes (h : Wm w L Ξ a s A zs m K σ lab) (hb : Below w.heap.size w w') {N : Nat → Prop} (hN : ∀ k, N k → w.heap.size ≤ k) : Fr w lab (fun _ => False) w' (relab lab .fz (fun k => lab k = some .fz ∨ N k)) := by
  have hD : ∀ k, (lab k = some .fz ∨ N k) → lab k = some .fz ∨ lab k = none := fun k hk => hk.imp id (fun h1 => h.fresh (hN k h1))
  refine ⟨Tb.of_fresh hb, fun e => e, fun k l _ hl => relab_other hD hl, fun k hk => relab_same.2 (.inl hk), fun k hk => (relab_same.1 hk).imp id (fun h1 => .inr (hN k h1)), fun _ _ hT => hT.elim⟩

/-- New boxes that nobody turns. -/
theorem Wm.boxes (h : Wm w L Ξ a s A zs m K σ lab) (hL : L ≤ w.heap.size) (hb : Below w.heap.size w w') {N : Nat → Prop} (hN : ∀ k, N k → w.heap.size ≤ k ∧ k < w'.heap.size) :
    Wm w' L Ξ a s A zs m K σ (relab lab .fz (fun k => lab k = some .fz ∨ N k)) ∧ Wy w lab w' (relab lab .fz (fun k => lab k = some .fz ∨ N k)) := by
  have f := Fr.boxes h hb (fun k hk => (hN k hk).1)
  have hz := hb.size
  refine ⟨h.build f hL id id id id id (fun k l hk => ?_) (h.rt.below hb) rfl rfl rfl (fun k hk => (f.eq k _ id (by simp)).2 (h.lr k hk)) rfl (fun j z c hz hc => ⟨(h.ch j z c hz hc).1, (h.ch j z c hz hc).2.1, h.chK f hz hc id (Kv.below A hb) (fun i hi => ?_) (fun _ _ => rfl) (Nat.le_refl _)⟩) rfl (fun k hk => h.ha k (by omega)) h.ln rfl (fun i t p ht hp => (h.cl i t p ht hp).keep (f.wy h.lt').agr (f.wy h.lt').sub (fun k hk => ⟨(f.eq k _ id (by simp)).2 hk, f.blk h.lt' hk id, rfl⟩) h.lt') h.ok, f.wy h.lt'⟩
  · by_cases hl : l = .fz
    · subst hl
      rcases relab_same.1 hk with h1 | h1
      · have := h.lt' k _ h1; omega
      · exact (hN k h1).2
    · have := h.lt' k l ((f.eq k l id hl).1 hk); omega
  · obtain ⟨t, p, _, _, _, h4⟩ := h.waits (mem_wts.2 ⟨j, c, hc, hi⟩)
    exact h4

/-- A channel was turned, nobody told. -/
theorem Wm.chan (h : Wm w L Ξ a s A zs m K σ lab) (hL : L ≤ w.heap.size) {j : Nat} {z : Zc} {c d : Cz} {D : Nat → Prop} (hz : zs[j]? = some z) (hc : σ.ch[j]? = some c) (hd : Ch w' A z m' (mem K d) D) (hm : m ≤ m') (x : Lx w (fun k => lab k = some (.ch j)) w' D) (es : d.sz = c.sz) (ok' : Sok (σ.setc j d)) :
    Wm w' L Ξ a s A zs m' K (σ.setc j d) (relab lab (.ch j) D) ∧ Wy w lab w' (relab lab (.ch j) D) := by
  have f := Fr.chan h x
  have hzz := x.tb.size
  have hkv : Kv w A w' A := Kv.tb A x.tb (fun k f ht hk => (h.ch j z c hz hc).2.2.notk ht hk)
  refine ⟨h.build f hL (fun e => by cases e) (fun e => by cases e) (fun e => by cases e) (fun e => by cases e) (fun e => by cases e) (fun k l hk => ?_) (h.rt.tb x.tb (fun k hk e => ?_)) rfl rfl rfl (fun k hk => (f.eq k _ (by simp) (by simp)).2 (h.lr k hk)) rfl (fun i y e hy he => ?_) (by simp [Sg.setc]) (fun k hk => h.ha k (by omega)) h.ln rfl (fun i t p ht hp => (h.cl i t p ht hp).keep (f.wy h.lt').agr (f.wy h.lt').sub (fun k hk => ⟨(f.eq k _ (by simp) (by simp)).2 hk, f.blk h.lt' hk (by simp), rfl⟩) h.lt') ok', f.wy h.lt'⟩
  · by_cases hl : l = .ch j
    · subst hl
      exact hd.lt (relab_same.1 hk)
    · have hD : ∀ k, D k → lab k = some (.ch j) ∨ lab k = none := fun k hk => (x.dom k hk).imp id h.fresh
      have := h.lt' k l ((relab_other hD hl).1 hk); omega
  · rcases hk with hk | hk
    · rw [h.lr k hk] at e
      cases e
    · subst hk
      rw [h.lq] at e
      cases e
  · rw [setc_get hc] at he
    by_cases e' : i = j
    · subst e'
      rw [if_pos rfl] at he
      cases he
      rw [hz] at hy
      cases hy
      exact ⟨(h.ch i z c hz hc).1, by rw [es]; exact (h.ch i z c hz hc).2.1, hd.iff (fun k => relab_same)⟩
    · rw [if_neg e'] at he
      refine ⟨(h.ch i y e hy he).1, (h.ch i y e hy he).2.1, h.chK f hy he (fun e'' => e' (by cases e''; rfl)) hkv (fun q hq => ?_) (fun _ _ => rfl) hm⟩
      obtain ⟨t, p, _, _, _, h4⟩ := h.waits (mem_wts.2 ⟨i, e, he, hq⟩)
      exact h4

/-- A running task gets ready. -/
theorem Wm.yields (h : Wm w L Ξ a s A zs m K σ lab) (hL : L ≤ w.heap.size) {i : Nat} {t : Tc} {p : Pt} (hi : s.ts[i]? = some t) (hp : σ.tk[i]? = some p) (hst : p.st ≠ 3) {v : Value} {td : Tld} (hv : Go0 (Fz lab) w v (Ξ.QT t.b i p.at' td)) (hwk : t.wk = .nilFunc) (hr : Rp w a s w' a' (s.gets i { t with nx := v })) :
    Wm w' L Ξ a' (s.gets i { t with nx := v }) A zs m K (σ.gets i td) (relab lab .rt (own a' (s.gets i { t with nx := v }))) ∧ Wy w lab w' (relab lab .rt (own a' (s.gets i { t with nx := v }))) := by
  have f := Fr.rt h (fun k hk => hr.x.own hk) hr.x.tb
  have hz := hr.x.tb.size
  have hkv : Kv w A w' A := Kv.tb A hr.x.tb (fun k f ht hk => by
    have h1 := own_ty h.rt.m hk ht
    revert h1
    decide)
  have hnw : i ∉ σ.wts := fun e => hst (by have := (h.ok.st3 e).1; rwa [p_of hp] at this)
  have hil : i < σ.tk.length := (List.getElem?_eq_some_iff.1 hp).1
  refine ⟨h.build f hL (fun e => by cases e) (fun e => by cases e) (fun e => by cases e) (fun e => by cases e) (fun e => by cases e) (fun k l hk => ?_) hr.rt hr.x.R hr.x.Q ?_ (fun k hk => relab_same.2 hk) rfl (fun j z c hz hc => ⟨(h.ch j z c hz hc).1, (h.ch j z c hz hc).2.1, h.chK f hz hc (fun e => by cases e) hkv (fun i hi => ?_) (fun _ _ => rfl) (Nat.le_refl _)⟩) rfl (fun k hk => h.ha k (by omega)) (by simp [Rs.gets, Sg.gets, h.ln]) (by simp [Sg.gets]) (fun j u q hu hq => ?_) (h.ok.gets hnw td hil), f.wy h.lt'⟩
  · by_cases hl : l = .rt
    · subst hl
      exact hr.rt.m.own_lt (relab_same.1 hk)
    · have hD : ∀ k, own a' (s.gets i { t with nx := v }) k → lab k = some .rt ∨ lab k = none := fun k hk => (hr.x.own hk).imp (h.lr k) h.fresh
      have := h.lt' k l ((relab_other hD hl).1 hk); omega
  · exact map_set hi rfl
  · obtain ⟨t, p, _, _, _, h4⟩ := h.waits (mem_wts.2 ⟨j, c, hc, hi⟩)
    exact h4
  · simp only [Rs.gets, get_set hi] at hu
    rw [gets_get hp] at hq
    by_cases e : j = i
    · subst e
      rw [if_pos rfl] at hu hq
      cases hu
      cases hq
      exact ⟨(by simp), (fun _ => ⟨hv.keep (f.wy h.lt').agr (f.wy h.lt').sub, hwk⟩), (fun e => by simp at e), (fun e => by simp at e), (fun e => by simp at e)⟩
    · rw [if_neg e] at hu hq
      exact (h.cl j u q hu hq).keep (f.wy h.lt').agr (f.wy h.lt').sub (fun k hk => ⟨(f.eq k _ (by simp) (by simp)).2 hk, f.blk h.lt' hk (by simp), rfl⟩) h.lt'

end
end Go.Proofs.YtgjpbekmkhanhaaGreat.CG

/-
  A task that waits is served.
-/
namespace Go.Proofs.YtgjpbekmkhanhaaGreat.CG
open Go.RowKit QW CH
set_option maxRecDepth 100000
set_option linter.unusedSimpArgs false
set_option linter.unusedVariables false

section
variable {w w' : World} {L : Nat} {Ξ : Xw} {a a' : Ad} {s s' : Rs} {A A' : Nat → Bool} {zs : List Zc} {m m' : Nat} {K K' : Nat → Pkr} {σ σ' : Sg} {lab lab' : Lb}
theorem Wm.serves (h : Wm w L Ξ a s A zs m K σ lab) (hL : L ≤ w.heap.size) {i : Nat} {t : Tc} {p : Pt} (hi : s.ts[i]? = some t) (hp : σ.tk[i]? = some p) (hst : p.st = 3) (hnw : i ∉ σ.wts) {v : Int} {ok : Bool} (hs : Served w a s i t.b (K i).k (K i).sv (K i).tb (K i).ub (K i).th v ok w') :
    ∃ a' w1 w2 lab', Wm w' L Ξ a' (s.gets i ⟨t.b, wkf w1 w2, .nilFunc⟩) (fire A (K i).k) zs m K (σ.gets i (0, if p.rc then v else 0, ok)) lab' ∧ Wy w lab w' lab' ∧ Kv w A w' (fire A (K i).k) ∧ a'.R = a.R := by
  obtain ⟨a', w1, w2, g1, g2, rt', eR, eQ, ho, tb, hkt, e1, e2, es, eg1, eg2, hfr⟩ := hs.ex
  obtain ⟨h1, h2, hpk, hgo, l1, l2, l3, l4, l5, hA⟩ := (h.cl i t p hi hp).r3 hst
  have hz := tb.size
  refine ⟨a', w1, w2, relab (relab (relab lab .rt (own a' (s.gets i ⟨t.b, wkf w1 w2, .nilFunc⟩))) (.pk i) (fun _ => False)) .fz (fun k => lab k = some .fz ∨ (k = w1 ∨ k = w2 ∨ k = g1 ∨ k = g2 ∨ k = (K i).sv)), ?_⟩
  have hnew : ∀ k, k = w1 ∨ k = w2 ∨ k = g1 ∨ k = g2 → lab k = none := fun k hk => h.fresh (hfr k hk).1
  have hso : ¬ own a' (s.gets i ⟨t.b, wkf w1 w2, .nilFunc⟩) (K i).sv := fun e => by
    rcases ho _ e with h3 | h3
    · have := h.lr _ h3
      rw [l2] at this
      cases this
    · have := h.lt' _ _ l2; omega
  have hfz : ∀ k, lab k = some .fz → ¬ own a' (s.gets i ⟨t.b, wkf w1 w2, .nilFunc⟩) k := fun k hk e => by
    rcases ho _ e with h3 | h3
    · have := h.lr _ h3
      rw [hk] at this
      cases this
    · have := h.lt' _ _ hk; omega
  -- the labels
  have hkeep : ∀ k l, l ≠ .rt → l ≠ .pk i → l ≠ .fz → (relab (relab (relab lab .rt (own a' (s.gets i ⟨t.b, wkf w1 w2, .nilFunc⟩))) (.pk i) (fun _ => False)) .fz (fun k => lab k = some .fz ∨ (k = w1 ∨ k = w2 ∨ k = g1 ∨ k = g2 ∨ k = (K i).sv)) k = some l ↔ lab k = some l) := fun k l n1 n2 n3 => by
    constructor
    · intro e
      exact relab_from (relab_from (relab_from e n3) n2) n1
    · intro e
      refine relab_sub (relab_sub (relab_sub e n1 (fun e' => ?_)) n2 (fun e' => e')) n3 (fun e' => ?_)
      · rcases ho _ e' with h3 | h3
        · have := h.lr _ h3
          rw [e] at this
          exact n1 (Option.some.inj this)
        · have := h.lt' _ _ e; omega
      · rcases e' with e' | e' | e' | e' | e' | e'
        · rw [e] at e'
          exact n3 (Option.some.inj e')
        · rw [hnew k (.inl e')] at e; cases e
        · rw [hnew k (.inr (.inl e'))] at e; cases e
        · rw [hnew k (.inr (.inr (.inl e')))] at e; cases e
        · rw [hnew k (.inr (.inr (.inr e')))] at e; cases e
        · subst e'
          rw [l2] at e
          exact n2 (Option.some.inj e).symm
  have hrt : ∀ k, own a' (s.gets i ⟨t.b, wkf w1 w2, .nilFunc⟩) k → relab (relab (relab lab .rt (own a' (s.gets i ⟨t.b, wkf w1 w2, .nilFunc⟩))) (.pk i) (fun _ => False)) .fz (fun k => lab k = some .fz ∨ (k = w1 ∨ k = w2 ∨ k = g1 ∨ k = g2 ∨ k = (K i).sv)) k = some .rt := fun k hk => by
    refine relab_sub (relab_sub (relab_same.2 hk) (by simp) (fun e => e)) (by simp) (fun e' => ?_)
    rcases e' with e' | e' | e' | e' | e' | e'
    · exact hfz k e' hk
    · exact (hfr k (.inl e')).2 hk
    · exact (hfr k (.inr (.inl e'))).2 hk
    · exact (hfr k (.inr (.inr (.inl e')))).2 hk
    · exact (hfr k (.inr (.inr (.inr e')))).2 hk
    · subst e'
      exact hso hk
  have hrtf : ∀ k, relab (relab (relab lab .rt (own a' (s.gets i ⟨t.b, wkf w1 w2, .nilFunc⟩))) (.pk i) (fun _ => False)) .fz (fun k => lab k = some .fz ∨ (k = w1 ∨ k = w2 ∨ k = g1 ∨ k = g2 ∨ k = (K i).sv)) k = some .rt → own a' (s.gets i ⟨t.b, wkf w1 w2, .nilFunc⟩) k := fun k hk => relab_same.1 (relab_from (relab_from hk (by simp)) (by simp))
  have hpkf : ∀ k, ¬ relab (relab (relab lab .rt (own a' (s.gets i ⟨t.b, wkf w1 w2, .nilFunc⟩))) (.pk i) (fun _ => False)) .fz (fun k => lab k = some .fz ∨ (k = w1 ∨ k = w2 ∨ k = g1 ∨ k = g2 ∨ k = (K i).sv)) k = some (.pk i) := fun k hk => relab_same.1 (relab_from hk (by simp))
  have hfz1 : ∀ k, relab (relab (relab lab .rt (own a' (s.gets i ⟨t.b, wkf w1 w2, .nilFunc⟩))) (.pk i) (fun _ => False)) .fz (fun k => lab k = some .fz ∨ (k = w1 ∨ k = w2 ∨ k = g1 ∨ k = g2 ∨ k = (K i).sv)) k = some .fz ↔ lab k = some .fz ∨ (k = w1 ∨ k = w2 ∨ k = g1 ∨ k = g2 ∨ k = (K i).sv) := fun k => relab_same
  generalize relab (relab (relab lab .rt (own a' (s.gets i ⟨t.b, wkf w1 w2, .nilFunc⟩))) (.pk i) (fun _ => False)) .fz (fun k => lab k = some .fz ∨ (k = w1 ∨ k = w2 ∨ k = g1 ∨ k = g2 ∨ k = (K i).sv)) = lab' at *
  have f : Fr w lab (fun l => l = .rt ∨ l = .pk i) w' lab' := by
    refine ⟨tb.mono (fun k _ hk => ?_), (fun e => by rcases e with e | e <;> cases e), fun k l hT hl => hkeep k l (fun e => hT (.inl e)) (fun e => hT (.inr e)) hl, fun k hk => (hfz1 k).2 (.inl hk), fun k hk => ?_, fun k l hT hk => ?_⟩
    · rcases hk with hk | hk | hk
      · exact ⟨_, h.lr k hk, .inl rfl⟩
      · exact ⟨_, hk ▸ l1, .inr rfl⟩
      · exact ⟨_, hk ▸ l2, .inr rfl⟩
    · rcases (hfz1 k).1 hk with e' | e' | e' | e' | e' | e'
      · exact .inl e'
      · exact .inr (.inr (hfr k (.inl e')).1)
      · exact .inr (.inr (hfr k (.inr (.inl e'))).1)
      · exact .inr (.inr (hfr k (.inr (.inr (.inl e')))).1)
      · exact .inr (.inr (hfr k (.inr (.inr (.inr e')))).1)
      · exact .inr (.inl ⟨_, e' ▸ l2, .inr rfl⟩)
    · rcases hT with rfl | rfl
      · exact (ho k (hrtf k hk)).imp (fun h3 => ⟨_, h.lr k h3, .inl rfl⟩) id
      · exact absurd hk (hpkf k)
  have hkv : Kv w A w' (fire A (K i).k) := fun x hx => by
    obtain ⟨j, g, hx1, hx2, hx3⟩ := hx
    have hal : al (fire A (K i).k) x = true → al A x = true := by
      unfold al fire
      rw [hx1]
      by_cases e : j = (K i).k
      · simp [e]
      · simp [e]
    refine ⟨?_, hal⟩
    by_cases e : j = (K i).k
    · subst e
      exact ⟨_, _, hx1, hkt, .inr ⟨by simp [fire], rfl⟩⟩
    · refine ⟨j, g, hx1, hx2.tb tb (fun e' => ?_), by simpa [fire, e] using hx3⟩
      rcases e' with e' | e' | e'
      · have h3 := own_ty h.rt.m e' hx2
        revert h3
        decide
      · exact e e'
      · subst e'
        exact ty_ne hx2 hpk.hs (by decide) rfl
  have hil : i < σ.tk.length := (List.getElem?_eq_some_iff.1 hp).1
  refine ⟨h.build f hL (fun e => by rcases e with e | e <;> cases e) (fun e => by rcases e with e | e <;> cases e) (fun e => by rcases e with e | e <;> cases e) (fun e => by rcases e with e | e <;> cases e) (fun e => by rcases e with e | e <;> cases e) (fun k l hk => ?_) rt' eR eQ ?_ hrt rfl (fun j z c hz hc => ⟨(h.ch j z c hz hc).1, (h.ch j z c hz hc).2.1, h.chK f hz hc (fun e => by rcases e with e | e <;> cases e) hkv (fun q hq => ?_) (fun _ _ => rfl) (Nat.le_refl _)⟩) rfl (fun k hk => ?_) (by simp [Rs.gets, Sg.gets, h.ln]) (by simp [Sg.gets]) (fun j u q hu hq => ?_) (h.ok.gets hnw _ hil), f.wy h.lt', hkv, eR⟩
  · by_cases n1 : l = .rt
    · subst n1
      exact rt'.m.own_lt (hrtf k hk)
    · by_cases n2 : l = .pk i
      · subst n2
        exact absurd hk (hpkf k)
      · by_cases n3 : l = .fz
        · subst n3
          rcases (hfz1 k).1 hk with e' | e' | e' | e' | e' | e'
          · have := h.lt' k _ e'; omega
          · subst e'; exact heap_lt e1
          · subst e'; exact heap_lt e2
          · subst e'; exact heap_lt eg1
          · subst e'; exact heap_lt eg2
          · subst e'; exact heap_lt es
        · have := h.lt' k l ((hkeep k l n1 n2 n3).1 hk); omega
  · exact map_set hi rfl
  · obtain ⟨t', p', ht', hp', h3, h4⟩ := h.waits (mem_wts.2 ⟨j, c, hc, hq⟩)
    have hne : q ≠ i := fun e => hnw (e ▸ mem_wts.2 ⟨j, c, hc, hq⟩)
    have hlq := ((h.cl q t' p' ht' hp').r3 h3).2.2.2.2.1
    have : (K q).k ≠ (K i).k := fun e => by
      rw [e, l1] at hlq
      exact hne (by cases hlq; rfl)
    simp [fire, this, h4]
  · have : k ≠ (K i).k := fun e => by have := h.lt' _ _ l1; omega
    simp [fire, this, h.ha k (by omega)]
  · simp only [Rs.gets, get_set hi] at hu
    rw [gets_get hp] at hq
    by_cases e : j = i
    · subst e
      rw [if_pos rfl] at hu hq
      cases hu
      cases hq
      have hgo' : Go2 (Fz lab') w' (K j).f (fun v ok => Ξ.QT t.b j p.at' (0, if p.rc then v else 0, ok)) := hgo.keep (f.wy h.lt').agr (f.wy h.lt').sub
      have eth : w'.heap[(K j).th]? = some (.cells #[(K j).f] (68 : TypeId) (0, 0)) := (f.blk h.lt' l5 (fun e => by rcases e with e | e <;> cases e)).trans hpk.hh
      have hserved := nx_served hgo' (w1 := w1) (w2 := w2) (sv := (K j).sv) (tb := (K j).tb) (ub := (K j).ub) (th := (K j).th) (g1 := g1) (g2 := g2) (x := v) (b := ok) ((hfz1 _).2 (.inr (.inl rfl))) ((hfz1 _).2 (.inr (.inr (.inl rfl)))) ((hfz1 _).2 (.inr (.inr (.inr (.inr (.inr rfl)))))) ((hfz1 _).2 (.inl l5)) ((hfz1 _).2 (.inr (.inr (.inr (.inl rfl))))) ((hfz1 _).2 (.inr (.inr (.inr (.inr (.inl rfl)))))) e1 e2 es eth eg1 eg2
      exact ⟨(by simp), (fun _ => ⟨hserved, rfl⟩), (fun e => by simp at e), (fun e => by simp at e), (fun e => by simp at e)⟩
    · rw [if_neg e] at hu hq
      have hnpk : ¬ ((Lab.pk j = .rt) ∨ (Lab.pk j = .pk i)) := fun e' => by
        rcases e' with e' | e'
        · cases e'
        · cases e'
          exact e rfl
      refine (h.cl j u q hu hq).keep (f.wy h.lt').agr (f.wy h.lt').sub (fun k hk => ⟨(f.eq k _ hnpk (by simp)).2 hk, f.blk h.lt' hk hnpk, ?_⟩) h.lt'
      have : k ≠ (K i).k := fun e' => by
        rw [e', l1] at hk
        exact e (by cases hk; rfl)
      simp [fire, this]

end
end Go.Proofs.YtgjpbekmkhanhaaGreat.CG

/-
  A task begins to wait.
-/
namespace Go.Proofs.YtgjpbekmkhanhaaGreat.CG
open Go.RowKit QW CH
set_option maxRecDepth 100000
set_option linter.unusedSimpArgs false
set_option linter.unusedVariables false

section
variable {w w' : World} {L : Nat} {Ξ : Xw} {a a' : Ad} {s s' : Rs} {A A' : Nat → Bool} {zs : List Zc} {m m' : Nat} {K K' : Nat → Pkr} {σ σ' : Sg} {lab lab' : Lb}
set_option maxHeartbeats 1000000 in
theorem Wm.parks (h : Wm w L Ξ a s A zs m K σ lab) (hL : L ≤ w.heap.size) {i j : Nat} {t : Tc} {p : Pt} {z : Zc} {c d : Cz} (hi : s.ts[i]? = some t) (hp : σ.tk[i]? = some p) (hst : p.st = 2) (hz : zs[j]? = some z) (hc : σ.ch[j]? = some c) {v : Int} {f : Value} {nxt : Wv → Cs} (rc : Bool)
    (hpk : Pked w a s i t A z (m + 1) (fun k => lab k = some (.ch j)) v f nxt w') (hd : ∀ r : Pkr, nxt (pkw r.k v r.th r.sv) = mem (upd K i r) d) (hsz : d.sz = c.sz) (hok : Sok ((σ.setc j d).put i { p with st := 3, rc := rc }))
    (N : Nat → Prop) (hN : ∀ k, N k → w.heap.size ≤ k ∧ ∃ cs, w'.heap[k]? = some (.cells cs (67 : TypeId) (0, 0)))
    (hgo : ∀ lab' : Lb, (∀ k, Fz lab k → Fz lab' k) → (∀ k, N k → Fz lab' k) → Agr (Fz lab) w w' → Go2 (Fz lab') w' f (fun v ok => Ξ.QT t.b i p.at' (0, if rc then v else 0, ok))) :
    ∃ s' K' lab', Wm w' L Ξ a s' A zs (m + 1) K' ((σ.setc j d).put i { p with st := 3, rc := rc }) lab' ∧ Wy w lab w' lab' ∧ s'.ts.map Tc.b = s.ts.map Tc.b ∧ s'.run = s.run ∧ s'.left = s.left := by
  obtain ⟨k, sv, tb, ub, th, D', pk, ch, rt', tt, dm, bl⟩ := hpk
  obtain ⟨q1, q2, q3⟩ := (h.cl i t p hi hp).r2 hst
  have hzz := tt.size
  have hbk := bl k (.inl rfl)
  have hbs := bl sv (.inr (.inl rfl))
  have hbt := bl tb (.inr (.inr (.inl rfl)))
  have hbu := bl ub (.inr (.inr (.inr (.inl rfl))))
  have hbh := bl th (.inr (.inr (.inr (.inr rfl))))
  have hN1 : ∀ q, N q → ¬ D' q ∧ q ≠ k ∧ q ≠ sv := fun q hq => by
    obtain ⟨cs, hcs⟩ := (hN q hq).2
    refine ⟨fun e => ?_, ?_, ?_⟩
    · have := ch.ty e hcs
      revert this
      decide
    · exact ty_ne hcs pk.hk (by decide)
    · exact ty_ne hcs pk.hs (by decide)
  have hkn : k ≠ tb ∧ k ≠ ub ∧ k ≠ th := ⟨ty_ne pk.hk pk.ht (by decide), ty_ne pk.hk pk.hu (by decide), ty_ne pk.hk pk.hh (by decide)⟩
  have hsn : sv ≠ tb ∧ sv ≠ ub ∧ sv ≠ th := ⟨ty_ne pk.hs pk.ht (by decide), ty_ne pk.hs pk.hu (by decide), ty_ne pk.hs pk.hh (by decide)⟩
  have hDf : ∀ q, D' q → lab q = some (.ch j) ∨ lab q = none := fun q hq => (dm q hq).imp id h.fresh
  have hdD : ∀ q l, lab q = some l → l ≠ .ch j → ¬ D' q := fun q l hq hl e => by
    rcases hDf q e with e' | e'
    · rw [hq] at e'
      exact hl (Option.some.inj e')
    · rw [hq] at e'
      cases e'
  obtain ⟨lab', hlab⟩ : ∃ lab', lab' = relab (relab (relab lab (.ch j) D') (.pk i) (fun q => q = k ∨ q = sv)) .fz (fun q => lab q = some .fz ∨ q = tb ∨ q = ub ∨ q = th ∨ N q) := ⟨_, rfl⟩
  have hfz : ∀ q, lab' q = some .fz ↔ lab q = some .fz ∨ q = tb ∨ q = ub ∨ q = th ∨ N q := fun q => by rw [hlab]; exact relab_same
  have hnew : ∀ q, q = tb ∨ q = ub ∨ q = th ∨ N q → w.heap.size ≤ q ∧ ¬ D' q ∧ q ≠ k ∧ q ≠ sv := fun q hq => by
    rcases hq with rfl | rfl | rfl | hq
    · exact ⟨hbt.1, hbt.2, hkn.1.symm, hsn.1.symm⟩
    · exact ⟨hbu.1, hbu.2, hkn.2.1.symm, hsn.2.1.symm⟩
    · exact ⟨hbh.1, hbh.2, hkn.2.2.symm, hsn.2.2.symm⟩
    · exact ⟨(hN q hq).1, hN1 q hq⟩
  have hpki : ∀ q, lab' q = some (.pk i) ↔ q = k ∨ q = sv := fun q => by
    rw [hlab]
    constructor
    · intro e
      exact relab_same.1 (relab_from e (by simp))
    · intro e
      refine relab_sub (relab_same.2 e) (by simp) (fun e' => ?_)
      rcases e' with e' | e'
      · have := h.lt' q _ e'
        rcases e with rfl | rfl
        · have := hbk.1; omega
        · have := hbs.1; omega
      · obtain ⟨_, _, n1, n2⟩ := hnew q e'
        exact e.elim n1 n2
  have hchj : ∀ q, lab' q = some (.ch j) ↔ D' q := fun q => by
    rw [hlab]
    constructor
    · intro e
      exact relab_same.1 (relab_from (relab_from e (by simp)) (by simp))
    · intro e
      refine relab_sub (relab_sub (relab_same.2 e) (by simp) (fun e' => ?_)) (by simp) (fun e' => ?_)
      · rcases e' with rfl | rfl
        · exact hbk.2 e
        · exact hbs.2 e
      · rcases e' with e' | e'
        · exact hdD q _ e' (by simp) e
        · exact (hnew q e').2.1 e
  have hoth : ∀ q l, l ≠ .ch j → l ≠ .pk i → l ≠ .fz → (lab' q = some l ↔ lab q = some l) := fun q l n1 n2 n3 => by
    rw [hlab]
    constructor
    · intro e
      exact relab_from (relab_from (relab_from e n3) n2) n1
    · intro e
      have hq := h.lt' q l e
      refine relab_sub (relab_sub (relab_sub e n1 (hdD q l e n1)) n2 (fun e' => ?_)) n3 (fun e' => ?_)
      · rcases e' with rfl | rfl
        · have := hbk.1; omega
        · have := hbs.1; omega
      · rcases e' with e' | e'
        · rw [e] at e'
          exact n3 (Option.some.inj e')
        · have := (hnew q e').1; omega
  clear hlab
  have fr : Fr w lab (fun l => l = .rt ∨ l = .ch j ∨ l = .pk i) w' lab' := by
    refine ⟨tt.mono (fun q _ hq => ?_), (fun e => by rcases e with e | e | e <;> cases e), fun q l hT hl => hoth q l (fun e => hT (.inr (.inl e))) (fun e => hT (.inr (.inr e))) hl, fun q hq => (hfz q).2 (.inl hq), fun q hq => ((hfz q).1 hq).imp id (fun e => .inr (hnew q e).1), fun q l hT hq => ?_⟩
    · rcases hq with hq | hq
      · exact ⟨_, h.lr q hq, .inl rfl⟩
      · exact ⟨_, hq, .inr (.inl rfl)⟩
    · rcases hT with rfl | rfl | rfl
      · exact .inl ⟨_, (hoth q _ (by simp) (by simp) (by simp)).1 hq, .inl rfl⟩
      · exact (dm q ((hchj q).1 hq)).imp (fun e => ⟨_, e, .inr (.inl rfl)⟩) id
      · rcases (hpki q).1 hq with rfl | rfl
        · exact .inr hbk.1
        · exact .inr hbs.1
  have hkv : Kv w A w' A := Kv.tb A tt (fun q g ht e => by
    rcases e with e | e
    · have h3 := own_ty h.rt.m e ht
      revert h3
      decide
    · exact (h.ch j z c hz hc).2.2.notk ht e)
  have hnw : i ∉ σ.wts := fun e => by
    have := (h.ok.st3 e).1
    rw [p_of hp, hst] at this
    cases this
  have hKq : ∀ q, q ∈ σ.wts → upd K i ⟨k, sv, tb, ub, th, f⟩ q = K q := fun q hq => by
    have : q ≠ i := fun e => hnw (e ▸ hq)
    simp [upd, this]
  have hput : ∀ q, ((σ.setc j d).put i { p with st := 3, rc := rc }).tk[q]? = if q = i then some { p with st := 3, rc := rc } else σ.tk[q]? := fun q => put_get (σ := σ.setc j d) hp _ q
  have hAr := fr.wy h.lt'
  refine ⟨s.put i { t with wk := pkv sv tb ub }, upd K i ⟨k, sv, tb, ub, th, f⟩, lab', h.build fr hL (fun e => by rcases e with e | e | e <;> cases e) (fun e => by rcases e with e | e | e <;> cases e) (fun e => by rcases e with e | e | e <;> cases e) (fun e => by rcases e with e | e | e <;> cases e) (fun e => by rcases e with e | e | e <;> cases e) (fun q l hq => ?_) rt' rfl rfl ?_ (fun q hq => ?_) rfl (fun q y e hy he => ?_) (by simp [Sg.setc, Sg.put]) (fun q hq => h.ha q (by omega)) h.ln (by simp [Sg.setc, Sg.put]) (fun q u o hu ho => ?_) hok, hAr, map_set hi rfl, rfl, rfl⟩
  · by_cases n1 : l = .ch j
    · subst n1
      exact ch.lt ((hchj q).1 hq)
    · by_cases n2 : l = .pk i
      · subst n2
        rcases (hpki q).1 hq with rfl | rfl
        · exact pk.hk.lt
        · exact heap_lt pk.hs
      · by_cases n3 : l = .fz
        · subst n3
          rcases (hfz q).1 hq with e | rfl | rfl | rfl | e
          · have := h.lt' q _ e; omega
          · exact heap_lt pk.ht
          · exact heap_lt pk.hu
          · exact heap_lt pk.hh
          · obtain ⟨cs, hcs⟩ := (hN q e).2
            exact heap_lt hcs
        · have := h.lt' q l ((hoth q l n1 n2 n3).1 hq); omega
  · exact map_set hi rfl
  · refine (hoth q _ (by simp) (by simp) (by simp)).2 (h.lr q ?_)
    rcases hq with hq | hq | hq | hq | ⟨u, hu, hq⟩
    · exact .inl hq
    · exact .inr (.inl hq)
    · exact .inr (.inr (.inl hq))
    · exact .inr (.inr (.inr (.inl hq)))
    · rcases mem_set hi hu with rfl | hu
      · exact .inr (.inr (.inr (.inr ⟨t, List.mem_of_getElem? hi, hq⟩)))
      · exact .inr (.inr (.inr (.inr ⟨u, hu, hq⟩)))
  · have he' : (σ.setc j d).ch[q]? = some e := he
    rw [setc_get hc] at he'
    by_cases e' : q = j
    · subst e'
      rw [if_pos rfl] at he'
      cases he'
      rw [hz] at hy
      cases hy
      refine ⟨(h.ch q z c hz hc).1, by rw [hsz]; exact (h.ch q z c hz hc).2.1, ?_⟩
      have h9 := hd ⟨k, sv, tb, ub, th, f⟩
      simp only at h9
      rw [← h9]
      exact ch.iff hchj
    · rw [if_neg e'] at he'
      refine ⟨(h.ch q y e hy he').1, (h.ch q y e hy he').2.1, h.chK fr hy he' (fun e'' => ?_) hkv (fun x hx => ?_) (fun x hx => hKq x (mem_wts.2 ⟨q, e, he', hx⟩)) (by omega)⟩
      · rcases e'' with e'' | e'' | e''
        · cases e''
        · cases e''
          exact e' rfl
        · cases e''
      · obtain ⟨t9, p9, _, _, _, h4⟩ := h.waits (mem_wts.2 ⟨q, e, he', hx⟩)
        exact h4
  · simp only [Rs.put, get_set hi] at hu
    rw [hput] at ho
    by_cases e : q = i
    · subst e
      rw [if_pos rfl] at hu ho
      cases hu
      cases ho
      have hg := hgo lab' hAr.sub (fun x hx => (hfz x).2 (.inr (.inr (.inr (.inr hx))))) hAr.agr
      have hu0 : upd K q ⟨k, sv, tb, ub, th, f⟩ q = ⟨k, sv, tb, ub, th, f⟩ := by simp [upd]
      rw [hu0]
      refine ⟨(by simp), (fun e => by simp at e), (fun _ => ⟨q2, rfl, pk, hg, (hpki _).2 (.inl rfl), (hpki _).2 (.inr rfl), (hfz _).2 (.inr (.inl rfl)), (hfz _).2 (.inr (.inr (.inl rfl))), (hfz _).2 (.inr (.inr (.inr (.inl rfl)))), h.ha k hbk.1⟩), (fun e => by simp at e), (fun e => by simp at e)⟩
    · rw [if_neg e] at hu ho
      have hnpk : ¬ ((Lab.pk q = .rt) ∨ (Lab.pk q = .ch j) ∨ (Lab.pk q = .pk i)) := fun e' => by
        rcases e' with e' | e' | e'
        · cases e'
        · cases e'
        · cases e'
          exact e rfl
      have hu0 : upd K i ⟨k, sv, tb, ub, th, f⟩ q = K q := by simp [upd, e]
      rw [hu0]
      exact (h.cl q u o hu ho).keep hAr.agr hAr.sub (fun x hx => ⟨(fr.eq x _ hnpk (by simp)).2 hx, fr.blk h.lt' hx hnpk, rfl⟩) h.lt'

end
end Go.Proofs.YtgjpbekmkhanhaaGreat.CG

/-
  The law's world, what is in it beside its tale hidden.
-/
namespace Go.Proofs.YtgjpbekmkhanhaaGreat.CG
open Go.RowKit QW CH
set_option maxRecDepth 100000
set_option linter.unusedSimpArgs false
set_option linter.unusedVariables false

/-- The law's world, what is in it beside its tale hidden. -/
structure Wd (w : World) (L : Nat) (Ξ : Xw) (R : Nat) (zs : List Zc) (bs : List Nat) (m : Nat) (σ : Sg) (run : Option Nat) (left : Nat) (lab : Lb) : Prop where
  ex : ∃ a s A K, Wm w L Ξ a s A zs m K σ lab ∧ a.R = R ∧ s.ts.map Tc.b = bs ∧ s.run = run ∧ s.left = left

section
variable {w w' : World} {L : Nat} {Ξ : Xw} {R : Nat} {zs : List Zc} {bs : List Nat} {m m' : Nat} {σ σ' : Sg} {run : Option Nat} {left : Nat} {lab lab' : Lb}
theorem Wd.lt (h : Wd w L Ξ R zs bs m σ run left lab) : ∀ k l, lab k = some l → k < w.heap.size := by
  obtain ⟨a, s, A, K, h, _⟩ := h.ex
  exact h.lt'

theorem Wd.ok (h : Wd w L Ξ R zs bs m σ run left lab) : Sok σ := by
  obtain ⟨a, s, A, K, h, _⟩ := h.ex
  exact h.ok

/-- Boxes that nobody turns are kept. -/
theorem Wd.boxes (h : Wd w L Ξ R zs bs m σ run left lab) (hL : L ≤ w.heap.size) (hb : Below w.heap.size w w') {N : Nat → Prop} (hN : ∀ k, N k → w.heap.size ≤ k ∧ k < w'.heap.size) :
    Wd w' L Ξ R zs bs m σ run left (relab lab .fz (fun k => lab k = some .fz ∨ N k)) ∧ Wy w lab w' (relab lab .fz (fun k => lab k = some .fz ∨ N k)) := by
  obtain ⟨a, s, A, K, h, q⟩ := h.ex
  obtain ⟨h1, h2⟩ := h.boxes hL hb hN
  exact ⟨⟨a, s, A, K, h1, q⟩, h2⟩

theorem fr_claim {N : Nat → Prop} (hN : ∀ k, N k → lab k = none) :
    (∀ k l, l ≠ .fz → (relab lab .fz (fun k => lab k = some .fz ∨ N k) k = some l ↔ lab k = some l)) ∧ (∀ k, relab lab .fz (fun k => lab k = some .fz ∨ N k) k = some .fz ↔ lab k = some .fz ∨ N k) :=
  ⟨fun _ _ hl => relab_other (fun k hk => hk.imp id (hN k)) hl, fun _ => relab_same⟩
theorem Wd.claim (h : Wd w L Ξ R zs bs m σ run left lab) {N : Nat → Prop} (hN : ∀ k, N k → lab k = none ∧ L ≤ k ∧ k < w.heap.size) : Wd w L Ξ R zs bs m σ run left (relab lab .fz (fun k => lab k = some .fz ∨ N k)) := by
  obtain ⟨a, s, A, K, h, q⟩ := h.ex
  obtain ⟨e1, e2⟩ := fr_claim (fun k hk => (hN k hk).1)
  have hsub : ∀ k, Fz lab k → Fz (relab lab .fz (fun k => lab k = some .fz ∨ N k)) k := fun k hk => (e2 k).2 (.inl hk)
  refine ⟨a, s, A, K, ⟨Ξ.keep h.ex (fun k l hl hk => ⟨?_, rfl⟩) (Nat.le_refl _), h.rt, fun k hk => (e1 k _ (by simp)).2 (h.lr k hk), (e1 _ _ (by simp)).2 h.lq, fun k l hk => ?_, fun j z c hz hc => ⟨(h.ch j z c hz hc).1, (h.ch j z c hz hc).2.1, (h.ch j z c hz hc).2.2.iff (fun k => e1 k _ (by simp))⟩, h.cn, h.ha, h.ln, h.len, fun i t p ht hp => (h.cl i t p ht hp).keep (fun _ _ => rfl) hsub (fun k hk => ⟨(e1 k _ (by simp)).2 hk, rfl, rfl⟩) h.lt', h.ok⟩, q⟩
  · rcases hl with rfl | rfl | rfl | rfl | rfl
    · exact (e1 k _ (by simp)).2 hk
    · exact (e1 k _ (by simp)).2 hk
    · exact (e1 k _ (by simp)).2 hk
    · exact (e1 k _ (by simp)).2 hk
    · exact hsub k hk
  · by_cases hl : l = .fz
    · subst hl
      rcases (e2 k).1 hk with h1 | h1
      · exact h.lo k _ h1
      · exact (hN k h1).2
    · exact h.lo k l ((e1 k l hl).1 hk)

/-- A task that waits is served, its channel turned ahead. -/
theorem Wm.sv {a : Ad} {s : Rs} {A : Nat → Bool} {K : Nat → Pkr} (h : Wm w L Ξ a s A zs m K σ lab) (hL : L ≤ w.heap.size) {i : Nat} (hil : i < σ.tk.length) (hst : (σ.p i).st = 3) (hnw : i ∉ σ.wts) (v0 v : Int) (ok : Bool) :
    Calls Tryz.prog 82 #[.agg #[.pointer (pkw (K i).k v0 (K i).th (K i).sv).tk, .int .i64 (pkw (K i).k v0 (K i).th (K i).sv).val, (pkw (K i).k v0 (K i).th (K i).sv).told], .int .i64 v, .bool ok] w fun e w' => e = .returned (.tuple #[]) ∧ ∃ a' s' A' lab', Wm w' L Ξ a' s' A' zs m K (σ.gets i (0, if (σ.p i).rc then v else 0, ok)) lab' ∧ Wy w lab w' lab' ∧ a'.R = a.R ∧ s'.ts.map Tc.b = s.ts.map Tc.b ∧ s'.run = s.run ∧ s'.left = s.left ∧ A' = fire A (K i).k ∧ Kv w A w' A' ∧ A (K i).k = true := by
  have hp := of_p hil
  have hl2 : i < s.ts.length := by rw [h.len]; exact hil
  have hi : s.ts[i]? = some s.ts[i] := List.getElem?_eq_getElem hl2
  generalize s.ts[i] = t at hi
  obtain ⟨h1, h2, hpk, hgo, l1, l2, l3, l4, l5, hA⟩ := (h.cl i t _ hi hp).r3 hst
  have hno : ∀ j l, lab j = some l → l ≠ .rt → l ≠ .q → ¬ own a s j ∧ j ≠ a.Q := fun j l hj n1 n2 => ⟨fun e => by
    have := h.lr j e
    rw [hj] at this
    exact n1 (Option.some.inj this), fun e => by
    subst e
    rw [h.lq] at hj
    exact n2 (Option.some.inj hj).symm⟩
  refine (serve_parked h.rt hi h2 hpk (fun j hj => ?_) v0 v ok).mono ?_
  · rcases hj with rfl | rfl | rfl | rfl | rfl
    · exact hno _ _ l1 (by simp) (by simp)
    · exact hno _ _ l2 (by simp) (by simp)
    · exact hno _ _ l3 (by simp) (by simp)
    · exact hno _ _ l4 (by simp) (by simp)
    · exact hno _ _ l5 (by simp) (by simp)
  · rintro e w' ⟨rfl, hs⟩
    obtain ⟨a', w1, w2, lab', hw, hy, hkv, eR⟩ := h.serves hL hi hp hst hnw hs
    exact ⟨rfl, a', _, _, lab', hw, hy, eR, map_set hi rfl, rfl, rfl, rfl, hkv, hA⟩

end
end Go.Proofs.YtgjpbekmkhanhaaGreat.CG

/-
  Values are sent and received, now.
-/
namespace Go.Proofs.YtgjpbekmkhanhaaGreat.CG
open Go.RowKit QW CH
set_option maxRecDepth 100000
set_option linter.unusedSimpArgs false
set_option linter.unusedVariables false

section
variable {w w' : World} {L : Nat} {Ξ : Xw} {R : Nat} {zs : List Zc} {bs : List Nat} {m m' : Nat} {σ σ' : Sg} {run : Option Nat} {left : Nat} {lab lab' : Lb}
theorem wsendNow (h : Wd w L Ξ R zs bs m σ run left lab) (hL : L ≤ w.heap.size) {j : Nat} {z : Zc} (hz : zs[j]? = some z) (hcan : (σ.c j).canS = true) (v : Int) :
    Calls Tryz.prog 71 #[.pointer (some ⟨z.C, 0, none⟩), .int .i64 v] w fun e w' => e = .returned (.bool (σ.send j v).1) ∧ ∃ lab', Wd w' L Ξ R zs bs m (σ.send j v).2 run left lab' ∧ Wy w lab w' lab' := by
  obtain ⟨a, s, A, K, h, q1, q2, q3, q4⟩ := h.ex
  have hjl : j < σ.ch.length := by rw [← h.cn]; exact (List.getElem?_eq_some_iff.1 hz).1
  have hc := of_c hjl
  obtain ⟨hzr, hzs, hch⟩ := h.ch j z _ hz hc
  have hbf := h.ok.bf j _ hc
  unfold Sg.send
  generalize hcc : σ.c j = c at *
  cases hcl : c.cl with
  | true =>
    rw [if_pos rfl]
    refine (sendNow_closed hch hcl).mono ?_
    rintro e w' ⟨rfl, rfl⟩
    exact ⟨rfl, lab, ⟨a, s, A, K, h, q1, q2, q3, q4⟩, ⟨Tb.refl _ _, fun _ hk => .inl hk, fun _ hk => ⟨hk, rfl⟩⟩⟩
  | false =>
    rw [if_neg (by simp)]
    cases hr : c.rcv with
    | nil =>
      have hlt : c.buf.length < c.sz := by simpa [Cz.canS, hcl, hr] using hcan
      refine (sendNow_buf (v := v) hch hcl (by simp [mem, hr]) (by show c.buf.length < 200; omega)).mono ?_
      rintro e w' ⟨rfl, D', hd, x⟩
      have hok := h.ok.setc (d := { c with buf := c.buf ++ [v] }) hc (List.Sublist.refl _) (List.Sublist.refl _) (by simp; omega) rfl
      obtain ⟨hw, hy⟩ := h.chan hL (d := { c with buf := c.buf ++ [v] }) hz hc hd (Nat.le_refl _) x rfl hok
      have e5 : ({ c with buf := c.buf ++ [v] } : Cz) = ⟨c.sz, false, c.buf ++ [v], c.snd, []⟩ := by rw [← hcl, ← hr]
      rw [e5] at hw
      refine ⟨rfl, _, ⟨a, s, A, K, ?_, q1, q2, q3, q4⟩, hy⟩
      simpa only [hcl, hr] using hw
    | cons i r =>
      refine sendNow_serve (v := v) hch hcl (y := pkw (K i).k 0 (K i).th (K i).sv) (r := r.map fun i => pkw (K i).k 0 (K i).th (K i).sv) (by simp [mem, hr]) (fun V D' hd x => ?_)
      have hok := h.ok.setc (d := { c with rcv := r }) hc (List.Sublist.refl _) (by rw [hr]; exact List.sublist_cons_self i r) hbf.1 rfl
      obtain ⟨hw, hy⟩ := h.chan hL (d := { c with rcv := r }) hz hc hd (Nat.le_refl _) x rfl hok
      have hmem : i ∈ c.wts := List.mem_append_right _ (by rw [hr]; simp)
      obtain ⟨g1, g2, g3⟩ := h.ok.rc j c hc i (by rw [hr]; simp)
      have hni : i ∉ (σ.setc j { c with rcv := r }).wts := not_wts h.ok.nd hc (by
        simp only [Cz.wts, hr]
        exact List.perm_middle)
      refine (hw.sv (Nat.le_trans hL x.tb.size) (i := i) (by simpa [Sg.setc] using g3) (by simpa [Sg.setc, Sg.p] using g1) hni 0 v true).mono ?_
      rintro e w' ⟨rfl, a', s', A', lab', hw', hy', z1, z2, z3, z4, _⟩
      refine ⟨rfl, lab', ⟨a', s', A', K, ?_, z1.trans q1, z2.trans q2, z3.trans q3, z4.trans q4⟩, hy.trans hy'⟩
      have e6 : ((σ.setc j { c with rcv := r }).p i).rc = true := by simpa [Sg.setc, Sg.p] using g2
      rw [e6, if_pos rfl] at hw'
      simpa only [hcl] using hw'

theorem wrecvNow (h : Wd w L Ξ R zs bs m σ run left lab) (hL : L ≤ w.heap.size) {j : Nat} {z : Zc} (hz : zs[j]? = some z) :
    Calls Tryz.prog 77 #[.pointer (some ⟨z.C, 0, none⟩)] w fun e w' => e = .returned (.tuple #[.int .i64 (σ.recv j).1, .bool (σ.recv j).2.1]) ∧ ∃ lab', Wd w' L Ξ R zs bs m (σ.recv j).2.2 run left lab' ∧ Wy w lab w' lab' := by
  obtain ⟨a, s, A, K, h, q1, q2, q3, q4⟩ := h.ex
  have hjl : j < σ.ch.length := by rw [← h.cn]; exact (List.getElem?_eq_some_iff.1 hz).1
  have hc := of_c hjl
  obtain ⟨hzr, hzs, hch⟩ := h.ch j z _ hz hc
  have hbf := h.ok.bf j _ hc
  unfold Sg.recv
  generalize hcc : σ.c j = c at *
  cases hr : c.snd with
  | nil =>
    refine (recvNow_buf hch (by simp [mem, hr])).mono ?_
    rintro e w' ⟨rfl, D', hd, x⟩
    have hok := h.ok.setc (d := { c with buf := c.buf.tail }) hc (List.Sublist.refl _) (List.Sublist.refl _) (by simp; omega) rfl
    obtain ⟨hw, hy⟩ := h.chan hL (d := { c with buf := c.buf.tail }) hz hc hd (Nat.le_refl _) x rfl hok
    refine ⟨rfl, _, ⟨a, s, A, K, ?_, q1, q2, q3, q4⟩, hy⟩
    simpa only [hr] using hw
  | cons y r =>
    obtain ⟨i, x0⟩ := y
    refine recvNow_serve hch (y := pkw (K i).k x0 (K i).th (K i).sv) (r := r.map fun x => pkw (K x.1).k x.2 (K x.1).th (K x.1).sv) (by simp [mem, hr]) (by show c.buf.length < 200; omega) (fun V D' hd x => ?_)
    have hok := h.ok.setc (d := { c with buf := (c.buf ++ [x0]).tail, snd := r }) hc (by rw [hr]; exact List.sublist_cons_self _ r) (List.Sublist.refl _) (by simp; omega) rfl
    obtain ⟨hw, hy⟩ := h.chan hL (d := { c with buf := (c.buf ++ [x0]).tail, snd := r }) hz hc hd (Nat.le_refl _) x rfl hok
    obtain ⟨g1, g2, g3⟩ := h.ok.sn j c hc (i, x0) (by rw [hr]; simp)
    have hni : i ∉ (σ.setc j { c with buf := (c.buf ++ [x0]).tail, snd := r }).wts := not_wts h.ok.nd hc (by
      simp only [Cz.wts, hr]
      exact List.Perm.refl _)
    refine (hw.sv (Nat.le_trans hL x.tb.size) (i := i) (by simpa [Sg.setc] using g3) (by simpa [Sg.setc, Sg.p] using g1) hni x0 x0 true).mono ?_
    rintro e w' ⟨rfl, a', s', A', lab', hw', hy', z1, z2, z3, z4, _⟩
    refine ⟨rfl, lab', ⟨a', s', A', K, ?_, z1.trans q1, z2.trans q2, z3.trans q3, z4.trans q4⟩, hy.trans hy'⟩
    have e6 : ((σ.setc j { c with buf := (c.buf ++ [x0]).tail, snd := r }).p i).rc = false := by simpa [Sg.setc, Sg.p] using g2
    rw [e6, if_neg (by simp)] at hw'
    exact hw'

end
end Go.Proofs.YtgjpbekmkhanhaaGreat.CG

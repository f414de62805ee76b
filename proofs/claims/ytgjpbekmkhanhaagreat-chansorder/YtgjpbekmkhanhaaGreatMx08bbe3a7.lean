/-
  Texts put into one.
-/
import Derived.Test.YtgjpbekmkhanhaaGreatMxde11e230
import Derived.Test.YtgjpbekmkhanhaaGreatMx57c4ec58
import Derived.Test.YtgjpbekmkhanhaaGreatMx39e1dcd8
import Derived.Test.YtgjpbekmkhanhaaGreatMx7aa6455e

/-
  A task yields.
-/
namespace Go.Proofs.YtgjpbekmkhanhaaGreat.CG
open Go.RowKit QW CH
set_option maxRecDepth 100000
set_option linter.unusedSimpArgs false
set_option linter.unusedVariables false

section
variable {w w' : World} {L : Nat} {Ξ : Xw} {R : Nat} {zs : List Zc} {bs : List Nat} {m m' : Nat} {σ σ' : Sg} {run : Option Nat} {left : Nat} {lab lab' : Lb}
/-- A channel that was asked stands as it stood. -/
theorem Wm.below {a : Ad} {s : Rs} {A : Nat → Bool} {K : Nat → Pkr} (h : Wm w L Ξ a s A zs m K σ lab) (hL : L ≤ w.heap.size) (hb : Below w.heap.size w w') : ∃ lab', Wm w' L Ξ a s A zs m K σ lab' ∧ Wy w lab w' lab' :=
  ⟨_, h.boxes hL hb (N := fun _ => False) (fun _ e => e.elim)⟩
theorem Wd.below (h : Wd w L Ξ R zs bs m σ run left lab) (hL : L ≤ w.heap.size) (hb : Below w.heap.size w w') : ∃ lab', Wd w' L Ξ R zs bs m σ run left lab' ∧ Wy w lab w' lab' :=
  ⟨_, h.boxes hL hb (N := fun _ => False) (fun _ e => e.elim)⟩
theorem Wm.quiet {a : Ad} {s : Rs} {A : Nat → Bool} {K : Nat → Pkr} (h : Wm w L Ξ a s A zs m K σ lab) (hL : L ≤ w.heap.size) {j : Nat} {z : Zc} (hz : zs[j]? = some z) {D' : Nat → Prop} (hd : Ch w' A z m (mem K (σ.c j)) D') (x : Lx w (fun k => lab k = some (.ch j)) w' D') :
    Wm w' L Ξ a s A zs m K σ (relab lab (.ch j) D') ∧ Wy w lab w' (relab lab (.ch j) D') := by
  have hjl : j < σ.ch.length := by rw [← h.cn]; exact (List.getElem?_eq_some_iff.1 hz).1
  have hc := of_c hjl
  have := h.chan hL (d := σ.c j) hz hc hd (Nat.le_refl _) x rfl (by rw [setc_same hc]; exact h.ok)
  rwa [setc_same hc] at this

/-- A task that runs, in memory. -/
theorem Wm.runs {a : Ad} {s : Rs} {A : Nat → Bool} {K : Nat → Pkr} (h : Wm w L Ξ a s A zs m K σ lab) {i : Nat} {p : Pt} (hp : σ.tk[i]? = some p) (hst : p.st = 2) : ∃ t, s.ts[i]? = some t ∧ s.run = some i ∧ t.nx = .nilFunc ∧ t.wk = .nilFunc ∧ t.goes = false := by
  have hil : i < s.ts.length := by rw [h.len]; exact (List.getElem?_eq_some_iff.1 hp).1
  have hi : s.ts[i]? = some s.ts[i] := List.getElem?_eq_getElem hil
  obtain ⟨h1, h2, h3⟩ := (h.cl i _ p hi hp).r2 hst
  exact ⟨_, hi, h1, h2, h3, by simp [Tc.goes, h2, h3, on]⟩

/-- A task that runs says that it yields. -/
theorem wyield (h : Wd w L Ξ R zs bs m σ run left lab) (hL : L ≤ w.heap.size) {i b : Nat} {p : Pt} (hp : σ.tk[i]? = some p) (hst : p.st = 2) (hb : bs[i]? = some b) {f : Fn} {xs ys : Array Value} {td : Tld} (hv : Go0 (Fz lab) w (.func f xs ys) (Ξ.QT b i p.at' td)) :
    Calls Tryz.prog 72 #[.pointer (some ⟨b, 0, none⟩), .func f xs ys] w fun e w' => e = .returned (.int .i64 0) ∧ ∃ lab', Wd w' L Ξ R zs bs m (σ.gets i td) run left lab' ∧ Wy w lab w' lab' := by
  obtain ⟨a, s, A, K, h, q1, q2, q3, q4⟩ := h.ex
  obtain ⟨t, hi, hr, hnx, hwk, hg⟩ := h.runs hp hst
  obtain rfl : t.b = b := by
    rw [← q2, List.getElem?_map, hi] at hb
    simpa using hb
  refine (yield_yes h.rt hi hr hg f xs ys).mono ?_
  rintro e w' ⟨rfl, a', hrp⟩
  obtain ⟨h1, h2⟩ := h.yields hL hi hp (by omega) hv hwk hrp
  exact ⟨rfl, _, ⟨a', _, A, K, h1, hrp.x.R.trans q1, (map_set (u := { t with nx := .func f xs ys }) hi rfl).trans q2, q3, q4⟩, h2⟩

end
end Go.Proofs.YtgjpbekmkhanhaaGreat.CG

/-
  A task sends, receives.
-/
namespace Go.Proofs.YtgjpbekmkhanhaaGreat.CG
open Go.RowKit QW CH
set_option maxRecDepth 100000
set_option linter.unusedSimpArgs false
set_option linter.unusedVariables false

section
variable {w w' : World} {L : Nat} {Ξ : Xw} {R : Nat} {zs : List Zc} {bs : List Nat} {m m' : Nat} {σ σ' : Sg} {run : Option Nat} {left : Nat} {lab lab' : Lb}
theorem Wd.mono (h : Wd w L Ξ R zs bs m σ run left lab) (hm : m ≤ m') : Wd w L Ξ R zs bs m' σ run left lab := by
  obtain ⟨a, s, A, K, h, q⟩ := h.ex
  exact ⟨a, s, A, K, ⟨h.ex, h.rt, h.lr, h.lq, h.lo, fun j z c hz hc => ⟨(h.ch j z c hz hc).1, (h.ch j z c hz hc).2.1, (h.ch j z c hz hc).2.2.mono hm⟩, h.cn, h.ha, h.ln, h.len, h.cl, h.ok⟩, q⟩

theorem Wm.apart {a : Ad} {s : Rs} {A : Nat → Bool} {K : Nat → Pkr} (h : Wm w L Ξ a s A zs m K σ lab) {k : Nat} {l : Lab} (hk : lab k = some l) (n1 : l ≠ .rt) (n2 : l ≠ .q) : ¬ own a s k ∧ k ≠ a.Q :=
  ⟨fun e => by
    have := h.lr k e
    rw [hk] at this
    exact n1 (Option.some.inj this), fun e => by
    subst e
    rw [h.lq] at hk
    exact n2 (Option.some.inj hk).symm⟩

theorem wsend (h : Wd w L Ξ R zs bs m σ run left lab) (hL : L ≤ w.heap.size) {i b j : Nat} {p : Pt} {z : Zc} (hp : σ.tk[i]? = some p) (hst : p.st = 2) (hb : bs[i]? = some b) (hz : zs[j]? = some z) (hm : m + 1 < Mx) (v : Int) {f : Fn} {fr fc : Array Value} (hf : Go1 (Fz lab) w (.func f fr fc) (fun ok => Ξ.QT b i p.at' (0, 0, ok))) :
    Calls Tryz.prog 26 #[.pointer (some ⟨b, 0, none⟩), .pointer (some ⟨z.C, 0, none⟩), .int .i64 v, .func f fr fc] w fun e w' => e = .returned (.int .i64 0) ∧ ∃ lab', Wd w' L Ξ R zs bs (m + 1) (if (σ.c j).canS then (σ.send j v).2.gets i (0, 0, (σ.send j v).1) else σ.waitS i j v) run left lab' ∧ Wy w lab w' lab' := by
  obtain ⟨a, s, A, K, hw, q1, q2, q3, q4⟩ := h.ex
  obtain ⟨t, hi, hr, hnx, hwk, hg⟩ := hw.runs hp hst
  obtain rfl : t.b = b := by
    rw [← q2, List.getElem?_map, hi] at hb
    simpa using hb
  have hjl : j < σ.ch.length := by rw [← hw.cn]; exact (List.getElem?_eq_some_iff.1 hz).1
  have hc := of_c hjl
  obtain ⟨hzr, hzs, hch⟩ := hw.ch j z _ hz hc
  cases hcan : (σ.c j).canS with
  | true =>
    rw [if_pos rfl]
    refine send_now hw.rt hi hr hg hch hzr (by rw [mem_canS hzs]; exact hcan) (v := v) (b := (σ.send j v).1) (fun V D' hd x hbox hnD => ?_)
    obtain ⟨w1, y1⟩ := hw.quiet hL hz hd x
    have hl1 : relab lab (.ch j) D' w.heap.size = none := by
      unfold relab
      rw [if_neg hnD, hw.fresh (Nat.le_refl _)]
      simp
    have h1 : Wd V L Ξ R zs bs m σ run left (relab lab (.ch j) D') := ⟨a, s, A, K, w1, q1, q2, q3, q4⟩
    have h2 := h1.claim (N := fun k => k = w.heap.size) (fun k hk => by subst hk; exact ⟨hl1, hL, heap_lt hbox⟩)
    have y2 := y1.claim (N := fun k => k = w.heap.size) (fun k hk => by subst hk; exact Nat.le_refl _)
    have hn2 : relab (relab lab (.ch j) D') .fz (fun k => relab lab (.ch j) D' k = some .fz ∨ k = w.heap.size) w.heap.size = some .fz := relab_same.2 (.inr rfl)
    generalize relab (relab lab (.ch j) D') .fz (fun k => relab lab (.ch j) D' k = some .fz ∨ k = w.heap.size) = l2 at *
    refine (wsendNow h2 (Nat.le_trans hL y2.tb.size) hz hcan v).mono ?_
    rintro e w2 ⟨rfl, l3, h3, y3⟩
    have hz3 := (y2.trans y3).tb.size
    obtain ⟨h4, y4⟩ := h3.boxes (Nat.le_trans hL hz3) (w' := w2.alloc (.cells #[.bool (σ.send j v).1] 4)) ((Below.refl _ w2).alloc (Nat.le_refl _) _) (N := fun k => k = w2.heap.size) (fun k hk => by subst hk; exact ⟨Nat.le_refl _, by simp⟩)
    have hg4 : relab l3 .fz (fun k => l3 k = some .fz ∨ k = w2.heap.size) w2.heap.size = some .fz := relab_same.2 (.inr rfl)
    generalize relab l3 .fz (fun k => l3 k = some .fz ∨ k = w2.heap.size) = l4 at *
    have y := (y2.trans y3).trans y4
    have hn4 : l4 w.heap.size = some .fz := (y4.fz _ (y3.fz _ hn2).1).1
    have hbn : (w2.alloc (.cells #[.bool (σ.send j v).1] 4)).heap[w.heap.size]? = some (.cells #[.func f fr fc] (67 : TypeId) (0, 0)) := y4.keep1 (y3.fz _ hn2).1 (y3.keep1 hn2 hbox)
    have hnx1 := nx_send1 (hf.keep y.agr y.sub) hn4 hg4 hbn (heap_alloc_new w2 _)
    refine ⟨rfl, (wyield h4 (Nat.le_trans hL y.tb.size) (send_tk h.ok hp hst hjl v) hst hb hnx1).mono ?_⟩
    rintro e w' ⟨rfl, l5, h5, y5⟩
    exact ⟨rfl, l5, h5.mono (by omega), y.trans y5⟩
  | false =>
    rw [if_neg (by simp)]
    have hnw : i ∉ σ.wts := fun e => by
      have := (h.ok.st3 e).1
      rw [p_of hp, hst] at this
      cases this
    have hil := (List.getElem?_eq_some_iff.1 hp).1
    refine (send_park hw.rt hi hr hg hch hzr (by rw [mem_canS hzs]; exact hcan) hm (fun k hk => hw.apart hk (by simp) (by simp)) hw.ha v f fr fc).mono ?_
    rintro e w' ⟨rfl, hpk, hbn⟩
    have hpd : ({ σ.p i with st := 3, rc := false } : Pt) = { p with st := 3, rc := false } := by rw [p_of hp]
    have hok := h.ok.waitS hil hjl hnw v
    have hkey := hw.parks hL hi hp hst hz hc false (d := { σ.c j with snd := (σ.c j).snd ++ [(i, v)] }) hpk (fun r => ?_) rfl (by rw [← hpd]; exact hok) (fun k => k = w.heap.size) (fun k hk => by subst hk; exact ⟨Nat.le_refl _, _, hbn⟩) (fun lab' h1 h2 h3 => ?_)
    · obtain ⟨s', K', lab', hw', hy, e1, e2, e3⟩ := hkey
      rw [← hpd] at hw'
      exact ⟨rfl, lab', ⟨a, s', A, K', hw', q1, e1.trans q2, e2.trans q3, e3.trans q4⟩, hy⟩
    · have hu : ∀ x ∈ (σ.c j).wts, upd K i r x = K x := fun x hx => by
        have : x ≠ i := fun e => hnw (e ▸ mem_wts.2 ⟨j, _, hc, hx⟩)
        simp [upd, this]
      simp only [mem, List.map_append, List.map_cons, List.map_nil]
      have e1 : (σ.c j).snd.map (fun x => pkw (upd K i r x.1).k x.2 (upd K i r x.1).th (upd K i r x.1).sv) = (σ.c j).snd.map (fun x => pkw (K x.1).k x.2 (K x.1).th (K x.1).sv) := List.map_congr_left (fun x hx => by rw [hu x.1 (List.mem_append_left _ (List.mem_map_of_mem hx))])
      have e2 : (σ.c j).rcv.map (fun x => pkw (upd K i r x).k 0 (upd K i r x).th (upd K i r x).sv) = (σ.c j).rcv.map (fun x => pkw (K x).k 0 (K x).th (K x).sv) := List.map_congr_left (fun x hx => by rw [hu x (List.mem_append_right _ hx)])
      rw [e1, e2]
      simp [upd]
    · exact go_send2 (hf.keep h3 h1) (h2 _ rfl) hbn

theorem wrecv (h : Wd w L Ξ R zs bs m σ run left lab) (hL : L ≤ w.heap.size) {i b j : Nat} {p : Pt} {z : Zc} (hp : σ.tk[i]? = some p) (hst : p.st = 2) (hb : bs[i]? = some b) (hz : zs[j]? = some z) (hm : m + 1 < Mx) {f : Fn} {fr fc : Array Value} (hf : Go2 (Fz lab) w (.func f fr fc) (fun v ok => Ξ.QT b i p.at' (0, v, ok))) :
    Calls Tryz.prog 27 #[.pointer (some ⟨b, 0, none⟩), .pointer (some ⟨z.C, 0, none⟩), .func f fr fc] w fun e w' => e = .returned (.int .i64 0) ∧ ∃ lab', Wd w' L Ξ R zs bs (m + 1) (if (σ.c j).canR then (σ.recv j).2.2.gets i (0, (σ.recv j).1, (σ.recv j).2.1) else σ.waitR i j) run left lab' ∧ Wy w lab w' lab' := by
  obtain ⟨a, s, A, K, hw, q1, q2, q3, q4⟩ := h.ex
  obtain ⟨t, hi, hr, hnx, hwk, hg⟩ := hw.runs hp hst
  obtain rfl : t.b = b := by
    rw [← q2, List.getElem?_map, hi] at hb
    simpa using hb
  have hjl : j < σ.ch.length := by rw [← hw.cn]; exact (List.getElem?_eq_some_iff.1 hz).1
  have hc := of_c hjl
  obtain ⟨hzr, hzs, hch⟩ := hw.ch j z _ hz hc
  cases hcan : (σ.c j).canR with
  | true =>
    rw [if_pos rfl]
    refine recv_now hw.rt hi hr hg hch hzr (by rw [mem_canR]; exact hcan) (fun V D' hd x hbox hnD => ?_)
    obtain ⟨w1, y1⟩ := hw.quiet hL hz hd x
    have hl1 : relab lab (.ch j) D' w.heap.size = none := by
      unfold relab
      rw [if_neg hnD, hw.fresh (Nat.le_refl _)]
      simp
    have h1 : Wd V L Ξ R zs bs m σ run left (relab lab (.ch j) D') := ⟨a, s, A, K, w1, q1, q2, q3, q4⟩
    have h2 := h1.claim (N := fun k => k = w.heap.size) (fun k hk => by subst hk; exact ⟨hl1, hL, heap_lt hbox⟩)
    have y2 := y1.claim (N := fun k => k = w.heap.size) (fun k hk => by subst hk; exact Nat.le_refl _)
    have hn2 : relab (relab lab (.ch j) D') .fz (fun k => relab lab (.ch j) D' k = some .fz ∨ k = w.heap.size) w.heap.size = some .fz := relab_same.2 (.inr rfl)
    generalize relab (relab lab (.ch j) D') .fz (fun k => relab lab (.ch j) D' k = some .fz ∨ k = w.heap.size) = l2 at *
    refine (wrecvNow h2 (Nat.le_trans hL y2.tb.size) hz).mono ?_
    rintro e w2 ⟨rfl, l3, h3, y3⟩
    have hz3 := (y2.trans y3).tb.size
    have hsz : (w2.alloc (.cells #[.int .i64 (σ.recv j).1] 3)).heap.size = w2.heap.size + 1 := by simp
    have hbb : Below w2.heap.size w2 ((w2.alloc (.cells #[.int .i64 (σ.recv j).1] 3)).alloc (.cells #[.bool (σ.recv j).2.1] 4)) := ((Below.refl _ w2).alloc (Nat.le_refl _) _).alloc (by simp) _
    obtain ⟨h4, y4⟩ := h3.boxes (Nat.le_trans hL hz3) hbb (N := fun k => k = w2.heap.size ∨ k = w2.heap.size + 1) (fun k hk => by
      rcases hk with rfl | rfl
      · exact ⟨Nat.le_refl _, by simp; omega⟩
      · exact ⟨by omega, by simp⟩)
    have hg4 : relab l3 .fz (fun k => l3 k = some .fz ∨ (k = w2.heap.size ∨ k = w2.heap.size + 1)) w2.heap.size = some .fz := relab_same.2 (.inr (.inl rfl))
    have hg5 : relab l3 .fz (fun k => l3 k = some .fz ∨ (k = w2.heap.size ∨ k = w2.heap.size + 1)) (w2.heap.size + 1) = some .fz := relab_same.2 (.inr (.inr rfl))
    generalize relab l3 .fz (fun k => l3 k = some .fz ∨ (k = w2.heap.size ∨ k = w2.heap.size + 1)) = l4 at *
    have y := (y2.trans y3).trans y4
    have hn4 : l4 w.heap.size = some .fz := (y4.fz _ (y3.fz _ hn2).1).1
    have hbn : ((w2.alloc (.cells #[.int .i64 (σ.recv j).1] 3)).alloc (.cells #[.bool (σ.recv j).2.1] 4)).heap[w.heap.size]? = some (.cells #[.func f fr fc] (68 : TypeId) (0, 0)) := y4.keep1 (y3.fz _ hn2).1 (y3.keep1 hn2 hbox)
    have he1 : ((w2.alloc (.cells #[.int .i64 (σ.recv j).1] 3)).alloc (.cells #[.bool (σ.recv j).2.1] 4)).heap[w2.heap.size]? = some (.cells #[.int .i64 (σ.recv j).1] 3 (0, 0)) := by
      rw [heap_alloc_old _ _ (by simp)]
      exact heap_alloc_new w2 _
    have he2 : ((w2.alloc (.cells #[.int .i64 (σ.recv j).1] 3)).alloc (.cells #[.bool (σ.recv j).2.1] 4)).heap[w2.heap.size + 1]? = some (.cells #[.bool (σ.recv j).2.1] 4 (0, 0)) := by
      rw [← hsz]
      exact heap_alloc_new _ _
    have hnx1 := nx_recv1 (hf.keep y.agr y.sub) hn4 hg4 hg5 hbn he1 he2
    refine ⟨_, _, rfl, (wyield h4 (Nat.le_trans hL y.tb.size) (recv_tk h.ok hp hst hjl) hst hb hnx1).mono ?_⟩
    rintro e w' ⟨rfl, l5, h5, y5⟩
    exact ⟨rfl, l5, h5.mono (by omega), y.trans y5⟩
  | false =>
    rw [if_neg (by simp)]
    have hnw : i ∉ σ.wts := fun e => by
      have := (h.ok.st3 e).1
      rw [p_of hp, hst] at this
      cases this
    have hil := (List.getElem?_eq_some_iff.1 hp).1
    refine (recv_park hw.rt hi hr hg hch hzr (by rw [mem_canR]; exact hcan) hm (fun k hk => hw.apart hk (by simp) (by simp)) hw.ha f fr fc).mono ?_
    rintro e w' ⟨rfl, hpk⟩
    have hpd : ({ σ.p i with st := 3, rc := true } : Pt) = { p with st := 3, rc := true } := by rw [p_of hp]
    have hok := h.ok.waitR hil hjl hnw
    have hkey := hw.parks hL hi hp hst hz hc true (d := { σ.c j with rcv := (σ.c j).rcv ++ [i] }) hpk (fun r => ?_) rfl (by rw [← hpd]; exact hok) (fun _ => False) (fun k hk => hk.elim) (fun lab' h1 h2 h3 => ?_)
    · obtain ⟨s', K', lab', hw', hy, e1, e2, e3⟩ := hkey
      rw [← hpd] at hw'
      exact ⟨rfl, lab', ⟨a, s', A, K', hw', q1, e1.trans q2, e2.trans q3, e3.trans q4⟩, hy⟩
    · have hu : ∀ x ∈ (σ.c j).wts, upd K i r x = K x := fun x hx => by
        have : x ≠ i := fun e => hnw (e ▸ mem_wts.2 ⟨j, _, hc, hx⟩)
        simp [upd, this]
      simp only [mem, List.map_append, List.map_cons, List.map_nil]
      have e1 : (σ.c j).snd.map (fun x => pkw (upd K i r x.1).k x.2 (upd K i r x.1).th (upd K i r x.1).sv) = (σ.c j).snd.map (fun x => pkw (K x.1).k x.2 (K x.1).th (K x.1).sv) := List.map_congr_left (fun x hx => by rw [hu x.1 (List.mem_append_left _ (List.mem_map_of_mem hx))])
      have e2 : (σ.c j).rcv.map (fun x => pkw (upd K i r x).k 0 (upd K i r x).th (upd K i r x).sv) = (σ.c j).rcv.map (fun x => pkw (K x).k 0 (K x).th (K x).sv) := List.map_congr_left (fun x hx => by rw [hu x (List.mem_append_right _ hx)])
      rw [e1, e2]
      simp [upd]
    · simpa using hf.keep h3 h1

end
end Go.Proofs.YtgjpbekmkhanhaaGreat.CG

/-
  A turn begins, is over.
-/
namespace Go.Proofs.YtgjpbekmkhanhaaGreat.CG
open Go.RowKit QW CH
set_option maxRecDepth 100000
set_option linter.unusedSimpArgs false
set_option linter.unusedVariables false

section
variable {w w' : World} {L : Nat} {Ξ : Xw} {a a' : Ad} {s s' : Rs} {A A' : Nat → Bool} {zs : List Zc} {m m' : Nat} {K K' : Nat → Pkr} {σ σ' : Sg} {lab lab' : Lb}
/-- The runtime alone was turned. -/
theorem Wm.rts (h : Wm w L Ξ a s A zs m K σ lab) (hL : L ≤ w.heap.size) (hr : Rp w a s w' a' s') (eT : s'.ts.map Tc.b = s.ts.map Tc.b) (ec : σ'.ch = σ.ch) (ee : σ'.ev = σ.ev) (el : s'.line = σ'.line) (en : σ'.tk.length = σ.tk.length)
    (cl' : ∀ j u q, s'.ts[j]? = some u → σ'.tk[j]? = some q → Tst lab w A Ξ s'.run j u q (K j)) (ok' : Sok σ') :
    Wm w' L Ξ a' s' A zs m K σ' (relab lab .rt (own a' s')) ∧ Wy w lab w' (relab lab .rt (own a' s')) := by
  have f := Fr.rt h (fun k hk => hr.x.own hk) hr.x.tb
  have hz := hr.x.tb.size
  have hkv : Kv w A w' A := Kv.tb A hr.x.tb (fun k f ht hk => by
    have h1 := own_ty h.rt.m hk ht
    revert h1
    decide)
  refine ⟨h.build f hL (fun e => by cases e) (fun e => by cases e) (fun e => by cases e) (fun e => by cases e) (fun e => by cases e) (fun k l hk => ?_) hr.rt hr.x.R hr.x.Q eT (fun k hk => relab_same.2 hk) ee (fun j z c hz hc => ?_) (by rw [ec]) (fun k hk => h.ha k (by omega)) el en (fun j u q hu hq => (cl' j u q hu hq).keep (f.wy h.lt').agr (f.wy h.lt').sub (fun k hk => ⟨(f.eq k _ (by simp) (by simp)).2 hk, f.blk h.lt' hk (by simp), rfl⟩) h.lt') ok', f.wy h.lt'⟩
  · by_cases hl : l = .rt
    · subst hl
      exact hr.rt.m.own_lt (relab_same.1 hk)
    · have hD : ∀ k, own a' s' k → lab k = some .rt ∨ lab k = none := fun k hk => (hr.x.own hk).imp (h.lr k) h.fresh
      have := h.lt' k l ((relab_other hD hl).1 hk); omega
  · rw [ec] at hc
    refine ⟨(h.ch j z c hz hc).1, (h.ch j z c hz hc).2.1, h.chK f hz hc (fun e => by cases e) hkv (fun i hi => ?_) (fun _ _ => rfl) (Nat.le_refl _)⟩
    obtain ⟨t, p, _, _, _, h4⟩ := h.waits (mem_wts.2 ⟨j, c, hc, hi⟩)
    exact h4

/-- The turn begins. -/
theorem Wm.begins (h : Wm w L Ξ a s A zs m K σ lab) (hL : L ≤ w.heap.size) {i j lf : Nat} {t : Tc} {p : Pt} (hi : s.ts[i]? = some t) (hp : σ.tk[i]? = some p) (hrun : s.run = none) (hs : p.st = 1) (hr : Rp w a s w' a' (s.begin i j ⟨t.b, .nilFunc, t.wk⟩ lf)) :
    Wm w' L Ξ a' (s.begin i j ⟨t.b, .nilFunc, t.wk⟩ lf) A zs m K (({ σ with line := σ.line.eraseIdx j } : Sg).put i ⟨p.at', 2, p.td, false⟩) (relab lab .rt (own a' (s.begin i j ⟨t.b, .nilFunc, t.wk⟩ lf))) ∧ Wy w lab w' (relab lab .rt (own a' (s.begin i j ⟨t.b, .nilFunc, t.wk⟩ lf))) := by
  have hil : i < σ.tk.length := (List.getElem?_eq_some_iff.1 hp).1
  have hnw : i ∉ σ.wts := fun e => by
    have := (h.ok.st3 e).1
    rw [p_of hp, hs] at this
    cases this
  refine h.rts hL hr (map_set hi rfl) rfl rfl (by simp [Rs.begin, Sg.put, h.ln]) (by simp [Sg.put]) (fun k u q hu hq => ?_) (h.ok.puts hnw rfl (by simp [Sg.put]) (fun k hk => ?_))
  · simp only [Rs.begin, get_set hi] at hu
    have hq' : (if k = i then some (⟨p.at', 2, p.td, false⟩ : Pt) else σ.tk[k]?) = some q := (put_get (σ := { σ with line := σ.line.eraseIdx j }) hp ⟨p.at', 2, p.td, false⟩ k).symm.trans hq
    have h1 := h.cl i t p hi hp
    by_cases e : k = i
    · subst e
      rw [if_pos rfl] at hu hq'
      cases hu
      cases hq'
      exact ⟨by simp, fun e => by simp at e, fun e => by simp at e, fun _ => ⟨rfl, rfl, (h1.r1 hs).2⟩, fun e => by simp at e⟩
    · rw [if_neg e] at hu hq'
      have h2 := h.cl k u q hu hq'
      exact ⟨h2.le, h2.r1, h2.r3, fun e2 => (by
        have := (h2.r2 e2).1
        rw [hrun] at this
        cases this), fun e0 => ⟨by simp only [Rs.begin, ne_eq, Option.some.injEq]; exact fun e' => e e'.symm, (h2.r0 e0).2⟩⟩
  · exact put_p (σ := { σ with line := σ.line.eraseIdx j }) hil _ k hk

/-- Behind the turn: who has said nothing is over. -/
theorem Wm.done (h : Wm w L Ξ a s A zs m K σ lab) (hL : L ≤ w.heap.size) {i : Nat} (hrun : s.run = some i) (hr : Rp w a s w' a s.done) :
    Wm w' L Ξ a s.done A zs m K (σ.fin i) (relab lab .rt (own a s.done)) ∧ Wy w lab w' (relab lab .rt (own a s.done)) := by
  have hi2 : i < s.ts.length := h.rt.ok.runs i hrun
  have hil : i < σ.tk.length := by rw [← h.len]; exact hi2
  have hp := of_p hil
  have hi : s.ts[i]? = some s.ts[i] := List.getElem?_eq_getElem hi2
  have h1 := h.cl i _ _ hi hp
  have e2 : ∀ k, (σ.fin i).tk[k]? = if k = i ∧ (σ.p i).st = 2 then some { σ.p i with st := 0 } else σ.tk[k]? := fun k => by
    unfold Sg.fin
    by_cases e : (σ.p i).st = 2
    · rw [if_pos e, put_get hp]
      simp [e]
    · rw [if_neg e]
      simp [e]
  have hch : (σ.fin i).ch = σ.ch := by unfold Sg.fin; split <;> rfl
  have hsame : ∀ k, k ≠ i → (σ.fin i).p k = σ.p k := fun k hk => by
    have := e2 k
    rw [if_neg (fun h => hk h.1)] at this
    simp [Sg.p, List.getD, this]
  have hlen : (σ.fin i).tk.length = σ.tk.length := by unfold Sg.fin; split <;> simp [Sg.put]
  refine h.rts hL hr rfl hch (by unfold Sg.fin; split <;> rfl) (by rw [show (σ.fin i).line = σ.line by unfold Sg.fin; split <;> rfl]; exact h.ln) hlen (fun k u q hu hq => ?_) ?_
  · rw [e2] at hq
    have hu' : s.ts[k]? = some u := hu
    by_cases e : k = i
    · subst e
      by_cases e3 : (σ.p k).st = 2
      · rw [if_pos ⟨rfl, e3⟩] at hq
        cases hq
        rw [hi] at hu'
        cases hu'
        exact ⟨by simp, fun e => by simp at e, fun e => by simp at e, fun e => by simp at e, fun _ => ⟨by simp [Rs.done], (h1.r2 e3).2⟩⟩
      · rw [if_neg (fun h => e3 h.2)] at hq
        have h2 := h.cl k u q hu' hq
        rw [hp] at hq
        cases hq
        exact ⟨h2.le, h2.r1, h2.r3, fun e => absurd e e3, fun e0 => absurd hrun (h2.r0 e0).1⟩
    · rw [if_neg (fun h => e h.1)] at hq
      have h2 := h.cl k u q hu' hq
      exact ⟨h2.le, h2.r1, h2.r3, fun e2 => by
        have := (h2.r2 e2).1
        rw [hrun] at this
        exact absurd (Option.some.inj this).symm e, fun e0 => ⟨by simp [Rs.done], (h2.r0 e0).2⟩⟩
  · by_cases e3 : (σ.p i).st = 2
    · refine h.ok.puts (i := i) (fun e => ?_) hch hlen hsame
      have := (h.ok.st3 e).1
      rw [e3] at this
      cases this
    · have : σ.fin i = σ := by unfold Sg.fin; rw [if_neg e3]
      rw [this]
      exact h.ok

end
section
variable {σ : Sg} {N i j : Nat}
end
section
variable {w w' : World} {L B : Nat} {σ : Sg} {lab lab' : Lb} {Pb : Nat → Prop} {R N : Nat} {zs : List Zc} {bs : List Nat} {pa : Option Addr} {np pcap : Nat} {ps : List (List Dop)} {cv tvv : Value}
end
end Go.Proofs.YtgjpbekmkhanhaaGreat.CG

/-
  What else lies in memory is turned; a task more; a step, whatever a turn does.
-/
namespace Go.Proofs.YtgjpbekmkhanhaaGreat.CG
open Go.RowKit QW CH
set_option maxRecDepth 100000
set_option linter.unusedSimpArgs false
set_option linter.unusedVariables false

section
variable {w w' : World} {L : Nat} {Ξ : Xw} {a a' : Ad} {s s' : Rs} {A A' : Nat → Bool} {R : Nat} {zs : List Zc} {bs : List Nat} {m m' : Nat} {K K' : Nat → Pkr} {σ σ' : Sg} {run : Option Nat} {left : Nat} {lab lab' : Lb}

/-- A running task's place is turned. -/
theorem Wd.bump (h : Wd w L Ξ R zs bs m σ run left lab) {i : Nat} {p q : Pt} (hp : σ.tk[i]? = some p) (h2 : p.st = 2) (h3 : q.st = 2) : Wd w L Ξ R zs bs m (σ.put i q) run left lab := by
  obtain ⟨a, s, A, K, h, hq⟩ := h.ex
  have hnw : i ∉ σ.wts := fun e => by
    have := (h.ok.st3 e).1
    rw [p_of hp, h2] at this
    cases this
  have hg := fun k => put_get hp q k
  refine ⟨a, s, A, K, ⟨h.ex, h.rt, h.lr, h.lq, h.lo, h.ch, h.cn, h.ha, h.ln, by simpa [Sg.put] using h.len, fun k t o ht ho => ?_, h.ok.puts hnw rfl (by simp [Sg.put]) (fun k hk => ?_)⟩, hq⟩
  · rw [hg] at ho
    by_cases e : k = i
    · subst e
      rw [if_pos rfl] at ho
      cases ho
      have h4 := h.cl k t p ht hp
      exact ⟨by omega, fun e => by omega, fun e => by omega, fun _ => h4.r2 h2, fun e => by omega⟩
    · rw [if_neg e] at ho
      exact h.cl k t o ht ho
  · have := hg k
    rw [if_neg hk] at this
    simp [Sg.p, List.getD, this]

/-- What else lies in memory is turned: its boxes, its rows. -/
theorem Wm.turned (h : Wm w L Ξ a s A zs m K σ lab) (hL : L ≤ w.heap.size) {D : Nat → Prop} (hD : ∀ k, D k → (lab k = some .ev ∨ w.heap.size ≤ k) ∧ k < w'.heap.size) {S : Nat → Prop} (hS : ∀ k, S k → lab k = some .b ∨ lab k = some .ev) (t0 : Tb S w w') (hnt : ∀ k f, Tkt w k f → ¬ S k) {ev' : List (Nat × Nat × Tld)} (hE : Ξ.E w' (relab lab .ev D) a.R (s.ts.map Tc.b) ev') :
    Wm w' L Ξ a s A zs m K { σ with ev := ev' } (relab lab .ev D) ∧ Wy w lab w' (relab lab .ev D) := by
  have hD' : ∀ k, D k → lab k = some .ev ∨ lab k = none := fun k hk => (hD k hk).1.imp id h.fresh
  have t : Tb (fun k => lab k = some .b ∨ lab k = some .ev) w w' := t0.mono (fun k _ hk => hS k hk)
  have hz := t.size
  have f : Fr w lab (fun l => l = .b ∨ l = .ev) w' (relab lab .ev D) := by
    refine ⟨t.mono (fun k _ hk => hk.elim (fun e => ⟨_, e, .inl rfl⟩) (fun e => ⟨_, e, .inr rfl⟩)), (fun e => by rcases e with e | e <;> cases e), fun k l hT _ => relab_other hD' (fun e => hT (.inr e)), fun k hk => (relab_other hD' (by simp)).2 hk, fun k hk => .inl ((relab_other hD' (by simp)).1 hk), fun k l hT hk => ?_⟩
    rcases hT with rfl | rfl
    · exact .inl ⟨_, (relab_other hD' (by simp)).1 hk, .inl rfl⟩
    · exact (hD k (relab_same.1 hk)).1.imp (fun e => ⟨_, e, .inr rfl⟩) id
  have hkv : Kv w A w' A := Kv.tb A t0 hnt
  have hno : ∀ k l, lab k = some l → l ≠ .b → l ≠ .ev → ¬ (lab k = some .b ∨ lab k = some .ev) := fun k l hk n1 n2 e => by
    rw [hk] at e
    rcases e with e | e
    · exact n1 (Option.some.inj e)
    · exact n2 (Option.some.inj e)
  refine ⟨⟨hE, h.rt.tb t (fun k hk e => ?_), fun k hk => (f.eq k _ (by simp) (by simp)).2 (h.lr k hk), (f.eq _ _ (by simp) (by simp)).2 h.lq, fun k l hk => ?_, fun j z c hz hc => ⟨(h.ch j z c hz hc).1, (h.ch j z c hz hc).2.1, h.chK f hz hc (by simp) hkv (fun i hi => ?_) (fun _ _ => rfl) (Nat.le_refl _)⟩, h.cn, fun k hk => h.ha k (by omega), h.ln, h.len, fun i t p ht hp => (h.cl i t p ht hp).keep (f.wy h.lt').agr (f.wy h.lt').sub (fun k hk => ⟨(f.eq k _ (by simp) (by simp)).2 hk, f.blk h.lt' hk (by simp), rfl⟩) h.lt', h.ok.cast rfl rfl⟩, f.wy h.lt'⟩
  · rcases hk with hk | hk
    · exact hno k _ (h.lr k hk) (by simp) (by simp) e
    · subst hk
      exact hno _ _ h.lq (by simp) (by simp) e
  · by_cases hl : l = .ev
    · subst hl
      have h1 := hD k (relab_same.1 hk)
      refine ⟨?_, h1.2⟩
      rcases h1.1 with e | e
      · exact (h.lo k _ e).1
      · omega
    · have := h.lo k l ((relab_other hD' hl).1 hk)
      exact ⟨this.1, by omega⟩
  · obtain ⟨t, p, _, _, _, h4⟩ := h.waits (mem_wts.2 ⟨j, c, hc, hi⟩)
    exact h4
theorem Wd.turned (h : Wd w L Ξ R zs bs m σ run left lab) (hL : L ≤ w.heap.size) {D : Nat → Prop} (hD : ∀ k, D k → (lab k = some .ev ∨ w.heap.size ≤ k) ∧ k < w'.heap.size) {S : Nat → Prop} (hS : ∀ k, S k → lab k = some .b ∨ lab k = some .ev) (t0 : Tb S w w') (hnt : ∀ k f, Tkt w k f → ¬ S k) {ev' : List (Nat × Nat × Tld)} (hE : Ξ.E w' (relab lab .ev D) R bs ev') :
    Wd w' L Ξ R zs bs m { σ with ev := ev' } run left (relab lab .ev D) ∧ Wy w lab w' (relab lab .ev D) := by
  obtain ⟨a, s, A, K, hw, q1, q2, q3, q4⟩ := h.ex
  subst q1 q2
  obtain ⟨h1, h2⟩ := hw.turned hL hD hS t0 hnt hE
  exact ⟨⟨a, s, A, K, h1, rfl, rfl, q3, q4⟩, h2⟩
theorem Wd.e (h : Wd w L Ξ R zs bs m σ run left lab) : Ξ.E w lab R bs σ.ev := by
  obtain ⟨a, s, A, K, hw, q1, q2, q3, q4⟩ := h.ex
  subst q1 q2
  exact hw.ex
theorem Wd.jlt (h : Wd w L Ξ R zs bs m σ run left lab) : zs.length = σ.ch.length := by
  obtain ⟨a, s, A, K, hw, _⟩ := h.ex
  exact hw.cn
theorem Wd.fresh (h : Wd w L Ξ R zs bs m σ run left lab) {k : Nat} (hk : w.heap.size ≤ k) : lab k = none := by
  obtain ⟨a, s, A, K, hw, _⟩ := h.ex
  exact hw.fresh hk
theorem Wd.clen (h : Wd w L Ξ R zs bs m σ run left lab) {j : Nat} {z : Zc} (hz : zs[j]? = some z) :
    Calls Tryz.prog 34 #[.pointer (some ⟨z.C, 0, none⟩)] w fun e w' => e = .returned (.int .i64 (σ.c j).buf.length) ∧ w' = w := by
  have hl := h.jlt
  obtain ⟨a, s, A, K, hm, q1, q2, _⟩ := h.ex
  have hc := of_c (σ := σ) (j := j) (by have := (List.getElem?_eq_some_iff.1 hz).1; omega)
  exact clen_any (hm.ch j z _ hz hc).2.2
theorem Wd.cwaits (h : Wd w L Ξ R zs bs m σ run left lab) (hL : L ≤ w.heap.size) {j : Nat} {z : Zc} (hz : zs[j]? = some z) :
    Calls Tryz.prog 46 #[.pointer (some ⟨z.C, 0, none⟩)] w fun e w' => e = .returned (.tuple #[.int .i64 (σ.c j).snd.length, .int .i64 (σ.c j).rcv.length]) ∧ ∃ lab', Wd w' L Ξ R zs bs m σ run left lab' ∧ Wy w lab w' lab' := by
  have hl := h.jlt
  obtain ⟨a, s, A, K, hm, q1, q2, q3, q4⟩ := h.ex
  have hc := of_c (σ := σ) (j := j) (by have := (List.getElem?_eq_some_iff.1 hz).1; omega)
  obtain ⟨_, e2, e3, _⟩ := mem_bufs K (σ.c j)
  have CW := waits_any (hm.ch j z _ hz hc).2.2
  rw [e2, e3] at CW
  refine CW.mono ?_
  rintro e w' ⟨rfl, D', hd, x⟩
  obtain ⟨h1, h2⟩ := hm.quiet hL hz hd x
  exact ⟨rfl, _, ⟨_, _, _, _, h1, q1, q2, q3, q4⟩, h2⟩

/-- A task more. -/
theorem Wm.addt (h : Wm w L Ξ a s A zs m K σ lab) (hL : L ≤ w.heap.size) {v : Value} {b : Nat} (x : Rp w a s w' a' (s.spawn b v)) {N : Nat → Prop} (hN : ∀ k, N k → w.heap.size ≤ k ∧ k < w'.heap.size ∧ ¬ own a' (s.spawn b v) k) (hgo : Go0 (fun k => lab k = some .fz ∨ N k) w' v (Ξ.QT b σ.tk.length 0 (0, 0, false))) (hE : ∀ lab', (∀ k l, own5 l → lab k = some l → lab' k = some l) → Ξ.E w' lab' a.R (s.ts.map Tc.b) σ.ev → Ξ.E w' lab' a.R ((s.spawn b v).ts.map Tc.b) σ.ev) :
    ∃ lab', Wm w' L Ξ a' (s.spawn b v) A zs m K σ.add lab' ∧ Wy w lab w' lab' := by
  have t1 := x.x.tb
  have hz1 := t1.size
  have hD1 : ∀ k, own a' (s.spawn b v) k → lab k = some .rt ∨ lab k = none := fun k hk => (x.x.own hk).imp (h.lr k) h.fresh
  obtain ⟨lab1, hl1⟩ : ∃ lab1, lab1 = relab lab .rt (own a' (s.spawn b v)) := ⟨_, rfl⟩
  have o1 : ∀ k l, l ≠ .rt → (lab1 k = some l ↔ lab k = some l) := fun k l hl => by rw [hl1]; exact relab_other hD1 hl
  have s1 : ∀ k, lab1 k = some .rt ↔ own a' (s.spawn b v) k := fun k => by rw [hl1]; exact relab_same
  have hD3 : ∀ k, (lab k = some .fz ∨ N k) → lab1 k = some .fz ∨ lab1 k = none := fun k hk => by
    rcases hk with hk | hk
    · exact .inl ((o1 k _ (by simp)).2 hk)
    · obtain ⟨n1, n2, n3⟩ := hN k hk
      refine .inr ?_
      cases e : lab1 k with
      | none => rfl
      | some l =>
        by_cases e' : l = .rt
        · subst e'; exact absurd ((s1 k).1 e) n3
        · have := (o1 k l e').1 e; rw [h.fresh n1] at this; cases this
  obtain ⟨lab3, hl3⟩ : ∃ lab3, lab3 = relab lab1 .fz (fun k => lab k = some .fz ∨ N k) := ⟨_, rfl⟩
  have s3 : ∀ k, lab3 k = some .fz ↔ (lab k = some .fz ∨ N k) := fun k => by rw [hl3]; exact relab_same
  have o3 : ∀ k l, l ≠ .fz → (lab3 k = some l ↔ lab1 k = some l) := fun k l hl => by rw [hl3]; exact relab_other hD3 hl
  have o : ∀ k l, l ≠ .rt → l ≠ .fz → (lab3 k = some l ↔ lab k = some l) := fun k l n1 n2 => (o3 k l n2).trans (o1 k l n1)
  have hfz : ∀ k, Fz lab k → Fz lab3 k := fun k hk => (s3 k).2 (.inl hk)
  have hsame : ∀ k l, lab k = some l → l ≠ .rt → w'.heap[k]? = w.heap[k]? := fun k l hk n0 => t1.block k (h.lt' k l hk) (fun e => by
    have := h.lr k e
    rw [hk] at this
    exact n0 (Option.some.inj this))
  have hkv : Kv w A w' A := Kv.tb A t1 (fun k f ht e => by
    have h1 := own_ty h.rt.m e ht
    revert h1
    decide)
  have hpk : ∀ i k, lab k = some (.pk i) → lab3 k = some (.pk i) ∧ w'.heap[k]? = w.heap[k]? ∧ A k = A k := fun i k hk => ⟨(o k _ (by simp) (by simp)).2 hk, hsame k _ hk (by simp), rfl⟩
  have hE0 : Ξ.E w' lab3 a.R (s.ts.map Tc.b) σ.ev := Ξ.keep h.ex (fun k l hl hk => by
    rcases hl with rfl | rfl | rfl | rfl | rfl
    · exact ⟨(o k _ (by simp) (by simp)).2 hk, hsame k _ hk (by simp)⟩
    · exact ⟨(o k _ (by simp) (by simp)).2 hk, hsame k _ hk (by simp)⟩
    · exact ⟨(o k _ (by simp) (by simp)).2 hk, hsame k _ hk (by simp)⟩
    · exact ⟨(o k _ (by simp) (by simp)).2 hk, hsame k _ hk (by simp)⟩
    · exact ⟨hfz k hk, hsame k _ hk (by simp)⟩) hz1
  have hE1 := hE lab3 (fun k l hl hk => by
    rcases hl with rfl | rfl | rfl | rfl | rfl
    · exact (o k _ (by simp) (by simp)).2 hk
    · exact (o k _ (by simp) (by simp)).2 hk
    · exact (o k _ (by simp) (by simp)).2 hk
    · exact (o k _ (by simp) (by simp)).2 hk
    · exact hfz k hk) hE0
  refine ⟨lab3, ⟨by rw [x.x.R]; exact hE1, x.rt, fun k hk => (o3 k _ (by simp)).2 ((s1 k).2 hk), by rw [x.x.Q]; exact (o _ _ (by simp) (by simp)).2 h.lq, fun k l hk => ?_, fun j y c hy hc => ?_, h.cn, fun k hk => h.ha k (by omega), by simp [Rs.spawn, Sg.add, h.ln, h.len], by simp [Rs.spawn, Sg.add, h.len], fun i u p hu hp => ?_, ?_⟩, ⟨t1.mono (fun k _ e => by rw [h.lr k e]; simp), fun k hk => ?_, fun k hk => ⟨hfz k hk, hsame k _ hk (by simp)⟩⟩⟩
  · by_cases e3 : l = .fz
    · subst e3
      rcases (s3 k).1 hk with e | e
      · have := h.lo k _ e; exact ⟨this.1, by omega⟩
      · obtain ⟨n1, n2, _⟩ := hN k e; exact ⟨by omega, n2⟩
    · by_cases e1 : l = .rt
      · subst e1
        have hk' := (s1 k).1 ((o3 k _ e3).1 hk)
        refine ⟨?_, x.rt.m.own_lt hk'⟩
        rcases x.x.own hk' with e | e
        · exact (h.lo k _ (h.lr k e)).1
        · omega
      · have := h.lo k l ((o k l e1 e3).1 hk)
        exact ⟨this.1, by omega⟩
  · obtain ⟨g1, g2, g3⟩ := h.ch j y c hy hc
    rw [x.x.R]
    exact ⟨g1, g2, (g3.same t1 (fun k hk e => by
      have := h.lr k e
      rw [hk] at this
      cases this) hkv).iff (fun k => o k _ (by simp) (by simp))⟩
  · by_cases hk : i < s.ts.length
    · simp only [Rs.spawn, List.getElem?_append_left hk] at hu
      simp only [Sg.add, List.getElem?_append_left (show i < σ.tk.length by rw [← h.len]; exact hk)] at hp
      exact (h.cl i u p hu hp).keep (fun k hk => hsame k _ hk (by simp)) hfz (hpk i) h.lt'
    · have : i = s.ts.length := by
        have := (List.getElem?_eq_some_iff.1 hu).1
        simp only [Rs.spawn, List.length_append, List.length_cons, List.length_nil] at this
        omega
      subst this
      simp only [Rs.spawn, List.getElem?_concat_length, Option.some.injEq] at hu
      rw [h.len] at hp ⊢
      simp only [Sg.add, List.getElem?_concat_length, Option.some.injEq] at hp
      subst hu hp
      exact ⟨by simp, fun _ => ⟨hgo.keep (fun k hk => rfl) (fun k hk => (s3 k).2 hk), rfl⟩, fun e => by simp at e, fun e => by simp at e, fun e => by simp at e⟩
  · have ep : ∀ k, k < σ.tk.length → σ.add.p k = σ.p k := fun k hk => by
      simp only [Sg.p, Sg.add, List.getD]
      rw [List.getElem?_append_left hk]
    refine ⟨h.ok.nd, fun j c hc y hy => ?_, fun j c hc y hy => ?_, h.ok.bf⟩
    · obtain ⟨q1, q2, q3⟩ := h.ok.sn j c hc y hy
      rw [ep _ q3]
      exact ⟨q1, q2, by simp [Sg.add]; omega⟩
    · obtain ⟨q1, q2, q3⟩ := h.ok.rc j c hc y hy
      rw [ep _ q3]
      exact ⟨q1, q2, by simp [Sg.add]; omega⟩
  · obtain ⟨l, hl⟩ := Option.ne_none_iff_exists'.1 hk
    by_cases e3 : l = .fz
    · subst e3
      rcases (s3 k).1 hl with e | e
      · exact .inl (by rw [e]; simp)
      · exact .inr (hN k e).1
    · by_cases e1 : l = .rt
      · subst e1
        rcases x.x.own ((s1 k).1 ((o3 k _ e3).1 hl)) with e | e
        · exact .inl (by rw [h.lr k e]; simp)
        · exact .inr e
      · exact .inl (by rw [(o k l e1 e3).1 hl]; simp)
end

/-- A step, whatever the tasks do. -/
def _root_.Go.Proofs.YtgjpbekmkhanhaaGreat.CH.Sg.stepf (pf : Nat → Nat → Dop) (p : Nat) (σ : Sg) : Sg :=
  if σ.line = [] then σ else
    (({ σ with line := σ.line.eraseIdx (p % σ.line.length) } : Sg).put (σ.line.getD (p % σ.line.length) 0).toNat ⟨(σ.p (σ.line.getD (p % σ.line.length) 0).toNat).at', 2, (σ.p (σ.line.getD (p % σ.line.length) 0).toNat).td, false⟩).turn (σ.line.getD (p % σ.line.length) 0).toNat (pf (σ.line.getD (p % σ.line.length) 0).toNat (σ.p (σ.line.getD (p % σ.line.length) 0).toNat).at')

section
variable {w w' : World} {L : Nat} {Ξ : Xw} {R N : Nat} {zs : List Zc} {bs : List Nat} {σ : Sg} {left : Nat} {lab : Lb} {pf : Nat → Nat → Dop} {G : Sg → Prop}

/-- What a turn does is what pf says, for tales that G allows. -/
def Tn (Ξ : Xw) (L R : Nat) (zs : List Zc) (pf : Nat → Nat → Dop) (N : Nat) (G : Sg → Prop) : Prop :=
  ∀ (V : World) (bs : List Nat) (σ : Sg) (left : Nat) (lab : Lb) (i b : Nat) (p : Pt), Wd V L Ξ R zs bs N σ (some i) left lab → L ≤ V.heap.size → bs[i]? = some b → σ.tk[i]? = some p → p.st = 2 → G σ →
    ∀ Ψ : World → Prop, (∀ w' lab', Wd w' L Ξ R zs bs (N + 1) (((σ.note i).put i ⟨p.at' + 1, 2, p.td, false⟩).acts i (pf i p.at')) (some i) left lab' → Wy V lab w' lab' → Ψ w') → Ξ.QT b i p.at' p.td V Ψ

theorem gstep (hT : Tn Ξ L R zs pf N G) (h : Wd w L Ξ R zs bs N σ none left lab) (hL : L ≤ w.heap.size) (p : Nat) (hp : p ≤ 18446744073709551615)
    (hG : ∀ i j, (σ.p i).st = 1 → i < σ.tk.length → G (({ σ with line := σ.line.eraseIdx j } : Sg).put i ⟨(σ.p i).at', 2, (σ.p i).td, false⟩)) :
    Calls Tryz.prog 12 #[.pointer (some ⟨R, 0, none⟩), .int .u64 p] w fun e w' => e = .returned (.bool (decide (σ.line ≠ []))) ∧ ∃ left' lab', Wd w' L Ξ R zs bs (N + 1) (σ.stepf pf p) none left' lab' ∧ Wy w lab w' lab' := by
  have wd := h
  obtain ⟨a, s, A, K, m, q1, q2, q3, q4⟩ := wd.ex
  subst q1 q2
  by_cases hl : σ.line = []
  · have e0 : σ.stepf pf p = σ := by unfold Sg.stepf; rw [if_pos hl]
    rw [e0]
    refine (step_no m.rt q3 (by rw [m.ln]; exact hl) p).mono ?_
    rintro e w' ⟨rfl, rfl⟩
    exact ⟨by simp [hl], left, lab, wd.mono (Nat.le_succ N), ⟨Tb.refl _ _, fun _ h => .inl h, fun _ h => ⟨h, rfl⟩⟩⟩
  · have hl0 : 0 < σ.line.length := List.length_pos_iff.2 hl
    have hjl : p % σ.line.length < σ.line.length := Nat.mod_lt _ hl0
    obtain ⟨j, hj⟩ : ∃ j, j = p % σ.line.length := ⟨_, rfl⟩
    rw [← hj] at hjl
    have hjx : σ.line[j]? = some σ.line[j] := List.getElem?_eq_getElem hjl
    have hsj : s.line[j]? = some σ.line[j] := by rw [m.ln]; exact hjx
    obtain ⟨i, t, hix, hi, hon⟩ := (m.rt.ok.mem σ.line[j]).1 (List.mem_of_getElem? hsj)
    have hil : i < σ.tk.length := by rw [← m.len]; exact (List.getElem?_eq_some_iff.1 hi).1
    have hpt := of_p hil
    have ht := m.cl i t _ hi hpt
    have hst : (σ.p i).st = 1 := by
      have := ht.le
      have h4 : (σ.p i).st = 0 ∨ (σ.p i).st = 1 ∨ (σ.p i).st = 2 ∨ (σ.p i).st = 3 := by omega
      rcases h4 with e | e | e | e
      · rw [(ht.r0 e).2.1] at hon; cases hon
      · exact e
      · rw [(ht.r2 e).2.1] at hon; cases hon
      · rw [(ht.r3 e).1] at hon; cases hon
    obtain ⟨⟨fn, caps, hnx, hen, hcall⟩, hwk⟩ := ht.r1 hst
    have hgd : (σ.line.getD j 0).toNat = i := by simp [List.getD, hjx, hix]
    have hmid : (({ σ with line := σ.line.eraseIdx j } : Sg).put i ⟨(σ.p i).at', 2, (σ.p i).td, false⟩).tk[i]? = some ⟨(σ.p i).at', 2, (σ.p i).td, false⟩ := by
      have := put_get (σ := { σ with line := σ.line.eraseIdx j }) hpt ⟨(σ.p i).at', 2, (σ.p i).td, false⟩ i
      rwa [if_pos rfl] at this
    have estep : σ.stepf pf p = ((((({ σ with line := σ.line.eraseIdx j } : Sg).put i ⟨(σ.p i).at', 2, (σ.p i).td, false⟩).note i).put i ⟨(σ.p i).at' + 1, 2, (σ.p i).td, false⟩).acts i (pf i (σ.p i).at')).fin i := by
      unfold Sg.stepf
      rw [if_neg hl, ← hj, hgd]
      unfold Sg.turn
      rw [p_of hmid]
    have CS := step_yes m.rt q3 p hp (j := j) (hide (by rw [m.ln]; exact hj)) (by rw [hsj, hix]) hi hnx hen
      (fun w2 a2 s2 => ∃ A2 K2 lab2, Wm w2 L Ξ a2 s2 A2 zs (N + 1) K2 ((((({ σ with line := σ.line.eraseIdx j } : Sg).put i ⟨(σ.p i).at', 2, (σ.p i).td, false⟩).note i).put i ⟨(σ.p i).at' + 1, 2, (σ.p i).td, false⟩).acts i (pf i (σ.p i).at')) lab2 ∧ Wy w lab w2 lab2 ∧ s2.run = some i ∧ a2.R = a.R ∧ s2.ts.map Tc.b = s.ts.map Tc.b)
      (fun X a1 x => by
        obtain ⟨m1, y1⟩ := m.begins hL hi hpt q3 hst x
        have eT : (s.begin i j ⟨t.b, .nilFunc, t.wk⟩ (p / s.line.length)).ts.map Tc.b = s.ts.map Tc.b := map_set hi rfl
        have wd1 : Wd X L Ξ a.R zs (s.ts.map Tc.b) N (({ σ with line := σ.line.eraseIdx j } : Sg).put i ⟨(σ.p i).at', 2, (σ.p i).td, false⟩) (some i) (p / s.line.length) _ := ⟨_, _, _, _, m1, x.x.R, eT, rfl, rfl⟩
        have hLX : L ≤ X.heap.size := Nat.le_trans hL y1.tb.size
        refine (hcall X (fun w2 => ∃ lab2, Wd w2 L Ξ a.R zs (s.ts.map Tc.b) (N + 1) ((((({ σ with line := σ.line.eraseIdx j } : Sg).put i ⟨(σ.p i).at', 2, (σ.p i).td, false⟩).note i).put i ⟨(σ.p i).at' + 1, 2, (σ.p i).td, false⟩).acts i (pf i (σ.p i).at')) (some i) (p / s.line.length) lab2 ∧ Wy w lab w2 lab2) y1.agr (hT X _ _ _ _ i t.b _ wd1 hLX (by simp [hi]) hmid rfl (hG i j hst hil) _ (fun w2 lab2 wd3 y3 => ⟨lab2, wd3, y1.trans y3⟩))).mono ?_
        rintro e w2 ⟨rfl, lab2, wd3, y13⟩
        obtain ⟨a2, s2, A2, K2, m2, z1, z2, z3, z4⟩ := wd3.ex
        have hti : (s2.ts.map Tc.b)[i]? = some t.b := by rw [z2]; simp [hi]
        rw [List.getElem?_map] at hti
        obtain ⟨t2, ht2, hb2⟩ := Option.map_eq_some_iff.1 hti
        exact ⟨rfl, a2, s2, t2, m2.rt, z3, ht2, hb2, z1, A2, K2, lab2, m2, y13, z3, z1, z2⟩)
    refine CS.mono ?_
    rintro e w' ⟨rfl, w2, a2, s2, ⟨A2, K2, lab2, m2, y2, z3, z1, z2⟩, x⟩
    have hL2 : L ≤ w2.heap.size := Nat.le_trans hL y2.tb.size
    obtain ⟨m3, y3⟩ := m2.done hL2 z3 x
    rw [← estep] at m3
    exact ⟨by simp [hl], s2.left, _, ⟨a2, s2.done, A2, K2, m3, z1, z2, rfl, rfl⟩, y2.trans y3⟩
end

end Go.Proofs.YtgjpbekmkhanhaaGreat.CG

/-
  Two worlds side by side: the law's, and the document's.
-/
import Derived.Test.YtennciddjkijaaaCuk
import Derived.Test.YtennciddjkijaaaCul
import Derived.Test.YtennciddjkijaaaCsm
namespace Go.Proofs.Ytennciddjkijaaa
open Go.RowKit QI
set_option maxRecDepth 100000
set_option linter.unusedSimpArgs false

/-- A tale whose steps can be taken. -/
structure Sk (np N : Nat) (σ : Sg) : Prop where
  ok : ∀ p ∈ σ.tk, p.at' ≤ N ∧ p.prog < np
  tl : σ.tk.length ≤ N
  el : σ.ev.length ≤ 2 * N
  ll : σ.line.length ≤ N
  ln : ∀ x ∈ σ.line, ∃ (i : Nat) (p : Pt), x = (i : Int) ∧ σ.tk[i]? = some p ∧ p.st = 1

section
variable {w w' : World} {L B C : Nat} {σ τ : Sg} {F D Pb : Nat → Prop} {R : Nat} {bs : List Nat} {pa : Option Addr} {np pcap N : Nat} {ps : List (List Dop)}

theorem Wt.sk (h : Wt w L B pa np pcap ps Pb R bs σ N F D) : Sk np N σ := by
  obtain ⟨h1, h2⟩ := h.ids
  have h3 := ids_few h1 h2
  have htl := h.tl
  refine ⟨h.ok, h.tl, h.el, ?_, fun x hx => ?_⟩
  · simp only [List.length_append] at h3
    omega
  · obtain ⟨l, wd⟩ := h.wd
    obtain ⟨a, s, tv, ev, m, q1, q2, q3, _⟩ := wd.ex
    rw [← m.ln] at hx
    obtain ⟨i, t, hix, hi, hon⟩ := (m.rt.ok.mem x).1 hx
    have hil : i < σ.tk.length := by rw [← m.len]; exact (List.getElem?_eq_some_iff.1 hi).1
    have hpt : σ.tk[i]? = some σ.tk[i] := List.getElem?_eq_getElem hil
    have ht := m.cl i t _ hi hpt
    refine ⟨i, _, hix, hpt, ?_⟩
    have := ht.le
    have h4 : σ.tk[i].st = 0 ∨ σ.tk[i].st = 1 ∨ σ.tk[i].st = 2 ∨ σ.tk[i].st = 3 := by omega
    rcases h4 with e | e | e | e
    · rw [(ht.r0 e).2.1] at hon; cases hon
    · exact e
    · rw [(ht.r2 e).2.1] at hon; cases hon
    · rw [(ht.r3 e).1] at hon; cases hon

theorem rstep_any (h : Rf w L C (.slice pa np pcap) σ D) (hP : Pg w Pb D pa np pcap ps) (hL : L ≤ w.heap.size) (hs : Sk np N σ) (hnp : np ≤ 1000) (hN : N ≤ 1000) (hpl : ps.length = np) (p : Nat) (hp : p ≤ 18446744073709551615) :
    Calls Try.prog 12 #[.pointer (some ⟨C, 0, none⟩), .int .u64 p] w fun e w' => e = .returned (.bool (decide (σ.line ≠ []))) ∧ ∃ D', Rf w' L C (.slice pa np pcap) (σ.step ps p) D' ∧ Fx w D w' D' := by
  by_cases hl : σ.line = []
  · have e0 : σ.step ps p = σ := by unfold Sg.step; rw [if_pos (by simp [hl])]
    rw [e0]
    refine (rstep_no h hl p).mono ?_
    rintro e w' ⟨rfl, rfl⟩
    exact ⟨by simp [hl], D, h, Fx.refl _ _⟩
  · have hl0 : 0 < σ.line.length := List.length_pos_iff.2 hl
    have hjl : p % σ.line.length < σ.line.length := Nat.mod_lt _ hl0
    have hjx : σ.line[p % σ.line.length]? = some σ.line[p % σ.line.length] := List.getElem?_eq_getElem hjl
    obtain ⟨i, pt, hx, hi, hst⟩ := hs.ln _ (List.mem_of_getElem? hjx)
    obtain ⟨prog, at', st, why⟩ := pt
    obtain rfl : st = 1 := hst
    have hok := hs.ok _ (List.mem_of_getElem? hi)
    have hgx : σ.line.getD (p % σ.line.length) 0 = (i : Int) := by simp [List.getD, hjx, hx]
    have htl := hs.tl
    have hel := hs.el
    have hll := hs.ll
    have ha := hok.1
    try simp only at ha
    have CS := rstep_yes h hP hL rfl hl0 p hp rfl hgx hi hok.2 hnp (by omega) (by omega) (by omega) (by omega) rfl
    have estep : σ.step ps p = (((({ σ with line := σ.line.eraseIdx (p % σ.line.length) } : Sg).put i ⟨prog, at' + 1, 2, 0⟩).note i at' why).acts np i ⟨prog, at' + 1, 2, 0⟩ (dop ps ⟨prog, at', 1, why⟩) (p / σ.line.length)).fin i := by
      unfold Sg.step
      rw [if_neg (by omega)]
      have e1 : (σ.line.getD (p % σ.line.length) 0).toNat = i := by rw [hgx]; simp
      have e2 : σ.tk.getD i pt0 = ⟨prog, at', 1, why⟩ := by simp [List.getD, hi]
      simp only [e1, e2, Sg.turn, hpl]
    rw [estep]
    refine CS.mono ?_
    rintro e w' ⟨rfl, hx⟩
    exact ⟨by simp [hl], hx⟩

/-- Both worlds, made behind W: the law's tale, and the document's. -/
structure Bo (W : World) (B R C : Nat) (pa : Option Addr) (m pcap : Nat) (ps : List (List Dop)) (σ τ : Sg) (N : Nat) (X : World) : Prop where
  ex : ∃ F D bs E, Wt X W.heap.size B pa m pcap ps (fun k => k < W.heap.size) R bs σ N F D ∧ (∀ k, D k → W.heap.size ≤ k) ∧ Rf X W.heap.size C (.slice pa m pcap) τ E ∧ ∀ k, D k → ¬ E k
  bel : Below W.heap.size W X

variable {W X Y : World} {m : Nat} {σ' τ' : Sg} {N' : Nat}

theorem Bo.mk1 {F D : Nat → Prop} (hb : Below W.heap.size W X) (wt : Wt X W.heap.size B pa m pcap ps (fun k => k < W.heap.size) R bs σ N F D) (hD : ∀ k, D k → W.heap.size ≤ k) {E : Nat → Prop} (r : Rf X W.heap.size C (.slice pa m pcap) τ E) (hDE : ∀ k, D k → ¬ E k) : Bo W B R C pa m pcap ps σ τ N X := ⟨⟨F, D, bs, E, wt, hD, r, hDE⟩, hb⟩

theorem Wt.dlt {F D : Nat → Prop} (wt : Wt X L B pa m pcap ps Pb R bs σ N F D) : ∀ k, D k → k < X.heap.size := fun k hk => by
  obtain ⟨l, wd⟩ := wt.wd
  exact (wd.lt hk).2

theorem Bo.low (h : Bo W B R C pa m pcap ps σ τ N X) : W.heap.size ≤ X.heap.size := h.bel.size
theorem Bo.below (h : Bo W B R C pa m pcap ps σ τ N X) (hb : Below X.heap.size X Y) : Bo W B R C pa m pcap ps σ τ N Y := by
  obtain ⟨F, D, bs, E, wt, hD, r, hDE⟩ := h.ex
  exact ⟨⟨F, D, bs, E, wt.below hb, hD, r.below hb, hDE⟩, h.bel.trans (hb.mono h.bel.size)⟩
/-- A call on the law's world. -/
theorem Bo.on (h : Bo W B R C pa m pcap ps σ τ N X) {fn : FuncId} {args : Array Value} {Q : Ending → Prop} (hc : ∀ bs F D, Wt X W.heap.size B pa m pcap ps (fun k => k < W.heap.size) R bs σ N F D → Calls Try.prog fn args X fun e w' => Q e ∧ ∃ F' D' bs', Wt w' W.heap.size B pa m pcap ps (fun k => k < W.heap.size) R bs' σ' N' F' D' ∧ Wx X F D bs w' F' D' bs') :
    Calls Try.prog fn args X fun e w' => Q e ∧ Bo W B R C pa m pcap ps σ' τ N' w' := by
  obtain ⟨F, D, bs, E, wt, hD, r, hDE⟩ := h.ex
  refine (hc bs F D wt).mono ?_
  rintro e w' ⟨q, F', D', bs', wt', wx⟩
  refine ⟨q, ⟨F', D', bs', E, wt', fun k hk => (wx.dom k hk).elim (hD k) (fun h' => Nat.le_trans h.bel.size h'), r.tb wx.tb (fun k hk hd => hDE k hd hk), fun k hk he => (wx.dom k hk).elim (fun h' => hDE k h' he) (fun h' => by have := (r.lt he).2; omega)⟩, h.bel.trans (wx.tb.below hD h.bel.size)⟩
/-- A call on the document's. -/
theorem Bo.onr (h : Bo W B R C pa m pcap ps σ τ N X) {fn : FuncId} {args : Array Value} {Q : Ending → Prop} (hc : ∀ E, Rf X W.heap.size C (.slice pa m pcap) τ E → Pg X (fun k => k < W.heap.size) E pa m pcap ps → Calls Try.prog fn args X fun e w' => Q e ∧ ∃ E', Rf w' W.heap.size C (.slice pa m pcap) τ' E' ∧ Fx X E w' E') :
    Calls Try.prog fn args X fun e w' => Q e ∧ Bo W B R C pa m pcap ps σ τ' N w' := by
  obtain ⟨F, D, bs, E, wt, hD, r, hDE⟩ := h.ex
  have hE : ∀ k, E k → W.heap.size ≤ k := fun k hk => (r.lt hk).1
  refine (hc E r ⟨wt.pg.pgs, wt.pg.lt, fun k hk he => by have := hE k he; omega⟩).mono ?_
  rintro e w' ⟨q, E', r', fx⟩
  refine ⟨q, ⟨F, D, bs, E', wt.tb fx.tb (fun k hk he => ?_), hD, r', fun k hk he => (fx.dom k he).elim (hDE k hk) (fun h' => by have := wt.dlt k hk; omega)⟩, h.bel.trans (fx.tb.below hE h.bel.size)⟩
  rcases hk with hk | hk
  · exact hDE k hk he
  · have := hE k he; omega

theorem Bo.cB0 (h : Bo W B R C pa m pcap ps σ τ N X) : X.cell? ⟨B, 0, none⟩ = some (.pointer (some ⟨R, 0, none⟩)) := by
  obtain ⟨F, D, bs, E, wt, _⟩ := h.ex
  exact wt.c0
theorem Bo.line (h : Bo W B R C pa m pcap ps σ τ N X) : ∃ la lc, X.cell? ⟨C, 2, none⟩ = some (.slice la τ.line.length lc) ∧ Ls X la τ.line.length lc τ.line := by
  obtain ⟨F, D, bs, E, wt, hD, r, hDE⟩ := h.ex
  obtain ⟨tv, lv, ev, m, _⟩ := r.ex
  obtain ⟨la, lc, rfl⟩ := row_val m.lr
  exact ⟨la, lc, cell_of_row X C 2 _ _ _ m.blk, own_ls m.lr⟩
theorem Bo.revs (h : Bo W B R C pa m pcap ps σ τ N X) : ∃ ea ec, X.cell? ⟨C, 3, none⟩ = some (.slice ea τ.ev.length ec) ∧ Evs X ea τ.ev.length ec τ.ev := by
  obtain ⟨F, D, bs, E, wt, hD, r, hDE⟩ := h.ex
  obtain ⟨tv, lv, ev, m, _⟩ := r.ex
  obtain ⟨la, lc, rfl⟩ := row_val m.er
  exact ⟨la, lc, cell_of_row X C 3 _ _ _ m.blk, own_evs m.er⟩
theorem Bo.evs (h : Bo W B R C pa m pcap ps σ τ N X) : ∃ ea ec, X.cell? ⟨B, 3, none⟩ = some (.slice ea σ.ev.length ec) ∧ Evs X ea σ.ev.length ec σ.ev := by
  obtain ⟨F, D, bs, E, wt, hD, r, hDE⟩ := h.ex
  obtain ⟨l, wd⟩ := wt.wd
  obtain ⟨a, s, tv, ev, m, _⟩ := wd.ex
  obtain ⟨la, lc, rfl⟩ := row_val m.er
  exact ⟨la, lc, cell_of_row X B 3 _ _ _ m.blk, own_evs m.er⟩
theorem Bo.sk (h : Bo W B R C pa m pcap ps σ τ N X) : Sk m N σ := by
  obtain ⟨F, D, bs, E, wt, _⟩ := h.ex
  exact wt.sk

theorem Bo.spawn (h : Bo W B R C pa m pcap ps σ τ N X) (hN : N ≤ 1000) {prog : Nat} (hp : prog < m) :
    Calls Try.prog 9 #[.pointer (some ⟨B, 0, none⟩), .int .i64 prog] X fun e w' => e = .returned (.int .i64 (if σ.opn = 256 then 5 else 0)) ∧ Bo W B R C pa m pcap ps (σ.spawn prog) τ (N + 1) w' :=
  h.on (Q := fun e => e = .returned (.int .i64 (if σ.opn = 256 then 5 else 0))) (fun _ _ _ wt => wt.spawn hN hp)
theorem Bo.rspawn (h : Bo W B R C pa m pcap ps σ τ N X) (hs : Sk m N' τ) (hN : N' ≤ 1000) (prog : Nat) :
    Calls Try.prog 10 #[.pointer (some ⟨C, 0, none⟩), .int .i64 prog] X fun e w' => e = .returned (.bool (decide (τ.opn ≠ 256))) ∧ Bo W B R C pa m pcap ps σ (τ.spawn prog) N w' :=
  h.onr (Q := fun e => e = .returned (.bool (decide (τ.opn ≠ 256)))) (fun _ r _ => rspawn_any r h.low (by have := hs.ll; omega) (by have := hs.tl; omega) prog)
theorem Bo.step (h : Bo W B R C pa m pcap ps σ τ N X) (hN : N ≤ 400) (p : Nat) (hp : p ≤ 18446744073709551615) :
    Calls Try.prog 11 #[.pointer (some ⟨R, 0, none⟩), .int .u64 p] X fun e w' => e = .returned (.bool (decide (σ.line ≠ []))) ∧ Bo W B R C pa m pcap ps (σ.step ps p) τ (N + 1) w' :=
  h.on (Q := fun e => e = .returned (.bool (decide (σ.line ≠ [])))) (fun _ _ _ wt => wstep wt hN p hp)
theorem Bo.rstep (h : Bo W B R C pa m pcap ps σ τ N X) (hs : Sk m N' τ) (hN : N' ≤ 1000) (hm : m ≤ 1000) (hpl : ps.length = m) (p : Nat) (hp : p ≤ 18446744073709551615) :
    Calls Try.prog 12 #[.pointer (some ⟨C, 0, none⟩), .int .u64 p] X fun e w' => e = .returned (.bool (decide (τ.line ≠ []))) ∧ Bo W B R C pa m pcap ps σ (τ.step ps p) N w' :=
  h.onr (Q := fun e => e = .returned (.bool (decide (τ.line ≠ [])))) (fun _ r hP => rstep_any r hP h.low hs hm hN hpl p hp)
theorem Bo.ready (h : Bo W B R C pa m pcap ps σ τ N X) : Calls Try.prog 14 #[.pointer (some ⟨R, 0, none⟩)] X fun e w' => ∃ p cap, e = .returned (.slice p σ.line.length cap) ∧ w'.ownsRow X.heap.size 3 1 (.slice p σ.line.length cap) σ.line.length (QI.W σ.line) ∧ Below X.heap.size X w' := by
  obtain ⟨F, D, bs, E, wt, _⟩ := h.ex
  exact wt.ready
theorem Bo.parked (h : Bo W B R C pa m pcap ps σ τ N X) : Calls Try.prog 20 #[.pointer (some ⟨R, 0, none⟩)] X fun e w' => ∃ p cap, e = .returned (.slice p σ.pkd.length cap) ∧ w'.ownsRow X.heap.size 3 1 (.slice p σ.pkd.length cap) σ.pkd.length (QI.W σ.pkd) ∧ Below X.heap.size X w' := by
  obtain ⟨F, D, bs, E, wt, _⟩ := h.ex
  exact wt.parked
theorem Bo.rparked (h : Bo W B R C pa m pcap ps σ τ N X) (ht : τ.tk.length ≤ 1000000) : Calls Try.prog 21 #[.pointer (some ⟨C, 0, none⟩)] X fun e w' => ∃ p cap, e = .returned (.slice p τ.pkd.length cap) ∧ w'.ownsRow X.heap.size 3 1 (.slice p τ.pkd.length cap) τ.pkd.length (QI.W τ.pkd) ∧ Below X.heap.size X w' := by
  obtain ⟨F, D, bs, E, wt, hD, r, hDE⟩ := h.ex
  refine (rparked_any r ht).mono ?_
  rintro e w' ⟨v, rfl, o, b⟩
  obtain ⟨p, cap, rfl⟩ := row_val o
  exact ⟨p, cap, rfl, o, b⟩
/-- What is asked of the tasks. -/
theorem Bo.tasks (h : Bo W B R C pa m pcap ps σ σ N X) (hN : N ≤ 1000) : ∃ tp tc, X.cell? ⟨B, 2, none⟩ = some (.slice tp σ.tk.length tc) ∧ σ.tk.length ≤ N ∧ ∀ i p, σ.tk[i]? = some p → ∃ gt b, tp = some ⟨gt, 0, none⟩ ∧ X.cell? ⟨gt, i, none⟩ = some (.pointer (some ⟨b, 0, none⟩)) ∧
    Hid (∀ V, Below X.heap.size X V → Calls Try.prog 15 #[.pointer (some ⟨b, 0, none⟩)] V fun e w' => e = .returned (.int .i64 i) ∧ w' = V) ∧
    Hid (∀ V, Below X.heap.size X V → Calls Try.prog 16 #[.pointer (some ⟨b, 0, none⟩)] V fun e w' => e = .returned (.bool (decide (p.st = 0))) ∧ w' = V) ∧
    Hid (∀ V, Below X.heap.size X V → Calls Try.prog 17 #[.pointer (some ⟨C, 0, none⟩), .int .i64 i] V fun e w' => e = .returned (.bool (decide (p.st = 0))) ∧ w' = V) ∧
    Hid (∀ V, Below X.heap.size X V → Calls Try.prog 18 #[.pointer (some ⟨b, 0, none⟩)] V fun e w' => e = .returned (.pointer (some ⟨R, 0, none⟩)) ∧ w' = V) := by
  have h0 := h
  obtain ⟨F, D, bs, E, wt, hD, r, hDE⟩ := h.ex
  obtain ⟨tp, tc, c2, hbl, hc⟩ := wt.c2
  refine ⟨tp, tc, c2, wt.tl, fun i p hp => ?_⟩
  have hil := (List.getElem?_eq_some_iff.1 hp).1
  obtain ⟨g, rfl, hcc⟩ := hc (by omega)
  have hb : bs[i]? = some bs[i] := List.getElem?_eq_getElem (by omega)
  refine ⟨g, bs[i], rfl, hcc i _ hb, hide (fun V hV => ?_), hide (fun V hV => (wt.below hV).over hb hp), hide (fun V hV => rover_any (r.below hV) (by have := wt.tl; omega) hp), hide (fun V hV => ?_)⟩
  · obtain ⟨l, wd⟩ := (wt.below hV).wd
    exact wid wd hb
  · obtain ⟨l, wd⟩ := (wt.below hV).wd
    obtain ⟨a, s, tv, ev, mm, q1, q2, _⟩ := wd.ex
    subst q1
    have hb' : (s.ts.map Tc.b)[i]? = some bs[i] := by rw [q2]; exact hb
    obtain ⟨t, hi, e⟩ := mm.task hb'
    rw [← e]
    exact runtime_any mm.rt hi
end

end Go.Proofs.Ytennciddjkijaaa

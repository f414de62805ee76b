/-
  Texts put into one.
-/
import Derived.Test.YtgjpbekmkhanhaaGreatQkcd70d1b9

/-
  The law's world between steps: what is asked of it.
-/
namespace Go.Proofs.YtgjpbekmkhanhaaGreat.CH
open Go.RowKit QW
set_option maxRecDepth 100000
set_option linter.unusedSimpArgs false
set_option linter.unusedVariables false

def Sg.pkd (σ : Sg) : List Int := ((List.range σ.tk.length).map Int.ofNat).filter fun k => decide ((σ.p k.toNat).st = 3)

section
variable {w w' : World} {L B : Nat} {pv cv tvv ev : Value} {a : Ad} {s : Rs} {A : Nat → Bool} {zs : List Zc} {m : Nat} {K : Nat → Pkr} {σ : Sg} {lab : Lb}
theorem Wm.live (h : Wm w L B pv cv tvv ev a s A zs m K σ lab) {i : Nat} {t : Tc} {p : Pt} (hi : s.ts[i]? = some t) (hp : σ.tk[i]? = some p) : s.live i = (p.st != 0) := by
  have ht := h.cl i t p hi hp
  rw [live_goes hi]
  have hle := ht.le
  have : p.st = 0 ∨ p.st = 1 ∨ p.st = 2 ∨ p.st = 3 := by omega
  rcases this with e | e | e | e
  · simp [Tc.goes, ht.r0 e, e, on]
  · simp [Tc.goes, (ht.r1 e).1.on, e]
  · simp [(ht.r2 e).1, e]
  · simp [Tc.goes, (ht.r3 e).2.1, pkv, on, e]
theorem Wm.pkd (h : Wm w L B pv cv tvv ev a s A zs m K σ lab) : s.parked = σ.pkd := by
  unfold Rs.parked Sg.pkd
  rw [h.len]
  refine List.filter_congr (fun k hk => ?_)
  obtain ⟨i, hi, rfl⟩ := List.mem_map.1 hk
  have hil := List.mem_range.1 hi
  have hp := of_p hil
  have hil2 : i < s.ts.length := by rw [h.len]; exact hil
  have ht : s.ts[i]? = some s.ts[i] := List.getElem?_eq_getElem hil2
  have hs := h.cl i _ _ ht hp
  have hle := hs.le
  have h4 : (σ.p i).st = 0 ∨ (σ.p i).st = 1 ∨ (σ.p i).st = 2 ∨ (σ.p i).st = 3 := by omega
  simp only [Rs.pk]
  show (s.ts[(i : Int).toNat]?.map fun t => on t.wk).getD false = decide ((σ.p (i : Int).toNat).st = 3)
  rw [Int.toNat_natCast, ht]
  rcases h4 with e | e | e | e
  · simp [e, (hs.r0 e).2.2, on]
  · simp [e, (hs.r1 e).2, on]
  · simp [e, (hs.r2 e).2.2, on]
  · simp [e, (hs.r3 e).2.1, pkv, on]
end

/-- The law's world, begun at w0. -/
def Lw (w0 wm : World) (pa : Option Addr) (np pcap : Nat) (ps : List (List Dop)) (Pb : Nat → Prop) (B R : Nat) (zs : List Zc) (σ : Sg) (N : Nat) (w : World) : Prop :=
  ∃ (cv tvv : Value) (bs : List Nat) (lab : Lb), Wt w w0.heap.size B pa np pcap ps Pb cv tvv R zs bs σ N lab ∧ Below w0.heap.size w0 w ∧ ∀ k, Pb k → w.heap[k]? = wm.heap[k]?

section
variable {w0 wm w w' : World} {pa : Option Addr} {np pcap : Nat} {ps : List (List Dop)} {Pb : Nat → Prop} {B R E N : Nat} {zs : List Zc} {σ σ' : Sg} {sz : List Nat}

theorem Lw.of (h : Bgn w0 sz np (.slice pa np pcap) B E R w) (hP : Pgs Pb sz.length w0 pa np pcap ps) (hPl : ∀ k, Pb k → k < w0.heap.size) : ∃ zs, zs.length = sz.length ∧ Lw w0 w0 pa np pcap ps Pb B R zs (bsg sz sz.length np) 0 w := by
  obtain ⟨cv, tvv, left, zs, bs, lab, vs, rl, wd, _, _, _, _, _, _, _, _, _, bl⟩ := h
  obtain ⟨ev, a, s, A, K, hm, q1, q2, q3, q4⟩ := id wd.ex
  have hzl : zs.length = sz.length := by have := hm.cn; simp [bsg] at this; exact this
  refine ⟨zs, hzl, cv, tvv, bs, lab, ⟨⟨left, wd⟩, by rw [hzl]; exact hP.keep (fun k hk => bl.block k (hPl k hk)), fun k hk => ⟨?_, Nat.lt_of_lt_of_le (hPl k hk) bl.size⟩, bl.size, fun p hp => ?_, Nat.zero_le _, ?_⟩, bl, fun k hk => bl.block k (hPl k hk)⟩
  · cases e : lab k with
    | none => rfl
    | some l => have := (hm.lo k l e).1; have := hPl k hk; omega
  · obtain ⟨_, rfl⟩ := List.mem_replicate.1 hp
    exact Nat.zero_le _
  · rw [← q2, List.length_map, hm.len]
    simp [bsg]

theorem Lw.bel (h : Lw w0 wm pa np pcap ps Pb B R zs σ N w) : Below w0.heap.size w0 w := by
  obtain ⟨_, _, _, _, _, hb, _⟩ := h
  exact hb
/-- Behind a call that leaves the world so. -/
theorem Wt.on {cv tvv : Value} {bs : List Nat} {lab lab' : Lb} {left : Nat} (h : Wt w w0.heap.size B pa np pcap ps Pb cv tvv R zs bs σ N lab) (hb : Below w0.heap.size w0 w ∧ ∀ k, Pb k → w.heap[k]? = wm.heap[k]?) (hw : Wd w' w0.heap.size B (.slice pa np pcap) cv tvv R zs bs N σ' none left lab') (hy : Wy w lab w' lab') (ho : Bnd N σ') (he : σ'.ev.length ≤ N) : Lw w0 wm pa np pcap ps Pb B R zs σ' N w' := by
  obtain ⟨p1, p2, p3⟩ := h.keep hy h.pg
  refine ⟨cv, tvv, bs, lab', ⟨⟨left, hw⟩, p1, p2, p3, ho, he, h.bn⟩, hb.1.trans (hy.tb.below (fun k hk => ?_) hb.1.size), fun k hk => (hy.row (h.pl k hk).1 (h.pl k hk).2).1.trans (hb.2 k hk)⟩
  obtain ⟨l, hl⟩ := Option.ne_none_iff_exists'.1 hk
  obtain ⟨_, wd⟩ := h.wd
  obtain ⟨ev, a, s, A, K, hm, _⟩ := wd.ex
  exact (hm.lo k l hl).1
theorem Lw.below (h : Lw w0 wm pa np pcap ps Pb B R zs σ N w) (hb : Below w.heap.size w w') : Lw w0 wm pa np pcap ps Pb B R zs σ N w' := by
  obtain ⟨cv, tvv, bs, lab, ht, h0⟩ := h
  obtain ⟨left, wd⟩ := ht.wd
  obtain ⟨lab', h1, h2⟩ := wd.below ht.low hb
  exact ht.on h0 h1 h2 ht.ok ht.el

/-- Blocks more that are to stay. -/
theorem Lw.more (h : Lw w0 wm pa np pcap ps Pb B R zs σ N w) (hb : Below w.heap.size w w') {Q : Nat → Prop} (hQ : ∀ k, Q k → w.heap.size ≤ k ∧ k < w'.heap.size) : Lw w0 w' pa np pcap ps (fun k => Pb k ∨ Q k) B R zs σ N w' := by
  obtain ⟨cv, tvv, bs, lab, ht, h0⟩ := h
  obtain ⟨left, wd⟩ := ht.wd
  obtain ⟨lab', h1, h2, hn⟩ := wd.below2 ht.low hb
  obtain ⟨p1, p2, p3⟩ := ht.keep h2 ht.pg
  have hmono : ∀ {nc : Nat} {V : World} {a : Option Addr} {n cap : Nat} {ds : List Dop}, Dos Pb nc V a n cap ds → Dos (fun k => Pb k ∨ Q k) nc V a n cap ds := fun d => ⟨d.len, d.le, d.reach, d.c, fun hn => by
    obtain ⟨b, off, q1, q2⟩ := d.lies hn
    exact ⟨b, off, .inl q1, q2⟩⟩
  refine ⟨cv, tvv, bs, lab', ⟨⟨left, h1⟩, ⟨p1.len, p1.le, p1.reach, fun hn => ?_⟩, fun k hk => ?_, p3, ht.ok, ht.el, ht.bn⟩, h0.1.trans (h2.tb.below (fun k hk => ?_) h0.1.size), fun _ _ => rfl⟩
  · obtain ⟨b, off, q1, q2, q3⟩ := p1.lies hn
    refine ⟨b, off, .inl q1, q2, fun k hk => ?_⟩
    obtain ⟨a', n', c', r1, r2⟩ := q3 k hk
    exact ⟨a', n', c', r1, hmono r2⟩
  · rcases hk with hk | hk
    · exact p2 k hk
    · exact ⟨hn k (wd.fresh (hQ k hk).1), (hQ k hk).2⟩
  · obtain ⟨l, hl⟩ := Option.ne_none_iff_exists'.1 hk
    obtain ⟨ev, a, s, A, K, hm, _⟩ := wd.ex
    exact (hm.lo k l hl).1
theorem Lw.prot (h : Lw w0 wm pa np pcap ps Pb B R zs σ N w) {k : Nat} (hk : Pb k) : w.heap[k]? = wm.heap[k]? := by
  obtain ⟨_, _, _, _, _, _, hp⟩ := h
  exact hp k hk

theorem Lw.cR (h : Lw w0 wm pa np pcap ps Pb B R zs σ N w) : w.cell? ⟨B, 0, none⟩ = some (.pointer (some ⟨R, 0, none⟩)) := by
  obtain ⟨cv, tvv, bs, lab, ht, h0⟩ := h
  obtain ⟨left, wd⟩ := ht.wd
  obtain ⟨ev, hB, _⟩ := wd.blk
  exact cell_of_row _ _ 0 _ _ _ hB
theorem Lw.bad (h : Lw w0 wm pa np pcap ps Pb B R zs σ N w) : w.cell? ⟨B, 5, none⟩ = some (.bool false) := by
  obtain ⟨cv, tvv, bs, lab, ht, h0⟩ := h
  obtain ⟨left, wd⟩ := ht.wd
  obtain ⟨ev, hB, _⟩ := wd.blk
  exact cell_of_row _ _ 5 _ _ _ hB
theorem Lw.chan (h : Lw w0 wm pa np pcap ps Pb B R zs σ N w) {j : Nat} {z : Zc} (hz : zs[j]? = some z) : ∃ cg cc, w.cell? ⟨B, 2, none⟩ = some (.slice (some ⟨cg, 0, none⟩) zs.length cc) ∧ zs.length ≤ cc ∧ cc ≤ 9223372036854775807 ∧ w.cell? ⟨cg, j, none⟩ = some (.pointer (some ⟨z.C, 0, none⟩)) := by
  obtain ⟨cv, tvv, bs, lab, ht, h0⟩ := h
  obtain ⟨left, wd⟩ := ht.wd
  have hj : j < zs.length := (List.getElem?_eq_some_iff.1 hz).1
  obtain ⟨cg, cc, rfl, h1, h2, h3⟩ := wd.chan hj
  obtain ⟨ev, hB, _⟩ := wd.blk
  rw [(List.getElem?_eq_some_iff.1 hz).2] at h3
  exact ⟨cg, cc, cell_of_row _ _ 2 _ _ _ hB, h1, h2, h3⟩
theorem Lw.len (h : Lw w0 wm pa np pcap ps Pb B R zs σ N w) : σ.ch.length = zs.length := by
  obtain ⟨cv, tvv, bs, lab, ht, h0⟩ := h
  obtain ⟨left, wd⟩ := ht.wd
  obtain ⟨ev, a, s, A, K, hm, _⟩ := wd.ex
  exact hm.cn.symm

theorem Lw.step (h : Lw w0 wm pa np pcap ps Pb B R zs σ N w) (hN : N ≤ 100000) (p : Nat) (hp : p ≤ 18446744073709551615) :
    Calls Tryz.prog 12 #[.pointer (some ⟨R, 0, none⟩), .int .u64 p] w fun e w' => e = .returned (.bool (decide (σ.line ≠ []))) ∧ Lw w0 wm pa np pcap ps Pb B R zs (σ.step ps p) (N + 1) w' := by
  obtain ⟨cv, tvv, bs, lab, ht, h0⟩ := h
  refine (wstep ht hN p hp).mono ?_
  rintro e w' ⟨rfl, lab', ht', hy⟩
  refine ⟨rfl, cv, tvv, bs, lab', ht', h0.1.trans (hy.tb.below (fun k hk => ?_) h0.1.size), fun k hk => (hy.row (ht.pl k hk).1 (ht.pl k hk).2).1.trans (h0.2 k hk)⟩
  obtain ⟨l, hl⟩ := Option.ne_none_iff_exists'.1 hk
  obtain ⟨_, wd⟩ := ht.wd
  obtain ⟨ev, a, s, A, K, hm, _⟩ := wd.ex
  exact (hm.lo k l hl).1
theorem Lw.ready (h : Lw w0 wm pa np pcap ps Pb B R zs σ N w) :
    Calls Tryz.prog 15 #[.pointer (some ⟨R, 0, none⟩)] w fun e w' => ∃ p cap, e = .returned (.slice p σ.line.length cap) ∧ QI.Ls w' p σ.line.length cap σ.line ∧ Below w.heap.size w w' := by
  obtain ⟨cv, tvv, bs, lab, ht, h0⟩ := h
  obtain ⟨left, wd⟩ := ht.wd
  obtain ⟨ev, a, s, A, K, hm, q1, _⟩ := wd.ex
  subst q1
  have := readys_any hm.rt
  rw [hm.ln] at this
  refine this.mono ?_
  rintro e w' ⟨p, cap, rfl, hr, hb⟩
  exact ⟨p, cap, rfl, QI.own_ls hr, hb⟩
theorem Lw.parked (h : Lw w0 wm pa np pcap ps Pb B R zs σ N w) :
    Calls Tryz.prog 53 #[.pointer (some ⟨R, 0, none⟩)] w fun e w' => ∃ p cap, e = .returned (.slice p σ.pkd.length cap) ∧ QI.Ls w' p σ.pkd.length cap σ.pkd ∧ Below w.heap.size w w' := by
  obtain ⟨cv, tvv, bs, lab, ht, h0⟩ := h
  obtain ⟨left, wd⟩ := ht.wd
  obtain ⟨ev, a, s, A, K, hm, q1, _⟩ := wd.ex
  subst q1
  have := parked_any hm.rt
  rw [hm.pkd] at this
  refine this.mono ?_
  rintro e w' ⟨p, cap, rfl, hr, hb⟩
  exact ⟨p, cap, rfl, QI.own_ls hr, hb⟩
theorem row_at {base n size : Nat} {e : TypeId} {v : Value} {xs : List Value} (h : w.ownsRow base e size v n xs) (hn : 0 < n) : ∃ g cap, v = .slice (some ⟨g, 0, none⟩) n cap ∧ n ≤ cap ∧ cap ≤ 9223372036854775807 ∧ ∀ k y, xs[k]? = some y → w.cell? ⟨g, k, none⟩ = some y := by
  obtain ⟨a, cap, rfl⟩ := row_val h
  rcases id h.2 with ⟨_, e⟩ | ⟨g, cap, cur, e, hb, hg, hnc, hcm, _⟩
  · omega
  · unfold maxLen at hcm
    refine ⟨g, cap, e, hnc, by omega, fun k y hk => ?_⟩
    have hcell := h.cells (g := g) (by rw [e]; rfl) k y hk
    rw [Addr.add_lit, Nat.zero_add] at hcell
    exact hcell
theorem Lw.over (h : Lw w0 wm pa np pcap ps Pb B R zs σ N w) {i : Nat} (hi : i < σ.tk.length) : ∃ tg tc b, w.cell? ⟨B, 3, none⟩ = some (.slice (some ⟨tg, 0, none⟩) σ.tk.length tc) ∧ σ.tk.length ≤ tc ∧ tc ≤ 9223372036854775807 ∧ w.cell? ⟨tg, i, none⟩ = some (.pointer (some ⟨b, 0, none⟩)) ∧
    Calls Tryz.prog 54 #[.pointer (some ⟨b, 0, none⟩)] w fun e w' => e = .returned (.bool (decide ((σ.p i).st = 0))) ∧ w' = w := by
  obtain ⟨cv, tvv, bs, lab, ht, h0⟩ := h
  obtain ⟨left, wd⟩ := ht.wd
  obtain ⟨ev, a, s, A, K, hm, q1, q2, _⟩ := wd.ex
  have hil : i < s.ts.length := by rw [hm.len]; exact hi
  obtain ⟨g, cap, hv, h1, h2, hc⟩ := row_at hm.tr (by omega)
  have hti : s.ts[i]? = some s.ts[i] := List.getElem?_eq_getElem hil
  have CO := over_any hm.rt hti
  rw [hm.live hti (of_p hi)] at CO
  have e : (!((σ.p i).st != 0)) = decide ((σ.p i).st = 0) := by
    by_cases h0 : (σ.p i).st = 0 <;> simp [h0]
  rw [e] at CO
  refine ⟨g, cap, (s.ts[i]).b, ?_, by rw [← hm.len]; exact h1, h2, hc i _ (by simp [hti]), CO⟩
  rw [← hm.len, ← hv]
  exact cell_of_row _ _ 3 _ _ _ hm.blk

theorem ev_get (l : List (Nat × Nat × Tld)) (k : Nat) {e : Nat × Nat × Tld} (hk : l[k]? = some e) : (l.flatMap evc)[k * 5]? = some (.int .i64 e.1) ∧ (l.flatMap evc)[k * 5 + 1]? = some (.int .i64 e.2.1) ∧ (l.flatMap evc)[k * 5 + 2]? = some (.int .i64 e.2.2.1) ∧ (l.flatMap evc)[k * 5 + 3]? = some (.int .i64 e.2.2.2.1) ∧ (l.flatMap evc)[k * 5 + 4]? = some (.bool e.2.2.2.2) := by
  induction l generalizing k with
  | nil => simp at hk
  | cons x l ih =>
    have h5 : (evc x).length = 5 := rfl
    cases k with
    | zero =>
      simp only [List.getElem?_cons_zero, Option.some.injEq] at hk
      subst hk
      simp [evc]
    | succ k =>
      simp only [List.getElem?_cons_succ] at hk
      obtain ⟨q1, q2, q3, q4, q5⟩ := ih k hk
      have key : ∀ r, (l.flatMap evc)[k * 5 + r]? = (((x :: l).flatMap evc))[(k + 1) * 5 + r]? := fun r => by
        rw [List.flatMap_cons, List.getElem?_append_right (by omega), h5]
        congr 1
        omega
      have k0 := key 0
      rw [Nat.add_zero, Nat.add_zero] at k0
      exact ⟨k0 ▸ q1, key 1 ▸ q2, key 2 ▸ q3, key 3 ▸ q4, key 4 ▸ q5⟩
theorem Lw.evs (h : Lw w0 wm pa np pcap ps Pb B R zs σ N w) (hn : 0 < σ.ev.length) : ∃ g cap, w.cell? ⟨B, 4, none⟩ = some (.slice (some ⟨g, 0, none⟩) σ.ev.length cap) ∧ σ.ev.length ≤ cap ∧ cap ≤ 9223372036854775807 ∧ ∀ k e, σ.ev[k]? = some e → w.cell? ⟨g, k * 5, none⟩ = some (.int .i64 e.1) ∧ w.cell? ⟨g, k * 5 + 1, none⟩ = some (.int .i64 e.2.1) ∧ w.cell? ⟨g, k * 5 + 2, none⟩ = some (.int .i64 e.2.2.1) ∧ w.cell? ⟨g, k * 5 + 3, none⟩ = some (.int .i64 e.2.2.2.1) ∧ w.cell? ⟨g, k * 5 + 4, none⟩ = some (.bool e.2.2.2.2) := by
  obtain ⟨cv, tvv, bs, lab, ht, h0⟩ := h
  obtain ⟨left, wd⟩ := ht.wd
  obtain ⟨ev, a, s, A, K, hm, q1, q2, _⟩ := wd.ex
  obtain ⟨g, cap, rfl, h1, h2, hc⟩ := row_at hm.er hn
  refine ⟨g, cap, cell_of_row _ _ 4 _ _ _ hm.blk, h1, h2, fun k e hk => ?_⟩
  obtain ⟨q1, q2, q3, q4, q5⟩ := ev_get σ.ev k hk
  exact ⟨hc _ _ q1, hc _ _ q2, hc _ _ q3, hc _ _ q4, hc _ _ q5⟩

theorem Lw.close (h : Lw w0 wm pa np pcap ps Pb B R zs σ N w) {j : Nat} {z : Zc} (hz : zs[j]? = some z) :
    Calls Tryz.prog 33 #[.pointer (some ⟨z.C, 0, none⟩)] w fun e w' => e = .returned (.int .i64 (if (σ.close j).1 then 0 else 150)) ∧ Lw w0 wm pa np pcap ps Pb B R zs (σ.close j).2 N w' := by
  obtain ⟨cv, tvv, bs, lab, ht, h0⟩ := h
  obtain ⟨left, wd⟩ := ht.wd
  refine (wclose wd ht.low hz).mono ?_
  rintro e w' ⟨rfl, lab', hw, hy⟩
  exact ⟨rfl, ht.on h0 hw hy (ht.ok.close j) (by rw [ev_close]; exact ht.el)⟩
theorem Lw.trySend (h : Lw w0 wm pa np pcap ps Pb B R zs σ N w) {j : Nat} {z : Zc} (hz : zs[j]? = some z) (v : Int) :
    Calls Tryz.prog 29 #[.pointer (some ⟨z.C, 0, none⟩), .int .i64 v] w fun e w' => e = .returned (.tuple #[.bool (if (σ.c j).canS then (σ.send j v).1 else false), .bool (σ.c j).canS]) ∧ Lw w0 wm pa np pcap ps Pb B R zs (if (σ.c j).canS then (σ.send j v).2 else σ) N w' := by
  obtain ⟨cv, tvv, bs, lab, ht, h0⟩ := h
  obtain ⟨left, wd⟩ := ht.wd
  refine (wtrySend wd ht.low hz v).mono ?_
  rintro e w' ⟨rfl, lab', hw, hy⟩
  refine ⟨rfl, ht.on h0 hw hy ?_ ?_⟩
  · split
    · exact ht.ok.send j v
    · exact ht.ok
  · split
    · rw [ev_send]; exact ht.el
    · exact ht.el
theorem Lw.tryRecv (h : Lw w0 wm pa np pcap ps Pb B R zs σ N w) {j : Nat} {z : Zc} (hz : zs[j]? = some z) :
    Calls Tryz.prog 30 #[.pointer (some ⟨z.C, 0, none⟩)] w fun e w' => e = .returned (.tuple #[.int .i64 (if (σ.c j).canR then (σ.recv j).1 else 0), .bool (if (σ.c j).canR then (σ.recv j).2.1 else false), .bool (σ.c j).canR]) ∧ Lw w0 wm pa np pcap ps Pb B R zs (if (σ.c j).canR then (σ.recv j).2.2 else σ) N w' := by
  obtain ⟨cv, tvv, bs, lab, ht, h0⟩ := h
  obtain ⟨left, wd⟩ := ht.wd
  refine (wtryRecv wd ht.low hz).mono ?_
  rintro e w' ⟨rfl, lab', hw, hy⟩
  refine ⟨rfl, ht.on h0 hw hy ?_ ?_⟩
  · split
    · exact ht.ok.recv j
    · exact ht.ok
  · split
    · rw [ev_recv]; exact ht.el
    · exact ht.el
theorem mem_bufs (K : Nat → Pkr) (c : Cz) : (mem K c).buf = c.buf ∧ (mem K c).snd.length = c.snd.length ∧ (mem K c).rcv.length = c.rcv.length ∧ (mem K c).cl = c.cl := by simp [mem]
theorem Lw.clen (h : Lw w0 wm pa np pcap ps Pb B R zs σ N w) {j : Nat} {z : Zc} (hz : zs[j]? = some z) :
    Calls Tryz.prog 34 #[.pointer (some ⟨z.C, 0, none⟩)] w fun e w' => e = .returned (.int .i64 (σ.c j).buf.length) ∧ w' = w := by
  have hl := h.len
  obtain ⟨cv, tvv, bs, lab, ht, h0⟩ := h
  obtain ⟨left, wd⟩ := ht.wd
  obtain ⟨ev, a, s, A, K, hm, q1, q2, _⟩ := wd.ex
  have hc := of_c (σ := σ) (j := j) (by have := (List.getElem?_eq_some_iff.1 hz).1; omega)
  exact clen_any (hm.ch j z _ hz hc).2.2
theorem Lw.cclosed (h : Lw w0 wm pa np pcap ps Pb B R zs σ N w) {j : Nat} {z : Zc} (hz : zs[j]? = some z) :
    Calls Tryz.prog 36 #[.pointer (some ⟨z.C, 0, none⟩)] w fun e w' => e = .returned (.bool (σ.c j).cl) ∧ w' = w := by
  have hl := h.len
  obtain ⟨cv, tvv, bs, lab, ht, h0⟩ := h
  obtain ⟨left, wd⟩ := ht.wd
  obtain ⟨ev, a, s, A, K, hm, q1, q2, _⟩ := wd.ex
  have hc := of_c (σ := σ) (j := j) (by have := (List.getElem?_eq_some_iff.1 hz).1; omega)
  exact cclosed_any (hm.ch j z _ hz hc).2.2
theorem Lw.cwaits (h : Lw w0 wm pa np pcap ps Pb B R zs σ N w) {j : Nat} {z : Zc} (hz : zs[j]? = some z) :
    Calls Tryz.prog 46 #[.pointer (some ⟨z.C, 0, none⟩)] w fun e w' => e = .returned (.tuple #[.int .i64 (σ.c j).snd.length, .int .i64 (σ.c j).rcv.length]) ∧ Lw w0 wm pa np pcap ps Pb B R zs σ N w' := by
  have hl := h.len
  obtain ⟨cv, tvv, bs, lab, ht, h0⟩ := h
  obtain ⟨left, wd⟩ := ht.wd
  obtain ⟨ev, a, s, A, K, hm, q1, q2, q3, q4⟩ := wd.ex
  have hc := of_c (σ := σ) (j := j) (by have := (List.getElem?_eq_some_iff.1 hz).1; omega)
  obtain ⟨_, e2, e3, _⟩ := mem_bufs K (σ.c j)
  have CW := waits_any (hm.ch j z _ hz hc).2.2
  rw [e2, e3] at CW
  refine CW.mono ?_
  rintro e w' ⟨rfl, D', hd, x⟩
  obtain ⟨h1, h2⟩ := hm.quiet ht.low hz hd x
  exact ⟨rfl, ht.on h0 ⟨_, _, _, _, _, h1, q1, q2, q3, q4⟩ h2 ht.ok ht.el⟩
end

end Go.Proofs.YtgjpbekmkhanhaaGreat.CH

/-
  The chapter's example.
-/
namespace Go.Proofs.YtgjpbekmkhanhaaGreat.CH
open Go.RowKit QW
set_option maxRecDepth 100000
set_option linter.unusedSimpArgs false
set_option linter.unusedVariables false

def ps0 : List (List Dop) := [[⟨2, 0, 5⟩, ⟨4, 0, 0⟩], [⟨3, 0, 0⟩, ⟨3, 0, 0⟩]]
def sa0 : Sg := bsg [0] 1 2
def sa1 : Sg := sa0.step ps0 0
def sa2 : Sg := sa1.step ps0 0
def sa3 : Sg := sa2.step ps0 1
def sa4 : Sg := sa3.step ps0 0
def sa5 : Sg := sa4.step ps0 1
def sa6 : Sg := sa5.step ps0 0
/-- The event that is told last of those that are asked for. -/
def tln : List (Nat × Nat × Tld) → Nat × Nat × Tld → Nat × Nat × Tld
  | [], a => a
  | e :: r, a => tln r (if e.1 = 1 ∧ e.2.1 = 1 then e else a)

theorem sa_facts : ∃ t0 t1 t2 t3 t4 t5 t6 : Sg, sa0 = t0 ∧ t0.step ps0 0 = t1 ∧ t1.step ps0 0 = t2 ∧ t2.step ps0 1 = t3 ∧ t3.step ps0 0 = t4 ∧ t4.step ps0 1 = t5 ∧ t5.step ps0 0 = t6 ∧
    t0.line ≠ [] ∧ t1.pkd = [0] ∧ t1.line ≠ [] ∧ t2.line = [0, 1] ∧ t2.line ≠ [] ∧ t3.line ≠ [] ∧ t4.line ≠ [] ∧ t5.line ≠ [] ∧ t6.line = [] ∧ t6.ev.length = 6 ∧ tln t6.ev (0, 0, (0, 0, false)) = (1, 1, (0, 5, true)) ∧ (t6.close 0).1 = false ∧ (t6.close 0).2 = t6 ∧ (t6.p 1).st = 0 ∧ t6.tk.length = 2 :=
  ⟨sa0, sa1, sa2, sa3, sa4, sa5, sa6, rfl, rfl, rfl, rfl, rfl, rfl, rfl, by decide, by decide, by decide, by decide, by decide, by decide, by decide, by decide, by decide, by decide, by decide, by decide, rfl, by decide, by decide⟩

def d1 : Obj := .cells #[.int .i64 2, .int .i64 0, .int .i64 5, .slice none 0 0, .bool false, .int .i64 4, .int .i64 0, .int .i64 0, .slice none 0 0, .bool false] (111 : TypeId)
def d2 : Obj := .cells #[.int .i64 3, .int .i64 0, .int .i64 0, .slice none 0 0, .bool false, .int .i64 3, .int .i64 0, .int .i64 0, .slice none 0 0, .bool false] (111 : TypeId)

/-- The example's world is begun. -/
theorem aw_begun (w V4 : World) (hV : V4 = ((((w.alloc d1).alloc d2).alloc (.cells #[.slice (some ⟨w.heap.size, 0, none⟩) 2 2, .slice (some ⟨w.heap.size + 1, 0, none⟩) 2 2] (108 : TypeId))).alloc (.cells #[.int .i64 0] 3))) :
    Below w.heap.size w V4 ∧ Calls Tryz.prog 11 #[.slice (some ⟨w.heap.size + 1 + 1, 0, none⟩) 2 2, .slice (some ⟨w.heap.size + 1 + 1 + 1, 0, none⟩) 1 1] V4 fun e w' => ∃ B E R z, e = .returned (.tuple #[.pointer (some ⟨B, 0, none⟩), .pointer (some ⟨E, 0, none⟩)]) ∧ Lw V4 V4 (some ⟨w.heap.size + 1 + 1, 0, none⟩) 2 2 ps0 (fun k => k = w.heap.size ∨ k = w.heap.size + 1 ∨ k = w.heap.size + 2) B R [z] sa0 0 w' := by
  obtain ⟨V1, h1⟩ : ∃ V1, V1 = w.alloc d1 := ⟨_, rfl⟩
  rw [← h1] at hV
  obtain ⟨V2, h2⟩ : ∃ V2, V2 = V1.alloc d2 := ⟨_, rfl⟩
  rw [← h2] at hV
  obtain ⟨V3, h3⟩ : ∃ V3, V3 = V2.alloc (.cells #[.slice (some ⟨w.heap.size, 0, none⟩) 2 2, .slice (some ⟨w.heap.size + 1, 0, none⟩) 2 2] (108 : TypeId)) := ⟨_, rfl⟩
  rw [← h3] at hV
  have b1 : Below w.heap.size w V1 := by rw [h1]; exact (Below.refl _ w).alloc (Nat.le_refl _) _
  have s1 : V1.heap.size = w.heap.size + 1 := by rw [h1]; simp
  have b2 : Below V1.heap.size V1 V2 := by rw [h2]; exact (Below.refl _ V1).alloc (Nat.le_refl _) _
  have s2 : V2.heap.size = w.heap.size + 2 := by rw [h2]; simp [s1]
  have b3 : Below V2.heap.size V2 V3 := by rw [h3]; exact (Below.refl _ V2).alloc (Nat.le_refl _) _
  have s3 : V3.heap.size = w.heap.size + 3 := by rw [h3]; simp [s2]
  have b4 : Below V3.heap.size V3 V4 := by rw [hV]; exact (Below.refl _ V3).alloc (Nat.le_refl _) _
  have s4 : V4.heap.size = w.heap.size + 4 := by rw [hV]; simp [s3]
  have e1 : V4.heap[w.heap.size]? = some (.cells #[.int .i64 2, .int .i64 0, .int .i64 5, .slice none 0 0, .bool false, .int .i64 4, .int .i64 0, .int .i64 0, .slice none 0 0, .bool false] (111 : TypeId) (0, 0)) := by
    rw [b4.block _ (by omega), b3.block _ (by omega), b2.block _ (by omega), h1]; exact heap_alloc_new w _
  have e2 : V4.heap[w.heap.size + 1]? = some (.cells #[.int .i64 3, .int .i64 0, .int .i64 0, .slice none 0 0, .bool false, .int .i64 3, .int .i64 0, .int .i64 0, .slice none 0 0, .bool false] (111 : TypeId) (0, 0)) := by
    rw [b4.block _ (by omega), b3.block _ (by omega), h2, ← s1]; exact heap_alloc_new V1 _
  have e3 : V4.heap[w.heap.size + 2]? = some (.cells #[.slice (some ⟨w.heap.size, 0, none⟩) 2 2, .slice (some ⟨w.heap.size + 1, 0, none⟩) 2 2] (108 : TypeId) (0, 0)) := by
    rw [b4.block _ (by omega), h3, ← s2]; exact heap_alloc_new V2 _
  have e4 : V4.heap[w.heap.size + 3]? = some (.cells #[.int .i64 0] 3 (0, 0)) := by rw [hV, ← s3]; exact heap_alloc_new V3 _
  refine ⟨(b1.trans (b2.mono (by omega))).trans ((b3.mono (by omega)).trans (b4.mono (by omega))), ?_⟩
  have CB := begun_any (w0 := V4) (sz := [0]) (pa := some ⟨w.heap.size + 1 + 1, 0, none⟩) (np := 2) (pcap := 2) (nc := 1) (scap := 1) (sb := w.heap.size + 1 + 1 + 1) (so := 0) (by omega) rfl (by simp) (by omega) (fun i n hi => by
    have hl := (List.getElem?_eq_some_iff.1 hi).1
    simp at hl
    subst hl
    simp at hi
    subst hi
    exact cell_of_row V4 (w.heap.size + 3) 0 _ _ _ e4) (by omega) (by omega)
  refine CB.mono ?_
  rintro e w' ⟨B, E, R, rfl, hb⟩
  have hP : Pgs (fun k => k = w.heap.size ∨ k = w.heap.size + 1 ∨ k = w.heap.size + 2) 1 V4 (some ⟨w.heap.size + 1 + 1, 0, none⟩) 2 2 ps0 := by
    refine ⟨rfl, by omega, by omega, fun _ => ⟨w.heap.size + 2, 0, .inr (.inr rfl), rfl, fun k hk => ?_⟩⟩
    have hd : ∀ g (o0 o1 : Dop) (r0 r1 : Value), (g = w.heap.size ∨ g = w.heap.size + 1 ∨ g = w.heap.size + 2) → V4.heap[g]? = some (.cells #[.int .i64 o0.kind, .int .i64 o0.c, .int .i64 o0.v, .slice none 0 0, .bool false, .int .i64 o1.kind, .int .i64 o1.c, .int .i64 o1.v, .slice none 0 0, .bool false] (111 : TypeId) (0, 0)) → (∀ d ∈ [o0, o1], 0 ≤ d.c ∧ d.c < ((1 : Nat) : Int) ∧ d.kind ≠ 5) →
        Dos (fun k => k = w.heap.size ∨ k = w.heap.size + 1 ∨ k = w.heap.size + 2) 1 V4 (some ⟨g, 0, none⟩) 2 2 [o0, o1] := fun g o0 o1 r0 r1 hg hb hc => ⟨rfl, by omega, by omega, hc, fun _ => ⟨g, 0, hg, rfl, fun k d hk => by
      have hl := (List.getElem?_eq_some_iff.1 hk).1
      simp at hl
      rcases (by omega : k = 0 ∨ k = 1) with rfl | rfl
      · simp at hk
        subst hk
        exact ⟨cell_of_row _ _ 0 _ _ _ hb, cell_of_row _ _ 1 _ _ _ hb, cell_of_row _ _ 2 _ _ _ hb, ⟨_, _, _, cell_of_row _ _ 3 _ _ _ hb⟩, _, cell_of_row _ _ 4 _ _ _ hb⟩
      · simp at hk
        subst hk
        exact ⟨cell_of_row _ _ 5 _ _ _ hb, cell_of_row _ _ 6 _ _ _ hb, cell_of_row _ _ 7 _ _ _ hb, ⟨_, _, _, cell_of_row _ _ 8 _ _ _ hb⟩, _, cell_of_row _ _ 9 _ _ _ hb⟩⟩⟩
    rcases (by omega : k = 0 ∨ k = 1) with rfl | rfl
    · exact ⟨_, _, _, cell_of_row _ _ 0 _ _ _ e3, hd _ ⟨2, 0, 5⟩ ⟨4, 0, 0⟩ undef undef (.inl rfl) e1 (by simp)⟩
    · exact ⟨_, _, _, cell_of_row _ _ 1 _ _ _ e3, hd _ ⟨3, 0, 0⟩ ⟨3, 0, 0⟩ undef undef (.inr (.inl rfl)) e2 (by simp)⟩
  obtain ⟨zs, hzl, hL⟩ := Lw.of hb.out hP (fun k hk => by omega)
  obtain ⟨z, rfl⟩ : ∃ z, zs = [z] := by
    match zs, hzl with
    | [z], _ => exact ⟨z, rfl⟩
  exact ⟨B, E, R, z, rfl, hL⟩

theorem ls_lit (w : World) (g : Nat) (hg : w.heap.size = g) (xs : List Int) (hl : xs.length ≤ 1000) (h0 : 0 < xs.length) : QI.Ls (w.alloc (.cells (xs.map fun x => Value.int .i64 x).toArray 3)) (some ⟨g, 0, none⟩) xs.length xs.length xs := by
  subst hg
  refine ⟨rfl, by omega, by omega, fun _ => ⟨_, 0, rfl, fun i hi => ?_⟩⟩
  rw [cell_of_row _ _ _ _ _ _ (heap_alloc_new w _), Nat.zero_add]
  simp [List.getD, List.getElem?_eq_getElem hi]

set_option maxHeartbeats 4000000 in
theorem awake_any (w : World) : Calls Tryz.prog 10 #[] w fun e w' => e = .returned (.bool true) ∧ Below w.heap.size w w' := by
  obtain ⟨t0, t1, t2, t3, t4, t5, t6, r0, r1, r2, r3, r4, r5, r6, f1, f2, f3, f4, f5, f6, f7, f8, f9, f10, f11, f12, f12', f13, f14⟩ := sa_facts
  obtain ⟨V4, hV4⟩ : ∃ V4, V4 = ((((w.alloc d1).alloc d2).alloc (.cells #[.slice (some ⟨w.heap.size, 0, none⟩) 2 2, .slice (some ⟨w.heap.size + 1, 0, none⟩) 2 2] (108 : TypeId))).alloc (.cells #[.int .i64 0] 3)) := ⟨_, rfl⟩
  obtain ⟨bV, CB⟩ := aw_begun w V4 hV4
  rw [r0] at CB
  have F1 := hide f1
  have F2 := hide f2
  have F3 := hide f3
  have F4 := hide f4
  have F5 := hide f5
  have F6 := hide f6
  have F7 := hide f7
  have F8 := hide f8
  have F9 := hide f9
  have F10 := hide f10
  have F11 := hide f11
  have F12 := hide (And.intro f12 f12')
  have F13 := hide f13
  have F14 := hide f14
  have R1 := hide r1
  have R2 := hide r2
  have R3 := hide r3
  have R4 := hide r4
  have R5 := hide r5
  have R6 := hide r6
  clear f1 f2 f3 f4 f5 f6 f7 f8 f9 f10 f11 f12 f12' f13 f14 r0 r1 r2 r3 r4 r5 r6
  generalize ps0 = ps at *
  have HBV := hide bV
  generalize hPb : (fun k => k = w.heap.size ∨ k = w.heap.size + 1 ∨ k = w.heap.size + 2) = Pb at CB
  go_enter Tryz.func10, Tryz.ntmps10
  go_wp2_with fail
  unfold d1 d2 at hV4
  rw [← hV4]
  refine CB.mono ?_
  clear CB hV4 bV hPb
  rintro e w1 ⟨B, E, R, z, rfl, l1⟩
  generalize (some (⟨w.heap.size + 1 + 1, 0, none⟩ : Addr)) = pa at *
  have c0 := l1.cR
  have C1 := l1.step (by omega) 0 (by omega)
  rw [decide_eq_true F1.out, R1.out] at C1
  have HC1 := hide C1
  clear C1 l1
  go_wp2_with fail
  refine HC1.out.mono ?_
  rintro e w2 ⟨rfl, l2⟩
  have c0 := l2.cR
  have C2 := l2.parked
  rw [F2.out] at C2
  simp only [List.length_cons, List.length_nil, Nat.zero_add] at C2
  have HC2 := hide C2
  have HL2 := hide l2
  clear C2 l2 HC1
  go_wp2_with fail
  refine HC2.out.mono ?_
  rintro e w3 ⟨p3, k3, rfl, ho3, hb3⟩
  obtain ⟨q3, hq3⟩ : ∃ q, Hid (q = w3.heap.size) := ⟨_, hide rfl⟩
  obtain ⟨Y3, hY3⟩ : ∃ V, Hid (V = w3.alloc (.cells #[.int .i64 0] 3)) := ⟨_, hide rfl⟩
  have bY3 : Below w3.heap.size w3 Y3 := by rw [hY3.out]; exact (Below.refl _ w3).alloc (Nat.le_refl _) _
  have CS3 := QI.same_yes p3 (some ⟨q3, 0, none⟩) 1 k3 1 [0] Y3 (ho3.keep bY3) (by rw [hY3.out]; exact ls_lit w3 q3 hq3.out.symm [0] (by simp) (by simp))
  have HB3 : Hid (∀ m, Below w2.heap.size w2 (Y3.drewN m)) := hide (fun m => hb3.trans ((below_drewN bY3 m).mono hb3.size))
  have HQ3 : Hid (w3.heap.size = q3) := hide hq3.out.symm
  clear ho3 hb3 bY3 HC2
  go_wp2_with (first | (rw [← hY3.out, HQ3.out]))
  refine CS3.mono ?_
  rintro e w4 ⟨rfl, m4, hw4⟩
  have l4 := HL2.out.below (HB3.out m4)
  rw [← hw4] at l4
  have c0 := l4.cR
  have C4 := l4.step (by omega) 0 (by omega)
  rw [decide_eq_true F3.out, R2.out] at C4
  have HC4 := hide C4
  clear C4 l4 CS3 HB3 HL2 hY3 HQ3 hw4
  go_wp2_with fail
  refine HC4.out.mono ?_
  rintro e w5 ⟨rfl, l5⟩
  have c0 := l5.cR
  have C5 := l5.ready
  rw [F4.out] at C5
  simp only [List.length_cons, List.length_nil, Nat.zero_add, Nat.reduceAdd] at C5
  have HC5 := hide C5
  have HL5 := hide l5
  clear C5 l5 HC4
  go_wp2_with fail
  refine HC5.out.mono ?_
  rintro e w6 ⟨p6, k6, rfl, ho6, hb6⟩
  obtain ⟨q6, hq6⟩ : ∃ q, Hid (q = w6.heap.size) := ⟨_, hide rfl⟩
  obtain ⟨Y6, hY6⟩ : ∃ V, Hid (V = w6.alloc (.cells #[.int .i64 0, .int .i64 1] 3)) := ⟨_, hide rfl⟩
  have bY6 : Below w6.heap.size w6 Y6 := by rw [hY6.out]; exact (Below.refl _ w6).alloc (Nat.le_refl _) _
  have CS6 := QI.same_yes p6 (some ⟨q6, 0, none⟩) 2 k6 2 [0, 1] Y6 (ho6.keep bY6) (by rw [hY6.out]; exact ls_lit w6 q6 hq6.out.symm [0, 1] (by simp) (by simp))
  have HB6 : Hid (∀ m, Below w5.heap.size w5 (Y6.drewN m)) := hide (fun m => hb6.trans ((below_drewN bY6 m).mono hb6.size))
  have HQ6 : Hid (w6.heap.size = q6) := hide hq6.out.symm
  clear ho6 hb6 bY6 HC5
  go_wp2_with (first | (rw [← hY6.out, HQ6.out]))
  refine CS6.mono ?_
  rintro e w7 ⟨rfl, m7, hw7⟩
  have l7 := HL5.out.below (HB6.out m7)
  rw [← hw7] at l7
  have c0 := l7.cR
  -- Run
  obtain ⟨q7, hq7⟩ : ∃ q, Hid (q = w7.heap.size) := ⟨_, hide rfl⟩
  obtain ⟨Y7, hY7⟩ : ∃ V, Hid (V = w7.alloc (.cells #[.int .u64 1, .int .u64 0] (38 : TypeId))) := ⟨_, hide rfl⟩
  have bY7 : Below w7.heap.size w7 Y7 := by rw [hY7.out]; exact (Below.refl _ w7).alloc (Nat.le_refl _) _
  have hY7q : Y7.heap[q7]? = some (.cells #[.int .u64 1, .int .u64 0] (38 : TypeId) (0, 0)) := by rw [hY7.out, hq7.out]; exact heap_alloc_new w7 _
  have lY7 := l7.more bY7 (Q := fun k => k = q7) (fun k hk => by subst hk; exact ⟨Nat.le_of_eq hq7.out.symm, heap_lt hY7q⟩)
  have HQ7 : Hid (w7.heap.size = q7) := hide hq7.out.symm
  have HUs : ∀ V : World, V.heap[q7]? = Y7.heap[q7]? → Us V (some ⟨q7, 0, none⟩) 2 2 [1, 0] := fun V hV => ⟨rfl, by omega, by omega, by simp, fun _ => ⟨q7, 0, rfl, fun i hi => by
    rw [hY7q] at hV
    rcases (by omega : i = 0 ∨ i = 1) with rfl | rfl
    · exact cell_of_row _ _ 0 _ _ _ hV
    · exact cell_of_row _ _ 1 _ _ _ hV⟩⟩
  have CR := run_gen (w := Y7) (R := R) (m := 20) (ua := some ⟨q7, 0, none⟩) (ul := 2) (uc := 2) (us := [1, 0]) (by omega)
    (fun k V => ∃ t, (k = 0 ∧ t = t2 ∨ k = 1 ∧ t = t3 ∨ k = 2 ∧ t = t4 ∨ k = 3 ∧ t = t5 ∨ k = 4 ∧ t = t6) ∧ Lw V4 Y7 pa 2 2 ps (fun k => Pb k ∨ k = q7) B R [z] t (2 + k) V) (fun V => Lw V4 Y7 pa 2 2 ps (fun k => Pb k ∨ k = q7) B R [z] t6 7 V)
    (fun k V h => by
      obtain ⟨t, _, hl⟩ := h
      exact HUs V (hl.prot (.inr rfl)))
    (fun k V h hk => by
      obtain ⟨t, hk4, hl⟩ := h
      have CS := hl.step (by omega) (pk [1, 0] k) (pk_le (HUs V (hl.prot (.inr rfl))) k)
      refine CS.mono ?_
      rintro e w' ⟨rfl, h'⟩
      refine ⟨_, rfl, ?_⟩
      rcases hk4 with ⟨rfl, rfl⟩ | ⟨rfl, rfl⟩ | ⟨rfl, rfl⟩ | ⟨rfl, rfl⟩ | ⟨rfl, rfl⟩
      · rw [show pk [1, 0] 0 = 1 from rfl, R3.out] at h'
        exact ⟨fun _ => ⟨_, .inr (.inl ⟨rfl, rfl⟩), h'⟩, fun h0 => absurd F5.out (of_decide_eq_false h0)⟩
      · rw [show pk [1, 0] 1 = 0 from rfl, R4.out] at h'
        exact ⟨fun _ => ⟨_, .inr (.inr (.inl ⟨rfl, rfl⟩)), h'⟩, fun h0 => absurd F6.out (of_decide_eq_false h0)⟩
      · rw [show pk [1, 0] 2 = 1 from rfl, R5.out] at h'
        exact ⟨fun _ => ⟨_, .inr (.inr (.inr (.inl ⟨rfl, rfl⟩))), h'⟩, fun h0 => absurd F7.out (of_decide_eq_false h0)⟩
      · rw [show pk [1, 0] 3 = 0 from rfl, R6.out] at h'
        exact ⟨fun _ => ⟨_, .inr (.inr (.inr (.inr ⟨rfl, rfl⟩))), h'⟩, fun h0 => absurd F8.out (of_decide_eq_false h0)⟩
      · refine ⟨fun h0 => absurd F9.out (of_decide_eq_true h0), fun _ => ?_⟩
        have e6 : t.step ps (pk [1, 0] 4) = t := by unfold Sg.step; rw [if_pos F9.out]
        rwa [e6] at h')
    (fun V h => by obtain ⟨t, hk4, hl⟩ := h; omega) ⟨t2, .inl ⟨rfl, rfl⟩, lY7⟩
  have HCR := hide CR
  clear CR CS6 HB6 HL5 hY6 HQ6 hw7 l7 lY7 bY7 hY7q HUs
  go_wp2_with (first | (rw [← hY7.out, HQ7.out]))
  refine HCR.out.mono ?_
  rintro e w8 ⟨kr, _, rfl, hl8⟩
  obtain ⟨ge, gc, ce, he1, he2, hcell⟩ := hl8.out.evs (by rw [F10.out]; omega)
  rw [F10.out] at ce he1
  have HEV := hide hcell
  have bT := (Below.refl _ w8).alloc (Nat.le_refl _) (.cells #[.int .i64 0, .int .i64 0, .int .i64 0, .int .i64 0, .bool false] (113 : TypeId))
  obtain ⟨T, hT⟩ : ∃ T, Hid (w8.heap.size = T) := ⟨_, hide rfl⟩
  obtain ⟨W9, hW9⟩ : ∃ W9, Hid (W9 = w8.alloc (.cells #[.int .i64 0, .int .i64 0, .int .i64 0, .int .i64 0, .bool false] (113 : TypeId))) := ⟨_, hide rfl⟩
  have hT9 : W9.heap[T]? = some (.cells #[.int .i64 0, .int .i64 0, .int .i64 0, .int .i64 0, .bool false] (113 : TypeId) (0, 0)) := by rw [hW9.out, ← hT.out]; exact heap_alloc_new w8 _
  have ce' : (w8.alloc (.cells #[.int .i64 0, .int .i64 0, .int .i64 0, .int .i64 0, .bool false] (113 : TypeId))).cell? ⟨B, 4, none⟩ = some (.slice (some ⟨ge, 0, none⟩) 6 gc) := (bT.cell (cell_lt ce)).trans ce
  rw [← hW9.out] at bT
  have HBT := hide bT
  have HL8 := hl8
  clear HCR hcell hl8 ce hY7 HQ7 hq7 hq3 hq6 bT
  go_wp2_with fail
  rw [← hW9.out, hT.out]
  go_loopw [68] (fun i wr => ∃ (k : Nat) (x : Nat × Nat × Tld), k ≤ 6 ∧ i = .int .i64 k ∧ Hid (tln (t6.ev.drop k) x = (1, 1, (0, 5, true))) ∧ Hid (Below w8.heap.size w8 wr ∧ wr.heap[T]? = some (.cells (evc x).toArray (113 : TypeId) (0, 0)))) (fun i _ => 6 - (intOf i).toNat)
  case atStart => exact ⟨0, (0, 0, (0, 0, false)), by omega, rfl, F11, hide ⟨HBT.out, hT9⟩⟩
  case round =>
    obtain ⟨k, ⟨xt, xa, xc, xv, xo⟩, hk, rfl, htl, hwr⟩ := hrel
    clear HBT hT9 hW9 ce'
    by_cases hlt : k < 6
    · have hii : decide ((k : Int) < 6) = true := by simp; omega
      obtain ⟨hb, hTr⟩ := hwr.out
      have hkl : k < t6.ev.length := by rw [F10.out]; exact hlt
      obtain ⟨⟨et, ea, ec, ev, eo⟩, he⟩ : ∃ e, t6.ev[k]? = some e := ⟨_, List.getElem?_eq_getElem hkl⟩
      obtain ⟨q1, q2, q3, q4, q5⟩ := HEV.out k _ he
      simp only at q1 q2 q3 q4 q5
      have g1 := (hb.cell (cell_lt q1)).trans q1
      have g2 := (hb.cell (cell_lt q2)).trans q2
      have g3 := (hb.cell (cell_lt q3)).trans q3
      have g4 := (hb.cell (cell_lt q4)).trans q4
      have g5 := (hb.cell (cell_lt q5)).trans q5
      have hdrop : t6.ev.drop k = (et, ea, (ec, ev, eo)) :: t6.ev.drop (k + 1) := by
        rw [List.drop_eq_getElem_cons hkl]
        rw [List.getElem?_eq_getElem hkl] at he
        rw [Option.some.inj he]
      have htl' := htl.out
      rw [hdrop] at htl'
      simp only [tln] at htl'
      have hT8 : w8.heap.size ≤ T := Nat.le_of_eq hT.out
      obtain ⟨W, hW⟩ : ∃ W, Hid (W = wr.alloc (.cells #[.int .i64 et, .int .i64 ea, .int .i64 ec, .int .i64 ev, .bool eo] (113 : TypeId))) := ⟨_, hide rfl⟩
      have bW : Below wr.heap.size wr W := by rw [hW.out]; exact (Below.refl _ wr).alloc (Nat.le_refl _) _
      have hbW : Below w8.heap.size w8 W := hb.trans (bW.mono hb.size)
      have hTW : W.heap[T]? = some (.cells #[.int .i64 xt, .int .i64 xa, .int .i64 xc, .int .i64 xv, .bool xo] (113 : TypeId) (0, 0)) := (bW.block T (heap_lt hTr)).trans hTr
      have HN : Hid (¬ (et = 1 ∧ ea = 1) → tln (t6.ev.drop (k + 1)) (xt, xa, (xc, xv, xo)) = (1, 1, (0, 5, true)) ∧ Below w8.heap.size w8 W ∧ W.heap[T]? = some (.cells (evc (xt, xa, (xc, xv, xo))).toArray (113 : TypeId) (0, 0))) := hide (fun hn => ⟨by rw [if_neg hn] at htl'; exact htl', hbW, hTW⟩)
      have HY : Hid (et = 1 ∧ ea = 1 → tln (t6.ev.drop (k + 1)) (et, ea, (ec, ev, eo)) = (1, 1, (0, 5, true)) ∧ Below w8.heap.size w8 (((((W.setCell ⟨T, 0, none⟩ (.int .i64 et)).setCell ⟨T, 1, none⟩ (.int .i64 ea)).setCell ⟨T, 2, none⟩ (.int .i64 ec)).setCell ⟨T, 3, none⟩ (.int .i64 ev)).setCell ⟨T, 4, none⟩ (.bool eo)) ∧ (((((W.setCell ⟨T, 0, none⟩ (.int .i64 et)).setCell ⟨T, 1, none⟩ (.int .i64 ea)).setCell ⟨T, 2, none⟩ (.int .i64 ec)).setCell ⟨T, 3, none⟩ (.int .i64 ev)).setCell ⟨T, 4, none⟩ (.bool eo)).heap[T]? = some (.cells (evc (et, ea, (ec, ev, eo))).toArray (113 : TypeId) (0, 0))) := hide (fun hy => by
        refine ⟨by rw [if_pos hy] at htl'; exact htl', ((((hbW.setCell hT8 _).setCell hT8 _).setCell hT8 _).setCell hT8 _).setCell hT8 _, ?_⟩
        have a0 := heap_setCell_same W T 0 _ _ (.int .i64 et) hTW
        have a1 := heap_setCell_same _ T 1 _ _ (.int .i64 ea) a0
        have a2 := heap_setCell_same _ T 2 _ _ (.int .i64 ec) a1
        have a3 := heap_setCell_same _ T 3 _ _ (.int .i64 ev) a2
        have a4 := heap_setCell_same _ T 4 _ _ (.bool eo) a3
        exact a4)
      have z0 := frozen_of_row _ _ 0 _ _ hTW
      have z1 := frozen_of_row _ _ 1 _ _ hTW
      have z2 := frozen_of_row _ _ 2 _ _ hTW
      have z3 := frozen_of_row _ _ 3 _ _ hTW
      have z4 := frozen_of_row _ _ 4 _ _ hTW
      have y0 := cell_of_row _ _ 0 _ _ _ hTW
      have y1 := cell_of_row _ _ 1 _ _ _ hTW
      have y2 := cell_of_row _ _ 2 _ _ _ hTW
      have y3 := cell_of_row _ _ 3 _ _ _ hTW
      have y4 := cell_of_row _ _ 4 _ _ _ hTW
      have hBx : W.heap[wr.heap.size]? = some (.cells #[.int .i64 et, .int .i64 ea, .int .i64 ec, .int .i64 ev, .bool eo] (113 : TypeId) (0, 0)) := by rw [hW.out]; exact heap_alloc_new wr _
      have x0 := cell_of_row _ _ 0 _ _ _ hBx
      have x1 := cell_of_row _ _ 1 _ _ _ hBx
      have x2 := cell_of_row _ _ 2 _ _ _ hBx
      have x3 := cell_of_row _ _ 3 _ _ _ hBx
      have x4 := cell_of_row _ _ 4 _ _ _ hBx
      clear htl htl' hdrop hb hTr hTW hbW bW q1 q2 q3 q4 q5 he hwr hkl hBx
      by_cases h1 : et = 1
      · by_cases h2 : ea = 1
        · have HR := hide (HY.out ⟨h1, h2⟩)
          have b1 : ((et : Int) == 1) = true := by simp [h1]
          have b2 : ((ea : Int) == 1) = true := by simp [h2]
          clear h1 h2
          rw [hW.out] at y0 y1 y2 y3 y4 z0 z1 z2 z3 z4 HR
          clear HY HN x0 x1 x2 x3 x4 hW
          go_wp2_with fail
          go_roundw
          case rel => exact ⟨k + 1, (et, ea, (ec, ev, eo)), by omega, by go_num, hide HR.out.1, hide HR.out.2⟩
          case measure => simp [intOf]; omega
        · have HR := hide (HN.out (fun h => h2 h.2))
          have b1 : ((et : Int) == 1) = true := by simp [h1]
          have b2 : ((ea : Int) == 1) = false := by rw [beq_eq_false_iff_ne]; omega
          clear h1 h2
          clear HY HN
          go_wp2_with (rw [← hW.out])
          try rw [← hW.out]
          go_roundw
          case rel => first | exact ⟨k + 1, (xt, xa, (xc, xv, xo)), by omega, by go_num, hide HR.out.1, hide HR.out.2⟩ | (rw [hW.out] at HR; exact ⟨k + 1, (xt, xa, (xc, xv, xo)), by omega, by go_num, hide HR.out.1, hide HR.out.2⟩)
          case measure => simp [intOf]; omega
      · have HR := hide (HN.out (fun h => h1 h.1))
        have b1 : ((et : Int) == 1) = false := by rw [beq_eq_false_iff_ne]; omega
        clear HY HN
        go_wp2_with (rw [← hW.out])
        try rw [← hW.out]
        go_roundw
        case rel => first | exact ⟨k + 1, (xt, xa, (xc, xv, xo)), by omega, by go_num, hide HR.out.1, hide HR.out.2⟩ | (rw [hW.out] at HR; exact ⟨k + 1, (xt, xa, (xc, xv, xo)), by omega, by go_num, hide HR.out.1, hide HR.out.2⟩)
        case measure => simp [intOf]; omega
    · obtain rfl : k = 6 := by omega
      have ht0 := htl.out
      rw [List.drop_eq_nil_of_le (by rw [F10.out]; omega)] at ht0
      simp only [tln, Prod.mk.injEq] at ht0
      obtain ⟨rfl, rfl, rfl, rfl, rfl⟩ := ht0
      obtain ⟨hb, hTr⟩ := hwr.out
      have l9 := HL8.out.below hb
      have y3 : wr.cell? ⟨T, 3, none⟩ = some (.int .i64 5) := cell_of_row _ _ 3 _ _ _ hTr
      have y4 : wr.cell? ⟨T, 4, none⟩ = some (.bool true) := cell_of_row _ _ 4 _ _ _ hTr
      obtain ⟨cg, cc, c2, hc1, hc2, cz⟩ := l9.chan (j := 0) rfl
      have C9 := l9.close (j := 0) rfl
      rw [F12.out.1, F12.out.2] at C9
      have HC9 := hide C9
      simp only [List.length_cons, List.length_nil, Nat.zero_add] at c2 hc1
      have HT : Hid (∀ V : World, Lw V4 Y7 pa 2 2 ps (fun k => Pb k ∨ k = q7) B R [z] t6 7 V → Below w.heap.size w V) := hide (fun V l => HBV.out.trans (l.bel.mono HBV.out.size))
      clear C9 l9 hb hTr htl hwr HL8 HEV F11
      go_wp2_with fail
      refine HC9.out.mono ?_
      rintro e w10 ⟨rfl, l10⟩
      have c5 := l10.bad
      obtain ⟨tg, tc, b, c3, ht1, ht2, ct, CO⟩ := l10.over (i := 1) (by rw [F14.out]; omega)
      rw [F14.out] at c3 ht1
      rw [F13.out] at CO
      have HCO := hide CO
      have HB10 := hide (HT.out _ l10)
      clear CO l10 HT HC9 c2 cz y3 y4
      go_wp2_with fail
      refine HCO.out.mono ?_
      rintro e w11 ⟨rfl, rfl⟩
      clear HCO
      go_wp2_with fail
      go_ret
      exact ⟨rfl, HB10.out⟩

end Go.Proofs.YtgjpbekmkhanhaaGreat.CH

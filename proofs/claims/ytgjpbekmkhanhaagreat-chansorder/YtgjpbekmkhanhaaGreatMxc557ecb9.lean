/-
  Texts put into one.
-/
import Derived.Test.YtgjpbekmkhanhaaGreatMxa849c3a9

/-
  A world begun: what its two loops hold, in memory.
-/
namespace Go.Proofs.YtgjpbekmkhanhaaGreat.CH
open Go.RowKit QW
set_option maxRecDepth 100000
set_option linter.unusedSimpArgs false
set_option linter.unusedVariables false

theorem relab_id (lab : Lb) (l : Lab) : relab lab l (fun k => lab k = some l) = lab := by
  funext k
  unfold relab
  by_cases h : lab k = some l
  · simp [h]
  · simp [h]

section
variable {w w' X : World} {L B : Nat} {pv cv tvv ev : Value} {a : Ad} {s : Rs} {A : Nat → Bool} {zs : List Zc} {m : Nat} {K : Nat → Pkr} {σ : Sg} {lab : Lb}
/-- Blocks that are nobody's were turned. -/
theorem Wm.away (h : Wm w L B pv cv tvv ev a s A zs m K σ lab) {S : Nat → Prop} (t : Tb S w w') (hS : ∀ k, S k → lab k = none ∧ ∀ f, ¬ Tkt w k f) : Wm w' L B pv cv tvv ev a s A zs m K σ lab := by
  have hl : ∀ k l, lab k = some l → ¬ S k := fun k l hk e => by
    have := (hS k e).1
    rw [hk] at this
    cases this
  have hkv : Kv w A w' A := Kv.tb A t (fun k f ht e => (hS k e).2 f ht)
  have hz := t.size
  have hb : ∀ k l, lab k = some l → w'.heap[k]? = w.heap[k]? := fun k l hk => t.block k (h.lt' k l hk) (hl k l hk)
  exact ⟨(hb _ _ h.lb).trans h.blk, h.rt.tb t (fun k hk => hk.elim (fun e => hl k _ (h.lr k e)) (fun e => e ▸ hl _ _ h.lq)), row_tb h.cr t (fun k hk => hl k _ (h.lc k hk)), row_tb h.tr t (fun k hk => hl k _ (h.lt k hk)), row_tb h.er t (fun k hk => hl k _ (h.le k hk)), h.lr, h.lq, h.lb, h.le, h.lc, h.lt, fun k l hk => ⟨(h.lo k l hk).1, by have := h.lt' k l hk; omega⟩, fun j z c hz hc => ⟨(h.ch j z c hz hc).1, (h.ch j z c hz hc).2.1, (h.ch j z c hz hc).2.2.same t (fun k hk => hl k _ hk) hkv⟩, h.cn, fun k hk => h.ha k (by omega), h.ln, h.len, fun i u p hu hp => (h.cl i u p hu hp).keep (fun k hk => hb k _ hk) (fun _ h => h) (fun k hk => ⟨hk, hb k _ hk, rfl⟩) h.lt', h.ok⟩
theorem Wm.below' (h : Wm w L B pv cv tvv ev a s A zs m K σ lab) (hb : Below w.heap.size w w') : Wm w' L B pv cv tvv ev a s A zs m K σ lab :=
  h.away (S := fun _ => False) (Tb.of_fresh hb) (fun _ e => e.elim)
end

/-- The tale of a world of which ci channels are made and ti tasks spawned. -/
def bsg (sz : List Nat) (ci ti : Nat) : Sg := ⟨List.replicate ti ⟨0, 1, (0, 0, false), false⟩, (sz.take ci).map (fun n => ⟨n, false, [], [], []⟩), (List.range ti).map (fun i : Nat => (i : Int)), []⟩
def cks (sz : List Nat) (ri : Nat) : List Value := (sz.take ri).flatMap (fun n : Nat => [Value.int .i64 (n : Int), .slice none 0 0, .slice none 0 0, .slice none 0 0, .bool false])
def vz (pv : Value) : List Value := [pv, .slice none 0 0, .slice none 0 0, .slice none 0 0, .slice none 0 0, .slice none 0 0, .slice none 0 0, .slice none 0 0, .int .i64 0, .slice none 0 0, .int .i64 0, .int .u64 0]

theorem bsg_more {sz : List Nat} {ci n : Nat} (h : sz[ci]? = some n) (ti : Nat) : (bsg sz ci ti).more n = bsg sz (ci + 1) ti := by
  unfold Sg.more bsg
  rw [List.take_add_one, h]
  simp
theorem bsg_add (sz : List Nat) (ci ti : Nat) : (bsg sz ci ti).add = bsg sz ci (ti + 1) := by
  unfold Sg.add bsg
  simp [List.replicate_succ', List.range_succ]
theorem cks_more {sz : List Nat} {ri n : Nat} (h : sz[ri]? = some n) : cks sz ri ++ [.int .i64 n, .slice none 0 0, .slice none 0 0, .slice none 0 0, .bool false] = cks sz (ri + 1) := by
  unfold cks
  rw [List.take_add_one, h]
  simp

/-- A world as it is begun. -/
structure Bg (w0 : World) (sz : List Nat) (pv : Value) (B E R H : Nat) (ci ri ti : Nat) (w : World) (cv tvv : Value) (left : Nat) (zs : List Zc) (bs : List Nat) (lab : Lb) (vs : List Value) (rl : Lb) : Prop where
  wd : Wd w w0.heap.size B pv cv tvv R zs bs 0 (bsg sz ci ti) none left lab
  hH : lab H = some .fz
  eH : w.heap[H]? = some (.cells #[.pointer (some ⟨B, 0, none⟩)] (27 : TypeId) (0, 0))
  dw : Dw w w0.heap.size E vs rl
  vl : vs.length = 12
  vt : ∀ j, j ≠ 1 → vs[j]? = (vz pv)[j]?
  r1 : Dr w w0.heap.size rl vs 1 (51 : TypeId) 5 ri (cks sz ri)
  ap : ∀ k, rl k ≠ none → lab k = none
  bl : Below w0.heap.size w0 w

def Bgx (w0 : World) (sz : List Nat) (pv : Value) (B E R H : Nat) (ci ri ti : Nat) (w : World) : Prop := ∃ cv tvv left zs bs lab vs rl, Bg w0 sz pv B E R H ci ri ti w cv tvv left zs bs lab vs rl

section
variable {w0 w w' : World} {sz : List Nat} {pv cv tvv : Value} {B E R H ci ri ti left : Nat} {zs : List Zc} {bs : List Nat} {lab : Lb} {vs : List Value} {rl : Lb}

theorem Bg.low (d : Bg w0 sz pv B E R H ci ri ti w cv tvv left zs bs lab vs rl) : w0.heap.size ≤ w.heap.size := d.bl.size
/-- Blocks that are neither's were turned. -/
theorem Bg.away (d : Bg w0 sz pv B E R H ci ri ti w cv tvv left zs bs lab vs rl) {S : Nat → Prop} (t : Tb S w w') (hS : ∀ k, S k → lab k = none ∧ rl k = none ∧ w0.heap.size ≤ k ∧ ∀ f, ¬ Tkt w k f) : Bg w0 sz pv B E R H ci ri ti w' cv tvv left zs bs lab vs rl := by
  obtain ⟨ev, a, s, A, K, h, q⟩ := d.wd.ex
  have hr : ∀ k, rl k ≠ none → ¬ S k := fun k hk e => hk (hS k e).2.1
  refine ⟨⟨ev, a, s, A, K, h.away t (fun k hk => ⟨(hS k hk).1, (hS k hk).2.2.2⟩), q⟩, d.hH, (t.block H (heap_lt d.eH) (fun e => by have := (hS H e).1; rw [d.hH] at this; cases this)).trans d.eH, d.dw.tb t hr, d.vl, d.vt, d.r1.tb t hr, d.ap, ?_⟩
  exact d.bl.trans (t.below (fun i hi => (hS i hi).2.2.1) d.low)
theorem Bg.below (d : Bg w0 sz pv B E R H ci ri ti w cv tvv left zs bs lab vs rl) (hb : Below w.heap.size w w') : Bg w0 sz pv B E R H ci ri ti w' cv tvv left zs bs lab vs rl :=
  d.away (S := fun _ => False) (Tb.of_fresh hb) (fun _ e => e.elim)
theorem Bg.cR (d : Bg w0 sz pv B E R H ci ri ti w cv tvv left zs bs lab vs rl) : w.cell? ⟨R, 0, none⟩ = some (.pointer (some ⟨R, 0, none⟩)) := by
  obtain ⟨ev, a, s, A, K, h, q1, _⟩ := d.wd.ex
  rw [← q1]
  exact h.rt.m.cR 0
theorem Bg.cH (d : Bg w0 sz pv B E R H ci ri ti w cv tvv left zs bs lab vs rl) : w.cell? ⟨H, 0, none⟩ = some (.pointer (some ⟨B, 0, none⟩)) := cell_of_row _ _ 0 _ _ _ d.eH
theorem Bg.blk (d : Bg w0 sz pv B E R H ci ri ti w cv tvv left zs bs lab vs rl) : ∃ ev, w.heap[B]? = some (.cells #[.pointer (some ⟨R, 0, none⟩), pv, cv, tvv, ev, .bool false] (36 : TypeId) (0, 0)) := by
  obtain ⟨ev, h, _⟩ := d.wd.blk
  exact ⟨ev, h⟩

/-- A channel is made, not yet among the world's. -/
def Bgm (w0 : World) (sz : List Nat) (pv : Value) (B E R H : Nat) (ci C n : Nat) (w : World) : Prop :=
  ∃ cv tvv left zs bs lab vs rl z D ev a s A K, Bg w0 sz pv B E R H ci ci 0 w cv tvv left zs bs lab vs rl ∧ Wm w w0.heap.size B pv cv tvv ev a s A zs 0 K (bsg sz ci 0) lab ∧ a.R = R ∧ s.ts.map Tc.b = bs ∧ s.run = none ∧ s.left = left ∧ Ch w A z 0 ⟨false, [], [], []⟩ D ∧ z.C = C ∧ z.rt = R ∧ z.size = n ∧ ∀ k, D k → lab k = none ∧ rl k = none ∧ w0.heap.size ≤ k

theorem Bg.make (d : Bg w0 sz pv B E R H ci ci 0 w cv tvv left zs bs lab vs rl) {n : Nat} (hn : n ≤ 64) {V : World} (hV : Below w.heap.size w V) :
    Calls Tryz.prog 19 #[.pointer (some ⟨R, 0, none⟩), .int .i64 n] V fun e w1 => ∃ C, e = .returned (.tuple #[.pointer (some ⟨C, 0, none⟩), .int .i64 0]) ∧ Bgm w0 sz pv B E R H ci C n w1 := by
  have dV := d.below hV
  obtain ⟨ev, a, s, A, K, h, q1, q2, q3, q4⟩ := dV.wd.ex
  refine (make_any (w := V) A 0 hn (fun V' hV' => rmade_yes (dV.below hV').cR)).mono ?_
  rintro e w1 ⟨z, rfl, zr, zs', hb, D, hD, hDn⟩
  have hlow := dV.low
  exact ⟨z.C, rfl, cv, tvv, left, zs, bs, lab, vs, rl, z, D, ev, a, s, A, K, dV.below hb, h.below' hb, q1, q2, q3, q4, hD, rfl, zr, zs', fun k hk => ⟨h.fresh (hDn k hk), dV.dw.fresh (hDn k hk), by have := hDn k hk; omega⟩⟩

theorem Bgm.below {C n : Nat} (d : Bgm w0 sz pv B E R H ci C n w) (hb : Below w.heap.size w w') : Bgm w0 sz pv B E R H ci C n w' := by
  obtain ⟨cv, tvv, left, zs, bs, lab, vs, rl, z, D, ev, a, s, A, K, d, h, q1, q2, q3, q4, hD, q⟩ := d
  exact ⟨cv, tvv, left, zs, bs, lab, vs, rl, z, D, ev, a, s, A, K, d.below hb, h.below' hb, q1, q2, q3, q4, hD.below hb, q⟩

theorem infoCp : (Tryz.prog.info? (48 : TypeId)).map (fun i => (i.zero, i.size, i.bytes)) = some (some (.pointer none), 1, 8) := by kernel_rfl
theorem infoTp : (Tryz.prog.info? (60 : TypeId)).map (fun i => (i.zero, i.size, i.bytes)) = some (some (.pointer none), 1, 8) := by kernel_rfl
theorem infoCh : (Tryz.prog.info? (51 : TypeId)).map (fun i => (i.zero, i.size, i.bytes)) = some (some (.agg #[.int .i64 0, .slice none 0 0, .slice none 0 0, .slice none 0 0, .bool false]), 5, 88) := by kernel_rfl

/-- The channel is put among the world's. -/
theorem Bgm.app {C n : Nat} (d : Bgm w0 sz pv B E R H ci C n w) (hn : n ≤ 64) (hs : sz[ci]? = some n) (hc : ci ≤ 1000) :
    ∃ ca cc p c X, w.cell? ⟨H, 0, none⟩ = some (.pointer (some ⟨B, 0, none⟩)) ∧ w.cell? ⟨B, 2, none⟩ = some (.slice ca ci cc) ∧ (w.alloc (.cells #[.pointer (some ⟨C, 0, none⟩)] (48 : TypeId))).cell? ⟨H, 0, none⟩ = some (.pointer (some ⟨B, 0, none⟩)) ∧ (w.alloc (.cells #[.pointer (some ⟨C, 0, none⟩)] (48 : TypeId))).cell? ⟨B, 2, none⟩ = some (.slice ca ci cc) ∧
      (Builtin.append_ #[(32 : TypeId), (32 : TypeId)] (32 : TypeId) #[.slice ca ci cc, .slice (some ⟨w.heap.size, 0, none⟩) 1 1]).run Tryz.prog (w.alloc (.cells #[.pointer (some ⟨C, 0, none⟩)] (48 : TypeId))) = .ok (.slice p (ci + 1) c) X ∧
      X.cell? ⟨H, 0, none⟩ = some (.pointer (some ⟨B, 0, none⟩)) ∧ X.cell? ⟨B, 2, none⟩ = some (.slice ca ci cc) ∧ X.frozen? ⟨B, 2, none⟩ = false ∧ Hid (Bgx w0 sz pv B E R H (ci + 1) ci 0 (X.setCell ⟨B, 2, none⟩ (.slice p (ci + 1) c))) := by
  obtain ⟨cv, tvv, left, zs, bs, lab, vs, rl, z, D, ev, a, s, A, K, d, h, q1, q2, q3, q4, hD, rfl, zr, rfl, hDn⟩ := d
  have hlow := d.low
  have hzl : zs.length = ci := by
    have := h.cn
    have hci := (List.getElem?_eq_some_iff.1 hs).1
    simp [bsg] at this
    omega
  subst hzl
  obtain ⟨ip, e1, e2, e3, e4⟩ := info_all infoCp
  obtain ⟨ca, cc, v', X, rfl, run, ⟨p, c, rfl⟩, hrow, tX, hown⟩ := row_app w w0.heap.size (32 : TypeId) _ ip _ 1 8 Tryz.underlying32 e1 e2 e3 e4 rfl (by omega) h.cr [.pointer (some ⟨z.C, 0, none⟩)] rfl (by simp [Value.oneCell']) (by omega) (by omega) hlow
  have cH := d.cH
  have c2 : w.cell? ⟨B, 2, none⟩ = some (.slice ca zs.length cc) := cell_of_row _ _ 2 _ _ _ h.blk
  have bA : Below w.heap.size w (w.alloc (.cells #[.pointer (some ⟨z.C, 0, none⟩)] (48 : TypeId))) := (Below.refl _ w).alloc (Nat.le_refl _) _
  have nl : ∀ k l, lab k = some l → l ≠ .cv → ¬ (Value.slice ca zs.length cc).ownBlock = some k := fun k l hk hl e => by
    have := h.lc k e
    rw [hk] at this
    exact hl (Option.some.inj this)
  have hHX := (tX.block H (heap_lt d.eH) (nl H _ d.hH (by simp))).trans d.eH
  have hBX := (tX.block B (heap_lt h.blk) (nl B _ h.lb (by simp))).trans h.blk
  refine ⟨ca, cc, p, c, X, cH, c2, (bA.cell (cell_lt cH)).trans cH, (bA.cell (cell_lt c2)).trans c2, run, cell_of_row _ _ 0 _ _ _ hHX, cell_of_row _ _ 2 _ _ _ hBX, frozen_of_row _ _ 2 _ _ hBX, hide ?_⟩
  obtain ⟨lab', hm, hf, hdm, hT⟩ := h.addch z (by rw [zr, q1]) hn hD (fun k hk => ⟨(hDn k hk).1, (hDn k hk).2.2⟩) tX hrow hown
  rw [bsg_more hs] at hm
  have hS : ∀ k, ((Value.slice ca zs.length cc).ownBlock = some k ∨ k = B) → lab k = some .cv ∨ lab k = some .b := fun k hk => hk.imp (h.lc k) (fun e => by rw [e]; exact h.lb)
  have hr : ∀ k, rl k ≠ none → ¬ ((Value.slice ca zs.length cc).ownBlock = some k ∨ k = B) := fun k hk e => by
    have h1 := d.ap k hk
    rcases hS k e with h2 | h2 <;> rw [h1] at h2 <;> cases h2
  refine ⟨_, _, _, _, _, lab', vs, rl, ⟨⟨_, _, _, _, _, hm, q1, q2, q3, q4⟩, hf H d.hH, (hT.block H (heap_lt d.eH) (fun e => by have := hS H e; rw [d.hH] at this; simp at this)).trans d.eH, d.dw.tb hT hr, d.vl, d.vt, d.r1.tb hT hr, fun k hk => ?_, d.bl.trans (hT.below (fun k hk => ?_) hlow)⟩⟩
  · cases e : lab' k with
    | none => rfl
    | some l =>
      exfalso
      rcases hdm k (by rw [e]; simp) with h1 | h1 | h1
      · exact h1 (d.ap k hk)
      · exact hk (hDn k h1).2.1
      · exact hk (d.dw.fresh h1)
  · rcases hS k hk with h1 | h1 <;> exact (h.lo k _ h1).1

/-- The document's channel is put among its own. -/
theorem Bg.rapp {n : Nat} (d : Bg w0 sz pv B E R H ci ri ti w cv tvv left zs bs lab vs rl) (hs : sz[ri]? = some n) (hc : ri ≤ 1000) :
    ∃ ca cc p c X, w.cell? ⟨E, 1, none⟩ = some (.slice ca ri cc) ∧ (w.alloc (.cells #[.int .i64 n, .slice none 0 0, .slice none 0 0, .slice none 0 0, .bool false] (51 : TypeId))).cell? ⟨E, 1, none⟩ = some (.slice ca ri cc) ∧
      (Builtin.append_ #[(41 : TypeId), (41 : TypeId)] (41 : TypeId) #[.slice ca ri cc, .slice (some ⟨w.heap.size, 0, none⟩) 1 1]).run Tryz.prog (w.alloc (.cells #[.int .i64 n, .slice none 0 0, .slice none 0 0, .slice none 0 0, .bool false] (51 : TypeId))) = .ok (.slice p (ri + 1) c) X ∧
      X.frozen? ⟨E, 1, none⟩ = false ∧ X.cell? ⟨E, 1, none⟩ = some (.slice ca ri cc) ∧ Hid (Bgx w0 sz pv B E R H ci (ri + 1) ti (X.setCell ⟨E, 1, none⟩ (.slice p (ri + 1) c))) := by
  obtain ⟨ip, e1, e2, e3, e4⟩ := info_all infoCh
  obtain ⟨ca, cc, p, c, X, k1, k2, run, k3, k4, rl', hD, hR, hO, y⟩ := d.dw.app d.low d.r1 (41 : TypeId) ip _ 88 Tryz.underlying41 e1 e2 e3 e4 rfl (by omega) (by decide) (by decide) [.int .i64 n, .slice none 0 0, .slice none 0 0, .slice none 0 0, .bool false] rfl (by simp [Value.oneCell']) (by omega) (by omega)
  refine ⟨ca, cc, p, c, X, k1, k2, run, k3, k4, hide ?_⟩
  obtain ⟨ev, a, s, A, K, h, q⟩ := d.wd.ex
  have hlow := d.low
  rw [cks_more hs] at hR
  refine ⟨cv, tvv, left, zs, bs, lab, _, rl', ⟨⟨ev, a, s, A, K, h.away y.tb (fun k hk => ⟨d.ap k hk, fun f => d.dw.nt k f hk⟩), q⟩, d.hH, (y.tb.block H (heap_lt d.eH) (fun e => by have := d.ap H e; rw [d.hH] at this; cases this)).trans d.eH, hD, by simpa using d.vl, fun j hj => ?_, hR, fun k hk => ?_, d.bl.trans (y.tb.below (fun k hk => ?_) hlow)⟩⟩
  · rw [List.getElem?_set_ne (fun e => hj e.symm)]
    exact d.vt j hj
  · rcases y.dm k hk with h1 | h1
    · exact d.ap k h1
    · exact h.fresh h1
  · obtain ⟨l, hl⟩ := Option.ne_none_iff_exists'.1 hk
    exact (d.dw.lo k l hl).1
end

end Go.Proofs.YtgjpbekmkhanhaaGreat.CH

/-
  A world begun: a task is spawned.
-/
namespace Go.Proofs.YtgjpbekmkhanhaaGreat.CH
open Go.RowKit QW
set_option maxRecDepth 100000
set_option linter.unusedSimpArgs false
set_option linter.unusedVariables false

theorem ent58 : Ent 68 := fun _ _ => by go_simp
section
variable {F : Nat → Prop} {w : World} {B : Nat}
theorem nx58 {g1 g2 h1 h2 b i : Nat} (f1 : F g1) (f2 : F g2) (k1 : F h1) (k2 : F h2) (e1 : w.heap[g1]? = some (.cells #[.func (.func 55) #[] #[.pointer (some ⟨h1, 0, none⟩), .pointer (some ⟨h2, 0, none⟩)]] (76 : TypeId) (0, 0))) (e2 : w.heap[g2]? = some (.cells #[.pointer (some ⟨b, 0, none⟩)] (60 : TypeId) (0, 0)))
    (e3 : w.heap[h1]? = some (.cells #[.pointer (some ⟨B, 0, none⟩)] (27 : TypeId) (0, 0))) (e4 : w.heap[h2]? = some (.cells #[.int .i64 i] 3 (0, 0))) : Go0 F w (spv g1 g2) (QT B b i 0 (0, 0, false)) := by
  refine ⟨_, _, rfl, ent58, fun V Ψ hV hC => ?_⟩
  have d1 := agr_cell hV f1 e1
  have d2 := agr_cell hV f2 e2
  have d3 := agr_cell hV k1 e3
  have d4 := agr_cell hV k2 e4
  have HC := hide (hC V (Below.refl _ _))
  unfold targs tv at HC
  have C42 : Calls Tryz.prog 55 #[.pointer (some ⟨b, 0, none⟩), .pointer (some ⟨h1, 0, none⟩), .pointer (some ⟨h2, 0, none⟩)] V fun e w' => e = .returned (.tuple #[]) ∧ Ψ w' := by
    clear d1 d2 e1 e2 e3 e4 f1 f2 k1 k2 hV hC
    go_enter Tryz.func55, Tryz.ntmps55
    go_wp2_with fail
    refine HC.out.mono ?_
    rintro e w1 ⟨rfl, hΨ⟩
    go_wp2_with fail
    go_end0
    exact ⟨rfl, hΨ⟩
  have HC42 := hide C42
  clear hC hV f1 f2 e1 e2 e3 e4 k1 k2 d3 d4 HC C42
  go_enter Tryz.func68, Tryz.ntmps68
  go_wp2_with fail
  refine HC42.out.mono ?_
  rintro e w1 ⟨rfl, hΨ⟩
  go_wp2_with fail
  go_end0
  exact ⟨rfl, hΨ⟩
end

section
variable {w0 w w' : World} {sz : List Nat} {pv cv tvv : Value} {B E R H ci ri ti left : Nat} {zs : List Zc} {bs : List Nat} {lab : Lb} {vs : List Value} {rl : Lb}

/-- A box more that nobody turns. -/
theorem Bg.claim (d : Bg w0 sz pv B E R H ci ri ti w cv tvv left zs bs lab vs rl) {h2 : Nat} (h1 : lab h2 = none) (h3 : rl h2 = none) (h4 : w0.heap.size ≤ h2) (h5 : h2 < w.heap.size) :
    ∃ lab', Bg w0 sz pv B E R H ci ri ti w cv tvv left zs bs lab' vs rl ∧ lab' h2 = some .fz := by
  have hN : ∀ k, k = h2 → lab k = none ∧ w0.heap.size ≤ k ∧ k < w.heap.size := fun k hk => by subst hk; exact ⟨h1, h4, h5⟩
  have hw := d.wd.claim (N := fun k => k = h2) hN
  refine ⟨_, ⟨hw, relab_same.2 (.inl d.hH), d.eH, d.dw, d.vl, d.vt, d.r1, fun k hk => ?_, d.bl⟩, relab_same.2 (.inr rfl)⟩
  have hk' := d.ap k hk
  unfold relab
  have hne : k ≠ h2 := fun e => by subst e; exact hk h3
  simp [hk', hne]

/-- A task is spawned, not yet among the world's. -/
def Bgs (w0 : World) (sz : List Nat) (pv : Value) (B E R H ci ri ti b : Nat) (w : World) : Prop :=
  ∃ (V w1 : World) (cv tvv : Value) (left : Nat) (zs : List Zc) (bs : List Nat) (lab : Lb) (vs : List Value) (rl : Lb) (ev : Value) (a : Ad) (s : Rs) (A : Nat → Bool) (K : Nat → Pkr) (a' : Ad) (v : Value) (N : Nat → Prop), Bg w0 sz pv B E R H ci ri ti V cv tvv left zs bs lab vs rl ∧ Wm V w0.heap.size B pv cv tvv ev a s A zs 0 K (bsg sz ci ti) lab ∧ a.R = R ∧ s.run = none ∧ s.left = left ∧ Rp V a s w1 a' (s.spawn b v) ∧ (∀ k, N k → V.heap.size ≤ k ∧ k < w1.heap.size ∧ ¬ own a' (s.spawn b v) k) ∧ Go0 (fun k => lab k = some .fz ∨ N k) w1 v (QT B b (bsg sz ci ti).tk.length 0 (0, 0, false)) ∧ Below w1.heap.size w1 w

theorem Bgs.below {b : Nat} (d : Bgs w0 sz pv B E R H ci ri ti b w) (hb : Below w.heap.size w w') : Bgs w0 sz pv B E R H ci ri ti b w' := by
  obtain ⟨V, w1, cv, tvv, left, zs, bs, lab, vs, rl, ev, a, s, A, K, a', v, N, d, h, q1, q3, q4, x, hN, hgo, h1⟩ := d
  exact ⟨V, w1, cv, tvv, left, zs, bs, lab, vs, rl, ev, a, s, A, K, a', v, N, d, h, q1, q3, q4, x, hN, hgo, h1.trans (hb.mono h1.size)⟩

theorem Bg.spawn (d : Bg w0 sz pv B E R H ci ri ti w cv tvv left zs bs lab vs rl) (hti : ti < 256) {V : World} (hV : Below w.heap.size w V) {h2 : Nat} (hh : w.heap.size ≤ h2) (e2 : V.heap[h2]? = some (.cells #[.int .i64 ti] 3 (0, 0))) :
    Calls Tryz.prog 24 #[.pointer (some ⟨R, 0, none⟩), .func (.func 55) #[] #[.pointer (some ⟨H, 0, none⟩), .pointer (some ⟨h2, 0, none⟩)]] V fun e w1 => ∃ b, e = .returned (.tuple #[.pointer (some ⟨b, 0, none⟩), .int .i64 0]) ∧ Bgs w0 sz pv B E R H ci ri ti b w1 := by
  have dV := d.below hV
  have hlow := d.low
  obtain ⟨lab', dC, hl2⟩ := dV.claim (h2 := h2) (d.wd.fresh hh) (d.dw.fresh hh) (by omega) (heap_lt e2)
  obtain ⟨ev, a, s, A, K, h, q1, q2, q3, q4⟩ := dC.wd.ex
  have hlen : s.ts.length = ti := by have := h.len; simp [bsg] at this; exact this
  have hlv : s.lives.length < 256 := by
    have : s.lives.length ≤ s.ts.length := by
      unfold Rs.lives
      rw [List.length_map]
      exact Nat.le_trans (List.length_filter_le _ _) (by simp)
    omega
  have CS := spawn_yes h.rt hlv (by omega) (.func 55) #[] #[.pointer (some ⟨H, 0, none⟩), .pointer (some ⟨h2, 0, none⟩)]
  rw [q1] at CS
  refine CS.mono ?_
  rintro e w1 ⟨b, rfl, a', g1, g2, x, z1, z2, z3, z4, z5, z6, z7⟩
  refine ⟨b, rfl, V, w1, cv, tvv, left, zs, bs, lab', vs, rl, ev, a, s, A, K, a', spv g1 g2, fun k => k = g1 ∨ k = g2, dC, h, q1, q3, q4, x, fun k hk => ?_, ?_, Below.refl _ _⟩
  · rcases hk with rfl | rfl
    · exact ⟨z2, heap_lt z4, z6⟩
    · exact ⟨z3, heap_lt z5, z7⟩
  · have nr : ∀ k, lab' k = some .fz → ¬ own a s k := fun k hk e => by
      have := h.lr k e
      rw [hk] at this
      cases this
    have e0 : (bsg sz ci ti).tk.length = ti := by simp [bsg]
    rw [e0]
    exact nx58 (.inr (.inl rfl)) (.inr (.inr rfl)) (.inl dC.hH) (.inl hl2) z4 z5 ((x.x.tb.block H (heap_lt dC.eH) (nr H dC.hH)).trans dC.eH) ((x.x.tb.block h2 (heap_lt e2) (nr h2 hl2)).trans e2)

/-- The task is put among the world's. -/
theorem Bgs.app {b : Nat} (d : Bgs w0 sz pv B E R H ci ri ti b w) (hc : ti ≤ 1000) :
    ∃ ca cc p c X, w.cell? ⟨H, 0, none⟩ = some (.pointer (some ⟨B, 0, none⟩)) ∧ w.cell? ⟨B, 3, none⟩ = some (.slice ca ti cc) ∧ (w.alloc (.cells #[.pointer (some ⟨b, 0, none⟩)] (60 : TypeId))).cell? ⟨H, 0, none⟩ = some (.pointer (some ⟨B, 0, none⟩)) ∧ (w.alloc (.cells #[.pointer (some ⟨b, 0, none⟩)] (60 : TypeId))).cell? ⟨B, 3, none⟩ = some (.slice ca ti cc) ∧
      (Builtin.append_ #[(33 : TypeId), (33 : TypeId)] (33 : TypeId) #[.slice ca ti cc, .slice (some ⟨w.heap.size, 0, none⟩) 1 1]).run Tryz.prog (w.alloc (.cells #[.pointer (some ⟨b, 0, none⟩)] (60 : TypeId))) = .ok (.slice p (ti + 1) c) X ∧
      X.cell? ⟨H, 0, none⟩ = some (.pointer (some ⟨B, 0, none⟩)) ∧ X.cell? ⟨B, 3, none⟩ = some (.slice ca ti cc) ∧ X.frozen? ⟨B, 3, none⟩ = false ∧ Hid (Bgx w0 sz pv B E R H ci ri (ti + 1) (X.setCell ⟨B, 3, none⟩ (.slice p (ti + 1) c))) := by
  obtain ⟨V, w1, cv, tvv, left, zs, bs, lab, vs, rl, ev, a, s, A, K, a', v, N, d, h, q1, q3, q4, x, hN, hgo, hb⟩ := d
  have hlow := d.low
  have t1 := x.x.tb
  have hz1 := t1.size
  have hzb := hb.size
  have hsl : s.ts.length = ti := by have := h.len; simp [bsg] at this; exact this
  subst hsl
  have nr : ∀ k l, lab k = some l → l ≠ .rt → ¬ own a s k := fun k l hk hl e => by
    have := h.lr k e
    rw [hk] at this
    exact hl (Option.some.inj this)
  have tV : Tb (own a s) V w := t1.trans (Tb.of_fresh (S := fun _ => False) hb) (fun _ _ e => e.elim)
  have trW := row_tb h.tr tV (fun g hg => nr g _ (h.lt g hg) (by simp))
  obtain ⟨ip, e1, e2, e3, e4⟩ := info_all infoTp
  obtain ⟨ca, cc, v', X, rfl, run, ⟨p, c, rfl⟩, hrow, tX, hown⟩ := row_app w w0.heap.size (33 : TypeId) _ ip _ 1 8 Tryz.underlying33 e1 e2 e3 e4 rfl (by omega) trW [.pointer (some ⟨b, 0, none⟩)] rfl (by simp [Value.oneCell']) (by omega) (by omega) (by omega)
  have hBw : w.heap[B]? = _ := (tV.block B (heap_lt h.blk) (nr B _ h.lb (by simp))).trans h.blk
  have hHw : w.heap[H]? = _ := (tV.block H (heap_lt d.eH) (nr H _ d.hH (by simp))).trans d.eH
  have cH := cell_of_row _ _ 0 _ _ _ hHw
  have c3 := cell_of_row _ _ 3 _ _ _ hBw
  have bA : Below w.heap.size w (w.alloc (.cells #[.pointer (some ⟨b, 0, none⟩)] (60 : TypeId))) := (Below.refl _ w).alloc (Nat.le_refl _) _
  have nl : ∀ k l, lab k = some l → l ≠ .tv → ¬ (Value.slice ca s.ts.length cc).ownBlock = some k := fun k l hk hl e => by
    have := h.lt k e
    rw [hk] at this
    exact hl (Option.some.inj this)
  have hHX := (tX.block H (heap_lt hHw) (nl H _ d.hH (by simp))).trans hHw
  have hBX := (tX.block B (heap_lt hBw) (nl B _ h.lb (by simp))).trans hBw
  refine ⟨ca, cc, p, c, X, cH, c3, (bA.cell (cell_lt cH)).trans cH, (bA.cell (cell_lt c3)).trans c3, run, cell_of_row _ _ 0 _ _ _ hHX, cell_of_row _ _ 3 _ _ _ hBX, frozen_of_row _ _ 3 _ _ hBX, hide ?_⟩
  have t1X : Tb (fun k => (Value.slice ca s.ts.length cc).ownBlock = some k) w1 X := (Tb.of_fresh (S := fun k => (Value.slice ca s.ts.length cc).ownBlock = some k) hb).trans tX (fun _ _ e => e)
  obtain ⟨lab', hm, hy⟩ := h.addtk hlow x hN hgo t1X hrow (fun k hk => (hown k hk).imp id (fun h' => by omega))
  rw [bsg_add] at hm
  have hr : ∀ k, rl k ≠ none → ¬ (lab k ≠ none) := fun k hk e => e (d.ap k hk)
  refine ⟨_, _, _, _, _, lab', vs, rl, ⟨⟨_, _, _, _, _, hm, by rw [x.x.R]; exact q1, rfl, q3, q4⟩, (hy.fz H d.hH).1, (hy.fz H d.hH).2.trans d.eH, d.dw.tb hy.tb hr, d.vl, d.vt, d.r1.tb hy.tb hr, fun k hk => ?_, d.bl.trans (hy.tb.below (fun k hk => ?_) hlow)⟩⟩
  · cases e : lab' k with
    | none => rfl
    | some l =>
      exfalso
      rcases hy.dm k (by rw [e]; simp) with h1 | h1
      · exact h1 (d.ap k hk)
      · exact hk (d.dw.fresh h1)
  · obtain ⟨l, hl⟩ := Option.ne_none_iff_exists'.1 hk
    exact (h.lo k l hl).1
end

end Go.Proofs.YtgjpbekmkhanhaaGreat.CH

/-
  A world begun: it begins, it is done; the walk.
-/
namespace Go.Proofs.YtgjpbekmkhanhaaGreat.CH
open Go.RowKit QW
set_option maxRecDepth 100000
set_option linter.unusedSimpArgs false
set_option linter.unusedVariables false

theorem own_Q {w : World} {a : Ad} {s : Rs} {ks : List Int} (h : Rm w a s ks) : ¬ own a s a.Q := fun e => by
  have := own_ty h e h.sd
  revert this
  decide

section
variable {w0 w w' : World} {sz : List Nat} {pv cv tvv : Value} {B E R H ci ri ti left : Nat} {zs : List Zc} {bs : List Nat} {lab : Lb} {vs : List Value} {rl : Lb}

noncomputable def lab0 (a : Ad) (B H : Nat) : Lb := fun k => @ite _ (own a rs0 k) (Classical.propDecidable _) (some .rt) (if k = a.Q then some .q else if k = B then some .b else if k = H then some .fz else none)
def rl0 (E : Nat) : Lb := fun k => if k = E then some .b else none

/-- A world begins. -/
theorem Bg.start {w1 W : World} {a : Ad} (hr : Rt w1 a rs0) (hlo : ∀ k, own a rs0 k ∨ k = a.Q → w0.heap.size ≤ k) (hb : Below w0.heap.size w0 w1) (hW : W = (((w1.alloc (.cells #[.pointer (some ⟨a.R, 0, none⟩), pv, .slice none 0 0, .slice none 0 0, .slice none 0 0, .bool false] (36 : TypeId))).alloc (.cells #[.pointer (some ⟨w1.heap.size, 0, none⟩)] (27 : TypeId))).alloc (.cells (vz pv).toArray (46 : TypeId)))) :
    Bgx w0 sz pv w1.heap.size (w1.heap.size + 2) a.R (w1.heap.size + 1) 0 0 0 W := by
  obtain ⟨W1, hW1⟩ : ∃ W1, W1 = w1.alloc (.cells #[.pointer (some ⟨a.R, 0, none⟩), pv, .slice none 0 0, .slice none 0 0, .slice none 0 0, .bool false] (36 : TypeId)) := ⟨_, rfl⟩
  rw [← hW1] at hW
  have b1 : Below w1.heap.size w1 W1 := by rw [hW1]; exact (Below.refl _ w1).alloc (Nat.le_refl _) _
  have s1 : W1.heap.size = w1.heap.size + 1 := by rw [hW1]; simp
  have g1 : W1.heap[w1.heap.size]? = some (.cells #[.pointer (some ⟨a.R, 0, none⟩), pv, .slice none 0 0, .slice none 0 0, .slice none 0 0, .bool false] (36 : TypeId) (0, 0)) := by rw [hW1]; exact heap_alloc_new w1 _
  obtain ⟨W2, hW2⟩ : ∃ W2, W2 = W1.alloc (.cells #[.pointer (some ⟨w1.heap.size, 0, none⟩)] (27 : TypeId)) := ⟨_, rfl⟩
  rw [← hW2] at hW
  have b2 : Below W1.heap.size W1 W2 := by rw [hW2]; exact (Below.refl _ W1).alloc (Nat.le_refl _) _
  have s2 : W2.heap.size = w1.heap.size + 2 := by rw [hW2]; simp [s1]
  have g2 : W2.heap[w1.heap.size + 1]? = some (.cells #[.pointer (some ⟨w1.heap.size, 0, none⟩)] (27 : TypeId) (0, 0)) := by rw [hW2, ← s1]; exact heap_alloc_new W1 _
  have b3 : Below W2.heap.size W2 W := by rw [hW]; exact (Below.refl _ W2).alloc (Nat.le_refl _) _
  have s3 : W.heap.size = w1.heap.size + 3 := by rw [hW]; simp [s2]
  have g3 : W.heap[w1.heap.size + 2]? = some (.cells (vz pv).toArray (46 : TypeId) (0, 0)) := by rw [hW, ← s2]; exact heap_alloc_new W2 _
  have hB : W.heap[w1.heap.size]? = _ := (b3.block _ (by omega)).trans ((b2.block _ (by omega)).trans g1)
  have hH : W.heap[w1.heap.size + 1]? = _ := (b3.block _ (by omega)).trans g2
  have bw : Below w1.heap.size w1 W := (b1.trans (b2.mono (by omega))).trans (b3.mono (by omega))
  have rW := hr.below bw
  have hlow := hb.size
  have ol : ∀ k, own a rs0 k → k < w1.heap.size := fun k hk => hr.m.own_lt hk
  have ql : a.Q < w1.heap.size := hr.m.sd.lt
  have nQ := own_Q hr.m
  have l0 : ∀ k, lab0 a w1.heap.size (w1.heap.size + 1) k = some .rt ↔ own a rs0 k := fun k => by
    unfold lab0
    by_cases h : own a rs0 k
    · simp [h]
    · simp only [h, if_false]
      refine ⟨fun e => ?_, fun e => e.elim⟩
      split at e
      · cases e
      · split at e
        · cases e
        · split at e <;> cases e
  have lQ : lab0 a w1.heap.size (w1.heap.size + 1) a.Q = some .q := by unfold lab0; simp [nQ]
  have nB : ¬ own a rs0 w1.heap.size := fun e => by have := ol _ e; omega
  have nH : ¬ own a rs0 (w1.heap.size + 1) := fun e => by have := ol _ e; omega
  have lB : lab0 a w1.heap.size (w1.heap.size + 1) w1.heap.size = some .b := by
    unfold lab0
    rw [if_neg nB, if_neg (by omega), if_pos rfl]
  have lH : lab0 a w1.heap.size (w1.heap.size + 1) (w1.heap.size + 1) = some .fz := by
    unfold lab0
    rw [if_neg nH, if_neg (by omega), if_neg (by omega), if_pos rfl]
  have lall : ∀ k l, lab0 a w1.heap.size (w1.heap.size + 1) k = some l → (own a rs0 k ∨ k = a.Q) ∨ k = w1.heap.size ∨ k = w1.heap.size + 1 := fun k l hk => by
    unfold lab0 at hk
    by_cases h : own a rs0 k
    · exact .inl (.inl h)
    · rw [if_neg h] at hk
      split at hk
      · rename_i e; exact .inl (.inr e)
      · split at hk
        · rename_i e; exact .inr (.inl e)
        · split at hk
          · rename_i e; exact .inr (.inr e)
          · cases hk
  have hm : Wm W w0.heap.size w1.heap.size pv (.slice none 0 0) (.slice none 0 0) (.slice none 0 0) a rs0 (fun _ => true) [] 0 (fun _ => ⟨0, 0, 0, 0, 0, .nilFunc⟩) (bsg sz 0 0) (lab0 a w1.heap.size (w1.heap.size + 1)) := by
    refine ⟨hB, rW, ⟨rfl, .inl ⟨rfl, rfl⟩⟩, ⟨rfl, .inl ⟨rfl, rfl⟩⟩, ⟨rfl, .inl ⟨rfl, rfl⟩⟩, fun k hk => (l0 k).2 hk, lQ, lB, fun k hk => (by cases hk), fun k hk => (by cases hk), fun k hk => (by cases hk), fun k l hk => ?_, fun j z c hz hc => (by simp at hz), rfl, fun _ _ => rfl, rfl, rfl, fun i t p hi hp => (by simp [rs0] at hi), ⟨(by simp [Sg.wts, bsg]), fun j c hc => (by simp [bsg] at hc), fun j c hc => (by simp [bsg] at hc), fun j c hc => (by simp [bsg] at hc)⟩⟩
    rcases lall k l hk with h1 | h1 | h1
    · have h2 := hlo k h1
      rcases h1 with h1 | h1
      · have := ol k h1; exact ⟨h2, by omega⟩
      · subst h1; exact ⟨h2, by omega⟩
    · subst h1; exact ⟨hlow, by omega⟩
    · subst h1; exact ⟨by omega, by omega⟩
  have re : ∀ k, rl0 (w1.heap.size + 2) k ≠ none → k = w1.heap.size + 2 := fun k hk => by
    unfold rl0 at hk
    by_cases e : k = w1.heap.size + 2
    · exact e
    · rw [if_neg e] at hk; exact absurd rfl hk
  refine ⟨_, _, 0, [], [], _, vz pv, rl0 (w1.heap.size + 2), ⟨⟨_, a, rs0, _, _, hm, rfl, rfl, rfl, rfl⟩, lH, hH, ⟨g3, by simp [rl0], fun k l hk => ?_, fun k f hk ht => ?_⟩, rfl, fun _ _ => rfl, ⟨.slice none 0 0, rfl, ⟨rfl, .inl ⟨rfl, rfl⟩⟩, fun k hk => (by cases hk)⟩, fun k hk => ?_, hb.trans (bw.mono hlow)⟩⟩
  · have := re k (by rw [hk]; simp)
    subst this
    exact ⟨by omega, by omega⟩
  · have := re k hk
    subst this
    exact ty_ne ht g3 (by decide) rfl
  · have := re k hk
    subst this
    cases e : lab0 a w1.heap.size (w1.heap.size + 1) (w1.heap.size + 2) with
    | none => rfl
    | some l =>
      rcases lall _ l e with h1 | h1 | h1
      · rcases h1 with h1 | h1
        · have := ol _ h1; omega
        · omega
      · omega
      · omega

/-- A world is begun; the document's world beside it. -/
def Bgn (w0 : World) (sz : List Nat) (np : Nat) (pv : Value) (B E R : Nat) (w : World) : Prop :=
  ∃ (cv tvv : Value) (left : Nat) (zs : List Zc) (bs : List Nat) (lab : Lb) (vs : List Value) (rl : Lb), Wd w w0.heap.size B pv cv tvv R zs bs 0 (bsg sz sz.length np) none left lab ∧ Dw w w0.heap.size E vs rl ∧ vs.length = 12 ∧ (∀ j, j = 0 ∨ 6 ≤ j → vs[j]? = (vz pv)[j]?) ∧ Dr w w0.heap.size rl vs 1 (51 : TypeId) 5 sz.length (cks sz sz.length) ∧
    Dr w w0.heap.size rl vs 2 3 1 np (List.replicate np (.int .i64 0)) ∧ Dr w w0.heap.size rl vs 3 (116 : TypeId) 3 np (List.replicate np [.int .i64 0, .int .i64 0, .bool false]).flatten ∧ Dr w w0.heap.size rl vs 4 4 1 np (List.replicate np (.bool false)) ∧ Dr w w0.heap.size rl vs 5 3 1 np ((List.range np).map fun i : Nat => (Value.int .i64 (i : Int))) ∧
    (∀ k, rl k ≠ none → lab k = none) ∧ Below w0.heap.size w0 w

/-- The document's world spawns its tasks. -/
theorem Bg.spawned {pa : Option Addr} {np pcap : Nat} (d : Bg w0 sz (.slice pa np pcap) B E R H sz.length sz.length np w cv tvv left zs bs lab vs rl) (hnp : np ≤ 1000) :
    Calls Tryz.prog 57 #[.pointer (some ⟨E, 0, none⟩)] w fun e w' => e = .returned (.tuple #[]) ∧ w'.cell? ⟨H, 0, none⟩ = some (.pointer (some ⟨B, 0, none⟩)) ∧ Bgn w0 sz np (.slice pa np pcap) B E R w' := by
  have nil : ∀ i e size, (vz (.slice pa np pcap))[i]? = some (.slice none 0 0) → i ≠ 1 → Dr w w0.heap.size rl vs i e size 0 [] := fun i e size hi h1 => ⟨_, (d.vt i h1).trans hi, ⟨by simp, .inl ⟨rfl, rfl⟩⟩, fun k hk => (by cases hk)⟩
  refine (rspawn0 d.dw d.low ((d.vt 0 (by omega)).trans rfl) hnp (nil 2 _ _ rfl (by omega)) (nil 3 _ _ rfl (by omega)) (nil 4 _ _ rfl (by omega)) (nil 5 _ _ rfl (by omega))).mono ?_
  rintro e w' ⟨rfl, h⟩
  obtain ⟨vs', rl', D, hl, hold, r2, r3, r4, r5, ho, y⟩ := h.ex
  obtain ⟨ev, a, s, A, K, hm, q⟩ := d.wd.ex
  have hlow := d.low
  refine ⟨rfl, cell_of_row _ _ 0 _ _ _ ((y.tb.block H (heap_lt d.eH) (fun e => by have := d.ap H e; rw [d.hH] at this; cases this)).trans d.eH), cv, tvv, left, zs, bs, lab, vs', rl', ⟨ev, a, s, A, K, hm.away y.tb (fun k hk => ⟨d.ap k hk, fun f => d.dw.nt k f hk⟩), q⟩, D, by rw [hl]; exact d.vl, fun j hj => ?_, ho 1 _ _ _ _ (by omega) d.r1, r2, r3, r4, r5, fun k hk => ?_, d.bl.trans (y.tb.below (fun k hk => ?_) hlow)⟩
  · rw [hold j (by omega)]
    exact d.vt j (by omega)
  · rcases y.dm k hk with h1 | h1
    · exact d.ap k h1
    · exact hm.fresh h1
  · obtain ⟨l, hl⟩ := Option.ne_none_iff_exists'.1 hk
    exact (d.dw.lo k l hl).1
end

end Go.Proofs.YtgjpbekmkhanhaaGreat.CH

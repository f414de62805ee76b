/-
  CspNone: its closures; what is asked of no runtime.
-/
import Derived.Test.YtnljgkemplebhaaCsr
namespace Go.Proofs.Ytnljgkemplebhaa
open Go.RowKit QI
set_option maxRecDepth 100000
set_option linter.unusedSimpArgs false

theorem ent25 : Ent 25 := fun _ _ => by go_simp
theorem ent28 : Ent 28 := fun _ _ => by go_simp
theorem ent29 : Ent 29 := fun _ _ => by go_simp
theorem none3 (X : World) (v : Value) : Calls Try.prog 29 #[v] X fun e w' => e = .returned (.tuple #[]) ∧ w' = X := by
  go_enter Try.func29, Try.ntmps29
  go_wp2_with fail
  go_end0
  exact ⟨rfl, rfl⟩
theorem parked_none {w : World} {p : Option Addr} (C : Calls Try.prog 36 #[.pointer p] w fun e w' => e = .returned (.bool false) ∧ w' = w) : Calls Try.prog 20 #[.pointer p] w fun e w' => e = .returned (.slice none 0 0) ∧ w' = w := by
  go_enter Try.func20, Try.ntmps20
  go_wp2_with fail
  refine C.mono ?_
  rintro e w1 ⟨rfl, hw1⟩
  subst w1
  go_wp2_with fail
  go_ret
  exact ⟨rfl, rfl⟩
theorem pickOf_nil (w : World) (i : Int) : Calls Try.prog 56 #[.slice none 0 0, .int .i64 i] w fun e w' => e = .returned (.int .u64 0) ∧ w' = w := by
  go_enter Try.func56, Try.ntmps56
  go_wp2_with fail
  go_ret
  exact ⟨rfl, rfl⟩
theorem run_none (w : World) : Calls Try.prog 22 #[.pointer none, .slice none 0 0, .int .i64 9] w fun e w' => e = .returned (.int .i64 0) ∧ w' = w := by
  have CP := pickOf_nil w 0
  have CS := step_none (rmade_nil w) 0
  go_enter Try.func22, Try.ntmps22
  go_wp2_with fail
  go_loopw [7] (fun iv wr => iv = .int .i64 0 ∧ wr = w) (fun _ _ => 0)
  case atStart => exact ⟨rfl, rfl⟩
  case round =>
    obtain ⟨rfl, hwr⟩ := hrel
    subst hwr
    go_wp2_with fail
    refine CP.mono ?_
    rintro e w1 ⟨rfl, hw1⟩
    subst w1
    go_wp2_with fail
    refine CS.mono ?_
    rintro e w1 ⟨rfl, hw1⟩
    subst w1
    go_wp2_with fail
    go_ret
    exact ⟨rfl, rfl⟩

/-- A runtime, and the law's variables beside it. -/
structure Bv (W w : World) (a : Ad) (s : Rs) (gx gi go gr gg R : Nat) (vi : Bool) (vo : Int) (vr : Bool) (vg : Int) : Prop where
  rt : Rt w a s
  hR : a.R = R
  ex : w.heap[gx]? = some (.cells #[.pointer (some ⟨R, 0, none⟩)] (26 : TypeId) (0, 0))
  ei : w.heap[gi]? = some (.cells #[.bool vi] 4 (0, 0))
  eo : w.heap[go]? = some (.cells #[.int .i64 vo] (37 : TypeId) (0, 0))
  er : w.heap[gr]? = some (.cells #[.bool vr] 4 (0, 0))
  eg : w.heap[gg]? = some (.cells #[.int .i64 vg] 3 (0, 0))
  nn : ∀ k, k = gx ∨ k = gi ∨ k = go ∨ k = gr ∨ k = gg → ¬ own a s k ∧ k ≠ a.Q ∧ W.heap.size ≤ k
  ir : gi ≠ gr
  lo : ∀ k, own a s k ∨ k = a.Q → W.heap.size ≤ k
  bel : Below W.heap.size W w

section
variable {W w w' : World} {a a' : Ad} {s s' : Rs} {gx gi go gr gg R : Nat} {vi vr : Bool} {vo vg : Int}
theorem Bv.rp (h : Bv W w a s gx gi go gr gg R vi vo vr vg) (x : Rp w a s w' a' s') : Bv W w' a' s' gx gi go gr gg R vi vo vr vg := by
  obtain ⟨hb, hlo⟩ := x.low h.bel h.lo
  have hl : ∀ k, k = gx ∨ k = gi ∨ k = go ∨ k = gr ∨ k = gg → k < w.heap.size := fun k hk => by
    rcases hk with rfl | rfl | rfl | rfl | rfl
    · exact heap_lt h.ex
    · exact heap_lt h.ei
    · exact heap_lt h.eo
    · exact heap_lt h.er
    · exact heap_lt h.eg
  refine ⟨x.rt, x.x.R.trans h.hR, (x.cell h.ex (h.nn _ (.inl rfl)).1).1, (x.cell h.ei (h.nn _ (.inr (.inl rfl))).1).1, (x.cell h.eo (h.nn _ (.inr (.inr (.inl rfl)))).1).1, (x.cell h.er (h.nn _ (.inr (.inr (.inr (.inl rfl))))).1).1, (x.cell h.eg (h.nn _ (.inr (.inr (.inr (.inr rfl))))).1).1, fun k hk => ?_, h.ir, hlo, hb⟩
  obtain ⟨q1, q2, q3⟩ := h.nn k hk
  exact ⟨fun ho => (x.x.own ho).elim q1 (fun h' => by have := hl k hk; omega), by rw [x.x.Q]; exact q2, q3⟩
theorem Bv.below (h : Bv W w a s gx gi go gr gg R vi vo vr vg) (hb : Below w.heap.size w w') : Bv W w' a s gx gi go gr gg R vi vo vr vg := h.rp (h.rt.same hb)
theorem Bv.cx (h : Bv W w a s gx gi go gr gg R vi vo vr vg) : w.cell? ⟨gx, 0, none⟩ = some (.pointer (some ⟨R, 0, none⟩)) := cell_of_row w _ 0 _ _ _ h.ex
theorem Bv.ne (h : Bv W w a s gx gi go gr gg R vi vo vr vg) : gx ≠ gi ∧ gx ≠ go ∧ gx ≠ gr ∧ gx ≠ gg ∧ gi ≠ go ∧ gi ≠ gg ∧ go ≠ gr ∧ go ≠ gg ∧ gr ≠ gg :=
  ⟨ne_type h.ex h.ei (by decide), ne_type h.ex h.eo (by decide), ne_type h.ex h.er (by decide), ne_type h.ex h.eg (by decide), ne_type h.ei h.eo (by decide), ne_type h.ei h.eg (by decide), ne_type h.eo h.er (by decide), ne_type h.eo h.eg (by decide), ne_type h.er h.eg (by decide)⟩
theorem Bv.setr (h : Bv W w a s gx gi go gr gg R vi vo vr vg) (v : Bool) : Bv W (w.setCell ⟨gr, 0, none⟩ (.bool v)) a s gx gi go gr gg R vi vo v vg := by
  obtain ⟨n1, n2, n3, n4, n5, n6, n7, n8, n9⟩ := h.ne
  have q := h.nn gr (.inr (.inr (.inr (.inl rfl))))
  exact ⟨h.rt.var q.1 q.2.1 _, h.hR, set_other _ h.ex n3, set_other _ h.ei h.ir, set_other _ h.eo n7, set_same _ h.er, set_other _ h.eg (fun e => n9 e.symm), h.nn, h.ir, h.lo, h.bel.setCell q.2.2 _⟩
theorem Bv.seti (h : Bv W w a s gx gi go gr gg R vi vo vr vg) (v : Bool) : Bv W (w.setCell ⟨gi, 0, none⟩ (.bool v)) a s gx gi go gr gg R v vo vr vg := by
  obtain ⟨n1, n2, n3, n4, n5, n6, n7, n8, n9⟩ := h.ne
  have q := h.nn gi (.inr (.inl rfl))
  exact ⟨h.rt.var q.1 q.2.1 _, h.hR, set_other _ h.ex n1, set_same _ h.ei, set_other _ h.eo (fun e => n5 e.symm), set_other _ h.er (fun e => h.ir e.symm), set_other _ h.eg (fun e => n6 e.symm), h.nn, h.ir, h.lo, h.bel.setCell q.2.2 _⟩
theorem Bv.seto (h : Bv W w a s gx gi go gr gg R vi vo vr vg) (v : Int) : Bv W (w.setCell ⟨go, 0, none⟩ (.int .i64 v)) a s gx gi go gr gg R vi v vr vg := by
  obtain ⟨n1, n2, n3, n4, n5, n6, n7, n8, n9⟩ := h.ne
  have q := h.nn go (.inr (.inr (.inl rfl)))
  exact ⟨h.rt.var q.1 q.2.1 _, h.hR, set_other _ h.ex n2, set_other _ h.ei n5, set_same _ h.eo, set_other _ h.er (fun e => n7 e.symm), set_other _ h.eg (fun e => n8 e.symm), h.nn, h.ir, h.lo, h.bel.setCell q.2.2 _⟩
theorem Bv.setg (h : Bv W w a s gx gi go gr gg R vi vo vr vg) (v : Int) : Bv W (w.setCell ⟨gg, 0, none⟩ (.int .i64 v)) a s gx gi go gr gg R vi vo vr v := by
  obtain ⟨n1, n2, n3, n4, n5, n6, n7, n8, n9⟩ := h.ne
  have q := h.nn gg (.inr (.inr (.inr (.inr rfl))))
  exact ⟨h.rt.var q.1 q.2.1 _, h.hR, set_other _ h.ex n4, set_other _ h.ei n6, set_other _ h.eo n8, set_other _ h.er n9, set_same _ h.eg, h.nn, h.ir, h.lo, h.bel.setCell q.2.2 _⟩

def w28 (g6 go gg : Nat) : Value := .func (.func 28) #[] #[.pointer (some ⟨g6, 0, none⟩), .pointer (some ⟨go, 0, none⟩), .pointer (some ⟨gg, 0, none⟩)]

set_option maxHeartbeats 1000000 in
/-- The first task's first turn. -/
theorem none2 {i b : Nat} {t : Tc} (h : Bv W w a s gx gi go gr gg R vi vo vr vg) (hr : s.run = some i) (hi : s.ts[i]? = some t) (hb : t.b = b) (hg : t.goes = false) :
    Calls Try.prog 25 #[.pointer (some ⟨b, 0, none⟩), .pointer (some ⟨gx, 0, none⟩), .pointer (some ⟨gr, 0, none⟩), .pointer (some ⟨gi, 0, none⟩), .pointer (some ⟨go, 0, none⟩), .pointer (some ⟨gg, 0, none⟩)] w fun e w2 => e = .returned (.tuple #[]) ∧ Hid (∃ g6, Bv W w2 a (s.put i ⟨t.b, t.nx, w28 g6 go gg⟩) gx gi go gr gg R false vo true vg ∧ w2.heap[g6]? = some (.cells #[.pointer (some ⟨b, 0, none⟩)] (44 : TypeId) (0, 0)) ∧ ¬ own a (s.put i ⟨t.b, t.nx, w28 g6 go gg⟩) g6 ∧ ∀ k o, w.heap[k]? = some o → ¬ own a s k → k ≠ gr → k ≠ gi → w2.heap[k]? = some o ∧ ¬ own a (s.put i ⟨t.b, t.nx, w28 g6 go gg⟩) k) := by
  subst hb
  obtain ⟨g6, hg6⟩ : ∃ g, Hid (g = w.heap.size) := ⟨_, hide rfl⟩
  obtain ⟨Y, hY⟩ : ∃ Y, Hid (Y = w.alloc (.cells #[.pointer (some ⟨t.b, 0, none⟩)] (44 : TypeId))) := ⟨_, hide rfl⟩
  have bY : Below w.heap.size w Y := by rw [hY.out]; exact (Below.refl _ w).alloc (Nat.le_refl _) _
  have hYg : Y.heap[g6]? = some (.cells #[.pointer (some ⟨t.b, 0, none⟩)] (44 : TypeId) (0, 0)) := by rw [hY.out, hg6.out]; exact heap_alloc_new w _
  have h1 := h.below bY
  have c1 := h1.cx
  have CR := running_any h1.rt
  rw [hr, h1.hR] at CR
  simp only [Option.isSome_some] at CR
  have d1 : Y.cell? ⟨gr, 0, none⟩ = some (.bool vr) := cell_of_row Y _ 0 _ _ _ h1.er
  have f1 := frozen_of_row Y gr 0 _ _ h1.er
  obtain ⟨Z, hZ⟩ : ∃ Z, Hid (Z = Y.setCell ⟨gr, 0, none⟩ (.bool true)) := ⟨_, hide rfl⟩
  have h2 := h1.setr true
  rw [← hZ.out] at h2
  have hZg : Z.heap[g6]? = some (.cells #[.pointer (some ⟨t.b, 0, none⟩)] (44 : TypeId) (0, 0)) := by rw [hZ.out]; exact set_other _ hYg (fun e => by have := ne_type hYg h1.er (by decide); exact this e)
  have c2 := h2.cx
  have CS := step_in h2.rt hr 0
  rw [h2.hR] at CS
  have d2 : Z.cell? ⟨gi, 0, none⟩ = some (.bool vi) := cell_of_row Z _ 0 _ _ _ h2.ei
  have f2 := frozen_of_row Z gi 0 _ _ h2.ei
  obtain ⟨U, hU⟩ : ∃ U, Hid (U = Z.setCell ⟨gi, 0, none⟩ (.bool false)) := ⟨_, hide rfl⟩
  have h3 := h2.seti false
  rw [← hU.out] at h3
  have hUg : U.heap[g6]? = some (.cells #[.pointer (some ⟨t.b, 0, none⟩)] (44 : TypeId) (0, 0)) := by rw [hU.out]; exact set_other _ hZg (fun e => by have := ne_type hZg h2.ei (by decide); exact this e)
  have c3 : U.cell? ⟨g6, 0, none⟩ = some (.pointer (some ⟨t.b, 0, none⟩)) := cell_of_row U _ 0 _ _ _ hUg
  have CP := park_yes h3.rt hi hr hg (.func 28) #[] #[.pointer (some ⟨g6, 0, none⟩), .pointer (some ⟨go, 0, none⟩), .pointer (some ⟨gg, 0, none⟩)]
  have HP : Hid (Calls Try.prog 27 #[.pointer (some ⟨t.b, 0, none⟩), .func (.func 28) #[] #[.pointer (some ⟨g6, 0, none⟩), .pointer (some ⟨go, 0, none⟩), .pointer (some ⟨gg, 0, none⟩)]] U fun e w2 => e = .returned (.int .i64 0) ∧ Hid (∃ g6, Bv W w2 a (s.put i ⟨t.b, t.nx, w28 g6 go gg⟩) gx gi go gr gg R false vo true vg ∧ w2.heap[g6]? = some (.cells #[.pointer (some ⟨t.b, 0, none⟩)] (44 : TypeId) (0, 0)) ∧ ¬ own a (s.put i ⟨t.b, t.nx, w28 g6 go gg⟩) g6 ∧ ∀ k o, w.heap[k]? = some o → ¬ own a s k → k ≠ gr → k ≠ gi → w2.heap[k]? = some o ∧ ¬ own a (s.put i ⟨t.b, t.nx, w28 g6 go gg⟩) k)) := hide (CP.mono (by
    rintro e w2 ⟨rfl, x⟩
    have hn : ¬ own a s g6 := fun ho => by have := h.rt.m.own_lt ho; have := hg6.out; omega
    obtain ⟨q1, q2⟩ := x.cell hUg hn
    exact ⟨rfl, hide ⟨g6, h3.rp x, q1, q2, fun k o ho hn' hk1 hk2 => x.cell (by rw [hU.out]; refine set_other _ ?_ hk2; rw [hZ.out]; exact set_other _ ((bY.block _ (heap_lt ho)).trans ho) hk1) hn'⟩⟩))
  have HG6 : Hid (w.heap.size = g6) := hide hg6.out.symm
  generalize t.b = b at *
  clear CP h h1 h2 h3 hYg hZg hUg bY hr hi hg
  go_enter Try.func25, Try.ntmps25
  go_wp2_with (first | (rw [← hY.out, HG6.out]))
  refine CR.mono ?_
  rintro e w1 ⟨rfl, hw1⟩
  subst w1
  go_wp2_with (first | (rw [← hZ.out]))
  refine CS.mono ?_
  rintro e w1 ⟨rfl, hw1⟩
  subst w1
  go_wp2_with (first | (rw [← hU.out]))
  refine HP.out.mono ?_
  rintro e w2 ⟨rfl, hF⟩
  go_wp2_with fail
  go_end0
  exact ⟨rfl, hF⟩

set_option maxHeartbeats 1000000 in
/-- The first task's second turn. -/
theorem none21 {i b g6 : Nat} {t : Tc} (h : Bv W w a s gx gi go gr gg R vi vo vr vg) (hi : s.ts[i]? = some t) (hb : t.b = b) (h6 : w.heap[g6]? = some (.cells #[.pointer (some ⟨b, 0, none⟩)] (44 : TypeId) (0, 0))) (why : Int) :
    Calls Try.prog 28 #[.int .i64 why, .pointer (some ⟨g6, 0, none⟩), .pointer (some ⟨go, 0, none⟩), .pointer (some ⟨gg, 0, none⟩)] w fun e w2 => e = .returned (.tuple #[]) ∧ Hid (Bv W w2 a s gx gi go gr gg R vi 1 vr why ∧ ∀ k o, w.heap[k]? = some o → k ≠ go → k ≠ gg → w2.heap[k]? = some o) := by
  subst hb
  have CP := park_nil h.rt hi
  have c6 : w.cell? ⟨g6, 0, none⟩ = some (.pointer (some ⟨t.b, 0, none⟩)) := cell_of_row w _ 0 _ _ _ h6
  have d1 : w.cell? ⟨go, 0, none⟩ = some (.int .i64 vo) := cell_of_row w _ 0 _ _ _ h.eo
  have f1 := frozen_of_row w go 0 _ _ h.eo
  obtain ⟨Z, hZ⟩ : ∃ Z, Hid (Z = w.setCell ⟨go, 0, none⟩ (.int .i64 1)) := ⟨_, hide rfl⟩
  have h2 := h.seto 1
  rw [← hZ.out] at h2
  have d2 : Z.cell? ⟨gg, 0, none⟩ = some (.int .i64 vg) := cell_of_row Z _ 0 _ _ _ h2.eg
  have f2 := frozen_of_row Z gg 0 _ _ h2.eg
  obtain ⟨U, hU⟩ : ∃ U, Hid (U = Z.setCell ⟨gg, 0, none⟩ (.int .i64 why)) := ⟨_, hide rfl⟩
  have h3 := h2.setg why
  rw [← hU.out] at h3
  have HF : Hid (Bv W U a s gx gi go gr gg R vi 1 vr why ∧ ∀ k o, w.heap[k]? = some o → k ≠ go → k ≠ gg → U.heap[k]? = some o) := hide ⟨h3, fun k o ho h1 h2 => by rw [hU.out]; refine set_other _ ?_ h2; rw [hZ.out]; exact set_other _ ho h1⟩
  generalize t.b = b at *
  clear h h2 h3 hi h6
  go_enter Try.func28, Try.ntmps28
  go_wp2_with fail
  refine CP.mono ?_
  rintro e w1 ⟨rfl, hw1⟩
  subst w1
  go_wp2_with (first | (rw [← hZ.out]) | (rw [← hU.out]))
  go_end0
  exact ⟨rfl, HF⟩
end

end Go.Proofs.Ytnljgkemplebhaa

/-
  A runtime: New, Spawn; what is asked of it and of a task: Id, Runtime, Over, Running, Ready, Choice.
-/
import Derived.Test.YtennciddjkijaaaCrd
namespace Go.Proofs.Ytennciddjkijaaa
open Go.RowKit QI
set_option maxRecDepth 100000
set_option linter.unusedSimpArgs false

section
variable {w : World} {a : Ad} {s : Rs} {i : Nat} {t : Tc}

theorem id_any (h : Rt w a s) (hi : s.ts[i]? = some t) : Calls Try.prog 15 #[.pointer (some ⟨t.b, 0, none⟩)] w fun e w' => e = .returned (.int .i64 i) ∧ w' = w := by
  have C := tmade_yes (b := t.b) (h.m.cT hi 0)
  have c2 : w.cell? ⟨t.b, 2, none⟩ = some (.int .i64 i) := h.m.cT hi 2
  clear h hi
  generalize t.b = b at *
  go_enter Try.func15, Try.ntmps15
  go_wp2_with fail
  refine C.mono ?_
  rintro e w1 ⟨rfl, hw1⟩
  subst w1
  go_wp2_with fail
  go_ret
  exact ⟨rfl, rfl⟩

theorem id_none {p : Option Addr} (C : Calls Try.prog 52 #[.pointer p] w fun e w' => e = .returned (.bool false) ∧ w' = w) : Calls Try.prog 15 #[.pointer p] w fun e w' => e = .returned (.int .i64 0) ∧ w' = w := by
  go_enter Try.func15, Try.ntmps15
  go_wp2_with fail
  refine C.mono ?_
  rintro e w1 ⟨rfl, hw1⟩
  subst w1
  go_wp2_with fail
  go_ret
  exact ⟨rfl, rfl⟩

theorem runtime_any (h : Rt w a s) (hi : s.ts[i]? = some t) : Calls Try.prog 18 #[.pointer (some ⟨t.b, 0, none⟩)] w fun e w' => e = .returned (.pointer (some ⟨a.R, 0, none⟩)) ∧ w' = w := by
  have C := tmade_yes (b := t.b) (h.m.cT hi 0)
  have c2 : w.cell? ⟨t.b, 1, none⟩ = some (.pointer (some ⟨a.R, 0, none⟩)) := h.m.cT hi 1
  clear h hi
  generalize t.b = b at *
  generalize a.R = r at *
  go_enter Try.func18, Try.ntmps18
  go_wp2_with fail
  refine C.mono ?_
  rintro e w1 ⟨rfl, hw1⟩
  subst w1
  go_wp2_with fail
  go_ret
  exact ⟨rfl, rfl⟩

theorem runtime_none {p : Option Addr} (C : Calls Try.prog 52 #[.pointer p] w fun e w' => e = .returned (.bool false) ∧ w' = w) : Calls Try.prog 18 #[.pointer p] w fun e w' => e = .returned (.pointer none) ∧ w' = w := by
  go_enter Try.func18, Try.ntmps18
  go_wp2_with fail
  refine C.mono ?_
  rintro e w1 ⟨rfl, hw1⟩
  subst w1
  go_wp2_with fail
  go_ret
  exact ⟨rfl, rfl⟩

theorem over_any (h : Rt w a s) (hi : s.ts[i]? = some t) : Calls Try.prog 16 #[.pointer (some ⟨t.b, 0, none⟩)] w fun e w' => e = .returned (.bool (!s.live i)) ∧ w' = w := by
  have C := tmade_yes (b := t.b) (h.m.cT hi 0)
  have CR := isrun_any h.m h.ok.runs hi
  have CG := goes_any h.m (h.ok.fv t (List.mem_of_getElem? hi)) hi
  rw [live_goes hi]
  clear h hi
  generalize t.b = b at *
  generalize t.goes = g at *
  generalize decide (s.run = some i) = d at *
  cases d
  · go_enter Try.func16, Try.ntmps16
    go_wp2_with fail
    refine C.mono ?_
    rintro e w1 ⟨rfl, hw1⟩
    subst w1
    go_wp2_with fail
    refine CR.mono ?_
    rintro e w1 ⟨rfl, hw1⟩
    subst w1
    go_wp2_with fail
    refine CG.mono ?_
    rintro e w1 ⟨rfl, hw1⟩
    subst w1
    go_wp2_with fail
    go_ret
    exact ⟨by simp, rfl⟩
  · go_enter Try.func16, Try.ntmps16
    go_wp2_with fail
    refine C.mono ?_
    rintro e w1 ⟨rfl, hw1⟩
    subst w1
    go_wp2_with fail
    refine CR.mono ?_
    rintro e w1 ⟨rfl, hw1⟩
    subst w1
    go_wp2_with fail
    go_ret
    exact ⟨by simp, rfl⟩

theorem over_none {p : Option Addr} (C : Calls Try.prog 52 #[.pointer p] w fun e w' => e = .returned (.bool false) ∧ w' = w) : Calls Try.prog 16 #[.pointer p] w fun e w' => e = .returned (.bool false) ∧ w' = w := by
  go_enter Try.func16, Try.ntmps16
  go_wp2_with fail
  refine C.mono ?_
  rintro e w1 ⟨rfl, hw1⟩
  subst w1
  go_wp2_with fail
  go_ret
  exact ⟨rfl, rfl⟩

theorem running_any (h : Rt w a s) : Calls Try.prog 26 #[.pointer (some ⟨a.R, 0, none⟩)] w fun e w' => e = .returned (.bool s.run.isSome) ∧ w' = w := by
  have C := rmade_yes (b := a.R) (h.m.cR 0)
  have c4 : w.cell? ⟨a.R, 4, none⟩ = some (.pointer s.rp) := h.m.cR 4
  clear h
  generalize a.R = r at *
  unfold Rs.rp at c4
  cases e : s.run with
  | none =>
    rw [e] at c4
    simp only [Option.map_none] at c4
    go_enter Try.func26, Try.ntmps26
    go_wp2_with fail
    refine C.mono ?_
    rintro e w1 ⟨rfl, hw1⟩
    subst w1
    go_wp2_with fail
    go_ret
    exact ⟨rfl, rfl⟩
  | some k =>
    rw [e] at c4
    simp only [Option.map_some] at c4
    generalize s.adr k = p at *
    go_enter Try.func26, Try.ntmps26
    go_wp2_with fail
    refine C.mono ?_
    rintro e w1 ⟨rfl, hw1⟩
    subst w1
    go_wp2_with fail
    go_ret
    exact ⟨rfl, rfl⟩

theorem running_none {p : Option Addr} (C : Calls Try.prog 36 #[.pointer p] w fun e w' => e = .returned (.bool false) ∧ w' = w) : Calls Try.prog 26 #[.pointer p] w fun e w' => e = .returned (.bool false) ∧ w' = w := by
  go_enter Try.func26, Try.ntmps26
  go_wp2_with fail
  refine C.mono ?_
  rintro e w1 ⟨rfl, hw1⟩
  subst w1
  go_wp2_with fail
  go_ret
  exact ⟨rfl, rfl⟩

theorem readys_any (h : Rt w a s) : Calls Try.prog 14 #[.pointer (some ⟨a.R, 0, none⟩)] w fun e w' => ∃ p cap, e = .returned (.slice p s.line.length cap) ∧ w'.ownsRow w.heap.size 3 1 (.slice p s.line.length cap) s.line.length (W s.line) ∧ Below w.heap.size w w' := by
  have C := rmade_yes (b := a.R) (h.m.cR 0)
  have c1 : w.cell? ⟨a.R, 1, none⟩ = some (.pointer (some ⟨a.Q, 0, none⟩)) := h.m.cR 1
  obtain ⟨N, hd, q⟩ := h.m.qu
  have CL := slist_yes h.m.sd q
  clear q h
  generalize s.line = l at *
  obtain ⟨n, hn⟩ : ∃ n, Hid (n = l.length) := ⟨_, hide rfl⟩
  rw [← hn.out] at CL ⊢
  generalize a.R = r at *
  generalize a.Q = q at *
  go_enter Try.func14, Try.ntmps14
  go_wp2_with fail
  refine C.mono ?_
  rintro e w1 ⟨rfl, hw1⟩
  subst w1
  go_wp2_with fail
  refine CL.mono ?_
  rintro e w2 ⟨p, cap, rfl, ho, hb⟩
  have HO := hide ho
  have HB := hide hb
  clear ho hb
  go_wp2_with fail
  go_ret
  exact ⟨p, cap, rfl, HO.out, HB.out⟩

theorem readys_none {p : Option Addr} (C : Calls Try.prog 36 #[.pointer p] w fun e w' => e = .returned (.bool false) ∧ w' = w) : Calls Try.prog 14 #[.pointer p] w fun e w' => e = .returned (.slice none 0 0) ∧ w' = w := by
  go_enter Try.func14, Try.ntmps14
  go_wp2_with fail
  refine C.mono ?_
  rintro e w1 ⟨rfl, hw1⟩
  subst w1
  go_wp2_with fail
  go_ret
  exact ⟨rfl, rfl⟩

/-- What Choice answers of what is left of the pick. -/
theorem choice_yes (h : Rt w a s) {k : Nat} (hr : s.run = some k) (n : Nat) (hn0 : 0 < n) (hn : n ≤ 9223372036854775807) :
    Calls Try.prog 37 #[.pointer (some ⟨a.R, 0, none⟩), .int .i64 (n : Int)] w fun e w' => e = .returned (.int .i64 (s.left % n : Nat)) ∧ Rp w a s w' a (s.take n) := by
  have C := running_any h
  rw [hr] at C
  simp only [Option.isSome_some] at C
  have c5 : w.cell? ⟨a.R, 5, none⟩ = some (.int .u64 s.left) := h.m.cR 5
  have f5 := h.m.fR 5
  obtain ⟨X, hX⟩ : ∃ X, Hid (X = w.setCell ⟨a.R, 5, none⟩ (.int .u64 (s.left / n : Nat))) := ⟨_, hide rfl⟩
  have tX : Tb (fun k => k = a.R) w X := by rw [hX.out]; exact Tb.set a.R 5 _ rfl
  have rX : Rm X a (s.take n) s.lives := h.m.robj tX (by
    rw [hX.out, heap_setCell_same w a.R 5 _ _ _ h.m.obj]
    rfl) rfl rfl
  have HF : Hid (Rp w a s X a (s.take n)) := hide ⟨⟨rX, h.ok.take n⟩, .turn (tX.mono (fun k _ e => .inl e)) rfl⟩
  have hlf := h.ok.lft
  clear h tX rX hr
  generalize a.R = r at *
  generalize s.left = p at *
  have hlt : p % n < n := Nat.mod_lt _ hn0
  have hdl : p / n ≤ p := Nat.div_le_self _ _
  have ht : (p : Int).tmod (n : Int) = ((p % n : Nat) : Int) := by
    rw [Int.tmod_eq_emod_of_nonneg (by omega)]
    simp
  have hd : (p : Int).tdiv (n : Int) = ((p / n : Nat) : Int) := by
    rw [Int.tdiv_eq_ediv_of_nonneg (by omega)]
    simp
  have h00 : ((n : Int) == 0) = false := by rw [beq_eq_false_iff_ne]; omega
  obtain ⟨KK, hKK⟩ : ∃ KK, Hid (KK = p % n) := ⟨_, hide rfl⟩
  rw [← hKK.out] at ht hlt ⊢
  obtain ⟨D, hD⟩ : ∃ D, Hid (D = p / n) := ⟨_, hide rfl⟩
  rw [← hD.out] at hd hdl hX
  have hwr : IntKind.u64.wrap (n : Int) = (n : Int) := by simp [IntKind.wrap, IntKind.signed, IntKind.bits]; omega
  go_enter Try.func37, Try.ntmps37
  go_wp2_with fail
  refine C.mono ?_
  rintro e w1 ⟨rfl, hw1⟩
  subst w1
  go_wp2_with fail
  rw [← hX.out]
  go_ret
  exact ⟨rfl, HF.out⟩

theorem choice_no {p : Option Addr} {b : Bool} (C : Calls Try.prog 26 #[.pointer p] w fun e w' => e = .returned (.bool b) ∧ w' = w) (n : Int) (hb : b = false ∨ n ≤ 0) :
    Calls Try.prog 37 #[.pointer p, .int .i64 n] w fun e w' => e = .returned (.int .i64 0) ∧ w' = w := by
  cases b
  · clear hb
    go_enter Try.func37, Try.ntmps37
    go_wp2_with fail
    refine C.mono ?_
    rintro e w1 ⟨rfl, hw1⟩
    subst w1
    go_wp2_with fail
    go_ret
    exact ⟨rfl, rfl⟩
  · have hn : n ≤ 0 := hb.elim (fun h => by cases h) id
    clear hb
    go_enter Try.func37, Try.ntmps37
    go_wp2_with fail
    refine C.mono ?_
    rintro e w1 ⟨rfl, hw1⟩
    subst w1
    go_wp2_with fail
    go_ret
    exact ⟨rfl, rfl⟩
end

/-- A runtime without tasks. -/
def rs0 : Rs := ⟨[], [], none, 0⟩
theorem rok0 : Rok rs0 where
  fv := fun t h => by cases h
  nd := List.Pairwise.nil
  mem := fun x => ⟨fun h => (by cases h), fun ⟨i, t, _, h, _⟩ => (by simp [rs0] at h)⟩
  one := fun t h => by cases h
  runs := fun i h => by cases h
  room := by simp [rs0, Rs.lives]
  many := by simp [rs0]
  lft := by simp [rs0]

set_option maxHeartbeats 1000000 in
theorem new_any (w : World) : Calls Try.prog 8 #[] w fun e w' => ∃ a, e = .returned (.pointer (some ⟨a.R, 0, none⟩)) ∧ Rt w' a rs0 ∧ (∀ k, own a rs0 k ∨ k = a.Q → w.heap.size ≤ k) ∧ Below w.heap.size w w' := by
  have CN := snew_any w
  go_enter Try.func8, Try.ntmps8
  go_wp2_with fail
  refine CN.mono ?_
  rintro e w1 ⟨Q, U, G, N, h, rfl, sd, q, h1, h2, h3, hb⟩
  have hmk := mkT w1
  obtain ⟨M, hM⟩ : ∃ M, Hid (M = w1.heap.size) := ⟨_, hide rfl⟩
  obtain ⟨X, hX⟩ : ∃ X, Hid (X = w1.alloc (.map #[] 0)) := ⟨_, hide rfl⟩
  have mX : Mt X M [] (fun k => rs0.adr k.toNat) := by rw [hX.out, hM.out]; exact Mt.new w1 _
  have bX : Below w1.heap.size w1 X := by rw [hX.out]; exact (Below.refl _ w1).alloc (Nat.le_refl _) _
  rw [← hM.out, ← hX.out] at hmk
  obtain ⟨R, hR⟩ : ∃ R, Hid (R = X.heap.size) := ⟨_, hide rfl⟩
  obtain ⟨Y, hY⟩ : ∃ Y, Hid (Y = X.alloc (.cells #[.pointer none, .pointer (some ⟨Q, 0, none⟩), .map (some M), .int .i64 0, .pointer none, .int .u64 0] (61 : TypeId))) := ⟨_, hide rfl⟩
  have hYR : Y.heap[R]? = some (.cells #[.pointer none, .pointer (some ⟨Q, 0, none⟩), .map (some M), .int .i64 0, .pointer none, .int .u64 0] (61 : TypeId) (0, 0)) := by rw [hY.out, hR.out]; exact heap_alloc_new X _
  have bY : Below X.heap.size X Y := by rw [hY.out]; exact (Below.refl _ X).alloc (Nat.le_refl _) _
  have y0 : Y.cell? ⟨R, 0, none⟩ = some (.pointer none) := cell_of_row Y R 0 _ _ _ hYR
  have f0 := frozen_of_row Y R 0 _ _ hYR
  obtain ⟨Z, hZ⟩ : ∃ Z, Hid (Z = Y.setCell ⟨R, 0, none⟩ (.pointer (some ⟨R, 0, none⟩))) := ⟨_, hide rfl⟩
  have bZ : Below X.heap.size X Z := by rw [hZ.out]; exact bY.setCell (by simp [hR.out]) _
  have b1Z : Below w1.heap.size w1 Z := bX.trans (bZ.mono bX.size)
  have HF : Hid (∃ a : Ad, a.R = R ∧ Rt Z a rs0 ∧ (∀ k, own a rs0 k ∨ k = a.Q → w.heap.size ≤ k) ∧ Below w.heap.size w Z) := hide (by
    refine ⟨⟨R, Q, U, G, M⟩, rfl, ⟨⟨?_, sd.below b1Z, ⟨N, h, q.below b1Z⟩, ?_, fun i t hi => by simp [rs0] at hi⟩, rok0⟩, ?_, hb.trans (b1Z.mono hb.size)⟩
    · rw [hZ.out, heap_setCell_same Y R 0 _ _ _ hYR]
      rfl
    · rw [show rs0.lives = [] by simp [rs0, Rs.lives]]
      exact mX.heap (bZ.block _ mX.lt)
    · have hz := hb.size
      have hz2 := bX.size
      have e1 := hM.out
      have e2 := hR.out
      rintro k ((e | e | e | e | ⟨t, ht, _⟩) | e)
      · rw [e]; show w.heap.size ≤ R; omega
      · rw [e]; exact h2
      · rw [e]; exact h3
      · rw [e]; show w.heap.size ≤ M; omega
      · simp [rs0] at ht
      · rw [e]; exact h1)
  have HXs : Hid (X.heap.size = R) := hide hR.out.symm
  clear mX bX bY bZ b1Z sd q hb hYR h1 h2 h3
  go_wp2_with (first | (rw [← hY.out, HXs.out]))
  rw [← hZ.out]
  go_ret
  obtain ⟨a, e, hF⟩ := HF.out
  exact ⟨a, by rw [e]; rfl, hF⟩

end Go.Proofs.Ytennciddjkijaaa

/-
  Texts put into one.
-/
import Derived.Test.YtgjpbekmkhanhaaGreatQkb62e0d9c

/-
  A task says how it goes on: Yield, Park, Wake.
-/
namespace Go.Proofs.YtgjpbekmkhanhaaGreat
open Go.RowKit QI
set_option maxRecDepth 100000
set_option linter.unusedSimpArgs false

section
variable {w : World} {a : Ad} {s : Rs} {i : Nat} {t : Tc}

/-- What Yield answers, and leaves. -/
theorem yield_yes (h : Rt w a s) (hi : s.ts[i]? = some t) (hr : s.run = some i) (hg : t.goes = false) (f : Fn) (xs ys : Array Value) :
    Calls Tryz.prog 72 #[.pointer (some ⟨t.b, 0, none⟩), .func f xs ys] w fun e w' => e = .returned (.int .i64 0) ∧ ∃ a', Rp w a s w' a' (s.gets i { t with nx := .func f xs ys }) := by
  have hno : on t.nx = false ∧ on t.wk = false := by simpa [Tc.goes] using hg
  have hwk : t.wk = .nilFunc := by
    have := (h.ok.fv t (List.mem_of_getElem? hi)).2
    rcases this with e | ⟨f', x', y', e⟩
    · exact e
    · rw [e] at hno; cases hno.2
  have C := refused_any h hi false
  rw [show rfE s i t false = 0 by simp [rfE, hr, hg]] at C
  have hlive : s.live i = true := by rw [live_goes hi]; simp [hr]
  have CG : Hid (Calls Tryz.prog 67 #[.pointer (some ⟨t.b, 0, none⟩), .func f xs ys] w fun e w' => e = .returned (.tuple #[]) ∧ ∃ a', Rp w a s w' a' (s.gets i { t with nx := .func f xs ys })) := hide (by
    refine (getReady_any h.m hi (h.ok.less hi hno.1 hlive) (h.ok.notin hi hno.1) (h.ok.id hi).2 f xs ys).mono ?_
    rintro e w' ⟨rfl, a', m', x'⟩
    refine ⟨rfl, a', ⟨?_, h.ok.gets hi hno.1 (Fv.fn _ _ _) rfl hwk (.inl hr)⟩, x'⟩
    rw [lives_gets hi (.inl hr)]
    exact m')
  have e1 := eql_func_no (P := Tryz.prog) (w := w) f xs ys Tryz.underlying1
  clear h hi hr hg hno hwk hlive
  generalize t.b = b at *
  go_enter Tryz.func72, Tryz.ntmps72
  go_wp2_with fail
  refine C.mono ?_
  rintro e w1 ⟨rfl, hw1⟩
  subst w1
  go_wp2_with fail
  refine CG.out.mono ?_
  rintro e w1 ⟨rfl, h1⟩
  have H1 := hide h1
  clear h1 CG
  go_wp2_with fail
  go_ret
  exact ⟨rfl, H1.out⟩

theorem yield_no (h : Rt w a s) (hi : s.ts[i]? = some t) (hr : s.run ≠ some i ∨ t.goes = true) (f : Fn) (xs ys : Array Value) :
    Calls Tryz.prog 72 #[.pointer (some ⟨t.b, 0, none⟩), .func f xs ys] w fun e w' => e = .returned (.int .i64 (if s.run = some i then 151 else 152)) ∧ w' = w := by
  have C := refused_any h hi false
  rw [show rfE s i t false = if s.run = some i then 151 else 152 by
    unfold rfE
    by_cases e : s.run = some i
    · have hg : t.goes = true := hr.elim (fun h => absurd e h) id
      simp [e, hg]
    · simp [e]] at C
  have hE : Hid ((if s.run = some i then (151 : Int) else 152) ≠ 0) := hide (by split <;> omega)
  have e1 := eql_func_no (P := Tryz.prog) (w := w) f xs ys Tryz.underlying1
  clear h hi hr
  generalize t.b = b at *
  generalize (if s.run = some i then (151 : Int) else 152) = E at *
  have hE' : (E == 0) = false := by have := hE.out; simpa using this
  have hne := hE.out
  go_enter Tryz.func72, Tryz.ntmps72
  go_wp2_with fail
  refine C.mono ?_
  rintro e w1 ⟨rfl, hw1⟩
  subst w1
  go_wp2_with fail
  go_ret
  exact ⟨rfl, rfl⟩

theorem yield_none {p : Option Addr} (C : Calls Tryz.prog 92 #[.pointer p] w fun e w' => e = .returned (.bool false) ∧ w' = w) (f : Fn) (xs ys : Array Value) :
    Calls Tryz.prog 72 #[.pointer p, .func f xs ys] w fun e w' => e = .returned (.int .i64 1) ∧ w' = w := by
  have C := refused_none C false
  have e1 := eql_func_no (P := Tryz.prog) (w := w) f xs ys Tryz.underlying1
  go_enter Tryz.func72, Tryz.ntmps72
  go_wp2_with fail
  refine C.mono ?_
  rintro e w1 ⟨rfl, hw1⟩
  subst w1
  go_wp2_with fail
  go_ret
  exact ⟨rfl, rfl⟩

theorem park_yes (h : Rt w a s) (hi : s.ts[i]? = some t) (hr : s.run = some i) (hg : t.goes = false) (f : Fn) (xs ys : Array Value) :
    Calls Tryz.prog 129 #[.pointer (some ⟨t.b, 0, none⟩), .func f xs ys] w fun e w' => e = .returned (.int .i64 0) ∧ Rp w a s w' a (s.put i { t with wk := .func f xs ys }) := by
  have hno : on t.nx = false ∧ on t.wk = false := by simpa [Tc.goes] using hg
  have C := refused_any h hi false
  rw [show rfE s i t false = 0 by simp [rfE, hr, hg]] at C
  obtain ⟨X, hX⟩ : ∃ X, Hid (X = w.setCell ⟨t.b, 4, none⟩ (.func f xs ys)) := ⟨_, hide rfl⟩
  have tX : Tb (fun k => k = t.b) w X := by rw [hX.out]; exact Tb.set t.b 4 _ rfl
  have hX1 : Rm X a (s.put i { t with wk := .func f xs ys }) s.lives := h.m.tobj hi rfl tX (by
    rw [hX.out, heap_setCell_same w t.b 4 _ _ _ (h.m.tk i t hi)]
    rfl)
  have HF : Hid (Rp w a s X a (s.put i { t with wk := .func f xs ys })) := hide ⟨⟨by rw [lives_put hi (.inl hr)]; exact hX1, h.ok.put hi (Fv.fn _ _ _) rfl (fun h' => by simp [hno.1] at h') (.inl hr)⟩, .turn (tX.mono (fun k _ e => by subst e; exact own_task hi)) (map_set hi rfl)⟩
  have f4 := h.m.fT hi 4
  obtain ⟨c4, hc4⟩ : ∃ x, w.cell? ⟨t.b, 4, none⟩ = some x := ⟨_, h.m.cT hi 4⟩
  have e1 := eql_func_no (P := Tryz.prog) (w := w) f xs ys Tryz.underlying128
  clear h hi hr hg hno tX hX1
  generalize t.b = b at *
  go_enter Tryz.func129, Tryz.ntmps129
  go_wp2_with fail
  refine C.mono ?_
  rintro e w1 ⟨rfl, hw1⟩
  subst w1
  go_wp2_with fail
  rw [← hX.out]
  go_ret
  exact ⟨rfl, HF.out⟩

theorem park_no (h : Rt w a s) (hi : s.ts[i]? = some t) (hr : s.run ≠ some i ∨ t.goes = true) (f : Fn) (xs ys : Array Value) :
    Calls Tryz.prog 129 #[.pointer (some ⟨t.b, 0, none⟩), .func f xs ys] w fun e w' => e = .returned (.int .i64 (if s.run = some i then 151 else 152)) ∧ w' = w := by
  have C := refused_any h hi false
  rw [show rfE s i t false = if s.run = some i then 151 else 152 by
    unfold rfE
    by_cases e : s.run = some i
    · have hg : t.goes = true := hr.elim (fun h => absurd e h) id
      simp [e, hg]
    · simp [e]] at C
  have hE : Hid ((if s.run = some i then (151 : Int) else 152) ≠ 0) := hide (by split <;> omega)
  have e1 := eql_func_no (P := Tryz.prog) (w := w) f xs ys Tryz.underlying128
  clear h hi hr
  generalize t.b = b at *
  generalize (if s.run = some i then (151 : Int) else 152) = E at *
  have hE' : (E == 0) = false := by have := hE.out; simpa using this
  have hne := hE.out
  go_enter Tryz.func129, Tryz.ntmps129
  go_wp2_with fail
  refine C.mono ?_
  rintro e w1 ⟨rfl, hw1⟩
  subst w1
  go_wp2_with fail
  go_ret
  exact ⟨rfl, rfl⟩

/-- Park of no function. -/
theorem park_nil (h : Rt w a s) (hi : s.ts[i]? = some t) :
    Calls Tryz.prog 129 #[.pointer (some ⟨t.b, 0, none⟩), .nilFunc] w fun e w' => e = .returned (.int .i64 1) ∧ w' = w := by
  have C := refused_any h hi true
  rw [show rfE s i t true = 1 by simp [rfE]] at C
  have e1 := eql_func_nil (P := Tryz.prog) (w := w) Tryz.underlying128
  clear h hi
  generalize t.b = b at *
  go_enter Tryz.func129, Tryz.ntmps129
  go_wp2_with fail
  refine C.mono ?_
  rintro e w1 ⟨rfl, hw1⟩
  subst w1
  go_wp2_with fail
  go_ret
  exact ⟨rfl, rfl⟩

theorem park_none {p : Option Addr} (C : Calls Tryz.prog 92 #[.pointer p] w fun e w' => e = .returned (.bool false) ∧ w' = w) (f : Fn) (xs ys : Array Value) :
    Calls Tryz.prog 129 #[.pointer p, .func f xs ys] w fun e w' => e = .returned (.int .i64 1) ∧ w' = w := by
  have C := refused_none C false
  have e1 := eql_func_no (P := Tryz.prog) (w := w) f xs ys Tryz.underlying128
  go_enter Tryz.func129, Tryz.ntmps129
  go_wp2_with fail
  refine C.mono ?_
  rintro e w1 ⟨rfl, hw1⟩
  subst w1
  go_wp2_with fail
  go_ret
  exact ⟨rfl, rfl⟩

/-- Wake of a task that is not parked. -/
theorem wake_no (h : Rt w a s) (hi : s.ts[i]? = some t) (hw : on t.wk = false) (why : Int) :
    Calls Tryz.prog 131 #[.pointer (some ⟨t.b, 0, none⟩), .int .i64 why] w fun e w' => e = .returned (.int .i64 152) ∧ Rp w a s w' a s := by
  have hwk : t.wk = .nilFunc := by
    have := (h.ok.fv t (List.mem_of_getElem? hi)).2
    rcases this with e | ⟨f', x', y', e⟩
    · exact e
    · rw [e] at hw; cases hw
  obtain ⟨X, hX⟩ : ∃ X, Hid (X = w.alloc (.cells #[.int .i64 why] 3)) := ⟨_, hide rfl⟩
  have bX : Below w.heap.size w X := by rw [hX.out]; exact (Below.refl _ w).alloc (Nat.le_refl _) _
  have C := tmade_yes (b := t.b) ((h.m.below bX).cT hi 0)
  have c4 : X.cell? ⟨t.b, 4, none⟩ = some t.wk := (h.m.below bX).cT hi 4
  rw [hwk] at c4
  have e1 := eql_func_nil (P := Tryz.prog) (w := X) Tryz.underlying128
  have HF := hide (h.same bX)
  clear h hi hw hwk bX
  generalize t.b = b at *
  go_enter Tryz.func131, Tryz.ntmps131
  go_wp2_with (first | (rw [← hX.out]))
  refine C.mono ?_
  rintro e w1 ⟨rfl, hw1⟩
  subst w1
  go_wp2_with fail
  go_ret
  exact ⟨rfl, HF.out⟩

theorem wake_none {p : Option Addr} (why : Int) (C : ∀ V, Below w.heap.size w V → Calls Tryz.prog 92 #[.pointer p] V fun e w' => e = .returned (.bool false) ∧ w' = V) :
    Calls Tryz.prog 131 #[.pointer p, .int .i64 why] w fun e w' => e = .returned (.int .i64 1) ∧ Below w.heap.size w w' := by
  obtain ⟨X, hX⟩ : ∃ X, Hid (X = w.alloc (.cells #[.int .i64 why] 3)) := ⟨_, hide rfl⟩
  have bX : Below w.heap.size w X := by rw [hX.out]; exact (Below.refl _ w).alloc (Nat.le_refl _) _
  have C' := C X bX
  have HB := hide bX
  clear C bX
  go_enter Tryz.func131, Tryz.ntmps131
  go_wp2_with (first | (rw [← hX.out]))
  refine C'.mono ?_
  rintro e w1 ⟨rfl, hw1⟩
  subst w1
  go_wp2_with fail
  go_ret
  exact ⟨rfl, HB.out⟩

/-- Wake of a parked one: it is ready with a closure over two new variables: what it parked with, and the why. -/
theorem wake_yes (h : Rt w a s) (hi : s.ts[i]? = some t) {f : Fn} {xs ys : Array Value} (hwk : t.wk = .func f xs ys) (why : Int) :
    Calls Tryz.prog 131 #[.pointer (some ⟨t.b, 0, none⟩), .int .i64 why] w fun e w' => e = .returned (.int .i64 0) ∧ ∃ a' g1 g2, Rp w a s w' a' (s.gets i ⟨t.b, .func (.func 158) #[] #[.pointer (some ⟨g1, 0, none⟩), .pointer (some ⟨g2, 0, none⟩)], .nilFunc⟩) ∧
      w.heap.size ≤ g1 ∧ w.heap.size ≤ g2 ∧ w'.heap[g1]? = some (.cells #[.func f xs ys] (128 : TypeId) (0, 0)) ∧ w'.heap[g2]? = some (.cells #[.int .i64 why] 3 (0, 0)) ∧ ¬ own a' (s.gets i ⟨t.b, .func (.func 158) #[] #[.pointer (some ⟨g1, 0, none⟩), .pointer (some ⟨g2, 0, none⟩)], .nilFunc⟩) g1 ∧ ¬ own a' (s.gets i ⟨t.b, .func (.func 158) #[] #[.pointer (some ⟨g1, 0, none⟩), .pointer (some ⟨g2, 0, none⟩)], .nilFunc⟩) g2 := by
  have hn : on t.nx = false := by
    cases e : on t.nx
    · rfl
    · have := h.ok.one t (List.mem_of_getElem? hi) e
      rw [hwk] at this
      cases this
  obtain ⟨X, hX⟩ : ∃ X, Hid (X = w.alloc (.cells #[.int .i64 why] 3)) := ⟨_, hide rfl⟩
  have bX : Below w.heap.size w X := by rw [hX.out]; exact (Below.refl _ w).alloc (Nat.le_refl _) _
  have rX := h.m.below bX
  have C := tmade_yes (b := t.b) (rX.cT hi 0)
  have c4 : X.cell? ⟨t.b, 4, none⟩ = some (.func f xs ys) := by rw [← hwk]; exact rX.cT hi 4
  have e1 := eql_func_no (P := Tryz.prog) (w := X) f xs ys Tryz.underlying128
  obtain ⟨Y, hY⟩ : ∃ Y, Hid (Y = X.alloc (.cells #[.func f xs ys] (128 : TypeId))) := ⟨_, hide rfl⟩
  have bY : Below X.heap.size X Y := by rw [hY.out]; exact (Below.refl _ X).alloc (Nat.le_refl _) _
  have rY := rX.below bY
  have bwY : Below w.heap.size w Y := bX.trans (bY.mono bX.size)
  have f4 := rY.fT hi 4
  have d4 : Y.cell? ⟨t.b, 4, none⟩ = some (.func f xs ys) := by rw [← hwk]; exact rY.cT hi 4
  obtain ⟨Z, hZ⟩ : ∃ Z, Hid (Z = Y.setCell ⟨t.b, 4, none⟩ .nilFunc) := ⟨_, hide rfl⟩
  have tZ : Tb (fun k => k = t.b) Y Z := by rw [hZ.out]; exact Tb.set t.b 4 _ rfl
  have rZ : Rm Z a (s.put i { t with wk := .nilFunc }) s.lives := rY.tobj hi rfl tZ (by
    rw [hZ.out, heap_setCell_same Y t.b 4 _ _ _ (rY.tk i t hi)]
    rfl)
  have hiZ : (s.put i { t with wk := .nilFunc }).ts[i]? = some { t with wk := .nilFunc } := by simp [Rs.put, get_set hi]
  have hgw : t.goes = true := by simp [Tc.goes, hwk, on]
  have hlive : s.live i = true := by rw [live_goes hi]; simp [hgw]
  have htb : t.b < w.heap.size := heap_lt (h.m.tk i t hi)
  have hg1 : Y.heap[X.heap.size]? = some (.cells #[.func f xs ys] (128 : TypeId) (0, 0)) := by rw [hY.out]; exact heap_alloc_new X _
  have hg2 : X.heap[w.heap.size]? = some (.cells #[.int .i64 why] 3 (0, 0)) := by rw [hX.out]; exact heap_alloc_new w _
  have hXs : X.heap.size = w.heap.size + 1 := by rw [hX.out]; simp
  have xZ : Rx w a s Z a (s.put i { t with wk := .nilFunc }) := Rx.turn ((Tb.of_fresh bwY).trans tZ (fun k _ e => by subst e; exact own_task hi)) (map_set hi rfl)
  have CG : Hid (Calls Tryz.prog 67 #[.pointer (some ⟨t.b, 0, none⟩), .func (.func 158) #[] #[.pointer (some ⟨X.heap.size, 0, none⟩), .pointer (some ⟨w.heap.size, 0, none⟩)]] Z fun e w' => e = .returned (.tuple #[]) ∧ ∃ a' g1 g2, Rp w a s w' a' (s.gets i ⟨t.b, .func (.func 158) #[] #[.pointer (some ⟨g1, 0, none⟩), .pointer (some ⟨g2, 0, none⟩)], .nilFunc⟩) ∧
      w.heap.size ≤ g1 ∧ w.heap.size ≤ g2 ∧ w'.heap[g1]? = some (.cells #[.func f xs ys] (128 : TypeId) (0, 0)) ∧ w'.heap[g2]? = some (.cells #[.int .i64 why] 3 (0, 0)) ∧ ¬ own a' (s.gets i ⟨t.b, .func (.func 158) #[] #[.pointer (some ⟨g1, 0, none⟩), .pointer (some ⟨g2, 0, none⟩)], .nilFunc⟩) g1 ∧ ¬ own a' (s.gets i ⟨t.b, .func (.func 158) #[] #[.pointer (some ⟨g1, 0, none⟩), .pointer (some ⟨g2, 0, none⟩)], .nilFunc⟩) g2) := hide (by
    refine (getReady_any rZ hiZ (h.ok.less hi hn hlive) (h.ok.notin hi hn) (h.ok.id hi).2 _ _ _).mono ?_
    rintro e w' ⟨rfl, a', m', x'⟩
    have eset : (s.put i { t with wk := .nilFunc }).gets i ⟨t.b, .func (.func 158) #[] #[.pointer (some ⟨X.heap.size, 0, none⟩), .pointer (some ⟨w.heap.size, 0, none⟩)], .nilFunc⟩ = s.gets i ⟨t.b, .func (.func 158) #[] #[.pointer (some ⟨X.heap.size, 0, none⟩), .pointer (some ⟨w.heap.size, 0, none⟩)], .nilFunc⟩ := by
      simp [Rs.put, Rs.gets]
    have x2 := xZ.trans x'
    rw [eset] at m' x2
    have hneq : ∀ {k : Nat}, own a (s.put i { t with wk := .nilFunc }) k → k < w.heap.size := fun hk => (xZ.own hk).elim (fun h' => h.m.own_lt h') (fun h' => by
      have := rZ.own_lt hk
      rcases hk with e | e | e | e | ⟨u, hu, e⟩
      · exact e ▸ h.m.own_lt (.inl rfl)
      · exact e ▸ h.m.own_lt (.inr (.inl rfl))
      · exact e ▸ h.m.own_lt (.inr (.inr (.inl rfl)))
      · exact e ▸ h.m.own_lt (.inr (.inr (.inr (.inl rfl))))
      · rcases mem_set hi hu with rfl | hu
        · exact e ▸ htb
        · exact e ▸ h.m.own_lt (.inr (.inr (.inr (.inr ⟨u, hu, rfl⟩)))))
    refine ⟨rfl, a', X.heap.size, w.heap.size, ⟨⟨?_, h.ok.gets hi hn (Fv.fn _ _ _) rfl rfl (.inr (by simp [Tc.goes, hwk, on]))⟩, x2⟩, by omega, Nat.le_refl _, ?_, ?_, fun hk => ?_, fun hk => ?_⟩
    · rw [lives_gets hi (.inr (by simp [Tc.goes, hwk, on]))]
      exact m'
    · rw [x'.tb.block _ (by have := heap_lt hg1; have := tZ.size; omega) (fun hk => by have := hneq hk; omega), tZ.block _ (heap_lt hg1) (by omega)]
      exact hg1
    · rw [x'.tb.block _ (by have := heap_lt hg2; have := tZ.size; have := bY.size; omega) (fun hk => by have := hneq hk; omega), tZ.block _ (by have := heap_lt hg2; have := bY.size; omega) (by omega), bY.block _ (heap_lt hg2)]
      exact hg2
    · rw [← eset] at hk
      rcases x'.own hk with h1 | h1
      · have := hneq h1; omega
      · have := heap_lt hg1; have := tZ.size; omega
    · rw [← eset] at hk
      rcases x'.own hk with h1 | h1
      · have := hneq h1; omega
      · have := heap_lt hg2; have := tZ.size; have := bY.size; omega)
  obtain ⟨G1, hG1⟩ : ∃ G1, Hid (G1 = X.heap.size) := ⟨_, hide rfl⟩
  obtain ⟨G2, hG2⟩ : ∃ G2, Hid (G2 = w.heap.size) := ⟨_, hide rfl⟩
  have HG1 : Hid (X.heap.size = G1) := hide hG1.out.symm
  have HG2 : Hid (w.heap.size = G2) := hide hG2.out.symm
  obtain ⟨P, hP⟩ : ∃ P : World → Prop, Hid (∀ w', P w' → ∃ a' g1 g2, Rp w a s w' a' (s.gets i ⟨t.b, .func (.func 158) #[] #[.pointer (some ⟨g1, 0, none⟩), .pointer (some ⟨g2, 0, none⟩)], .nilFunc⟩) ∧
      w.heap.size ≤ g1 ∧ w.heap.size ≤ g2 ∧ w'.heap[g1]? = some (.cells #[.func f xs ys] (128 : TypeId) (0, 0)) ∧ w'.heap[g2]? = some (.cells #[.int .i64 why] 3 (0, 0)) ∧ ¬ own a' (s.gets i ⟨t.b, .func (.func 158) #[] #[.pointer (some ⟨g1, 0, none⟩), .pointer (some ⟨g2, 0, none⟩)], .nilFunc⟩) g1 ∧ ¬ own a' (s.gets i ⟨t.b, .func (.func 158) #[] #[.pointer (some ⟨g1, 0, none⟩), .pointer (some ⟨g2, 0, none⟩)], .nilFunc⟩) g2) ∧ Hid (Calls Tryz.prog 67 #[.pointer (some ⟨t.b, 0, none⟩), .func (.func 158) #[] #[.pointer (some ⟨G1, 0, none⟩), .pointer (some ⟨G2, 0, none⟩)]] Z fun e w' => e = .returned (.tuple #[]) ∧ P w') :=
    ⟨fun w' => ∃ a' g1 g2, Rp w a s w' a' (s.gets i ⟨t.b, .func (.func 158) #[] #[.pointer (some ⟨g1, 0, none⟩), .pointer (some ⟨g2, 0, none⟩)], .nilFunc⟩) ∧
      w.heap.size ≤ g1 ∧ w.heap.size ≤ g2 ∧ w'.heap[g1]? = some (.cells #[.func f xs ys] (128 : TypeId) (0, 0)) ∧ w'.heap[g2]? = some (.cells #[.int .i64 why] 3 (0, 0)) ∧ ¬ own a' (s.gets i ⟨t.b, .func (.func 158) #[] #[.pointer (some ⟨g1, 0, none⟩), .pointer (some ⟨g2, 0, none⟩)], .nilFunc⟩) g1 ∧ ¬ own a' (s.gets i ⟨t.b, .func (.func 158) #[] #[.pointer (some ⟨g1, 0, none⟩), .pointer (some ⟨g2, 0, none⟩)], .nilFunc⟩) g2, hide fun _ h => h, by rw [hG1.out, hG2.out]; exact CG⟩
  clear CG h rX rY rZ hi hiZ tZ xZ hn bX bY bwY hg1 hg2 hXs htb hgw hlive hwk
  suffices hs : Calls Tryz.prog 131 #[.pointer (some ⟨t.b, 0, none⟩), .int .i64 why] w fun e w' => e = .returned (.int .i64 0) ∧ P w' from hs.mono (fun e w' hh => ⟨hh.1, hP.1.out _ hh.2⟩)
  have HP := hP.2
  clear hP
  generalize t.b = b at *
  go_enter Tryz.func131, Tryz.ntmps131
  go_wp2_with (first | (rw [← hX.out, HG2.out]))
  refine C.mono ?_
  rintro e w1 ⟨rfl, hw1⟩
  subst w1
  go_wp2_with (first | (rw [← hY.out, HG1.out]))
  rw [← hZ.out]
  refine HP.out.mono ?_
  rintro e w1 ⟨rfl, h1⟩
  go_wp2_with fail
  go_ret
  exact ⟨rfl, h1⟩
end

end Go.Proofs.YtgjpbekmkhanhaaGreat

/-
  A runtime: New, Spawn; what is asked of it and of a task: Id, Runtime, Over, Running, Ready, Choice.
-/
namespace Go.Proofs.YtgjpbekmkhanhaaGreat
open Go.RowKit QI
set_option maxRecDepth 100000
set_option linter.unusedSimpArgs false

section
variable {w : World} {a : Ad} {s : Rs} {i : Nat} {t : Tc}

theorem id_any (h : Rt w a s) (hi : s.ts[i]? = some t) : Calls Tryz.prog 95 #[.pointer (some ⟨t.b, 0, none⟩)] w fun e w' => e = .returned (.int .i64 i) ∧ w' = w := by
  have C := tmade_yes (b := t.b) (h.m.cT hi 0)
  have c2 : w.cell? ⟨t.b, 2, none⟩ = some (.int .i64 i) := h.m.cT hi 2
  clear h hi
  generalize t.b = b at *
  go_enter Tryz.func95, Tryz.ntmps95
  go_wp2_with fail
  refine C.mono ?_
  rintro e w1 ⟨rfl, hw1⟩
  subst w1
  go_wp2_with fail
  go_ret
  exact ⟨rfl, rfl⟩

theorem id_none {p : Option Addr} (C : Calls Tryz.prog 92 #[.pointer p] w fun e w' => e = .returned (.bool false) ∧ w' = w) : Calls Tryz.prog 95 #[.pointer p] w fun e w' => e = .returned (.int .i64 0) ∧ w' = w := by
  go_enter Tryz.func95, Tryz.ntmps95
  go_wp2_with fail
  refine C.mono ?_
  rintro e w1 ⟨rfl, hw1⟩
  subst w1
  go_wp2_with fail
  go_ret
  exact ⟨rfl, rfl⟩

theorem runtime_any (h : Rt w a s) (hi : s.ts[i]? = some t) : Calls Tryz.prog 121 #[.pointer (some ⟨t.b, 0, none⟩)] w fun e w' => e = .returned (.pointer (some ⟨a.R, 0, none⟩)) ∧ w' = w := by
  have C := tmade_yes (b := t.b) (h.m.cT hi 0)
  have c2 : w.cell? ⟨t.b, 1, none⟩ = some (.pointer (some ⟨a.R, 0, none⟩)) := h.m.cT hi 1
  clear h hi
  generalize t.b = b at *
  generalize a.R = r at *
  go_enter Tryz.func121, Tryz.ntmps121
  go_wp2_with fail
  refine C.mono ?_
  rintro e w1 ⟨rfl, hw1⟩
  subst w1
  go_wp2_with fail
  go_ret
  exact ⟨rfl, rfl⟩

theorem runtime_none {p : Option Addr} (C : Calls Tryz.prog 92 #[.pointer p] w fun e w' => e = .returned (.bool false) ∧ w' = w) : Calls Tryz.prog 121 #[.pointer p] w fun e w' => e = .returned (.pointer none) ∧ w' = w := by
  go_enter Tryz.func121, Tryz.ntmps121
  go_wp2_with fail
  refine C.mono ?_
  rintro e w1 ⟨rfl, hw1⟩
  subst w1
  go_wp2_with fail
  go_ret
  exact ⟨rfl, rfl⟩

theorem over_any (h : Rt w a s) (hi : s.ts[i]? = some t) : Calls Tryz.prog 54 #[.pointer (some ⟨t.b, 0, none⟩)] w fun e w' => e = .returned (.bool (!s.live i)) ∧ w' = w := by
  have C := tmade_yes (b := t.b) (h.m.cT hi 0)
  have CR := isrun_any h.m h.ok.runs hi
  have CG := goes_any h.m (h.ok.fv t (List.mem_of_getElem? hi)) hi
  rw [live_goes hi]
  clear h hi
  generalize t.b = b at *
  generalize t.goes = g at *
  generalize decide (s.run = some i) = d at *
  cases d
  · go_enter Tryz.func54, Tryz.ntmps54
    go_wp2_with fail
    refine C.mono ?_
    rintro e w1 ⟨rfl, hw1⟩
    subst w1
    go_wp2_with fail
    refine CR.mono ?_
    rintro e w1 ⟨rfl, hw1⟩
    subst w1
    go_wp2_with fail
    refine CG.mono ?_
    rintro e w1 ⟨rfl, hw1⟩
    subst w1
    go_wp2_with fail
    go_ret
    exact ⟨by simp, rfl⟩
  · go_enter Tryz.func54, Tryz.ntmps54
    go_wp2_with fail
    refine C.mono ?_
    rintro e w1 ⟨rfl, hw1⟩
    subst w1
    go_wp2_with fail
    refine CR.mono ?_
    rintro e w1 ⟨rfl, hw1⟩
    subst w1
    go_wp2_with fail
    go_ret
    exact ⟨by simp, rfl⟩

theorem over_none {p : Option Addr} (C : Calls Tryz.prog 92 #[.pointer p] w fun e w' => e = .returned (.bool false) ∧ w' = w) : Calls Tryz.prog 54 #[.pointer p] w fun e w' => e = .returned (.bool false) ∧ w' = w := by
  go_enter Tryz.func54, Tryz.ntmps54
  go_wp2_with fail
  refine C.mono ?_
  rintro e w1 ⟨rfl, hw1⟩
  subst w1
  go_wp2_with fail
  go_ret
  exact ⟨rfl, rfl⟩

theorem readys_any (h : Rt w a s) : Calls Tryz.prog 15 #[.pointer (some ⟨a.R, 0, none⟩)] w fun e w' => ∃ p cap, e = .returned (.slice p s.line.length cap) ∧ w'.ownsRow w.heap.size 3 1 (.slice p s.line.length cap) s.line.length (W s.line) ∧ Below w.heap.size w w' := by
  have C := rmade_yes (b := a.R) (h.m.cR 0)
  have c1 : w.cell? ⟨a.R, 1, none⟩ = some (.pointer (some ⟨a.Q, 0, none⟩)) := h.m.cR 1
  obtain ⟨N, hd, q⟩ := h.m.qu
  have CL := slist_yes h.m.sd q
  clear q h
  generalize s.line = l at *
  obtain ⟨n, hn⟩ : ∃ n, Hid (n = l.length) := ⟨_, hide rfl⟩
  rw [← hn.out] at CL ⊢
  generalize a.R = r at *
  generalize a.Q = q at *
  go_enter Tryz.func15, Tryz.ntmps15
  go_wp2_with fail
  refine C.mono ?_
  rintro e w1 ⟨rfl, hw1⟩
  subst w1
  go_wp2_with fail
  refine CL.mono ?_
  rintro e w2 ⟨p, cap, rfl, ho, hb⟩
  have HO := hide ho
  have HB := hide hb
  clear ho hb
  go_wp2_with fail
  go_ret
  exact ⟨p, cap, rfl, HO.out, HB.out⟩

theorem readys_none {p : Option Addr} (C : Calls Tryz.prog 58 #[.pointer p] w fun e w' => e = .returned (.bool false) ∧ w' = w) : Calls Tryz.prog 15 #[.pointer p] w fun e w' => e = .returned (.slice none 0 0) ∧ w' = w := by
  go_enter Tryz.func15, Tryz.ntmps15
  go_wp2_with fail
  refine C.mono ?_
  rintro e w1 ⟨rfl, hw1⟩
  subst w1
  go_wp2_with fail
  go_ret
  exact ⟨rfl, rfl⟩

end

/-- A runtime without tasks. -/
def rs0 : Rs := ⟨[], [], none, 0⟩
theorem rok0 : Rok rs0 where
  fv := fun t h => by cases h
  nd := List.Pairwise.nil
  mem := fun x => ⟨fun h => (by cases h), fun ⟨i, t, _, h, _⟩ => (by simp [rs0] at h)⟩
  one := fun t h => by cases h
  runs := fun i h => by cases h
  room := by simp [rs0, Rs.lives]
  many := by simp [rs0]
  lft := by simp [rs0]

set_option maxHeartbeats 1000000 in
theorem new_any (w : World) : Calls Tryz.prog 18 #[] w fun e w' => ∃ a, e = .returned (.pointer (some ⟨a.R, 0, none⟩)) ∧ Rt w' a rs0 ∧ (∀ k, own a rs0 k ∨ k = a.Q → w.heap.size ≤ k) ∧ Below w.heap.size w w' := by
  have CN := snew_any w
  go_enter Tryz.func18, Tryz.ntmps18
  go_wp2_with fail
  refine CN.mono ?_
  rintro e w1 ⟨Q, U, G, N, h, rfl, sd, q, h1, h2, h3, hb⟩
  have hmk := mkT w1
  obtain ⟨M, hM⟩ : ∃ M, Hid (M = w1.heap.size) := ⟨_, hide rfl⟩
  obtain ⟨X, hX⟩ : ∃ X, Hid (X = w1.alloc (.map #[] 0)) := ⟨_, hide rfl⟩
  have mX : Mt X M [] (fun k => rs0.adr k.toNat) := by rw [hX.out, hM.out]; exact Mt.new w1 _
  have bX : Below w1.heap.size w1 X := by rw [hX.out]; exact (Below.refl _ w1).alloc (Nat.le_refl _) _
  rw [← hM.out, ← hX.out] at hmk
  obtain ⟨R, hR⟩ : ∃ R, Hid (R = X.heap.size) := ⟨_, hide rfl⟩
  obtain ⟨Y, hY⟩ : ∃ Y, Hid (Y = X.alloc (.cells #[.pointer none, .pointer (some ⟨Q, 0, none⟩), .map (some M), .int .i64 0, .pointer none, .int .u64 0] (62 : TypeId))) := ⟨_, hide rfl⟩
  have hYR : Y.heap[R]? = some (.cells #[.pointer none, .pointer (some ⟨Q, 0, none⟩), .map (some M), .int .i64 0, .pointer none, .int .u64 0] (62 : TypeId) (0, 0)) := by rw [hY.out, hR.out]; exact heap_alloc_new X _
  have bY : Below X.heap.size X Y := by rw [hY.out]; exact (Below.refl _ X).alloc (Nat.le_refl _) _
  have y0 : Y.cell? ⟨R, 0, none⟩ = some (.pointer none) := cell_of_row Y R 0 _ _ _ hYR
  have f0 := frozen_of_row Y R 0 _ _ hYR
  obtain ⟨Z, hZ⟩ : ∃ Z, Hid (Z = Y.setCell ⟨R, 0, none⟩ (.pointer (some ⟨R, 0, none⟩))) := ⟨_, hide rfl⟩
  have bZ : Below X.heap.size X Z := by rw [hZ.out]; exact bY.setCell (by simp [hR.out]) _
  have b1Z : Below w1.heap.size w1 Z := bX.trans (bZ.mono bX.size)
  have HF : Hid (∃ a : Ad, a.R = R ∧ Rt Z a rs0 ∧ (∀ k, own a rs0 k ∨ k = a.Q → w.heap.size ≤ k) ∧ Below w.heap.size w Z) := hide (by
    refine ⟨⟨R, Q, U, G, M⟩, rfl, ⟨⟨?_, sd.below b1Z, ⟨N, h, q.below b1Z⟩, ?_, fun i t hi => by simp [rs0] at hi⟩, rok0⟩, ?_, hb.trans (b1Z.mono hb.size)⟩
    · rw [hZ.out, heap_setCell_same Y R 0 _ _ _ hYR]
      rfl
    · rw [show rs0.lives = [] by simp [rs0, Rs.lives]]
      exact mX.heap (bZ.block _ mX.lt)
    · have hz := hb.size
      have hz2 := bX.size
      have e1 := hM.out
      have e2 := hR.out
      rintro k ((e | e | e | e | ⟨t, ht, _⟩) | e)
      · rw [e]; show w.heap.size ≤ R; omega
      · rw [e]; exact h2
      · rw [e]; exact h3
      · rw [e]; show w.heap.size ≤ M; omega
      · simp [rs0] at ht
      · rw [e]; exact h1)
  have HXs : Hid (X.heap.size = R) := hide hR.out.symm
  clear mX bX bY bZ b1Z sd q hb hYR h1 h2 h3
  go_wp2_with (first | (rw [← hY.out, HXs.out]))
  rw [← hZ.out]
  go_ret
  obtain ⟨a, e, hF⟩ := HF.out
  exact ⟨a, by rw [e]; rfl, hF⟩

end Go.Proofs.YtgjpbekmkhanhaaGreat

/-
  Texts put into one.
-/
import Derived.Test.YtgjpbekmkhanhaaGreatMxccc5035a

/-
  A runtime: Spawn.
-/
namespace Go.Proofs.YtgjpbekmkhanhaaGreat
open Go.RowKit QI
set_option maxRecDepth 100000
set_option linter.unusedSimpArgs false

section
variable {w : World} {a : Ad} {s : Rs}

theorem spawn_none {p : Option Addr} (v : Value) (hv : Fv v) (C : ∀ V, Below w.heap.size w V → Calls Tryz.prog 58 #[.pointer p] V fun e w' => e = .returned (.bool false) ∧ w' = V) :
    Calls Tryz.prog 24 #[.pointer p, v] w fun e w' => e = .returned (.tuple #[.pointer none, .int .i64 1]) ∧ Below w.heap.size w w' := by
  obtain ⟨X, hX⟩ : ∃ X, Hid (X = w.alloc (.cells #[v] (76 : TypeId))) := ⟨_, hide rfl⟩
  have bX : Below w.heap.size w X := by rw [hX.out]; exact (Below.refl _ w).alloc (Nat.le_refl _) _
  have C' := C X bX
  have HB := hide bX
  clear C bX
  rcases hv with rfl | ⟨f, xs, ys, rfl⟩ <;>
  · go_enter Tryz.func24, Tryz.ntmps24
    go_wp2_with (first | (rw [← hX.out]))
    refine C'.mono ?_
    rintro e w1 ⟨rfl, hw1⟩
    subst w1
    go_wp2_with fail
    go_ret2
    exact ⟨rfl, HB.out⟩

/-- Spawn of no function. -/
theorem spawn_nil (h : Rt w a s) :
    Calls Tryz.prog 24 #[.pointer (some ⟨a.R, 0, none⟩), .nilFunc] w fun e w' => e = .returned (.tuple #[.pointer none, .int .i64 1]) ∧ Rp w a s w' a s := by
  obtain ⟨X, hX⟩ : ∃ X, Hid (X = w.alloc (.cells #[.nilFunc] (76 : TypeId))) := ⟨_, hide rfl⟩
  have bX : Below w.heap.size w X := by rw [hX.out]; exact (Below.refl _ w).alloc (Nat.le_refl _) _
  have C' := rmade_yes (b := a.R) ((h.m.below bX).cR 0)
  have hg : X.heap[w.heap.size]? = some (.cells #[.nilFunc] (76 : TypeId) (0, 0)) := by rw [hX.out]; exact heap_alloc_new w _
  have g0 : X.cell? ⟨w.heap.size, 0, none⟩ = some .nilFunc := cell_of_row X _ 0 _ _ _ hg
  have e1 := eql_func_nil (P := Tryz.prog) (w := X) Tryz.underlying76
  have HF := hide (h.same bX)
  clear bX hg h
  obtain ⟨G1, hG1⟩ : ∃ G1, Hid (G1 = w.heap.size) := ⟨_, hide rfl⟩
  rw [← hG1.out] at g0
  have HG1 : Hid (w.heap.size = G1) := hide hG1.out.symm
  obtain ⟨r, hr⟩ : ∃ r, Hid (r = a.R) := ⟨_, hide rfl⟩
  rw [← hr.out] at C' ⊢
  go_enter Tryz.func24, Tryz.ntmps24
  go_wp2_with (first | (rw [← hX.out, HG1.out]))
  refine C'.mono ?_
  rintro e w1 ⟨rfl, hw1⟩
  subst w1
  go_wp2_with fail
  go_ret2
  exact ⟨rfl, HF.out⟩

theorem spawn_full (h : Rt w a s) (hl : s.lives.length = 256) (f : Fn) (xs ys : Array Value) :
    Calls Tryz.prog 24 #[.pointer (some ⟨a.R, 0, none⟩), .func f xs ys] w fun e w' => e = .returned (.tuple #[.pointer none, .int .i64 5]) ∧ Rp w a s w' a s := by
  obtain ⟨X, hX⟩ : ∃ X, Hid (X = w.alloc (.cells #[.func f xs ys] (76 : TypeId))) := ⟨_, hide rfl⟩
  have bX : Below w.heap.size w X := by rw [hX.out]; exact (Below.refl _ w).alloc (Nat.le_refl _) _
  have C' := rmade_yes (b := a.R) ((h.m.below bX).cR 0)
  have hg : X.heap[w.heap.size]? = some (.cells #[.func f xs ys] (76 : TypeId) (0, 0)) := by rw [hX.out]; exact heap_alloc_new w _
  have g0 : X.cell? ⟨w.heap.size, 0, none⟩ = some (.func f xs ys) := cell_of_row X _ 0 _ _ _ hg
  have c2 : X.cell? ⟨a.R, 2, none⟩ = some (.map (some a.M)) := (h.m.below bX).cR 2
  have e1 := eql_func_no (P := Tryz.prog) (w := X) f xs ys Tryz.underlying76
  have hlen : ∀ ty, (Builtin.len_ #[(59 : TypeId)] ty #[.map (some a.M)]).run Tryz.prog X = .ok (.int .i64 256) X := fun ty => by
    have := (h.m.below bX).mp.len ty
    rwa [hl] at this
  have HF := hide (h.same bX)
  clear bX hg h hl
  obtain ⟨G1, hG1⟩ : ∃ G1, Hid (G1 = w.heap.size) := ⟨_, hide rfl⟩
  rw [← hG1.out] at g0
  have HG1 : Hid (w.heap.size = G1) := hide hG1.out.symm
  obtain ⟨r, hr⟩ : ∃ r, Hid (r = a.R) := ⟨_, hide rfl⟩
  obtain ⟨M, hM⟩ : ∃ M, Hid (M = a.M) := ⟨_, hide rfl⟩
  rw [← hr.out] at C' c2 ⊢
  rw [← hM.out] at c2 hlen
  go_enter Tryz.func24, Tryz.ntmps24
  go_wp2_with (first | (rw [← hX.out, HG1.out]))
  refine C'.mono ?_
  rintro e w1 ⟨rfl, hw1⟩
  subst w1
  go_wp2_with fail
  go_ret2
  exact ⟨rfl, HF.out⟩

/-- The value that a new task's first turn calls: a closure over two new variables: the function, and the task. -/
def spv (g1 g2 : Nat) : Value := .func (.func 68) #[] #[.pointer (some ⟨g1, 0, none⟩), .pointer (some ⟨g2, 0, none⟩)]

/-- What Spawn leaves. -/
def SpP (w : World) (a : Ad) (s : Rs) (f : Value) (b : Nat) (w' : World) : Prop :=
  ∃ a' g1 g2, Rp w a s w' a' (s.spawn b (spv g1 g2)) ∧ w.heap.size ≤ b ∧ w.heap.size ≤ g1 ∧ w.heap.size ≤ g2 ∧ w'.heap[g1]? = some (.cells #[f] (76 : TypeId) (0, 0)) ∧ w'.heap[g2]? = some (.cells #[.pointer (some ⟨b, 0, none⟩)] (60 : TypeId) (0, 0)) ∧ ¬ own a' (s.spawn b (spv g1 g2)) g1 ∧ ¬ own a' (s.spawn b (spv g1 g2)) g2

set_option maxHeartbeats 2000000 in
theorem spawn_yes (h : Rt w a s) (hl : s.lives.length < 256) (hmn : s.ts.length < 4611686018427387904) (f : Fn) (xs ys : Array Value) :
    Calls Tryz.prog 24 #[.pointer (some ⟨a.R, 0, none⟩), .func f xs ys] w fun e w' => ∃ b, e = .returned (.tuple #[.pointer (some ⟨b, 0, none⟩), .int .i64 0]) ∧ SpP w a s (.func f xs ys) b w' := by
  -- the function's own variable
  obtain ⟨X, hX⟩ : ∃ X, Hid (X = w.alloc (.cells #[.func f xs ys] (76 : TypeId))) := ⟨_, hide rfl⟩
  have bX : Below w.heap.size w X := by rw [hX.out]; exact (Below.refl _ w).alloc (Nat.le_refl _) _
  have rX := h.m.below bX
  have C' := rmade_yes (b := a.R) (rX.cR 0)
  have hgX : X.heap[w.heap.size]? = some (.cells #[.func f xs ys] (76 : TypeId) (0, 0)) := by rw [hX.out]; exact heap_alloc_new w _
  have g0 : X.cell? ⟨w.heap.size, 0, none⟩ = some (.func f xs ys) := cell_of_row X _ 0 _ _ _ hgX
  have c2 : X.cell? ⟨a.R, 2, none⟩ = some (.map (some a.M)) := rX.cR 2
  have c3 : X.cell? ⟨a.R, 3, none⟩ = some (.int .i64 s.ts.length) := rX.cR 3
  have e1 := eql_func_no (P := Tryz.prog) (w := X) f xs ys Tryz.underlying76
  have hlen := fun ty => rX.mp.len ty
  have hXs : X.heap.size = w.heap.size + 1 := by rw [hX.out]; simp
  -- the task, and its variable
  obtain ⟨b, hb⟩ : ∃ b, Hid (b = X.heap.size) := ⟨_, hide rfl⟩
  obtain ⟨Y, hY⟩ : ∃ Y, Hid (Y = X.alloc (.cells #[.pointer none, .pointer (some ⟨a.R, 0, none⟩), .int .i64 s.ts.length, .nilFunc, .nilFunc] (130 : TypeId))) := ⟨_, hide rfl⟩
  have hYb : Y.heap[b]? = some (.cells #[.pointer none, .pointer (some ⟨a.R, 0, none⟩), .int .i64 s.ts.length, .nilFunc, .nilFunc] (130 : TypeId) (0, 0)) := by rw [hY.out, hb.out]; exact heap_alloc_new X _
  have bY : Below X.heap.size X Y := by rw [hY.out]; exact (Below.refl _ X).alloc (Nat.le_refl _) _
  have hYs : Y.heap.size = X.heap.size + 1 := by rw [hY.out]; simp
  obtain ⟨g2, hg2⟩ : ∃ g2, Hid (g2 = Y.heap.size) := ⟨_, hide rfl⟩
  obtain ⟨Z, hZ⟩ : ∃ Z, Hid (Z = Y.alloc (.cells #[.pointer (some ⟨b, 0, none⟩)] (60 : TypeId))) := ⟨_, hide rfl⟩
  have hZg : Z.heap[g2]? = some (.cells #[.pointer (some ⟨b, 0, none⟩)] (60 : TypeId) (0, 0)) := by rw [hZ.out, hg2.out]; exact heap_alloc_new Y _
  have bZ : Below Y.heap.size Y Z := by rw [hZ.out]; exact (Below.refl _ Y).alloc (Nat.le_refl _) _
  have hZb : Z.heap[b]? = some (.cells #[.pointer none, .pointer (some ⟨a.R, 0, none⟩), .int .i64 s.ts.length, .nilFunc, .nilFunc] (130 : TypeId) (0, 0)) := (bZ.block _ (heap_lt hYb)).trans hYb
  have bwZ : Below w.heap.size w Z := bX.trans ((bY.trans (bZ.mono bY.size)).mono bX.size)
  have rZ := h.m.below bwZ
  have z0 : Z.cell? ⟨g2, 0, none⟩ = some (.pointer (some ⟨b, 0, none⟩)) := cell_of_row Z _ 0 _ _ _ hZg
  have zb0 : Z.cell? ⟨b, 0, none⟩ = some (.pointer none) := cell_of_row Z _ 0 _ _ _ hZb
  have fb0 := frozen_of_row Z b 0 _ _ hZb
  -- it knows itself
  obtain ⟨V, hV⟩ : ∃ V, Hid (V = Z.setCell ⟨b, 0, none⟩ (.pointer (some ⟨b, 0, none⟩))) := ⟨_, hide rfl⟩
  have tV : Tb (fun k => k = b) Z V := by rw [hV.out]; exact Tb.set b 0 _ rfl
  have hVb : V.heap[b]? = some (.cells (tcs a s.ts.length ⟨b, .nilFunc, .nilFunc⟩) (130 : TypeId) (0, 0)) := by
    rw [hV.out, heap_setCell_same Z b 0 _ _ _ hZb]
    rfl
  have hbw : w.heap.size ≤ b := by have := hb.out; omega
  have rV : Rm V a s s.lives := rZ.tb tV (fun k hk e => by
    subst e
    rcases hk with hk | hk
    · have := h.m.own_lt hk; omega
    · have := h.m.sd.lt; omega)
  have hVg : V.heap[g2]? = some (.cells #[.pointer (some ⟨b, 0, none⟩)] (60 : TypeId) (0, 0)) := (tV.block _ (heap_lt hZg) (by have := hg2.out; have := hb.out; omega)).trans hZg
  have v3 : V.cell? ⟨a.R, 3, none⟩ = some (.int .i64 s.ts.length) := rV.cR 3
  have fv3 := rV.fR 3
  -- the next number
  obtain ⟨N, hN⟩ : ∃ N, Hid (N = V.setCell ⟨a.R, 3, none⟩ (.int .i64 ((s.ts.length : Int) + 1))) := ⟨_, hide rfl⟩
  have tN : Tb (fun k => k = a.R) V N := by rw [hN.out]; exact Tb.set a.R 3 _ rfl
  have hNb : N.heap[b]? = some (.cells (tcs a s.ts.length ⟨b, .nilFunc, .nilFunc⟩) (130 : TypeId) (0, 0)) := (tN.block _ (heap_lt hVb) (ne_type hVb rV.obj (by decide))).trans hVb
  have hNg : N.heap[g2]? = some (.cells #[.pointer (some ⟨b, 0, none⟩)] (60 : TypeId) (0, 0)) := (tN.block _ (heap_lt hVg) (ne_type hVg rV.obj (by decide))).trans hVg
  obtain ⟨s1, hs1⟩ : ∃ s1 : Rs, Hid (s1 = { s with ts := s.ts ++ [⟨b, .nilFunc, .nilFunc⟩] }) := ⟨_, hide rfl⟩
  have had : ∀ k, k < s.ts.length → s1.adr k = s.adr k := fun k hk => by
    rw [hs1.out]
    simp [Rs.adr, List.getElem?_append_left hk]
  have hadb : s1.adr s.ts.length = b := by rw [hs1.out]; simp [Rs.adr]
  have hrp : s1.rp = s.rp := by
    have : s1.run = s.run := by rw [hs1.out]
    unfold Rs.rp
    rw [this]
    cases e : s.run with
    | none => rfl
    | some k => simp [had k (h.ok.runs k e)]
  have rN : Rm N a s1 s.lives := by
    obtain ⟨Nn, hd, q⟩ := rV.qu
    obtain ⟨c1, hc1⟩ := rV.ring
    refine ⟨?_, rV.sd.tb tN (ne_type rV.sd rV.obj (by decide)), ⟨Nn, hd, by rw [show s1.line = s.line by rw [hs1.out]]; exact q.tb tN (ne_type q.obj rV.obj (by decide)) (ne_type hc1 rV.obj (by decide))⟩, ?_, fun i u hi => ?_⟩
    · rw [hN.out, heap_setCell_same V a.R 3 _ _ _ rV.obj]
      have : s1.ts.length = s.ts.length + 1 := by rw [hs1.out]; simp
      have : s1.left = s.left := by rw [hs1.out]
      simp [rcs, hrp, *]
    · refine (rV.mp.tb tN (rV.mp.ne rV.obj)).congr rfl (fun _ => Iff.rfl) (fun x hx => ?_)
      obtain ⟨k, rfl, hk, _⟩ := mem_lives.1 hx
      simpa using had k hk
    · by_cases hk : i < s.ts.length
      · rw [hs1.out, List.getElem?_append_left hk] at hi
        have h1 := rV.tk i u hi
        exact (tN.block _ (heap_lt h1) (ne_type h1 rV.obj (by decide))).trans h1
      · rw [hs1.out, List.getElem?_append_right (by omega)] at hi
        have : i = s.ts.length := by
          have := (List.getElem?_eq_some_iff.1 hi).1
          simp only [List.length_cons, List.length_nil] at this
          omega
        subst this
        simp at hi
        subst hi
        exact hNb
  -- the map
  have hIk : I6 (s.ts.length : Int) := by unfold I6; omega
  have hnin : (s.ts.length : Int) ∉ s.lives := fun hx => by
    obtain ⟨k, e, hk, _⟩ := mem_lives.1 hx
    omega
  have n0 : N.cell? ⟨g2, 0, none⟩ = some (.pointer (some ⟨b, 0, none⟩)) := cell_of_row N _ 0 _ _ _ hNg
  have nb2 : N.cell? ⟨b, 2, none⟩ = some (.int .i64 s.ts.length) := cell_of_row N _ 2 _ _ _ hNb
  have n2 : N.cell? ⟨a.R, 2, none⟩ = some (.map (some a.M)) := rN.cR 2
  have hroom := h.ok.room
  obtain ⟨O, hr, rO, tO⟩ : ∃ O, (Instr.mapUpdate (59 : TypeId) (.map (some a.M)) (.int .i64 s.ts.length) (.pointer (some ⟨b, 0, none⟩))).run Tryz.prog N.drew = .ok () O ∧ Rm O a s1 (s.lives ++ [(s.ts.length : Int)]) ∧ Tb (fun k => k = a.M) N O := by
    have rNm := rN.below (Below.refl _ N).drew
    obtain ⟨O, ho, mo, to⟩ := rNm.mp.put (g := fun k => s1.adr k.toNat) hIk (by omega) hnin (b := b) (by simpa using hadb) (fun _ _ => rfl)
    exact ⟨O, ho, rNm.map to mo, (Tb.of_fresh (S := fun k => k = a.M) (Below.refl _ N).drew).trans to (fun _ _ e => e)⟩
  have hOb : O.heap[b]? = some (.cells (tcs a s.ts.length ⟨b, .nilFunc, .nilFunc⟩) (130 : TypeId) (0, 0)) := (tO.block _ (heap_lt hNb) (fun e => rN.mp.ne hNb e.symm)).trans hNb
  have hOg : O.heap[g2]? = some (.cells #[.pointer (some ⟨b, 0, none⟩)] (60 : TypeId) (0, 0)) := (tO.block _ (heap_lt hNg) (fun e => rN.mp.ne hNg e.symm)).trans hNg
  have o0 : O.cell? ⟨g2, 0, none⟩ = some (.pointer (some ⟨b, 0, none⟩)) := cell_of_row O _ 0 _ _ _ hOg
  have hlt1 : g2 < O.heap.size := heap_lt hOg
  have hng2 : ∀ {x : Nat} {u : TypeId} {cs : Array Value}, O.heap[x]? = some (.cells cs u (0, 0)) → ¬ (own a s1 x) ∨ True := fun _ => .inr trivial
  have hown1 : ∀ k, own a s1 k → own a s k ∨ k = b := fun k hk => by
    rcases hk with e | e | e | e | ⟨u, hu, e⟩
    · exact .inl (.inl e)
    · exact .inl (.inr (.inl e))
    · exact .inl (.inr (.inr (.inl e)))
    · exact .inl (.inr (.inr (.inr (.inl e))))
    · rw [hs1.out] at hu
      rcases List.mem_append.1 hu with hu | hu
      · exact .inl (.inr (.inr (.inr (.inr ⟨u, hu, e⟩))))
      · simp only [List.mem_singleton] at hu
        subst hu
        exact .inr e.symm
  have twO : Tb (own a s) w O := by
    have t1 : Tb (fun k => k = b) w V := (Tb.of_fresh (S := fun k => k = b) bwZ).trans tV (fun _ _ e => e)
    have t2 : Tb (own a s) w V := t1.mono (fun k hk e => by omega)
    have t3 : Tb (own a s) w N := t2.trans tN (fun k _ e => .inl e)
    exact t3.trans tO (fun k _ e => .inr (.inr (.inr (.inl e))))
  have hiO : s1.ts[s.ts.length]? = some ⟨b, .nilFunc, .nilFunc⟩ := by rw [hs1.out]; simp
  have CG : Hid (Calls Tryz.prog 67 #[.pointer (some ⟨b, 0, none⟩), spv w.heap.size g2] O fun e w' => e = .returned (.tuple #[]) ∧ SpP w a s (.func f xs ys) b w' ∧ w'.cell? ⟨g2, 0, none⟩ = some (.pointer (some ⟨b, 0, none⟩))) := hide (by
    have hl1 : s1.line = s.line := by rw [hs1.out]
    refine (getReady_any rO hiO (by rw [hl1]; exact h.ok.less' hl) (by
      rw [hl1]
      intro hx
      exact hnin (h.ok.sub hx)) hIk.2 _ _ _).mono ?_
    rintro e w' ⟨rfl, a', m', x'⟩
    have eg : s1.gets s.ts.length ⟨b, spv w.heap.size g2, .nilFunc⟩ = s.spawn b (spv w.heap.size g2) := by
      rw [hs1.out]
      simp [Rs.gets, Rs.spawn, List.set_append_right]
    have m2 : Rm w' a' (s.spawn b (spv w.heap.size g2)) (s.lives ++ [(s.ts.length : Int)]) := by rw [← eg]; exact m'
    have hno : ∀ {k : Nat}, own a s1 k → k = b ∨ k < w.heap.size := fun hk => (hown1 _ hk).elim (fun h' => .inr (h.m.own_lt h')) .inl
    have hg2n : ¬ own a s1 g2 := fun hk => by
      have e1 := hg2.out
      have e2 := hb.out
      rcases hno hk with e | e <;> omega
    have hwn : ¬ own a s1 w.heap.size := fun hk => by
      have e2 := hb.out
      rcases hno hk with e | e <;> omega
    have hg' : w'.heap[g2]? = some (.cells #[.pointer (some ⟨b, 0, none⟩)] (60 : TypeId) (0, 0)) := (x'.tb.block _ hlt1 hg2n).trans hOg
    have hgw : O.heap[w.heap.size]? = some (.cells #[.func f xs ys] (76 : TypeId) (0, 0)) := by
      have q1 : Z.heap[w.heap.size]? = some (.cells #[.func f xs ys] (76 : TypeId) (0, 0)) := ((bZ.block _ (by omega)).trans (bY.block _ (by omega))).trans hgX
      have q2 := (tV.block _ (heap_lt q1) (by have := hb.out; omega)).trans q1
      have q3 := (tN.block _ (heap_lt q2) (ne_type q2 rV.obj (by decide))).trans q2
      exact (tO.block _ (heap_lt q3) (fun e => rN.mp.ne q3 e.symm)).trans q3
    refine ⟨rfl, ⟨a', w.heap.size, g2, ⟨⟨?_, h.ok.spawn (Fv.fn _ _ _) rfl hl hmn⟩, ⟨x'.R, x'.Q, x'.U, x'.M, ?_, ⟨[b], by simp [Rs.spawn], by simpa using hbw⟩, ?_⟩⟩, hbw, Nat.le_refl _, by have := hg2.out; omega, (x'.tb.block _ (heap_lt hgw) hwn).trans hgw, hg', fun hk => ?_, fun hk => ?_⟩, cell_of_row w' _ 0 _ _ _ hg'⟩
    · rw [lives_spawn h.ok rfl]
      exact m2
    · have := x'.G
      have := twO.size
      rcases x'.G with e | e
      · exact .inl e
      · exact .inr (by omega)
    · exact twO.trans x'.tb (fun k hk hT => (hown1 k hT).elim id (fun e => by omega))
    · rw [← eg] at hk
      rcases x'.own hk with h1 | h1
      · exact hwn h1
      · have := heap_lt hgw; omega
    · rw [← eg] at hk
      rcases x'.own hk with h1 | h1
      · exact hg2n h1
      · omega)
  obtain ⟨L, hL⟩ : ∃ L, Hid (L = s.ts.length) := ⟨_, hide rfl⟩
  have hLm : IntKind.i64.wrap ((L : Int) + 1) = (L : Int) + 1 := by
    rw [IntKind.wrap_i64]
    have := hL.out
    omega
  obtain ⟨K, hK⟩ : ∃ K, Hid (K = s.lives.length) := ⟨_, hide rfl⟩
  have hKl : ¬ (256 : Int) ≤ (K : Int) := by have := hK.out; omega
  have HF : Hid (∀ w', SpP w a s (.func f xs ys) b w' → SpP w a s (.func f xs ys) b w') := hide (fun _ h => h)
  obtain ⟨P, hP⟩ : ∃ P : World → Prop, Hid (P = SpP w a s (.func f xs ys) b) := ⟨_, hide rfl⟩
  rw [← hP.out] at CG
  suffices hs : Calls Tryz.prog 24 #[.pointer (some ⟨a.R, 0, none⟩), .func f xs ys] w fun e w' => e = .returned (.tuple #[.pointer (some ⟨b, 0, none⟩), .int .i64 0]) ∧ P w' from hs.mono (fun e w' hh => ⟨b, hh.1, by rw [← hP.out]; exact hh.2⟩)
  obtain ⟨g1, hg1⟩ : ∃ g1, Hid (g1 = w.heap.size) := ⟨_, hide rfl⟩
  rw [← hg1.out] at g0 CG
  rw [← hL.out] at c3 hY hN v3 nb2 hr
  rw [← hK.out] at hlen
  obtain ⟨r, hr'⟩ : ∃ r, Hid (r = a.R) := ⟨_, hide rfl⟩
  obtain ⟨M, hM⟩ : ∃ M, Hid (M = a.M) := ⟨_, hide rfl⟩
  rw [← hr'.out] at C' c2 c3 hY v3 fv3 hN n2 ⊢
  rw [← hM.out] at c2 hlen n2 hr
  have H1 : Hid (w.heap.size = g1) := hide hg1.out.symm
  have H2 : Hid (X.heap.size = b) := hide hb.out.symm
  have H3 : Hid (Y.heap.size = g2) := hide hg2.out.symm
  unfold spv at CG
  clear HF hP hroom hnin hIk twO hown1 hng2 hlt1 hOg hOb rO tO rN hrp hadb had hNg hNb tN rV hVg hVb tV rZ bwZ hZb bZ hZg bY hYb hYs hXs hgX rX bX h hl hmn hbw hiO
  go_enter Tryz.func24, Tryz.ntmps24
  go_wp2_with (first | (rw [← hX.out, H1.out]))
  refine C'.mono ?_
  rintro e w1 ⟨rfl, hw1⟩
  subst w1
  go_wp2_with (first | (rw [← hY.out, H2.out]) | (rw [← hZ.out, H3.out]) | (rw [← hV.out]) | (rw [← hN.out]))
  clear C' c2 c3 g0 e1 hlen z0 zb0 fb0 v3 fv3 hX hY hZ hV hN hKl hLm
  go_region
  go_wp2_with fail
  refine CG.out.mono ?_
  rintro e w1 ⟨rfl, h1, h2⟩
  have H4 := hide h1
  clear h1 CG
  go_wp2_with fail
  go_ret2
  exact ⟨rfl, H4.out⟩
end

end Go.Proofs.YtgjpbekmkhanhaaGreat

/-
  A runtime: a turn, Step. What the task's function does in its turn is asked of the caller.
-/
namespace Go.Proofs.YtgjpbekmkhanhaaGreat
open Go.RowKit QI
set_option maxRecDepth 100000
set_option linter.unusedSimpArgs false

/-- A function of the program that can be entered. -/
def Ent (fn : Nat) : Prop := ∀ (args : Array Value) (w : World), (callFunc fn args).run Tryz.prog w = .ok (.enter fn args) w

section
variable {w : World} {a : Ad} {s : Rs} {i : Nat} {t : Tc} {ks : List Int}

/-- A turn is over: who has said nothing is taken out of the map. -/
theorem Rt.ends (h : Rt w a s) (hi : s.ts[i]? = some t) (hr : s.run = some i) {X : World} (hX : Hid (X = w.setCell ⟨a.R, 4, none⟩ (.pointer none))) :
    Rm X a s.done s.lives ∧ Tb (fun k => k = a.R) w X ∧ (t.goes = true → Rp w a s X a s.done) ∧
    (t.goes = false → ∃ O, (∀ ty, (Builtin.delete_ #[(59 : TypeId), 3] ty #[.map (some a.M), .int .i64 i]).run Tryz.prog X.drew = .ok (.tuple #[]) O) ∧ Rp w a s O a s.done) := by
  have tX : Tb (fun k => k = a.R) w X := by rw [hX.out]; exact Tb.set a.R 4 _ rfl
  have rX : Rm X a s.done s.lives := h.m.robj tX (by
    rw [hX.out, heap_setCell_same w a.R 4 _ _ _ h.m.obj]
    rfl) rfl rfl
  have tX' : Tb (own a s) w X := tX.mono (fun k _ e => .inl e)
  refine ⟨rX, tX, fun hg => ?_, fun hg => ?_⟩
  · refine ⟨⟨?_, h.ok.done hi hr⟩, .turn tX' rfl⟩
    have : s.done.lives = s.lives := lives_congr rfl (fun k => by
      simp only [Rs.live, Rs.done, hr]
      by_cases e : i = k
      · subst e
        simp [hi, hg]
      · simp [e])
    rw [this]
    exact rX
  · have hin : (i : Int) ∈ s.lives := mem_lives.2 ⟨i, rfl, (List.getElem?_eq_some_iff.1 hi).1, by rw [live_goes hi]; simp [hr]⟩
    have hm : ∀ x, x ∈ s.done.lives ↔ x ∈ s.lives ∧ x ≠ (i : Int) := fun x => by
      rw [lives_done hi hr]
      simp [hg]
    have hlen : s.done.lives.length + 1 = s.lives.length := by
      have hp : ((i : Int) :: s.done.lives).Perm s.lives := (List.perm_ext_iff_of_nodup (List.nodup_cons.2 ⟨fun hx => ((hm _).1 hx).2 rfl, lives_nodup⟩) lives_nodup).2 (fun x => by
        rw [List.mem_cons, hm]
        constructor
        · rintro (rfl | hx)
          · exact hin
          · exact hx.1
        · intro hx
          by_cases e : x = (i : Int)
          · exact .inl e
          · exact .inr ⟨hx, e⟩)
      have := hp.length_eq
      simpa using this
    have rD := rX.below (Below.refl _ X).drew
    obtain ⟨O, ho, mo, to⟩ := rD.mp.del (h.ok.id hi) hin hlen hm 0
    refine ⟨O, fun ty => ?_, ⟨⟨rD.map to mo, h.ok.done hi hr⟩, .turn (tX'.drew.trans to (fun k _ e => .inr (.inr (.inr (.inl e))))) rfl⟩⟩
    obtain ⟨O', ho', _⟩ := rD.mp.del (ls := s.done.lives) (h.ok.id hi) hin hlen hm ty
    have e1 : (Builtin.delete_ #[(59 : TypeId), 3] ty #[.map (some a.M), .int .i64 i]) = (Builtin.delete_ #[(59 : TypeId), 3] 0 #[.map (some a.M), .int .i64 i]) := rfl
    rw [e1]
    exact ho

set_option maxHeartbeats 1000000 in
theorem turn_any (h : Rm w a s ks) (hi : s.ts[i]? = some t) {fn : Nat} {caps : Array Value} (hnx : t.nx = .func (.func fn) #[] caps) (hen : Ent fn) (left : Nat) (Φ : World → Ad → Rs → Prop)
    (HC : ∀ X, Rm X a ⟨s.ts.set i ⟨t.b, .nilFunc, t.wk⟩, s.line, some i, left⟩ ks → Tb (own a s) w X → Calls Tryz.prog fn caps X fun e w2 => e = .returned (.tuple #[]) ∧ ∃ a2 s2 t2, Rt w2 a2 s2 ∧ s2.run = some i ∧ s2.ts[i]? = some t2 ∧ t2.b = t.b ∧ a2.R = a.R ∧ Φ w2 a2 s2) :
    Calls Tryz.prog 60 #[.pointer (some ⟨a.R, 0, none⟩), .pointer (some ⟨t.b, 0, none⟩), .int .u64 left] w fun e w' => e = .returned (.tuple #[]) ∧ ∃ w2 a2 s2, Φ w2 a2 s2 ∧ Rp w2 a2 s2 w' a2 s2.done := by
  have c3 : w.cell? ⟨t.b, 3, none⟩ = some (.func (.func fn) #[] caps) := by rw [← hnx]; exact h.cT hi 3
  have f3 := h.fT hi 3
  obtain ⟨X, hX⟩ : ∃ X, Hid (X = w.setCell ⟨t.b, 3, none⟩ .nilFunc) := ⟨_, hide rfl⟩
  have tX : Tb (fun k => k = t.b) w X := by rw [hX.out]; exact Tb.set t.b 3 _ rfl
  have rX : Rm X a { s with ts := s.ts.set i ⟨t.b, .nilFunc, t.wk⟩ } ks := h.tobj hi rfl tX (by
    rw [hX.out, heap_setCell_same w t.b 3 _ _ _ (h.tk i t hi)]
    rfl)
  have x4 : ∃ v, X.cell? ⟨a.R, 4, none⟩ = some v := ⟨_, rX.cR 4⟩
  have fx4 := rX.fR 4
  obtain ⟨Y, hY⟩ : ∃ Y, Hid (Y = X.setCell ⟨a.R, 4, none⟩ (.pointer (some ⟨t.b, 0, none⟩))) := ⟨_, hide rfl⟩
  have hYR : Y.heap[a.R]? = some (.cells (rcs a ⟨s.ts.set i ⟨t.b, .nilFunc, t.wk⟩, s.line, some i, s.left⟩) (62 : TypeId) (0, 0)) := by
    rw [hY.out, heap_setCell_same X a.R 4 _ _ _ rX.obj]
    have : (⟨s.ts.set i ⟨t.b, .nilFunc, t.wk⟩, s.line, some i, s.left⟩ : Rs).adr i = t.b := by simp [Rs.adr, get_set hi]
    simp [rcs, Rs.rp, this]
  have tY : Tb (fun k => k = a.R) X Y := by rw [hY.out]; exact Tb.set a.R 4 _ rfl
  have rY := rX.robj tY hYR rfl rfl
  have y5 : ∃ v, Y.cell? ⟨a.R, 5, none⟩ = some v := ⟨_, rY.cR 5⟩
  have fy5 := rY.fR 5
  obtain ⟨Z, hZ⟩ : ∃ Z, Hid (Z = Y.setCell ⟨a.R, 5, none⟩ (.int .u64 left)) := ⟨_, hide rfl⟩
  have tZ : Tb (fun k => k = a.R) Y Z := by rw [hZ.out]; exact Tb.set a.R 5 _ rfl
  have rZ : Rm Z a ⟨s.ts.set i ⟨t.b, .nilFunc, t.wk⟩, s.line, some i, left⟩ ks := rY.robj tZ (by
    rw [hZ.out, heap_setCell_same Y a.R 5 _ _ _ hYR]
    rfl) rfl rfl
  have tw : Tb (own a s) w Z := ((tX.mono (fun k _ e => by subst e; exact own_task hi) : Tb (own a s) w X).trans tY (fun k _ e => .inl e)).trans tZ (fun k _ e => .inl e)
  have HCZ := hide (HC Z rZ tw)
  have HT : Hid (∀ (w2 : World) (a2 : Ad) (s2 : Rs) (t2 : Tc), Rt w2 a2 s2 → s2.run = some i → s2.ts[i]? = some t2 → t2.b = t.b → a2.R = a.R →
      ∃ X2 M2, Hid (X2 = w2.setCell ⟨a.R, 4, none⟩ (.pointer none)) ∧ (∃ v, w2.cell? ⟨a.R, 4, none⟩ = some v) ∧ w2.frozen? ⟨a.R, 4, none⟩ = false ∧
        Calls Tryz.prog 94 #[.pointer (some ⟨t.b, 0, none⟩)] X2 (fun e w' => e = .returned (.bool t2.goes) ∧ w' = X2) ∧
        X2.cell? ⟨a.R, 2, none⟩ = some (.map (some M2)) ∧ X2.cell? ⟨t.b, 2, none⟩ = some (.int .i64 i) ∧
        (t2.goes = true → Rp w2 a2 s2 X2 a2 s2.done) ∧ (t2.goes = false → ∃ O, (∀ ty, (Builtin.delete_ #[(59 : TypeId), 3] ty #[.map (some M2), .int .i64 i]).run Tryz.prog X2.drew = .ok (.tuple #[]) O) ∧ Rp w2 a2 s2 O a2 s2.done)) := hide (by
    intro w2 a2 s2 t2 r2 hr2 hi2 hb2 hR2
    obtain ⟨q1, q2, q3, q4⟩ := r2.ends hi2 hr2 (X := w2.setCell ⟨a2.R, 4, none⟩ (.pointer none)) (hide rfl)
    rw [← hR2, ← hb2]
    exact ⟨_, a2.M, hide rfl, ⟨_, r2.m.cR 4⟩, r2.m.fR 4, goes_any q1 (r2.ok.fv t2 (List.mem_of_getElem? hi2)) hi2, q1.cR 2, q1.cT hi2 2, q3, q4⟩)
  obtain ⟨v4, hv4⟩ := x4
  obtain ⟨v5, hv5⟩ := y5
  clear HC rZ tw rY rX tX tY tZ hYR h hi hnx
  obtain ⟨b, hb⟩ : ∃ b, Hid (b = t.b) := ⟨_, hide rfl⟩
  obtain ⟨r, hr⟩ : ∃ r, Hid (r = a.R) := ⟨_, hide rfl⟩
  rw [← hb.out] at c3 f3 hX hY HT ⊢
  rw [← hr.out] at fx4 hv4 hY fy5 hv5 hZ HT ⊢
  go_enter Tryz.func60, Tryz.ntmps60
  unfold Ent at hen
  go_wp2_with (first | (rw [← hX.out]) | (rw [← hY.out]) | (rw [← hZ.out]))
  refine HCZ.out.mono ?_
  rintro e w2 ⟨rfl, a2, s2, t2, k1, k2, k3, k4, k5, k6⟩
  rw [← hb.out] at k4
  rw [← hr.out] at k5
  obtain ⟨X2, M2, hX2, ⟨u4, hu4⟩, fu4, CG, d2, e2, K1, K2⟩ := HT.out w2 a2 s2 t2 k1 k2 k3 k4 k5
  have K6 := hide k6
  have HK1 := hide K1
  have HK2 := hide K2
  clear HT HCZ k1 k2 k3 k4 k5 k6 K1 K2 c3 f3 fx4 fy5 hv4 hv5 hX hY hZ
  go_wp2_with (first | (rw [← hX2.out]))
  refine CG.mono ?_
  rintro e w3 ⟨rfl, hw3⟩
  subst w3
  clear hu4 fu4 hX2 CG
  cases hg : t2.goes
  · obtain ⟨O, ho, hF⟩ := HK2.out hg
    have HF := hide hF
    clear hF HK1 HK2 hg
    go_wp2_with fail
    go_region
    go_wp2_with fail
    go_end0
    exact ⟨rfl, w2, a2, s2, K6.out, HF.out⟩
  · have HF := hide (HK1.out hg)
    clear HK1 HK2 hg
    go_wp2_with fail
    go_end0
    exact ⟨rfl, w2, a2, s2, K6.out, HF.out⟩
end

end Go.Proofs.YtgjpbekmkhanhaaGreat

/-
  A runtime: Step.
-/
namespace Go.Proofs.YtgjpbekmkhanhaaGreat
open Go.RowKit QI
set_option maxRecDepth 100000
set_option linter.unusedSimpArgs false

section
variable {w : World} {a : Ad} {s : Rs} {i : Nat} {t : Tc}

theorem step_none {p : Option Addr} (C : Calls Tryz.prog 58 #[.pointer p] w fun e w' => e = .returned (.bool false) ∧ w' = w) (z : Int) :
    Calls Tryz.prog 12 #[.pointer p, .int .u64 z] w fun e w' => e = .returned (.bool false) ∧ w' = w := by
  go_enter Tryz.func12, Tryz.ntmps12
  go_wp2_with fail
  refine C.mono ?_
  rintro e w1 ⟨rfl, hw1⟩
  subst w1
  go_wp2_with fail
  go_ret
  exact ⟨rfl, rfl⟩

/-- A Step within a turn. -/
theorem step_in (h : Rt w a s) {k : Nat} (hr : s.run = some k) (z : Int) :
    Calls Tryz.prog 12 #[.pointer (some ⟨a.R, 0, none⟩), .int .u64 z] w fun e w' => e = .returned (.bool false) ∧ w' = w := by
  have C := rmade_yes (b := a.R) (h.m.cR 0)
  have c4 : w.cell? ⟨a.R, 4, none⟩ = some (.pointer (some ⟨s.adr k, 0, none⟩)) := by
    have := h.m.cR 4
    simpa [rcs, Rs.rp, hr] using this
  clear h hr
  generalize s.adr k = b at *
  generalize a.R = r at *
  go_enter Tryz.func12, Tryz.ntmps12
  go_wp2_with fail
  refine C.mono ?_
  rintro e w1 ⟨rfl, hw1⟩
  subst w1
  go_wp2_with fail
  go_ret
  exact ⟨rfl, rfl⟩

/-- A Step where none is ready. -/
theorem step_no (h : Rt w a s) (hr : s.run = none) (hl : s.line = []) (z : Int) :
    Calls Tryz.prog 12 #[.pointer (some ⟨a.R, 0, none⟩), .int .u64 z] w fun e w' => e = .returned (.bool false) ∧ w' = w := by
  have C := rmade_yes (b := a.R) (h.m.cR 0)
  have c4 : w.cell? ⟨a.R, 4, none⟩ = some (.pointer none) := by
    have := h.m.cR 4
    simpa [rcs, Rs.rp, hr] using this
  have c1 : w.cell? ⟨a.R, 1, none⟩ = some (.pointer (some ⟨a.Q, 0, none⟩)) := h.m.cR 1
  obtain ⟨N, hd, q⟩ := h.m.qu
  rw [hl] at q
  have CP := pick_no (slen_yes h.m.sd q) z
  clear h hr hl q
  generalize a.R = r at *
  generalize a.Q = q at *
  go_enter Tryz.func12, Tryz.ntmps12
  go_wp2_with fail
  refine C.mono ?_
  rintro e w1 ⟨rfl, hw1⟩
  subst w1
  go_wp2_with fail
  refine CP.mono ?_
  rintro e w1 ⟨rfl, hw1⟩
  subst w1
  go_wp2_with fail
  go_ret
  exact ⟨rfl, rfl⟩

set_option maxHeartbeats 1000000 in
theorem step_yes (h : Rt w a s) (hr : s.run = none) (p : Nat) (hp : p ≤ 18446744073709551615) {j : Nat} (hj : Hid (j = p % s.line.length)) (hji : s.line[j]? = some (i : Int)) (hi : s.ts[i]? = some t) {fn : Nat} {caps : Array Value} (hnx : t.nx = .func (.func fn) #[] caps) (hen : Ent fn) (Φ : World → Ad → Rs → Prop)
    (HC : ∀ X a1, Rp w a s X a1 (s.begin i j ⟨t.b, .nilFunc, t.wk⟩ (p / s.line.length)) → Calls Tryz.prog fn caps X fun e w2 => e = .returned (.tuple #[]) ∧ ∃ a2 s2 t2, Rt w2 a2 s2 ∧ s2.run = some i ∧ s2.ts[i]? = some t2 ∧ t2.b = t.b ∧ a2.R = a.R ∧ Φ w2 a2 s2) :
    Calls Tryz.prog 12 #[.pointer (some ⟨a.R, 0, none⟩), .int .u64 p] w fun e w' => e = .returned (.bool true) ∧ ∃ w2 a2 s2, Φ w2 a2 s2 ∧ Rp w2 a2 s2 w' a2 s2.done := by
  have C := rmade_yes (b := a.R) (h.m.cR 0)
  have c4 : w.cell? ⟨a.R, 4, none⟩ = some (.pointer none) := by
    have := h.m.cR 4
    simpa [rcs, Rs.rp, hr] using this
  have c1 : w.cell? ⟨a.R, 1, none⟩ = some (.pointer (some ⟨a.Q, 0, none⟩)) := h.m.cR 1
  obtain ⟨N, hd, q⟩ := h.m.qu
  have hjl : j < s.line.length := (List.getElem?_eq_some_iff.1 hji).1
  have hn0 : 0 < s.line.length := by omega
  have hgd : s.line.getD j 0 = (i : Int) := by simp [List.getD, hji]
  have CP := pick_yes h.m.sd q hn0 p hp
  rw [← hj.out, hgd] at CP
  have hdl : p / s.line.length ≤ 18446744073709551615 := Nat.le_trans (Nat.div_le_self _ _) hp
  have hgo : t.goes = true := by simp [Tc.goes, hnx, on]
  have hin : (i : Int) ∈ s.lives := h.ok.sub (List.mem_of_getElem? hji)
  have HT : Hid (∀ w1, Qt w w1 a.U a.G (s.line.eraseIdx j) → w1.cell? ⟨a.R, 2, none⟩ = some (.map (some a.M)) ∧ (Instr.lookup (59 : TypeId) (.map (some a.M)) (.int .i64 (i : Int)) false).run Tryz.prog w1 = .ok (.pointer (some ⟨t.b, 0, none⟩)) w1 ∧
      Calls Tryz.prog 60 #[.pointer (some ⟨a.R, 0, none⟩), .pointer (some ⟨t.b, 0, none⟩), .int .u64 (p / s.line.length : Nat)] w1 fun e w' => e = .returned (.tuple #[]) ∧ ∃ w2 a2 s2, Φ w2 a2 s2 ∧ Rp w2 a2 s2 w' a2 s2.done) := hide (by
    intro w1 k
    obtain ⟨G', hg, m1, t1⟩ := h.m.turn k
    have had : ({ s with line := s.line.eraseIdx j } : Rs).adr i = t.b := adr_of hi
    refine ⟨m1.cR 2, ?_, ?_⟩
    · have := m1.mp.look (h.ok.id hi) hin
      simpa [had] using this
    · refine turn_any m1 hi hnx hen (p / s.line.length) Φ (fun X mX tX => ?_)
      have x1 : Rx w a s X { a with G := G' } (s.begin i j ⟨t.b, .nilFunc, t.wk⟩ (p / s.line.length)) := by
        refine ⟨rfl, rfl, rfl, rfl, hg, ⟨[], by simp [Rs.begin, map_set hi], by simp⟩, t1.trans tX (fun k hk e => ?_)⟩
        have x0 : Rx w a s w1 { a with G := G' } { s with line := s.line.eraseIdx j } := ⟨rfl, rfl, rfl, rfl, hg, ⟨[], by simp, by simp⟩, t1⟩
        exact (x0.own e).elim id (fun h' => by omega)
      refine HC X _ ⟨⟨?_, h.ok.begin hji hi rfl rfl hr hdl⟩, x1⟩
      rw [lives_begin hi hgo hr]
      exact mX)
  clear h hr hji hi hnx hen HC q hjl hn0 hgd hgo hin hp
  obtain ⟨r, hr⟩ : ∃ r, Hid (r = a.R) := ⟨_, hide rfl⟩
  obtain ⟨qq, hq⟩ : ∃ q, Hid (q = a.Q) := ⟨_, hide rfl⟩
  obtain ⟨M, hM⟩ : ∃ M, Hid (M = a.M) := ⟨_, hide rfl⟩
  obtain ⟨b, hb⟩ : ∃ b, Hid (b = t.b) := ⟨_, hide rfl⟩
  obtain ⟨D, hD⟩ : ∃ D, Hid (D = p / s.line.length) := ⟨_, hide rfl⟩
  rw [← hr.out] at C c1 c4 HT ⊢
  rw [← hq.out] at c1 CP
  rw [← hM.out, ← hb.out, ← hD.out] at HT
  rw [← hD.out] at CP hdl
  generalize s.line.eraseIdx j = l' at *
  go_enter Tryz.func12, Tryz.ntmps12
  go_wp2_with fail
  refine C.mono ?_
  rintro e w1 ⟨rfl, hw1⟩
  subst w1
  go_wp2_with fail
  refine CP.mono ?_
  rintro e w1 ⟨rfl, k⟩
  obtain ⟨d2, hlk, CT⟩ := HT.out w1 k
  have HCT := hide CT
  clear HT k CT CP C c1 c4
  go_wp2_with fail
  refine HCT.out.mono ?_
  rintro e w3 ⟨rfl, hF⟩
  have HF := hide hF
  clear hF HCT
  go_wp2_with fail
  go_ret
  exact ⟨rfl, HF.out⟩
end

end Go.Proofs.YtgjpbekmkhanhaaGreat

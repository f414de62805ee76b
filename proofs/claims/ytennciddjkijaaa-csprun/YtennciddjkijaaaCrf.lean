/-
  A runtime: Spawn.
-/
import Derived.Test.YtennciddjkijaaaCre
namespace Go.Proofs.Ytennciddjkijaaa
open Go.RowKit QI
set_option maxRecDepth 100000
set_option linter.unusedSimpArgs false

section
variable {w : World} {a : Ad} {s : Rs}

theorem spawn_none {p : Option Addr} (v : Value) (hv : Fv v) (C : ∀ V, Below w.heap.size w V → Calls Try.prog 36 #[.pointer p] V fun e w' => e = .returned (.bool false) ∧ w' = V) :
    Calls Try.prog 23 #[.pointer p, v] w fun e w' => e = .returned (.tuple #[.pointer none, .int .i64 1]) ∧ Below w.heap.size w w' := by
  obtain ⟨X, hX⟩ : ∃ X, Hid (X = w.alloc (.cells #[v] (55 : TypeId))) := ⟨_, hide rfl⟩
  have bX : Below w.heap.size w X := by rw [hX.out]; exact (Below.refl _ w).alloc (Nat.le_refl _) _
  have C' := C X bX
  have HB := hide bX
  clear C bX
  rcases hv with rfl | ⟨f, xs, ys, rfl⟩ <;>
  · go_enter Try.func23, Try.ntmps23
    go_wp2_with (first | (rw [← hX.out]))
    refine C'.mono ?_
    rintro e w1 ⟨rfl, hw1⟩
    subst w1
    go_wp2_with fail
    go_ret2
    exact ⟨rfl, HB.out⟩

/-- Spawn of no function. -/
theorem spawn_nil (h : Rt w a s) :
    Calls Try.prog 23 #[.pointer (some ⟨a.R, 0, none⟩), .nilFunc] w fun e w' => e = .returned (.tuple #[.pointer none, .int .i64 1]) ∧ Rp w a s w' a s := by
  obtain ⟨X, hX⟩ : ∃ X, Hid (X = w.alloc (.cells #[.nilFunc] (55 : TypeId))) := ⟨_, hide rfl⟩
  have bX : Below w.heap.size w X := by rw [hX.out]; exact (Below.refl _ w).alloc (Nat.le_refl _) _
  have C' := rmade_yes (b := a.R) ((h.m.below bX).cR 0)
  have hg : X.heap[w.heap.size]? = some (.cells #[.nilFunc] (55 : TypeId) (0, 0)) := by rw [hX.out]; exact heap_alloc_new w _
  have g0 : X.cell? ⟨w.heap.size, 0, none⟩ = some .nilFunc := cell_of_row X _ 0 _ _ _ hg
  have e1 := eql_func_nil (P := Try.prog) (w := X) Try.underlying55
  have HF := hide (h.same bX)
  clear bX hg h
  obtain ⟨G1, hG1⟩ : ∃ G1, Hid (G1 = w.heap.size) := ⟨_, hide rfl⟩
  rw [← hG1.out] at g0
  have HG1 : Hid (w.heap.size = G1) := hide hG1.out.symm
  obtain ⟨r, hr⟩ : ∃ r, Hid (r = a.R) := ⟨_, hide rfl⟩
  rw [← hr.out] at C' ⊢
  go_enter Try.func23, Try.ntmps23
  go_wp2_with (first | (rw [← hX.out, HG1.out]))
  refine C'.mono ?_
  rintro e w1 ⟨rfl, hw1⟩
  subst w1
  go_wp2_with fail
  go_ret2
  exact ⟨rfl, HF.out⟩

theorem spawn_full (h : Rt w a s) (hl : s.lives.length = 256) (f : Fn) (xs ys : Array Value) :
    Calls Try.prog 23 #[.pointer (some ⟨a.R, 0, none⟩), .func f xs ys] w fun e w' => e = .returned (.tuple #[.pointer none, .int .i64 5]) ∧ Rp w a s w' a s := by
  obtain ⟨X, hX⟩ : ∃ X, Hid (X = w.alloc (.cells #[.func f xs ys] (55 : TypeId))) := ⟨_, hide rfl⟩
  have bX : Below w.heap.size w X := by rw [hX.out]; exact (Below.refl _ w).alloc (Nat.le_refl _) _
  have C' := rmade_yes (b := a.R) ((h.m.below bX).cR 0)
  have hg : X.heap[w.heap.size]? = some (.cells #[.func f xs ys] (55 : TypeId) (0, 0)) := by rw [hX.out]; exact heap_alloc_new w _
  have g0 : X.cell? ⟨w.heap.size, 0, none⟩ = some (.func f xs ys) := cell_of_row X _ 0 _ _ _ hg
  have c2 : X.cell? ⟨a.R, 2, none⟩ = some (.map (some a.M)) := (h.m.below bX).cR 2
  have e1 := eql_func_no (P := Try.prog) (w := X) f xs ys Try.underlying55
  have hlen : ∀ ty, (Builtin.len_ #[(59 : TypeId)] ty #[.map (some a.M)]).run Try.prog X = .ok (.int .i64 256) X := fun ty => by
    have := (h.m.below bX).mp.len ty
    rwa [hl] at this
  have HF := hide (h.same bX)
  clear bX hg h hl
  obtain ⟨G1, hG1⟩ : ∃ G1, Hid (G1 = w.heap.size) := ⟨_, hide rfl⟩
  rw [← hG1.out] at g0
  have HG1 : Hid (w.heap.size = G1) := hide hG1.out.symm
  obtain ⟨r, hr⟩ : ∃ r, Hid (r = a.R) := ⟨_, hide rfl⟩
  obtain ⟨M, hM⟩ : ∃ M, Hid (M = a.M) := ⟨_, hide rfl⟩
  rw [← hr.out] at C' c2 ⊢
  rw [← hM.out] at c2 hlen
  go_enter Try.func23, Try.ntmps23
  go_wp2_with (first | (rw [← hX.out, HG1.out]))
  refine C'.mono ?_
  rintro e w1 ⟨rfl, hw1⟩
  subst w1
  go_wp2_with fail
  go_ret2
  exact ⟨rfl, HF.out⟩

/-- The value that a new task's first turn calls: a closure over two new variables: the function, and the task. -/
def spv (g1 g2 : Nat) : Value := .func (.func 58) #[] #[.pointer (some ⟨g1, 0, none⟩), .pointer (some ⟨g2, 0, none⟩)]

/-- What Spawn leaves. -/
def SpP (w : World) (a : Ad) (s : Rs) (f : Value) (b : Nat) (w' : World) : Prop :=
  ∃ a' g1 g2, Rp w a s w' a' (s.spawn b (spv g1 g2)) ∧ w.heap.size ≤ b ∧ w.heap.size ≤ g1 ∧ w.heap.size ≤ g2 ∧ w'.heap[g1]? = some (.cells #[f] (55 : TypeId) (0, 0)) ∧ w'.heap[g2]? = some (.cells #[.pointer (some ⟨b, 0, none⟩)] (44 : TypeId) (0, 0)) ∧ ¬ own a' (s.spawn b (spv g1 g2)) g1 ∧ ¬ own a' (s.spawn b (spv g1 g2)) g2

set_option maxHeartbeats 2000000 in
theorem spawn_yes (h : Rt w a s) (hl : s.lives.length < 256) (hmn : s.ts.length < 4611686018427387904) (f : Fn) (xs ys : Array Value) :
    Calls Try.prog 23 #[.pointer (some ⟨a.R, 0, none⟩), .func f xs ys] w fun e w' => ∃ b, e = .returned (.tuple #[.pointer (some ⟨b, 0, none⟩), .int .i64 0]) ∧ SpP w a s (.func f xs ys) b w' := by
  -- the function's own variable
  obtain ⟨X, hX⟩ : ∃ X, Hid (X = w.alloc (.cells #[.func f xs ys] (55 : TypeId))) := ⟨_, hide rfl⟩
  have bX : Below w.heap.size w X := by rw [hX.out]; exact (Below.refl _ w).alloc (Nat.le_refl _) _
  have rX := h.m.below bX
  have C' := rmade_yes (b := a.R) (rX.cR 0)
  have hgX : X.heap[w.heap.size]? = some (.cells #[.func f xs ys] (55 : TypeId) (0, 0)) := by rw [hX.out]; exact heap_alloc_new w _
  have g0 : X.cell? ⟨w.heap.size, 0, none⟩ = some (.func f xs ys) := cell_of_row X _ 0 _ _ _ hgX
  have c2 : X.cell? ⟨a.R, 2, none⟩ = some (.map (some a.M)) := rX.cR 2
  have c3 : X.cell? ⟨a.R, 3, none⟩ = some (.int .i64 s.ts.length) := rX.cR 3
  have e1 := eql_func_no (P := Try.prog) (w := X) f xs ys Try.underlying55
  have hlen := fun ty => rX.mp.len ty
  have hXs : X.heap.size = w.heap.size + 1 := by rw [hX.out]; simp
  -- the task, and its variable
  obtain ⟨b, hb⟩ : ∃ b, Hid (b = X.heap.size) := ⟨_, hide rfl⟩
  obtain ⟨Y, hY⟩ : ∃ Y, Hid (Y = X.alloc (.cells #[.pointer none, .pointer (some ⟨a.R, 0, none⟩), .int .i64 s.ts.length, .nilFunc, .nilFunc] (52 : TypeId))) := ⟨_, hide rfl⟩
  have hYb : Y.heap[b]? = some (.cells #[.pointer none, .pointer (some ⟨a.R, 0, none⟩), .int .i64 s.ts.length, .nilFunc, .nilFunc] (52 : TypeId) (0, 0)) := by rw [hY.out, hb.out]; exact heap_alloc_new X _
  have bY : Below X.heap.size X Y := by rw [hY.out]; exact (Below.refl _ X).alloc (Nat.le_refl _) _
  have hYs : Y.heap.size = X.heap.size + 1 := by rw [hY.out]; simp
  obtain ⟨g2, hg2⟩ : ∃ g2, Hid (g2 = Y.heap.size) := ⟨_, hide rfl⟩
  obtain ⟨Z, hZ⟩ : ∃ Z, Hid (Z = Y.alloc (.cells #[.pointer (some ⟨b, 0, none⟩)] (44 : TypeId))) := ⟨_, hide rfl⟩
  have hZg : Z.heap[g2]? = some (.cells #[.pointer (some ⟨b, 0, none⟩)] (44 : TypeId) (0, 0)) := by rw [hZ.out, hg2.out]; exact heap_alloc_new Y _
  have bZ : Below Y.heap.size Y Z := by rw [hZ.out]; exact (Below.refl _ Y).alloc (Nat.le_refl _) _
  have hZb : Z.heap[b]? = some (.cells #[.pointer none, .pointer (some ⟨a.R, 0, none⟩), .int .i64 s.ts.length, .nilFunc, .nilFunc] (52 : TypeId) (0, 0)) := (bZ.block _ (heap_lt hYb)).trans hYb
  have bwZ : Below w.heap.size w Z := bX.trans ((bY.trans (bZ.mono bY.size)).mono bX.size)
  have rZ := h.m.below bwZ
  have z0 : Z.cell? ⟨g2, 0, none⟩ = some (.pointer (some ⟨b, 0, none⟩)) := cell_of_row Z _ 0 _ _ _ hZg
  have zb0 : Z.cell? ⟨b, 0, none⟩ = some (.pointer none) := cell_of_row Z _ 0 _ _ _ hZb
  have fb0 := frozen_of_row Z b 0 _ _ hZb
  -- it knows itself
  obtain ⟨V, hV⟩ : ∃ V, Hid (V = Z.setCell ⟨b, 0, none⟩ (.pointer (some ⟨b, 0, none⟩))) := ⟨_, hide rfl⟩
  have tV : Tb (fun k => k = b) Z V := by rw [hV.out]; exact Tb.set b 0 _ rfl
  have hVb : V.heap[b]? = some (.cells (tcs a s.ts.length ⟨b, .nilFunc, .nilFunc⟩) (52 : TypeId) (0, 0)) := by
    rw [hV.out, heap_setCell_same Z b 0 _ _ _ hZb]
    rfl
  have hbw : w.heap.size ≤ b := by have := hb.out; omega
  have rV : Rm V a s s.lives := rZ.tb tV (fun k hk e => by
    subst e
    rcases hk with hk | hk
    · have := h.m.own_lt hk; omega
    · have := h.m.sd.lt; omega)
  have hVg : V.heap[g2]? = some (.cells #[.pointer (some ⟨b, 0, none⟩)] (44 : TypeId) (0, 0)) := (tV.block _ (heap_lt hZg) (by have := hg2.out; have := hb.out; omega)).trans hZg
  have v3 : V.cell? ⟨a.R, 3, none⟩ = some (.int .i64 s.ts.length) := rV.cR 3
  have fv3 := rV.fR 3
  -- the next number
  obtain ⟨N, hN⟩ : ∃ N, Hid (N = V.setCell ⟨a.R, 3, none⟩ (.int .i64 ((s.ts.length : Int) + 1))) := ⟨_, hide rfl⟩
  have tN : Tb (fun k => k = a.R) V N := by rw [hN.out]; exact Tb.set a.R 3 _ rfl
  have hNb : N.heap[b]? = some (.cells (tcs a s.ts.length ⟨b, .nilFunc, .nilFunc⟩) (52 : TypeId) (0, 0)) := (tN.block _ (heap_lt hVb) (ne_type hVb rV.obj (by decide))).trans hVb
  have hNg : N.heap[g2]? = some (.cells #[.pointer (some ⟨b, 0, none⟩)] (44 : TypeId) (0, 0)) := (tN.block _ (heap_lt hVg) (ne_type hVg rV.obj (by decide))).trans hVg
  obtain ⟨s1, hs1⟩ : ∃ s1 : Rs, Hid (s1 = { s with ts := s.ts ++ [⟨b, .nilFunc, .nilFunc⟩] }) := ⟨_, hide rfl⟩
  have had : ∀ k, k < s.ts.length → s1.adr k = s.adr k := fun k hk => by
    rw [hs1.out]
    simp [Rs.adr, List.getElem?_append_left hk]
  have hadb : s1.adr s.ts.length = b := by rw [hs1.out]; simp [Rs.adr]
  have hrp : s1.rp = s.rp := by
    have : s1.run = s.run := by rw [hs1.out]
    unfold Rs.rp
    rw [this]
    cases e : s.run with
    | none => rfl
    | some k => simp [had k (h.ok.runs k e)]
  have rN : Rm N a s1 s.lives := by
    obtain ⟨Nn, hd, q⟩ := rV.qu
    obtain ⟨c1, hc1⟩ := rV.ring
    refine ⟨?_, rV.sd.tb tN (ne_type rV.sd rV.obj (by decide)), ⟨Nn, hd, by rw [show s1.line = s.line by rw [hs1.out]]; exact q.tb tN (ne_type q.obj rV.obj (by decide)) (ne_type hc1 rV.obj (by decide))⟩, ?_, fun i u hi => ?_⟩
    · rw [hN.out, heap_setCell_same V a.R 3 _ _ _ rV.obj]
      have : s1.ts.length = s.ts.length + 1 := by rw [hs1.out]; simp
      have : s1.left = s.left := by rw [hs1.out]
      simp [rcs, hrp, *]
    · refine (rV.mp.tb tN (rV.mp.ne rV.obj)).congr rfl (fun _ => Iff.rfl) (fun x hx => ?_)
      obtain ⟨k, rfl, hk, _⟩ := mem_lives.1 hx
      simpa using had k hk
    · by_cases hk : i < s.ts.length
      · rw [hs1.out, List.getElem?_append_left hk] at hi
        have h1 := rV.tk i u hi
        exact (tN.block _ (heap_lt h1) (ne_type h1 rV.obj (by decide))).trans h1
      · rw [hs1.out, List.getElem?_append_right (by omega)] at hi
        have : i = s.ts.length := by
          have := (List.getElem?_eq_some_iff.1 hi).1
          simp only [List.length_cons, List.length_nil] at this
          omega
        subst this
        simp at hi
        subst hi
        exact hNb
  -- the map
  have hIk : I6 (s.ts.length : Int) := by unfold I6; omega
  have hnin : (s.ts.length : Int) ∉ s.lives := fun hx => by
    obtain ⟨k, e, hk, _⟩ := mem_lives.1 hx
    omega
  have n0 : N.cell? ⟨g2, 0, none⟩ = some (.pointer (some ⟨b, 0, none⟩)) := cell_of_row N _ 0 _ _ _ hNg
  have nb2 : N.cell? ⟨b, 2, none⟩ = some (.int .i64 s.ts.length) := cell_of_row N _ 2 _ _ _ hNb
  have n2 : N.cell? ⟨a.R, 2, none⟩ = some (.map (some a.M)) := rN.cR 2
  have hroom := h.ok.room
  obtain ⟨O, hr, rO, tO⟩ : ∃ O, (Instr.mapUpdate (59 : TypeId) (.map (some a.M)) (.int .i64 s.ts.length) (.pointer (some ⟨b, 0, none⟩))).run Try.prog N.drew = .ok () O ∧ Rm O a s1 (s.lives ++ [(s.ts.length : Int)]) ∧ Tb (fun k => k = a.M) N O := by
    have rNm := rN.below (Below.refl _ N).drew
    obtain ⟨O, ho, mo, to⟩ := rNm.mp.put (g := fun k => s1.adr k.toNat) hIk (by omega) hnin (b := b) (by simpa using hadb) (fun _ _ => rfl)
    exact ⟨O, ho, rNm.map to mo, (Tb.of_fresh (S := fun k => k = a.M) (Below.refl _ N).drew).trans to (fun _ _ e => e)⟩
  have hOb : O.heap[b]? = some (.cells (tcs a s.ts.length ⟨b, .nilFunc, .nilFunc⟩) (52 : TypeId) (0, 0)) := (tO.block _ (heap_lt hNb) (fun e => rN.mp.ne hNb e.symm)).trans hNb
  have hOg : O.heap[g2]? = some (.cells #[.pointer (some ⟨b, 0, none⟩)] (44 : TypeId) (0, 0)) := (tO.block _ (heap_lt hNg) (fun e => rN.mp.ne hNg e.symm)).trans hNg
  have o0 : O.cell? ⟨g2, 0, none⟩ = some (.pointer (some ⟨b, 0, none⟩)) := cell_of_row O _ 0 _ _ _ hOg
  have hlt1 : g2 < O.heap.size := heap_lt hOg
  have hng2 : ∀ {x : Nat} {u : TypeId} {cs : Array Value}, O.heap[x]? = some (.cells cs u (0, 0)) → ¬ (own a s1 x) ∨ True := fun _ => .inr trivial
  have hown1 : ∀ k, own a s1 k → own a s k ∨ k = b := fun k hk => by
    rcases hk with e | e | e | e | ⟨u, hu, e⟩
    · exact .inl (.inl e)
    · exact .inl (.inr (.inl e))
    · exact .inl (.inr (.inr (.inl e)))
    · exact .inl (.inr (.inr (.inr (.inl e))))
    · rw [hs1.out] at hu
      rcases List.mem_append.1 hu with hu | hu
      · exact .inl (.inr (.inr (.inr (.inr ⟨u, hu, e⟩))))
      · simp only [List.mem_singleton] at hu
        subst hu
        exact .inr e.symm
  have twO : Tb (own a s) w O := by
    have t1 : Tb (fun k => k = b) w V := (Tb.of_fresh (S := fun k => k = b) bwZ).trans tV (fun _ _ e => e)
    have t2 : Tb (own a s) w V := t1.mono (fun k hk e => by omega)
    have t3 : Tb (own a s) w N := t2.trans tN (fun k _ e => .inl e)
    exact t3.trans tO (fun k _ e => .inr (.inr (.inr (.inl e))))
  have hiO : s1.ts[s.ts.length]? = some ⟨b, .nilFunc, .nilFunc⟩ := by rw [hs1.out]; simp
  have CG : Hid (Calls Try.prog 57 #[.pointer (some ⟨b, 0, none⟩), spv w.heap.size g2] O fun e w' => e = .returned (.tuple #[]) ∧ SpP w a s (.func f xs ys) b w' ∧ w'.cell? ⟨g2, 0, none⟩ = some (.pointer (some ⟨b, 0, none⟩))) := hide (by
    have hl1 : s1.line = s.line := by rw [hs1.out]
    refine (getReady_any rO hiO (by rw [hl1]; exact h.ok.less' hl) (by
      rw [hl1]
      intro hx
      exact hnin (h.ok.sub hx)) hIk.2 _ _ _).mono ?_
    rintro e w' ⟨rfl, a', m', x'⟩
    have eg : s1.gets s.ts.length ⟨b, spv w.heap.size g2, .nilFunc⟩ = s.spawn b (spv w.heap.size g2) := by
      rw [hs1.out]
      simp [Rs.gets, Rs.spawn, List.set_append_right]
    have m2 : Rm w' a' (s.spawn b (spv w.heap.size g2)) (s.lives ++ [(s.ts.length : Int)]) := by rw [← eg]; exact m'
    have hno : ∀ {k : Nat}, own a s1 k → k = b ∨ k < w.heap.size := fun hk => (hown1 _ hk).elim (fun h' => .inr (h.m.own_lt h')) .inl
    have hg2n : ¬ own a s1 g2 := fun hk => by
      have e1 := hg2.out
      have e2 := hb.out
      rcases hno hk with e | e <;> omega
    have hwn : ¬ own a s1 w.heap.size := fun hk => by
      have e2 := hb.out
      rcases hno hk with e | e <;> omega
    have hg' : w'.heap[g2]? = some (.cells #[.pointer (some ⟨b, 0, none⟩)] (44 : TypeId) (0, 0)) := (x'.tb.block _ hlt1 hg2n).trans hOg
    have hgw : O.heap[w.heap.size]? = some (.cells #[.func f xs ys] (55 : TypeId) (0, 0)) := by
      have q1 : Z.heap[w.heap.size]? = some (.cells #[.func f xs ys] (55 : TypeId) (0, 0)) := ((bZ.block _ (by omega)).trans (bY.block _ (by omega))).trans hgX
      have q2 := (tV.block _ (heap_lt q1) (by have := hb.out; omega)).trans q1
      have q3 := (tN.block _ (heap_lt q2) (ne_type q2 rV.obj (by decide))).trans q2
      exact (tO.block _ (heap_lt q3) (fun e => rN.mp.ne q3 e.symm)).trans q3
    refine ⟨rfl, ⟨a', w.heap.size, g2, ⟨⟨?_, h.ok.spawn (Fv.fn _ _ _) rfl hl hmn⟩, ⟨x'.R, x'.Q, x'.U, x'.M, ?_, ⟨[b], by simp [Rs.spawn], by simpa using hbw⟩, ?_⟩⟩, hbw, Nat.le_refl _, by have := hg2.out; omega, (x'.tb.block _ (heap_lt hgw) hwn).trans hgw, hg', fun hk => ?_, fun hk => ?_⟩, cell_of_row w' _ 0 _ _ _ hg'⟩
    · rw [lives_spawn h.ok rfl]
      exact m2
    · have := x'.G
      have := twO.size
      rcases x'.G with e | e
      · exact .inl e
      · exact .inr (by omega)
    · exact twO.trans x'.tb (fun k hk hT => (hown1 k hT).elim id (fun e => by omega))
    · rw [← eg] at hk
      rcases x'.own hk with h1 | h1
      · exact hwn h1
      · have := heap_lt hgw; omega
    · rw [← eg] at hk
      rcases x'.own hk with h1 | h1
      · exact hg2n h1
      · omega)
  obtain ⟨L, hL⟩ : ∃ L, Hid (L = s.ts.length) := ⟨_, hide rfl⟩
  have hLm : IntKind.i64.wrap ((L : Int) + 1) = (L : Int) + 1 := by
    rw [IntKind.wrap_i64]
    have := hL.out
    omega
  obtain ⟨K, hK⟩ : ∃ K, Hid (K = s.lives.length) := ⟨_, hide rfl⟩
  have hKl : ¬ (256 : Int) ≤ (K : Int) := by have := hK.out; omega
  have HF : Hid (∀ w', SpP w a s (.func f xs ys) b w' → SpP w a s (.func f xs ys) b w') := hide (fun _ h => h)
  obtain ⟨P, hP⟩ : ∃ P : World → Prop, Hid (P = SpP w a s (.func f xs ys) b) := ⟨_, hide rfl⟩
  rw [← hP.out] at CG
  suffices hs : Calls Try.prog 23 #[.pointer (some ⟨a.R, 0, none⟩), .func f xs ys] w fun e w' => e = .returned (.tuple #[.pointer (some ⟨b, 0, none⟩), .int .i64 0]) ∧ P w' from hs.mono (fun e w' hh => ⟨b, hh.1, by rw [← hP.out]; exact hh.2⟩)
  obtain ⟨g1, hg1⟩ : ∃ g1, Hid (g1 = w.heap.size) := ⟨_, hide rfl⟩
  rw [← hg1.out] at g0 CG
  rw [← hL.out] at c3 hY hN v3 nb2 hr
  rw [← hK.out] at hlen
  obtain ⟨r, hr'⟩ : ∃ r, Hid (r = a.R) := ⟨_, hide rfl⟩
  obtain ⟨M, hM⟩ : ∃ M, Hid (M = a.M) := ⟨_, hide rfl⟩
  rw [← hr'.out] at C' c2 c3 hY v3 fv3 hN n2 ⊢
  rw [← hM.out] at c2 hlen n2 hr
  have H1 : Hid (w.heap.size = g1) := hide hg1.out.symm
  have H2 : Hid (X.heap.size = b) := hide hb.out.symm
  have H3 : Hid (Y.heap.size = g2) := hide hg2.out.symm
  unfold spv at CG
  clear HF hP hroom hnin hIk twO hown1 hng2 hlt1 hOg hOb rO tO rN hrp hadb had hNg hNb tN rV hVg hVb tV rZ bwZ hZb bZ hZg bY hYb hYs hXs hgX rX bX h hl hmn hbw hiO
  go_enter Try.func23, Try.ntmps23
  go_wp2_with (first | (rw [← hX.out, H1.out]))
  refine C'.mono ?_
  rintro e w1 ⟨rfl, hw1⟩
  subst w1
  go_wp2_with (first | (rw [← hY.out, H2.out]) | (rw [← hZ.out, H3.out]) | (rw [← hV.out]) | (rw [← hN.out]))
  clear C' c2 c3 g0 e1 hlen z0 zb0 fb0 v3 fv3 hX hY hZ hV hN hKl hLm
  go_region
  go_wp2_with fail
  refine CG.out.mono ?_
  rintro e w1 ⟨rfl, h1, h2⟩
  have H4 := hide h1
  clear h1 CG
  go_wp2_with fail
  go_ret2
  exact ⟨rfl, H4.out⟩
end

end Go.Proofs.Ytennciddjkijaaa

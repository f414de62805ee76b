/-
  Texts put into one.
-/
import Derived.Test.YtgjpbekmkhanhaaGreatMx71d07818
import Derived.Deep.RegionHeld3

/-
  A line of waiters: somebody joins; somebody is served.
-/
namespace Go.Proofs.YtgjpbekmkhanhaaGreat.QW
open Go.RowKit
set_option maxRecDepth 100000

section
variable {w : World} {A : Nat → Bool} {L R m : Nat} {ys : List Wv} {D : Nat → Prop}

/-- How many may stand in it is turned. -/
theorem Ln.crowd (h : Ln w A L R m ys D) {d : Int} (d0 : 0 ≤ d) (d1 : d ≤ 3000000) : Ln (w.setCell ⟨L, 1, none⟩ (.int .i64 d)) A L R m ys D ∧ Lx w D (w.setCell ⟨L, 1, none⟩ (.int .i64 d)) D ∧ Kv w A (w.setCell ⟨L, 1, none⟩ (.int .i64 d)) A ∧ Tb (fun k => k = L) w (w.setCell ⟨L, 1, none⟩ (.int .i64 d)) := by
  obtain ⟨G, N, hd, c, xs, l, e, hl, hD⟩ := h
  have t : Tb (fun k => k = L) w (w.setCell ⟨L, 1, none⟩ (.int .i64 d)) := Tb.set L 1 _ rfl
  exact ⟨⟨G, N, hd, d, xs, (l.crowd d0 d1).1, e, hl, hD⟩, ⟨t.mono (fun k _ hk => (hD k).2 (.inl hk)), fun _ h => .inl h⟩, Kv.tb A t (fun k f ht e => l.notk ht (.inl e)), t⟩

/-- What join calls of the queue. -/
structure Jn (w : World) (A : Nat → Bool) (L R m B : Nat) (x : Wv) (ys : List Wv) (D : Nat → Prop) (V : World) : Prop where
  ex : ∃ D', Ln V A L R m ys D' ∧ Lx w D V D' ∧ Bx3 V B x ∧ ¬ D' B ∧ Tkv V A x

theorem Jn.push {V : World} {B : Nat} {x : Wv} (j : Jn w A L R m B x ys D V) (hm : m + 1 < Mx) (ha : al A x = true) :
    (V.cell? ⟨L, 0, none⟩ = some (.pointer (some ⟨R, 0, none⟩)) ∧ V.cell? ⟨B, 0, none⟩ = some (.pointer x.tk) ∧ V.cell? ⟨B, 1, none⟩ = some (.int .i64 x.val) ∧ V.cell? ⟨B, 2, none⟩ = some x.told) ∧
    ∀ X, Below V.heap.size V X → Calls Tryz.prog 142 #[.pointer (some ⟨R, 0, none⟩), .agg #[.pointer x.tk, .int .i64 x.val, x.told]] X fun e w' => e = .returned (.tuple #[]) ∧ (w'.cell? ⟨L, 0, none⟩ = some (.pointer (some ⟨R, 0, none⟩)) ∧ w'.cell? ⟨B, 0, none⟩ = some (.pointer x.tk) ∧ w'.cell? ⟨B, 1, none⟩ = some (.int .i64 x.val) ∧ w'.cell? ⟨B, 2, none⟩ = some x.told) ∧ Hid (∃ D', Ln w' A L R (m + 1) (ys ++ [x]) D' ∧ Lx w D w' D') := by
  obtain ⟨D', h, hx, hB, hBs, htx⟩ := j.ex
  obtain ⟨G, N, hd, c, xs, l, e, hl, hD⟩ := h
  refine ⟨⟨l.l0, hB.cs⟩, fun X hX => ?_⟩
  have lX := l.below hX
  refine (push_any lX.q (by omega) x).mono ?_
  rintro e' w' ⟨rfl, hq⟩
  obtain ⟨G', N', h', q', hg, t⟩ := hq
  have hn : ∀ k f, Tkt X k f → ¬ (k = R ∨ k = G) := fun k f ht e => lX.notk ht (e.elim (fun e => .inr (.inl e)) (fun e => .inr (.inr e)))
  have hkv : Kv X A w' A := Kv.tb A t hn
  have hs := hX.size
  have hBX : Bx3 w' B x := (hB.below hX).tb t (fun e => hBs ((hD B).2 (e.elim (fun e => .inr (.inl e)) (fun e => .inr (.inr e)))))
  refine ⟨rfl, ⟨cell_of_row w' L 0 _ _ _ ((t.block _ (heap_lt lX.obj) (fun e => e.elim lX.nR lX.nG)).trans lX.obj), hBX.cs⟩, hide ⟨Ld L R G', ⟨G', N', h', c, xs ++ [x], ⟨(t.block _ (heap_lt lX.obj) (fun e => e.elim lX.nR lX.nG)).trans lX.obj, q', lX.c0, lX.c1, fun y hy => ?_⟩, ?_, ?_, fun _ => Iff.rfl⟩, ?_⟩⟩
  · rcases List.mem_append.1 hy with hy | hy
    · exact (hkv y (lX.tk y hy)).1
    · simp only [List.mem_singleton] at hy
      subst hy
      exact (hkv y (htx.below hX)).1
  · rw [List.filter_append, e]
    simp [ha]
  · simp
    omega
  · refine (hx.trans (Lx.fresh D' hX)).trans ⟨t.mono (fun k _ hk => (hD k).2 (hk.elim (fun e => .inr (.inl e)) (fun e => .inr (.inr e)))), fun k hk => ?_⟩
    rcases hk with rfl | rfl | rfl
    · exact .inl ((hD _).2 (.inl rfl))
    · exact .inl ((hD _).2 (.inr (.inl rfl)))
    · rcases hg with rfl | hg
      · exact .inl ((hD _).2 (.inr (.inr rfl)))
      · exact .inr hg

set_option maxHeartbeats 2000000 in
theorem join_any (h : Ln w A L R m ys D) (hm : m + 1 < Mx) (x : Wv) (hx : Tkv w A x) (ha : al A x = true) :
    Calls Tryz.prog 87 #[.pointer (some ⟨L, 0, none⟩), .agg #[.pointer x.tk, .int .i64 x.val, x.told]] w fun e w' => e = .returned (.tuple #[]) ∧ ∃ D', Ln w' A L R (m + 1) (ys ++ [x]) D' ∧ Lx w D w' D' := by
  obtain ⟨X, hX⟩ : ∃ X, Hid (X = w.alloc (.cells #[.pointer x.tk, .int .i64 x.val, x.told] (141 : TypeId))) := ⟨_, hide rfl⟩
  obtain ⟨B, hB⟩ : ∃ B, Hid (w.heap.size = B) := ⟨_, hide rfl⟩
  have bX : Below w.heap.size w X := by rw [hX.out]; exact (Below.refl _ w).alloc (Nat.le_refl _) _
  have hXB : Bx3 X B x := by unfold Bx3; rw [hX.out, ← hB.out]; exact heap_alloc_new w _
  have J0 : Jn w A L R m B x ys D X := ⟨D, h.below bX, Lx.fresh D bX, hXB, fun e => by have := h.lt e; rw [hB.out] at this; omega, hx.below bX⟩
  have hyl : ys.length ≤ 1000000 := by have := h.len; unfold Mx at hm; omega
  have HP : Hid (∀ V, Jn w A L R m B x ys D V → (V.cell? ⟨L, 0, none⟩ = some (.pointer (some ⟨R, 0, none⟩)) ∧ V.cell? ⟨B, 0, none⟩ = some (.pointer x.tk) ∧ V.cell? ⟨B, 1, none⟩ = some (.int .i64 x.val) ∧ V.cell? ⟨B, 2, none⟩ = some x.told) ∧
    ∀ X, Below V.heap.size V X → Calls Tryz.prog 142 #[.pointer (some ⟨R, 0, none⟩), .agg #[.pointer x.tk, .int .i64 x.val, x.told]] X fun e w' => e = .returned (.tuple #[]) ∧ (w'.cell? ⟨L, 0, none⟩ = some (.pointer (some ⟨R, 0, none⟩)) ∧ w'.cell? ⟨B, 0, none⟩ = some (.pointer x.tk) ∧ w'.cell? ⟨B, 1, none⟩ = some (.int .i64 x.val) ∧ w'.cell? ⟨B, 2, none⟩ = some x.told) ∧ Hid (∃ D', Ln w' A L R (m + 1) (ys ++ [x]) D' ∧ Lx w D w' D')) := hide (fun V j => j.push hm ha)
  obtain ⟨G, N, hd, c, xs, l, _⟩ := h.below bX
  have c0 := l.l0
  have c1 := l.l1
  have hlc := l.c0
  have hlc1 := l.c1
  have hfew := l.q.few
  unfold Mx at hfew
  obtain ⟨n, hn⟩ : ∃ n, Hid (n = xs.length) := ⟨_, hide rfl⟩
  have HC : Hid (∀ V, Below X.heap.size X V → Calls Tryz.prog 141 #[.pointer (some ⟨R, 0, none⟩)] V fun e W => e = .returned (.int .i64 n) ∧ Below X.heap.size X W ∧ W.cell? ⟨L, 0, none⟩ = some (.pointer (some ⟨R, 0, none⟩)) ∧ W.cell? ⟨L, 1, none⟩ = some (.int .i64 c)) := hide (fun V hV => (len_yes (l.below hV).q).mono (by
    rintro e W ⟨rfl, rfl⟩
    exact ⟨by rw [hn.out], hV, (l.below hV).l0, (l.below hV).l1⟩))
  rw [← hn.out] at hfew
  have HJ : Hid (∀ V, Below X.heap.size X V → Jn w A L R m B x ys D V) := hide (fun V hV => by
    obtain ⟨D', h1, h2, h3, h4, h5⟩ := J0.ex
    exact ⟨D', h1.below hV, h2.trans (Lx.fresh D' hV), h3.below hV, h4, h5.below hV⟩)
  obtain ⟨k, hk⟩ : ∃ k, Hid (k = ys.length) := ⟨_, hide rfl⟩
  rw [← hk.out] at hyl
  have HW : Hid (∀ V, Jn w A L R m B x ys D V → Calls Tryz.prog 89 #[.pointer (some ⟨L, 0, none⟩)] V fun e W => e = .returned (.int .i64 k) ∧ W.frozen? ⟨L, 1, none⟩ = false ∧ (∃ v, W.cell? ⟨L, 1, none⟩ = some (.int .i64 v)) ∧ Hid (Jn w A L R m B x ys D (W.setCell ⟨L, 1, none⟩ (.int .i64 (2 * (k : Int) + 1))))) := hide (fun V j => by
    obtain ⟨D', h1, h2, h3, h4, h5⟩ := j.ex
    refine (waiting_any h1).mono ?_
    rintro e W ⟨rfl, D2, k1, k2⟩
    have hB2 : Bx3 W B x := h3.tb k2.tb h4
    have hn2 : ¬ D2 B := fun e => by
      rcases k2.dom B e with h | h
      · exact h4 h
      · have := h3.lt; omega
    have hkv : Kv V A W A := Kv.tb A k2.tb (fun j f ht => h1.notk ht)
    obtain ⟨g1, g2, g3, g4⟩ := k1.crowd (d := 2 * (k : Int) + 1) (by omega) (by omega)
    have hLB : ¬ B = L := fun e => by
      obtain ⟨G, N, hh, c, zs, ll, _⟩ := k1
      exact ty_ne hB2 ll.obj (by decide) e
    obtain ⟨G, N, hh, c', zs, ll, _⟩ := k1
    exact ⟨by rw [hk.out], ll.free 1, ⟨_, ll.l1⟩, hide ⟨D2, g1, (h2.trans k2).trans g2, hB2.tb g4 hLB, hn2, (g3 x (hkv x h5).1).1⟩⟩)
  have hw1 : IntKind.i64.wrap (2 * (k : Int)) = 2 * (k : Int) := by rw [IntKind.wrap_i64]; omega
  have hw2 : IntKind.i64.wrap (2 * (k : Int) + 1) = 2 * (k : Int) + 1 := by rw [IntKind.wrap_i64]; omega
  clear h hx J0 l bX hXB hm ha
  by_cases hge : c ≤ (n : Int)
  · go_enter Tryz.func87, Tryz.ntmps87
    go_wp2_with (rw [← hX.out, hB.out])
    go_region_held3 (fun V => V.cell? ⟨L, 0, none⟩ = some (.pointer (some ⟨R, 0, none⟩)) ∧ V.cell? ⟨L, 1, none⟩ = some (.int .i64 c))
      (first | exact ⟨c0, c1⟩ | exact e1)
      (first | (go_at_call 141; refine (HC.out _ ?_).mono ?_; (first | exact (Below.refl _ _).drew | assumption); rintro e W ⟨rfl, hV, e1⟩))
    have HJW := hide (HJ.out W hV)
    clear HC HJ c0 c1 e1 hV
    go_wp2_with fail
    refine (HW.out W HJW.out).mono ?_
    rintro e W2 ⟨rfl, f1, ⟨v, d1⟩, HJ2⟩
    clear HW HJW
    go_wp2_with fail
    obtain ⟨⟨q0, q1, q2, q3⟩, HPU⟩ := HP.out _ HJ2.out
    clear HJ2 f1 d1
    generalize W2.setCell ⟨L, 1, none⟩ (.int .i64 (2 * (k : Int) + 1)) = V2 at *
    have HPU := hide HPU
    clear HP
    go_region_held3 (fun V => V.cell? ⟨L, 0, none⟩ = some (.pointer (some ⟨R, 0, none⟩)) ∧ V.cell? ⟨B, 0, none⟩ = some (.pointer x.tk) ∧ V.cell? ⟨B, 1, none⟩ = some (.int .i64 x.val) ∧ V.cell? ⟨B, 2, none⟩ = some x.told)
      (first | exact ⟨q0, q1, q2, q3⟩ | exact e1)
      (first | (go_at_call 142; refine (HPU.out _ ?_).mono ?_; (first | exact (Below.refl _ _).drew | assumption); rintro e W5 ⟨rfl, e1, FIN⟩))
    all_goals
      go_wp2_with fail
      go_end0
      exact ⟨rfl, FIN.out⟩
  · go_enter Tryz.func87, Tryz.ntmps87
    go_wp2_with (rw [← hX.out, hB.out])
    go_region_held3 (fun V => V.cell? ⟨L, 0, none⟩ = some (.pointer (some ⟨R, 0, none⟩)) ∧ V.cell? ⟨L, 1, none⟩ = some (.int .i64 c))
      (first | exact ⟨c0, c1⟩ | exact e1)
      (first | (go_at_call 141; refine (HC.out _ ?_).mono ?_; (first | exact (Below.refl _ _).drew | assumption); rintro e W ⟨rfl, hV, e1⟩))
    have HJW := hide (HJ.out W hV)
    clear HC HJ HW c0 c1 e1 hV
    go_wp2_with fail
    obtain ⟨⟨q0, q1, q2, q3⟩, HPU⟩ := HP.out _ HJW.out
    clear HJW
    have HPU := hide HPU
    clear HP
    go_region_held3 (fun V => V.cell? ⟨L, 0, none⟩ = some (.pointer (some ⟨R, 0, none⟩)) ∧ V.cell? ⟨B, 0, none⟩ = some (.pointer x.tk) ∧ V.cell? ⟨B, 1, none⟩ = some (.int .i64 x.val) ∧ V.cell? ⟨B, 2, none⟩ = some x.told)
      (first | exact ⟨q0, q1, q2, q3⟩ | exact e1)
      (first | (go_at_call 142; refine (HPU.out _ ?_).mono ?_; (first | exact (Below.refl _ _).drew | assumption); rintro e W5 ⟨rfl, e1, FIN⟩))
    all_goals
      go_wp2_with fail
      go_end0
      exact ⟨rfl, FIN.out⟩
end

end Go.Proofs.YtgjpbekmkhanhaaGreat.QW

/-
  A waiter is served.
-/
namespace Go.Proofs.YtgjpbekmkhanhaaGreat.QW
open Go.RowKit
set_option maxRecDepth 100000

section
variable {w : World} {x : Wv} {k : Nat} {v : Int} {ok : Bool}

theorem serve_fired (hx : x.tk = some ⟨k, 0, none⟩) (h : Tkt w k .nilFunc) :
    Calls Tryz.prog 82 #[.agg #[.pointer x.tk, .int .i64 x.val, x.told], .int .i64 v, .bool ok] w fun e w' => e = .returned (.tuple #[]) ∧ Below w.heap.size w w' := by
  obtain ⟨A, B, hA, hB, bA, a0, a1, a2⟩ := box_laid w x
  have C := fired_yes (h.below bA.out)
  rw [hx] at a0 hA ⊢
  clear h
  go_enter Tryz.func82, Tryz.ntmps82
  go_wp2_with (rw [← hA.out, hB.out])
  refine C.mono ?_
  rintro e w1 ⟨rfl, hw1⟩
  subst w1
  go_wp2_with fail
  refine bodyPost_ret (results_none rfl _ _ _) rfl ?_
  exact ⟨rfl, bA.out⟩

/-- A waiter's two functions are called, one behind the other, its ticket fired. -/
theorem serve_live {fn g : Nat} {caps gc : Array Value} {Ψ : World → Prop} (hx : x.tk = some ⟨k, 0, none⟩) (h : Tkt w k (.func (.func fn) #[] caps)) (ht : x.told = .func (.func g) #[] gc)
    (e1 : ∀ (args : Array Value) (w : World), (callFunc fn args).run Tryz.prog w = .ok (.enter fn args) w) (e2 : ∀ (args : Array Value) (w : World), (callFunc g args).run Tryz.prog w = .ok (.enter g args) w)
    (H : ∀ V, Tb (fun i => i = k) w V → Tkt V k .nilFunc → Calls Tryz.prog g (#[.int .i64 v, .bool ok] ++ gc) V fun e w2 => e = .returned (.tuple #[]) ∧ Calls Tryz.prog fn caps w2 fun e w3 => e = .returned (.tuple #[]) ∧ Ψ w3) :
    Calls Tryz.prog 82 #[.agg #[.pointer x.tk, .int .i64 x.val, x.told], .int .i64 v, .bool ok] w fun e w' => e = .returned (.tuple #[]) ∧ Ψ w' := by
  obtain ⟨A, B, hA, hB, bA, a0, a1, a2⟩ := box_laid w x
  have hk := h.below bA.out
  have C := fired_no hk
  have d1 := hk.c1
  have f1 := hk.free 1
  have tk := Tkt.fire_tb (S := fun i => i = k) (w := A) .nilFunc rfl
  have HV := hide (H (A.setCell ⟨k, 1, none⟩ .nilFunc) ((Tb.of_fresh bA.out).trans tk (fun _ _ h => h)) (hk.fire _))
  have hBk : B ≠ k := by have := h.lt; have := hB.out; omega
  have b0 : (A.setCell ⟨k, 1, none⟩ .nilFunc).cell? ⟨B, 0, none⟩ = some (.pointer x.tk) := tk.cell a0 hBk
  have b2 : (A.setCell ⟨k, 1, none⟩ .nilFunc).cell? ⟨B, 2, none⟩ = some x.told := tk.cell a2 hBk
  rw [hx] at a0 hA b0 ⊢
  rw [ht] at a2 hA b2 ⊢
  clear h hk H tk hBk
  go_enter Tryz.func82, Tryz.ntmps82
  go_wp2_with (rw [← hA.out, hB.out])
  refine C.mono ?_
  rintro e w1 ⟨rfl, hw1⟩
  subst w1
  go_wp2_with fail
  refine HV.out.mono ?_
  rintro e w2 ⟨rfl, C2⟩
  clear HV C a0 a1 a2 b0 b2 d1 f1 hA hB
  go_wp2_with fail
  refine C2.mono ?_
  rintro e w3 ⟨rfl, hΨ⟩
  go_wp2_with fail
  go_end0
  exact ⟨rfl, hΨ⟩
end

end Go.Proofs.YtgjpbekmkhanhaaGreat.QW

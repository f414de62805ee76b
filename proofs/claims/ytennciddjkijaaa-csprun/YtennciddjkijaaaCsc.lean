/-
  The law's world: an event is noted; the closures that tasks leave.
-/
import Derived.Test.YtennciddjkijaaaCsb
import Derived.Test.YtennciddjkijaaaCri
namespace Go.Proofs.Ytennciddjkijaaa
open Go.RowKit QI
set_option maxRecDepth 100000
set_option linter.unusedSimpArgs false

theorem infoV : (Try.prog.info? (64 : TypeId)).map (fun i => (i.zero, i.size, i.bytes)) = some (some (.agg #[.int .i64 0, .int .i64 0, .int .i64 0]), 3, 24) := by kernel_rfl

theorem cell_three_new (w : World) (x y z : Value) (t : TypeId) : ∀ j u, [x, y, z][j]? = some u → (w.alloc (.cells #[x, y, z] t)).cell? ((⟨w.heap.size, 0, none⟩ : Addr).add j) = some u := by
  intro j u hj
  have hg := heap_alloc_new w (.cells #[x, y, z] t)
  rw [Addr.add_lit, cell_of_row _ _ _ _ _ _ hg]
  simpa using hj

section
variable {w : World} {L B : Nat} {pv : Value} {σ : Sg} {F D : Nat → Prop} {R : Nat} {bs : List Nat} {run : Option Nat} {left : Nat}

set_option maxHeartbeats 1000000 in
theorem note_any (h : Wd w L B pv R bs σ run left F D) (hL : L ≤ w.heap.size) (hl : σ.ev.length ≤ 1000000) (i what n : Int) :
    Calls Try.prog 64 #[.pointer (some ⟨B, 0, none⟩), .int .i64 i, .int .i64 what, .int .i64 n] w fun e w' => e = .returned (.tuple #[]) ∧ ∃ D', Wd w' L B pv R bs (σ.note i what n) run left F D' ∧ Wx w F D bs w' F D' bs := by
  obtain ⟨a, s, tv, ev, m, q1, q2, q3, q4, hd⟩ := h.ex
  obtain ⟨ea, ecap, rfl⟩ := row_val m.er
  obtain ⟨t3, ht3⟩ := Option.map_eq_some_iff.1 infoV
  simp only [Prod.mk.injEq] at ht3
  have c3 : w.cell? ⟨B, 3, none⟩ = some (.slice ea σ.ev.length ecap) := cell_of_row w B 3 _ _ _ m.blk
  obtain ⟨Y, hY⟩ : ∃ Y, Hid (Y = w.alloc (.cells #[.int .i64 i, .int .i64 what, .int .i64 n] (64 : TypeId))) := ⟨_, hide rfl⟩
  have bY : Below w.heap.size w Y := by rw [hY.out]; exact (Below.refl _ w).alloc (Nat.le_refl _) _
  have mY := m.tb (S := fun _ => False) (Tb.of_fresh bY) (fun _ _ h => h)
  obtain ⟨v', X, r1, r2, r3, _, r4⟩ := run_append_own_at (P := Try.prog) Y L (29 : TypeId) (29 : TypeId) (64 : TypeId) t3 (.agg #[.int .i64 0, .int .i64 0, .int .i64 0]) 3 24 Try.underlying29 ht3.1 ht3.2.1 ht3.2.2.1 ht3.2.2.2 (by simp [Value.cells]) (by omega) (.slice ea σ.ev.length ecap) σ.ev.length _ mY.er ⟨w.heap.size, 0, none⟩ 1 1 [.int .i64 i, .int .i64 what, .int .i64 n] rfl (by rw [hY.out]; exact cell_three_new w _ _ _ _) (by simp [Value.oneCell']) (by unfold maxLen; omega) (by omega) (by have := bY.size; omega)
  obtain ⟨ea', ecap', rfl⟩ := row_val r2
  have tX : Tb (fun k => (Value.slice ea σ.ev.length ecap).ownBlock = some k) Y X := Tb.of_grown r3 (fun k e => e)
  have hBX : X.heap[B]? = some (.cells #[.pointer (some ⟨a.R, 0, none⟩), pv, tv, .slice ea σ.ev.length ecap] (31 : TypeId) (0, 0)) := (tX.block _ (heap_lt mY.blk) (fun e => (mY.evn e).2.2 rfl)).trans mY.blk
  have x3 : X.cell? ⟨B, 3, none⟩ = some (.slice ea σ.ev.length ecap) := cell_of_row X B 3 _ _ _ hBX
  have f3 := frozen_of_row X B 3 _ _ hBX
  obtain ⟨Z, hZ⟩ : ∃ Z, Hid (Z = X.setCell ⟨B, 3, none⟩ (.slice ea' (σ.ev.length + 1) ecap')) := ⟨_, hide rfl⟩
  have tZ : Tb (fun k => k = B) X Z := by rw [hZ.out]; exact Tb.set B 3 _ rfl
  have hBZ : Z.heap[B]? = some (.cells #[.pointer (some ⟨a.R, 0, none⟩), pv, tv, .slice ea' (σ.ev.length + 1) ecap'] (31 : TypeId) (0, 0)) := by
    rw [hZ.out, heap_setCell_same X B 3 _ _ _ hBX]
    rfl
  have hzz := bY.size
  have HF : Hid (∃ D', Wd Z L B pv R bs (σ.note i what n) run left F D' ∧ Wx w F D bs Z F D' bs) := hide (by
    have tw : Tb (dom B a s F tv (.slice ea σ.ev.length ecap)) w Z := ((Tb.of_fresh (S := dom B a s F tv (.slice ea σ.ev.length ecap)) bY).trans tX (fun k _ e => .inr (.inr (.inr (.inr (.inl e)))))).trans tZ (fun k _ e => .inr (.inr (.inl e)))
    have hkey : ∀ k, own a s k ∨ k = a.Q ∨ tv.ownBlock = some k ∨ F k → Z.heap[k]? = w.heap[k]? := fun k hk => by
      have hkl : k < w.heap.size := (m.dom_lt (k := k) (by unfold dom; rcases hk with h1 | h1 | h1 | h1 <;> simp [h1])).2
      have n1 : ¬ (Value.slice ea σ.ev.length ecap).ownBlock = some k := by
        rcases hk with h1 | h1 | h1 | h1
        · exact fun e => (m.evn e).1 h1
        · exact fun e => (m.evn e).2.1 h1
        · exact fun e => (m.tvn h1).2.2.2 e
        · exact (m.fz k h1).2.2.2.2.2
      have n2 : k ≠ B := by
        rcases hk with h1 | h1 | h1 | h1
        · exact fun e => m.Bn.1 (e ▸ h1)
        · exact fun e => m.Bn.2 (e ▸ h1)
        · exact (m.tvn h1).2.2.1
        · exact (m.fz k h1).2.2.2.1
      rw [tZ.block k (by have := tX.size; omega) n2, tX.block k (by omega) n1, bY.block k hkl]
    have hag : Agr F w Z := fun k hk => hkey k (.inr (.inr (.inr hk)))
    have ho' : Z.ownsRow L (64 : TypeId) 3 (.slice ea' (σ.ev.length + 1) ecap') (σ.note i what n).ev.length ((σ.note i what n).ev.flatMap evc) := by
      have e1 : (σ.note i what n).ev.length = σ.ev.length + 1 := by simp [Sg.note]
      have e2 : (σ.note i what n).ev.flatMap evc = σ.ev.flatMap evc ++ [.int .i64 i, .int .i64 what, .int .i64 n] := by simp [Sg.note, evc]
      rw [e1, e2]
      refine row_tb r2 tZ (fun g hg e => ?_)
      subst e
      obtain ⟨c2, h2⟩ := row_type r2 hg
      exact ne_type h2 hBX (by decide) rfl
    have hown' : ∀ k, (Value.slice ea' (σ.ev.length + 1) ecap').ownBlock = some k → (Value.slice ea σ.ev.length ecap).ownBlock = some k ∨ w.heap.size ≤ k := fun k hk => by
      rcases r4 with e | e
      · rw [e] at hk; exact .inl hk
      · rw [e] at hk; cases hk; exact .inr (by omega)
    refine ⟨dom B a s F tv (.slice ea' (σ.ev.length + 1) ecap'), ⟨a, s, tv, _, ⟨hBZ, ?_, ?_, ho', m.lo, fun k hk => ?_, m.ln, m.len, fun j u p hj hp => (m.cl j u p hj hp).keep hag (fun _ h => h)⟩, q1, q2, q3, q4, fun k => Iff.rfl⟩, ⟨?_, fun k hk => ?_, fun _ h => h, hag, ⟨[], by simp⟩, fun k hk => (m.fz k hk).2.1⟩⟩
    · exact m.rt.tb (S := fun k => ¬ (own a s k ∨ k = a.Q ∨ tv.ownBlock = some k ∨ F k)) ⟨tw.os, tw.tape, tw.output, tw.size, fun k _ hn => hkey k (Classical.byContradiction hn)⟩ (fun k hk hn => hn (hk.elim .inl (fun e => .inr (.inl e))))
    · exact row_heap m.tr (fun g hg => hkey g (.inr (.inr (.inl hg))))
    · obtain ⟨z1, z2, z3, z4, z5, z6⟩ := m.fz k hk
      refine ⟨z1, Nat.lt_of_lt_of_le z2 tw.size, z3, z4, z5, fun e => ?_⟩
      rcases hown' k e with e | e
      · exact z6 e
      · omega
    · exact tw.mono (fun k _ hk => (hd k).2 hk)
    · rcases hk with hk | hk | hk | hk | hk | hk
      · exact .inl ((hd k).2 (.inl hk))
      · exact .inl ((hd k).2 (.inr (.inl hk)))
      · exact .inl ((hd k).2 (.inr (.inr (.inl hk))))
      · exact .inl ((hd k).2 (.inr (.inr (.inr (.inl hk)))))
      · rcases hown' k hk with e | e
        · exact .inl ((hd k).2 (.inr (.inr (.inr (.inr (.inl e))))))
        · exact .inr e
      · exact .inl ((hd k).2 (.inr (.inr (.inr (.inr (.inr hk)))))))
  obtain ⟨N, hN⟩ : ∃ N, Hid (N = σ.ev.length) := ⟨_, hide rfl⟩
  rw [← hN.out] at c3 r1 x3 hZ
  obtain ⟨G, hG⟩ : ∃ G, Hid (G = w.heap.size) := ⟨_, hide rfl⟩
  rw [← hG.out] at r1
  have HG : Hid (w.heap.size = G) := hide hG.out.symm
  clear h hL hl m mY bY r2 r3 r4 tX hBX tZ hBZ q1 q2 q3 q4 hd ht3 hzz
  go_enter Try.func64, Try.ntmps64
  go_wp2_with (first | (rw [← hY.out, HG.out]) | (at_builtin; refine wpList_append_run rfl (29 : TypeId) _ _ rfl (.slice ea N ecap) (.slice (some ⟨G, 0, none⟩) 1 1) (.slice ea' (N + 1) ecap') (by simp [Act.eval]) (by simp [Act.eval]) r1 ?_))
  rw [← hZ.out]
  go_end0
  exact ⟨rfl, HF.out⟩

theorem agr_cell {F : Nat → Prop} {w V : World} (h : Agr F w V) {k : Nat} (hk : F k) {x : Value} {t : TypeId} (hc : w.heap[k]? = some (.cells #[x] t (0, 0))) : V.cell? ⟨k, 0, none⟩ = some x :=
  cell_of_row V k 0 _ _ _ ((h k hk).trans hc)

/-- The variables that a turn's closures have: the world, the task, the program and the place. -/
structure Bx (F : Nat → Prop) (w : World) (h1 h2 h3 h4 B b prog at' : Nat) : Prop where
  f1 : F h1
  f2 : F h2
  f3 : F h3
  f4 : F h4
  e1 : w.heap[h1]? = some (.cells #[.pointer (some ⟨B, 0, none⟩)] (25 : TypeId) (0, 0))
  e2 : w.heap[h2]? = some (.cells #[.pointer (some ⟨b, 0, none⟩)] (44 : TypeId) (0, 0))
  e3 : w.heap[h3]? = some (.cells #[.int .i64 prog] 3 (0, 0))
  e4 : w.heap[h4]? = some (.cells #[.int .i64 at'] 3 (0, 0))

theorem ent65 : Ent 65 := fun _ _ => by go_simp
theorem ent66 : Ent 66 := fun _ _ => by go_simp
theorem ent42 : Ent 42 := fun _ _ => by go_simp
theorem ent58 : Ent 58 := fun _ _ => by go_simp
theorem ent60 : Ent 60 := fun _ _ => by go_simp

def nxv (h1 h2 h3 h4 : Nat) : Value := .func (.func 65) #[] #[.pointer (some ⟨h1, 0, none⟩), .pointer (some ⟨h2, 0, none⟩), .pointer (some ⟨h3, 0, none⟩), .pointer (some ⟨h4, 0, none⟩)]
def wkv (h1 h2 h3 h4 : Nat) : Value := .func (.func 66) #[] #[.pointer (some ⟨h1, 0, none⟩), .pointer (some ⟨h2, 0, none⟩), .pointer (some ⟨h3, 0, none⟩), .pointer (some ⟨h4, 0, none⟩)]

theorem nx65 {h1 h2 h3 h4 b prog at' : Nat} (x : Bx F w h1 h2 h3 h4 B b prog at') (ha : at' ≤ 1000000) : Nx F w (nxv h1 h2 h3 h4) B b prog (at' + 1) 0 := by
  refine ⟨_, _, rfl, ent65, fun V Ψ hV hC => ?_⟩
  have c1 := agr_cell hV x.f1 x.e1
  have c2 := agr_cell hV x.f2 x.e2
  have c3 := agr_cell hV x.f3 x.e3
  have c4 := agr_cell hV x.f4 x.e4
  have hw : IntKind.i64.wrap ((at' : Int) + 1) = ((at' + 1 : Nat) : Int) := by rw [IntKind.wrap_i64]; omega
  unfold targs at hC
  have HC := hide hC
  clear hC x hV ha
  go_enter Try.func65, Try.ntmps65
  go_wp2_with fail
  refine HC.out.mono ?_
  rintro e w1 ⟨rfl, hΨ⟩
  go_wp2_with fail
  go_end0
  exact ⟨rfl, hΨ⟩

theorem wk66 {h1 h2 h3 h4 b prog at' : Nat} (x : Bx F w h1 h2 h3 h4 B b prog at') (ha : at' ≤ 1000000) : Wk F w (wkv h1 h2 h3 h4) B b prog (at' + 1) := by
  refine ⟨_, _, _, _, _, rfl, ent66, fun V why Ψ hV hC => ?_⟩
  have c1 := agr_cell hV x.f1 x.e1
  have c2 := agr_cell hV x.f2 x.e2
  have c3 := agr_cell hV x.f3 x.e3
  have c4 := agr_cell hV x.f4 x.e4
  have hw : IntKind.i64.wrap ((at' : Int) + 1) = ((at' + 1 : Nat) : Int) := by rw [IntKind.wrap_i64]; omega
  unfold targs at hC
  have HC := hide hC
  clear hC x hV ha
  go_enter Try.func66, Try.ntmps66
  go_wp2_with fail
  refine HC.out.mono ?_
  rintro e w1 ⟨rfl, hΨ⟩
  go_wp2_with fail
  go_end0
  exact ⟨rfl, hΨ⟩

/-- A task that was woken. -/
theorem nx60 {g1 g2 b prog at' : Nat} {why : Int} {v : Value} (hv : Wk F w v B b prog at') (f1 : F g1) (f2 : F g2) (e1 : w.heap[g1]? = some (.cells #[v] (50 : TypeId) (0, 0))) (e2 : w.heap[g2]? = some (.cells #[.int .i64 why] 3 (0, 0))) :
    Nx F w (.func (.func 60) #[] #[.pointer (some ⟨g1, 0, none⟩), .pointer (some ⟨g2, 0, none⟩)]) B b prog at' why := by
  obtain ⟨fn, c1, c2, c3, c4, rfl, hen, hf⟩ := hv
  refine ⟨_, _, rfl, ent60, fun V Ψ hV hC => ?_⟩
  have d1 := agr_cell hV f1 e1
  have d2 := agr_cell hV f2 e2
  have HC := hide (hf V why Ψ hV hC)
  clear hC hf hV f1 f2 e1 e2
  unfold Ent at hen
  go_enter Try.func60, Try.ntmps60
  go_wp2_with fail
  refine HC.out.mono ?_
  rintro e w1 ⟨rfl, hΨ⟩
  go_wp2_with fail
  go_end0
  exact ⟨rfl, hΨ⟩

/-- A new task. -/
theorem nx58 {g1 g2 h1 h2 b prog : Nat} (f1 : F g1) (f2 : F g2) (k1 : F h1) (k2 : F h2) (e1 : w.heap[g1]? = some (.cells #[.func (.func 42) #[] #[.pointer (some ⟨h1, 0, none⟩), .pointer (some ⟨h2, 0, none⟩)]] (55 : TypeId) (0, 0))) (e2 : w.heap[g2]? = some (.cells #[.pointer (some ⟨b, 0, none⟩)] (44 : TypeId) (0, 0)))
    (e3 : w.heap[h1]? = some (.cells #[.pointer (some ⟨B, 0, none⟩)] (25 : TypeId) (0, 0))) (e4 : w.heap[h2]? = some (.cells #[.int .i64 prog] 3 (0, 0))) : Nx F w (spv g1 g2) B b prog 0 0 := by
  refine ⟨_, _, rfl, ent58, fun V Ψ hV hC => ?_⟩
  have d1 := agr_cell hV f1 e1
  have d2 := agr_cell hV f2 e2
  have d3 := agr_cell hV k1 e3
  have d4 := agr_cell hV k2 e4
  unfold targs at hC
  have HC := hide hC
  have C42 : Calls Try.prog 42 #[.pointer (some ⟨b, 0, none⟩), .pointer (some ⟨h1, 0, none⟩), .pointer (some ⟨h2, 0, none⟩)] V fun e w' => e = .returned (.tuple #[]) ∧ Ψ w' := by
    clear d1 d2 e1 e2 e3 e4 f1 f2 k1 k2 hV hC
    go_enter Try.func42, Try.ntmps42
    go_wp2_with fail
    refine HC.out.mono ?_
    rintro e w1 ⟨rfl, hΨ⟩
    go_wp2_with fail
    go_end0
    exact ⟨rfl, hΨ⟩
  have HC42 := hide C42
  clear hC hV f1 f2 e1 e2 e3 e4 k1 k2 d3 d4 HC C42
  go_enter Try.func58, Try.ntmps58
  go_wp2_with fail
  refine HC42.out.mono ?_
  rintro e w1 ⟨rfl, hΨ⟩
  go_wp2_with fail
  go_end0
  exact ⟨rfl, hΨ⟩
end

end Go.Proofs.Ytennciddjkijaaa

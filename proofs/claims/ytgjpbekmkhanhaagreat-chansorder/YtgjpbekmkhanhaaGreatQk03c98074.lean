/-
  The law's turn: the functions that it leaves, by what they do; need.
-/
import Derived.Test.YtgjpbekmkhanhaaGreatMx57c4ec58
import Derived.Test.YtgjpbekmkhanhaaGreatMx81e0311a
namespace Go.Proofs.YtgjpbekmkhanhaaGreat.CH
open Go.RowKit QW
set_option maxRecDepth 100000

/-- The variables that a turn's functions have, and the one that goes on. -/
structure Bx (F : Nat → Prop) (w : World) (h1 h2 h3 h4 nb B b i at' : Nat) : Prop where
  f1 : F h1
  f2 : F h2
  f3 : F h3
  f4 : F h4
  fn : F nb
  e1 : w.heap[h1]? = some (.cells #[.pointer (some ⟨B, 0, none⟩)] (27 : TypeId) (0, 0))
  e2 : w.heap[h2]? = some (.cells #[.pointer (some ⟨b, 0, none⟩)] (60 : TypeId) (0, 0))
  e3 : w.heap[h3]? = some (.cells #[.int .i64 i] 3 (0, 0))
  e4 : w.heap[h4]? = some (.cells #[.int .i64 at'] 3 (0, 0))
  en : w.heap[nb]? = some (.cells #[.func (.func 96) #[] #[.pointer (some ⟨h1, 0, none⟩), .pointer (some ⟨h2, 0, none⟩), .pointer (some ⟨h3, 0, none⟩), .pointer (some ⟨h4, 0, none⟩)]] (146 : TypeId) (0, 0))

theorem ent1 : Ent 96 := fun _ _ => by go_simp
theorem ent2 : Ent 98 := fun _ _ => by go_simp
theorem ent3 : Ent 99 := fun _ _ => by go_simp
theorem ent4 : Ent 100 := fun _ _ => by go_simp
theorem ent5 : Ent 101 := fun _ _ => by go_simp
theorem ent6 : Ent 102 := fun _ _ => by go_simp
theorem ent7 : Ent 103 := fun _ _ => by go_simp

section
variable {F : Nat → Prop} {w : World} {h1 h2 h3 h4 nb B b i at' : Nat}

/-- What it goes on with. -/
theorem next_any (x : Bx F w h1 h2 h3 h4 nb B b i at') (ha : at' ≤ 1000000) {V : World} (hV : Agr F w V) (td : Tld) {Ψ : World → Prop} (hQ : QT B b i (at' + 1) td V Ψ) :
    Calls Tryz.prog 96 #[tv td, .pointer (some ⟨h1, 0, none⟩), .pointer (some ⟨h2, 0, none⟩), .pointer (some ⟨h3, 0, none⟩), .pointer (some ⟨h4, 0, none⟩)] V fun e w' => e = .returned (.tuple #[]) ∧ Ψ w' := by
  obtain ⟨c, v, ok⟩ := td
  obtain ⟨X, hX⟩ : ∃ X, Hid (X = V.alloc (.cells #[.int .i64 c, .int .i64 v, .bool ok] (116 : TypeId))) := ⟨_, hide rfl⟩
  obtain ⟨n, hn⟩ : ∃ n, Hid (V.heap.size = n) := ⟨_, hide rfl⟩
  have bX : Below V.heap.size V X := by rw [hX.out]; exact (Below.refl _ V).alloc (Nat.le_refl _) _
  have hXn : X.heap[n]? = some (.cells #[.int .i64 c, .int .i64 v, .bool ok] (116 : TypeId) (0, 0)) := by rw [hX.out, ← hn.out]; exact heap_alloc_new V _
  have t0 : X.cell? ⟨n, 0, none⟩ = some (.int .i64 c) := cell_of_row _ _ 0 _ _ _ hXn
  have t1 : X.cell? ⟨n, 1, none⟩ = some (.int .i64 v) := cell_of_row _ _ 1 _ _ _ hXn
  have t2 : X.cell? ⟨n, 2, none⟩ = some (.bool ok) := cell_of_row _ _ 2 _ _ _ hXn
  have up : ∀ {k : Nat} {y : Value} {t : TypeId}, F k → w.heap[k]? = some (.cells #[y] t (0, 0)) → X.cell? ⟨k, 0, none⟩ = some y := fun hk hc => cell_of_row _ _ 0 _ _ _ ((bX.block _ (by have := (hV _ hk).trans hc; exact heap_lt this)).trans ((hV _ hk).trans hc))
  have c1 := up x.f1 x.e1
  have c2 := up x.f2 x.e2
  have c3 := up x.f3 x.e3
  have c4 := up x.f4 x.e4
  have hw : IntKind.i64.wrap ((at' : Int) + 1) = ((at' + 1 : Nat) : Int) := by rw [IntKind.wrap_i64]; omega
  have HC := hide (hQ X bX)
  unfold targs tv at HC
  unfold tv
  clear x hV hQ ha bX hXn up
  go_enter Tryz.func96, Tryz.ntmps96
  go_wp2_with (rw [← hX.out, hn.out])
  refine HC.out.mono ?_
  rintro e w1 ⟨rfl, hΨ⟩
  go_wp2_with fail
  go_end0
  exact ⟨rfl, hΨ⟩

theorem Bx.next (x : Bx F w h1 h2 h3 h4 nb B b i at') {V : World} (hV : Agr F w V) : V.cell? ⟨nb, 0, none⟩ = some (.func (.func 96) #[] #[.pointer (some ⟨h1, 0, none⟩), .pointer (some ⟨h2, 0, none⟩), .pointer (some ⟨h3, 0, none⟩), .pointer (some ⟨h4, 0, none⟩)]) := agr_cell hV x.fn x.en

theorem go_t2 (x : Bx F w h1 h2 h3 h4 nb B b i at') (ha : at' ≤ 1000000) : Go0 F w (.func (.func 98) #[] #[.pointer (some ⟨nb, 0, none⟩)]) (QT B b i (at' + 1) (0, 0, false)) := by
  refine ⟨_, _, rfl, ent2, fun V Ψ hV hQ => ?_⟩
  have c := x.next hV
  have HC := hide (next_any x ha hV (0, 0, false) hQ)
  have he := ent1
  unfold tv at HC
  unfold Ent at he
  clear x hQ hV ha
  go_enter Tryz.func98, Tryz.ntmps98
  go_wp2_with fail
  refine HC.out.mono ?_
  rintro e w1 ⟨rfl, hΨ⟩
  go_wp2_with fail
  go_end0
  exact ⟨rfl, hΨ⟩

theorem go_t3 (x : Bx F w h1 h2 h3 h4 nb B b i at') (ha : at' ≤ 1000000) : Go1 F w (.func (.func 99) #[] #[.pointer (some ⟨nb, 0, none⟩)]) (fun ok => QT B b i (at' + 1) (0, 0, ok)) := by
  refine ⟨_, _, rfl, ent3, fun V ok Ψ hV hQ => ?_⟩
  have c := x.next hV
  have HC := hide (next_any x ha hV (0, 0, ok) hQ)
  have he := ent1
  unfold tv at HC
  unfold Ent at he
  clear x hQ hV ha
  simp only [List.append_toArray, List.cons_append, List.nil_append]
  go_enter Tryz.func99, Tryz.ntmps99
  go_wp2_with fail
  refine HC.out.mono ?_
  rintro e w1 ⟨rfl, hΨ⟩
  go_wp2_with fail
  go_end0
  exact ⟨rfl, hΨ⟩

theorem go_t4 (x : Bx F w h1 h2 h3 h4 nb B b i at') (ha : at' ≤ 1000000) : Go2 F w (.func (.func 100) #[] #[.pointer (some ⟨nb, 0, none⟩)]) (fun v ok => QT B b i (at' + 1) (0, v, ok)) := by
  refine ⟨_, _, rfl, ent4, fun V v ok Ψ hV hQ => ?_⟩
  have c := x.next hV
  have HC := hide (next_any x ha hV (0, v, ok) hQ)
  have he := ent1
  unfold tv at HC
  unfold Ent at he
  clear x hQ hV ha
  simp only [List.append_toArray, List.cons_append, List.nil_append]
  go_enter Tryz.func100, Tryz.ntmps100
  go_wp2_with fail
  refine HC.out.mono ?_
  rintro e w1 ⟨rfl, hΨ⟩
  go_wp2_with fail
  go_end0
  exact ⟨rfl, hΨ⟩

theorem go_t5 (x : Bx F w h1 h2 h3 h4 nb B b i at') (ha : at' ≤ 1000000) {g : Nat} {ok : Bool} (fg : F g) (eg : w.heap[g]? = some (.cells #[.int .i64 (if ok then 0 else 150)] (55 : TypeId) (0, 0))) : Go0 F w (.func (.func 101) #[] #[.pointer (some ⟨nb, 0, none⟩), .pointer (some ⟨g, 0, none⟩)]) (QT B b i (at' + 1) (0, 0, ok)) := by
  refine ⟨_, _, rfl, ent5, fun V Ψ hV hQ => ?_⟩
  have c := x.next hV
  have d := agr_cell hV fg eg
  have HC := hide (next_any x ha hV (0, 0, ok) hQ)
  have he := ent1
  unfold tv at HC
  unfold Ent at he
  clear x hQ hV ha fg eg
  cases ok <;> simp only [if_true, Bool.false_eq_true, if_false] at d <;>
  · go_enter Tryz.func101, Tryz.ntmps101
    go_wp2_with fail
    refine HC.out.mono ?_
    rintro e w1 ⟨rfl, hΨ⟩
    go_wp2_with fail
    go_end0
    exact ⟨rfl, hΨ⟩

theorem go_t6 (x : Bx F w h1 h2 h3 h4 nb B b i at') (ha : at' ≤ 1000000) {g : Nat} {ok : Bool} (fg : F g) (eg : w.heap[g]? = some (.cells #[.bool ok] 4 (0, 0))) : Go0 F w (.func (.func 102) #[] #[.pointer (some ⟨nb, 0, none⟩), .pointer (some ⟨g, 0, none⟩)]) (QT B b i (at' + 1) (0, 0, ok)) := by
  refine ⟨_, _, rfl, ent6, fun V Ψ hV hQ => ?_⟩
  have c := x.next hV
  have d := agr_cell hV fg eg
  have HC := hide (next_any x ha hV (0, 0, ok) hQ)
  have he := ent1
  unfold tv at HC
  unfold Ent at he
  clear x hQ hV ha fg eg
  go_enter Tryz.func102, Tryz.ntmps102
  go_wp2_with fail
  refine HC.out.mono ?_
  rintro e w1 ⟨rfl, hΨ⟩
  go_wp2_with fail
  go_end0
  exact ⟨rfl, hΨ⟩

theorem go_t7 (x : Bx F w h1 h2 h3 h4 nb B b i at') (ha : at' ≤ 1000000) {g : Nat} {c0 v : Int} {ok : Bool} (fg : F g) (eg : w.heap[g]? = some (.cells #[.int .i64 c0, .int .i64 v, .bool ok] (116 : TypeId) (0, 0))) : Go0 F w (.func (.func 103) #[] #[.pointer (some ⟨nb, 0, none⟩), .pointer (some ⟨g, 0, none⟩)]) (QT B b i (at' + 1) (c0, v, ok)) := by
  refine ⟨_, _, rfl, ent7, fun V Ψ hV hQ => ?_⟩
  have c := x.next hV
  have hg := (hV g fg).trans eg
  have d0 : V.cell? ⟨g, 0, none⟩ = some (.int .i64 c0) := cell_of_row _ _ 0 _ _ _ hg
  have d1 : V.cell? ⟨g, 1, none⟩ = some (.int .i64 v) := cell_of_row _ _ 1 _ _ _ hg
  have d2 : V.cell? ⟨g, 2, none⟩ = some (.bool ok) := cell_of_row _ _ 2 _ _ _ hg
  have HC := hide (next_any x ha hV (c0, v, ok) hQ)
  have he := ent1
  unfold tv at HC
  unfold Ent at he
  clear x hQ hV ha fg eg hg
  go_enter Tryz.func103, Tryz.ntmps103
  go_wp2_with fail
  refine HC.out.mono ?_
  rintro e w1 ⟨rfl, hΨ⟩
  go_wp2_with fail
  go_end0
  exact ⟨rfl, hΨ⟩
end

/-- need: a call that is not refused. -/
theorem need_ok {w : World} {B : Nat} {c0 c1 c2 c3 c4 : Value} (hB : w.heap[B]? = some (.cells #[c0, c1, c2, c3, c4, .bool false] (36 : TypeId) (0, 0))) :
    Calls Tryz.prog 97 #[.pointer (some ⟨B, 0, none⟩), .int .i64 0] w fun e w' => e = .returned (.tuple #[]) ∧ Hid (w' = w.setCell ⟨B, 5, none⟩ (.bool false)) := by
  have c5 : w.cell? ⟨B, 5, none⟩ = some (.bool false) := cell_of_row _ _ 5 _ _ _ hB
  have f5 : w.frozen? ⟨B, 5, none⟩ = false := frozen_of_row _ _ 5 _ _ hB
  clear hB
  obtain ⟨X, hX⟩ : ∃ X, Hid (X = w.setCell ⟨B, 5, none⟩ (.bool false)) := ⟨_, hide rfl⟩
  rw [← hX.out]
  go_enter Tryz.func97, Tryz.ntmps97
  go_wp2_with fail
  rw [← hX.out]
  go_end0
  exact ⟨rfl, hide rfl⟩

end Go.Proofs.YtgjpbekmkhanhaaGreat.CH

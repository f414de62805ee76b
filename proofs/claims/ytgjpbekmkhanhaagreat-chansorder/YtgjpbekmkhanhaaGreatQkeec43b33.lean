/-
  A queue of int with a row of its own kind beside it; two lists that are the same.
-/
import Derived.Test.YtgjpbekmkhanhaaGreatMx131b1434
namespace Go.Proofs.YtgjpbekmkhanhaaGreat.QI
open Go.RowKit
set_option maxRecDepth 100000

/-- A queue and a row beside it, both made behind W0. -/
structure Two (W0 w : World) (R G : Nat) (ys : List Int) (v : Value) (xs : List Int) : Prop where
  ex : ∃ N h, Qu w R G N h ys
  r : W0.heap.size ≤ R
  g : W0.heap.size ≤ G
  row : w.ownsRow W0.heap.size 3 1 v xs.length (W xs)
  apart : ∀ b, v.ownBlock = some b → b ≠ R ∧ b ≠ G
  bel : Below W0.heap.size W0 w

section
variable {W0 w w' : World} {R G : Nat} {ys zs xs : List Int} {v v' : Value}

theorem Two.turn (s : Two W0 w R G ys v xs) (k : Qt w w' R G zs) : ∃ G', Two W0 w' R G' zs v xs := by
  obtain ⟨G', N, h, q, hg, t⟩ := k
  have hs := s.bel.size
  refine ⟨G', ⟨N, h, q⟩, s.r, ?_, row_tb s.row t (fun b hb hS => ?_), fun b hb => ?_, s.bel.trans (t.below (fun i hi => ?_) hs)⟩
  · rcases hg with rfl | hg
    · exact s.g
    · omega
  · have := s.apart b hb
    omega
  · refine ⟨(s.apart b hb).1, ?_⟩
    rcases hg with rfl | hg
    · exact (s.apart b hb).2
    · have := row_lt s.row hb
      omega
  · have := s.r
    have := s.g
    omega

theorem Two.below (s : Two W0 w R G ys v xs) (hb : Below w.heap.size w w') : Two W0 w' R G ys v xs := by
  obtain ⟨N, h, q⟩ := s.ex
  exact ⟨⟨N, h, q.below hb⟩, s.r, s.g, row_tb s.row (Tb.of_fresh (S := fun _ => False) hb) (fun _ _ h => h), s.apart, s.bel.trans (hb.mono s.bel.size)⟩

theorem Two.drew (s : Two W0 w R G ys v xs) (m : Nat) : Two W0 (w.drewN m) R G ys v xs := s.below (below_drewN (Below.refl _ w) m)

/-- The row is another one, new. -/
theorem Two.fresh (s : Two W0 w R G ys v xs) (ho : w'.ownsRow w.heap.size 3 1 v' zs.length (W zs)) (hb : Below w.heap.size w w') : Two W0 w' R G ys v' zs := by
  obtain ⟨N, h, q⟩ := s.ex
  have hs := s.bel.size
  refine ⟨⟨N, h, q.below hb⟩, s.r, s.g, ⟨ho.1, ?_⟩, fun b hb' => ?_, s.bel.trans (hb.mono hs)⟩
  · rcases ho.2 with h | ⟨g, cap, cur, h1, h2, h3⟩
    · exact .inl h
    · exact .inr ⟨g, cap, cur, h1, by omega, h3⟩
  · have := (ho.lt b hb').1
    have := q.lt
    have := q.glt
    omega

/-- Things appended to the row. -/
theorem Two.app (s : Two W0 w R G ys v xs) {x : Value} {base : Nat} (hx : w.ownsRow base 3 1 x zs.length (W zs)) (hn : xs.length + zs.length ≤ Mx) (ty : TypeId) :
    ∃ v' w', (Builtin.append_ #[23, 23] ty #[v, x]).run Tryz.prog w = .ok v' w' ∧ Two W0 w' R G ys v' (xs ++ zs) := by
  obtain ⟨i0, hi, hz0, hz1, hz2⟩ := info_parts infoE
  unfold Mx at hn
  have hs := s.bel.size
  obtain ⟨v', w', hr, ho, hg, hw⟩ := run_append_rows (P := Tryz.prog) (w := w) W0.heap.size 23 ty 3 i0 ((Value.int .i64) 0) 1 8 Tryz.underlying23 hi hz0 hz1 hz2 rfl (by omega) v xs.length (W xs) s.row x zs.length (W zs) base hx (W_one zs) (by unfold maxLen; omega) (by omega) hs
  obtain ⟨N, h, q⟩ := s.ex
  have hne : ∀ b, v.ownBlock = some b → b ≠ R ∧ b ≠ G := s.apart
  have t : Tb (fun k => v.ownBlock = some k) w w' := Tb.of_grown hg (fun _ h => h)
  refine ⟨v', w', hr, ⟨N, h, q.tb t (fun e => (hne R e).1 rfl) (fun e => (hne G e).2 rfl)⟩, s.r, s.g, by rw [W_append, List.length_append]; exact ho, fun b hb => ?_, s.bel.grown hg hs (fun k hk => (s.row.lt k hk).1)⟩
  rcases hw with hw | hw
  · rw [hw] at hb
    exact hne b hb
  · rw [hw] at hb
    simp only [Option.some.injEq] at hb
    have := q.lt
    have := q.glt
    omega

theorem one_row (w : World) (x : Int) : (w.alloc (.cells #[(Value.int .i64) x] 3)).ownsRow 0 3 1 (.slice (some ⟨w.heap.size, 0, none⟩) 1 1) ([x] : List Int).length (W [x]) :=
  ⟨rfl, .inr ⟨w.heap.size, 1, #[(Value.int .i64) x], rfl, Nat.zero_le _, heap_alloc_new w _, Nat.le_refl _, by unfold maxLen; omega, rfl, rfl⟩⟩

/-- One thing appended to the row. -/
theorem Two.app1 (s : Two W0 w R G ys v xs) (x : Int) (hn : xs.length + 1 ≤ Mx) (ty : TypeId) :
    ∃ v' w', (Builtin.append_ #[23, 23] ty #[v, .slice (some ⟨w.heap.size, 0, none⟩) 1 1]).run Tryz.prog (w.alloc (.cells #[(Value.int .i64) x] 3)) = .ok v' w' ∧ Two W0 w' R G ys v' (xs ++ [x]) :=
  (s.below ((Below.refl _ w).alloc (Nat.le_refl _) _)).app (one_row w x) (by simpa using hn) ty
end

section
variable {P : Program} {w w' : World} {ops : Array Oper} {rest : List Oper} {o : Oper} {a : Act} {Q : Exit → Act → World → Prop}
theorem wpList_append_run (hg : o.guard = none) (t : TypeId) (m x : Operand) (hop : o.op = Op.call { callee := Callee.builtin Builtin.append, args := #[m, x], argTypes := #[t, t] }) (mv key v : Value) (hm : a.eval m = mv) (hx : a.eval x = key) (hrun : (Builtin.append_ #[t, t] o.type #[mv, key]).run P w = .ok v w')
    (hK : wpList P ops Q rest (a.put o.dst v) w') : wpList P ops Q (o :: rest) a w := by
  refine wpList_plain hg fun K hK' => ?_
  unfold Oper.wp
  simp [execOp, hop, resolve, invoke, builtin, hm, hx, hrun, Result.andThen]
  exact hK' _ _ hK
end

set_option maxHeartbeats 1000000 in
theorem same_yes (a c : Option Addr) (n cap dap : Nat) (xs : List Int) (w : World) (hA : Ls w a n cap xs) (hC : Ls w c n dap xs) :
    Calls Tryz.prog 14 #[.slice a n cap, .slice c n dap] w fun e w' => e = .returned (.bool true) ∧ ∃ q, w' = w.drewN q := by
  have hla := hA.len
  have hea := hA.le
  have hra := hA.reach
  have hec := hC.le
  have hrc := hC.reach
  have HL := hide hla
  clear hla
  go_enter Tryz.func14, Tryz.ntmps14
  go_wp2_with fail
  go_loopw [5] (fun i wr => ∃ k q : Nat, k ≤ n ∧ i = .int .i64 k ∧ wr = w.drewN q) (fun i _ => n - (intOf i).toNat)
  case atStart => exact ⟨0, 0, Nat.zero_le _, rfl, rfl⟩
  case round =>
    obtain ⟨k, q, hk, rfl, hwr⟩ := hrel
    have hA' := hA.keep (below_drewN (Below.refl _ w) q)
    have hC' := hC.keep (below_drewN (Below.refl _ w) q)
    rw [← hwr] at hA' hC'
    have HR := hide hwr
    clear hwr
    by_cases hlt : k < n
    · obtain ⟨b1, o1, rfl, hc1⟩ := hA'.lies (by omega)
      obtain ⟨b2, o2, rfl, hc2⟩ := hC'.lies (by omega)
      have hk1 := hc1 k hlt
      have hk3 := hc2 k hlt
      clear hc1 hc2
      generalize xs.getD k 0 = x at *
      go_wp2_with fail
      go_quiet (fail)
      go_wp2_with fail
      go_roundw
      case rel => exact ⟨k + 1, q + nq, by omega, by go_num, by rw [HR.out, World.drewN_drewN]⟩
      case measure => simp [intOf]; omega
    · obtain rfl : k = n := by omega
      go_wp2_with fail
      go_ret
      exact ⟨rfl, q, HR.out⟩

end Go.Proofs.YtgjpbekmkhanhaaGreat.QI

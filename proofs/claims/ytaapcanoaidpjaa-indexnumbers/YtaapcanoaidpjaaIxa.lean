/-
  Slices of ints and of pairs of ints in memory; what 'same' does.
-/
import Derived.Test.YtaapcanoaidpjaaApp
import Derived.Test.YtaapcanoaidpjaaRows
import Derived.BigQuiet
import Derived.Deep.QuietTactic
import Derived.Deep.MidRow
namespace Go.Proofs.Ytaapcanoaidpjaa
open Go.RowKit

/-- A slice of ints, as it can be read. -/
structure Is (w : World) (a : Option Addr) (n cap : Nat) (zs : List Int) : Prop where
  len : zs.length = n
  le : n ≤ cap
  reach : cap ≤ 9223372036854775807
  lies : 0 < n → ∃ b off, a = some ⟨b, off, none⟩ ∧ ∀ i, i < n → w.cell? ⟨b, off + i, none⟩ = some (.int .i64 (zs.getD i 0))

theorem Is.keep {w w' : World} {a : Option Addr} {n cap : Nat} {zs : List Int} (h : Is w a n cap zs) (hb : Below w.heap.size w w') : Is w' a n cap zs := by
  refine ⟨h.len, h.le, h.reach, fun hn => ?_⟩
  obtain ⟨b, off, ha, hc⟩ := h.lies hn
  refine ⟨b, off, ha, fun i hi => ?_⟩
  have h1 := hc i hi
  rw [hb.cell (cell_lt h1)]
  exact h1

/-- A slice of pairs, as it can be read. -/
structure Pr (w : World) (a : Option Addr) (n cap : Nat) (ps : List (Int × Int)) : Prop where
  len : ps.length = n
  le : n ≤ cap
  reach : cap ≤ 9223372036854775807
  lies : 0 < n → ∃ b off, a = some ⟨b, off, none⟩ ∧ ∀ i, i < n → w.cell? ⟨b, off + i * 2, none⟩ = some (.int .i64 (ps.getD i (0, 0)).1) ∧ w.cell? ⟨b, off + i * 2 + 1, none⟩ = some (.int .i64 (ps.getD i (0, 0)).2)

theorem Pr.keep {w w' : World} {a : Option Addr} {n cap : Nat} {ps : List (Int × Int)} (h : Pr w a n cap ps) (hb : Below w.heap.size w w') : Pr w' a n cap ps := by
  refine ⟨h.len, h.le, h.reach, fun hn => ?_⟩
  obtain ⟨b, off, ha, hc⟩ := h.lies hn
  refine ⟨b, off, ha, fun i hi => ?_⟩
  obtain ⟨h1, h2⟩ := hc i hi
  have e1 := hb.cell (cell_lt h1)
  have e2 := hb.cell (cell_lt h2)
  rw [e1, e2]
  exact ⟨h1, h2⟩

theorem size3 : (Try.prog.info? 3).map (·.size) = some 1 := by kernel_rfl
theorem eq_pair_at (d : Nat) (w : World) (x1 y1 x2 y2 : Int) : (Op.equalIn (d + 2) 27 (.agg #[.int .i64 x1, .int .i64 y1]) (.agg #[.int .i64 x2, .int .i64 y2])).run Try.prog w = .ok (x1 == x2 && y1 == y2) w := by
  obtain ⟨i, hi, hs⟩ := Option.map_eq_some_iff.1 size3
  have h := fun a b => run_equalIn_int (P := Try.prog) w d 3 .i64 .i64 a b Try.underlying3
  show (Op.equalIn ((d + 1) + 1) 27 _ _).run Try.prog w = _
  rw [Op.equalIn]
  simp only [Sem.run_bind, run_underlying Try.underlying27, Result.andThen_ok, sizeOf, typeInfo, run_program, hi]
  simp only [Std.Legacy.Range.forIn_eq_forIn_range', Std.Legacy.Range.size, Nat.sub_zero, Nat.add_one_sub_one, Nat.div_one, List.range', List.forIn_cons, List.forIn_nil, Sem.run_bind]
  simp [part, run_underlying Try.underlying3, sizeOf, typeInfo, hi, hs, isAgg, h]
  by_cases h1 : x1 = x2 <;> by_cases h2 : y1 = y2 <;> simp [h1, h2]

theorem eql_pair (w : World) (x1 y1 x2 y2 : Int) : (binOp .eql 27 (.agg #[.int .i64 x1, .int .i64 y1]) (.agg #[.int .i64 x2, .int .i64 y2])).run Try.prog w = .ok (.bool (x1 == x2 && y1 == y2)) w := by
  rw [run_eql_struct, show (10000 : Nat) = 9998 + 2 from rfl, eq_pair_at]
  rfl
theorem neq_pair (w : World) (x1 y1 x2 y2 : Int) : (binOp .neq 27 (.agg #[.int .i64 x1, .int .i64 y1]) (.agg #[.int .i64 x2, .int .i64 y2])).run Try.prog w = .ok (.bool (!(x1 == x2 && y1 == y2))) w := by
  rw [run_neq_struct, show (10000 : Nat) = 9998 + 2 from rfl, eq_pair_at]
  rfl
theorem eqGuard27 : Try.prog.eqGuardType Try.prog.depth 27 = false := by kernel_rfl

theorem take_next_eq {α : Type} {d : α} {xs ys : List α} {k : Nat} (h : xs.take k = ys.take k) (hx : k < xs.length) (hy : k < ys.length) : xs.take (k + 1) = ys.take (k + 1) ↔ xs.getD k d = ys.getD k d := by
  rw [List.take_succ_eq_append_getElem hx, List.take_succ_eq_append_getElem hy, h, List.append_cancel_left_eq]
  simp [List.getD, List.getElem?_eq_getElem hx, List.getElem?_eq_getElem hy]

theorem take_snoc {α : Type} {d : α} (l : List α) (k : Nat) (hk : k < l.length) : l.take (k + 1) = l.take k ++ [l.getD k d] := by
  rw [List.take_succ_eq_append_getElem hk]
  simp [List.getD, List.getElem?_eq_getElem hk]

set_option maxHeartbeats 1000000 in
theorem same_any (a c : Option Addr) (n cap m dap : Nat) (xs ys : List (Int × Int)) (w : World) (hA : Pr w a n cap xs) (hC : Pr w c m dap ys) :
    Calls Try.prog 8 #[.slice a n cap, .slice c m dap] w fun e w' => e = .returned (.bool (decide (xs = ys))) ∧ ∃ q, w' = w.drewN q := by
  have hla := hA.len
  have hlc := hC.len
  have hea := hA.le
  have hra := hA.reach
  have hec := hC.le
  have hrc := hC.reach
  by_cases hnm : n = m
  · subst hnm
    go_enter Try.func8, Try.ntmps8
    go_wp2_with fail
    go_loopw [5] (fun i wr => ∃ k q : Nat, k ≤ n ∧ i = .int .i64 k ∧ wr = w.drewN q ∧ Hid (xs.take k = ys.take k)) (fun i _ => n - (intOf i).toNat)
    case atStart => exact ⟨0, 0, Nat.zero_le _, rfl, rfl, hide (by simp)⟩
    case round =>
      obtain ⟨k, q, hk, rfl, hwr, heq⟩ := hrel
      have hA' := hA.keep (below_drewN (Below.refl _ w) q)
      have hC' := hC.keep (below_drewN (Below.refl _ w) q)
      rw [← hwr] at hA' hC'
      have HR := hide hwr
      clear hwr
      by_cases hlt : k < n
      · obtain ⟨b1, o1, rfl, hc1⟩ := hA'.lies (by omega)
        obtain ⟨b2, o2, rfl, hc2⟩ := hC'.lies (by omega)
        obtain ⟨hk1, hk2⟩ := hc1 k hlt
        obtain ⟨hk3, hk4⟩ := hc2 k hlt
        have key := hide (take_next_eq (d := ((0 : Int), (0 : Int))) heq.out (by omega : k < xs.length) (by omega : k < ys.length))
        clear hc1 hc2
        generalize xs.getD k (0, 0) = p1 at *
        generalize ys.getD k (0, 0) = p2 at *
        obtain ⟨x1, y1⟩ := p1
        obtain ⟨x2, y2⟩ := p2
        simp only at hk1 hk2 hk3 hk4
        have qn := fun w => neq_pair w x1 y1 x2 y2
        have hgd := eqGuard27
        by_cases he : (x1, y1) = (x2, y2)
        · simp only [Prod.mk.injEq] at he
          obtain ⟨rfl, rfl⟩ := he
          simp only [beq_self_eq_true, Bool.and_self, Bool.not_true] at qn
          go_wp2_with fail
          go_quiet (fail)
          go_wp2_with fail
          go_roundw
          case rel => exact ⟨k + 1, q + nq, by omega, by go_num, by rw [HR.out, World.drewN_drewN], hide (key.out.2 (by simp))⟩
          case measure => simp [intOf]; omega
        · have hb : (x1 == x2 && y1 == y2) = false := by
            simp only [Prod.mk.injEq] at he
            simp only [Bool.and_eq_false_iff, beq_eq_false_iff_ne]
            by_cases h : x1 = x2
            · exact .inr (fun e => he ⟨h, e⟩)
            · exact .inl h
          simp only [hb, Bool.not_false] at qn
          clear hb
          go_wp2_with fail
          go_quiet (fail)
          go_wp2_with fail
          go_ret
          refine ⟨?_, q + nq, by rw [HR.out, World.drewN_drewN]⟩
          rw [decide_eq_false (fun e => he (key.out.1 (by rw [e])))]
          rfl
      · obtain rfl : k = n := by omega
        have e : xs = ys := by
          have := heq.out
          rwa [List.take_of_length_le (by omega), List.take_of_length_le (by omega)] at this
        have HE := hide e
        clear e heq
        go_wp2_with fail
        go_ret
        refine ⟨?_, q, HR.out⟩
        rw [decide_eq_true HE.out]
        rfl
  · have hd : decide (xs = ys) = false := decide_eq_false (fun e => hnm (by rw [← hla, ← hlc, e]))
    rw [hd]
    clear hd
    go_enter Try.func8, Try.ntmps8
    go_wp2_with fail
    go_ret
    exact ⟨rfl, 0, rfl⟩

end Go.Proofs.Ytaapcanoaidpjaa

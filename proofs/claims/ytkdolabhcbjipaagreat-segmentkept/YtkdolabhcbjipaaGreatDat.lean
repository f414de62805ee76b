/-
  A disk's own block; its counters; right, isName, isLast, disarm, begin.
-/
import Derived.Test.YtkdolabhcbjipaaGreatDst
import Derived.OneCell
import Derived.LaidEql
import Derived.Laws.LoneSync
import Derived.Deep.RegionWith
namespace Go.Proofs.YtkdolabhcbjipaaGreat
open Go.RowKit
set_option maxRecDepth 100000

/-- What a disk's own block says. -/
structure Ob where
  dn : Nat
  dr : Nat
  sn : Nat
  sr : Nat
  last : Int
  ns : Value
  us : Nat
  made : Int
  down : Bool
  armed : Int
  failing : Int
  failure : Int

def Ob.cells (o : Ob) (R : Nat) : Array Value := #[.pointer (some ⟨R, 0, none⟩), .map (some o.dn), .map (some o.dr), .map (some o.sn), .map (some o.sr), .int .i64 o.last, o.ns, .map (some o.us), .int .i64 o.made, .bool o.down, .int .i64 o.armed, .int .i64 o.failing, .int .i64 o.failure]

/-- A disk's own block. -/
structure Oj (w : World) (R : Nat) (o : Ob) : Prop where
  obj : w.heap[R]? = some (.cells (o.cells R) (67 : TypeId) (0, 0))
  armed : -1 ≤ o.armed ∧ o.armed ≤ 9223372036854775807
  failing : -1 ≤ o.failing ∧ o.failing ≤ 9223372036854775807

section
variable {w w' : World} {R : Nat} {o : Ob}
theorem Oj.lt (h : Oj w R o) : R < w.heap.size := (Array.getElem?_eq_some_iff.1 h.obj).1
theorem Oj.heap (h : Oj w R o) (e : w'.heap[R]? = w.heap[R]?) : Oj w' R o := ⟨e.trans h.obj, h.armed, h.failing⟩
theorem Oj.tb {S : Nat → Prop} (h : Oj w R o) (hb : Tb S w w') (hs : ¬ S R) : Oj w' R o := h.heap (hb.block R h.lt hs)
theorem Oj.drew (h : Oj w R o) : Oj w.drew R o := ⟨h.obj, h.armed, h.failing⟩
theorem Oj.free (h : Oj w R o) (i : Nat) : w.frozen? ⟨R, i, none⟩ = false := frozen_of_row w R i _ (67 : TypeId) h.obj
theorem Oj.c (h : Oj w R o) (i : Nat) : w.cell? ⟨R, i, none⟩ = (o.cells R)[i]? := cell_of_row w R i _ (67 : TypeId) (0, 0) h.obj
theorem Oj.set (h : Oj w R o) (i : Nat) (v : Value) (o' : Ob) (ho : (o.cells R).setIfInBounds i v = o'.cells R) (h1 : -1 ≤ o'.armed ∧ o'.armed ≤ 9223372036854775807) (h2 : -1 ≤ o'.failing ∧ o'.failing ≤ 9223372036854775807) : Oj (w.setCell ⟨R, i, none⟩ v) R o' :=
  ⟨by rw [heap_setCell_same w R i (o.cells R) (67 : TypeId) v h.obj, ho], h1, h2⟩
end

theorem eql_self {P : Program} {w : World} {tp te : TypeId} {j : TypeInfo} (a : Addr) (hp : P.underlying tp = some (.pointer te)) (hte : P.info? te = some j) : (binOp .eql tp (.pointer (some a)) (.pointer (some a))).run P w = .ok (.bool true) w := by
  have h : ∀ d : Nat, (Op.equalIn (d + 1) tp (.pointer (some a)) (.pointer (some a))).run P w = .ok true w := fun d => by simp [Op.equalIn, run_underlying hp, typeInfo, sizeOf, run_sameAddr_same, hte]
  simp only [binOp]
  simp [Op.equal, Op.maxDepth, h 9999]

theorem eql_nil {P : Program} {w : World} {tp te : TypeId} (a : Addr) (hp : P.underlying tp = some (.pointer te)) : (binOp .eql tp (.pointer none) (.pointer (some a))).run P w = .ok (.bool false) w := by
  have h : ∀ d : Nat, (Op.equalIn (d + 1) tp (.pointer none) (.pointer (some a))).run P w = .ok false w := fun d => by simp [Op.equalIn, run_underlying hp]
  simp only [binOp]
  simp [Op.equal, Op.maxDepth, h 9999]

theorem info57 : ∃ j, Tryz.prog.info? (67 : TypeId) = some j := by
  have h : (Tryz.prog.info? (67 : TypeId)).isSome = true := by kernel_rfl
  exact Option.isSome_iff_exists.1 h

set_option maxHeartbeats 400000 in
theorem right_yes {R : Nat} {w : World} {o : Ob} (h : Oj w R o) :
    Calls Tryz.prog 38 #[.pointer (some ⟨R, 0, none⟩)] w fun e w' => e = .returned (.bool true) ∧ w' = w := by
  have h0 : w.cell? ⟨R, 0, none⟩ = some (.pointer (some ⟨R, 0, none⟩)) := h.c 0
  clear h
  obtain ⟨j, hj⟩ := info57
  have he := eql_self (P := Tryz.prog) (w := w) (tp := (22 : TypeId)) (te := (67 : TypeId)) ⟨R, 0, none⟩ Tryz.underlying22 hj
  go_enter Tryz.func38, Tryz.ntmps38
  go_wp2_with fail
  go_ret
  exact ⟨rfl, rfl⟩

set_option maxHeartbeats 400000 in
theorem right_nil (w : World) :
    Calls Tryz.prog 38 #[.pointer none] w fun e w' => e = .returned (.bool false) ∧ w' = w := by
  go_enter Tryz.func38, Tryz.ntmps38
  go_wp2_with fail
  go_ret
  exact ⟨rfl, rfl⟩

set_option maxHeartbeats 400000 in
theorem right_zero {R : Nat} {w : World} (h0 : w.cell? ⟨R, 0, none⟩ = some (.pointer none)) :
    Calls Tryz.prog 38 #[.pointer (some ⟨R, 0, none⟩)] w fun e w' => e = .returned (.bool false) ∧ w' = w := by
  have he := eql_nil (P := Tryz.prog) (w := w) (tp := (22 : TypeId)) (te := (67 : TypeId)) ⟨R, 0, none⟩ Tryz.underlying22
  go_enter Tryz.func38, Tryz.ntmps38
  go_wp2_with fail
  go_ret
  exact ⟨rfl, rfl⟩

set_option maxHeartbeats 400000 in
theorem isName_any {s : ByteArray} (hs : s.size ≤ 9223372036854775807) (w : World) :
    Calls Tryz.prog 70 #[.string s] w fun e w' => e = .returned (.bool (decide (1 ≤ s.size ∧ s.size ≤ 64))) ∧ w' = w := by
  by_cases h1 : 1 ≤ s.size
  · by_cases h2 : s.size ≤ 64
    · have e1 : decide ((1 : Int) ≤ (s.size : Int)) = true := by simp; omega
      have e2 : decide ((s.size : Int) ≤ 64) = true := by simp; omega
      go_enter Tryz.func70, Tryz.ntmps70
      go_wp2_with fail
      go_ret
      simp [h1, h2]
    · have e1 : decide ((1 : Int) ≤ (s.size : Int)) = true := by simp; omega
      have e2 : decide ((s.size : Int) ≤ 64) = false := by simp; omega
      go_enter Tryz.func70, Tryz.ntmps70
      go_wp2_with fail
      go_ret
      simp [h2]
  · have e1 : decide ((1 : Int) ≤ (s.size : Int)) = false := by simp; omega
    go_enter Tryz.func70, Tryz.ntmps70
    go_wp2_with fail
    go_ret
    simp [h1]

set_option maxHeartbeats 400000 in
theorem aload {R i : Nat} {x : Int} {w : World} (h : w.cell? ⟨R, i, none⟩ = some (.int .i64 x)) :
    Calls Tryz.prog 91 #[.pointer (some ⟨R, i, none⟩)] w fun e w' => e = .returned (.int .i64 x) ∧ w' = w := by
  have hl := run_call_load (P := Tryz.prog) Tryz.func103 (by kernel_rfl) (by kernel_rfl) (by kernel_rfl) .i64 (by kernel_rfl) h
  go_enter Tryz.func91, Tryz.ntmps91
  go_wp2_with fail
  go_ret
  exact ⟨rfl, rfl⟩

set_option maxHeartbeats 400000 in
theorem astore {R i : Nat} {x : Int} {v : Value} {w : World} (h : w.cell? ⟨R, i, none⟩ = some v) (hf : w.frozen? ⟨R, i, none⟩ = false) :
    Calls Tryz.prog 44 #[.pointer (some ⟨R, i, none⟩), .int .i64 x] w fun e w' => e = .returned (.tuple #[]) ∧ w' = w.setCell ⟨R, i, none⟩ (.int .i64 x) := by
  have hl := run_call_store (P := Tryz.prog) Tryz.func69 (by kernel_rfl) (by kernel_rfl) (by kernel_rfl) (by kernel_rfl) (k := .i64) (y := x) h hf
  go_enter Tryz.func44, Tryz.ntmps44
  go_wp2_with fail
  go_end0
  exact ⟨rfl, rfl⟩

/-- How many are let through behind one more. -/
def lessed (n : Int) : Int := if n = -1 then -1 else n - 1

set_option maxHeartbeats 400000 in
theorem isLast_any {R i : Nat} {n : Int} {w : World} (h : w.cell? ⟨R, i, none⟩ = some (.int .i64 n)) (hf : w.frozen? ⟨R, i, none⟩ = false) (hn : -1 ≤ n ∧ n ≤ 9223372036854775807) :
    Calls Tryz.prog 79 #[.pointer (some ⟨R, i, none⟩)] w fun e w' => e = .returned (.bool (decide (n = 0))) ∧ w' = if n = -1 then w else w.setCell ⟨R, i, none⟩ (.int .i64 (n - 1)) := by
  obtain ⟨hn1, hn2⟩ := hn
  by_cases h1 : n = -1
  · subst h1
    go_enter Tryz.func79, Tryz.ntmps79
    go_wp2_with fail
    refine (aload h).mono ?_
    rintro e w1 ⟨rfl, rfl⟩
    go_wp2_with fail
    go_ret
    simp
  · have e1 : (n == -1) = false := by simpa using h1
    go_enter Tryz.func79, Tryz.ntmps79
    go_wp2_with fail
    refine (aload h).mono ?_
    rintro e w1 ⟨rfl, rfl⟩
    go_wp2_with fail
    refine (astore h hf).mono ?_
    rintro e w2 ⟨rfl, rfl⟩
    go_wp2_with fail
    go_ret
    by_cases h0 : n = 0 <;> simp [h0]


theorem astore_armed {R : Nat} {x : Int} {w : World} {o : Ob} (h : Oj w R o) (hx : -1 ≤ x ∧ x ≤ 9223372036854775807) :
    Calls Tryz.prog 44 #[.pointer (some ⟨R, 10, none⟩), .int .i64 x] w fun e w' => e = .returned (.tuple #[]) ∧ Oj w' R { o with armed := x } ∧ Tb (fun k => k = R) w w' := by
  refine (astore (h.c 10) (h.free 10)).mono ?_
  rintro e w1 ⟨rfl, rfl⟩
  exact ⟨rfl, h.set 10 _ { o with armed := x } rfl hx h.failing, Tb.set R 10 _ rfl⟩

theorem astore_failing {R : Nat} {x : Int} {w : World} {o : Ob} (h : Oj w R o) (hx : -1 ≤ x ∧ x ≤ 9223372036854775807) :
    Calls Tryz.prog 44 #[.pointer (some ⟨R, 11, none⟩), .int .i64 x] w fun e w' => e = .returned (.tuple #[]) ∧ Oj w' R { o with failing := x } ∧ Tb (fun k => k = R) w w' := by
  refine (astore (h.c 11) (h.free 11)).mono ?_
  rintro e w1 ⟨rfl, rfl⟩
  exact ⟨rfl, h.set 11 _ { o with failing := x } rfl h.armed hx, Tb.set R 11 _ rfl⟩

theorem lessed_in {n : Int} (h : -1 ≤ n ∧ n ≤ 9223372036854775807) : -1 ≤ lessed n ∧ lessed n ≤ 9223372036854775807 := by
  unfold lessed
  split <;> omega

theorem isLast_armed {R : Nat} {w : World} {o : Ob} (h : Oj w R o) :
    Calls Tryz.prog 79 #[.pointer (some ⟨R, 10, none⟩)] w fun e w' => e = .returned (.bool (decide (o.armed = 0))) ∧ Oj w' R { o with armed := lessed o.armed } ∧ Tb (fun k => k = R) w w' := by
  refine (isLast_any (h.c 10) (h.free 10) h.armed).mono ?_
  rintro e w1 ⟨rfl, rfl⟩
  by_cases h1 : o.armed = -1
  · have e1 : ({ o with armed := lessed o.armed } : Ob) = o := by cases o; simp only at h1; subst h1; rfl
    rw [if_pos h1, e1]
    exact ⟨rfl, h, Tb.refl _ _⟩
  · rw [if_neg h1]
    exact ⟨rfl, h.set 10 _ { o with armed := lessed o.armed } (by unfold lessed; rw [if_neg h1]; rfl) (lessed_in h.armed) h.failing, Tb.set R 10 _ rfl⟩

theorem isLast_failing {R : Nat} {w : World} {o : Ob} (h : Oj w R o) :
    Calls Tryz.prog 79 #[.pointer (some ⟨R, 11, none⟩)] w fun e w' => e = .returned (.bool (decide (o.failing = 0))) ∧ Oj w' R { o with failing := lessed o.failing } ∧ Tb (fun k => k = R) w w' := by
  refine (isLast_any (h.c 11) (h.free 11) h.failing).mono ?_
  rintro e w1 ⟨rfl, rfl⟩
  by_cases h1 : o.failing = -1
  · have e1 : ({ o with failing := lessed o.failing } : Ob) = o := by cases o; simp only at h1; subst h1; rfl
    rw [if_pos h1, e1]
    exact ⟨rfl, h, Tb.refl _ _⟩
  · rw [if_neg h1]
    exact ⟨rfl, h.set 11 _ { o with failing := lessed o.failing } (by unfold lessed; rw [if_neg h1]; rfl) h.armed (lessed_in h.failing), Tb.set R 11 _ rfl⟩

theorem tb_same {R : Nat} {a b c : World} (h : Tb (fun k => k = R) a b) (k : Tb (fun k => k = R) b c) : Tb (fun k => k = R) a c := h.trans k (fun _ _ h => h)

set_option maxHeartbeats 400000 in
theorem disarm_any {R : Nat} {w : World} {o : Ob} (h : Oj w R o) :
    Calls Tryz.prog 26 #[.pointer (some ⟨R, 0, none⟩)] w fun e w' => e = .returned (.tuple #[]) ∧ Oj w' R { o with armed := -1, failing := -1 } ∧ Tb (fun k => k = R) w w' := by
  go_enter Tryz.func26, Tryz.ntmps26
  go_wp2_with fail
  refine (astore_armed h (by omega)).mono ?_
  rintro e w1 ⟨rfl, h1, b1⟩
  go_wp2_with fail
  refine (astore_failing h1 (by omega)).mono ?_
  rintro e w2 ⟨rfl, h2, b2⟩
  go_wp2_with fail
  go_end0
  exact ⟨rfl, h2, tb_same b1 b2⟩

/-- An operation is counted: what stops it, and what is left. -/
def begun (o : Ob) : Int × Ob :=
  if o.down then (6, o) else
    if o.armed = 0 then (6, { o with armed := lessed o.armed, failing := lessed o.failing, down := true })
    else if o.failing = 0 then (o.failure, { o with armed := lessed o.armed, failing := lessed o.failing })
    else (0, { o with armed := lessed o.armed, failing := lessed o.failing })

set_option maxHeartbeats 1000000 in
theorem begin_any {R : Nat} {w : World} {o : Ob} (h : Oj w R o) :
    Calls Tryz.prog 57 #[.pointer (some ⟨R, 0, none⟩)] w fun e w' => e = .returned (.int .i64 (begun o).1) ∧ Oj w' R (begun o).2 ∧ Tb (fun k => k = R) w w' := by
  have h9 : w.cell? ⟨R, 9, none⟩ = some (.bool o.down) := h.c 9
  by_cases hd : o.down = true
  · rw [hd] at h9
    go_enter Tryz.func57, Tryz.ntmps57
    go_wp2_with fail
    go_ret
    simp [begun, hd]
    exact ⟨h, Tb.refl _ _⟩
  · have hd' : o.down = false := by simpa using hd
    rw [hd'] at h9
    go_enter Tryz.func57, Tryz.ntmps57
    go_wp2_with fail
    have hD := h.drew
    clear h
    go_region_with (first
      | (go_at_call_of 79 (Value.pointer (some (Addr.mk R 10 none))); refine Calls.mono (isLast_armed (by assumption)) ?_; rintro e w1 ⟨rfl, h1, b1⟩; clear hD; rename Oj w1 R _ => hD)
      | (go_at_call_of 79 (Value.pointer (some (Addr.mk R 11 none))); refine Calls.mono (isLast_failing (by assumption)) ?_; rintro e w2 ⟨rfl, h2, b2⟩; clear hD; rename Oj w2 R _ => hD))
    all_goals
      first
      | have B : Tb (fun k => k = R) w w2 := tb_same (tb_same (Tb.refl _ w).drew b1) b2
      | have B : Tb (fun k => k = R) w w1 := tb_same (tb_same (Tb.refl _ w).drew b2) b1
      have f9 := hD.free 9
      have c9 := hD.c 9
      have c12 := hD.c 12
      simp only [Ob.cells, List.getElem?_toArray, List.getElem?_cons_succ, List.getElem?_cons_zero] at c9 c12
      have HD := hide hD
      have HB := hide B
      clear hD B b1 b2 h9
      by_cases ha : o.armed = 0
      · have e1 : decide (o.armed = 0) = true := by simp [ha]
        go_wp2_with fail
        go_ret
        refine ⟨by simp [begun, hd', ha], ?_, tb_same HB.out (Tb.set R 9 _ rfl)⟩
        have := HD.out.set 9 (.bool true) { o with armed := lessed o.armed, failing := lessed o.failing, down := true } rfl HD.out.armed HD.out.failing
        simpa [begun, hd', ha] using this
      · have e1 : decide (o.armed = 0) = false := by simp [ha]
        by_cases hf : o.failing = 0
        · have e2 : decide (o.failing = 0) = true := by simp [hf]
          go_wp2_with fail
          go_ret
          exact ⟨by simp [begun, hd', ha, hf], by simpa [begun, hd', ha, hf] using HD.out, HB.out⟩
        · have e2 : decide (o.failing = 0) = false := by simp [hf]
          go_wp2_with fail
          go_ret
          exact ⟨by simp [begun, hd', ha, hf], by simpa [begun, hd', ha, hf] using HD.out, HB.out⟩

end Go.Proofs.YtkdolabhcbjipaaGreat

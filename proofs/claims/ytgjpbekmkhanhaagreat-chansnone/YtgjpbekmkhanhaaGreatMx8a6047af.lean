/-
  Texts put into one.
-/
import Derived.Test.YtgjpbekmkhanhaaGreatQk67267c0b
import Derived.Test.YtgjpbekmkhanhaaGreatQkb62e0d9c
import Derived.Test.YtgjpbekmkhanhaaGreatMx4021a7b1

/-
  What is asked of no channel, or of one that nobody made, is refused; Make of no runtime, of none that New answered, of a size that is none.
-/
namespace Go.Proofs.YtgjpbekmkhanhaaGreat.CH
open Go.RowKit QW
set_option maxRecDepth 100000
set_option linter.unusedSimpArgs false
set_option linter.unusedVariables false

section
variable {w : World}
theorem noTrySend_nil (w : World) (v : Int) : Calls Tryz.prog 29 #[.pointer none, .int .i64 v] w fun e w' => e = .returned (.tuple #[.bool false, .bool false]) ∧ w' = w := by
  have CM := cmade_nil w
  go_enter Tryz.func29, Tryz.ntmps29
  go_wp2_with fail
  refine CM.mono ?_
  rintro e w1 ⟨rfl, hw1⟩
  subst w1
  go_wp2_with fail
  go_ret2
  exact ⟨rfl, rfl⟩
theorem noTrySend_zero {C : Nat} (c0 : w.cell? ⟨C, 0, none⟩ = some (.pointer none)) (v : Int) : Calls Tryz.prog 29 #[.pointer (some ⟨C, 0, none⟩), .int .i64 v] w fun e w' => e = .returned (.tuple #[.bool false, .bool false]) ∧ w' = w := by
  have CM := cmade_zero c0
  clear c0
  go_enter Tryz.func29, Tryz.ntmps29
  go_wp2_with fail
  refine CM.mono ?_
  rintro e w1 ⟨rfl, hw1⟩
  subst w1
  go_wp2_with fail
  go_ret2
  exact ⟨rfl, rfl⟩
theorem noTryRecv_nil (w : World)  : Calls Tryz.prog 30 #[.pointer none] w fun e w' => e = .returned (.tuple #[.int .i64 0, .bool false, .bool false]) ∧ w' = w := by
  have CM := cmade_nil w
  go_enter Tryz.func30, Tryz.ntmps30
  go_wp2_with fail
  refine CM.mono ?_
  rintro e w1 ⟨rfl, hw1⟩
  subst w1
  go_wp2_with fail
  go_ret3
  exact ⟨rfl, rfl⟩
theorem noTryRecv_zero {C : Nat} (c0 : w.cell? ⟨C, 0, none⟩ = some (.pointer none))  : Calls Tryz.prog 30 #[.pointer (some ⟨C, 0, none⟩)] w fun e w' => e = .returned (.tuple #[.int .i64 0, .bool false, .bool false]) ∧ w' = w := by
  have CM := cmade_zero c0
  clear c0
  go_enter Tryz.func30, Tryz.ntmps30
  go_wp2_with fail
  refine CM.mono ?_
  rintro e w1 ⟨rfl, hw1⟩
  subst w1
  go_wp2_with fail
  go_ret3
  exact ⟨rfl, rfl⟩
theorem noCan_nil (w : World)  : Calls Tryz.prog 31 #[.pointer none] w fun e w' => e = .returned (.tuple #[.bool false, .bool false]) ∧ w' = w := by
  have CM := cmade_nil w
  go_enter Tryz.func31, Tryz.ntmps31
  go_wp2_with fail
  refine CM.mono ?_
  rintro e w1 ⟨rfl, hw1⟩
  subst w1
  go_wp2_with fail
  go_ret2
  exact ⟨rfl, rfl⟩
theorem noCan_zero {C : Nat} (c0 : w.cell? ⟨C, 0, none⟩ = some (.pointer none))  : Calls Tryz.prog 31 #[.pointer (some ⟨C, 0, none⟩)] w fun e w' => e = .returned (.tuple #[.bool false, .bool false]) ∧ w' = w := by
  have CM := cmade_zero c0
  clear c0
  go_enter Tryz.func31, Tryz.ntmps31
  go_wp2_with fail
  refine CM.mono ?_
  rintro e w1 ⟨rfl, hw1⟩
  subst w1
  go_wp2_with fail
  go_ret2
  exact ⟨rfl, rfl⟩
theorem noRuntime_nil (w : World)  : Calls Tryz.prog 32 #[.pointer none] w fun e w' => e = .returned (.pointer none) ∧ w' = w := by
  have CM := cmade_nil w
  go_enter Tryz.func32, Tryz.ntmps32
  go_wp2_with fail
  refine CM.mono ?_
  rintro e w1 ⟨rfl, hw1⟩
  subst w1
  go_wp2_with fail
  go_ret
  exact ⟨rfl, rfl⟩
theorem noRuntime_zero {C : Nat} (c0 : w.cell? ⟨C, 0, none⟩ = some (.pointer none))  : Calls Tryz.prog 32 #[.pointer (some ⟨C, 0, none⟩)] w fun e w' => e = .returned (.pointer none) ∧ w' = w := by
  have CM := cmade_zero c0
  clear c0
  go_enter Tryz.func32, Tryz.ntmps32
  go_wp2_with fail
  refine CM.mono ?_
  rintro e w1 ⟨rfl, hw1⟩
  subst w1
  go_wp2_with fail
  go_ret
  exact ⟨rfl, rfl⟩
theorem noClose_nil (w : World)  : Calls Tryz.prog 33 #[.pointer none] w fun e w' => e = .returned (.int .i64 1) ∧ w' = w := by
  have CM := cmade_nil w
  go_enter Tryz.func33, Tryz.ntmps33
  go_wp2_with fail
  refine CM.mono ?_
  rintro e w1 ⟨rfl, hw1⟩
  subst w1
  go_wp2_with fail
  go_ret
  exact ⟨rfl, rfl⟩
theorem noClose_zero {C : Nat} (c0 : w.cell? ⟨C, 0, none⟩ = some (.pointer none))  : Calls Tryz.prog 33 #[.pointer (some ⟨C, 0, none⟩)] w fun e w' => e = .returned (.int .i64 1) ∧ w' = w := by
  have CM := cmade_zero c0
  clear c0
  go_enter Tryz.func33, Tryz.ntmps33
  go_wp2_with fail
  refine CM.mono ?_
  rintro e w1 ⟨rfl, hw1⟩
  subst w1
  go_wp2_with fail
  go_ret
  exact ⟨rfl, rfl⟩
theorem noLen_nil (w : World)  : Calls Tryz.prog 34 #[.pointer none] w fun e w' => e = .returned (.int .i64 0) ∧ w' = w := by
  have CM := cmade_nil w
  go_enter Tryz.func34, Tryz.ntmps34
  go_wp2_with fail
  refine CM.mono ?_
  rintro e w1 ⟨rfl, hw1⟩
  subst w1
  go_wp2_with fail
  go_ret
  exact ⟨rfl, rfl⟩
theorem noLen_zero {C : Nat} (c0 : w.cell? ⟨C, 0, none⟩ = some (.pointer none))  : Calls Tryz.prog 34 #[.pointer (some ⟨C, 0, none⟩)] w fun e w' => e = .returned (.int .i64 0) ∧ w' = w := by
  have CM := cmade_zero c0
  clear c0
  go_enter Tryz.func34, Tryz.ntmps34
  go_wp2_with fail
  refine CM.mono ?_
  rintro e w1 ⟨rfl, hw1⟩
  subst w1
  go_wp2_with fail
  go_ret
  exact ⟨rfl, rfl⟩
theorem noCap_nil (w : World)  : Calls Tryz.prog 35 #[.pointer none] w fun e w' => e = .returned (.int .i64 0) ∧ w' = w := by
  have CM := cmade_nil w
  go_enter Tryz.func35, Tryz.ntmps35
  go_wp2_with fail
  refine CM.mono ?_
  rintro e w1 ⟨rfl, hw1⟩
  subst w1
  go_wp2_with fail
  go_ret
  exact ⟨rfl, rfl⟩
theorem noCap_zero {C : Nat} (c0 : w.cell? ⟨C, 0, none⟩ = some (.pointer none))  : Calls Tryz.prog 35 #[.pointer (some ⟨C, 0, none⟩)] w fun e w' => e = .returned (.int .i64 0) ∧ w' = w := by
  have CM := cmade_zero c0
  clear c0
  go_enter Tryz.func35, Tryz.ntmps35
  go_wp2_with fail
  refine CM.mono ?_
  rintro e w1 ⟨rfl, hw1⟩
  subst w1
  go_wp2_with fail
  go_ret
  exact ⟨rfl, rfl⟩
theorem noClosed_nil (w : World)  : Calls Tryz.prog 36 #[.pointer none] w fun e w' => e = .returned (.bool false) ∧ w' = w := by
  have CM := cmade_nil w
  go_enter Tryz.func36, Tryz.ntmps36
  go_wp2_with fail
  refine CM.mono ?_
  rintro e w1 ⟨rfl, hw1⟩
  subst w1
  go_wp2_with fail
  go_ret
  exact ⟨rfl, rfl⟩
theorem noClosed_zero {C : Nat} (c0 : w.cell? ⟨C, 0, none⟩ = some (.pointer none))  : Calls Tryz.prog 36 #[.pointer (some ⟨C, 0, none⟩)] w fun e w' => e = .returned (.bool false) ∧ w' = w := by
  have CM := cmade_zero c0
  clear c0
  go_enter Tryz.func36, Tryz.ntmps36
  go_wp2_with fail
  refine CM.mono ?_
  rintro e w1 ⟨rfl, hw1⟩
  subst w1
  go_wp2_with fail
  go_ret
  exact ⟨rfl, rfl⟩
theorem noForget_nil (w : World) (k : Value) : Calls Tryz.prog 37 #[.pointer none, k] w fun e w' => e = .returned (.int .i64 0) ∧ w' = w := by
  have CM := cmade_nil w
  go_enter Tryz.func37, Tryz.ntmps37
  go_wp2_with fail
  refine CM.mono ?_
  rintro e w1 ⟨rfl, hw1⟩
  subst w1
  go_wp2_with fail
  go_ret
  exact ⟨rfl, rfl⟩
theorem noForget_zero {C : Nat} (c0 : w.cell? ⟨C, 0, none⟩ = some (.pointer none)) (k : Value) : Calls Tryz.prog 37 #[.pointer (some ⟨C, 0, none⟩), k] w fun e w' => e = .returned (.int .i64 0) ∧ w' = w := by
  have CM := cmade_zero c0
  clear c0
  go_enter Tryz.func37, Tryz.ntmps37
  go_wp2_with fail
  refine CM.mono ?_
  rintro e w1 ⟨rfl, hw1⟩
  subst w1
  go_wp2_with fail
  go_ret
  exact ⟨rfl, rfl⟩
theorem noWaitRecv_nil (w : World) (k f : Value) : Calls Tryz.prog 38 #[.pointer none, k, f] w fun e w' => e = .returned (.int .i64 1) ∧ w' = w := by
  have CM := cmade_nil w
  go_enter Tryz.func38, Tryz.ntmps38
  go_wp2_with fail
  refine CM.mono ?_
  rintro e w1 ⟨rfl, hw1⟩
  subst w1
  go_wp2_with fail
  go_ret
  exact ⟨rfl, rfl⟩
theorem noWaitRecv_zero {C : Nat} (c0 : w.cell? ⟨C, 0, none⟩ = some (.pointer none)) (k f : Value) : Calls Tryz.prog 38 #[.pointer (some ⟨C, 0, none⟩), k, f] w fun e w' => e = .returned (.int .i64 1) ∧ w' = w := by
  have CM := cmade_zero c0
  clear c0
  go_enter Tryz.func38, Tryz.ntmps38
  go_wp2_with fail
  refine CM.mono ?_
  rintro e w1 ⟨rfl, hw1⟩
  subst w1
  go_wp2_with fail
  go_ret
  exact ⟨rfl, rfl⟩
theorem noMake_nil (w : World) (n : Int) : Calls Tryz.prog 19 #[.pointer none, .int .i64 n] w fun e w' => e = .returned (.tuple #[.pointer none, .int .i64 1]) ∧ w' = w := by
  have CM := rmade_nil w
  go_enter Tryz.func19, Tryz.ntmps19
  go_wp2_with fail
  refine CM.mono ?_
  rintro e w1 ⟨rfl, hw1⟩
  subst w1
  go_wp2_with fail
  go_ret2
  exact ⟨rfl, rfl⟩
theorem noMake_zero {C : Nat} (c0 : w.cell? ⟨C, 0, none⟩ = some (.pointer none)) (n : Int) : Calls Tryz.prog 19 #[.pointer (some ⟨C, 0, none⟩), .int .i64 n] w fun e w' => e = .returned (.tuple #[.pointer none, .int .i64 1]) ∧ w' = w := by
  have CM := rmade_zero c0
  clear c0
  go_enter Tryz.func19, Tryz.ntmps19
  go_wp2_with fail
  refine CM.mono ?_
  rintro e w1 ⟨rfl, hw1⟩
  subst w1
  go_wp2_with fail
  go_ret2
  exact ⟨rfl, rfl⟩
theorem noMake_size {r : Nat} {n : Int} (hr : w.cell? ⟨r, 0, none⟩ = some (.pointer (some ⟨r, 0, none⟩))) (hn : n < 0 ∨ 64 < n) : Calls Tryz.prog 19 #[.pointer (some ⟨r, 0, none⟩), .int .i64 n] w fun e w' => e = .returned (.tuple #[.pointer none, .int .i64 2]) ∧ w' = w := by
  have CM := rmade_yes hr
  clear hr
  by_cases h0 : n < 0
  · have hi : decide (n < 0) = true := by simp; omega
    clear hn
    go_enter Tryz.func19, Tryz.ntmps19
    go_wp2_with fail
    refine CM.mono ?_
    rintro e w1 ⟨rfl, hw1⟩
    subst w1
    go_wp2_with fail
    go_ret2
    exact ⟨rfl, rfl⟩
  · have hi : decide (n < 0) = false := by simp; omega
    have hi2 : decide (n > 64) = true := by simp; omega
    have h64 : n > 64 := by omega
    clear hn
    go_enter Tryz.func19, Tryz.ntmps19
    go_wp2_with fail
    refine CM.mono ?_
    rintro e w1 ⟨rfl, hw1⟩
    subst w1
    go_wp2_with fail
    go_ret2
    exact ⟨rfl, rfl⟩
/-- No ticket. -/
theorem waitRecv_noTicket {A : Nat → Bool} {z : Zc} {m : Nat} {s : Cs} {D : Nat → Prop} (h : Ch w A z m s D) (f : Value) : Calls Tryz.prog 38 #[.pointer (some ⟨z.C, 0, none⟩), .pointer none, f] w fun e w' => e = .returned (.int .i64 1) ∧ w' = w := by
  have CM := cmade_yes h
  have CT := QW.tmade_nil w
  clear h
  go_enter Tryz.func38, Tryz.ntmps38
  go_wp2_with fail
  refine CM.mono ?_
  rintro e w1 ⟨rfl, hw1⟩
  subst w1
  go_wp2_with fail
  refine CT.mono ?_
  rintro e w1 ⟨rfl, hw1⟩
  subst w1
  go_wp2_with fail
  go_ret
  exact ⟨rfl, rfl⟩
end

end Go.Proofs.YtgjpbekmkhanhaaGreat.CH

/-
  A task that may not send or receive is refused.
-/
namespace Go.Proofs.YtgjpbekmkhanhaaGreat.CH
open Go.RowKit QW
set_option maxRecDepth 100000
set_option linter.unusedSimpArgs false
set_option linter.unusedVariables false

section
variable {w : World} {a : Ad} {s : Rs} {i : Nat} {t : Tc} {A : Nat → Bool} {z : Zc} {m : Nat} {σ : Cs} {D : Nat → Prop}

/-- No task. -/
theorem refused_noTask (w : World) (c : Value) (b : Bool) : Calls Tryz.prog 69 #[.pointer none, c, .bool b] w fun e w' => e = .returned (.int .i64 1) ∧ w' = w := by
  have CR := runtime_none (Go.Proofs.YtgjpbekmkhanhaaGreat.tmade_nil w)
  go_enter Tryz.func69, Tryz.ntmps69
  go_wp2_with fail
  refine CR.mono ?_
  rintro e w1 ⟨rfl, hw1⟩
  subst w1
  go_wp2_with fail
  go_ret
  exact ⟨rfl, rfl⟩
/-- No channel. -/
theorem refused_noChan (h : Rt w a s) (hi : s.ts[i]? = some t) {cp : Option Addr} (CM : Calls Tryz.prog 79 #[.pointer cp] w fun e w' => e = .returned (.bool false) ∧ w' = w) (b : Bool) :
    Calls Tryz.prog 69 #[.pointer (some ⟨t.b, 0, none⟩), .pointer cp, .bool b] w fun e w' => e = .returned (.int .i64 1) ∧ w' = w := by
  have CR := runtime_any h hi
  have e1 : ∀ V : World, (binOp .eql (31 : TypeId) (.pointer (some ⟨a.R, 0, none⟩)) (.pointer none)).run Tryz.prog V = .ok (.bool false) V := fun V => eqlt_nil2 (te := (62 : TypeId)) _ Tryz.underlying31
  clear h hi
  go_enter Tryz.func69, Tryz.ntmps69
  go_wp2_with fail
  refine CR.mono ?_
  rintro e w1 ⟨rfl, hw1⟩
  subst w1
  go_wp2_with fail
  refine CM.mono ?_
  rintro e w1 ⟨rfl, hw1⟩
  subst w1
  go_wp2_with fail
  go_ret
  exact ⟨rfl, rfl⟩
/-- Nothing to be told by. -/
theorem refused_nothing (h : Rt w a s) (hi : s.ts[i]? = some t) (c : Ch w A z m σ D) :
    Calls Tryz.prog 69 #[.pointer (some ⟨t.b, 0, none⟩), .pointer (some ⟨z.C, 0, none⟩), .bool true] w fun e w' => e = .returned (.int .i64 1) ∧ w' = w := by
  have CR := runtime_any h hi
  have CM := cmade_yes c
  have e1 : ∀ V : World, (binOp .eql (31 : TypeId) (.pointer (some ⟨a.R, 0, none⟩)) (.pointer none)).run Tryz.prog V = .ok (.bool false) V := fun V => eqlt_nil2 (te := (62 : TypeId)) _ Tryz.underlying31
  clear h hi c
  go_enter Tryz.func69, Tryz.ntmps69
  go_wp2_with fail
  refine CR.mono ?_
  rintro e w1 ⟨rfl, hw1⟩
  subst w1
  go_wp2_with fail
  refine CM.mono ?_
  rintro e w1 ⟨rfl, hw1⟩
  subst w1
  go_wp2_with fail
  go_ret
  exact ⟨rfl, rfl⟩
set_option maxHeartbeats 2000000 in
/-- A task of another runtime. -/
theorem refused_other (h : Rt w a s) (hi : s.ts[i]? = some t) (c : Ch w A z m σ D) {cr cs : Array Value} {tr ts : TypeId} (hR : w.heap[a.R]? = some (.cells cr tr (0, 0))) (hS : w.heap[z.rt]? = some (.cells cs ts (0, 0))) (hz : a.R ≠ z.rt) :
    Calls Tryz.prog 69 #[.pointer (some ⟨t.b, 0, none⟩), .pointer (some ⟨z.C, 0, none⟩), .bool false] w fun e w' => e = .returned (.int .i64 160) ∧ Below w.heap.size w w' := by
  have CR := runtime_any h hi
  have CM := cmade_yes c
  have CQ : Hid (∀ V, Below w.heap.size w V → Calls Tryz.prog 121 #[.pointer (some ⟨t.b, 0, none⟩)] V fun e w' => e = .returned (.pointer (some ⟨a.R, 0, none⟩)) ∧ w' = V) := hide (fun V hV => runtime_any (h.below hV) hi)
  obtain ⟨c1, _, _, _, _, _⟩ := c.cs
  obtain ⟨j, hj, _⟩ := infoR
  have e1 : ∀ V : World, (binOp .eql (31 : TypeId) (.pointer (some ⟨a.R, 0, none⟩)) (.pointer none)).run Tryz.prog V = .ok (.bool false) V := fun V => eqlt_nil2 (te := (62 : TypeId)) _ Tryz.underlying31
  have hne : (⟨a.R, 0, none⟩ : Addr) ≠ ⟨z.rt, 0, none⟩ := fun e => hz (by injection e)
  have e2 : ∀ V : World, V.heap = w.heap → (binOp .neq (31 : TypeId) (.pointer (some ⟨a.R, 0, none⟩)) (.pointer (some ⟨z.rt, 0, none⟩))).run Tryz.prog V = .ok (.bool true) V := fun V hV => neqt_other (te := (62 : TypeId)) Tryz.underlying31 hj (by assumption) hne (by rw [hV]; exact hR) (by rw [hV]; exact hS)
  have e2a := e2 w rfl
  have e2b := e2 w.drew rfl
  have e2c := fun n => e2 (w.drewN n) rfl
  clear e2 hR hS hne
  have hb0 := Below.refl w.heap.size w
  clear h hi c hz
  generalize a.R = r at *
  generalize t.b = b at *
  go_enter Tryz.func69, Tryz.ntmps69
  go_wp2_with fail
  refine CR.mono ?_
  rintro e w1 ⟨rfl, hw1⟩
  subst w1
  go_wp2_with fail
  refine CM.mono ?_
  rintro e w1 ⟨rfl, hw1⟩
  subst w1
  go_wp2_with fail
  go_quiet (first | (go_at_call 121; exact Calls.quiet_of_same (CQ.out _ (by first | exact Below.refl _ _ | exact (Below.refl _ _).drew | exact below_drewN (Below.refl _ _) _))))
  go_wp2_with fail
  go_ret
  exact ⟨rfl, below_drewN hb0 _⟩
set_option maxHeartbeats 2000000 in
/-- Whoever is refused has not sent. -/
theorem send_refused {q v : Int} (hq : (q == 0) = false) {tp cp : Option Addr} {f : Value} {b : Bool} (hf : (f = .nilFunc ∧ b = true) ∨ ∃ g r c, f = .func g r c ∧ b = false)
    (CR : ∀ V, Below w.heap.size w V → Calls Tryz.prog 69 #[.pointer tp, .pointer cp, .bool b] V fun e w' => e = .returned (.int .i64 q) ∧ Below V.heap.size V w') :
    Calls Tryz.prog 26 #[.pointer tp, .pointer cp, .int .i64 v, f] w fun e w' => e = .returned (.int .i64 q) ∧ Below w.heap.size w w' := by
  rcases hf with ⟨rfl, rfl⟩ | ⟨g, r, c, rfl, rfl⟩
  · obtain ⟨X, n, hX, hn, x0, hb, _⟩ := box1 w .nilFunc (67 : TypeId)
    have CX := CR X hb.out
    have heX := eql_func_nil (P := Tryz.prog) (w := X) Tryz.underlying67
    have hqi : ¬ q = 0 := by simpa using hq
    clear CR
    go_enter Tryz.func26, Tryz.ntmps26
    go_wp2_with (rw [← hX.out, hn.out])
    refine CX.mono ?_
    rintro e W2 ⟨rfl, hb2⟩
    have HB := hide (hb.out.trans (hb2.mono hb.out.size))
    clear CX hb2
    go_wp2_with fail
    go_ret
    exact ⟨rfl, HB.out⟩
  · obtain ⟨X, n, hX, hn, x0, hb, _⟩ := box1 w (.func g r c) (67 : TypeId)
    have CX := CR X hb.out
    have heX := eql_func_no (P := Tryz.prog) (w := X) g r c Tryz.underlying67
    have hqi : ¬ q = 0 := by simpa using hq
    clear CR
    go_enter Tryz.func26, Tryz.ntmps26
    go_wp2_with (rw [← hX.out, hn.out])
    refine CX.mono ?_
    rintro e W2 ⟨rfl, hb2⟩
    have HB := hide (hb.out.trans (hb2.mono hb.out.size))
    clear CX hb2
    go_wp2_with fail
    go_ret
    exact ⟨rfl, HB.out⟩
set_option maxHeartbeats 2000000 in
theorem recv_refused {q : Int} (hq : (q == 0) = false) {tp cp : Option Addr} {f : Value} {b : Bool} (hf : (f = .nilFunc ∧ b = true) ∨ ∃ g r c, f = .func g r c ∧ b = false)
    (CR : ∀ V, Below w.heap.size w V → Calls Tryz.prog 69 #[.pointer tp, .pointer cp, .bool b] V fun e w' => e = .returned (.int .i64 q) ∧ Below V.heap.size V w') :
    Calls Tryz.prog 27 #[.pointer tp, .pointer cp, f] w fun e w' => e = .returned (.int .i64 q) ∧ Below w.heap.size w w' := by
  rcases hf with ⟨rfl, rfl⟩ | ⟨g, r, c, rfl, rfl⟩
  · obtain ⟨X, n, hX, hn, x0, hb, _⟩ := box1 w .nilFunc (68 : TypeId)
    have CX := CR X hb.out
    have heX := eql_func_nil (P := Tryz.prog) (w := X) Tryz.underlying68
    have hqi : ¬ q = 0 := by simpa using hq
    clear CR
    go_enter Tryz.func27, Tryz.ntmps27
    go_wp2_with (rw [← hX.out, hn.out])
    refine CX.mono ?_
    rintro e W2 ⟨rfl, hb2⟩
    have HB := hide (hb.out.trans (hb2.mono hb.out.size))
    clear CX hb2
    go_wp2_with fail
    go_ret
    exact ⟨rfl, HB.out⟩
  · obtain ⟨X, n, hX, hn, x0, hb, _⟩ := box1 w (.func g r c) (68 : TypeId)
    have CX := CR X hb.out
    have heX := eql_func_no (P := Tryz.prog) (w := X) g r c Tryz.underlying68
    have hqi : ¬ q = 0 := by simpa using hq
    clear CR
    go_enter Tryz.func27, Tryz.ntmps27
    go_wp2_with (rw [← hX.out, hn.out])
    refine CX.mono ?_
    rintro e W2 ⟨rfl, hb2⟩
    have HB := hide (hb.out.trans (hb2.mono hb.out.size))
    clear CX hb2
    go_wp2_with fail
    go_ret
    exact ⟨rfl, HB.out⟩
end

end Go.Proofs.YtgjpbekmkhanhaaGreat.CH

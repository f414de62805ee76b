/-
  WaitSend with nothing to be told by; a task that is over, refused.
-/
import Derived.Test.YtgjpbekmkhanhaaGreatQk05525edd
namespace Go.Proofs.YtgjpbekmkhanhaaGreat.CH
open Go.RowKit QW
set_option maxRecDepth 100000
set_option linter.unusedSimpArgs false
set_option linter.unusedVariables false

section
variable {w : World} {A : Nat → Bool} {z : Zc} {m : Nat} {s : Cs} {D : Nat → Prop} {k : Nat}
theorem waitSend_nothing {f : Value} (h : Ch w A z m s D) (hk : Tkt w k f) (v : Int) :
    Calls Tryz.prog 39 #[.pointer (some ⟨z.C, 0, none⟩), .int .i64 v, .pointer (some ⟨k, 0, none⟩), .nilFunc] w fun e w' => e = .returned (.int .i64 1) ∧ Below w.heap.size w w' := by
  obtain ⟨X, n, hX, hn, x0, hb, _⟩ := box1 w .nilFunc (67 : TypeId)
  have CM := cmade_yes (h.below hb.out)
  have CT := QW.tmade_yes (hk.below hb.out)
  have he := eql_func_nil (P := Tryz.prog) (w := X) Tryz.underlying67
  clear h hk
  go_enter Tryz.func39, Tryz.ntmps39
  go_wp2_with (rw [← hX.out, hn.out])
  refine CM.mono ?_
  rintro e w1 ⟨rfl, hw1⟩
  subst w1
  go_wp2_with fail
  refine CT.mono ?_
  rintro e w1 ⟨rfl, hw1⟩
  subst w1
  clear CM CT
  go_wp2_with fail
  go_ret
  exact ⟨rfl, hb.out⟩

set_option maxHeartbeats 2000000 in
/-- A task that is over, or not running. -/
theorem refused_over {a : Ad} {s : Rs} {i : Nat} {t : Tc} {σ : Cs} (h : Rt w a s) (hi : s.ts[i]? = some t) (hsl : slt s i = false) (hr : s.run ≠ some i) (c : Ch w A z m σ D) (hz : z.rt = a.R) :
    Calls Tryz.prog 69 #[.pointer (some ⟨t.b, 0, none⟩), .pointer (some ⟨z.C, 0, none⟩), .bool false] w fun e w' => e = .returned (.int .i64 152) ∧ Below w.heap.size w w' := by
  have CR := runtime_any h hi
  have CM := cmade_yes c
  have CQ : Hid (∀ V, Below w.heap.size w V → Calls Tryz.prog 121 #[.pointer (some ⟨t.b, 0, none⟩)] V fun e w' => e = .returned (.pointer (some ⟨a.R, 0, none⟩)) ∧ w' = V) := hide (fun V hV => runtime_any (h.below hV) hi)
  have CS : Hid (∀ V, Below w.heap.size w V → Calls Tryz.prog 122 #[.pointer (some ⟨t.b, 0, none⟩)] V fun e w' => e = .returned (.bool false) ∧ Below w.heap.size w w') := hide (fun V hV => (silent_any (h.below hV) hi).mono (by
    rintro e w' ⟨rfl, hb⟩
    exact ⟨by rw [hsl], hV.trans (hb.mono hV.size)⟩))
  have CY : Hid (∀ V (f : Fn) (xs ys : Array Value), Below w.heap.size w V → Calls Tryz.prog 72 #[.pointer (some ⟨t.b, 0, none⟩), .func f xs ys] V fun e w' => e = .returned (.int .i64 152) ∧ w' = V) := hide (fun V f xs ys hV => (yield_no (h.below hV) hi (.inl hr) f xs ys).mono (by
    rintro e w' ⟨rfl, rfl⟩
    exact ⟨by rw [if_neg hr], rfl⟩))
  obtain ⟨c1, _, _, _, _, _⟩ := c.cs
  rw [hz] at c1
  obtain ⟨j, hj, _⟩ := infoR
  have e1 : ∀ V : World, (binOp .eql (31 : TypeId) (.pointer (some ⟨a.R, 0, none⟩)) (.pointer none)).run Tryz.prog V = .ok (.bool false) V := fun V => eqlt_nil2 (te := (62 : TypeId)) _ Tryz.underlying31
  have e2 : ∀ V : World, (binOp .neq (31 : TypeId) (.pointer (some ⟨a.R, 0, none⟩)) (.pointer (some ⟨a.R, 0, none⟩))).run Tryz.prog V = .ok (.bool false) V := fun V => neqt_self (te := (62 : TypeId)) _ Tryz.underlying31 hj
  have hb0 := Below.refl w.heap.size w
  clear h hi hr hsl c hz
  generalize a.R = r at *
  generalize t.b = b at *
  go_enter Tryz.func69, Tryz.ntmps69
  go_wp2_with fail
  refine CR.mono ?_
  rintro e w1 ⟨rfl, hw1⟩
  subst w1
  go_wp2_with fail
  refine CM.mono ?_
  rintro e w1 ⟨rfl, hw1⟩
  subst w1
  go_wp2_with fail
  go_quiet (first | (go_at_call 121; exact Calls.quiet_of_same (CQ.out _ (by first | exact Below.refl _ _ | exact (Below.refl _ _).drew | exact below_drewN (Below.refl _ _) _))))
  go_wp2_with fail
  refine (CS.out _ (below_drewN hb0 _)).mono ?_
  rintro e w2 ⟨rfl, hb2⟩
  have HB := hide hb2
  clear CR CM CQ CS hb2 hb0 c1
  go_wp2_with fail
  refine (CY.out _ _ _ _ HB.out).mono ?_
  rintro e w3 ⟨rfl, hw3⟩
  subst w3
  clear CY
  go_wp2_with fail
  go_ret
  exact ⟨rfl, HB.out⟩
end

end Go.Proofs.YtgjpbekmkhanhaaGreat.CH

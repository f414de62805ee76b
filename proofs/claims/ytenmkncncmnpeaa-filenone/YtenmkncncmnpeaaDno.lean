/-
  A disk that New did not make.
-/
import Derived.Test.YtenmkncncmnpeaaDaw
namespace Go.Proofs.Ytenmkncncmnpeaa
open Go.RowKit
set_option maxRecDepth 100000

/-- 'right' says no. -/
def NoR (p : Option Addr) (w : World) : Prop := Calls Try.prog 35 #[.pointer p] w fun e w' => e = .returned (.bool false) ∧ w' = w

section
variable {p : Option Addr} {w : World}
set_option maxHeartbeats 400000
theorem no_put (hr : NoR p w) (s : ByteArray) (n : Int) (v : Value) : Calls Try.prog 9 #[.pointer p, .string s, .int .i64 n, v] w fun e w' => e = .returned (.int .i64 1) ∧ w' = w := by
  go_enter Try.func9, Try.ntmps9
  go_wp2_with (go_at_call 35; refine hr.mono ?_; rintro e w1 ⟨rfl, hw1⟩; subst w1)
  go_ret
  exact ⟨rfl, rfl⟩
theorem no_pending (hr : NoR p w) : Calls Try.prog 11 #[.pointer p] w fun e w' => e = .returned (.int .i64 0) ∧ w' = w := by
  go_enter Try.func11, Try.ntmps11
  go_wp2_with (go_at_call 35; refine hr.mono ?_; rintro e w1 ⟨rfl, hw1⟩; subst w1)
  go_ret
  exact ⟨rfl, rfl⟩
theorem no_crash (hr : NoR p w) (v : Value) : Calls Try.prog 12 #[.pointer p, v] w fun e w' => e = .returned (.int .i64 1) ∧ w' = w := by
  go_enter Try.func12, Try.ntmps12
  go_wp2_with (go_at_call 35; refine hr.mono ?_; rintro e w1 ⟨rfl, hw1⟩; subst w1)
  go_ret
  exact ⟨rfl, rfl⟩
theorem no_find (hr : NoR p w) (s : ByteArray) : Calls Try.prog 45 #[.pointer p, .string s] w fun e w' => e = .returned (.tuple #[.int .i64 0, .int .i64 1]) ∧ w' = w := by
  go_enter Try.func45, Try.ntmps45
  go_wp2_with (go_at_call 35; refine hr.mono ?_; rintro e w1 ⟨rfl, hw1⟩; subst w1)
  go_ret2
  exact ⟨rfl, rfl⟩
theorem no_read (hr : NoR p w) (s : ByteArray) : Calls Try.prog 13 #[.pointer p, .string s] w fun e w' => e = .returned (.tuple #[.slice none 0 0, .int .i64 1]) ∧ w' = w := by
  have hf := no_find hr s
  go_enter Try.func13, Try.ntmps13
  go_wp2_with (first | (go_at_call 45; refine hf.mono ?_; rintro e w1 ⟨rfl, hw1⟩; subst w1) | (go_at_call 35; refine hr.mono ?_; rintro e w1 ⟨rfl, hw1⟩; subst w1))
  go_ret2
  exact ⟨rfl, rfl⟩
theorem no_names (hr : NoR p w) : Calls Try.prog 14 #[.pointer p] w fun e w' => e = .returned (.slice none 0 0) ∧ w' = w := by
  go_enter Try.func14, Try.ntmps14
  go_wp2_with (go_at_call 35; refine hr.mono ?_; rintro e w1 ⟨rfl, hw1⟩; subst w1)
  go_ret
  exact ⟨rfl, rfl⟩
theorem no_sync (hr : NoR p w) (s : ByteArray) : Calls Try.prog 15 #[.pointer p, .string s] w fun e w' => e = .returned (.int .i64 1) ∧ w' = w := by
  have hf := no_find hr s
  go_enter Try.func15, Try.ntmps15
  go_wp2_with (first | (go_at_call 45; refine hf.mono ?_; rintro e w1 ⟨rfl, hw1⟩; subst w1) | (go_at_call 35; refine hr.mono ?_; rintro e w1 ⟨rfl, hw1⟩; subst w1))
  go_ret
  exact ⟨rfl, rfl⟩
theorem no_rename (hr : NoR p w) (s t : ByteArray) : Calls Try.prog 16 #[.pointer p, .string s, .string t] w fun e w' => e = .returned (.int .i64 1) ∧ w' = w := by
  have hf := no_find hr s
  go_enter Try.func16, Try.ntmps16
  go_wp2_with (first | (go_at_call 45; refine hf.mono ?_; rintro e w1 ⟨rfl, hw1⟩; subst w1) | (go_at_call 35; refine hr.mono ?_; rintro e w1 ⟨rfl, hw1⟩; subst w1))
  go_ret
  exact ⟨rfl, rfl⟩
theorem no_copy (hr : NoR p w) : Calls Try.prog 17 #[.pointer p] w fun e w' => e = .returned (.pointer none) ∧ w' = w := by
  go_enter Try.func17, Try.ntmps17
  go_wp2_with (go_at_call 35; refine hr.mono ?_; rintro e w1 ⟨rfl, hw1⟩; subst w1)
  go_ret
  exact ⟨rfl, rfl⟩
theorem no_cut (hr : NoR p w) (s : ByteArray) (n : Int) : Calls Try.prog 18 #[.pointer p, .string s, .int .i64 n] w fun e w' => e = .returned (.int .i64 1) ∧ w' = w := by
  have hf := no_find hr s
  go_enter Try.func18, Try.ntmps18
  go_wp2_with (first | (go_at_call 45; refine hf.mono ?_; rintro e w1 ⟨rfl, hw1⟩; subst w1) | (go_at_call 35; refine hr.mono ?_; rintro e w1 ⟨rfl, hw1⟩; subst w1))
  go_ret
  exact ⟨rfl, rfl⟩
theorem no_remove (hr : NoR p w) (s : ByteArray) : Calls Try.prog 19 #[.pointer p, .string s] w fun e w' => e = .returned (.int .i64 1) ∧ w' = w := by
  have hf := no_find hr s
  go_enter Try.func19, Try.ntmps19
  go_wp2_with (first | (go_at_call 45; refine hf.mono ?_; rintro e w1 ⟨rfl, hw1⟩; subst w1) | (go_at_call 35; refine hr.mono ?_; rintro e w1 ⟨rfl, hw1⟩; subst w1))
  go_ret
  exact ⟨rfl, rfl⟩
theorem no_arm (hr : NoR p w) (n : Int) : Calls Try.prog 20 #[.pointer p, .int .i64 n] w fun e w' => e = .returned (.int .i64 1) ∧ w' = w := by
  go_enter Try.func20, Try.ntmps20
  go_wp2_with (go_at_call 35; refine hr.mono ?_; rintro e w1 ⟨rfl, hw1⟩; subst w1)
  go_ret
  exact ⟨rfl, rfl⟩
theorem no_begin (hr : NoR p w) : Calls Try.prog 21 #[.pointer p] w fun e w' => e = .returned (.int .i64 1) ∧ w' = w := by
  go_enter Try.func21, Try.ntmps21
  go_wp2_with (go_at_call 35; refine hr.mono ?_; rintro e w1 ⟨rfl, hw1⟩; subst w1)
  go_ret
  exact ⟨rfl, rfl⟩
theorem no_fail (hr : NoR p w) (n m : Int) : Calls Try.prog 22 #[.pointer p, .int .i64 n, .int .i64 m] w fun e w' => e = .returned (.int .i64 1) ∧ w' = w := by
  go_enter Try.func22, Try.ntmps22
  go_wp2_with (go_at_call 35; refine hr.mono ?_; rintro e w1 ⟨rfl, hw1⟩; subst w1)
  go_ret
  exact ⟨rfl, rfl⟩
end

end Go.Proofs.Ytenmkncncmnpeaa

/-
  What 'SameBytes' does, for any two slices of bytes.
-/
import Derived.Test.YthakbelcefogaaaBas
namespace Go.Proofs.Ythakbelcefogaaa
open Go.RowKit
set_option maxRecDepth 100000

set_option maxHeartbeats 400000 in
theorem same_any (a c : Option Addr) (n cap m dap : Nat) (xs ys : List Int) (w : World) (hB : Bs w a n cap xs) (hC : Bs w c m dap ys) :
    Calls Try.prog 25 #[.slice a n cap, .slice c m dap] w fun e w' => e = .returned (.bool (decide (xs = ys))) ∧ w' = w := by
  have k1 : (convert 27 9 (.slice a n cap)).run Try.prog w = .ok (.string (strOfNums xs)) w := run_str 27 5 Try.underlying27 Try.underlying5 hB 9 Try.underlying9
  have k2 : (convert 27 9 (.slice c m dap)).run Try.prog w = .ok (.string (strOfNums ys)) w := run_str 27 5 Try.underlying27 Try.underlying5 hC 9 Try.underlying9
  go_enter Try.func25, Try.ntmps25
  go_wp2
  go_ret
  exact ⟨congrArg (fun x => Ending.returned (.bool x)) (str_beq hB.byte hC.byte), rfl⟩

theorem same_true {w : World} {a c : Option Addr} {n cap m dap : Nat} {xs ys : List Int} (h : xs = ys) (h1 : Bs w a n cap xs) (h2 : Bs w c m dap ys) :
    Calls Try.prog 25 #[.slice a n cap, .slice c m dap] w fun e w' => e = .returned (.bool true) ∧ w' = w := by
  subst h
  have h := same_any a c n cap m dap xs xs w h1 h2
  rw [decide_eq_true rfl] at h
  exact h

end Go.Proofs.Ythakbelcefogaaa

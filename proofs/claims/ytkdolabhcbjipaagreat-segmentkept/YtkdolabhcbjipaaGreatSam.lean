/-
  What 'SameBytes' does, for any two slices of bytes.
-/
import Derived.Test.YtkdolabhcbjipaaGreatBas
namespace Go.Proofs.YtkdolabhcbjipaaGreat
open Go.RowKit
set_option maxRecDepth 100000

set_option maxHeartbeats 400000 in
theorem same_any (a c : Option Addr) (n cap m dap : Nat) (xs ys : List Int) (w : World) (hB : Bs w a n cap xs) (hC : Bs w c m dap ys) :
    Calls Tryz.prog 48 #[.slice a n cap, .slice c m dap] w fun e w' => e = .returned (.bool (decide (xs = ys))) ∧ w' = w := by
  have k1 : (convert 30 9 (.slice a n cap)).run Tryz.prog w = .ok (.string (strOfNums xs)) w := run_str 30 5 Tryz.underlying30 Tryz.underlying5 hB 9 Tryz.underlying9
  have k2 : (convert 30 9 (.slice c m dap)).run Tryz.prog w = .ok (.string (strOfNums ys)) w := run_str 30 5 Tryz.underlying30 Tryz.underlying5 hC 9 Tryz.underlying9
  go_enter Tryz.func48, Tryz.ntmps48
  go_wp2
  go_ret
  exact ⟨congrArg (fun x => Ending.returned (.bool x)) (str_beq hB.byte hC.byte), rfl⟩

theorem same_true {w : World} {a c : Option Addr} {n cap m dap : Nat} {xs ys : List Int} (h : xs = ys) (h1 : Bs w a n cap xs) (h2 : Bs w c m dap ys) :
    Calls Tryz.prog 48 #[.slice a n cap, .slice c m dap] w fun e w' => e = .returned (.bool true) ∧ w' = w := by
  subst h
  have h := same_any a c n cap m dap xs xs w h1 h2
  rw [decide_eq_true rfl] at h
  exact h

end Go.Proofs.YtkdolabhcbjipaaGreat

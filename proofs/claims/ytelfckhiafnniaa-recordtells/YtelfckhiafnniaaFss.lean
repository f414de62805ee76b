/-
  What SameLists does.
-/
import Derived.Test.YtelfckhiafnniaaFow
import Derived.Test.YtelfckhiafnniaaSam
import Derived.Deep.QuietTactic
import Derived.BigQuiet
namespace Go.Proofs.Ytelfckhiafnniaa
open Go.RowKit

theorem Bs.drewN {w : World} {a : Option Addr} {n cap : Nat} {zs : List Int} (h : Bs w a n cap zs) (m : Nat) : Bs (w.drewN m) a n cap zs := h.keep (below_drewN (Below.refl _ w) m)
theorem Rl.drewN {w : World} {a : Option Addr} {n cap : Nat} {bss : List (List Int)} (h : Rl w a n cap bss) (m : Nat) : Rl (w.drewN m) a n cap bss := h.keep (below_drewN (Below.refl _ w) m)

theorem take_next_eq {xs ys : List (List Int)} {k : Nat} (h : xs.take k = ys.take k) (hx : k < xs.length) (hy : k < ys.length) : xs.take (k + 1) = ys.take (k + 1) ↔ xs.getD k [] = ys.getD k [] := by
  rw [List.take_succ_eq_append_getElem hx, List.take_succ_eq_append_getElem hy, h, List.append_cancel_left_eq]
  simp [List.getD, List.getElem?_eq_getElem hx, List.getElem?_eq_getElem hy]

end Go.Proofs.Ytelfckhiafnniaa

/-
  Numbers among the arguments, opened with their bounds.
-/
import Derived.Test.YtnnmlndjcaeegaaSop
namespace Go.Proofs.Ytnnmlndjcaeegaa
open Go.ChangeShapes Go.WideShapes Go.ChangeAt Go.RowKit

theorem open_ints6 {H : Type} {enc : TypeId × Value → H} {W : World} {a : Option Addr} {len cap : Nat} {d : DataW H} {p : List MemPlace}
    (h : DataW.Trod enc Try.prog W 0 (fun _ => true) true 25 (.slice a len cap) d p) : ∃ xs, (QI.Ls W a len cap xs ∧ ∀ x ∈ xs, I6 x) ∧ ((d = .nil ∧ len = 0) ∨ ∃ es rs : List (DataW H), es.length = len ∧ d = .slice es rs) := by
  obtain ⟨xs, hL, hd⟩ := open_rows (fun z : Int => [Value.int .i64 z]) 1 I6 Try.underlying25 (by kernel_rfl) (by omega) (fun _ => rfl) (fun fuel cs x h => by
    obtain ⟨z, hz, _, w0⟩ := DataW.trod_int Try.underlying3 h
    have := bounds_i64 w0
    exact ⟨z, hz, this⟩) h
  refine ⟨xs, ⟨⟨hL.len, hL.le, hL.reach, fun hn => ?_⟩, hL.each⟩, hd⟩
  obtain ⟨b, off, ha, hc⟩ := hL.lies hn
  refine ⟨b, off, ha, fun i hi => ?_⟩
  have hl := hL.len
  have := hc i (xs.getD i 0) (by simp [List.getD, List.getElem?_eq_getElem (by omega : i < xs.length)]) 0 _ rfl
  simpa using this

end Go.Proofs.Ytnnmlndjcaeegaa

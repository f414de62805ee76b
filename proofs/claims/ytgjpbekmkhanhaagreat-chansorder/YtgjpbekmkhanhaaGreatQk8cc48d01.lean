/-
  ChansOrder's first argument, opened: three numbers.
-/
import Derived.Test.YtgjpbekmkhanhaaGreatQk7a6564d2
import Derived.Lib.SmallJoins
namespace Go.Proofs.YtgjpbekmkhanhaaGreat
open Go.ChangeShapes Go.WideShapes Go.ChangeAt Go.RowKit
set_option maxRecDepth 100000

theorem open_crowd {H : Type} {enc : TypeId × Value → H} {W : World} {r : Reach} {b0 : Nat} {v : Value} {d : DataW H} {p : List MemPlace} (hv : Value.okWide Tryz.prog W r b0 89 v)
    (h : DataW.Trod enc Tryz.prog W 0 (fun _ => true) true 89 v d p) : ∃ x y z : Int, v = .agg #[.int .i64 x, .int .i64 y, .int .i64 z] := by
  obtain ⟨v0, v1, v2, y0, y1, y2, n, rfl, rfl, rfl, h0, h1, h2⟩ := Go.Joins.open_agg3 Tryz.underlying89 (by kernel_rfl) (by kernel_rfl) hv h
  obtain ⟨x, hx, _, wx⟩ := DataW.trod_int Tryz.underlying3 h0
  obtain ⟨e, he, _, we⟩ := DataW.trod_int Tryz.underlying3 h1
  obtain ⟨f, hf, _, wf⟩ := DataW.trod_int Tryz.underlying3 h2
  simp only [List.cons.injEq, and_true] at hx he hf
  subst hx
  subst he
  subst hf
  exact ⟨x, e, f, rfl⟩

end Go.Proofs.YtgjpbekmkhanhaaGreat

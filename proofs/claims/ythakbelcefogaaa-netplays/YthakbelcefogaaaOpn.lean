/-
  A slice of bytes among the arguments, opened.
-/
import Derived.Test.YthakbelcefogaaaRows
import Derived.Test.YthakbelcefogaaaKit
import Derived.ProofKit
import Derived.OpenShut
import Derived.ShutString
import Derived.ChangeOld
import Derived.SizedLaws
namespace Go.Proofs.Ythakbelcefogaaa
open Go.ChangeShapes Go.WideShapes Go.ChangeAt Go.RowKit
set_option maxRecDepth 100000

theorem open_bs {H : Type} {enc : TypeId × Value → H} {W : World} {a : Option Addr} {len cap : Nat} {d : DataW H} {p : List MemPlace}
    (h : DataW.Trod enc Try.prog W 0 (fun _ => true) true 27 (.slice a len cap) d p) :
    ∃ zs, Bs W a len cap zs ∧ ((d = .nil ∧ cap = 0) ∨ ∃ all : List Int, all.length = cap ∧ d = .slice (lits .u8 (all.take len)) (lits .u8 (all.drop len))) := by
  obtain ⟨fuel, hf⟩ := h
  rcases open_ints Try.underlying27 Try.underlying5 (by kernel_rfl) hf with ⟨hcs, hx⟩ | ⟨x, l, c, zs, hcs, _, hl, hm, hz, hx, hcell, hwz⟩
  · simp [Value.cells] at hcs
    obtain ⟨rfl, rfl, rfl⟩ := hcs
    simp only [Prod.mk.injEq] at hx
    exact ⟨[], Bs.nil W, .inl ⟨hx.1, rfl⟩⟩
  · simp [Value.cells] at hcs
    obtain ⟨rfl, rfl, rfl⟩ := hcs
    simp only [Prod.mk.injEq] at hx
    simp only [if_true] at hz
    unfold maxLen at hm
    refine ⟨zs.take len, ⟨by simp; omega, hl, by omega, ?_, fun h => (by cases h), fun hn => ?_⟩, .inr ⟨zs, hz, hx.1⟩⟩
    · intro z hz'
      exact bounds_u8 (hwz z (List.mem_of_mem_take hz'))
    · obtain ⟨b, off, spot⟩ := x
      have hspot : spot = none := by simpa [Addr.add] using World.cell?_spot (hcell 0 (by omega))
      subst hspot
      refine ⟨b, off, rfl, fun i hi => ?_⟩
      rw [← Addr.add_lit, hcell i (by omega)]
      simp [List.getD, hi]

end Go.Proofs.Ythakbelcefogaaa

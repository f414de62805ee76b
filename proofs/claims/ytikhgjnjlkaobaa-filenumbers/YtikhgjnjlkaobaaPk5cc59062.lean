/-
  A slice of bools among the arguments, opened.
-/
import Derived.Test.YtikhgjnjlkaobaaPkcfeb11bc
import Derived.ProofKit
import Derived.OpenShut
import Derived.ShutString
import Derived.ChangeOld
import Derived.SizedLaws
import Derived.ChangeArms
import Derived.DataReads
namespace Go.Proofs.Ytikhgjnjlkaobaa
open Go.ChangeShapes Go.WideShapes Go.ChangeAt Go.RowKit
set_option maxRecDepth 100000

theorem open_bls {H : Type} {enc : TypeId × Value → H} {W : World} {a : Option Addr} {len cap : Nat} {d : DataW H} {p : List MemPlace}
    (h : DataW.Trod enc Try.prog W 0 (fun _ => true) true 22 (.slice a len cap) d p) : ∃ ks : List Bool, ks.length = len ∧ (len ≤ cap ∧ cap ≤ 9223372036854775807) ∧ Kp W a ks := by
  obtain ⟨fuel, hf⟩ := h
  rcases DataW.trod_slice Try.underlying22 hf with ⟨hcs, hx⟩ | ⟨x, l, c, elems, rest, n, _, hcs, hx, _, hle, hmax, hel, hat, _, _⟩
  · simp [Value.cells] at hcs
    obtain ⟨rfl, rfl, rfl⟩ := hcs
    exact ⟨[], rfl, by omega, fun i b hb => by simp at hb⟩
  · simp [Value.cells] at hcs
    obtain ⟨rfl, rfl, rfl⟩ := hcs
    unfold maxLen at hmax
    have hs : Try.prog.cellsOf 4 = 1 := by kernel_rfl
    rw [hs] at hat
    have key : ∀ k, k ≤ len → ∃ l : List Bool, l.length = k ∧ ∀ i (hi : i < l.length), W.cell? (x.add i) = some (.bool l[i]) := by
      intro k
      induction k with
      | zero => exact fun _ => ⟨[], rfl, fun i hi => by simp at hi⟩
      | succ k ih =>
        intro hk
        obtain ⟨l, h1, h3⟩ := ih (by omega)
        have hek : k < elems.length := by omega
        have := hat k (by omega)
        rw [List.getElem?_eq_getElem hek, Option.bind_eq_some_iff] at this
        obtain ⟨cs', hc, hd⟩ := this
        obtain ⟨z, rfl, _⟩ := DataW.trod_bool Try.underlying4 hd
        have hcell := (World.cells?_some hc).2.2 0 (by omega)
        refine ⟨l ++ [z], by simp [h1], fun i hi => ?_⟩
        rw [List.length_append, List.length_singleton] at hi
        rcases Nat.lt_or_ge i l.length with hlt | hge
        · rw [List.getElem_append_left hlt]
          exact h3 i hlt
        · obtain rfl : i = l.length := by omega
          subst h1
          simp only [Nat.mul_one] at hcell
          have e2 : (x.add l.length).add 0 = x.add l.length := by
            cases x
            simp only [Addr.add]
            split <;> simp_all
          rw [e2] at hcell
          rw [hcell]
          simp
    obtain ⟨l, h1, h3⟩ := key len (Nat.le_refl _)
    refine ⟨l, h1, ⟨hle, by omega⟩, fun i b hb => ?_⟩
    obtain ⟨hi, hbi⟩ := List.getElem?_eq_some_iff.1 hb
    have h00 := h3 0 (by omega)
    obtain ⟨g, off, spot⟩ := x
    have hspot : spot = none := by simpa [Addr.add] using World.cell?_spot h00
    subst hspot
    refine ⟨g, off, rfl, ?_⟩
    have := h3 i hi
    rw [Addr.add_lit] at this
    rw [this, hbi]

end Go.Proofs.Ytikhgjnjlkaobaa

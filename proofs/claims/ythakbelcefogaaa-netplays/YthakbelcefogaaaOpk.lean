/-
  A slice of slices of bytes among the arguments, opened.
-/
import Derived.Test.YthakbelcefogaaaOpn
import Derived.Test.YthakbelcefogaaaFow
import Derived.Deep.Matrix
namespace Go.Proofs.Ythakbelcefogaaa
open Go.ChangeShapes Go.WideShapes Go.ChangeAt Go.RowKit
set_option maxRecDepth 100000

theorem weightsAll_mem {H : Type} (P : Program) (e : TypeId) (d : DataW H) (x : Nat) (hx : x ∈ d.weights P e) : ∀ l : List (DataW H), d ∈ l → x ∈ DataW.weightsAll P e l := by
  intro l
  induction l with
  | nil => intro h; cases h
  | cons y l ih =>
    intro h
    simp only [DataW.weightsAll, List.mem_append]
    rcases List.mem_cons.1 h with rfl | h
    · exact .inl hx
    · exact .inr (ih h)

theorem bytes5' : Try.prog.bytesOf 5 = 1 := by kernel_rfl

theorem open_bss {H : Type} {enc : TypeId × Value → H} {W : World} {a : Option Addr} {len cap : Nat} {d : DataW H} {p : List MemPlace}
    (h : DataW.Trod enc Try.prog W 0 (fun _ => true) true 65 (.slice a len cap) d p) :
    ∃ bss, Rl W a len cap bss ∧ (∀ N, (d.weights Try.prog 65).all (· ≤ N) = true → ∀ b ∈ bss, b.length ≤ N) := by
  obtain ⟨fuel, hf⟩ := h
  rcases Deep.open_int_rows Try.underlying65 Try.underlying27 Try.underlying5 (by kernel_rfl) (by kernel_rfl) hf with ⟨hcs, hx⟩ | ⟨x, l, c, A, L, C, Z, hcs, _, hl, hm, hx, hrow⟩
  · simp [Value.cells] at hcs
    obtain ⟨rfl, rfl, rfl⟩ := hcs
    exact ⟨[], ⟨rfl, Nat.le_refl _, by omega, fun h => by omega⟩, by simp⟩
  · simp [Value.cells] at hcs
    obtain ⟨rfl, rfl, rfl⟩ := hcs
    simp only [Prod.mk.injEq] at hx
    unfold maxLen at hm
    have hget : ∀ i, i < len → ((List.range len).map (fun r => (Z r).take (L r))).getD i [] = (Z i).take (L i) := by
      intro i hi
      simp [List.getD, hi]
    refine ⟨(List.range len).map (fun r => (Z r).take (L r)), ⟨by simp, hl, by omega, fun hn => ?_⟩, fun N hN b hb => ?_⟩
    · obtain ⟨b, off, spot⟩ := x
      have hspot : spot = none := by simpa [Addr.add] using World.cell?_spot (hrow 0 (by omega)).1
      subst hspot
      refine ⟨b, off, rfl, fun i hi => ⟨A i, L i, C i, ?_, ?_⟩⟩
      · rw [← Addr.add_lit, (hrow i (by omega)).1]
      · obtain ⟨_, h2, h3, h4, h5, h6, h7⟩ := hrow i (by omega)
        rw [hget i hi]
        unfold maxLen at h3
        refine ⟨by simp; omega, h2, by omega, fun z hz => bounds_u8 (h5 z (List.mem_of_mem_take hz)), h6, fun hp => ?_⟩
        cases hAi : A i with
        | none => have := h6 hAi; omega
        | some ad =>
          obtain ⟨b', off', spot'⟩ := ad
          have hc := (h7 _ hAi).2
          have hspot' : spot' = none := by simpa [Addr.add] using World.cell?_spot (hc 0 (by omega))
          subst hspot'
          refine ⟨b', off', rfl, fun j hj => ?_⟩
          rw [← Addr.add_lit, hc j (by omega)]
          simp [List.getD, hj]
    · obtain ⟨r, hr, rfl⟩ := List.mem_map.1 hb
      have hr' := List.mem_range.1 hr
      obtain ⟨_, h2, h3, h4, h5, h6, h7⟩ := hrow r (by omega)
      cases hAi : A r with
      | none =>
        have := h6 hAi
        simp
        omega
      | some ad =>
        have hmem : (L r + (C r - L r)) * Try.prog.bytesOf 5 ∈ d.weights Try.prog 65 := by
          rw [hx.1]
          simp only [DataW.weights, Try.underlying65, List.mem_cons, List.mem_append]
          refine .inr (.inl (weightsAll_mem Try.prog 27 (Deep.intRow .u8 (A r) (L r) (Z r)) _ ?_ _ (List.mem_map.2 ⟨r, hr, rfl⟩)))
          rw [hAi]
          simp only [Deep.intRow, DataW.weights, Try.underlying27, lits, List.length_map, List.length_take, List.length_drop, h4, Nat.min_eq_left h2, List.mem_cons, true_or]
        have := List.all_eq_true.1 hN _ hmem
        simp only [bytes5', decide_eq_true_eq] at this
        simp
        omega

end Go.Proofs.Ythakbelcefogaaa

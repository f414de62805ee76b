/-
  A batch among the arguments, opened.
-/
import Derived.Test.YtelfckhiafnniaaOpb
import Derived.Test.YtelfckhiafnniaaRen
import Derived.Lib.SmallJoins
namespace Go.Proofs.Ytelfckhiafnniaa
open Go.ChangeShapes Go.WideShapes Go.ChangeAt Go.RowKit

theorem wf_i64 {x : Int} (h : (Lit.int .i64 x).wf = true) : I64 x := by
  unfold I64
  have := bounds_i64 h
  omega

theorem open_batch {H : Type} {enc : TypeId × Value → H} {W : World} {r : Reach} {b0 : Nat} {v : Value} {d : DataW H} {p : List MemPlace} (hv : Value.okWide Try.prog W r b0 28 v)
    (h : DataW.Trod enc Try.prog W 0 (fun _ => true) true 28 v d p) :
    ∃ x e f a len cap bss, v = bv x e f (.slice a len cap) ∧ I64 x ∧ I64 e ∧ I64 f ∧ Rl W a len cap bss ∧ (∀ N, (d.weights Try.prog 28).all (· ≤ N) = true → ∀ b ∈ bss, b.length ≤ N) := by
  obtain ⟨v0, v1, v2, v3, y0, y1, y2, y3, n, rfl, rfl, rfl, h0, h1, h2, h3⟩ := Go.Joins.open_agg4 Try.underlying28 (by kernel_rfl) (by kernel_rfl) hv h
  obtain ⟨x, hx, _, wx⟩ := DataW.trod_int Try.underlying2 h0
  obtain ⟨e, he, _, we⟩ := DataW.trod_int Try.underlying3 h1
  obtain ⟨f, hf, _, wf⟩ := DataW.trod_int Try.underlying2 h2
  simp only [List.cons.injEq, and_true] at hx he hf
  subst hx
  subst he
  subst hf
  have h3' : DataW.trod enc Try.prog W 0 (fun _ => true) true n 26 [v3] = some y3 := h3
  have hsl : ∃ a len cap, v3 = .slice a len cap := by
    rcases Deep.open_int_rows Try.underlying26 Try.underlying22 Try.underlying5 (by kernel_rfl) (by kernel_rfl) h3' with ⟨hcs, _⟩ | ⟨x, l, c, A, L, C, Z, hcs, _⟩
    · simp only [List.cons.injEq, and_true] at hcs
      exact ⟨_, _, _, hcs⟩
    · simp only [List.cons.injEq, and_true] at hcs
      exact ⟨_, _, _, hcs⟩
  obtain ⟨a, len, cap, rfl⟩ := hsl
  obtain ⟨bss, hR, hN⟩ := open_bss (d := y3.1) (p := y3.2) (show DataW.Trod enc Try.prog W 0 (fun _ => true) true 26 (.slice a len cap) y3.1 y3.2 from ⟨n, h3'⟩)
  refine ⟨x, e, f, a, len, cap, bss, rfl, wf_i64 wx, wf_i64 we, wf_i64 wf, hR, fun N hall => hN N ?_⟩
  refine List.all_eq_true.2 fun z hz => ?_
  refine List.all_eq_true.1 hall z ?_
  simp only [DataW.weights, Try.underlying28]
  exact DataW.weights_mem_each (j := 3) (t := 26) (d := y3.1) rfl rfl z hz

end Go.Proofs.Ytelfckhiafnniaa

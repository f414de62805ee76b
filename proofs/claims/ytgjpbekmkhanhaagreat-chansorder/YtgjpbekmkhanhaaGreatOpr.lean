/-
  Slices of things of any fixed cells among the arguments, opened.
-/
import Derived.Test.YtgjpbekmkhanhaaGreatKit
import Derived.Test.YtgjpbekmkhanhaaGreatRows
import Derived.ProofKit
import Derived.OpenShut
import Derived.ShutString
import Derived.ChangeOld
import Derived.ChangeSame
import Derived.SizedLaws
import Derived.ChangeArms
import Derived.DataReads
namespace Go.Proofs.YtgjpbekmkhanhaaGreat
open Go.ChangeShapes Go.WideShapes Go.ChangeAt Go.RowKit
set_option maxRecDepth 100000

/-- A slice of things, each of them in s cells, as it can be read. -/
structure Lr {α : Type} (f : α → List Value) (s : Nat) (Q : α → Prop) (W : World) (a : Option Addr) (n cap : Nat) (xs : List α) : Prop where
  len : xs.length = n
  le : n ≤ cap
  reach : cap ≤ 9223372036854775807
  each : ∀ x ∈ xs, Q x
  lies : 0 < n → ∃ b off, a = some ⟨b, off, none⟩ ∧ ∀ i x, xs[i]? = some x → ∀ j v, (f x)[j]? = some v → W.cell? ⟨b, off + i * s + j, none⟩ = some v

theorem open_rows {α : Type} (f : α → List Value) (s : Nat) (Q : α → Prop) {H : Type} {enc : TypeId × Value → H} {W : World} {a : Option Addr} {len cap : Nat} {d : DataW H} {p : List MemPlace} {t e : TypeId}
    (hu : Tryz.prog.underlying t = some (.slice e)) (hs : Tryz.prog.cellsOf e = s) (hp : 0 < s) (hf : ∀ v, (f v).length = s)
    (ho : ∀ fuel cs x, DataW.trod enc Tryz.prog W 0 (fun _ => true) true fuel e cs = some x → ∃ v : α, cs = f v ∧ Q v)
    (h : DataW.Trod enc Tryz.prog W 0 (fun _ => true) true t (.slice a len cap) d p) : ∃ xs : List α, Lr f s Q W a len cap xs ∧ ((d = .nil ∧ len = 0) ∨ ∃ es rs : List (DataW H), es.length = len ∧ d = .slice es rs) := by
  obtain ⟨fuel, hf'⟩ := h
  rcases DataW.trod_slice hu hf' with ⟨hcs, hx⟩ | ⟨x, l, c, elems, rest, n, _, hcs, hx, _, hle, hmax, hel, hat, _, _⟩
  · simp [Value.cells] at hcs
    obtain ⟨rfl, rfl, rfl⟩ := hcs
    simp only [Prod.mk.injEq] at hx
    exact ⟨[], ⟨rfl, Nat.le_refl _, by omega, by simp, fun h => by omega⟩, .inl ⟨hx.1, rfl⟩⟩
  · simp [Value.cells] at hcs
    obtain ⟨rfl, rfl, rfl⟩ := hcs
    simp only [Prod.mk.injEq] at hx
    unfold maxLen at hmax
    rw [hs] at hat
    have hd2 : (d = .nil ∧ len = 0) ∨ ∃ es rs : List (DataW H), es.length = len ∧ d = .slice es rs := .inr ⟨_, _, by simpa using hel, hx.1⟩
    by_cases hn0 : len = 0
    · exact ⟨[], ⟨by simp [hn0], hle, by omega, by simp, fun h => by omega⟩, hd2⟩
    have key : ∀ k, k ≤ len → ∃ l : List α, l.length = k ∧ (∀ x ∈ l, Q x) ∧ ∀ i y, l[i]? = some y → ∀ j v, (f y)[j]? = some v → W.cell? ((x.add (i * s)).add j) = some v := by
      intro k
      induction k with
      | zero => exact fun _ => ⟨[], rfl, by simp, fun i y hi => by simp at hi⟩
      | succ k ih =>
        intro hk
        obtain ⟨l, h1, h2, h3⟩ := ih (by omega)
        have hek : k < elems.length := by omega
        have := hat k (by omega)
        rw [List.getElem?_eq_getElem hek, Option.bind_eq_some_iff] at this
        obtain ⟨cs', hc, hd⟩ := this
        obtain ⟨y, hy, hQ⟩ := ho _ _ _ hd
        subst hy
        have hcell := (World.cells?_some hc).2.2
        refine ⟨l ++ [y], by simp [h1], fun z hz => ?_, fun i z hi => ?_⟩
        · rcases List.mem_append.1 hz with hz | hz
          · exact h2 z hz
          · simp only [List.mem_singleton] at hz
            subst hz
            exact hQ
        · rcases Nat.lt_or_ge i l.length with hlt | hge
          · rw [List.getElem?_append_left hlt] at hi
            exact h3 i z hi
          · rw [List.getElem?_append_right hge] at hi
            have hi0 : i - l.length = 0 := by
              rcases Nat.lt_or_ge (i - l.length) 1 with h | h
              · omega
              · rw [List.getElem?_eq_none (by simpa using h)] at hi
                cases hi
            rw [hi0] at hi
            simp only [List.getElem?_cons_zero, Option.some.injEq] at hi
            subst hi
            obtain rfl : i = l.length := by omega
            intro j v hj
            have hjl : j < (f y).length := by
              rcases Nat.lt_or_ge j (f y).length with h | h
              · exact h
              · rw [List.getElem?_eq_none h] at hj
                cases hj
            have := hcell j (by rw [hf] at hjl; first | exact hjl | simpa using hjl)
            rw [hj] at this
            rw [h1]
            exact this
    obtain ⟨l, h1, h2, h3⟩ := key len (Nat.le_refl _)
    have hl0 : l[0]? = some l[0] := List.getElem?_eq_getElem (by omega)
    have hfp : 0 < (f l[0]).length := by rw [hf]; exact hp
    have hf0 : (f l[0])[0]? = some (f l[0])[0] := List.getElem?_eq_getElem hfp
    obtain ⟨b, off, spot⟩ := x
    have hspot : spot = none := by simpa [Addr.add] using World.cell?_spot (h3 0 _ hl0 0 _ hf0)
    subst hspot
    refine ⟨l, ⟨h1, hle, by omega, h2, fun _ => ⟨b, off, rfl, fun i y hi j v hj => ?_⟩⟩, hd2⟩
    have := h3 i y hi j v hj
    rwa [Addr.add_lit, Addr.add_lit] at this

end Go.Proofs.YtgjpbekmkhanhaaGreat

/-
  Slices of ints and of pairs of ints among the arguments, opened.
-/
import Derived.Test.YtaapcanoaidpjaaIxa
import Derived.ProofKit
import Derived.OpenShut
import Derived.ShutString
import Derived.ChangeOld
import Derived.SizedLaws
import Derived.ChangeArms
import Derived.DataReads
namespace Go.Proofs.Ytaapcanoaidpjaa
open Go.ChangeShapes Go.WideShapes Go.ChangeAt Go.RowKit

theorem open_iz {H : Type} {enc : TypeId × Value → H} {W : World} {a : Option Addr} {len cap : Nat} {d : DataW H} {p : List MemPlace}
    (h : DataW.Trod enc Try.prog W 0 (fun _ => true) true 26 (.slice a len cap) d p) : ∃ zs, Is W a len cap zs ∧ ((d = .nil ∧ len = 0) ∨ ∃ es rs : List (DataW H), es.length = len ∧ d = .slice es rs) := by
  obtain ⟨fuel, hf⟩ := h
  rcases open_ints Try.underlying26 Try.underlying3 (by kernel_rfl) hf with ⟨hcs, hx⟩ | ⟨x, l, c, zs, hcs, _, hl, hm, hz, hx, hcell, hwz⟩
  · simp [Value.cells] at hcs
    obtain ⟨rfl, rfl, rfl⟩ := hcs
    simp only [Prod.mk.injEq] at hx
    exact ⟨[], ⟨rfl, Nat.le_refl _, by omega, fun h => by omega⟩, .inl ⟨hx.1, rfl⟩⟩
  · simp [Value.cells] at hcs
    obtain ⟨rfl, rfl, rfl⟩ := hcs
    simp only [if_true] at hz
    simp only [Prod.mk.injEq] at hx
    unfold maxLen at hm
    refine ⟨zs.take len, ⟨by simp; omega, hl, by omega, fun hn => ?_⟩, .inr ⟨_, _, ?_, hx.1⟩⟩
    · obtain ⟨b, off, spot⟩ := x
      have hspot : spot = none := by simpa [Addr.add] using World.cell?_spot (hcell 0 (by omega))
      subst hspot
      refine ⟨b, off, rfl, fun i hi => ?_⟩
      rw [← Addr.add_lit, hcell i (by omega)]
      simp [List.getD, hi]
    · simp [lits]
      omega

theorem open_prs {H : Type} {enc : TypeId × Value → H} {W : World} {a : Option Addr} {len cap : Nat} {d : DataW H} {p : List MemPlace}
    (h : DataW.Trod enc Try.prog W 0 (fun _ => true) true 22 (.slice a len cap) d p) : ∃ ps, Pr W a len cap ps ∧ ((d = .nil ∧ len = 0) ∨ ∃ es rs : List (DataW H), es.length = len ∧ d = .slice es rs) := by
  obtain ⟨fuel, hf⟩ := h
  rcases DataW.trod_slice Try.underlying22 hf with ⟨hcs, hx⟩ | ⟨x, l, c, elems, rest, n, _, hcs, hx, _, hle, hmax, hel, hat, _, _⟩
  · simp [Value.cells] at hcs
    obtain ⟨rfl, rfl, rfl⟩ := hcs
    simp only [Prod.mk.injEq] at hx
    exact ⟨[], ⟨rfl, Nat.le_refl _, by omega, fun h => by omega⟩, .inl ⟨hx.1, rfl⟩⟩
  · simp [Value.cells] at hcs
    obtain ⟨rfl, rfl, rfl⟩ := hcs
    simp only [Prod.mk.injEq] at hx
    unfold maxLen at hmax
    have hs : Try.prog.cellsOf 27 = 2 := by kernel_rfl
    have hs3 : Try.prog.cellsOf 3 = 1 := by kernel_rfl
    rw [hs] at hat
    by_cases hn0 : len = 0
    · exact ⟨[], ⟨by simp [hn0], hle, by omega, fun h => by omega⟩, .inr ⟨_, _, by simpa using hel, hx.1⟩⟩
    have hsp : x.spot = none := by
      have := hat 0 (by omega)
      rw [List.getElem?_eq_getElem (by omega), Option.bind_eq_some_iff] at this
      obtain ⟨cs', hc, hd⟩ := this
      obtain ⟨xs, m, _, _, hl2, hxl, hpart⟩ := DataW.trod_array Try.underlying27 hd
      rw [hs] at hl2
      have c0 := (World.cells?_some hc).2.2 0 (by omega)
      rw [List.getElem?_eq_getElem (by omega)] at c0
      have h := World.cell?_spot c0
      cases x
      simpa [Addr.add] using h
    obtain ⟨b, off, spot⟩ := x
    simp only at hsp
    subst hsp
    have key : ∀ k, k ≤ len → ∃ l : List (Int × Int), l.length = k ∧ ∀ i (hi : i < l.length), W.cell? ((⟨b, off, none⟩ : Addr).add (i * 2)) = some (.int .i64 l[i].1) ∧ W.cell? ((⟨b, off, none⟩ : Addr).add (i * 2 + 1)) = some (.int .i64 l[i].2) := by
      intro k
      induction k with
      | zero => exact fun _ => ⟨[], rfl, fun i hi => by simp at hi⟩
      | succ k ih =>
        intro hk
        obtain ⟨l, h1, h3⟩ := ih (by omega)
        have hek : k < elems.length := by omega
        have := hat k (by omega)
        rw [List.getElem?_eq_getElem hek, Option.bind_eq_some_iff] at this
        obtain ⟨cs', hc, hd⟩ := this
        obtain ⟨xs, m, _, _, hl2, hxl, hpart⟩ := DataW.trod_array Try.underlying27 hd
        rw [hs] at hl2
        rw [hs3] at hpart
        have p0 := hpart 0 (by omega)
        have p1 := hpart 1 (by omega)
        rw [List.getElem?_eq_getElem (by omega)] at p0 p1
        obtain ⟨z0, e0, _, _⟩ := DataW.trod_int Try.underlying3 p0
        obtain ⟨z1, e1, _, _⟩ := DataW.trod_int Try.underlying3 p1
        have hcell := (World.cells?_some hc).2.2
        have c0 := hcell 0 (by omega)
        have c1 := hcell 1 (by omega)
        have ecs : cs' = [.int .i64 z0, .int .i64 z1] := by
          match cs', hl2, e0, e1 with
          | [u, v], _, e0, e1 =>
            simp at e0 e1
            rw [e0, e1]
        subst ecs
        refine ⟨l ++ [(z0, z1)], by simp [h1], fun i hi => ?_⟩
        rw [List.length_append, List.length_singleton] at hi
        rcases Nat.lt_or_ge i l.length with hlt | hge
        · rw [List.getElem_append_left hlt]
          exact h3 i hlt
        · obtain rfl : i = l.length := by omega
          subst h1
          rw [Addr.add_lit, Addr.add_lit] at c0 c1
          rw [Addr.add_lit, Addr.add_lit]
          rw [Nat.add_zero] at c0
          rw [Nat.add_assoc] at c1
          refine ⟨by rw [c0]; simp, by rw [c1]; simp⟩
    obtain ⟨l, h1, h3⟩ := key len (Nat.le_refl _)
    refine ⟨l, ⟨h1, hle, by omega, fun hn => ?_⟩, .inr ⟨_, _, ?_, hx.1⟩⟩
    · refine ⟨b, off, rfl, fun i hi => ?_⟩
      have := h3 i (by omega)
      rw [Addr.add_lit, Addr.add_lit] at this
      have e : l.getD i (0, 0) = l[i] := by simp [List.getD, show i < l.length by omega]
      rw [e, Nat.add_assoc]
      exact this
    · simp
      omega

end Go.Proofs.Ytaapcanoaidpjaa

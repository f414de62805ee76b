/-
  The arguments of the queue's laws, opened.
-/
import Derived.Test.YthaofaibnckfbaaOpr
import Derived.Test.YthaofaibnckfbaaQubI
import Derived.Test.YthaofaibnckfbaaQubS
namespace Go.Proofs.Ythaofaibnckfbaa
open Go.ChangeShapes Go.WideShapes Go.ChangeAt Go.RowKit

theorem open_ints' {H : Type} {enc : TypeId × Value → H} {W : World} {a : Option Addr} {len cap : Nat} {d : DataW H} {p : List MemPlace}
    (h : DataW.Trod enc Try.prog W 0 (fun _ => true) true 22 (.slice a len cap) d p) : ∃ xs, QI.Ls W a len cap xs ∧ ((d = .nil ∧ len = 0) ∨ ∃ es rs : List (DataW H), es.length = len ∧ d = .slice es rs) := by
  obtain ⟨xs, hL, hd⟩ := open_rows (fun z : Int => [Value.int .i64 z]) 1 (fun _ => True) Try.underlying22 (by kernel_rfl) (by omega) (fun _ => rfl) (fun fuel cs x h => by
    obtain ⟨z, hz, _⟩ := DataW.trod_int Try.underlying3 h
    exact ⟨z, hz, trivial⟩) h
  refine ⟨xs, ⟨hL.len, hL.le, hL.reach, fun hn => ?_⟩, hd⟩
  obtain ⟨b, off, ha, hc⟩ := hL.lies hn
  refine ⟨b, off, ha, fun i hi => ?_⟩
  have hl := hL.len
  have := hc i (xs.getD i 0) (by simp [List.getD, List.getElem?_eq_getElem (by omega : i < xs.length)]) 0 _ rfl
  simpa using this

theorem open_texts {H : Type} {enc : TypeId × Value → H} {W : World} {a : Option Addr} {len cap : Nat} {d : DataW H} {p : List MemPlace}
    (h : DataW.Trod enc Try.prog W 0 (fun _ => true) true 45 (.slice a len cap) d p) : ∃ xs, QS.Ls W a len cap xs ∧ ((d = .nil ∧ len = 0) ∨ ∃ es rs : List (DataW H), es.length = len ∧ d = .slice es rs) := by
  obtain ⟨xs, hL, hd⟩ := open_rows (fun z : ByteArray => [Value.string z]) 1 (fun _ => True) Try.underlying45 (by kernel_rfl) (by omega) (fun _ => rfl) (fun fuel cs x h => by
    obtain ⟨z, hz, _⟩ := DataW.trod_string Try.underlying9 h
    exact ⟨z, hz, trivial⟩) h
  refine ⟨xs, ⟨hL.len, hL.le, hL.reach, fun hn => ?_⟩, hd⟩
  obtain ⟨b, off, ha, hc⟩ := hL.lies hn
  refine ⟨b, off, ha, fun i hi => ?_⟩
  have hl := hL.len
  have := hc i (xs.getD i ⟨#[]⟩) (by simp [List.getD, List.getElem?_eq_getElem (by omega : i < xs.length)]) 0 _ rfl
  simpa using this

/-- A slice of truths. -/
structure Bls (W : World) (a : Option Addr) (n cap : Nat) (bs : List Bool) : Prop where
  len : bs.length = n
  le : n ≤ cap
  reach : cap ≤ 9223372036854775807
  lies : 0 < n → ∃ b off, a = some ⟨b, off, none⟩ ∧ ∀ i, i < n → W.cell? ⟨b, off + i, none⟩ = some (.bool (bs.getD i false))

theorem Bls.keep {w w' : World} {a : Option Addr} {n cap : Nat} {xs : List Bool} (h : Bls w a n cap xs) (hb : Below w.heap.size w w') : Bls w' a n cap xs := by
  refine ⟨h.len, h.le, h.reach, fun hn => ?_⟩
  obtain ⟨b, off, ha, hc⟩ := h.lies hn
  refine ⟨b, off, ha, fun i hi => ?_⟩
  have h1 := hc i hi
  rw [hb.cell (cell_lt h1)]
  exact h1

theorem open_truths {H : Type} {enc : TypeId × Value → H} {W : World} {a : Option Addr} {len cap : Nat} {d : DataW H} {p : List MemPlace}
    (h : DataW.Trod enc Try.prog W 0 (fun _ => true) true 46 (.slice a len cap) d p) : ∃ xs, Bls W a len cap xs ∧ ((d = .nil ∧ len = 0) ∨ ∃ es rs : List (DataW H), es.length = len ∧ d = .slice es rs) := by
  obtain ⟨xs, hL, hd⟩ := open_rows (fun z : Bool => [Value.bool z]) 1 (fun _ => True) Try.underlying46 (by kernel_rfl) (by omega) (fun _ => rfl) (fun fuel cs x h => by
    obtain ⟨z, hz, _⟩ := DataW.trod_bool Try.underlying4 h
    exact ⟨z, hz, trivial⟩) h
  refine ⟨xs, ⟨hL.len, hL.le, hL.reach, fun hn => ?_⟩, hd⟩
  obtain ⟨b, off, ha, hc⟩ := hL.lies hn
  refine ⟨b, off, ha, fun i hi => ?_⟩
  have hl := hL.len
  have := hc i (xs.getD i false) (by simp [List.getD, List.getElem?_eq_getElem (by omega : i < xs.length)]) 0 _ rfl
  simpa using this

/-- Calls: a kind and a number each. -/
structure Cal (W : World) (a : Option Addr) (n cap : Nat) (ps : List (Int × Int)) : Prop where
  len : ps.length = n
  le : n ≤ cap
  reach : cap ≤ 9223372036854775807
  i6 : ∀ p ∈ ps, I6 p.1 ∧ I6 p.2
  lies : 0 < n → ∃ b off, a = some ⟨b, off, none⟩ ∧ ∀ i, i < n → W.cell? ⟨b, off + i * 2, none⟩ = some (.int .i64 (ps.getD i (0, 0)).1) ∧ W.cell? ⟨b, off + i * 2 + 1, none⟩ = some (.int .i64 (ps.getD i (0, 0)).2)

theorem Cal.keep {w w' : World} {a : Option Addr} {n cap : Nat} {ps : List (Int × Int)} (h : Cal w a n cap ps) (hb : Below w.heap.size w w') : Cal w' a n cap ps := by
  refine ⟨h.len, h.le, h.reach, h.i6, fun hn => ?_⟩
  obtain ⟨b, off, ha, hc⟩ := h.lies hn
  refine ⟨b, off, ha, fun i hi => ?_⟩
  obtain ⟨h1, h2⟩ := hc i hi
  exact ⟨(hb.cell (cell_lt h1)).trans h1, (hb.cell (cell_lt h2)).trans h2⟩

theorem open_calls {H : Type} {enc : TypeId × Value → H} {W : World} {a : Option Addr} {len cap : Nat} {d : DataW H} {p : List MemPlace}
    (h : DataW.Trod enc Try.prog W 0 (fun _ => true) true 23 (.slice a len cap) d p) : ∃ xs, Cal W a len cap xs ∧ ((d = .nil ∧ len = 0) ∨ ∃ es rs : List (DataW H), es.length = len ∧ d = .slice es rs) := by
  have hs3 : Try.prog.cellsOf 3 = 1 := by kernel_rfl
  have hs : Try.prog.cellsOf 28 = 2 := by kernel_rfl
  obtain ⟨xs, hL, hd⟩ := open_rows (fun z : Int × Int => [Value.int .i64 z.1, Value.int .i64 z.2]) 2 (fun z => I6 z.1 ∧ I6 z.2) Try.underlying23 hs (by omega) (fun _ => rfl) (fun fuel cs x h => by
    obtain ⟨y0, y1, n, _, hl, h0, h1⟩ := trod_struct2 Try.underlying28 h
    rw [hs] at hl
    simp only [hs3] at h0 h1
    obtain ⟨z0, e0, _, w0⟩ := DataW.trod_int Try.underlying3 h0
    obtain ⟨z1, e1, _, w1⟩ := DataW.trod_int Try.underlying3 h1
    refine ⟨(z0, z1), ?_, ?_, ?_⟩
    · match cs, hl, e0, e1 with
      | [u, v], _, e0, e1 =>
        simp at e0 e1
        rw [e0, e1]
    · have := bounds_i64 w0
      exact this
    · have := bounds_i64 w1
      exact this) h
  refine ⟨xs, ⟨hL.len, hL.le, hL.reach, hL.each, fun hn => ?_⟩, hd⟩
  obtain ⟨b, off, ha, hc⟩ := hL.lies hn
  refine ⟨b, off, ha, fun i hi => ?_⟩
  have hl := hL.len
  have hx : xs[i]? = some (xs.getD i (0, 0)) := by simp [List.getD, List.getElem?_eq_getElem (by omega : i < xs.length)]
  exact ⟨by simpa using hc i _ hx 0 _ rfl, by simpa using hc i _ hx 1 _ rfl⟩

end Go.Proofs.Ythaofaibnckfbaa

/-
  The arguments of the sched's laws, opened.
-/
import Derived.Test.YtnnmlndjcaeegaaOpr
import Derived.Test.YtnnmlndjcaeegaaQubI
namespace Go.Proofs.Ytnnmlndjcaeegaa
open Go.ChangeShapes Go.WideShapes Go.ChangeAt Go.RowKit

theorem open_ints' {H : Type} {enc : TypeId × Value → H} {W : World} {a : Option Addr} {len cap : Nat} {d : DataW H} {p : List MemPlace}
    (h : DataW.Trod enc Try.prog W 0 (fun _ => true) true 25 (.slice a len cap) d p) : ∃ xs, QI.Ls W a len cap xs ∧ ((d = .nil ∧ len = 0) ∨ ∃ es rs : List (DataW H), es.length = len ∧ d = .slice es rs) := by
  obtain ⟨xs, hL, hd⟩ := open_rows (fun z : Int => [Value.int .i64 z]) 1 (fun _ => True) Try.underlying25 (by kernel_rfl) (by omega) (fun _ => rfl) (fun fuel cs x h => by
    obtain ⟨z, hz, _⟩ := DataW.trod_int Try.underlying3 h
    exact ⟨z, hz, trivial⟩) h
  refine ⟨xs, ⟨hL.len, hL.le, hL.reach, fun hn => ?_⟩, hd⟩
  obtain ⟨b, off, ha, hc⟩ := hL.lies hn
  refine ⟨b, off, ha, fun i hi => ?_⟩
  have hl := hL.len
  have := hc i (xs.getD i 0) (by simp [List.getD, List.getElem?_eq_getElem (by omega : i < xs.length)]) 0 _ rfl
  simpa using this

/-- A slice of truths. -/
structure Bls (W : World) (a : Option Addr) (n cap : Nat) (bs : List Bool) : Prop where
  len : bs.length = n
  le : n ≤ cap
  reach : cap ≤ 9223372036854775807
  lies : 0 < n → ∃ b off, a = some ⟨b, off, none⟩ ∧ ∀ i, i < n → W.cell? ⟨b, off + i, none⟩ = some (.bool (bs.getD i false))

theorem Bls.keep {w w' : World} {a : Option Addr} {n cap : Nat} {xs : List Bool} (h : Bls w a n cap xs) (hb : Below w.heap.size w w') : Bls w' a n cap xs := by
  refine ⟨h.len, h.le, h.reach, fun hn => ?_⟩
  obtain ⟨b, off, ha, hc⟩ := h.lies hn
  refine ⟨b, off, ha, fun i hi => ?_⟩
  have h1 := hc i hi
  rw [hb.cell (cell_lt h1)]
  exact h1

theorem open_truths {H : Type} {enc : TypeId × Value → H} {W : World} {a : Option Addr} {len cap : Nat} {d : DataW H} {p : List MemPlace}
    (h : DataW.Trod enc Try.prog W 0 (fun _ => true) true 51 (.slice a len cap) d p) : ∃ xs, Bls W a len cap xs ∧ ((d = .nil ∧ len = 0) ∨ ∃ es rs : List (DataW H), es.length = len ∧ d = .slice es rs) := by
  obtain ⟨xs, hL, hd⟩ := open_rows (fun z : Bool => [Value.bool z]) 1 (fun _ => True) Try.underlying51 (by kernel_rfl) (by omega) (fun _ => rfl) (fun fuel cs x h => by
    obtain ⟨z, hz, _⟩ := DataW.trod_bool Try.underlying4 h
    exact ⟨z, hz, trivial⟩) h
  refine ⟨xs, ⟨hL.len, hL.le, hL.reach, fun hn => ?_⟩, hd⟩
  obtain ⟨b, off, ha, hc⟩ := hL.lies hn
  refine ⟨b, off, ha, fun i hi => ?_⟩
  have hl := hL.len
  have := hc i (xs.getD i false) (by simp [List.getD, List.getElem?_eq_getElem (by omega : i < xs.length)]) 0 _ rfl
  simpa using this

/-- A slice of great numbers. -/
structure Uls (W : World) (a : Option Addr) (n cap : Nat) (us : List Nat) : Prop where
  len : us.length = n
  le : n ≤ cap
  reach : cap ≤ 9223372036854775807
  few : ∀ u ∈ us, u ≤ 18446744073709551615
  lies : 0 < n → ∃ b off, a = some ⟨b, off, none⟩ ∧ ∀ i, i < n → W.cell? ⟨b, off + i, none⟩ = some (.int .u64 (us.getD i 0 : Nat))

theorem Uls.keep {w w' : World} {a : Option Addr} {n cap : Nat} {xs : List Nat} (h : Uls w a n cap xs) (hb : Below w.heap.size w w') : Uls w' a n cap xs := by
  refine ⟨h.len, h.le, h.reach, h.few, fun hn => ?_⟩
  obtain ⟨b, off, ha, hc⟩ := h.lies hn
  refine ⟨b, off, ha, fun i hi => ?_⟩
  have h1 := hc i hi
  rw [hb.cell (cell_lt h1)]
  exact h1

theorem bounds_u64 {z : Int} (h : (Lit.int .u64 z).wf = true) : 0 ≤ z ∧ z ≤ 18446744073709551615 := by
  simp [Lit.wf, IntKind.min, IntKind.max, IntKind.signed, IntKind.bits] at h
  exact h

theorem open_u64s {H : Type} {enc : TypeId × Value → H} {W : World} {a : Option Addr} {len cap : Nat} {d : DataW H} {p : List MemPlace}
    (h : DataW.Trod enc Try.prog W 0 (fun _ => true) true 50 (.slice a len cap) d p) : ∃ xs, Uls W a len cap xs ∧ ((d = .nil ∧ len = 0) ∨ ∃ es rs : List (DataW H), es.length = len ∧ d = .slice es rs) := by
  obtain ⟨xs, hL, hd⟩ := open_rows (fun z : Nat => [Value.int .u64 (z : Int)]) 1 (fun z => z ≤ 18446744073709551615) Try.underlying50 (by kernel_rfl) (by omega) (fun _ => rfl) (fun fuel cs x h => by
    obtain ⟨z, hz, _, w0⟩ := DataW.trod_int Try.underlying26 h
    have hb := bounds_u64 w0
    exact ⟨z.toNat, by rw [hz, Int.toNat_of_nonneg hb.1], by omega⟩) h
  refine ⟨xs, ⟨hL.len, hL.le, hL.reach, hL.each, fun hn => ?_⟩, hd⟩
  obtain ⟨b, off, ha, hc⟩ := hL.lies hn
  refine ⟨b, off, ha, fun i hi => ?_⟩
  have hl := hL.len
  have := hc i (xs.getD i 0) (by simp [List.getD, List.getElem?_eq_getElem (by omega : i < xs.length)]) 0 _ rfl
  simpa using this

theorem trod3 {H : Type} {enc : TypeId × Value → H} {P : Program} {w : World} {base : Nat} {spare : Nat → Bool} {held : Bool} {t : TypeId} {f0 f1 f2 : Field} {fuel : Nat} {cs : List Value} {x : DataW H × List MemPlace} (ht : P.underlying t = some (.struct #[f0, f1, f2])) (h : DataW.trod enc P w base spare held fuel t cs = some x) :
    ∃ y0 y1 y2 n, cs.length = P.cellsOf t ∧ DataW.trod enc P w base spare held n f0.type ((cs.drop f0.offset).take (P.cellsOf f0.type)) = some y0 ∧
      DataW.trod enc P w base spare held n f1.type ((cs.drop f1.offset).take (P.cellsOf f1.type)) = some y1 ∧ DataW.trod enc P w base spare held n f2.type ((cs.drop f2.offset).take (P.cellsOf f2.type)) = some y2 := by
  obtain ⟨xs, n, _, rfl, hl, hlen, hf⟩ := DataW.trod_struct ht h
  match xs, hlen with
  | [y0, y1, y2], _ => exact ⟨y0, y1, y2, n, hl, by simpa using hf 0 f0 rfl, by simpa using hf 1 f1 rfl, by simpa using hf 2 f2 rfl⟩

/-- Calls: a kind, a task and a pick each. -/
structure Cal (W : World) (a : Option Addr) (n cap : Nat) (ps : List (Int × Int × Nat)) : Prop where
  len : ps.length = n
  le : n ≤ cap
  reach : cap ≤ 9223372036854775807
  few : ∀ p ∈ ps, p.2.2 ≤ 18446744073709551615
  lies : 0 < n → ∃ b off, a = some ⟨b, off, none⟩ ∧ ∀ i, i < n → W.cell? ⟨b, off + i * 3, none⟩ = some (.int .i64 (ps.getD i (0, 0, 0)).1) ∧ W.cell? ⟨b, off + i * 3 + 1, none⟩ = some (.int .i64 (ps.getD i (0, 0, 0)).2.1) ∧ W.cell? ⟨b, off + i * 3 + 2, none⟩ = some (.int .u64 ((ps.getD i (0, 0, 0)).2.2 : Nat))

theorem Cal.keep {w w' : World} {a : Option Addr} {n cap : Nat} {ps : List (Int × Int × Nat)} (h : Cal w a n cap ps) (hb : Below w.heap.size w w') : Cal w' a n cap ps := by
  refine ⟨h.len, h.le, h.reach, h.few, fun hn => ?_⟩
  obtain ⟨b, off, ha, hc⟩ := h.lies hn
  refine ⟨b, off, ha, fun i hi => ?_⟩
  obtain ⟨h1, h2, h3⟩ := hc i hi
  exact ⟨(hb.cell (cell_lt h1)).trans h1, (hb.cell (cell_lt h2)).trans h2, (hb.cell (cell_lt h3)).trans h3⟩

theorem open_calls {H : Type} {enc : TypeId × Value → H} {W : World} {a : Option Addr} {len cap : Nat} {d : DataW H} {p : List MemPlace}
    (h : DataW.Trod enc Try.prog W 0 (fun _ => true) true 22 (.slice a len cap) d p) : ∃ xs, Cal W a len cap xs ∧ ((d = .nil ∧ len = 0) ∨ ∃ es rs : List (DataW H), es.length = len ∧ d = .slice es rs) := by
  have hs3 : Try.prog.cellsOf 3 = 1 := by kernel_rfl
  have hsu : Try.prog.cellsOf 26 = 1 := by kernel_rfl
  have hs : Try.prog.cellsOf 28 = 3 := by kernel_rfl
  obtain ⟨xs, hL, hd⟩ := open_rows (fun z : Int × Int × Nat => [Value.int .i64 z.1, Value.int .i64 z.2.1, Value.int .u64 (z.2.2 : Int)]) 3 (fun z => z.2.2 ≤ 18446744073709551615) Try.underlying22 hs (by omega) (fun _ => rfl) (fun fuel cs x h => by
    obtain ⟨y0, y1, y2, n, hl, h0, h1, h2⟩ := trod3 Try.underlying28 h
    rw [hs] at hl
    simp only [hs3, hsu] at h0 h1 h2
    obtain ⟨z0, e0, _, w0⟩ := DataW.trod_int Try.underlying3 h0
    obtain ⟨z1, e1, _, w1⟩ := DataW.trod_int Try.underlying3 h1
    obtain ⟨z2, e2, _, w2⟩ := DataW.trod_int Try.underlying26 h2
    have hb := bounds_u64 w2
    refine ⟨(z0, z1, z2.toNat), ?_, ?_⟩
    · match cs, hl, e0, e1, e2 with
      | [u, v, t], _, e0, e1, e2 =>
        simp at e0 e1 e2
        rw [e0, e1, e2, Int.toNat_of_nonneg hb.1]
    · show z2.toNat ≤ 18446744073709551615
      omega) h
  refine ⟨xs, ⟨hL.len, hL.le, hL.reach, hL.each, fun hn => ?_⟩, hd⟩
  obtain ⟨b, off, ha, hc⟩ := hL.lies hn
  refine ⟨b, off, ha, fun i hi => ?_⟩
  have hl := hL.len
  have hx : xs[i]? = some (xs.getD i (0, 0, 0)) := by simp [List.getD, List.getElem?_eq_getElem (by omega : i < xs.length)]
  exact ⟨by simpa using hc i _ hx 0 _ rfl, by simpa using hc i _ hx 1 _ rfl, by simpa using hc i _ hx 2 _ rfl⟩

end Go.Proofs.Ytnnmlndjcaeegaa

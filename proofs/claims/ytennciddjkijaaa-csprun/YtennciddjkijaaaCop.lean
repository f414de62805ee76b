/-
  The arguments of the csp's laws, opened: programs, and picks.
-/
import Derived.Test.YtennciddjkijaaaOpr
import Derived.Test.YtennciddjkijaaaCsa
namespace Go.Proofs.Ytennciddjkijaaa
open Go.ChangeShapes Go.WideShapes Go.ChangeAt Go.RowKit QI
set_option maxRecDepth 100000

/-- A slice of great numbers. -/
structure Uls (W : World) (a : Option Addr) (n cap : Nat) (us : List Nat) : Prop where
  len : us.length = n
  le : n ≤ cap
  reach : cap ≤ 9223372036854775807
  few : ∀ u ∈ us, u ≤ 18446744073709551615
  lies : 0 < n → ∃ b off, a = some ⟨b, off, none⟩ ∧ ∀ i, i < n → W.cell? ⟨b, off + i, none⟩ = some (.int .u64 (us.getD i 0 : Nat))

theorem Uls.low {w w' : World} {a : Option Addr} {n cap : Nat} {xs : List Nat} (h : Uls w a n cap xs) (hb : Below w.heap.size w w') : Uls w' a n cap xs := by
  refine ⟨h.len, h.le, h.reach, h.few, fun hn => ?_⟩
  obtain ⟨b, off, ha, hc⟩ := h.lies hn
  refine ⟨b, off, ha, fun i hi => ?_⟩
  have h1 := hc i hi
  rw [hb.cell (cell_lt h1)]
  exact h1

theorem bounds_u64 {z : Int} (h : (Lit.int .u64 z).wf = true) : 0 ≤ z ∧ z ≤ 18446744073709551615 := by
  simp [Lit.wf, IntKind.min, IntKind.max, IntKind.signed, IntKind.bits] at h
  exact h
theorem bounds_i6 {z : Int} (h : (Lit.int .i64 z).wf = true) : I6 z := by
  simp [Lit.wf, IntKind.min, IntKind.max, IntKind.signed, IntKind.bits] at h
  exact ⟨by omega, by omega⟩

theorem open_u64s {H : Type} {enc : TypeId × Value → H} {W : World} {a : Option Addr} {len cap : Nat} {d : DataW H} {p : List MemPlace}
    (h : DataW.Trod enc Try.prog W 0 (fun _ => true) true 23 (.slice a len cap) d p) : ∃ xs, Uls W a len cap xs ∧ ((d = .nil ∧ len = 0) ∨ ∃ es rs : List (DataW H), es.length = len ∧ d = .slice es rs) := by
  obtain ⟨xs, hL, hd⟩ := open_rows (fun z : Nat => [Value.int .u64 (z : Int)]) 1 (fun z => z ≤ 18446744073709551615) Try.underlying23 (by kernel_rfl) (by omega) (fun _ => rfl) (fun fuel cs x h => by
    obtain ⟨z, hz, _, w0⟩ := DataW.trod_int Try.underlying41 h
    have hb := bounds_u64 w0
    exact ⟨z.toNat, by rw [hz, Int.toNat_of_nonneg hb.1], by omega⟩) h
  refine ⟨xs, ⟨hL.len, hL.le, hL.reach, hL.each, fun hn => ?_⟩, hd⟩
  obtain ⟨b, off, ha, hc⟩ := hL.lies hn
  refine ⟨b, off, ha, fun i hi => ?_⟩
  have hl := hL.len
  have := hc i (xs.getD i 0) (by simp [List.getD, List.getElem?_eq_getElem (by omega : i < xs.length)]) 0 _ rfl
  simpa using this

theorem trod3 {H : Type} {enc : TypeId × Value → H} {P : Program} {w : World} {base : Nat} {spare : Nat → Bool} {held : Bool} {t : TypeId} {f0 f1 f2 : Field} {fuel : Nat} {cs : List Value} {x : DataW H × List MemPlace} (ht : P.underlying t = some (.struct #[f0, f1, f2])) (h : DataW.trod enc P w base spare held fuel t cs = some x) :
    ∃ y0 y1 y2 n, cs.length = P.cellsOf t ∧ DataW.trod enc P w base spare held n f0.type ((cs.drop f0.offset).take (P.cellsOf f0.type)) = some y0 ∧
      DataW.trod enc P w base spare held n f1.type ((cs.drop f1.offset).take (P.cellsOf f1.type)) = some y1 ∧ DataW.trod enc P w base spare held n f2.type ((cs.drop f2.offset).take (P.cellsOf f2.type)) = some y2 := by
  obtain ⟨xs, n, _, rfl, hl, hlen, hf⟩ := DataW.trod_struct ht h
  match xs, hlen with
  | [y0, y1, y2], _ => exact ⟨y0, y1, y2, n, hl, by simpa using hf 0 f0 rfl, by simpa using hf 1 f1 rfl, by simpa using hf 2 f2 rfl⟩

theorem open_dos {H : Type} {enc : TypeId × Value → H} {W : World} {a : Option Addr} {len cap : Nat} {d : DataW H} {p : List MemPlace}
    (h : DataW.Trod enc Try.prog W 0 (fun _ => true) true 68 (.slice a len cap) d p) : ∃ xs, Dos (fun k => k < W.heap.size) W a len cap xs := by
  have hs3 : Try.prog.cellsOf 3 = 1 := by kernel_rfl
  have hs : Try.prog.cellsOf 67 = 3 := by kernel_rfl
  obtain ⟨xs, hL, hd⟩ := open_rows (fun z : Dop => [Value.int .i64 z.1, Value.int .i64 z.2.1, Value.int .i64 z.2.2]) 3 (fun z => I6 z.1 ∧ I6 z.2.1 ∧ I6 z.2.2) Try.underlying68 hs (by omega) (fun _ => rfl) (fun fuel cs x h => by
    obtain ⟨y0, y1, y2, n, hl, h0, h1, h2⟩ := trod3 Try.underlying67 h
    rw [hs] at hl
    simp only [hs3] at h0 h1 h2
    obtain ⟨z0, e0, _, w0⟩ := DataW.trod_int Try.underlying3 h0
    obtain ⟨z1, e1, _, w1⟩ := DataW.trod_int Try.underlying3 h1
    obtain ⟨z2, e2, _, w2⟩ := DataW.trod_int Try.underlying3 h2
    refine ⟨(z0, z1, z2), ?_, bounds_i6 w0, bounds_i6 w1, bounds_i6 w2⟩
    match cs, hl, e0, e1, e2 with
    | [u, v, t], _, e0, e1, e2 =>
      simp at e0 e1 e2
      rw [e0, e1, e2]) h
  refine ⟨xs, hL.len, hL.le, hL.reach, hL.each, fun hn => ?_⟩
  obtain ⟨b, off, ha, hc⟩ := hL.lies hn
  have hl := hL.len
  have hget : ∀ i, i < len → xs[i]? = some (xs.getD i (0, 0, 0)) := fun i hi => by simp [List.getD, List.getElem?_eq_getElem (by omega : i < xs.length)]
  have hall : ∀ i, i < len → W.cell? ⟨b, off + i * 3, none⟩ = some (.int .i64 (xs.getD i (0, 0, 0)).1) ∧ W.cell? ⟨b, off + i * 3 + 1, none⟩ = some (.int .i64 (xs.getD i (0, 0, 0)).2.1) ∧ W.cell? ⟨b, off + i * 3 + 2, none⟩ = some (.int .i64 (xs.getD i (0, 0, 0)).2.2) := fun i hi =>
    ⟨by simpa using hc i _ (hget i hi) 0 _ rfl, by simpa using hc i _ (hget i hi) 1 _ rfl, by simpa using hc i _ (hget i hi) 2 _ rfl⟩
  exact ⟨b, off, cell_lt (hall 0 hn).1, ha, hall⟩

theorem open_progs {H : Type} {enc : TypeId × Value → H} {W : World} {a : Option Addr} {len cap : Nat} {d : DataW H} {p : List MemPlace}
    (h : DataW.Trod enc Try.prog W 0 (fun _ => true) true 22 (.slice a len cap) d p) : ∃ ps, Pgs (fun k => k < W.heap.size) W a len cap ps ∧ ((d = .nil ∧ len = 0) ∨ ∃ es rs : List (DataW H), es.length = len ∧ d = .slice es rs) := by
  have hs : Try.prog.cellsOf 68 = 1 := by kernel_rfl
  obtain ⟨xs, hL, hd⟩ := open_rows (fun z : Option Addr × Nat × Nat × List Dop => [Value.slice z.1 z.2.1 z.2.2.1]) 1 (fun z => Dos (fun k => k < W.heap.size) W z.1 z.2.1 z.2.2.1 z.2.2.2) Try.underlying22 hs (by omega) (fun _ => rfl) (fun fuel cs x h => by
    have hcs : ∃ a' n' c', cs = [Value.slice a' n' c'] := by
      rcases DataW.trod_slice Try.underlying68 h with ⟨hcs, _⟩ | ⟨x, l, c, _, _, _, _, hcs, _⟩
      · exact ⟨_, _, _, hcs⟩
      · exact ⟨_, _, _, hcs⟩
    obtain ⟨a', n', c', rfl⟩ := hcs
    obtain ⟨ds, hds⟩ := open_dos (a := a') (len := n') (cap := c') (d := x.1) (p := x.2) ⟨fuel, by simpa [Value.cells] using h⟩
    exact ⟨(a', n', c', ds), rfl, hds⟩) h
  refine ⟨xs.map (·.2.2.2), ⟨by simpa using hL.len, hL.le, hL.reach, fun hn => ?_⟩, hd⟩
  obtain ⟨b, off, ha, hc⟩ := hL.lies hn
  have hl := hL.len
  have hall : ∀ i, i < len → ∃ a' n' c', W.cell? ⟨b, off + i, none⟩ = some (.slice a' n' c') ∧ Dos (fun k => k < W.heap.size) W a' n' c' ((xs.map (·.2.2.2)).getD i []) := fun i hi => by
    have hx : xs[i]? = some xs[i] := List.getElem?_eq_getElem (by omega)
    refine ⟨xs[i].1, xs[i].2.1, xs[i].2.2.1, by simpa using hc i _ hx 0 _ rfl, ?_⟩
    have e : (xs.map (·.2.2.2)).getD i [] = xs[i].2.2.2 := by simp [List.getD, hx]
    rw [e]
    exact hL.each _ (List.mem_of_getElem? hx)
  obtain ⟨a', n', c', h0, _⟩ := hall 0 hn
  exact ⟨b, off, cell_lt h0, ha, hall⟩

end Go.Proofs.Ytennciddjkijaaa

/-
  The arguments of the laws of chans, opened: programs, and picks; tame.
-/
import Derived.Test.YtgjpbekmkhanhaaGreatOpr
import Derived.Test.YtgjpbekmkhanhaaGreatQkcd70d1b9
namespace Go.Proofs.YtgjpbekmkhanhaaGreat.CH
open Go.ChangeShapes Go.WideShapes Go.ChangeAt Go.RowKit QW
set_option maxRecDepth 100000
set_option linter.unusedSimpArgs false
set_option linter.unusedVariables false

/-- What a task does, and programs, as they are read. -/
structure Dor (W : World) (a : Option Addr) (n cap : Nat) (ds : List Dop) : Prop where
  len : ds.length = n
  le : n ≤ cap
  reach : cap ≤ 9223372036854775807
  lies : 0 < n → ∃ b off, b < W.heap.size ∧ a = some ⟨b, off, none⟩ ∧ ∀ k d, ds[k]? = some d → W.cell? ⟨b, off + k * 5, none⟩ = some (.int .i64 d.kind) ∧ W.cell? ⟨b, off + k * 5 + 1, none⟩ = some (.int .i64 d.c) ∧ W.cell? ⟨b, off + k * 5 + 2, none⟩ = some (.int .i64 d.v) ∧ (∃ p q r, W.cell? ⟨b, off + k * 5 + 3, none⟩ = some (.slice p q r)) ∧ ∃ y, W.cell? ⟨b, off + k * 5 + 4, none⟩ = some (.bool y)
structure Pgr (W : World) (a : Option Addr) (n cap : Nat) (ps : List (List Dop)) : Prop where
  len : ps.length = n
  le : n ≤ cap
  reach : cap ≤ 9223372036854775807
  lies : 0 < n → ∃ b off, b < W.heap.size ∧ a = some ⟨b, off, none⟩ ∧ ∀ k, k < n → ∃ a' n' c', W.cell? ⟨b, off + k, none⟩ = some (.slice a' n' c') ∧ Dor W a' n' c' (ps.getD k [])
theorem Dor.low {w w' : World} {a : Option Addr} {n cap : Nat} {xs : List Dop} (h : Dor w a n cap xs) (hb : Below w.heap.size w w') : Dor w' a n cap xs := by
  refine ⟨h.len, h.le, h.reach, fun hn => ?_⟩
  obtain ⟨b, off, h0, h1, h2⟩ := h.lies hn
  have hc : ∀ {i : Nat} {v : Value}, w.cell? ⟨b, i, none⟩ = some v → w'.cell? ⟨b, i, none⟩ = some v := fun h => (hb.cell (cell_lt h)).trans h
  refine ⟨b, off, Nat.lt_of_lt_of_le h0 hb.size, h1, fun k d hk => ?_⟩
  obtain ⟨q1, q2, q3, ⟨p, q, r, q4⟩, y, q5⟩ := h2 k d hk
  exact ⟨hc q1, hc q2, hc q3, ⟨p, q, r, hc q4⟩, y, hc q5⟩
theorem Pgr.low {w w' : World} {a : Option Addr} {n cap : Nat} {xs : List (List Dop)} (h : Pgr w a n cap xs) (hb : Below w.heap.size w w') : Pgr w' a n cap xs := by
  refine ⟨h.len, h.le, h.reach, fun hn => ?_⟩
  obtain ⟨b, off, h0, h1, h2⟩ := h.lies hn
  refine ⟨b, off, Nat.lt_of_lt_of_le h0 hb.size, h1, fun k hk => ?_⟩
  obtain ⟨a', n', c', q1, q2⟩ := h2 k hk
  exact ⟨a', n', c', (hb.cell (cell_lt q1)).trans q1, q2.low hb⟩
/-- What tame asks. -/
def tmd (nc : Nat) (d : Dop) : Prop := 0 ≤ d.c ∧ d.c < (nc : Int) ∧ d.kind ≠ 5 ∧ d.kind ≤ 7
theorem Pgr.pgs {w : World} {a : Option Addr} {n cap nc : Nat} {ps : List (List Dop)} (h : Pgr w a n cap ps) (ht : ∀ ds ∈ ps, ∀ d ∈ ds, tmd nc d) : Pgs (fun k => k < w.heap.size) nc w a n cap ps := by
  refine ⟨h.len, h.le, h.reach, fun hn => ?_⟩
  obtain ⟨b, off, h0, h1, h2⟩ := h.lies hn
  refine ⟨b, off, h0, h1, fun k hk => ?_⟩
  obtain ⟨a', n', c', q1, q2⟩ := h2 k hk
  have hkl : k < ps.length := by rw [h.len]; exact hk
  have hm : ps.getD k [] ∈ ps := by simp [List.getD, List.getElem?_eq_getElem hkl]
  exact ⟨a', n', c', q1, ⟨q2.len, q2.le, q2.reach, fun d hd => ⟨(ht _ hm d hd).1, (ht _ hm d hd).2.1, (ht _ hm d hd).2.2.1⟩, q2.lies⟩⟩

theorem bounds_u64 {z : Int} (h : (Lit.int .u64 z).wf = true) : 0 ≤ z ∧ z ≤ 18446744073709551615 := by
  simp [Lit.wf, IntKind.min, IntKind.max, IntKind.signed, IntKind.bits] at h
  exact h
theorem open_u64s {H : Type} {enc : TypeId × Value → H} {W : World} {a : Option Addr} {len cap : Nat} {d : DataW H} {p : List MemPlace}
    (h : DataW.Trod enc Tryz.prog W 0 (fun _ => true) true 24 (.slice a len cap) d p) : ∃ xs, Us W a len cap xs ∧ ((d = .nil ∧ len = 0) ∨ ∃ es rs : List (DataW H), es.length = len ∧ d = .slice es rs) := by
  obtain ⟨xs, hL, hd⟩ := open_rows (fun z : Nat => [Value.int .u64 (z : Int)]) 1 (fun z => z ≤ 18446744073709551615) Tryz.underlying24 (by kernel_rfl) (by omega) (fun _ => rfl) (fun fuel cs x h => by
    obtain ⟨z, hz, _, w0⟩ := DataW.trod_int Tryz.underlying38 h
    have hb := bounds_u64 w0
    exact ⟨z.toNat, by rw [hz, Int.toNat_of_nonneg hb.1], by omega⟩) h
  refine ⟨xs, ⟨hL.len, hL.le, hL.reach, hL.each, fun hn => ?_⟩, hd⟩
  obtain ⟨b, off, ha, hc⟩ := hL.lies hn
  refine ⟨b, off, ha, fun i hi => ?_⟩
  have hl := hL.len
  have := hc i (xs.getD i 0) (by simp [List.getD, List.getElem?_eq_getElem (by omega : i < xs.length)]) 0 _ rfl
  simpa using this

theorem trod5 {H : Type} {enc : TypeId × Value → H} {P : Program} {w : World} {base : Nat} {spare : Nat → Bool} {held : Bool} {t : TypeId} {f0 f1 f2 f3 f4 : Field} {fuel : Nat} {cs : List Value} {x : DataW H × List MemPlace} (ht : P.underlying t = some (.struct #[f0, f1, f2, f3, f4])) (h : DataW.trod enc P w base spare held fuel t cs = some x) :
    ∃ y0 y1 y2 y3 y4 n, cs.length = P.cellsOf t ∧ DataW.trod enc P w base spare held n f0.type ((cs.drop f0.offset).take (P.cellsOf f0.type)) = some y0 ∧
      DataW.trod enc P w base spare held n f1.type ((cs.drop f1.offset).take (P.cellsOf f1.type)) = some y1 ∧ DataW.trod enc P w base spare held n f2.type ((cs.drop f2.offset).take (P.cellsOf f2.type)) = some y2 ∧
      DataW.trod enc P w base spare held n f3.type ((cs.drop f3.offset).take (P.cellsOf f3.type)) = some y3 ∧ DataW.trod enc P w base spare held n f4.type ((cs.drop f4.offset).take (P.cellsOf f4.type)) = some y4 := by
  obtain ⟨xs, n, _, rfl, hl, hlen, hf⟩ := DataW.trod_struct ht h
  match xs, hlen with
  | [y0, y1, y2, y3, y4], _ => exact ⟨y0, y1, y2, y3, y4, n, hl, by simpa using hf 0 f0 rfl, by simpa using hf 1 f1 rfl, by simpa using hf 2 f2 rfl, by simpa using hf 3 f3 rfl, by simpa using hf 4 f4 rfl⟩

theorem open_dos {H : Type} {enc : TypeId × Value → H} {W : World} {a : Option Addr} {len cap : Nat} {d : DataW H} {p : List MemPlace}
    (h : DataW.Trod enc Tryz.prog W 0 (fun _ => true) true 108 (.slice a len cap) d p) : ∃ xs, Dor W a len cap xs := by
  have hs3 : Tryz.prog.cellsOf 3 = 1 := by kernel_rfl
  have hs4 : Tryz.prog.cellsOf 4 = 1 := by kernel_rfl
  have hsc : Tryz.prog.cellsOf 109 = 1 := by kernel_rfl
  have hs : Tryz.prog.cellsOf 111 = 5 := by kernel_rfl
  obtain ⟨xs, hL, hd⟩ := open_rows (fun z : Dop × (Option Addr × Nat × Nat) × Bool => [Value.int .i64 z.1.kind, Value.int .i64 z.1.c, Value.int .i64 z.1.v, Value.slice z.2.1.1 z.2.1.2.1 z.2.1.2.2, Value.bool z.2.2]) 5 (fun _ => True) Tryz.underlying108 hs (by omega) (fun _ => rfl) (fun fuel cs x h => by
    obtain ⟨y0, y1, y2, y3, y4, n, hl, h0, h1, h2, h3, h4⟩ := trod5 Tryz.underlying111 h
    rw [hs] at hl
    simp only [hs3, hs4, hsc] at h0 h1 h2 h3 h4
    obtain ⟨z0, e0, _, w0⟩ := DataW.trod_int Tryz.underlying3 h0
    obtain ⟨z1, e1, _, w1⟩ := DataW.trod_int Tryz.underlying3 h1
    obtain ⟨z2, e2, _, w2⟩ := DataW.trod_int Tryz.underlying3 h2
    obtain ⟨z4, e4, _⟩ := DataW.trod_bool Tryz.underlying4 h4
    have e3 : ∃ a' n' c', (List.take 1 (List.drop 3 cs)) = [Value.slice a' n' c'] := by
      rcases DataW.trod_slice Tryz.underlying109 h3 with ⟨hcs, _⟩ | ⟨x, l, c, _, _, _, _, hcs, _⟩
      · exact ⟨_, _, _, hcs⟩
      · exact ⟨_, _, _, hcs⟩
    obtain ⟨a', n', c', e3⟩ := e3
    refine ⟨(⟨z0, z1, z2⟩, (a', n', c'), z4), ?_, trivial⟩
    match cs, hl, e0, e1, e2, e3, e4 with
    | [u, v, t, s, r], _, e0, e1, e2, e3, e4 =>
      simp at e0 e1 e2 e3 e4
      rw [e0, e1, e2, e3, e4]) h
  refine ⟨xs.map (·.1), by simpa using hL.len, hL.le, hL.reach, fun hn => ?_⟩
  obtain ⟨b, off, ha, hc⟩ := hL.lies hn
  have hl := hL.len
  have hx0 : xs[0]? = some xs[0] := List.getElem?_eq_getElem (by omega)
  refine ⟨b, off, cell_lt (by simpa using hc 0 _ hx0 0 _ rfl : W.cell? ⟨b, off, none⟩ = some _), ha, fun k d hk => ?_⟩
  rw [List.getElem?_map] at hk
  obtain ⟨x, hx, rfl⟩ := Option.map_eq_some_iff.1 hk
  exact ⟨by simpa using hc k _ hx 0 _ rfl, by simpa using hc k _ hx 1 _ rfl, by simpa using hc k _ hx 2 _ rfl, ⟨_, _, _, by simpa using hc k _ hx 3 _ rfl⟩, _, by simpa using hc k _ hx 4 _ rfl⟩

theorem open_progs {H : Type} {enc : TypeId × Value → H} {W : World} {a : Option Addr} {len cap : Nat} {d : DataW H} {p : List MemPlace}
    (h : DataW.Trod enc Tryz.prog W 0 (fun _ => true) true 22 (.slice a len cap) d p) : ∃ ps, Pgr W a len cap ps ∧ ((d = .nil ∧ len = 0) ∨ ∃ es rs : List (DataW H), es.length = len ∧ d = .slice es rs) := by
  have hs : Tryz.prog.cellsOf 108 = 1 := by kernel_rfl
  obtain ⟨xs, hL, hd⟩ := open_rows (fun z : Option Addr × Nat × Nat × List Dop => [Value.slice z.1 z.2.1 z.2.2.1]) 1 (fun z => Dor W z.1 z.2.1 z.2.2.1 z.2.2.2) Tryz.underlying22 hs (by omega) (fun _ => rfl) (fun fuel cs x h => by
    have hcs : ∃ a' n' c', cs = [Value.slice a' n' c'] := by
      rcases DataW.trod_slice Tryz.underlying108 h with ⟨hcs, _⟩ | ⟨x, l, c, _, _, _, _, hcs, _⟩
      · exact ⟨_, _, _, hcs⟩
      · exact ⟨_, _, _, hcs⟩
    obtain ⟨a', n', c', rfl⟩ := hcs
    obtain ⟨ds, hds⟩ := open_dos (a := a') (len := n') (cap := c') (d := x.1) (p := x.2) ⟨fuel, by simpa [Value.cells] using h⟩
    exact ⟨(a', n', c', ds), rfl, hds⟩) h
  refine ⟨xs.map (·.2.2.2), ⟨by simpa using hL.len, hL.le, hL.reach, fun hn => ?_⟩, hd⟩
  obtain ⟨b, off, ha, hc⟩ := hL.lies hn
  have hl := hL.len
  have hall : ∀ i, i < len → ∃ a' n' c', W.cell? ⟨b, off + i, none⟩ = some (.slice a' n' c') ∧ Dor W a' n' c' ((xs.map (·.2.2.2)).getD i []) := fun i hi => by
    have hx : xs[i]? = some xs[i] := List.getElem?_eq_getElem (by omega)
    refine ⟨xs[i].1, xs[i].2.1, xs[i].2.2.1, by simpa using hc i _ hx 0 _ rfl, ?_⟩
    have e : (xs.map (·.2.2.2)).getD i [] = xs[i].2.2.2 := by simp [List.getD, hx]
    rw [e]
    exact hL.each _ (List.mem_of_getElem? hx)
  obtain ⟨a', n', c', h0, _⟩ := hall 0 hn
  exact ⟨b, off, cell_lt h0, ha, hall⟩

end Go.Proofs.YtgjpbekmkhanhaaGreat.CH

/-
  Texts put into one.
-/
import Derived.Test.YtkdolabhcbjipaaGreatMx24cbfb35
import Derived.Test.YtkdolabhcbjipaaGreatOpr

/-
  SegmentKept: lives among the arguments; the list of what may be told, in memory.
-/
namespace Go.Proofs.YtkdolabhcbjipaaGreat
open Go.ChangeShapes Go.WideShapes Go.ChangeAt Go.RowKit
set_option maxRecDepth 100000
set_option linter.unusedVariables false

theorem trod5 {H : Type} {enc : TypeId × Value → H} {P : Program} {w : World} {base : Nat} {spare : Nat → Bool} {held : Bool} {t : TypeId} {f0 f1 f2 f3 f4 : Field} {fuel : Nat} {cs : List Value} {x : DataW H × List MemPlace} (ht : P.underlying t = some (.struct #[f0, f1, f2, f3, f4])) (h : DataW.trod enc P w base spare held fuel t cs = some x) :
    ∃ y0 y1 y2 y3 y4 n, cs.length = P.cellsOf t ∧ DataW.trod enc P w base spare held n f0.type ((cs.drop f0.offset).take (P.cellsOf f0.type)) = some y0 ∧
      DataW.trod enc P w base spare held n f1.type ((cs.drop f1.offset).take (P.cellsOf f1.type)) = some y1 ∧ DataW.trod enc P w base spare held n f2.type ((cs.drop f2.offset).take (P.cellsOf f2.type)) = some y2 ∧
      DataW.trod enc P w base spare held n f3.type ((cs.drop f3.offset).take (P.cellsOf f3.type)) = some y3 ∧ DataW.trod enc P w base spare held n f4.type ((cs.drop f4.offset).take (P.cellsOf f4.type)) = some y4 := by
  obtain ⟨xs, n, _, rfl, hl, hlen, hf⟩ := DataW.trod_struct ht h
  match xs, hlen with
  | [y0, y1, y2, y3, y4], _ => exact ⟨y0, y1, y2, y3, y4, n, hl, by simpa using hf 0 f0 rfl, by simpa using hf 1 f1 rfl, by simpa using hf 2 f2 rfl, by simpa using hf 3 f3 rfl, by simpa using hf 4 f4 rfl⟩

/-- A slice of ints, a slice of bools, as they are read. -/
abbrev Ints (W : World) (a : Option Addr) (n cap : Nat) (zs : List Int) : Prop := Lr (fun z : Int => [Value.int .i64 z]) 1 (fun _ => True) W a n cap zs
abbrev Bools (W : World) (a : Option Addr) (n cap : Nat) (ks : List Bool) : Prop := Lr (fun z : Bool => [Value.bool z]) 1 (fun _ => True) W a n cap ks

/-- What happens between two crashes, as its cells are. -/
structure Lf where
  wa : Option Addr
  wn : Nat
  wc : Nat
  arm : Int
  ka : Option Addr
  kn : Nat
  kc : Nat
  la : Option Addr
  ln : Nat
  lc : Nat
  again : Int

def Lf.cells (x : Lf) : List Value := [.slice x.wa x.wn x.wc, .int .i64 x.arm, .slice x.ka x.kn x.kc, .slice x.la x.ln x.lc, .int .i64 x.again]
def Lf.Ok (W : World) (x : Lf) : Prop := (∃ zs, Ints W x.wa x.wn x.wc zs) ∧ (∃ ks, Bools W x.ka x.kn x.kc ks) ∧ (∃ ks, Bools W x.la x.ln x.lc ks)

theorem slice_cells {H : Type} {enc : TypeId × Value → H} {W : World} {t e : TypeId} {fuel : Nat} {cs : List Value} {x : DataW H × List MemPlace} (hu : Tryz.prog.underlying t = some (.slice e)) (h : DataW.trod enc Tryz.prog W 0 (fun _ => true) true fuel t cs = some x) : ∃ a n c, cs = [Value.slice a n c] := by
  rcases DataW.trod_slice hu h with ⟨hcs, _⟩ | ⟨x, l, c, _, _, _, _, hcs, _⟩
  · exact ⟨_, _, _, hcs⟩
  · exact ⟨_, _, _, hcs⟩

theorem open_lives {H : Type} {enc : TypeId × Value → H} {W : World} {a : Option Addr} {len cap : Nat} {d : DataW H} {p : List MemPlace}
    (h : DataW.Trod enc Tryz.prog W 0 (fun _ => true) true 41 (.slice a len cap) d p) : ∃ xs : List Lf, Lr Lf.cells 5 (Lf.Ok W) W a len cap xs ∧ ((d = .nil ∧ len = 0) ∨ ∃ es rs : List (DataW H), es.length = len ∧ d = .slice es rs) := by
  have hs1 : Tryz.prog.cellsOf 43 = 1 := by kernel_rfl
  have hs2 : Tryz.prog.cellsOf 34 = 1 := by kernel_rfl
  have hs3 : Tryz.prog.cellsOf 3 = 1 := by kernel_rfl
  have hs : Tryz.prog.cellsOf 45 = 5 := by kernel_rfl
  refine open_rows Lf.cells 5 (Lf.Ok W) Tryz.underlying41 hs (by omega) (fun _ => rfl) (fun fuel cs x h => ?_) h
  obtain ⟨y0, y1, y2, y3, y4, n, hl, h0, h1, h2, h3, h4⟩ := trod5 Tryz.underlying45 h
  rw [hs] at hl
  simp only [hs1, hs2, hs3] at h0 h1 h2 h3 h4
  obtain ⟨wa, wn, wc, e0⟩ := slice_cells Tryz.underlying43 h0
  obtain ⟨z1, e1, _, w1⟩ := DataW.trod_int Tryz.underlying3 h1
  obtain ⟨ka, kn, kc, e2⟩ := slice_cells Tryz.underlying34 h2
  obtain ⟨la, ln, lc, e3⟩ := slice_cells Tryz.underlying34 h3
  obtain ⟨z4, e4, _, w4⟩ := DataW.trod_int Tryz.underlying3 h4
  rw [e0] at h0
  rw [e2] at h2
  rw [e3] at h3
  obtain ⟨zs, hz, _⟩ := open_rows (fun z : Int => [Value.int .i64 z]) 1 (fun _ => True) (a := wa) (len := wn) (cap := wc) (d := y0.1) (p := y0.2) Tryz.underlying43 hs3 (by omega) (fun _ => rfl) (fun fuel cs x h => by
    obtain ⟨z, hz, _⟩ := DataW.trod_int Tryz.underlying3 h
    exact ⟨z, hz, trivial⟩) ⟨n, by simpa [Value.cells] using h0⟩
  obtain ⟨ks, hk, _⟩ := open_rows (fun z : Bool => [Value.bool z]) 1 (fun _ => True) (a := ka) (len := kn) (cap := kc) (d := y2.1) (p := y2.2) Tryz.underlying34 (by kernel_rfl) (by omega) (fun _ => rfl) (fun fuel cs x h => by
    obtain ⟨z, hz, _⟩ := DataW.trod_bool Tryz.underlying4 h
    exact ⟨z, hz, trivial⟩) ⟨n, by simpa [Value.cells] using h2⟩
  obtain ⟨ls, hl2, _⟩ := open_rows (fun z : Bool => [Value.bool z]) 1 (fun _ => True) (a := la) (len := ln) (cap := lc) (d := y3.1) (p := y3.2) Tryz.underlying34 (by kernel_rfl) (by omega) (fun _ => rfl) (fun fuel cs x h => by
    obtain ⟨z, hz, _⟩ := DataW.trod_bool Tryz.underlying4 h
    exact ⟨z, hz, trivial⟩) ⟨n, by simpa [Value.cells] using h3⟩
  refine ⟨⟨wa, wn, wc, z1, ka, kn, kc, la, ln, lc, z4⟩, ?_, ⟨zs, hz⟩, ⟨ks, hk⟩, ⟨ls, hl2⟩⟩
  match cs, hl, e0, e1, e2, e3, e4 with
  | [u0, u1, u2, u3, u4], _, e0, e1, e2, e3, e4 =>
    simp at e0 e1 e2 e3 e4
    simp [Lf.cells, e0, e1, e2, e3, e4]

theorem Lr.keep {α : Type} {f : α → List Value} {s : Nat} {Q : α → Prop} {w w' : World} {a : Option Addr} {n cap : Nat} {xs : List α} (h : Lr f s Q w a n cap xs) (hb : Below w.heap.size w w') : Lr f s Q w' a n cap xs := by
  refine ⟨h.len, h.le, h.reach, h.each, fun hn => ?_⟩
  obtain ⟨b, off, ha, hc⟩ := h.lies hn
  refine ⟨b, off, ha, fun i x hi j v hv => ?_⟩
  have h1 := hc i x hi j v hv
  exact (hb.cell (cell_lt h1)).trans h1

theorem Bools.kp {w : World} {a : Option Addr} {n cap : Nat} {ks : List Bool} (h : Bools w a n cap ks) : Kp w a ks ∧ ks.length = n ∧ (n ≤ cap ∧ cap ≤ 9223372036854775807) ∧ ∀ ad, ks ≠ [] → a = some ad → ad.block < w.heap.size := by
  refine ⟨fun i b hi => ?_, h.len, ⟨h.le, h.reach⟩, fun ad hne ha => ?_⟩
  · have hl := (List.getElem?_eq_some_iff.1 hi).1
    have := h.len
    obtain ⟨g, off, ha, hc⟩ := h.lies (by omega)
    exact ⟨g, off, ha, by simpa using hc i b hi 0 _ rfl⟩
  · have hl := List.length_pos_iff.2 hne
    have := h.len
    obtain ⟨g, off, ha', hc⟩ := h.lies (by omega)
    rw [ha'] at ha
    cases ha
    have hi : ks[0]? = some ks[0] := List.getElem?_eq_getElem hl
    exact cell_lt (hc 0 _ hi 0 _ rfl)

/-- The list of what may still be told: its rows and itself in blocks of P; it is its own, or has no room. -/
structure All (P : Nat → Prop) (base : Nat) (W : World) (v : Value) (L : List (List Int)) : Prop where
  ex : ∃ vs : List Value, vs.length = L.length ∧
    (∀ (i : Nat) (x : List Int), L[i]? = some x → ∃ p m d, vs[i]? = some (.slice p m d) ∧ Bs W p m d x ∧ ∀ ad, p = some ad → P ad.block ∧ v.ownBlock ≠ some ad.block) ∧
    ((W.ownsRow base 30 1 v L.length vs ∧ ∀ g, v.ownBlock = some g → P g) ∨ (∃ g, v = .slice (some ⟨g, 0, none⟩) L.length L.length ∧ P g ∧ ∀ (j : Nat) (u : Value), vs[j]? = some u → W.cell? ⟨g, j, none⟩ = some u))

theorem row_blocks {w : World} {base n size : Nat} {e : TypeId} {v : Value} {xs : List Value} (h : w.ownsRow base e size v n xs) {g : Nat} (hg : v.ownBlock = some g) : ∃ cs, w.heap[g]? = some (.cells cs e (0, 0)) := by
  rcases h.2 with ⟨rfl, _⟩ | ⟨g', cap, cur, rfl, _, hh, _⟩
  · cases hg
  · simp only [Value.ownBlock, Option.some.injEq] at hg
    subst hg
    exact ⟨_, hh⟩
theorem own_low {w : World} {base base' n size : Nat} {e : TypeId} {v : Value} {xs : List Value} (h : w.ownsRow base e size v n xs) (hb : base' ≤ base) : w.ownsRow base' e size v n xs := by
  refine ⟨h.1, h.2.imp id ?_⟩
  rintro ⟨g, cap, cur, e1, e2, e3⟩
  exact ⟨g, cap, cur, e1, Nat.le_trans hb e2, e3⟩

section
variable {P Q : Nat → Prop} {base : Nat} {W V : World} {v : Value} {L : List (List Int)}

theorem bs_no {p : Option Addr} {m d : Nat} {x : List Int} (h : Bs W p m d x) (hp : ∀ ad, p = some ad → P ad.block) (n : No P W V) : Bs V p m d x := by
  refine ⟨h.len, h.le, h.reach, h.byte, h.bare, fun hm => ?_⟩
  obtain ⟨b, off, ha, hc⟩ := h.lies hm
  exact ⟨b, off, ha, fun i hi => Tb.cell n (hc i hi) (fun hn => hn (show P b from hp ⟨b, off, none⟩ ha))⟩

theorem All.no (h : All P base W v L) (n : No P W V) : All P base V v L := by
  obtain ⟨vs, h1, h2, h3⟩ := h.ex
  refine ⟨vs, h1, fun i x hi => ?_, ?_⟩
  · obtain ⟨p, m, d, q1, q2, q3⟩ := h2 i x hi
    exact ⟨p, m, d, q1, bs_no q2 (fun ad e => (q3 ad e).1) n, q3⟩
  · rcases h3 with ⟨k1, k2⟩ | ⟨g, k1, k2, k3⟩
    · exact .inl ⟨row_tb k1 n (fun g hg hn => hn (k2 g hg)), k2⟩
    · exact .inr ⟨g, k1, k2, fun j u hj => Tb.cell n (k3 j u hj) (fun hn => hn k2)⟩
theorem All.more (h : All P base W v L) (hq : ∀ g, P g → Q g) : All Q base W v L := by
  obtain ⟨vs, h1, h2, h3⟩ := h.ex
  refine ⟨vs, h1, fun i x hi => ?_, ?_⟩
  · obtain ⟨p, m, d, q1, q2, q3⟩ := h2 i x hi
    exact ⟨p, m, d, q1, q2, fun ad e => ⟨hq _ (q3 ad e).1, (q3 ad e).2⟩⟩
  · rcases h3 with ⟨k1, k2⟩ | ⟨g, k1, k2, k3⟩
    · exact .inl ⟨k1, fun g hg => hq _ (k2 g hg)⟩
    · exact .inr ⟨g, k1, hq _ k2, k3⟩
theorem All.nil : All P base W (.slice none 0 0) [] := ⟨[], rfl, fun i x hi => by simp at hi, .inl ⟨World.ownsRow_nil _ _ _ _, fun g hg => by cases hg⟩⟩

/-- Its value. -/
theorem All.val (h : All P base W v L) (hf : L.length ≤ 1000000) : ∃ a cap, v = .slice a L.length cap ∧ L.length ≤ cap ∧ cap ≤ 9223372036854775807 := by
  obtain ⟨vs, h1, h2, h3⟩ := h.ex
  rcases h3 with ⟨k1, k2⟩ | ⟨g, k1, k2, k3⟩
  · rcases k1.2 with ⟨e1, e2⟩ | ⟨g', c, cur, e1, _, _, e4, e5, _⟩
    · exact ⟨none, 0, by rw [e1, e2], by omega, by omega⟩
    · unfold maxLen at e5
      exact ⟨_, c, e1, e4, by omega⟩
  · exact ⟨_, _, k1, Nat.le_refl _, by omega⟩

theorem All.rl (h : All P base W v L) {a : Option Addr} {cap : Nat} (hv : v = .slice a L.length cap) (hc : L.length ≤ cap ∧ cap ≤ 9223372036854775807) : Rl W a L.length cap L := by
  obtain ⟨vs, h1, h2, h3⟩ := h.ex
  refine ⟨rfl, hc.1, hc.2, fun hn => ?_⟩
  have key : ∃ g, a = some ⟨g, 0, none⟩ ∧ ∀ (j : Nat) (u : Value), vs[j]? = some u → W.cell? ⟨g, j, none⟩ = some u := by
    rcases h3 with ⟨k1, k2⟩ | ⟨g, k1, k2, k3⟩
    · rcases k1.2 with ⟨e1, e2⟩ | ⟨g', c, cur, e1, _⟩
      · omega
      · rw [e1] at hv
        cases hv
        refine ⟨g', rfl, fun j u hj => ?_⟩
        have := k1.cells (g := g') (by rw [e1]; rfl) _ _ hj
        rwa [Addr.add_lit, Nat.zero_add] at this
    · rw [k1] at hv
      cases hv
      exact ⟨g, rfl, k3⟩
  obtain ⟨g, ha, hcell⟩ := key
  refine ⟨g, 0, ha, fun i hi => ?_⟩
  obtain ⟨p, m, d, q1, q2, _⟩ := h2 i _ (List.getElem?_eq_getElem hi)
  refine ⟨p, m, d, by rw [Nat.zero_add]; exact hcell i _ q1, ?_⟩
  simpa [List.getD, List.getElem?_eq_getElem hi] using q2

/-- Out of what a segment tells. -/
theorem All.told {w1 : World} {rs : List (Value × List Int)} (h : LL W w1.heap.size v rs) (hb : Below w1.heap.size w1 W) (hP : ∀ g, w1.heap.size ≤ g → g < W.heap.size → P g) (hbase : base ≤ w1.heap.size) : All P base W v (rs.map (·.2)) := by
  refine ⟨rs.map (·.1), by simp, fun i x hi => ?_, .inl ⟨?_, fun g hg => ?_⟩⟩
  · rw [List.getElem?_map, Option.map_eq_some_iff] at hi
    obtain ⟨r, hr, rfl⟩ := hi
    have ho := h.row r (List.mem_of_getElem? hr)
    obtain ⟨p, d, e⟩ := row_val ho
    refine ⟨p, r.2.length, d, by simp [hr, e], own_bs (by rw [e] at ho; exact ho) (h.byte r (List.mem_of_getElem? hr)), fun ad ha => ?_⟩
    have := ho.lt ad.block (by rw [e, ha]; rfl)
    refine ⟨hP _ this.1 this.2, fun hv => ?_⟩
    obtain ⟨c1, k1⟩ := row_blocks ho (g := ad.block) (by rw [e, ha]; rfl)
    obtain ⟨c2, k2⟩ := row_blocks h.own hv
    rw [k1] at k2
    simp only [Option.some.injEq, Obj.cells.injEq] at k2
    exact absurd k2.2.1 (by decide)
  · have := h.own
    simp only [List.length_map]
    exact own_low this hbase
  · have := h.own.lt g hg
    exact hP _ this.1 this.2

/-- The first of it, without room. -/
theorem All.cut (h : All P base W v L) {m : Nat} (hm : m < L.length) : ∃ g cap, v = .slice (some ⟨g, 0, none⟩) L.length cap ∧ L.length ≤ cap ∧ All P base W (.slice (some ⟨g, 0, none⟩) m m) (L.take m) := by
  obtain ⟨vs, h1, h2, h3⟩ := h.ex
  have key : ∃ g cap, v = .slice (some ⟨g, 0, none⟩) L.length cap ∧ L.length ≤ cap ∧ P g ∧ ∀ (j : Nat) (u : Value), vs[j]? = some u → W.cell? ⟨g, j, none⟩ = some u := by
    rcases h3 with ⟨k1, k2⟩ | ⟨g, k1, k2, k3⟩
    · rcases k1.2 with ⟨e1, e2⟩ | ⟨g', c, cur, e1, _, _, e4, _⟩
      · omega
      · refine ⟨g', c, e1, e4, k2 g' (by rw [e1]; rfl), fun j u hj => ?_⟩
        have := k1.cells (g := g') (by rw [e1]; rfl) _ _ hj
        rwa [Addr.add_lit, Nat.zero_add] at this
    · exact ⟨g, _, k1, Nat.le_refl _, k2, k3⟩
  obtain ⟨g, cap, e1, e2, e3, e4⟩ := key
  have hlm : (L.take m).length = m := by rw [List.length_take]; omega
  refine ⟨g, cap, e1, e2, vs.take m, by rw [List.length_take, hlm]; omega, fun i x hi => ?_, .inr ⟨g, by rw [hlm], e3, fun j u hj => ?_⟩⟩
  · have hi2 : i < m := by have := (List.getElem?_eq_some_iff.1 hi).1; omega
    rw [List.getElem?_take, if_pos hi2] at hi
    obtain ⟨p, m', d, q1, q2, q3⟩ := h2 i x hi
    exact ⟨p, m', d, by rw [List.getElem?_take, if_pos hi2]; exact q1, q2, fun ad e => ⟨(q3 ad e).1, by rw [e1] at q3; exact (q3 ad e).2⟩⟩
  · rw [List.getElem?_take] at hj
    split at hj
    · exact e4 j u hj
    · cases hj
end

end Go.Proofs.YtkdolabhcbjipaaGreat

/-
  SegmentKept: a body behind the others in the list; a segment beside what the law makes.
-/
namespace Go.Proofs.YtkdolabhcbjipaaGreat
open Go.RowKit
set_option maxRecDepth 100000
set_option linter.unusedVariables false

section
variable {P Q : Nat → Prop} {base : Nat} {w W V : World} {v : Value} {L : List (List Int)} {R S : Nat} {d : Dsk} {nm : ByteArray} {bs : List (List Int)} {br : Bool}

theorem Sgx.old (h : Sgx w P R S d nm bs br W) : ∀ g, g < w.heap.size → P g := by
  obtain ⟨Q, sv, ev, q1, q2, q3, _⟩ := h
  exact q3
theorem Sgx.plt (h : Sgx w P R S d nm bs br W) : ∀ g, P g → g < W.heap.size := fun g hg => h.ay.lt g hg
theorem Sgx.sg (h : Sgx w P R S d nm bs br W) : ∃ sv ev, Sg W R S nm sv ev bs br := by
  obtain ⟨Q, sv, ev, _, _, _, q4, _⟩ := h
  exact ⟨sv, ev, q4⟩

theorem heap_lt' {w : World} {g : Nat} {o : Obj} (h : w.heap[g]? = some o) : g < w.heap.size := (Array.getElem?_eq_some_iff.1 h).1

/-- A body more. -/
theorem All.app (h : All P base W v L) (hL : L.length ≤ 10000) (hbase : base ≤ W.heap.size) (hPl : ∀ g, P g → g < W.heap.size) {c : Option Addr} {m dap : Nat} {b : List Int} (hB : Bs W c m dap b) (hc : ∀ ad, c = some ad → P ad.block ∧ v.ownBlock ≠ some ad.block) :
    ∃ v' X, (Builtin.append_ #[42, 42] 42 #[v, .slice (some ⟨W.heap.size, 0, none⟩) 1 1]).run Tryz.prog (W.alloc (.cells #[.slice c m dap] 30)) = .ok v' X ∧ Tb (fun g => (∃ n xs, W.ownsRow base 30 1 v n xs) ∧ v.ownBlock = some g ∧ P g ∧ base ≤ g) W X ∧ All (fun g => P g ∨ (W.heap.size ≤ g ∧ g < X.heap.size)) base X v' (L ++ [b]) := by
  obtain ⟨i0, hi0, hz0, hz1, hz2⟩ := info_parts info22
  obtain ⟨vs, h1, h2, h3⟩ := h.ex
  obtain ⟨Y, hY⟩ : ∃ Y, Y = W.alloc (.cells #[.slice c m dap] 30) := ⟨_, rfl⟩
  have bY : Below W.heap.size W Y := by rw [hY]; exact (Below.refl _ W).alloc (Nat.le_refl _) _
  have sY : Y.heap.size = W.heap.size + 1 := by rw [hY]; simp
  have cY := fun j u (hj : [Value.slice c m dap][j]? = some u) => cell_one_new W (.slice c m dap) 30 j u hj
  rw [← hY] at cY ⊢
  have key : ∃ v' X, (Builtin.append_ #[42, 42] 42 #[v, .slice (some ⟨W.heap.size, 0, none⟩) 1 1]).run Tryz.prog Y = .ok v' X ∧ X.ownsRow base 30 1 v' (L.length + 1) (vs ++ [.slice c m dap]) ∧ Tb (fun g => (∃ n xs, W.ownsRow base 30 1 v n xs) ∧ v.ownBlock = some g ∧ P g ∧ base ≤ g) Y X ∧ (v'.ownBlock = v.ownBlock ∨ ∃ g, v'.ownBlock = some g ∧ Y.heap.size ≤ g) := by
    rcases h3 with ⟨k1, k2⟩ | ⟨g, k1, k2, k3⟩
    · have kY := row_tb k1 (Tb.of_fresh (S := fun _ => False) bY) (fun _ _ h => h)
      obtain ⟨v', X, r1, r2, r3, _, r4⟩ := run_append_own_at (P := Tryz.prog) Y base 42 42 30 i0 (.slice none 0 0) 1 24 Tryz.underlying42 hi0 hz0 hz1 hz2 rfl (by omega) v L.length vs kY ⟨W.heap.size, 0, none⟩ 1 1 [.slice c m dap] rfl cY (by simp [Value.oneCell']) (by unfold maxLen; omega) (by omega) (by omega)
      refine ⟨v', X, r1, r2, Tb.of_grown r3 (fun g e => ⟨⟨_, _, k1⟩, e, k2 g e, (k1.lt g e).1⟩), r4.imp id (fun e => ⟨_, e, Nat.le_refl _⟩)⟩
    · have hk3 : ∀ (j : Nat) (u : Value), vs[j]? = some u → Y.cell? ((⟨g, 0, none⟩ : Addr).add j) = some u := fun j u hj => by
        rw [Addr.add_lit, Nat.zero_add]
        have := k3 j u hj
        exact (bY.cell (cell_lt this)).trans this
      obtain ⟨v', X, r1, r2, r3⟩ := run_append_arg_grows (P := Tryz.prog) Y 42 42 30 i0 (.slice none 0 0) 1 24 Tryz.underlying42 hi0 hz0 hz1 hz2 rfl (by omega) ⟨g, 0, none⟩ L.length L.length vs (by omega) hk3 ⟨W.heap.size, 0, none⟩ 1 1 [.slice c m dap] rfl cY (by omega) (by unfold maxLen; omega) (by omega)
      rw [k1]
      refine ⟨v', X, r1, own_low r2 (by omega), (Tb.of_grown (S := fun _ => False) r3 (fun g e => by cases e)).mono (fun _ _ h => h.elim), ?_⟩
      obtain ⟨p, cap, rfl⟩ := row_val r2
      rcases r2.2 with ⟨_, e⟩ | ⟨g', c', cur, e1, e2, _⟩
      · omega
      · refine .inr ⟨g', by rw [e1]; rfl, e2⟩
  obtain ⟨v', X, r1, r2, r3, r4⟩ := key
  have tX : Tb (fun g => (∃ n xs, W.ownsRow base 30 1 v n xs) ∧ v.ownBlock = some g ∧ P g ∧ base ≤ g) W X := (Tb.of_fresh (S := fun g => (∃ n xs, W.ownsRow base 30 1 v n xs) ∧ v.ownBlock = some g ∧ P g ∧ base ≤ g) bY).trans r3 (fun _ _ h => h)
  have zX := r3.size
  refine ⟨v', X, r1, tX, vs ++ [.slice c m dap], by simp [h1], fun i x hi => ?_, .inl ⟨by simpa using r2, fun g hg => ?_⟩⟩
  · have bsX : ∀ {p : Option Addr} {m d : Nat} {x : List Int}, Bs W p m d x → (∀ ad, p = some ad → P ad.block ∧ v.ownBlock ≠ some ad.block) → Bs X p m d x := fun hb hp =>
      bs_no (P := fun g => ¬ ((∃ n xs, W.ownsRow base 30 1 v n xs) ∧ v.ownBlock = some g ∧ P g ∧ base ≤ g)) hb (fun ad e hn => (hp ad e).2 hn.2.1) (tX.mono (fun g _ h hn => hn h))
    have nv : ∀ {ad : Addr}, P ad.block ∧ v.ownBlock ≠ some ad.block → v'.ownBlock ≠ some ad.block := fun {ad} hp e => by
      rcases r4 with r4 | ⟨g, r4, hg⟩
      · exact hp.2 (by rw [← r4]; exact e)
      · rw [r4] at e
        cases e
        have := hPl _ hp.1
        omega
    rcases Nat.lt_or_ge i L.length with hl | hl
    · rw [List.getElem?_append_left hl] at hi
      obtain ⟨p, m', d', q1, q2, q3⟩ := h2 i x hi
      exact ⟨p, m', d', by rw [List.getElem?_append_left (by omega)]; exact q1, bsX q2 q3, fun ad e => ⟨.inl (q3 ad e).1, nv (q3 ad e)⟩⟩
    · rw [List.getElem?_append_right hl] at hi
      have hi0 : i = L.length := by
        rcases Nat.lt_or_ge (i - L.length) 1 with h | h
        · omega
        · rw [List.getElem?_eq_none (by simpa using h)] at hi; cases hi
      subst hi0
      simp only [Nat.sub_self, List.getElem?_cons_zero, Option.some.injEq] at hi
      subst hi
      exact ⟨c, m, dap, by rw [List.getElem?_append_right (by omega)]; simp [h1], bsX hB hc, fun ad e => ⟨.inl (hc ad e).1, nv (hc ad e)⟩⟩
  · have hgl := (r2.lt g hg).2
    rcases r4 with r4 | ⟨g', r4, hg'⟩
    · rw [r4] at hg
      left
      rcases h3 with ⟨k1, k2⟩ | ⟨g2, k1, k2, _⟩
      · exact k2 g hg
      · rw [k1] at hg; cases hg; exact k2
    · rw [r4] at hg
      cases hg
      exact .inr ⟨by omega, hgl⟩
end

end Go.Proofs.YtkdolabhcbjipaaGreat

/-
  SegmentKept: a life in memory.
-/
namespace Go.Proofs.YtkdolabhcbjipaaGreat
open Go.RowKit
set_option maxRecDepth 100000
set_option linter.unusedVariables false

/-- The disk, the list of what may be told, and what the life is. -/
structure Ov (w : World) (R G : Nat) (xc : Array Value) (d : Dsk) (L : List (List Int)) (v : Value) (W : World) : Prop where
  ex : ∃ P, Ay w P R d W ∧ All P w.heap.size W v L ∧ P G ∧ W.heap[G]? = some (.cells xc (45 : TypeId) (0, 0))
/-- A segment besides. -/
structure Lv (w : World) (R S G : Nat) (xc : Array Value) (s : ByteArray) (d : Dsk) (bs : List (List Int)) (br : Bool) (L : List (List Int)) (v : Value) (W : World) : Prop where
  ex : ∃ P, Sgx w P R S d s bs br W ∧ All P w.heap.size W v L ∧ P G ∧ W.heap[G]? = some (.cells xc (45 : TypeId) (0, 0))
/-- A body besides. -/
structure Lvb (w : World) (R S G : Nat) (xc : Array Value) (s : ByteArray) (d : Dsk) (bs : List (List Int)) (br : Bool) (L : List (List Int)) (v : Value) (g m dap : Nat) (b : List Int) (W : World) : Prop where
  ex : ∃ P, Sgx w P R S d s bs br W ∧ All P w.heap.size W v L ∧ P G ∧ W.heap[G]? = some (.cells xc (45 : TypeId) (0, 0)) ∧ Bs W (some ⟨g, 0, none⟩) m dap b ∧ P g ∧ v.ownBlock ≠ some g

section
variable {w W V : World} {R S G : Nat} {xc : Array Value} {s : ByteArray} {d d' : Dsk} {bs bs' : List (List Int)} {br br' : Bool} {L : List (List Int)} {v : Value} {K : Nat}

theorem Ov.below (h : Ov w R G xc d L v W) : Below w.heap.size w W := by
  obtain ⟨P, h1, _⟩ := h.ex
  exact h1.below
theorem Lv.below (h : Lv w R S G xc s d bs br L v W) : Below w.heap.size w W := by
  obtain ⟨P, h1, _⟩ := h.ex
  exact h1.below
theorem Lv.ov (h : Lv w R S G xc s d bs br L v W) : Ov w R G xc d L v W := by
  obtain ⟨P, h1, h2⟩ := h.ex
  exact ⟨P, h1.ay, h2⟩
theorem Ov.blk (h : Ov w R G xc d L v W) : W.heap[G]? = some (.cells xc (45 : TypeId) (0, 0)) := by
  obtain ⟨P, _, _, _, h4⟩ := h.ex
  exact h4
theorem Ov.all (h : Ov w R G xc d L v W) : ∃ P, All P w.heap.size W v L := by
  obtain ⟨P, _, h2, _⟩ := h.ex
  exact ⟨P, h2⟩

theorem Ov.call {fn : FuncId} {args : Array Value} {Q : Ending → Prop} (h : Ov w R G xc d L v W) (hc : ∀ P, Ay w P R d W → (∀ g, g < w.heap.size → P g) → Calls Tryz.prog fn args W fun e W' => Q e ∧ Ay w P R d' W' ∧ No P W W') : Calls Tryz.prog fn args W fun e W' => Q e ∧ Ov w R G xc d' L v W' := by
  obtain ⟨P, h1, h2, h3, h4⟩ := h.ex
  refine (hc P h1 h1.old).mono ?_
  rintro e W' ⟨q, a, n⟩
  exact ⟨q, P, a, h2.no n, h3, (Tb.block n G (heap_lt' h4) (fun hn => hn h3)).trans h4⟩
theorem Lv.call {fn : FuncId} {args : Array Value} {Q : Ending → Prop} (h : Lv w R S G xc s d bs br L v W) (hc : ∀ P, Sgx w P R S d s bs br W → Calls Tryz.prog fn args W fun e W' => Q e ∧ Sgx w P R S d' s bs' br' W' ∧ No P W W') : Calls Tryz.prog fn args W fun e W' => Q e ∧ Lv w R S G xc s d' bs' br' L v W' := by
  obtain ⟨P, h1, h2, h3, h4⟩ := h.ex
  refine (hc P h1).mono ?_
  rintro e W' ⟨q, a, n⟩
  exact ⟨q, P, a, h2.no n, h3, (Tb.block n G (heap_lt' h4) (fun hn => hn h3)).trans h4⟩
theorem Lvb.call {g m dap : Nat} {b : List Int} {fn : FuncId} {args : Array Value} {Q : Ending → Prop} (h : Lvb w R S G xc s d bs br L v g m dap b W) (hc : ∀ P, Sgx w P R S d s bs br W → Calls Tryz.prog fn args W fun e W' => Q e ∧ Sgx w P R S d' s bs' br' W' ∧ No P W W') : Calls Tryz.prog fn args W fun e W' => Q e ∧ Lvb w R S G xc s d' bs' br' L v g m dap b W' := by
  obtain ⟨P, h1, h2, h3, h4, h5, h6, h7⟩ := h.ex
  refine (hc P h1).mono ?_
  rintro e W' ⟨q, a, n⟩
  exact ⟨q, P, a, h2.no n, h3, (Tb.block n G (heap_lt' h4) (fun hn => hn h3)).trans h4, bs_no h5 (fun ad e => by cases e; exact h6) n, h6, h7⟩

theorem Ov.new (h : Ov w R G xc d L v W) (hb : Below W.heap.size W V) : Ov w R G xc d L v V := by
  obtain ⟨P, h1, h2, h3, h4⟩ := h.ex
  exact ⟨_, h1.new (Tb.of_fresh hb), (h2.no (No.of (Tb.of_fresh hb))).more (fun g hg => .inl hg), .inl h3, (hb.block G (heap_lt' h4)).trans h4⟩
theorem Lv.new (h : Lv w R S G xc s d bs br L v W) (hb : Below W.heap.size W V) : Lv w R S G xc s d bs br L v V := by
  obtain ⟨P, h1, h2, h3, h4⟩ := h.ex
  exact ⟨_, h1.new (Tb.of_fresh hb), (h2.no (No.of (Tb.of_fresh hb))).more (fun g hg => .inl hg), .inl h3, (hb.block G (heap_lt' h4)).trans h4⟩

/-- The life is laid: its block is new. -/
theorem Ov.lay {P : Nat → Prop} (h1 : Ay w P R d W) (h2 : All P w.heap.size W v L) (hV : V = W.alloc (.cells xc (45 : TypeId))) : Ov w R W.heap.size xc d L v V := by
  have hb : Below W.heap.size W V := by rw [hV]; exact (Below.refl _ W).alloc (Nat.le_refl _) _
  have hs : V.heap.size = W.heap.size + 1 := by rw [hV]; simp
  exact ⟨_, h1.new (Tb.of_fresh hb), (h2.no (No.of (Tb.of_fresh hb))).more (fun g hg => .inl hg), .inr ⟨Nat.le_refl _, by omega⟩, by rw [hV]; exact heap_alloc_new W _⟩

/-- An opening. -/
theorem Ov.opn (h : Ov w R G xc d L v W) (hz : Bw d K) (hK : K + 13000 < 600000) (hs : s.size ≤ 1000000) :
    Calls Tryz.prog 6 #[.pointer (some ⟨R, 0, none⟩), .string s] W fun e W' => ∃ pv, e = .returned (.tuple #[pv, .int .i64 (d.opn s).1]) ∧ Ov w R G xc (d.opn s).2 L v W' ∧ ((d.opn s).1 = 0 → ∃ S, pv = .pointer (some ⟨S, 0, none⟩) ∧ Lv w R S G xc s (d.opn s).2 (d.frames s) false L v W') := by
  obtain ⟨P, h1, h2, h3, h4⟩ := h.ex
  refine (open_on h1 hz hK hs).mono ?_
  rintro e W' ⟨pv, rfl, n, a, ho, _⟩
  have k2 := h2.no n
  have k4 := (Tb.block n G (heap_lt' h4) (fun hn => hn h3)).trans h4
  exact ⟨pv, rfl, ⟨P, a, k2, h3, k4⟩, fun e0 => by
    obtain ⟨S, e1, _, e2⟩ := ho e0
    exact ⟨S, e1, P, e2, k2, h3, k4⟩⟩

theorem Lv.told (h : Lv w R S G xc s d bs br L v W) : Calls Tryz.prog 21 #[.pointer (some ⟨S, 0, none⟩)] W fun e W' => ∃ a n cap, e = .returned (.slice a n cap) ∧ n = bs.length ∧ Rl W' a n cap bs ∧ Lv w R S G xc s d bs br L v W' ∧ Below W.heap.size W W' ∧ (∃ P, Ay w P R d W' ∧ All P w.heap.size W' (.slice a n cap) bs) := by
  obtain ⟨P, h1, h2, h3, h4⟩ := h.ex
  obtain ⟨Q, sv, ev, q1, q2, q3, q4, q5, q6, q7⟩ := h1
  have h0 := h.below.size
  refine (told_any q4).mono ?_
  rintro e W' ⟨v', rs, rfl, hL, hm, hb⟩
  obtain ⟨a, cap, rfl⟩ := row_val hL.own
  have hlen : rs.length = bs.length := by rw [← hm, List.length_map]
  have hrl := hL.rl
  rw [hm] at hrl
  have a1 := h.ov
  obtain ⟨P1, p1, _⟩ := a1.ex
  have al := All.told (base := w.heap.size) (P := fun g => P1 g ∨ (W.heap.size ≤ g ∧ g < W'.heap.size)) hL hb (fun g k1 k2 => .inr ⟨k1, k2⟩) h0
  rw [hm] at al
  exact ⟨a, rs.length, cap, rfl, hlen, hrl, h.new hb, hb, _, p1.new (Tb.of_fresh hb), al⟩

theorem Lv.broken (h : Lv w R S G xc s d bs br L v W) : Calls Tryz.prog 17 #[.pointer (some ⟨S, 0, none⟩)] W fun e w' => e = .returned (.bool br) ∧ w' = W := by
  obtain ⟨P, ⟨Q, sv, ev, q1, q2, q3, q4, _⟩, _⟩ := h.ex
  exact sbroken_any q4
theorem Lvb.broken {g m dap : Nat} {b : List Int} (h : Lvb w R S G xc s d bs br L v g m dap b W) : Calls Tryz.prog 17 #[.pointer (some ⟨S, 0, none⟩)] W fun e w' => e = .returned (.bool br) ∧ w' = W := by
  obtain ⟨P, ⟨Q, sv, ev, q1, q2, q3, q4, _⟩, _⟩ := h.ex
  exact sbroken_any q4
theorem Lv.sync (h : Lv w R S G xc s d bs br L v W) (hz : Bw d K) (hK : K < 700000) (hs : s.size ≤ 1000000) :
    Calls Tryz.prog 8 #[.pointer (some ⟨S, 0, none⟩)] W fun e W' => e = .returned (.int .i64 (d.ssync s br).1) ∧ Lv w R S G xc s (d.ssync s br).2.1 bs (d.ssync s br).2.2 L v W' :=
  h.call (Q := fun e => e = .returned (.int .i64 (d.ssync s br).1)) (fun P hP => ssync_on hP hz hK hs)
theorem Lv.trunc {n : Int} (h : Lv w R S G xc s d bs br L v W) (hz : Bw d K) (hK : K + 13000 < 600000) (hs : s.size ≤ 1000000) (hn : n ≤ 9223372036854775807) :
    Calls Tryz.prog 15 #[.pointer (some ⟨S, 0, none⟩), .int .i64 n] W fun e W' => e = .returned (.int .i64 (d.strunc s bs br n).err) ∧ Lv w R S G xc s (d.strunc s bs br n).d (d.strunc s bs br n).bs (d.strunc s bs br n).br L v W' :=
  h.call (Q := fun e => e = .returned (.int .i64 (d.strunc s bs br n).err)) (fun P hP => trunc_on hP hz hK hs hn)
theorem Lvb.append {g m dap : Nat} {b : List Int} (h : Lvb w R S G xc s d bs br L v g m dap b W) (hz : Bw d K) (hK : K + 13000 < 700000) (hs : s.size ≤ 1000000) :
    Calls Tryz.prog 7 #[.pointer (some ⟨S, 0, none⟩), .slice (some ⟨g, 0, none⟩) m dap] W fun e W' => e = .returned (.tuple #[.int .i64 (d.sapp s bs br b).at', .int .i64 (d.sapp s bs br b).err]) ∧ Lvb w R S G xc s (d.sapp s bs br b).d (d.sapp s bs br b).bs (d.sapp s bs br b).br L v g m dap b W' := by
  have hB : Bs W (some ⟨g, 0, none⟩) m dap b := by
    obtain ⟨P, _, _, _, _, h5, _⟩ := h.ex
    exact h5
  exact h.call (Q := fun e => e = .returned (.tuple #[.int .i64 (d.sapp s bs br b).at', .int .i64 (d.sapp s bs br b).err])) (fun P hP => append_on hP hz hK hs hB)
theorem Lv.arm (h : Lv w R S G xc s d bs br L v W) (n : Nat) (hn : n ≤ 1000000) :
    Calls Tryz.prog 16 #[.pointer (some ⟨R, 0, none⟩), .int .i64 (n : Int)] W fun e W' => e = .returned (.int .i64 0) ∧ Lv w R S G xc s (d.arm (n : Int)).2 bs br L v W' := by
  have e0 : (d.arm (n : Int)).1 = 0 := by unfold Dsk.arm; rw [if_neg (by omega)]
  refine h.call (Q := fun e => e = .returned (.int .i64 0)) (fun P hP => ?_)
  obtain ⟨Q, sv, ev, q1, q2, q3, q4, q5, q6, q7⟩ := hP
  refine (ay_arm (n := (n : Int)) q1 (by omega)).mono ?_
  rintro e W' ⟨rfl, a, m⟩
  rw [e0]
  exact ⟨rfl, ⟨Q, sv, ev, a, q2, q3, q4.tb m (fun hn => hn (.inr q5)) (fun g hg hn => hn (.inr (q6 g hg))) (fun g hg hn => hn (.inr (q7 g hg))), q5, q6, q7⟩, m.less (fun g hg => .inl hg)⟩
theorem Ov.arm (h : Ov w R G xc d L v W) (n : Nat) (hn : n ≤ 1000000) :
    Calls Tryz.prog 16 #[.pointer (some ⟨R, 0, none⟩), .int .i64 (n : Int)] W fun e W' => e = .returned (.int .i64 0) ∧ Ov w R G xc (d.arm (n : Int)).2 L v W' := by
  have e0 : (d.arm (n : Int)).1 = 0 := by unfold Dsk.arm; rw [if_neg (by omega)]
  refine h.call (Q := fun e => e = .returned (.int .i64 0)) (fun P hP _ => ?_)
  refine (ay_arm (n := (n : Int)) hP (by omega)).mono ?_
  rintro e W' ⟨rfl, a, m⟩
  rw [e0]
  exact ⟨rfl, a, m⟩
theorem Ov.crash {p : Option Addr} {m cap : Nat} {ks : List Bool} (h : Ov w R G xc d L v W) (hz : Bw d K) (hK : K < 800000) (hk : Bools w p m cap ks) :
    Calls Tryz.prog 10 #[.pointer (some ⟨R, 0, none⟩), .slice p m cap] W fun e W' => e = .returned (.int .i64 0) ∧ Ov w R G xc (d.crash ks) L v W' := by
  obtain ⟨k1, k2, k3, k4⟩ := Bools.kp (hk.keep h.below)
  obtain ⟨_, _, _, j4⟩ := Bools.kp hk
  exact h.call (Q := fun e => e = .returned (.int .i64 0)) (fun P hP hold => ay_crash hP hz hK k2 k3 k1 (fun ad hne e => hold _ (j4 ad hne e)))

/-- A body is made. -/
theorem Lv.made {seed n : Nat} (h : Lv w R S G xc s d bs br L v W) (hs : seed ≤ 9223372036854775807) (hn : n ≤ 1000000) :
    Calls Tryz.prog 9 #[.int .i64 (seed : Int), .int .i64 (n : Int)] W fun e W' => e = .returned (.slice (some ⟨W.heap.size, 0, none⟩) n n) ∧ Lvb w R S G xc s d bs br L v W.heap.size n n (_root_.Go.Proofs.YtkdolabhcbjipaaGreat.mk seed n) W' := by
  obtain ⟨P, h1, h2, h3, h4⟩ := h.ex
  refine (made_any seed n hs hn W).mono ?_
  rintro e W' ⟨rfl, o, hb⟩
  have hlt := (o.lt W.heap.size rfl).2
  refine ⟨rfl, _, h1.new (Tb.of_fresh hb), (h2.no (No.of (Tb.of_fresh hb))).more (fun g hg => .inl hg), .inl h3, (hb.block G (heap_lt' h4)).trans h4, own_bs o (mk_byte seed n), .inr ⟨Nat.le_refl _, hlt⟩, fun e => ?_⟩
  obtain ⟨vs, _, _, k | ⟨g, k1, k2, _⟩⟩ := h2.ex
  · have := h1.ay.lt _ (k.2 _ e)
    omega
  · rw [k1] at e
    simp only [Value.ownBlock, Option.some.injEq] at e
    have := h1.ay.lt _ k2
    omega
/-- It is put behind the list. -/
theorem Lvb.more {g m dap : Nat} {b : List Int} (h : Lvb w R S G xc s d bs br L v g m dap b W) (hL : L.length ≤ 10000) :
    ∃ v' X, (Builtin.append_ #[42, 42] 42 #[v, .slice (some ⟨W.heap.size, 0, none⟩) 1 1]).run Tryz.prog (W.alloc (.cells #[.slice (some ⟨g, 0, none⟩) m dap] 30)) = .ok v' X ∧ Lv w R S G xc s d bs br (L ++ [b]) v' X := by
  obtain ⟨P, h1, h2, h3, h4, h5, h6, h7⟩ := h.ex
  have h0 := h1.below.size
  obtain ⟨v', X, r1, r2, r3⟩ := h2.app hL h0 (fun g hg => h1.ay.lt g hg) h5 (fun ad e => by cases e; exact ⟨h6, h7⟩)
  refine ⟨v', X, r1, _, h1.on (r2.mono (fun g _ h => h.2.2)), r3, .inl h3, (Tb.block r2 G (heap_lt' h4) (fun hn => ?_)).trans h4⟩
  obtain ⟨⟨n, xs, k⟩, e, _⟩ := hn
  obtain ⟨c2, k2⟩ := row_blocks k e
  rw [h4] at k2
  simp only [Option.some.injEq, Obj.cells.injEq] at k2
  exact absurd k2.2.1 (by decide)
end

end Go.Proofs.YtkdolabhcbjipaaGreat

/-
  Texts put into one.
-/
import Derived.Test.YtohndpmjdgfbeaaGreatOpr
import Derived.Test.YtohndpmjdgfbeaaGreatQk0b56b2a0

/-
  The arguments of the laws of chans, opened: programs, and picks; tame.
-/
namespace Go.Proofs.YtohndpmjdgfbeaaGreat.CH
open Go.ChangeShapes Go.WideShapes Go.ChangeAt Go.RowKit QW
set_option maxRecDepth 100000
set_option linter.unusedSimpArgs false
set_option linter.unusedVariables false

/-- What a task does, and programs, as they are read. -/
structure Dor (W : World) (a : Option Addr) (n cap : Nat) (ds : List Dop) : Prop where
  len : ds.length = n
  le : n ≤ cap
  reach : cap ≤ 9223372036854775807
  lies : 0 < n → ∃ b off, b < W.heap.size ∧ a = some ⟨b, off, none⟩ ∧ ∀ k d, ds[k]? = some d → W.cell? ⟨b, off + k * 5, none⟩ = some (.int .i64 d.kind) ∧ W.cell? ⟨b, off + k * 5 + 1, none⟩ = some (.int .i64 d.c) ∧ W.cell? ⟨b, off + k * 5 + 2, none⟩ = some (.int .i64 d.v) ∧ (∃ p q r, W.cell? ⟨b, off + k * 5 + 3, none⟩ = some (.slice p q r)) ∧ ∃ y, W.cell? ⟨b, off + k * 5 + 4, none⟩ = some (.bool y)
structure Pgr (W : World) (a : Option Addr) (n cap : Nat) (ps : List (List Dop)) : Prop where
  len : ps.length = n
  le : n ≤ cap
  reach : cap ≤ 9223372036854775807
  lies : 0 < n → ∃ b off, b < W.heap.size ∧ a = some ⟨b, off, none⟩ ∧ ∀ k, k < n → ∃ a' n' c', W.cell? ⟨b, off + k, none⟩ = some (.slice a' n' c') ∧ Dor W a' n' c' (ps.getD k [])
theorem Dor.low {w w' : World} {a : Option Addr} {n cap : Nat} {xs : List Dop} (h : Dor w a n cap xs) (hb : Below w.heap.size w w') : Dor w' a n cap xs := by
  refine ⟨h.len, h.le, h.reach, fun hn => ?_⟩
  obtain ⟨b, off, h0, h1, h2⟩ := h.lies hn
  have hc : ∀ {i : Nat} {v : Value}, w.cell? ⟨b, i, none⟩ = some v → w'.cell? ⟨b, i, none⟩ = some v := fun h => (hb.cell (cell_lt h)).trans h
  refine ⟨b, off, Nat.lt_of_lt_of_le h0 hb.size, h1, fun k d hk => ?_⟩
  obtain ⟨q1, q2, q3, ⟨p, q, r, q4⟩, y, q5⟩ := h2 k d hk
  exact ⟨hc q1, hc q2, hc q3, ⟨p, q, r, hc q4⟩, y, hc q5⟩
theorem Pgr.low {w w' : World} {a : Option Addr} {n cap : Nat} {xs : List (List Dop)} (h : Pgr w a n cap xs) (hb : Below w.heap.size w w') : Pgr w' a n cap xs := by
  refine ⟨h.len, h.le, h.reach, fun hn => ?_⟩
  obtain ⟨b, off, h0, h1, h2⟩ := h.lies hn
  refine ⟨b, off, Nat.lt_of_lt_of_le h0 hb.size, h1, fun k hk => ?_⟩
  obtain ⟨a', n', c', q1, q2⟩ := h2 k hk
  exact ⟨a', n', c', (hb.cell (cell_lt q1)).trans q1, q2.low hb⟩
/-- What tame asks. -/
def tmd (nc : Nat) (d : Dop) : Prop := 0 ≤ d.c ∧ d.c < (nc : Int) ∧ d.kind ≠ 5 ∧ d.kind ≤ 7
theorem Pgr.pgs {w : World} {a : Option Addr} {n cap nc : Nat} {ps : List (List Dop)} (h : Pgr w a n cap ps) (ht : ∀ ds ∈ ps, ∀ d ∈ ds, tmd nc d) : Pgs (fun k => k < w.heap.size) nc w a n cap ps := by
  refine ⟨h.len, h.le, h.reach, fun hn => ?_⟩
  obtain ⟨b, off, h0, h1, h2⟩ := h.lies hn
  refine ⟨b, off, h0, h1, fun k hk => ?_⟩
  obtain ⟨a', n', c', q1, q2⟩ := h2 k hk
  have hkl : k < ps.length := by rw [h.len]; exact hk
  have hm : ps.getD k [] ∈ ps := by simp [List.getD, List.getElem?_eq_getElem hkl]
  exact ⟨a', n', c', q1, ⟨q2.len, q2.le, q2.reach, fun d hd => ⟨(ht _ hm d hd).1, (ht _ hm d hd).2.1, (ht _ hm d hd).2.2.1⟩, q2.lies⟩⟩

theorem bounds_u64 {z : Int} (h : (Lit.int .u64 z).wf = true) : 0 ≤ z ∧ z ≤ 18446744073709551615 := by
  simp [Lit.wf, IntKind.min, IntKind.max, IntKind.signed, IntKind.bits] at h
  exact h
theorem open_u64s {H : Type} {enc : TypeId × Value → H} {W : World} {a : Option Addr} {len cap : Nat} {d : DataW H} {p : List MemPlace}
    (h : DataW.Trod enc Tryz.prog W 0 (fun _ => true) true 24 (.slice a len cap) d p) : ∃ xs, Us W a len cap xs ∧ ((d = .nil ∧ len = 0) ∨ ∃ es rs : List (DataW H), es.length = len ∧ d = .slice es rs) := by
  obtain ⟨xs, hL, hd⟩ := open_rows (fun z : Nat => [Value.int .u64 (z : Int)]) 1 (fun z => z ≤ 18446744073709551615) Tryz.underlying24 (by kernel_rfl) (by omega) (fun _ => rfl) (fun fuel cs x h => by
    obtain ⟨z, hz, _, w0⟩ := DataW.trod_int Tryz.underlying38 h
    have hb := bounds_u64 w0
    exact ⟨z.toNat, by rw [hz, Int.toNat_of_nonneg hb.1], by omega⟩) h
  refine ⟨xs, ⟨hL.len, hL.le, hL.reach, hL.each, fun hn => ?_⟩, hd⟩
  obtain ⟨b, off, ha, hc⟩ := hL.lies hn
  refine ⟨b, off, ha, fun i hi => ?_⟩
  have hl := hL.len
  have := hc i (xs.getD i 0) (by simp [List.getD, List.getElem?_eq_getElem (by omega : i < xs.length)]) 0 _ rfl
  simpa using this

theorem trod5 {H : Type} {enc : TypeId × Value → H} {P : Program} {w : World} {base : Nat} {spare : Nat → Bool} {held : Bool} {t : TypeId} {f0 f1 f2 f3 f4 : Field} {fuel : Nat} {cs : List Value} {x : DataW H × List MemPlace} (ht : P.underlying t = some (.struct #[f0, f1, f2, f3, f4])) (h : DataW.trod enc P w base spare held fuel t cs = some x) :
    ∃ y0 y1 y2 y3 y4 n, cs.length = P.cellsOf t ∧ DataW.trod enc P w base spare held n f0.type ((cs.drop f0.offset).take (P.cellsOf f0.type)) = some y0 ∧
      DataW.trod enc P w base spare held n f1.type ((cs.drop f1.offset).take (P.cellsOf f1.type)) = some y1 ∧ DataW.trod enc P w base spare held n f2.type ((cs.drop f2.offset).take (P.cellsOf f2.type)) = some y2 ∧
      DataW.trod enc P w base spare held n f3.type ((cs.drop f3.offset).take (P.cellsOf f3.type)) = some y3 ∧ DataW.trod enc P w base spare held n f4.type ((cs.drop f4.offset).take (P.cellsOf f4.type)) = some y4 := by
  obtain ⟨xs, n, _, rfl, hl, hlen, hf⟩ := DataW.trod_struct ht h
  match xs, hlen with
  | [y0, y1, y2, y3, y4], _ => exact ⟨y0, y1, y2, y3, y4, n, hl, by simpa using hf 0 f0 rfl, by simpa using hf 1 f1 rfl, by simpa using hf 2 f2 rfl, by simpa using hf 3 f3 rfl, by simpa using hf 4 f4 rfl⟩

theorem open_dos {H : Type} {enc : TypeId × Value → H} {W : World} {a : Option Addr} {len cap : Nat} {d : DataW H} {p : List MemPlace}
    (h : DataW.Trod enc Tryz.prog W 0 (fun _ => true) true 108 (.slice a len cap) d p) : ∃ xs, Dor W a len cap xs := by
  have hs3 : Tryz.prog.cellsOf 3 = 1 := by kernel_rfl
  have hs4 : Tryz.prog.cellsOf 4 = 1 := by kernel_rfl
  have hsc : Tryz.prog.cellsOf 109 = 1 := by kernel_rfl
  have hs : Tryz.prog.cellsOf 111 = 5 := by kernel_rfl
  obtain ⟨xs, hL, hd⟩ := open_rows (fun z : Dop × (Option Addr × Nat × Nat) × Bool => [Value.int .i64 z.1.kind, Value.int .i64 z.1.c, Value.int .i64 z.1.v, Value.slice z.2.1.1 z.2.1.2.1 z.2.1.2.2, Value.bool z.2.2]) 5 (fun _ => True) Tryz.underlying108 hs (by omega) (fun _ => rfl) (fun fuel cs x h => by
    obtain ⟨y0, y1, y2, y3, y4, n, hl, h0, h1, h2, h3, h4⟩ := trod5 Tryz.underlying111 h
    rw [hs] at hl
    simp only [hs3, hs4, hsc] at h0 h1 h2 h3 h4
    obtain ⟨z0, e0, _, w0⟩ := DataW.trod_int Tryz.underlying3 h0
    obtain ⟨z1, e1, _, w1⟩ := DataW.trod_int Tryz.underlying3 h1
    obtain ⟨z2, e2, _, w2⟩ := DataW.trod_int Tryz.underlying3 h2
    obtain ⟨z4, e4, _⟩ := DataW.trod_bool Tryz.underlying4 h4
    have e3 : ∃ a' n' c', (List.take 1 (List.drop 3 cs)) = [Value.slice a' n' c'] := by
      rcases DataW.trod_slice Tryz.underlying109 h3 with ⟨hcs, _⟩ | ⟨x, l, c, _, _, _, _, hcs, _⟩
      · exact ⟨_, _, _, hcs⟩
      · exact ⟨_, _, _, hcs⟩
    obtain ⟨a', n', c', e3⟩ := e3
    refine ⟨(⟨z0, z1, z2⟩, (a', n', c'), z4), ?_, trivial⟩
    match cs, hl, e0, e1, e2, e3, e4 with
    | [u, v, t, s, r], _, e0, e1, e2, e3, e4 =>
      simp at e0 e1 e2 e3 e4
      rw [e0, e1, e2, e3, e4]) h
  refine ⟨xs.map (·.1), by simpa using hL.len, hL.le, hL.reach, fun hn => ?_⟩
  obtain ⟨b, off, ha, hc⟩ := hL.lies hn
  have hl := hL.len
  have hx0 : xs[0]? = some xs[0] := List.getElem?_eq_getElem (by omega)
  refine ⟨b, off, cell_lt (by simpa using hc 0 _ hx0 0 _ rfl : W.cell? ⟨b, off, none⟩ = some _), ha, fun k d hk => ?_⟩
  rw [List.getElem?_map] at hk
  obtain ⟨x, hx, rfl⟩ := Option.map_eq_some_iff.1 hk
  exact ⟨by simpa using hc k _ hx 0 _ rfl, by simpa using hc k _ hx 1 _ rfl, by simpa using hc k _ hx 2 _ rfl, ⟨_, _, _, by simpa using hc k _ hx 3 _ rfl⟩, _, by simpa using hc k _ hx 4 _ rfl⟩

theorem open_progs {H : Type} {enc : TypeId × Value → H} {W : World} {a : Option Addr} {len cap : Nat} {d : DataW H} {p : List MemPlace}
    (h : DataW.Trod enc Tryz.prog W 0 (fun _ => true) true 22 (.slice a len cap) d p) : ∃ ps, Pgr W a len cap ps ∧ ((d = .nil ∧ len = 0) ∨ ∃ es rs : List (DataW H), es.length = len ∧ d = .slice es rs) := by
  have hs : Tryz.prog.cellsOf 108 = 1 := by kernel_rfl
  obtain ⟨xs, hL, hd⟩ := open_rows (fun z : Option Addr × Nat × Nat × List Dop => [Value.slice z.1 z.2.1 z.2.2.1]) 1 (fun z => Dor W z.1 z.2.1 z.2.2.1 z.2.2.2) Tryz.underlying22 hs (by omega) (fun _ => rfl) (fun fuel cs x h => by
    have hcs : ∃ a' n' c', cs = [Value.slice a' n' c'] := by
      rcases DataW.trod_slice Tryz.underlying108 h with ⟨hcs, _⟩ | ⟨x, l, c, _, _, _, _, hcs, _⟩
      · exact ⟨_, _, _, hcs⟩
      · exact ⟨_, _, _, hcs⟩
    obtain ⟨a', n', c', rfl⟩ := hcs
    obtain ⟨ds, hds⟩ := open_dos (a := a') (len := n') (cap := c') (d := x.1) (p := x.2) ⟨fuel, by simpa [Value.cells] using h⟩
    exact ⟨(a', n', c', ds), rfl, hds⟩) h
  refine ⟨xs.map (·.2.2.2), ⟨by simpa using hL.len, hL.le, hL.reach, fun hn => ?_⟩, hd⟩
  obtain ⟨b, off, ha, hc⟩ := hL.lies hn
  have hl := hL.len
  have hall : ∀ i, i < len → ∃ a' n' c', W.cell? ⟨b, off + i, none⟩ = some (.slice a' n' c') ∧ Dor W a' n' c' ((xs.map (·.2.2.2)).getD i []) := fun i hi => by
    have hx : xs[i]? = some xs[i] := List.getElem?_eq_getElem (by omega)
    refine ⟨xs[i].1, xs[i].2.1, xs[i].2.2.1, by simpa using hc i _ hx 0 _ rfl, ?_⟩
    have e : (xs.map (·.2.2.2)).getD i [] = xs[i].2.2.2 := by simp [List.getD, hx]
    rw [e]
    exact hL.each _ (List.mem_of_getElem? hx)
  obtain ⟨a', n', c', h0, _⟩ := hall 0 hn
  exact ⟨b, off, cell_lt h0, ha, hall⟩

end Go.Proofs.YtohndpmjdgfbeaaGreat.CH

/-
  tame.
-/
namespace Go.Proofs.YtohndpmjdgfbeaaGreat.CH
open Go.RowKit QW
set_option maxRecDepth 100000
set_option linter.unusedSimpArgs false
set_option linter.unusedVariables false

/-- What tame asks of programs and sizes. -/
def tm (ps : List (List Dop)) (xs : List Int) : Prop := ps.length ≤ 6 ∧ 1 ≤ xs.length ∧ xs.length ≤ 6 ∧ (∀ x ∈ xs, 0 ≤ x ∧ x ≤ 64) ∧ ∀ ds ∈ ps, ∀ d ∈ ds, tmd xs.length d

/-- What tame answers. -/
def TmP (w : World) (ps : List (List Dop)) (xs : List Int) (e : Ending) (w' : World) : Prop := ∃ b : Bool, e = .returned (.bool b) ∧ (b = true → tm ps xs) ∧ Below w.heap.size w w'
theorem TmP.no {w w' : World} {ps : List (List Dop)} {xs : List Int} (hb : Below w.heap.size w w') : TmP w ps xs (.returned (.bool false)) w' := ⟨false, rfl, by simp, hb⟩

section
variable {w : World} {pa sa : Option Addr} {np pcap nc scap : Nat} {ps : List (List Dop)} {xs : List Int}

set_option maxHeartbeats 4000000 in
theorem tame_any (hP : Pgr w pa np pcap ps) (hS : QI.Ls w sa nc scap xs) :
    Calls Tryz.prog 9 #[.slice pa np pcap, .slice sa nc scap] w fun e w' => TmP w ps xs e w' := by
  have hpl := hP.len
  have hp1 := hP.le
  have hp2 := hP.reach
  have hsl := hS.len
  have HP := hide hP
  have HS := hide hS
  clear hP hS
  by_cases h1 : np ≤ 6
  · by_cases h2 : 1 ≤ nc
    · by_cases h3 : nc ≤ 6
      · obtain ⟨sb, so, rfl, hsc⟩ := HS.out.lies (by omega)
        have hs1 := HS.out.le
        have hs2 := HS.out.reach
        have HSC := hide hsc
        have b1 : decide ((np : Int) > 6) = false := by simp; omega
        have b2 : decide ((nc : Int) < 1) = false := by simp; omega
        have b3 : decide ((nc : Int) > 6) = false := by simp; omega
        clear hsc HS
        go_enter Tryz.func9, Tryz.ntmps9
        go_wp2_with fail
        go_loopw [5] (fun i wr => ∃ k : Nat, k ≤ nc ∧ i = .int .i64 k ∧ wr = w ∧ Hid (∀ j, j < k → 0 ≤ xs.getD j 0 ∧ xs.getD j 0 ≤ 64)) (fun i _ => nc - (intOf i).toNat)
        case atStart => exact ⟨0, Nat.zero_le _, rfl, rfl, hide (fun j hj => by omega)⟩
        case round =>
          obtain ⟨k, hk, rfl, hw, hg⟩ := hrel
          subst wr
          by_cases hlt : k < nc
          · have hii : decide ((k : Int) < (nc : Int)) = true := by simp; omega
            have cS := HSC.out k hlt
            generalize hx : xs.getD k 0 = x at cS
            by_cases hx0 : x < 0
            · have d1 : decide (x < 0) = true := by simp; omega
              clear hg HSC HP
              go_wp2_with fail
              go_ret
              exact TmP.no (Below.refl _ _)
            · have d1 : decide (x < 0) = false := by simp; omega
              by_cases hx1 : 64 < x
              · have d2 : decide (x > 64) = true := by simp; omega
                clear hg HSC HP
                go_wp2_with fail
                go_ret
                exact TmP.no (Below.refl _ _)
              · have d2 : decide (x > 64) = false := by simp; omega
                have hg' : Hid (∀ j, j < k + 1 → 0 ≤ xs.getD j 0 ∧ xs.getD j 0 ≤ 64) := hide (fun j hj => by
                  rcases Nat.lt_or_ge j k with h | h
                  · exact hg.out j h
                  · obtain rfl : j = k := by omega
                    rw [hx]
                    omega)
                clear hg HSC HP hx
                go_wp2_with fail
                go_roundw
                case rel => exact ⟨k + 1, by omega, by go_num, by first | rfl | trivial, hg'⟩
                case measure => simp [intOf]; omega
          · obtain rfl : k = nc := by omega
            have hii : decide ((k : Int) < (k : Int)) = false := by simp
            clear HSC
            go_wp2_with fail
            go_loopw [6] (fun i wr => ∃ j : Nat, j ≤ np ∧ i = .int .i64 j ∧ Hid (∀ i, i < j → ∀ d ∈ ps.getD i [], tmd k d) ∧ Hid (Below w.heap.size w wr)) (fun i _ => np - (intOf i).toNat)
            case atStart => exact ⟨0, Nat.zero_le _, rfl, hide (fun i hi => by omega), hide (Below.refl _ _)⟩
            case round =>
              obtain ⟨j, hj, rfl, hgp, hb⟩ := hrel
              by_cases hjl : j < np
              · have hij : decide ((j : Int) < (np : Int)) = true := by simp; omega
                obtain ⟨pb, po, _, hpa, hpc⟩ := HP.out.lies (by omega)
                subst hpa
                obtain ⟨da, dn, dc, c1, hd⟩ := hpc j hjl
                generalize hds : ps.getD j [] = ds at hd
                have hd1 := hd.le
                have hd2 := hd.reach
                have hd3 := hd.len
                have HD := hide hd
                have HC1 := hide c1
                clear c1 hd hpc HP
                go_wp2_with fail
                go_loopw [7] (fun i wr => ∃ q : Nat, q ≤ dn ∧ i = .int .i64 q ∧ Hid (∀ i, i < q → ∀ d, ds[i]? = some d → tmd k d) ∧ Hid (Below w.heap.size w wr)) (fun i _ => dn - (intOf i).toNat)
                case atStart => exact ⟨0, Nat.zero_le _, rfl, hide (fun i hi => by omega), hb⟩
                case round =>
                  clear hb
                  obtain ⟨q, hq, rfl, hgd, hb⟩ := hrel
                  have c1 := (hb.out.cell (cell_lt HC1.out)).trans HC1.out
                  by_cases hql : q < dn
                  · have hiq : decide ((q : Int) < (dn : Int)) = true := by simp; omega
                    obtain ⟨db, dof, _, hda, hdc⟩ := HD.out.lies (by omega)
                    subst hda
                    obtain ⟨⟨dk, dcc, dv⟩, hdq⟩ : ∃ d, ds[q]? = some d := ⟨_, List.getElem?_eq_getElem (by omega)⟩
                    obtain ⟨q1, q2, q3, ⟨sp, sn, sc, q4⟩, y, q5⟩ := hdc q _ hdq
                    simp only at q1 q2 q3
                    have g1 := (hb.out.cell (cell_lt q1)).trans q1
                    have g2 := (hb.out.cell (cell_lt q2)).trans q2
                    have g3 := (hb.out.cell (cell_lt q3)).trans q3
                    have g4 := (hb.out.cell (cell_lt q4)).trans q4
                    have g5 := (hb.out.cell (cell_lt q5)).trans q5
                    have HBW : Hid (Below w.heap.size w (wr.alloc (.cells #[.int .i64 dk, .int .i64 dcc, .int .i64 dv, .slice sp sn sc, .bool y] (111 : TypeId)))) := hide (hb.out.trans (((Below.refl _ wr).alloc (Nat.le_refl _) _).mono hb.out.size))
                    have HG : Hid (tmd k ⟨dk, dcc, dv⟩ → ∀ i, i < q + 1 → ∀ d, ds[i]? = some d → tmd k d) := hide (fun ht i hi d hd => by
                      rcases Nat.lt_or_ge i q with h | h
                      · exact hgd.out i h d hd
                      · obtain rfl : i = q := by omega
                        rw [hdq] at hd
                        cases hd
                        exact ht)
                    clear q1 q2 q3 q4 q5 hdc hdq hgd hb HD HC1 hgp hds
                    by_cases t1 : dcc < 0
                    · have d1 : decide (dcc < 0) = true := by simp; omega
                      go_wp2_with fail
                      go_ret
                      exact TmP.no HBW.out
                    · have d1 : decide (dcc < 0) = false := by simp; omega
                      by_cases t2 : (k : Int) ≤ dcc
                      · have d2 : decide (dcc ≥ (k : Int)) = true := by simp; omega
                        go_wp2_with fail
                        go_ret
                        exact TmP.no HBW.out
                      · have d2 : decide (dcc ≥ (k : Int)) = false := by simp; omega
                        by_cases t3 : dk = 5
                        · have d3 : (dk == 5) = true := by simp [t3]
                          clear t3
                          go_wp2_with fail
                          go_ret
                          exact TmP.no HBW.out
                        · have d3 : (dk == 5) = false := by simp [t3]
                          by_cases t4 : 7 < dk
                          · have d4 : decide (dk > 7) = true := by simp; omega
                            go_wp2_with fail
                            go_ret
                            exact TmP.no HBW.out
                          · have d4 : decide (dk > 7) = false := by simp; omega
                            have HG2 := hide (HG.out ⟨by simp only; omega, by simp only; omega, by simpa using t3, by simp only; omega⟩)
                            clear HG
                            go_wp2_with fail
                            go_roundw
                            case rel => exact ⟨q + 1, by omega, by go_num, HG2, HBW⟩
                            case measure => simp [intOf]; omega
                  · obtain rfl : q = dn := by omega
                    have hiq : decide ((q : Int) < (q : Int)) = false := by simp
                    have HG2 : Hid (∀ i, i < j + 1 → ∀ d ∈ ps.getD i [], tmd k d) := hide (fun i hi d hd => by
                      rcases Nat.lt_or_ge i j with h | h
                      · exact hgp.out i h d hd
                      · obtain rfl : i = j := by omega
                        rw [hds] at hd
                        obtain ⟨x, hx⟩ := List.getElem?_of_mem hd
                        exact hgd.out x (by have := (List.getElem?_eq_some_iff.1 hx).1; omega) d hx)
                    clear hgd hgp HD HC1 hds
                    go_wp2_with fail
                    go_roundw
                    case rel => exact ⟨j + 1, by omega, by go_num, HG2, hb⟩
                    case measure => simp [intOf]; omega
              · obtain rfl : j = np := by omega
                have hij : decide ((j : Int) < (j : Int)) = false := by simp
                have HT : Hid (tm ps xs) := hide ⟨by omega, by omega, by omega, fun x hx => by
                  obtain ⟨i, hi⟩ := List.getElem?_of_mem hx
                  have hil := (List.getElem?_eq_some_iff.1 hi).1
                  have := hg.out i (by omega)
                  simpa [List.getD, hi] using this, fun ds hds d hd => by
                  obtain ⟨i, hi⟩ := List.getElem?_of_mem hds
                  have hil := (List.getElem?_eq_some_iff.1 hi).1
                  have := hgp.out i (by omega) d (by simpa [List.getD, hi] using hd)
                  rwa [← hsl] at this⟩
                clear hg hgp HP
                go_wp2_with fail
                go_ret
                exact ⟨true, rfl, fun _ => HT.out, hb.out⟩
      · have b1 : decide ((np : Int) > 6) = false := by simp; omega
        have b2 : decide ((nc : Int) < 1) = false := by simp; omega
        have b3 : decide ((nc : Int) > 6) = true := by simp; omega
        clear HP HS
        go_enter Tryz.func9, Tryz.ntmps9
        go_wp2_with fail
        go_ret
        exact TmP.no (Below.refl _ _)
    · have b1 : decide ((np : Int) > 6) = false := by simp; omega
      have b2 : decide ((nc : Int) < 1) = true := by simp; omega
      clear HP HS
      go_enter Tryz.func9, Tryz.ntmps9
      go_wp2_with fail
      go_ret
      exact TmP.no (Below.refl _ _)
  · have b1 : decide ((np : Int) > 6) = true := by simp; omega
    clear HP HS
    go_enter Tryz.func9, Tryz.ntmps9
    go_wp2_with fail
    go_ret
    exact TmP.no (Below.refl _ _)
end

end Go.Proofs.YtohndpmjdgfbeaaGreat.CH

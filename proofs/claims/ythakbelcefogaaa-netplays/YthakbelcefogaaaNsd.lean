/-
  The document's Double of a number that is on its way.
-/
import Derived.Test.YthakbelcefogaaaNtv
import Derived.Test.YthakbelcefogaaaNtw
import Derived.Deep.RegionHeld3
namespace Go.Proofs.Ythakbelcefogaaa
open Go.RowKit
set_option maxRecDepth 100000

theorem Rn.low {w : World} {F : Nat → Prop} {v : Value} {n : Nt} (h : Rn w F v n) : Rn w (fun g => F g ∧ g < w.heap.size) v n := by
  obtain ⟨a, cap, ts, h1, h2⟩ := h
  exact ⟨a, cap, ts, h1, h2.low⟩
theorem Rn.heap {w w' : World} {F : Nat → Prop} {v : Value} {n : Nt} (h : Rn w F v n) (hb : ∀ g, F g → g < w.heap.size → w'.heap[g]? = w.heap[g]?) (hs : w.heap.size ≤ w'.heap.size) : Rn w' F v n := by
  obtain ⟨a, cap, ts, h1, h2⟩ := h
  exact ⟨a, cap, ts, h1, h2.heap hb hs⟩

/-- What the document's put does, whatever is there. -/
theorem rput_any {w : World} {F : Nat → Prop} {a : Option Addr} {cap : Nat} {ts : List Pt} {n : Nt} {no fr to : Int} {c : Option Addr} {m d : Nat} {bd : List Int} (h : Pl w F a n.m.length cap ts n.m) (hla : 0 ≤ n.last ∧ n.last < 9223372036854775807) (hB : Bs w c m d bd) (hm : m ≤ 65545) :
    Calls Try.prog 38 #[.agg #[.slice a n.m.length cap, .int .i64 n.last], .agg #[.int .i64 no, .int .i64 fr, .int .i64 to, .slice c m d]] w fun e w' => ∃ (a' : Option Addr) (N' cap' : Nat) (la' : Int), e = .returned (.tuple #[.agg #[.slice a' N' cap', .int .i64 la'], .int .i64 n.putA.1, .int .i64 n.putA.2]) ∧ Rn w' (fun g => F g ∨ w.heap.size ≤ g) (.agg #[.slice a' N' cap', .int .i64 la']) (n.putN ⟨fr, to, bd⟩) ∧ Below w.heap.size w w' := by
  by_cases hf : 256 ≤ n.m.length
  · refine (rput_full (x0 := .int .i64 no) (x1 := .int .i64 fr) (x2 := .int .i64 to) (x3 := .slice c m d) hf).mono ?_
    rintro e w' ⟨rfl, hb⟩
    refine ⟨a, n.m.length, cap, n.last, by simp [Nt.putA, hf], ?_, hb⟩
    unfold Nt.putN
    rw [if_pos hf]
    exact ⟨a, cap, ts, rfl, (h.keep hb).mono (fun _ h => .inl h)⟩
  · refine (rput_go (no := no) (fr := fr) (to := to) h (by omega) hla hB hm).mono ?_
    rintro e w' ⟨a', cap', ts', rfl, hP, hb⟩
    refine ⟨a', n.m.length + 1, cap', n.last + 1, by simp [Nt.putA, hf], ?_, hb⟩
    unfold Nt.putN
    rw [if_neg hf]
    have e : (n.put ⟨fr, to, bd⟩).m.length = n.m.length + 1 := by simp [Nt.put]
    refine ⟨a', cap', ts', ?_, ?_⟩
    · rw [e]
      rfl
    · rw [e]
      exact hP

set_option maxHeartbeats 4000000 in
theorem rdouble_yes {w : World} {F : Nat → Prop} {v : Value} {n : Nt} {k : Int} {p : Pk} (h : Rn w F v n) (hf : n.m.length ≤ 256) (hla' : 0 ≤ n.last ∧ n.last < 9223372036854775807) (hk : lk n.m k = some p) (hpl : p.bd.length ≤ 65545) :
    Calls Try.prog 22 #[v, .int .i64 k] w fun e w' => ∃ v', e = .returned (.tuple #[v', .int .i64 (n.dblA k).1, .int .i64 (n.dblA k).2]) ∧ Rn w' (fun g => F g ∨ w.heap.size ≤ g) v' (n.dblN k) ∧ Below w.heap.size w w' := by
  have hdA : n.dblA k = n.putA := by simp [Nt.dblA, hk]
  have hdN : n.dblN k = n.putN p := by simp [Nt.dblN, hk, Nt.findA]
  rw [hdA, hdN]
  obtain ⟨a, cap, ts, rfl, hP0⟩ := h.low
  obtain ⟨j, hj, hfj, hlj⟩ := fnd_some hk 0
  obtain ⟨N, hN⟩ : ∃ N, Hid (N = n.m.length) := ⟨_, hide rfl⟩
  obtain ⟨la, hla⟩ : ∃ la, Hid (la = n.last) := ⟨_, hide rfl⟩
  obtain ⟨A, HA⟩ : ∃ A, Hid (A = ((w.alloc (.cells #[.slice a N cap, .int .i64 la] (40 : TypeId))).alloc (.cells #[.slice none 0 0, .int .i64 0] (40 : TypeId)))) := ⟨_, hide rfl⟩
  have bA : Below w.heap.size w A := by rw [HA.out]; exact ((Below.refl _ w).alloc (Nat.le_refl _) _).alloc (by simp) _
  have sA : A.heap.size = w.heap.size + 2 := by rw [HA.out]; simp
  have a0 : A.heap[w.heap.size]? = some (.cells #[.slice a N cap, .int .i64 la] (40 : TypeId) (0, 0)) := by rw [HA.out, Below.heap_alloc _ _ _ (by simp)]; exact heap_alloc_new w _
  have a1 : A.heap[w.heap.size + 1]? = some (.cells #[.slice none 0 0, .int .i64 0] (40 : TypeId) (0, 0)) := by rw [HA.out]; simpa using heap_alloc_new (w.alloc (.cells #[.slice a N cap, .int .i64 la] (40 : TypeId))) (.cells #[.slice none 0 0, .int .i64 0] (40 : TypeId))
  have hPA := hP0.keep bA
  have C := rfind_any (la := la) (k := k) hPA (by omega)
  rw [hfj, Nat.zero_add] at C
  have hle := hP0.le
  have hre := hP0.reach
  rw [← hN.out] at C hle hj ⊢
  rw [← hla.out]
  have FIN : Hid (∀ B, Below A.heap.size A B → ∃ (b off : Nat) (t : Pt), a = some ⟨b, off, none⟩ ∧
      (∀ V, Below B.heap.size B V → V.cell? ⟨w.heap.size, 0, none⟩ = some (.slice a N cap) ∧ V.cell? ⟨w.heap.size, 1, none⟩ = some (.int .i64 la) ∧ V.cell? ⟨b, off + j * 4, none⟩ = some (.int .i64 k) ∧ V.cell? ⟨b, off + j * 4 + 1, none⟩ = some (.int .i64 p.fr) ∧ V.cell? ⟨b, off + j * 4 + 2, none⟩ = some (.int .i64 p.to) ∧ V.cell? ⟨b, off + j * 4 + 3, none⟩ = some (.slice t.a t.ln t.cap)) ∧
      (∀ V, Below B.heap.size B V → Calls Try.prog 38 #[.agg #[.slice a N cap, .int .i64 la], .agg #[.int .i64 k, .int .i64 p.fr, .int .i64 p.to, .slice t.a t.ln t.cap]] V fun e X => ∃ (a' : Option Addr) (N' cap' : Nat) (la' : Int), e = .returned (.tuple #[.agg #[.slice a' N' cap', .int .i64 la'], .int .i64 n.putA.1, .int .i64 n.putA.2]) ∧ Below B.heap.size B X ∧ X.cell? ⟨w.heap.size + 1, 0, none⟩ = some (.slice none 0 0) ∧ X.cell? ⟨w.heap.size + 1, 1, none⟩ = some (.int .i64 0) ∧ X.frozen? ⟨w.heap.size + 1, 0, none⟩ = false ∧ X.frozen? ⟨w.heap.size + 1, 1, none⟩ = false ∧
        Hid (∀ x y, x = .slice a' N' cap' → y = .int .i64 la' → ((X.setCell ⟨w.heap.size + 1, 0, none⟩ x).setCell ⟨w.heap.size + 1, 1, none⟩ y).heap[w.heap.size + 1]? = some (.cells #[x, y] (40 : TypeId) (0, 0)) ∧ Rn ((X.setCell ⟨w.heap.size + 1, 0, none⟩ x).setCell ⟨w.heap.size + 1, 1, none⟩ y) (fun g => F g ∨ w.heap.size ≤ g) (.agg #[x, y]) (n.putN p) ∧ Below w.heap.size w ((X.setCell ⟨w.heap.size + 1, 0, none⟩ x).setCell ⟨w.heap.size + 1, 1, none⟩ y) ∧
          (∀ i u, B.cell? ⟨w.heap.size, i, none⟩ = some u → ((X.setCell ⟨w.heap.size + 1, 0, none⟩ x).setCell ⟨w.heap.size + 1, 1, none⟩ y).cell? ⟨w.heap.size, i, none⟩ = some u) ∧ (∀ i u, B.cell? ⟨b, i, none⟩ = some u → ((X.setCell ⟨w.heap.size + 1, 0, none⟩ x).setCell ⟨w.heap.size + 1, 1, none⟩ y).cell? ⟨b, i, none⟩ = some u)))) := hide (fun B hB => by
    have hPB := hPA.keep hB
    have hjl : j < n.m.length := by rw [← hN.out]; exact hj
    obtain ⟨b, off, t, ha, c0, c1, c2, c3, hbs⟩ := hPB.at j hjl
    rw [hlj] at c0 c1 c2 hbs
    simp only at c0 c1 c2 hbs
    have hb0 : b < w.heap.size := ((hP0.lies (by rw [← hP0.len]; omega) b off ha).1).2
    have bB : Below w.heap.size w B := bA.trans (hB.mono bA.size)
    have sB := hB.size
    have k0 := (hB.block w.heap.size (by omega)).trans a0
    have k1 := (hB.block (w.heap.size + 1) (by omega)).trans a1
    refine ⟨b, off, t, ha, fun V hV => ?_, fun V hV => ?_⟩
    · have v0 := (hV.block w.heap.size (by omega)).trans k0
      exact ⟨cell_of_row V _ 0 _ _ _ v0, cell_of_row V _ 1 _ _ _ v0, (hV.cell (cell_lt c0)).trans c0, (hV.cell (cell_lt c1)).trans c1, (hV.cell (cell_lt c2)).trans c2, (hV.cell (cell_lt c3)).trans c3⟩
    · have hPV := hPB.keep hV
      have hbl := hbs.len
      have hC := rput_any (no := k) (fr := p.fr) (to := p.to) hPV hla' (hbs.keep hV) (by omega)
      rw [← hN.out, ← hla.out] at hC
      refine hC.mono ?_
      rintro e X ⟨a', N', cap', la', rfl, hR, hX⟩
      have bX : Below B.heap.size B X := hV.trans (hX.mono hV.size)
      have x1 := (bX.block (w.heap.size + 1) (by omega)).trans k1
      refine ⟨a', N', cap', la', rfl, bX, cell_of_row X _ 0 _ _ _ x1, cell_of_row X _ 1 _ _ _ x1, frozen_of_row X _ 0 _ _ x1, frozen_of_row X _ 1 _ _ x1, hide ?_⟩
      rintro x y rfl rfl
      have hoth : ∀ g, g ≠ w.heap.size + 1 → ((X.setCell ⟨w.heap.size + 1, 0, none⟩ (.slice a' N' cap')).setCell ⟨w.heap.size + 1, 1, none⟩ (.int .i64 la')).heap[g]? = X.heap[g]? := fun g hg => (Below.heap_setCell _ _ _ g hg).trans (Below.heap_setCell _ _ _ g hg)
      have hsz : ((X.setCell ⟨w.heap.size + 1, 0, none⟩ (.slice a' N' cap')).setCell ⟨w.heap.size + 1, 1, none⟩ (.int .i64 la')).heap.size = X.heap.size := by simp [World.setCell]
      have sV := hV.size
      refine ⟨pair_set x1 _ _, ?_, ?_, fun i u hu => ?_, fun i u hu => ?_⟩
      · refine (hR.heap (fun g hg hlt => hoth g ?_) (by rw [hsz]; exact Nat.le_refl _)).mono (fun g hg => ?_)
        · rcases hg with hg | hg
          · have := hg.2
            omega
          · omega
        · rcases hg with hg | hg
          · exact .inl hg.1
          · exact .inr (by omega)
      · exact ((bB.trans (bX.mono (by omega))).setCell (p := ⟨w.heap.size + 1, 0, none⟩) (by simp) _).setCell (p := ⟨w.heap.size + 1, 1, none⟩) (by simp) _
      · rw [World.cell?_of_block (hoth w.heap.size (by omega)), bX.cell (show w.heap.size < B.heap.size by omega)]
        exact hu
      · rw [World.cell?_of_block (hoth b (by omega)), bX.cell (show b < B.heap.size by omega)]
        exact hu)
  have hjN : (j : Int) < (N : Int) := by omega
  clear hP0 hPA bA sA a0 a1 hfj hlj hf hdA hdN h
  go_enter Try.func22, Try.ntmps22
  go_wp2_with fail
  rw [← HA.out]
  refine C.mono ?_
  rintro e B ⟨rfl, hB⟩
  obtain ⟨b, off, t, ha, FS, FC⟩ := FIN.out B hB
  subst ha
  have HS := hide FS
  have HC := hide FC
  obtain ⟨c0, c1, c2, c3, c4, c5⟩ := FS B (Below.refl _ _)
  clear FS FC FIN C hB
  go_wp2_with fail
  go_region_held3 (fun V => V.cell? ⟨w.heap.size, 0, none⟩ = some (.slice (some ⟨b, off, none⟩) N cap) ∧ V.cell? ⟨w.heap.size, 1, none⟩ = some (.int .i64 la) ∧ V.cell? ⟨b, off + j * 4, none⟩ = some (.int .i64 k) ∧ V.cell? ⟨b, off + j * 4 + 1, none⟩ = some (.int .i64 p.fr) ∧ V.cell? ⟨b, off + j * 4 + 2, none⟩ = some (.int .i64 p.to) ∧ V.cell? ⟨b, off + j * 4 + 3, none⟩ = some (.slice t.a t.ln t.cap))
    (first | exact ⟨c0, c1, c2, c3, c4, c5⟩ | exact HS.out _ hX | exact ⟨(HF.out _ _ rfl rfl).2.2.2.1 0 _ c0, (HF.out _ _ rfl rfl).2.2.2.1 1 _ c1, (HF.out _ _ rfl rfl).2.2.2.2 _ _ c2, (HF.out _ _ rfl rfl).2.2.2.2 _ _ c3, (HF.out _ _ rfl rfl).2.2.2.2 _ _ c4, (HF.out _ _ rfl rfl).2.2.2.2 _ _ c5⟩)
    (first | (go_at_call 38; refine (HC.out _ ?_).mono ?_; exact (Below.refl _ _).drew; rintro e X ⟨a', N', cap', la', rfl, hX, y0, y1, z0, z1, HF⟩))
  obtain ⟨r1, r2, r3, _, _⟩ := HF.out _ _ rfl rfl
  have R2 := hide r2
  have R3 := hide r3
  clear HF r2 r3 y0 y1 z0 z1 hX c0 c1 c2 c3 c4 c5 HC HS
  go_wp2_with fail
  refine bodyPost_ret (v := .tuple #[.agg #[.slice a' N' cap', .int .i64 la'], .int .i64 n.putA.1, .int .i64 n.putA.2]) (results_cell_tmp2 Try.results22 _ _ (w.heap.size + 1) (40 : TypeId) _ (0, 0) _ _ _ rfl rfl rfl r1 Try.underlying40 rfl size40) rfl ?_
  exact ⟨_, rfl, R2.out, R3.out⟩

end Go.Proofs.Ythakbelcefogaaa

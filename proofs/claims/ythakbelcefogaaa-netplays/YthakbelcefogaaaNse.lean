/-
  The document's Deliver of a number that is on its way.
-/
import Derived.Test.YthakbelcefogaaaNsd
namespace Go.Proofs.Ythakbelcefogaaa
open Go.RowKit
set_option maxRecDepth 100000

theorem flat_take (ts : List Pt) (j : Nat) (i : Nat) (u : Value) (h : ((ts.take j).flatMap Pt.cells)[i]? = some u) : (ts.flatMap Pt.cells)[i]? = some u := by
  have hl : i < ((ts.take j).flatMap Pt.cells).length := by
    rcases Nat.lt_or_ge i ((ts.take j).flatMap Pt.cells).length with h' | h'
    · exact h'
    · rw [List.getElem?_eq_none h'] at h
      cases h
  have e : ts.flatMap Pt.cells = (ts.take j).flatMap Pt.cells ++ (ts.drop j).flatMap Pt.cells := by rw [← List.flatMap_append, List.take_append_drop]
  rw [e, List.getElem?_append_left hl]
  exact h

theorem flat_drop (ts : List Pt) (j : Nat) (hj : j ≤ ts.length) (i : Nat) (u : Value) (h : ((ts.drop j).flatMap Pt.cells)[i]? = some u) : (ts.flatMap Pt.cells)[j * 4 + i]? = some u := by
  have e : ts.flatMap Pt.cells = (ts.take j).flatMap Pt.cells ++ (ts.drop j).flatMap Pt.cells := by rw [← List.flatMap_append, List.take_append_drop]
  have hl : ((ts.take j).flatMap Pt.cells).length = j * 4 := by rw [flat_length, List.length_take, Nat.min_eq_left hj]
  rw [e, List.getElem?_append_right (by rw [hl]; omega), hl, show j * 4 + i - j * 4 = i by omega]
  exact h

theorem Pl.take {w : World} {F : Nat → Prop} {a : Option Addr} {n cap : Nat} {ts : List Pt} {l : List (Int × Pk)} (h : Pl w F a n cap ts l) (j : Nat) (hj : j ≤ n) : Pl w F a j cap (ts.take j) (l.take j) := by
  have hl := h.len
  have ht := h.tl
  have hle := h.le
  refine ⟨by rw [List.length_take]; omega, by rw [List.length_take]; omega, by omega, h.reach, h.bare, fun h0 b off ha => ?_, fun h0 => h.spot (by omega), fun i t q h1 h2 => ?_⟩
  · obtain ⟨hF, hc⟩ := h.lies (by omega) b off ha
    exact ⟨hF, fun i u hu => hc i u (flat_take ts j i u hu)⟩
  · rw [List.getElem?_take] at h1 h2
    split at h1
    · rename_i hij
      rw [if_pos hij] at h2
      exact h.is i t q h1 h2
    · cases h1

theorem Pl.drop {w : World} {F : Nat → Prop} {b off : Nat} {n cap : Nat} {ts : List Pt} {l : List (Int × Pk)} (h : Pl w F (some ⟨b, off, none⟩) n cap ts l) (j : Nat) (hj : j ≤ n) (o' : Nat) (ho : j < cap → o' = off + j * 4) : Pl w F (some ⟨b, o', none⟩) (n - j) (cap - j) (ts.drop j) (l.drop j) := by
  have hl := h.len
  have ht := h.tl
  have hle := h.le
  have hre := h.reach
  refine ⟨by rw [List.length_drop]; omega, by rw [List.length_drop]; omega, by omega, by omega, fun e => (by cases e), fun h0 b' off' ha => ?_, fun h0 => ⟨b, o', rfl⟩, fun i t q h1 h2 => ?_⟩
  · cases ha
    obtain ⟨hF, hc⟩ := h.lies (by omega) b off rfl
    rw [ho (by omega)]
    exact ⟨hF, fun i u hu => by rw [Nat.add_assoc]; exact hc _ u (flat_drop ts j (by omega) i u hu)⟩
  · rw [List.getElem?_drop] at h1 h2
    exact h.is (j + i) t q h1 h2

/-- A list of packets appended to a row of one's own. -/
theorem pl_app {W : World} {F : Nat → Prop} {a : Option Addr} {n cap : Nat} {ts : List Pt} {l : List (Int × Pk)} (h : Pl W F a n cap ts l) (hn : n ≤ 1000) {v : Value} {m base : Nat} {us : List Pt} (hv : W.ownsRow base (31 : TypeId) 4 v m (us.flatMap Pt.cells)) (hm : m ≤ 1000) (hb : base ≤ W.heap.size) :
    ∃ v' Z, (∀ ty, (Builtin.append_ #[(34 : TypeId), (34 : TypeId)] ty #[v, .slice a n cap]).run Try.prog W = .ok v' Z) ∧ Z.ownsRow base (31 : TypeId) 4 v' (m + n) ((us ++ ts).flatMap Pt.cells) ∧ Below base W Z ∧ (∀ g, g < W.heap.size → v.ownBlock ≠ some g → Z.heap[g]? = W.heap[g]?) := by
  obtain ⟨i, z, hi, hz, h1, h2, h3⟩ := info31
  have ht := h.tl
  cases a with
  | none =>
    have h0 : n = 0 := by have := h.bare rfl; have := h.le; omega
    have hc0 : cap = 0 := h.bare rfl
    subst h0 hc0
    have hts : ts = [] := List.eq_nil_of_length_eq_zero ht
    subst hts
    refine ⟨v, W, fun ty => ?_, by simpa using hv, Below.refl _ _, fun _ _ _ => rfl⟩
    rcases hv.2 with ⟨rfl, rfl⟩ | ⟨g, c, cur, rfl, _, hg, hc, _⟩
    · simp [Builtin.append_, run_underlying Try.underlying34, sizeOf, typeInfo, hi, Builtin.lenOf, Builtin.firstCells]
    · simp [Builtin.append_, run_underlying Try.underlying34, sizeOf, typeInfo, hi, Builtin.lenOf, Builtin.firstCells, loadCells, hc, storeCells]
  | some ad =>
    have hc : ∀ j u, (ts.flatMap Pt.cells)[j]? = some u → W.cell? (ad.add j) = some u := fun j u hu => by
      have hj : 0 < n := by
        rcases Nat.eq_zero_or_pos n with h0 | h0
        · have hts : ts = [] := List.eq_nil_of_length_eq_zero (by omega)
          subst hts
          simp at hu
        · exact h0
      obtain ⟨b, off, e⟩ := h.spot hj
      cases e
      rw [Addr.add_mid]
      exact (h.lies hj b off rfl).2 j u hu
    obtain ⟨v', Z, hr, ho, hg, _⟩ := run_append_own_at (P := Try.prog) W base (34 : TypeId) 0 (31 : TypeId) i z 4 48 Try.underlying34 hi hz h1 h2 h3 (by decide) v m _ hv ad n cap (ts.flatMap Pt.cells) (by rw [flat_length, ht]) hc (flat_one ts) (by unfold maxLen; omega) (by omega) hb
    refine ⟨v', Z, fun ty => hr, by rw [List.flatMap_append]; exact ho, (Below.refl _ W).grown hg hb (fun k hk => (hv.lt k hk).1), fun g hg' hne => hg.block g hg' (fun e => hne e.symm)⟩

theorem dl_erase {l : List (Int × Pk)} {k : Int} {p : Pk} (hu : Un l) (j : Nat) (hj : j < l.length) (h : l[j] = (k, p)) : dl l k = l.take j ++ l.drop (j + 1) := by
  have e : l = l.take j ++ (k, p) :: l.drop (j + 1) := by
    conv => lhs; rw [← List.take_append_drop j l, List.drop_eq_getElem_cons hj, h]
  have hu' := hu
  rw [e] at hu'
  have hp := List.pairwise_append.1 hu'
  have h2 := List.pairwise_cons.1 hp.2.1
  conv => lhs; rw [e]
  unfold dl
  rw [List.filter_append, List.filter_cons]
  have e1 : (l.take j).filter (fun q => !decide (q.1 = k)) = l.take j := List.filter_eq_self.2 (fun q hq => by
    have := hp.2.2 q hq (k, p) (by simp)
    simpa using this)
  have e2 : (l.drop (j + 1)).filter (fun q => !decide (q.1 = k)) = l.drop (j + 1) := List.filter_eq_self.2 (fun q hq => by
    have := h2.1 q hq
    simpa using fun e => this e.symm)
  simp [e1, e2]

theorem size_set (w : World) (a : Addr) (v : Value) : (w.setCell a v).heap.size = w.heap.size := by simp [World.setCell]

theorem quad_set {w : World} {G : Nat} {a0 a1 a2 a3 : Value} {t : TypeId} (h : w.heap[G]? = some (.cells #[a0, a1, a2, a3] t (0, 0))) (x0 x1 x2 x3 : Value) : ((((w.setCell ⟨G, 0, none⟩ x0).setCell ⟨G, 1, none⟩ x1).setCell ⟨G, 2, none⟩ x2).setCell ⟨G, 3, none⟩ x3).heap[G]? = some (.cells #[x0, x1, x2, x3] t (0, 0)) := by
  have h1 := heap_setCell_same w G 0 _ t x0 h
  have h2 := heap_setCell_same _ G 1 _ t x1 h1
  have h3 := heap_setCell_same _ G 2 _ t x2 h2
  rw [heap_setCell_same _ G 3 _ t x3 h3]
  rfl

theorem heap_drew (X : World) : X.drew.heap = X.heap := rfl

theorem six_set {Z w : World} {s : Nat} {u0 u1 y0 y1 y2 y3 : Value} {T1 T2 : TypeId} (h1 : Z.heap[s + 1]? = some (.cells #[u0, u1] T1 (0, 0))) (h2 : Z.heap[s + 1 + 1]? = some (.cells #[y0, y1, y2, y3] T2 (0, 0))) (hb : Below s w Z) (x0 x1 z0 z1 z2 z3 : Value) :
    ∀ Z4, Z4 = ((((((Z.setCell ⟨s + 1, 0, none⟩ x0).setCell ⟨s + 1, 1, none⟩ x1).setCell ⟨s + 1 + 1, 0, none⟩ z0).setCell ⟨s + 1 + 1, 1, none⟩ z1).setCell ⟨s + 1 + 1, 2, none⟩ z2).setCell ⟨s + 1 + 1, 3, none⟩ z3).drew →
      Z4.heap[s + 1]? = some (.cells #[x0, x1] T1 (0, 0)) ∧ Z4.heap[s + 1 + 1]? = some (.cells #[z0, z1, z2, z3] T2 (0, 0)) ∧ Below s w Z4 ∧ (∀ g, g ≠ s + 1 → g ≠ s + 1 + 1 → Z4.heap[g]? = Z.heap[g]?) ∧ Z4.heap.size = Z.heap.size := by
  rintro Z4 rfl
  have p2 : ((Z.setCell ⟨s + 1, 0, none⟩ x0).setCell ⟨s + 1, 1, none⟩ x1).heap[s + 1]? = some (.cells #[x0, x1] T1 (0, 0)) := pair_set h1 x0 x1
  have q2 : ∀ g, g ≠ s + 1 → ((Z.setCell ⟨s + 1, 0, none⟩ x0).setCell ⟨s + 1, 1, none⟩ x1).heap[g]? = Z.heap[g]? := fun g hg => (Below.heap_setCell _ _ _ g hg).trans (Below.heap_setCell _ _ _ g hg)
  have b2 : Below s w ((Z.setCell ⟨s + 1, 0, none⟩ x0).setCell ⟨s + 1, 1, none⟩ x1) := (hb.setCell (p := ⟨s + 1, 0, none⟩) (by simp) _).setCell (p := ⟨s + 1, 1, none⟩) (by simp) _
  have s2 : ((Z.setCell ⟨s + 1, 0, none⟩ x0).setCell ⟨s + 1, 1, none⟩ x1).heap.size = Z.heap.size := (size_set _ _ _).trans (size_set _ _ _)
  generalize (Z.setCell ⟨s + 1, 0, none⟩ x0).setCell ⟨s + 1, 1, none⟩ x1 = X at *
  have h2' := (q2 (s + 1 + 1) (by omega)).trans h2
  have p4 := quad_set h2' z0 z1 z2 z3
  have q4 : ∀ g, g ≠ s + 1 + 1 → ((((X.setCell ⟨s + 1 + 1, 0, none⟩ z0).setCell ⟨s + 1 + 1, 1, none⟩ z1).setCell ⟨s + 1 + 1, 2, none⟩ z2).setCell ⟨s + 1 + 1, 3, none⟩ z3).heap[g]? = X.heap[g]? := fun g hg => (Below.heap_setCell _ _ _ g hg).trans ((Below.heap_setCell _ _ _ g hg).trans ((Below.heap_setCell _ _ _ g hg).trans (Below.heap_setCell _ _ _ g hg)))
  have b4 : Below s w ((((X.setCell ⟨s + 1 + 1, 0, none⟩ z0).setCell ⟨s + 1 + 1, 1, none⟩ z1).setCell ⟨s + 1 + 1, 2, none⟩ z2).setCell ⟨s + 1 + 1, 3, none⟩ z3) := (((b2.setCell (p := ⟨s + 1 + 1, 0, none⟩) (by simp; omega) _).setCell (p := ⟨s + 1 + 1, 1, none⟩) (by simp; omega) _).setCell (p := ⟨s + 1 + 1, 2, none⟩) (by simp; omega) _).setCell (p := ⟨s + 1 + 1, 3, none⟩) (by simp; omega) _
  have s4 : ((((X.setCell ⟨s + 1 + 1, 0, none⟩ z0).setCell ⟨s + 1 + 1, 1, none⟩ z1).setCell ⟨s + 1 + 1, 2, none⟩ z2).setCell ⟨s + 1 + 1, 3, none⟩ z3).heap.size = X.heap.size := (size_set _ _ _).trans ((size_set _ _ _).trans ((size_set _ _ _).trans (size_set _ _ _)))
  generalize (((X.setCell ⟨s + 1 + 1, 0, none⟩ z0).setCell ⟨s + 1 + 1, 1, none⟩ z1).setCell ⟨s + 1 + 1, 2, none⟩ z2).setCell ⟨s + 1 + 1, 3, none⟩ z3 = Y at *
  exact ⟨(q4 (s + 1) (by omega)).trans p2, p4, b4.drew, fun g g1 g2 => (q4 g g2).trans (q2 g g1), s4.trans s2⟩

set_option maxHeartbeats 4000000 in
theorem rdeliver_yes {w : World} {F : Nat → Prop} {v : Value} {n : Nt} {k : Int} {p : Pk} (h : Rn w F v n) (hf : n.m.length ≤ 256) (hu : Un n.m) (hk : lk n.m k = some p) :
    Calls Try.prog 20 #[v, .int .i64 k] w fun e w' => ∃ (v' : Value) (t : Pt), e = .returned (.tuple #[v', .agg #[.int .i64 k, .int .i64 p.fr, .int .i64 p.to, .slice t.a t.ln t.cap], .int .i64 0]) ∧ Bs w' t.a t.ln t.cap p.bd ∧ (∀ ad, t.a = some ad → (F ad.block ∨ w.heap.size ≤ ad.block) ∧ ad.block < w'.heap.size) ∧ Rn w' (fun g => F g ∨ w.heap.size ≤ g) v' (n.drop k) ∧ Below w.heap.size w w' := by
  obtain ⟨a, cap, ts, rfl, hP0⟩ := h.low
  obtain ⟨j, hj, hfj, hlj⟩ := fnd_some hk 0
  obtain ⟨N, hN⟩ : ∃ N, Hid (N = n.m.length) := ⟨_, hide rfl⟩
  obtain ⟨la, hla⟩ : ∃ la, Hid (la = n.last) := ⟨_, hide rfl⟩
  obtain ⟨A, HA⟩ : ∃ A, Hid (A = (((w.alloc (.cells #[.slice a N cap, .int .i64 la] (40 : TypeId))).alloc (.cells #[.slice none 0 0, .int .i64 0] (40 : TypeId))).alloc (.cells #[.int .i64 0, .int .i64 0, .int .i64 0, .slice none 0 0] (31 : TypeId)))) := ⟨_, hide rfl⟩
  have bA : Below w.heap.size w A := by rw [HA.out]; exact (((Below.refl _ w).alloc (Nat.le_refl _) _).alloc (by simp) _).alloc (by simp; omega) _
  have sA : A.heap.size = w.heap.size + 3 := by rw [HA.out]; simp
  have a0 : A.heap[w.heap.size]? = some (.cells #[.slice a N cap, .int .i64 la] (40 : TypeId) (0, 0)) := by rw [HA.out, Below.heap_alloc _ _ _ (by simp; omega), Below.heap_alloc _ _ _ (by simp)]; exact heap_alloc_new w _
  have a1 : A.heap[w.heap.size + 1]? = some (.cells #[.slice none 0 0, .int .i64 0] (40 : TypeId) (0, 0)) := by rw [HA.out, Below.heap_alloc _ _ _ (by simp)]; simpa using heap_alloc_new (w.alloc (.cells #[.slice a N cap, .int .i64 la] (40 : TypeId))) (.cells #[.slice none 0 0, .int .i64 0] (40 : TypeId))
  have a2 : A.heap[w.heap.size + 1 + 1]? = some (.cells #[.int .i64 0, .int .i64 0, .int .i64 0, .slice none 0 0] (31 : TypeId) (0, 0)) := by rw [HA.out]; simpa using heap_alloc_new ((w.alloc (.cells #[.slice a N cap, .int .i64 la] (40 : TypeId))).alloc (.cells #[.slice none 0 0, .int .i64 0] (40 : TypeId))) (.cells #[.int .i64 0, .int .i64 0, .int .i64 0, .slice none 0 0] (31 : TypeId))
  have hPA := hP0.keep bA
  have C := rfind_any (la := la) (k := k) hPA (by omega)
  rw [hfj, Nat.zero_add] at C
  have hle := hP0.le
  have hre := hP0.reach
  rw [← hN.out] at C hle hj ⊢
  rw [← hla.out]
  have hjN : (j : Int) < (N : Int) := by omega
  obtain ⟨b, off, t, ha, _⟩ := hP0.at j (by rw [← hN.out]; exact hj)
  subst ha
  go_enter Try.func20, Try.ntmps20
  go_wp2_with fail
  rw [← HA.out]
  refine C.mono ?_
  rintro e B ⟨rfl, hB⟩
  have hPB := hPA.keep hB
  have k0 := (hB.block w.heap.size (by omega)).trans a0
  obtain ⟨b', off', t, ha, c0, c1, c2, c3, hbs⟩ := hPB.at j (by rw [← hN.out]; exact hj)
  cases ha
  rw [hlj] at c0 c1 c2 hbs
  simp only at c0 c1 c2 hbs
  have z0 : B.cell? ⟨w.heap.size, 0, none⟩ = some (.slice (some ⟨b, off, none⟩) N cap) := cell_of_row B _ 0 _ _ _ k0
  have hsN : N ≤ 1000 := by rw [hN.out]; omega
  have HPB := hide hPB
  obtain ⟨v1, Z1, r1, q1, b1⟩ := pl_copy ((hPB.keep ((Below.refl _ B).alloc (Nat.le_refl _) (.cells #[.int .i64 k, .int .i64 p.fr, .int .i64 p.to, .slice t.a t.ln t.cap] (31 : TypeId)))).take j (by rw [← hN.out]; omega)) (by omega)
  have hz : (B.alloc (.cells #[.int .i64 k, .int .i64 p.fr, .int .i64 p.to, .slice t.a t.ln t.cap] (31 : TypeId))).cell? ⟨w.heap.size, 0, none⟩ = some (.slice (some ⟨b, off, none⟩) N cap) := by rw [World.cell?_of_block (Below.heap_alloc B _ _ (heap_lt k0))]; exact z0
  have zz0 : Z1.cell? ⟨w.heap.size, 0, none⟩ = some (.slice (some ⟨b, off, none⟩) N cap) := (b1.cell (cell_lt hz)).trans hz
  obtain ⟨v1a, v1c, rfl⟩ := row_val q1
  have bB1 : Below B.heap.size B (B.alloc (.cells #[.int .i64 k, .int .i64 p.fr, .int .i64 p.to, .slice t.a t.ln t.cap] (31 : TypeId))) := (Below.refl _ B).alloc (Nat.le_refl _) _
  have sB1 : (B.alloc (.cells #[.int .i64 k, .int .i64 p.fr, .int .i64 p.to, .slice t.a t.ln t.cap] (31 : TypeId))).heap.size = B.heap.size + 1 := by simp
  have hBP : (B.alloc (.cells #[.int .i64 k, .int .i64 p.fr, .int .i64 p.to, .slice t.a t.ln t.cap] (31 : TypeId))).heap[B.heap.size]? = some (.cells #[.int .i64 k, .int .i64 p.fr, .int .i64 p.to, .slice t.a t.ln t.cap] (31 : TypeId) (0, 0)) := heap_alloc_new B _
  rw [sB1] at q1 b1
  have bZ1 : Below B.heap.size B Z1 := bB1.trans (b1.mono (by omega))
  have sBA := hB.size
  have s1 := b1.size
  rw [sB1] at s1
  obtain ⟨M, hM⟩ : ∃ M, Hid (M = N - 1) := ⟨_, hide rfl⟩
  have HZ : Hid (∀ o', (j + 1 < cap → o' = off + (j + 1) * 4) → ∃ (v2a : Option Addr) (v2c : Nat) (Z2 : World), (∀ ty, (Builtin.append_ #[(34 : TypeId), (34 : TypeId)] ty #[.slice v1a j v1c, .slice (some ⟨b, o', none⟩) (N - (j + 1)) (cap - (j + 1))]).run Try.prog Z1 = .ok (.slice v2a M v2c) Z2) ∧ Z2.cell? ⟨w.heap.size, 0, none⟩ = some (.slice (some ⟨b, off, none⟩) N cap) ∧ Z2.frozen? ⟨w.heap.size, 0, none⟩ = false ∧
      ∀ Z3, Z3 = Z2.setCell ⟨w.heap.size, 0, none⟩ (.slice v2a M v2c) → Z3.heap[w.heap.size]? = some (.cells #[.slice v2a M v2c, .int .i64 la] (40 : TypeId) (0, 0)) ∧ Z3.heap[w.heap.size + 1]? = some (.cells #[.slice none 0 0, .int .i64 0] (40 : TypeId) (0, 0)) ∧ Z3.heap[w.heap.size + 1 + 1]? = some (.cells #[.int .i64 0, .int .i64 0, .int .i64 0, .slice none 0 0] (31 : TypeId) (0, 0)) ∧ Z3.heap[B.heap.size]? = some (.cells #[.int .i64 k, .int .i64 p.fr, .int .i64 p.to, .slice t.a t.ln t.cap] (31 : TypeId) (0, 0)) ∧ B.heap.size < Z3.heap.size ∧ Below w.heap.size w Z3 ∧
        ∀ Z4, Below w.heap.size w Z4 → (∀ g, g ≠ w.heap.size + 1 → g ≠ w.heap.size + 1 + 1 → Z4.heap[g]? = Z3.heap[g]?) → Z4.heap.size = Z3.heap.size → Rn Z4 (fun g => F g ∨ w.heap.size ≤ g) (.agg #[.slice v2a M v2c, .int .i64 la]) (n.drop k) ∧ Bs Z4 t.a t.ln t.cap p.bd ∧ (∀ ad, t.a = some ad → (F ad.block ∨ w.heap.size ≤ ad.block) ∧ ad.block < Z4.heap.size)) := hide (fun o' ho' => by
    have hM' := hM.out
    subst hM'
    have hjm : j < n.m.length := by rw [← hN.out]; exact hj
    have hPZ := (hPB.keep bZ1)
    have hPd := hPZ.drop (j + 1) (by omega) o' ho'
    rw [← hN.out] at hPd
    have hq1 : Z1.ownsRow (B.heap.size + 1) (31 : TypeId) 4 (.slice v1a j v1c) j ((ts.take j).flatMap Pt.cells) := q1
    obtain ⟨v2, Z2, r2, q2, b2, k2⟩ := pl_app hPd (by omega) hq1 (by omega) (by omega)
    rw [show j + (N - (j + 1)) = N - 1 by omega] at q2
    obtain ⟨v2a, v2c, rfl⟩ := row_val q2
    have hlow : ∀ g, g < B.heap.size + 1 → Z2.heap[g]? = Z1.heap[g]? := fun g hg => b2.block g hg
    have hZB : ∀ g, g < B.heap.size → Z2.heap[g]? = B.heap[g]? := fun g hg => (hlow g (by omega)).trans (bZ1.block g hg)
    have x0 := (hZB w.heap.size (by omega)).trans k0
    have x1 := (hZB (w.heap.size + 1) (by omega)).trans ((hB.block (w.heap.size + 1) (by omega)).trans a1)
    have x2 := (hZB (w.heap.size + 1 + 1) (by omega)).trans ((hB.block (w.heap.size + 1 + 1) (by omega)).trans a2)
    have x3 : Z2.heap[B.heap.size]? = _ := (hlow B.heap.size (by omega)).trans ((b1.block B.heap.size (by omega)).trans hBP)
    have s2 := b2.size
    refine ⟨v2a, v2c, Z2, r2, cell_of_row Z2 _ 0 _ _ _ x0, frozen_of_row Z2 _ 0 _ _ x0, ?_⟩
    rintro Z3 rfl
    have hoth : ∀ g, g ≠ w.heap.size → (Z2.setCell ⟨w.heap.size, 0, none⟩ (.slice v2a (N - 1) v2c)).heap[g]? = Z2.heap[g]? := fun g hg => Below.heap_setCell _ _ _ g hg
    have hs3 : (Z2.setCell ⟨w.heap.size, 0, none⟩ (.slice v2a (N - 1) v2c)).heap.size = Z2.heap.size := size_set _ _ _
    have bwB : Below w.heap.size w B := bA.trans (hB.mono bA.size)
    have bw2 : Below w.heap.size w Z2 := (bwB.trans (bZ1.mono (by omega))).trans (b2.mono (by omega))
    refine ⟨?_, (hoth _ (by omega)).trans x1, (hoth _ (by omega)).trans x2, (hoth _ (by omega)).trans x3, by rw [hs3]; omega, bw2.setCell (p := ⟨w.heap.size, 0, none⟩) (by simp) _, ?_⟩
    · rw [heap_setCell_same Z2 w.heap.size 0 _ (40 : TypeId) _ x0]
      rfl
    · intro Z4 b4 h4 hs4
      have hkeep : ∀ g, g < Z2.heap.size → g ≠ w.heap.size → g ≠ w.heap.size + 1 → g ≠ w.heap.size + 1 + 1 → Z4.heap[g]? = Z2.heap[g]? := fun g _ h1 h2 h3 => (h4 g h2 h3).trans (hoth g h1)
      have hF4 : ∀ g, F g ∧ g < w.heap.size → Z4.heap[g]? = B.heap[g]? := fun g hg => (hkeep g (by omega) (by omega) (by omega) (by omega)).trans (hZB g (by omega))
      have hbs4 : ∀ (u : Pt) (q : Int × Pk), (∃ i : Nat, ts[i]? = some u ∧ n.m[i]? = some q) → u.no = q.1 ∧ u.fr = q.2.fr ∧ u.to = q.2.to ∧ Bs Z4 u.a u.ln u.cap q.2.bd ∧ ∀ ad, u.a = some ad → (F ad.block ∨ w.heap.size ≤ ad.block) ∧ ad.block < Z4.heap.size := by
        rintro u q ⟨i, hi1, hi2⟩
        obtain ⟨y1, y2, y3, y4, y5⟩ := hPB.is i u q hi1 hi2
        refine ⟨y1, y2, y3, y4.heap (fun ad e => hF4 ad.block (y5 ad e).1), fun ad e => ⟨.inl (y5 ad e).1.1, by have := (y5 ad e).1.2; omega⟩⟩
      have hjt : j < ts.length := by have := hPB.tl; omega
      have htj : t.a = ts[j].a ∧ t.ln = ts[j].ln ∧ t.cap = ts[j].cap := by
        have hb2 := (hPB.lies (by omega) b off rfl).2 (j * 4 + 3) (.slice ts[j].a ts[j].ln ts[j].cap) (by rw [cells_at ts j hjt 3 (by omega)]; rfl)
        rw [← Nat.add_assoc] at hb2
        rw [hb2] at c3
        simp only [Option.some.injEq, Value.slice.injEq] at c3
        exact ⟨c3.1.symm, c3.2.1.symm, c3.2.2.symm⟩
      have hme := hbs4 ts[j] n.m[j] ⟨j, List.getElem?_eq_getElem hjt, List.getElem?_eq_getElem hjm⟩
      rw [hlj] at hme
      refine ⟨?_, ?_, ?_⟩
      · have hdrop : (n.drop k).m = n.m.take j ++ n.m.drop (j + 1) := dl_erase hu j hjm hlj
        have hlen : (n.drop k).m.length = N - 1 := by rw [hdrop, List.length_append, List.length_take, List.length_drop, ← hN.out]; omega
        refine ⟨v2a, v2c, ts.take j ++ ts.drop (j + 1), by rw [hlen, hla.out]; rfl, ?_⟩
        rw [hlen, hdrop]
        have hrow4 : Z4.ownsRow (B.heap.size + 1) (31 : TypeId) 4 (.slice v2a (N - 1) v2c) (N - 1) ((ts.take j ++ ts.drop (j + 1)).flatMap Pt.cells) := row_heap q2 (fun g hg => by
          have hg' := q2.lt g hg
          exact hkeep g hg'.2 (by omega) (by omega) (by omega))
        refine pl_of_row (base := B.heap.size + 1) hrow4 (fun g hg => .inr (by omega)) (by rw [← hdrop]; exact hlen) (fun i u q h1 h2 => hbs4 u q ?_)
        have htl : ts.length = n.m.length := by have := hPB.tl; omega
        rcases Nat.lt_or_ge i j with hij | hij
        · rw [List.getElem?_append_left (by rw [List.length_take]; omega), List.getElem?_take, if_pos hij] at h1 h2
          exact ⟨i, h1, h2⟩
        · rw [List.getElem?_append_right (by rw [List.length_take]; omega), List.length_take, List.getElem?_drop] at h1 h2
          refine ⟨i + 1, ?_, ?_⟩
          · rw [← h1]; congr 1; omega
          · rw [← h2]; congr 1; omega
      · rw [htj.1, htj.2.1, htj.2.2]
        exact hme.2.2.2.1
      · intro ad e
        rw [htj.1] at e
        exact hme.2.2.2.2 ad e)
  have HPJ := hide hj
  have hBs : w.heap.size + 3 ≤ B.heap.size := by omega
  have hcc : N ≤ cap := by rw [hN.out]; exact hP0.le
  clear HPB q1 b1 hBP bB1 bZ1 hPB hPA hP0 bA sA a0 a1 a2 k0 C hbs hu hk hf hfj hlj h
  by_cases hcap : cap = j + 1
  · obtain ⟨v2a, v2c, Z2, r2, y0, yf, H3⟩ := HZ.out off (fun h => by omega)
    have hNj : N = j + 1 := by omega
    have r3 : ∀ ty, (Builtin.append_ #[(34 : TypeId), (34 : TypeId)] ty #[.slice v1a j v1c, .slice (some ⟨b, off, none⟩) 0 0]).run Try.prog Z1 = .ok (.slice v2a M v2c) Z2 := fun ty => by
      have := r2 ty
      rw [hNj, hcap, Nat.sub_self] at this
      exact this
    clear r2
    subst hNj hcap
    obtain ⟨Z3, hZ3⟩ : ∃ Z3, Hid (Z3 = Z2.setCell ⟨w.heap.size, 0, none⟩ (.slice v2a M v2c)) := ⟨_, hide rfl⟩
    obtain ⟨g0, g1, g2, g3, gs, gb, H4⟩ := H3 Z3 hZ3.out
    have H4 := hide H4
    clear H3 HZ
    go_wp2_with (first | (at_builtin; refine wpList_append_run rfl (34 : TypeId) (.tmp 22) (.tmp 26) rfl _ _ _ rfl rfl (r1 _) ?_) | (at_builtin; refine wpList_append_run rfl (34 : TypeId) (.tmp 28) (.tmp 33) rfl (.slice v1a j v1c) (.slice (some ⟨b, off, none⟩) 0 0) (.slice v2a M v2c) (by simp [Act.eval]) (by simp [Act.eval]) (r3 _) ?_))
    rw [← hZ3.out]
    have d0 := cell_of_row Z3 _ 0 _ _ _ g0
    have d1 := cell_of_row Z3 _ 1 _ _ _ g0
    have d2 := cell_of_row Z3 _ 0 _ _ _ g3
    have d3 := cell_of_row Z3 _ 1 _ _ _ g3
    have d4 := cell_of_row Z3 _ 2 _ _ _ g3
    have d5 := cell_of_row Z3 _ 3 _ _ _ g3
    simp only [List.getElem?_toArray, List.getElem?_cons_succ, List.getElem?_cons_zero] at d0 d1 d2 d3 d4 d5
    have e0 := cell_of_row Z3 _ 0 _ _ _ g1
    have e1 := cell_of_row Z3 _ 1 _ _ _ g1
    have e2 := cell_of_row Z3 _ 0 _ _ _ g2
    have e3 := cell_of_row Z3 _ 1 _ _ _ g2
    have e4 := cell_of_row Z3 _ 2 _ _ _ g2
    have e5 := cell_of_row Z3 _ 3 _ _ _ g2
    simp only [List.getElem?_toArray, List.getElem?_cons_succ, List.getElem?_cons_zero] at e0 e1 e2 e3 e4 e5
    have f0 := frozen_of_row Z3 _ 0 _ _ g1
    have f1 := frozen_of_row Z3 _ 1 _ _ g1
    have f2 := frozen_of_row Z3 _ 0 _ _ g2
    have f3 := frozen_of_row Z3 _ 1 _ _ g2
    have f4 := frozen_of_row Z3 _ 2 _ _ g2
    have f5 := frozen_of_row Z3 _ 3 _ _ g2
    have G1 := hide g1
    have G2 := hide g2
    have GB := hide gb
    clear g0 g1 g2 g3 gb gs r1 r3 y0 yf hz zz0 z0 c0 c1 c2 c3 hB s1 sBA
    go_region
    have H6 := six_set G1.out G2.out GB.out (.slice v2a M v2c) (.int .i64 la) (.int .i64 k) (.int .i64 p.fr) (.int .i64 p.to) (.slice t.a t.ln t.cap)
    obtain ⟨Z4, hZ4⟩ : ∃ Z4, Z4 = ((((((Z3.setCell ⟨w.heap.size + 1, 0, none⟩ (.slice v2a M v2c)).setCell ⟨w.heap.size + 1, 1, none⟩ (.int .i64 la)).setCell ⟨w.heap.size + 1 + 1, 0, none⟩ (.int .i64 k)).setCell ⟨w.heap.size + 1 + 1, 1, none⟩ (.int .i64 p.fr)).setCell ⟨w.heap.size + 1 + 1, 2, none⟩ (.int .i64 p.to)).setCell ⟨w.heap.size + 1 + 1, 3, none⟩ (.slice t.a t.ln t.cap)).drew := ⟨_, rfl⟩
    obtain ⟨m1, m2, m3, m4, m5⟩ := H6 Z4 hZ4
    rw [← hZ4]
    have hZ4 := hide hZ4
    clear H6
    obtain ⟨x1, x2, x3⟩ := H4.out Z4 m3 m4 m5
    clear e0 e1 e2 e3 e4 e5 f0 f1 f2 f3 f4 f5 d0 d1 d2 d3 d4 d5 hZ4 m4 m5
    go_wp2_with fail
    refine bodyPost_ret (v := .tuple #[.agg #[.slice v2a M v2c, .int .i64 la], .agg #[.int .i64 k, .int .i64 p.fr, .int .i64 p.to, .slice t.a t.ln t.cap], .int .i64 0]) (results_cells_tmp Try.results20 _ _ (w.heap.size + 1) (w.heap.size + 1 + 1) (40 : TypeId) (31 : TypeId) _ _ (0, 0) (0, 0) _ _ _ rfl rfl rfl m1 m2 Try.underlying40 rfl size40 Try.underlying31 rfl size31) rfl ?_
    exact ⟨_, t, rfl, x2, x3, x1, m3⟩
  · have hlt : j + 1 < cap := by omega
    obtain ⟨v2a, v2c, Z2, r2, y0, yf, H3⟩ := HZ.out (off + (j + 1) * 4) (fun _ => rfl)
    obtain ⟨Z3, hZ3⟩ : ∃ Z3, Hid (Z3 = Z2.setCell ⟨w.heap.size, 0, none⟩ (.slice v2a M v2c)) := ⟨_, hide rfl⟩
    obtain ⟨g0, g1, g2, g3, gs, gb, H4⟩ := H3 Z3 hZ3.out
    have H4 := hide H4
    clear H3 HZ
    go_wp2_with (first | (at_builtin; refine wpList_append_run rfl (34 : TypeId) (.tmp 22) (.tmp 26) rfl _ _ _ rfl rfl (r1 _) ?_) | (at_builtin; refine wpList_append_run rfl (34 : TypeId) (.tmp 28) (.tmp 33) rfl _ _ _ rfl rfl (r2 _) ?_))
    rw [← hZ3.out]
    have d0 := cell_of_row Z3 _ 0 _ _ _ g0
    have d1 := cell_of_row Z3 _ 1 _ _ _ g0
    have d2 := cell_of_row Z3 _ 0 _ _ _ g3
    have d3 := cell_of_row Z3 _ 1 _ _ _ g3
    have d4 := cell_of_row Z3 _ 2 _ _ _ g3
    have d5 := cell_of_row Z3 _ 3 _ _ _ g3
    simp only [List.getElem?_toArray, List.getElem?_cons_succ, List.getElem?_cons_zero] at d0 d1 d2 d3 d4 d5
    have e0 := cell_of_row Z3 _ 0 _ _ _ g1
    have e1 := cell_of_row Z3 _ 1 _ _ _ g1
    have e2 := cell_of_row Z3 _ 0 _ _ _ g2
    have e3 := cell_of_row Z3 _ 1 _ _ _ g2
    have e4 := cell_of_row Z3 _ 2 _ _ _ g2
    have e5 := cell_of_row Z3 _ 3 _ _ _ g2
    simp only [List.getElem?_toArray, List.getElem?_cons_succ, List.getElem?_cons_zero] at e0 e1 e2 e3 e4 e5
    have f0 := frozen_of_row Z3 _ 0 _ _ g1
    have f1 := frozen_of_row Z3 _ 1 _ _ g1
    have f2 := frozen_of_row Z3 _ 0 _ _ g2
    have f3 := frozen_of_row Z3 _ 1 _ _ g2
    have f4 := frozen_of_row Z3 _ 2 _ _ g2
    have f5 := frozen_of_row Z3 _ 3 _ _ g2
    have G1 := hide g1
    have G2 := hide g2
    have GB := hide gb
    clear g0 g1 g2 g3 gb gs r1 r2 y0 yf hz zz0 z0 c0 c1 c2 c3 hB s1 sBA
    go_region
    have H6 := six_set G1.out G2.out GB.out (.slice v2a M v2c) (.int .i64 la) (.int .i64 k) (.int .i64 p.fr) (.int .i64 p.to) (.slice t.a t.ln t.cap)
    obtain ⟨Z4, hZ4⟩ : ∃ Z4, Z4 = ((((((Z3.setCell ⟨w.heap.size + 1, 0, none⟩ (.slice v2a M v2c)).setCell ⟨w.heap.size + 1, 1, none⟩ (.int .i64 la)).setCell ⟨w.heap.size + 1 + 1, 0, none⟩ (.int .i64 k)).setCell ⟨w.heap.size + 1 + 1, 1, none⟩ (.int .i64 p.fr)).setCell ⟨w.heap.size + 1 + 1, 2, none⟩ (.int .i64 p.to)).setCell ⟨w.heap.size + 1 + 1, 3, none⟩ (.slice t.a t.ln t.cap)).drew := ⟨_, rfl⟩
    obtain ⟨m1, m2, m3, m4, m5⟩ := H6 Z4 hZ4
    rw [← hZ4]
    have hZ4 := hide hZ4
    clear H6
    obtain ⟨x1, x2, x3⟩ := H4.out Z4 m3 m4 m5
    clear e0 e1 e2 e3 e4 e5 f0 f1 f2 f3 f4 f5 d0 d1 d2 d3 d4 d5 hZ4 m4 m5
    go_wp2_with fail
    refine bodyPost_ret (v := .tuple #[.agg #[.slice v2a M v2c, .int .i64 la], .agg #[.int .i64 k, .int .i64 p.fr, .int .i64 p.to, .slice t.a t.ln t.cap], .int .i64 0]) (results_cells_tmp Try.results20 _ _ (w.heap.size + 1) (w.heap.size + 1 + 1) (40 : TypeId) (31 : TypeId) _ _ (0, 0) (0, 0) _ _ _ rfl rfl rfl m1 m2 Try.underlying40 rfl size40 Try.underlying31 rfl size31) rfl ?_
    exact ⟨_, t, rfl, x2, x3, x1, m3⟩

end Go.Proofs.Ythakbelcefogaaa

/-
  NetPlays: what stands in the arrays, named; what is told and what the document tells is the same; a send to both.
-/
import Derived.Test.YthakbelcefogaaaNpa
import Derived.Test.YthakbelcefogaaaOpw
namespace Go.Proofs.Ythakbelcefogaaa
open Go.RowKit
set_option maxRecDepth 100000

theorem alloc_two (X : World) (o o' : Obj) : ((X.alloc o).alloc o').heap[X.heap.size + 1]? = some o' := by simpa using heap_alloc_new (X.alloc o) o'

theorem row_alloc {X : World} {g : Nat} {ob : Obj} (h : X.heap[g]? = some ob) (o : Obj) : (X.alloc o).heap[g]? = some ob := (Below.heap_alloc X o g (heap_lt h)).trans h

theorem bit_one (x : Int) : ∃ i : Nat, i < 2 ∧ bits .and .i64 x 1 = (i : Int) := by
  refine ⟨(BitVec.ofInt IntKind.i64.bits x).toNat % 2, Nat.mod_lt _ (by omega), ?_⟩
  unfold bits
  simp only []
  have h1 : (BitVec.ofInt IntKind.i64.bits 1).toNat = 1 := by decide
  rw [BitVec.toNat_and, h1, Nat.and_one_is_mod, IntKind.wrap_i64]
  have := Nat.mod_lt (BitVec.ofInt IntKind.i64.bits x).toNat (show 0 < 2 by omega)
  omega

section
variable {w0 w w' : World} {D L : Nat} {R M : Nat → Nat} {np nr : Nat → Nt} {va : Nat → Option Addr} {vc : Nat → Nat}

/-- A list that List answered, as it is read. -/
theorem Tr.pl {X : World} {base : Nat} {v : Value} {ts : List Pt} {l : List (Int × Pk)} (h : Tr X base v ts l) : ∃ a c, v = .slice a l.length c ∧ Pl X (fun _ => True) a l.length c ts l := by
  obtain ⟨a, c, hv, _, _⟩ := h.val
  subst hv
  refine ⟨a, c, rfl, pl_of_row (base := base) h.row (fun _ _ => trivial) rfl (fun i t q h1 h2 => ?_)⟩
  have hi := h.is i t q h1 h2
  obtain ⟨g, e1, e2, e3⟩ := hi.new
  exact ⟨hi.no, hi.fr, hi.to, hi.bd, fun ad e => ⟨trivial, by rw [e1] at e; cases e; exact heap_lt e3⟩⟩

/-- Net i tells what the document's tells. -/
theorem Pz.told (h : Pz w0 w D L R M np np va vc) {i : Nat} (hi : i < 2) :
    Calls Try.prog 14 #[.pointer (some ⟨R i, 0, none⟩)] w fun e w' => ∃ a c, e = .returned (.slice a (np i).m.length c) ∧ Below w.heap.size w w' ∧ Pz w0 w' D L R M np np va vc ∧
      ∀ V, Below w'.heap.size w' V → Calls Try.prog 21 #[.slice a (np i).m.length c, .slice (va i) (np i).m.length (vc i)] V fun e V' => e = .returned (.bool true) ∧ Below V.heap.size V V' := by
  refine (list_any (h.nw i hi)).mono ?_
  rintro e w' ⟨v, ts, rfl, hT, hb⟩
  obtain ⟨a, c, rfl, hP⟩ := hT.pl
  have h' := h.fresh hb
  obtain ⟨us, hQ⟩ := h'.rn i hi
  refine ⟨a, c, rfl, hb, h', fun V hV => (samePackets_true (hP.keep hV) (hQ.keep hV)).mono ?_⟩
  rintro e V' ⟨rfl, q, rfl⟩
  exact ⟨rfl, below_drewN (Below.refl _ V) q⟩

theorem Nt.send_last (n : Nt) (f t : Int) (b : List Int) : (n.sendN f t b).last ≤ n.last + 1 ∧ n.last ≤ (n.sendN f t b).last := by
  unfold Nt.sendN Nt.putN Nt.put
  split
  · omega
  · split
    · omega
    · simp only
      omega

theorem Nt.dbl_last (n : Nt) (k : Int) : (n.dblN k).last ≤ n.last + 1 ∧ n.last ≤ (n.dblN k).last := by
  unfold Nt.dblN Nt.putN Nt.put
  split
  · split
    · omega
    · simp only
      omega
  · omega

/-- A send to net i. -/
theorem Pz.send (h : Pz w0 w D L R M np nr va vc) {i : Nat} (hi : i < 2) {f t : Int} (hf : I6 f) (ht : I6 t) (hl : (np i).last < 9223372036854775807) {a : Option Addr} {m cap : Nat} {b : List Int} (hB : Bs w a m cap b) :
    Calls Try.prog 10 #[.pointer (some ⟨R i, 0, none⟩), .int .i64 f, .int .i64 t, .slice a m cap] w fun e w' => e = .returned (.tuple #[.int .i64 ((np i).sendA b).1, .int .i64 ((np i).sendA b).2]) ∧ Pz w0 w' D L R M (up np i ((np i).sendN f t b)) nr va vc ∧ Tb (fun k => k = R i ∨ k = M i) w w' := by
  refine (send_any (h.nw i hi) hl hf ht hB).mono ?_
  rintro e w' ⟨rfl, hn, t'⟩
  exact ⟨rfl, h.prog hi hn t', t'⟩

/-- A send to the document's net i. -/
theorem Pz.rsend (h : Pz w0 w D L R M np nr va vc) {i : Nat} (hi : i < 2) {f t : Int} (hl : 0 ≤ (nr i).last ∧ (nr i).last < 9223372036854775807) {a : Option Addr} {m cap : Nat} {b : List Int} (hB : Bs w a m cap b) :
    Calls Try.prog 16 #[.agg #[.slice (va i) (nr i).m.length (vc i), .int .i64 (nr i).last], .int .i64 f, .int .i64 t, .slice a m cap] w fun e w' => ∃ (a' : Option Addr) (c' : Nat), e = .returned (.tuple #[.agg #[.slice a' ((nr i).sendN f t b).m.length c', .int .i64 ((nr i).sendN f t b).last], .int .i64 ((nr i).sendA b).1, .int .i64 ((nr i).sendA b).2]) ∧ Below w.heap.size w w' ∧ Pz w0 w' D L R M np nr va vc ∧
      ∀ V, Pz w0 V D L R M np nr va vc → Below w'.heap.size w' V → ∀ x y, x = .slice a' ((nr i).sendN f t b).m.length c' → y = .int .i64 ((nr i).sendN f t b).last → Pz w0 ((V.setCell ⟨L, i * 2, none⟩ x).setCell ⟨L, i * 2 + 1, none⟩ y) D L R M np (up nr i ((nr i).sendN f t b)) (up va i a') (up vc i c') := by
  obtain ⟨ts, hP⟩ := h.rn i hi
  have hR : Rn w (fun g => g ≠ D ∧ g ≠ L ∧ ∀ j, j < 2 → g ≠ R j ∧ g ≠ M j) (.agg #[.slice (va i) (nr i).m.length (vc i), .int .i64 (nr i).last]) (nr i) := ⟨va i, vc i, ts, rfl, hP⟩
  refine (rsend_any (f := f) (t := t) hR hl hB).mono ?_
  rintro e w' ⟨v', rfl, ⟨a', c', ts', rfl, hP'⟩, hb⟩
  refine ⟨a', c', rfl, hb, h.fresh hb, fun V hV hbV x y hx hy => ?_⟩
  have hlt : D < w.heap.size ∧ L < w.heap.size ∧ ∀ j, j < 2 → R j < w.heap.size ∧ M j < w.heap.size := ⟨heap_lt h.d, heap_lt h.l, fun j hj => ⟨(h.nw j hj).lt, (h.nw j hj).mlt⟩⟩
  exact hV.ref hi hx hy ((hP'.keep hbV).mono (fun g hg => by
    rcases hg with hg | hg
    · exact hg
    · refine ⟨by omega, by omega, fun j hj => ?_⟩
      have := hlt.2.2 j hj
      omega))

/-- A net is doubled at net i. -/
theorem Pz.double (h : Pz w0 w D L R M np nr va vc) {i : Nat} (hi : i < 2) {k : Int} (hk : I6 k) (hl : (np i).last < 9223372036854775807) :
    Calls Try.prog 11 #[.pointer (some ⟨R i, 0, none⟩), .int .i64 k] w fun e w' => e = .returned (.tuple #[.int .i64 ((np i).dblA k).1, .int .i64 ((np i).dblA k).2]) ∧ Pz w0 w' D L R M (up np i ((np i).dblN k)) nr va vc ∧ Tb (fun k => k = R i ∨ k = M i) w w' := by
  refine (double_any (h.nw i hi) hl hk).mono ?_
  rintro e w' ⟨rfl, hn, t'⟩
  exact ⟨rfl, h.prog hi hn t', t'⟩

theorem Pz.lt (h : Pz w0 w D L R M np nr va vc) : D < w.heap.size ∧ L < w.heap.size ∧ ∀ j, j < 2 → R j < w.heap.size ∧ M j < w.heap.size := ⟨heap_lt h.d, heap_lt h.l, fun j hj => ⟨(h.nw j hj).lt, (h.nw j hj).mlt⟩⟩

/-- What the document's net becomes is laid into the array later on. -/
theorem Pz.later (h : Pz w0 w D L R M np nr va vc) {i : Nat} (hi : i < 2) {n' : Nt} {a' : Option Addr} {c' : Nat} {ts' : List Pt}
    (hP : Pl w' (fun g => (g ≠ D ∧ g ≠ L ∧ ∀ j, j < 2 → g ≠ R j ∧ g ≠ M j) ∨ w.heap.size ≤ g) a' n'.m.length c' ts' n'.m) :
    ∀ V, Pz w0 V D L R M np nr va vc → Below w'.heap.size w' V → ∀ x y, x = .slice a' n'.m.length c' → y = .int .i64 n'.last → Pz w0 ((V.setCell ⟨L, i * 2, none⟩ x).setCell ⟨L, i * 2 + 1, none⟩ y) D L R M np (up nr i n') (up va i a') (up vc i c') := fun V hV hbV x y hx hy => by
  have hlt := h.lt
  exact hV.ref hi hx hy ((hP.keep hbV).mono (fun g hg => by
    rcases hg with hg | hg
    · exact hg
    · refine ⟨by omega, by omega, fun j hj => ?_⟩
      have := hlt.2.2 j hj
      omega))

/-- The document's Double at net i. -/
theorem Pz.rdouble (h : Pz w0 w D L R M np nr va vc) {i : Nat} (hi : i < 2) {k : Int} (hl : 0 ≤ (nr i).last ∧ (nr i).last < 9223372036854775807) (hf : (nr i).m.length ≤ 256) (hb' : ∀ q ∈ (nr i).m, q.2.bd.length ≤ 65545) :
    Calls Try.prog 22 #[.agg #[.slice (va i) (nr i).m.length (vc i), .int .i64 (nr i).last], .int .i64 k] w fun e w' => ∃ (a' : Option Addr) (c' : Nat), e = .returned (.tuple #[.agg #[.slice a' ((nr i).dblN k).m.length c', .int .i64 ((nr i).dblN k).last], .int .i64 ((nr i).dblA k).1, .int .i64 ((nr i).dblA k).2]) ∧ Below w.heap.size w w' ∧
      ∀ V, Pz w0 V D L R M np nr va vc → Below w'.heap.size w' V → ∀ x y, x = .slice a' ((nr i).dblN k).m.length c' → y = .int .i64 ((nr i).dblN k).last → Pz w0 ((V.setCell ⟨L, i * 2, none⟩ x).setCell ⟨L, i * 2 + 1, none⟩ y) D L R M np (up nr i ((nr i).dblN k)) (up va i a') (up vc i c') := by
  obtain ⟨ts, hP⟩ := h.rn i hi
  have hR : Rn w (fun g => g ≠ D ∧ g ≠ L ∧ ∀ j, j < 2 → g ≠ R j ∧ g ≠ M j) (.agg #[.slice (va i) (nr i).m.length (vc i), .int .i64 (nr i).last]) (nr i) := ⟨va i, vc i, ts, rfl, hP⟩
  cases hk : lk (nr i).m k with
  | none =>
    have e1 : (nr i).dblN k = nr i := by simp [Nt.dblN, hk]
    have e2 : (nr i).dblA k = (0, 100) := by simp [Nt.dblA, hk]
    rw [e1, e2]
    refine (rdouble_no (k := k) hR hf hk).mono ?_
    rintro e w' ⟨rfl, hb⟩
    exact ⟨va i, vc i, rfl, hb, h.later hi ((hP.keep hb).mono (fun _ h => .inl h))⟩
  | some p =>
    have hpm : p.bd.length ≤ 65545 := by
      obtain ⟨j, hj, _, e⟩ := fnd_some hk 0
      have := hb' _ (List.getElem_mem hj)
      rw [e] at this
      exact this
    refine (rdouble_yes hR hf hl hk hpm).mono ?_
    rintro e w' ⟨v', rfl, ⟨a', c', ts', rfl, hP'⟩, hb⟩
    exact ⟨a', c', rfl, hb, h.later hi hP'⟩

/-- What the document's Deliver tells of a packet. -/
def pno (n : Nt) (k : Int) : Int := if (lk n.m k).isSome then k else 0

/-- The document's Deliver at net i. -/
theorem Pz.rdeliver (h : Pz w0 w D L R M np nr va vc) {i : Nat} (hi : i < 2) {k : Int} (hf : (nr i).m.length ≤ 256) (hu : Un (nr i).m) :
    Calls Try.prog 20 #[.agg #[.slice (va i) (nr i).m.length (vc i), .int .i64 (nr i).last], .int .i64 k] w fun e w' => ∃ (a' : Option Addr) (c' : Nat) (pa : Option Addr) (pn pc : Nat), e = .returned (.tuple #[.agg #[.slice a' ((nr i).drpN k).m.length c', .int .i64 ((nr i).drpN k).last], .agg #[.int .i64 (pno (nr i) k), .int .i64 ((nr i).findA k).fr, .int .i64 ((nr i).findA k).to, .slice pa pn pc], .int .i64 ((nr i).findE k)]) ∧ Bs w' pa pn pc ((nr i).findA k).bd ∧ (∀ ad, pa = some ad → ad.block < w'.heap.size) ∧ Below w.heap.size w w' ∧
      ∀ V, Pz w0 V D L R M np nr va vc → Below w'.heap.size w' V → ∀ x y, x = .slice a' ((nr i).drpN k).m.length c' → y = .int .i64 ((nr i).drpN k).last → Pz w0 ((V.setCell ⟨L, i * 2, none⟩ x).setCell ⟨L, i * 2 + 1, none⟩ y) D L R M np (up nr i ((nr i).drpN k)) (up va i a') (up vc i c') := by
  obtain ⟨ts, hP⟩ := h.rn i hi
  have hR : Rn w (fun g => g ≠ D ∧ g ≠ L ∧ ∀ j, j < 2 → g ≠ R j ∧ g ≠ M j) (.agg #[.slice (va i) (nr i).m.length (vc i), .int .i64 (nr i).last]) (nr i) := ⟨va i, vc i, ts, rfl, hP⟩
  cases hk : lk (nr i).m k with
  | none =>
    have e1 : (nr i).drpN k = nr i := by simp [Nt.drpN, hk]
    have e2 : (nr i).findE k = 100 := by simp [Nt.findE, hk]
    have e3 : (nr i).findA k = ⟨0, 0, []⟩ := by simp [Nt.findA, hk]
    have e4 : pno (nr i) k = 0 := by simp [pno, hk]
    rw [e1, e2, e3, e4]
    refine (rdeliver_no (k := k) hR hf hk).mono ?_
    rintro e w' ⟨rfl, hb⟩
    exact ⟨va i, vc i, none, 0, 0, rfl, Bs.nil _, (fun ad h => by cases h), hb, h.later hi ((hP.keep hb).mono (fun _ h => .inl h))⟩
  | some p =>
    have e1 : (nr i).drpN k = (nr i).drop k := by simp [Nt.drpN, hk]
    have e2 : (nr i).findE k = 0 := by simp [Nt.findE, hk]
    have e3 : (nr i).findA k = p := by simp [Nt.findA, hk]
    have e4 : pno (nr i) k = k := by simp [pno, hk]
    rw [e1, e2, e3, e4]
    refine (rdeliver_yes hR hf hu hk).mono ?_
    rintro e w' ⟨v', t, rfl, hB, hlt, ⟨a', c', ts', rfl, hP'⟩, hb⟩
    exact ⟨a', c', t.a, t.ln, t.cap, rfl, hB, fun ad e => (hlt ad e).2, hb, h.later hi hP'⟩

/-- A packet is dropped at net i. -/
theorem Pz.drop (h : Pz w0 w D L R M np nr va vc) {i : Nat} (hi : i < 2) {k : Int} (hk : I6 k) :
    Calls Try.prog 12 #[.pointer (some ⟨R i, 0, none⟩), .int .i64 k] w fun e w' => e = .returned (.int .i64 ((np i).findE k)) ∧ Pz w0 w' D L R M (up np i ((np i).drpN k)) nr va vc ∧ Tb (fun k => k = R i ∨ k = M i) w w' := by
  refine (drop_any (h.nw i hi) hk).mono ?_
  rintro e w' ⟨rfl, hn, t'⟩
  exact ⟨rfl, h.prog hi hn t', t'⟩

/-- A packet is delivered at net i. -/
theorem Pz.deliver (h : Pz w0 w D L R M np nr va vc) {i : Nat} (hi : i < 2) {k : Int} (hk : I6 k) :
    Calls Try.prog 13 #[.pointer (some ⟨R i, 0, none⟩), .int .i64 k] w fun e w' => ∃ (pa : Option Addr) (pn pc : Nat), e = .returned (.tuple #[.agg #[.int .i64 (pno (np i) k), .int .i64 ((np i).findA k).fr, .int .i64 ((np i).findA k).to, .slice pa pn pc], .int .i64 ((np i).findE k)]) ∧ Bs w' pa pn pc ((np i).findA k).bd ∧ (∀ ad, pa = some ad → w.heap.size ≤ ad.block ∧ ad.block < w'.heap.size) ∧ Pz w0 w' D L R M (up np i ((np i).drpN k)) nr va vc ∧ Tb (fun k => k = R i ∨ k = M i) w w' := by
  cases hl : lk (np i).m k with
  | none =>
    have e1 : (np i).drpN k = np i := by simp [Nt.drpN, hl]
    have e2 : (np i).findE k = 100 := by simp [Nt.findE, hl]
    have e3 : (np i).findA k = ⟨0, 0, []⟩ := by simp [Nt.findA, hl]
    have e4 : pno (np i) k = 0 := by simp [pno, hl]
    rw [e1, e2, e3, e4]
    refine (deliver_no (h.nw i hi) hk hl).mono ?_
    rintro e w' ⟨rfl, hb⟩
    have t' : Tb (fun k => k = R i ∨ k = M i) w w' := Tb.of_fresh hb
    exact ⟨none, 0, 0, rfl, Bs.nil _, (fun ad h => by cases h), h.prog hi ((h.nw i hi).below hb) t', t'⟩
  | some p =>
    have e1 : (np i).drpN k = (np i).drop k := by simp [Nt.drpN, hl]
    have e2 : (np i).findE k = 0 := by simp [Nt.findE, hl]
    have e3 : (np i).findA k = p := by simp [Nt.findA, hl]
    have e4 : pno (np i) k = k := by simp [pno, hl]
    rw [e1, e2, e3, e4]
    refine (deliver_yes (h.nw i hi) hk hl).mono ?_
    rintro e w' ⟨t, rfl, hI, hn, t'⟩
    obtain ⟨g, g1, g2, g3⟩ := hI.new
    refine ⟨t.a, t.ln, t.cap, ?_, hI.bd, fun ad h => ?_, h.prog hi hn t', t'⟩
    · rw [← hI.no, ← hI.fr, ← hI.to]
      rfl
    · rw [g1] at h
      cases h
      exact ⟨g2, heap_lt g3⟩

/-- What the document's net i becomes, at X, is laid into the array: V5 is what is there then (one block made ahead of the call may have turned). -/
theorem Pz.lay {X1 V X V5 : World} (z1 : Pz w0 X1 D L R M np nr va vc) (hV : Below X1.heap.size X1 V) (hX : Below V.heap.size V X) {i : Nat} (hi : i < 2) {n' : Nt} {a' : Option Addr} {c' : Nat} {ts' : List Pt}
    (hP : Pl X (fun g => ((g ≠ D ∧ g ≠ L ∧ ∀ j, j < 2 → g ≠ R j ∧ g ≠ M j) ∧ g < X1.heap.size) ∨ V.heap.size ≤ g) a' n'.m.length c' ts' n'.m) (hs : X.heap.size ≤ V5.heap.size)
    (hc : ∀ g, g < X.heap.size → (g < X1.heap.size ∨ V.heap.size ≤ g) → V5.heap[g]? = X.heap[g]?) (hb : Below w0.heap.size w0 V5) :
    Pz w0 V5 D L R M np nr va vc ∧ ∀ x y, x = .slice a' n'.m.length c' → y = .int .i64 n'.last → Pz w0 ((V5.setCell ⟨L, i * 2, none⟩ x).setCell ⟨L, i * 2 + 1, none⟩ y) D L R M np (up nr i n') (up va i a') (up vc i c') := by
  have sV := hV.size
  have sX := hX.size
  have hlt := z1.lt
  have old : ∀ g, g < X1.heap.size → V5.heap[g]? = X1.heap[g]? := fun g hg => (hc g (by omega) (.inl hg)).trans ((hX.block g (by omega)).trans (hV.block g hg))
  have z5 : Pz w0 V5 D L R M np nr va vc := ⟨(old D hlt.1).trans z1.d, (old L hlt.2.1).trans z1.l, fun j hj => (z1.nw j hj).heap (old _ (hlt.2.2 j hj).1) (old _ (hlt.2.2 j hj).2), fun j hj => by
    obtain ⟨ts, hQ⟩ := z1.rn j hj
    exact ⟨ts, (hQ.low.heap (fun g hg _ => old g hg.2) (by omega)).mono (fun g hg => hg.1)⟩, z1.rr, z1.mm, z1.ge, hb⟩
  refine ⟨z5, fun x y hx hy => z5.ref hi hx hy ((hP.heap (fun g hg hl => hc g hl ?_) hs).mono (fun g hg => ?_))⟩
  · rcases hg with hg | hg
    · exact .inl hg.2
    · exact .inr hg
  · rcases hg with hg | hg
    · exact hg.1
    · refine ⟨by omega, by omega, fun j hj => ?_⟩
      have := hlt.2.2 j hj
      omega

/-- The document's Double at net i, at V, behind X1. -/
theorem Pz.rdouble2 {X1 V : World} (h : Pz w0 X1 D L R M np nr va vc) (hV : Below X1.heap.size X1 V) {i : Nat} (hi : i < 2) {k : Int} (hl : 0 ≤ (nr i).last ∧ (nr i).last < 9223372036854775807) (hf : (nr i).m.length ≤ 256) (hb' : ∀ q ∈ (nr i).m, q.2.bd.length ≤ 65545) :
    Calls Try.prog 22 #[.agg #[.slice (va i) (nr i).m.length (vc i), .int .i64 (nr i).last], .int .i64 k] V fun e X => ∃ (a' : Option Addr) (c' : Nat) (ts' : List Pt), e = .returned (.tuple #[.agg #[.slice a' ((nr i).dblN k).m.length c', .int .i64 ((nr i).dblN k).last], .int .i64 ((nr i).dblA k).1, .int .i64 ((nr i).dblA k).2]) ∧ Below V.heap.size V X ∧
      Pl X (fun g => ((g ≠ D ∧ g ≠ L ∧ ∀ j, j < 2 → g ≠ R j ∧ g ≠ M j) ∧ g < X1.heap.size) ∨ V.heap.size ≤ g) a' ((nr i).dblN k).m.length c' ts' ((nr i).dblN k).m := by
  obtain ⟨ts, hP0⟩ := h.rn i hi
  have hP := hP0.low.keep hV
  have hR : Rn V (fun g => (g ≠ D ∧ g ≠ L ∧ ∀ j, j < 2 → g ≠ R j ∧ g ≠ M j) ∧ g < X1.heap.size) (.agg #[.slice (va i) (nr i).m.length (vc i), .int .i64 (nr i).last]) (nr i) := ⟨va i, vc i, ts, rfl, hP⟩
  cases hk : lk (nr i).m k with
  | none =>
    have e1 : (nr i).dblN k = nr i := by simp [Nt.dblN, hk]
    have e2 : (nr i).dblA k = (0, 100) := by simp [Nt.dblA, hk]
    rw [e1, e2]
    refine (rdouble_no (k := k) hR hf hk).mono ?_
    rintro e w' ⟨rfl, hb⟩
    exact ⟨va i, vc i, ts, rfl, hb, (hP.keep hb).mono (fun _ h => .inl h)⟩
  | some p =>
    have hpm : p.bd.length ≤ 65545 := by
      obtain ⟨j, hj, _, e⟩ := fnd_some hk 0
      have := hb' _ (List.getElem_mem hj)
      rw [e] at this
      exact this
    refine (rdouble_yes hR hf hl hk hpm).mono ?_
    rintro e w' ⟨v', rfl, ⟨a', c', ts', rfl, hP'⟩, hb⟩
    exact ⟨a', c', ts', rfl, hb, hP'⟩

/-- The document's Deliver at net i, at V, behind X1. -/
theorem Pz.rdeliver2 {X1 V : World} (h : Pz w0 X1 D L R M np nr va vc) (hV : Below X1.heap.size X1 V) {i : Nat} (hi : i < 2) {k : Int} (hf : (nr i).m.length ≤ 256) (hu : Un (nr i).m) :
    Calls Try.prog 20 #[.agg #[.slice (va i) (nr i).m.length (vc i), .int .i64 (nr i).last], .int .i64 k] V fun e X => ∃ (a' : Option Addr) (c' : Nat) (ts' : List Pt) (pa : Option Addr) (pn pc : Nat), e = .returned (.tuple #[.agg #[.slice a' ((nr i).drpN k).m.length c', .int .i64 ((nr i).drpN k).last], .agg #[.int .i64 (pno (nr i) k), .int .i64 ((nr i).findA k).fr, .int .i64 ((nr i).findA k).to, .slice pa pn pc], .int .i64 ((nr i).findE k)]) ∧ Bs X pa pn pc ((nr i).findA k).bd ∧ (∀ ad, pa = some ad → (ad.block < X1.heap.size ∨ V.heap.size ≤ ad.block) ∧ ad.block < X.heap.size) ∧ Below V.heap.size V X ∧
      Pl X (fun g => ((g ≠ D ∧ g ≠ L ∧ ∀ j, j < 2 → g ≠ R j ∧ g ≠ M j) ∧ g < X1.heap.size) ∨ V.heap.size ≤ g) a' ((nr i).drpN k).m.length c' ts' ((nr i).drpN k).m := by
  obtain ⟨ts, hP0⟩ := h.rn i hi
  have hP := hP0.low.keep hV
  have hR : Rn V (fun g => (g ≠ D ∧ g ≠ L ∧ ∀ j, j < 2 → g ≠ R j ∧ g ≠ M j) ∧ g < X1.heap.size) (.agg #[.slice (va i) (nr i).m.length (vc i), .int .i64 (nr i).last]) (nr i) := ⟨va i, vc i, ts, rfl, hP⟩
  cases hk : lk (nr i).m k with
  | none =>
    have e1 : (nr i).drpN k = nr i := by simp [Nt.drpN, hk]
    have e2 : (nr i).findE k = 100 := by simp [Nt.findE, hk]
    have e3 : (nr i).findA k = ⟨0, 0, []⟩ := by simp [Nt.findA, hk]
    have e4 : pno (nr i) k = 0 := by simp [pno, hk]
    rw [e1, e2, e3, e4]
    refine (rdeliver_no (k := k) hR hf hk).mono ?_
    rintro e w' ⟨rfl, hb⟩
    exact ⟨va i, vc i, ts, none, 0, 0, rfl, Bs.nil _, (fun ad h => by cases h), hb, (hP.keep hb).mono (fun _ h => .inl h)⟩
  | some p =>
    have e1 : (nr i).drpN k = (nr i).drop k := by simp [Nt.drpN, hk]
    have e2 : (nr i).findE k = 0 := by simp [Nt.findE, hk]
    have e3 : (nr i).findA k = p := by simp [Nt.findA, hk]
    have e4 : pno (nr i) k = k := by simp [pno, hk]
    rw [e1, e2, e3, e4]
    refine (rdeliver_yes hR hf hu hk).mono ?_
    rintro e w' ⟨v', t, rfl, hB, hlt, ⟨a', c', ts', rfl, hP'⟩, hb⟩
    exact ⟨a', c', ts', t.a, t.ln, t.cap, rfl, hB, fun ad e => ⟨(hlt ad e).1.imp (fun h => h.2) id, (hlt ad e).2⟩, hb, hP'⟩

theorem Nt.drp_last (n : Nt) (k : Int) : (n.drpN k).last = n.last := by
  unfold Nt.drpN Nt.drop
  split <;> rfl
end

end Go.Proofs.Ythakbelcefogaaa

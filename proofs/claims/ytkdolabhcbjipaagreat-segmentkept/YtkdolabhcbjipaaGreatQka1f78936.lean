/-
  A disk beside blocks that are none of its own; what Put does to both, and to what is laid since a loop began.
-/
import Derived.Test.YtkdolabhcbjipaaGreatQk214e0f94
import Derived.RangeFuncNested
namespace Go.Proofs.YtkdolabhcbjipaaGreat
open Go.RowKit
set_option maxRecDepth 100000
set_option linter.unusedVariables false

theorem notTD0 : ¬ TD (0, 0) := by unfold TD TA TB; simp

/-- None of a disk's blocks whose maps lie below B: its own types of cells lie elsewhere. -/
def Al (W : World) (B g : Nat) : Prop := (∀ cs T m, W.heap[g]? = some (.cells cs T m) → T ≠ (67 : TypeId) ∧ T ≠ (85 : TypeId) ∧ T ≠ (87 : TypeId)) ∧ (B ≤ g ∨ ∃ cs T m, W.heap[g]? = some (.cells cs T m))

theorem Al.noc {W : World} {B g : Nat} {o : Obj} (h : W.heap[g]? = some o) (hc : o.isCells = false) (hB : B ≤ g) : Al W B g :=
  ⟨fun cs T m e => (by rw [h] at e; cases e; cases hc), .inl hB⟩
theorem Al.byte {W : World} {B g : Nat} {cs : Array Value} {m : Nat × Nat} (h : W.heap[g]? = some (.cells cs 5 m)) : Al W B g :=
  ⟨fun cs T m e => (by rw [h] at e; cases e; decide), .inr ⟨_, _, _, h⟩⟩

/-- The disk's maps lie below B. -/
structure Low (o : Ob) (B : Nat) : Prop where
  dn : o.dn < B
  dr : o.dr < B
  sn : o.sn < B
  sr : o.sr < B
  us : o.us < B

theorem Low.same {o o' : Ob} {B : Nat} (h : Low o B) (s : Sa o o') : Low o' B := ⟨by rw [s.dn]; exact h.dn, by rw [s.dr]; exact h.dr, by rw [s.sn]; exact h.sn, by rw [s.sr]; exact h.sr, by rw [s.us]; exact h.us⟩

section
variable {w W V : World} {L L' : Lb} {R B : Nat} {o : Ob} {dur std : Shp} {l : List Stp}

theorem row_cells {base n size : Nat} {e : TypeId} {v : Value} {xs : List Value} (h : W.ownsRow base e size v n xs) (he : e = (85 : TypeId) ∨ e = (87 : TypeId)) {g : Nat} (hg : v.ownBlock = some g) : ¬ Al W B g := by
  rcases h.2 with ⟨rfl, _⟩ | ⟨g', cap, cur, rfl, _, hgg, _⟩
  · cases hg
  · simp only [Value.ownBlock, Option.some.injEq] at hg
    subst hg
    intro hn
    have := hn.1 _ _ _ hgg
    rcases he with rfl | rfl
    · exact this.2.1 rfl
    · exact this.2.2 rfl

theorem Rw.relabel {α : Type} {c : α → List Value} {T : TypeId} {size : Nat} {tag : Int} {b : Nat} {rw : List (Int × List α)} (h : Rw c T size W L tag b rw) (hT : T = (85 : TypeId) ∨ T = (87 : TypeId)) (hL : ∀ g, L' g = L g ∨ Al W B g) : Rw c T size W L' tag b rw := by
  obtain ⟨D, g1, g2, g3, g4⟩ := h.ex
  refine ⟨h.un, h.ix, D, g1, g2, g3, fun f xs hx => ?_⟩
  obtain ⟨v, e1, e2, e3⟩ := g4 f xs hx
  refine ⟨v, e1, e2, fun g hg => ?_⟩
  rcases hL g with e | e
  · rw [e]; exact e3 g hg
  · exact absurd e (row_cells e2 hT hg)

theorem Nm.noc {b : Nat} {nm : List (List UInt8 × Int)} (h : Nm W b nm) (hb : b < B) : ¬ Al W B b := by
  obtain ⟨D, h1, _⟩ := h.ex
  obtain ⟨es, clock, hm, _⟩ := h1.own
  intro hn
  rcases hn.2 with h2 | ⟨cs, T, m, h2⟩
  · omega
  · rw [hm] at h2; cases h2
theorem Rw.noc {α : Type} {c : α → List Value} {T : TypeId} {size : Nat} {tag : Int} {b : Nat} {rw : List (Int × List α)} (h : Rw c T size W L tag b rw) (hb : b < B) : ¬ Al W B b := by
  obtain ⟨D, h1, _⟩ := h.ex
  obtain ⟨es, clock, hm, _⟩ := h1.own
  intro hn
  rcases hn.2 with h2 | ⟨cs, T, m, h2⟩
  · omega
  · rw [hm] at h2; cases h2

theorem Di.relabel (h : Di W L R o dur std l) (hL : ∀ g, L' g = L g ∨ Al W B g) (hB : Low o B) : Di W L' R o dur std l := by
  obtain ⟨sec, m1, m2, m3⟩ := h.bk.map
  refine ⟨h.oj, ?_, ⟨h.dur.nm, h.dur.rw.relabel (.inl rfl) hL, ?_, ?_⟩, ⟨h.std.nm, h.std.rw.relabel (.inl rfl) hL, ?_, ?_⟩, ⟨h.bk.row, fun g hg => ?_, ⟨sec, m1.relabel (.inr rfl) hL, m2, m3⟩, ?_, h.bk.ok, h.bk.up, h.bk.no, h.bk.last⟩⟩
  · rcases hL R with e | e
    · rw [e]; exact h.lb
    · exact absurd rfl (e.1 _ _ _ h.oj.obj).1
  · rw [(hL _).resolve_right (h.dur.nm.noc hB.dn)]; exact h.dur.ln
  · rw [(hL _).resolve_right (h.dur.rw.noc hB.dr)]; exact h.dur.lr
  · rw [(hL _).resolve_right (h.std.nm.noc hB.sn)]; exact h.std.ln
  · rw [(hL _).resolve_right (h.std.rw.noc hB.sr)]; exact h.std.lr
  · rcases hL g with e | e
    · rw [e]; exact h.bk.rlb g hg
    · exact absurd e (row_cells h.bk.row (.inr rfl) hg)
  · rw [(hL _).resolve_right (m1.noc hB.us)]; exact h.bk.mlb

open Classical in
/-- What is none of the disk's blocks bears no label. -/
theorem Di.relab (h : Di W L R o dur std l) (hB : Low o B) : ∃ M : Lb, (∀ g, M g = L g ∨ M g = (0, 0)) ∧ (∀ g, Al W B g → M g = (0, 0)) ∧ Di W M R o dur std l := by
  refine ⟨fun g => if Al W B g then (0, 0) else L g, fun g => ?_, fun g h1 => if_pos h1, h.relabel (B := B) (fun g => ?_) hB⟩
  · by_cases c : Al W B g
    · exact .inr (if_pos c)
    · exact .inl (if_neg c)
  · by_cases c : Al W B g
    · exact .inr c
    · exact .inl (if_neg c)

theorem Di.low (h : Di W L R o dur std l) : Low o W.heap.size := by
  obtain ⟨sec, m1, m2, m3⟩ := h.bk.map
  exact ⟨h.dur.nm.lt, h.dur.rw.lt, h.std.nm.lt, h.std.rw.lt, m1.lt⟩
end

/-- A disk, its maps below B, and blocks (P) that are none of its own; nothing that w had has turned. -/
def Am (w : World) (P : Nat → Prop) (B R : Nat) (d : Dsk) (W : World) : Prop :=
  ∃ L o, Di W L R o d.dur d.std d.l ∧ Says o d ∧ Low o B ∧ (∀ g, P g → g < W.heap.size ∧ L g = (0, 0)) ∧ (∀ g, g < w.heap.size → P g) ∧ Tb (fun _ => False) w W

/-- A disk, and blocks that are none of its own. -/
def Ay (w : World) (P : Nat → Prop) (R : Nat) (d : Dsk) (W : World) : Prop :=
  ∃ L, Dk W L R d ∧ (∀ g, P g → g < W.heap.size ∧ L g = (0, 0)) ∧ (∀ g, g < w.heap.size → P g) ∧ Tb (fun _ => False) w W

/-- Nothing of P has turned. -/
def No (P : Nat → Prop) (W V : World) : Prop := Tb (fun g => ¬ P g) W V

section
variable {w W V X : World} {P Q : Nat → Prop} {R B : Nat} {d d' : Dsk}

theorem No.refl : No P W W := Tb.refl _ _
theorem No.trans (h : No P W V) (k : No P V X) : No P W X := Tb.trans h k (fun _ _ h => h)
theorem No.of (h : Tb (fun _ => False) W V) : No P W V := h.mono (fun _ _ h => h.elim)
theorem No.less (h : No P W V) (hq : ∀ g, Q g → P g) : No Q W V := Tb.mono h (fun _ _ hn hq' => hn (hq _ hq'))
theorem No.row {base n size : Nat} {e : TypeId} {v : Value} {xs : List Value} (h : No P W V) (ho : W.ownsRow base e size v n xs) (hP : ∀ g, v.ownBlock = some g → P g) : V.ownsRow base e size v n xs := row_tb ho h (fun g hg hn => hn (hP g hg))

theorem Am.ay (h : Am w P B R d W) : Ay w P R d W := by
  obtain ⟨L, o, a1, a2, _, a4, a5, a6⟩ := h
  exact ⟨L, ⟨o, a1, a2⟩, a4, a5, a6⟩
theorem Ay.am (h : Ay w P R d W) : Am w P W.heap.size R d W := by
  obtain ⟨L, ⟨o, a1, a2⟩, a4, a5, a6⟩ := h
  exact ⟨L, o, a1, a2, a1.low, a4, a5, a6⟩
theorem Am.wide {B' : Nat} (h : Am w P B R d W) (hB : B ≤ B') : Am w P B' R d W := by
  obtain ⟨L, o, a1, a2, a3, a4, a5, a6⟩ := h
  exact ⟨L, o, a1, a2, ⟨Nat.lt_of_lt_of_le a3.dn hB, Nat.lt_of_lt_of_le a3.dr hB, Nat.lt_of_lt_of_le a3.sn hB, Nat.lt_of_lt_of_le a3.sr hB, Nat.lt_of_lt_of_le a3.us hB⟩, a4, a5, a6⟩

theorem Ay.tb (h : Ay w P R d W) : Tb (fun _ => False) w W := by obtain ⟨_, _, _, _, h⟩ := h; exact h
theorem Ay.below (h : Ay w P R d W) : Below w.heap.size w W := h.tb.below (fun _ h => h.elim) (Nat.le_refl _)
theorem Ay.old (h : Ay w P R d W) : ∀ g, g < w.heap.size → P g := by obtain ⟨_, _, _, h, _⟩ := h; exact h
theorem Ay.lt (h : Ay w P R d W) : ∀ g, P g → g < W.heap.size := by obtain ⟨_, _, h, _, _⟩ := h; exact fun g hg => (h g hg).1

theorem Ay.less (h : Ay w P R d W) (hq : ∀ g, Q g → P g) (hw : ∀ g, g < w.heap.size → Q g) : Ay w Q R d W := by
  obtain ⟨L, a1, a2, a3, a4⟩ := h
  exact ⟨L, a1, fun g hg => a2 g (hq g hg), hw, a4⟩

theorem Di.tbs {L L' : Lb} {o : Ob} {dur std : Shp} {l : List Stp} {S : Nat → Prop} (h : Di W L R o dur std l) (hb : Tb S W V) (hl : Lx W L L') (hS : ∀ g, S g → L g = (0, 0)) : Di V L' R o dur std l :=
  h.tb hb hl (fun g ht hs => by rw [hS g hs] at ht; exact notTD0 ht)

/-- Blocks of P turn, and new ones are laid: these are none of the disk's either. -/
theorem Am.on (h : Am w P B R d W) (hb : Tb (fun g => P g ∧ w.heap.size ≤ g) W V) : Am w (fun g => P g ∨ (W.heap.size ≤ g ∧ g < V.heap.size)) B R d V := by
  obtain ⟨L, o, a1, a2, a3, a4, a5, a6⟩ := h
  refine ⟨onlyL W L, o, a1.tbs hb (onlyL_lx _ _) (fun g hg => (a4 g hg.1).2), a2, a3, fun g hg => ?_, fun g hg => .inl (a5 g hg), a6.trans hb (fun i hi hx => by have := hx.2; omega)⟩
  rcases hg with hg | ⟨h1, h2⟩
  · have := a4 g hg
    exact ⟨Nat.lt_of_lt_of_le this.1 hb.size, by rw [onlyL_lx W L g this.1]; exact this.2⟩
  · exact ⟨h2, onlyL_new h1⟩

theorem Ay.on (h : Ay w P R d W) (hb : Tb (fun g => P g ∧ w.heap.size ≤ g) W V) : Ay w (fun g => P g ∨ (W.heap.size ≤ g ∧ g < V.heap.size)) R d V := (h.am.on hb).ay
theorem Ay.new (h : Ay w P R d W) (hb : Tb (fun _ => False) W V) : Ay w (fun g => P g ∨ (W.heap.size ≤ g ∧ g < V.heap.size)) R d V := h.on (hb.mono (fun _ _ h => h.elim))
theorem Ay.kept (h : Ay w P R d W) (hb : Tb (fun _ => False) W V) : Ay w P R d V := (h.new hb).less (fun _ h => .inl h) h.old

/-- Rows of bytes are none of the disk's. -/
theorem Am.more (h : Am w P B R d W) (hq : ∀ g, Q g → ∃ cs m, W.heap[g]? = some (.cells cs 5 m)) : Am w (fun g => P g ∨ Q g) B R d W := by
  obtain ⟨L, o, a1, a2, a3, a4, a5, a6⟩ := h
  obtain ⟨M, m1, m2, m3⟩ := a1.relab a3
  refine ⟨M, o, m3, a2, a3, fun g hg => ?_, fun g hg => .inl (a5 g hg), a6⟩
  rcases hg with hg | hg
  · exact ⟨(a4 g hg).1, (m1 g).elim (fun e => e.trans (a4 g hg).2) id⟩
  · obtain ⟨cs, m, e⟩ := hq g hg
    exact ⟨(Array.getElem?_eq_some_iff.1 e).1, m2 g (Al.byte e)⟩
theorem Am.less (h : Am w P B R d W) (hq : ∀ g, Q g → P g) (hw : ∀ g, g < w.heap.size → Q g) : Am w Q B R d W := by
  obtain ⟨L, o, a1, a2, a3, a4, a5, a6⟩ := h
  exact ⟨L, o, a1, a2, a3, fun g hg => a4 g (hq g hg), hw, a6⟩

/-- It abides what a loop over a function does with its own blocks. -/
theorem am_own (β : Type) (hw : w.heap.size ≤ B) (f : β → Dsk) (G : β → Prop) : OwnFrom B (fun (s : β) W => Am w P B R (f s) W ∧ G s) := by
  rintro s A C row ⟨h, hg⟩ hgr hr
  refine ⟨?_, hg⟩
  obtain ⟨L, o, a1, a2, a3, a4, a5, a6⟩ := h
  obtain ⟨M, m1, m2, m3⟩ := a1.relab a3
  have hb : Tb (fun g => row = some g) A C := Tb.of_grown hgr (fun k e => e)
  refine ⟨M, o, m3.tbs hb (Lx.refl _ _) (fun g hg => ?_), a2, a3, fun g hg => ?_, a5, a6.trans hb (fun i hi e => ?_)⟩
  · obtain ⟨h1, ob, h2, h3⟩ := hr g hg
    exact m2 g (Al.noc h2 h3 h1)
  · have := a4 g hg
    exact ⟨Nat.lt_of_lt_of_le this.1 hb.size, (m1 g).elim (fun e => e.trans this.2) id⟩
  · have := (hr i e).1
    omega

theorem am_put {K : Nat} {s : ByteArray} {at' : Int} {b off cap : Nat} {data : List Int} (h : Am w P B R d W) (hm : Sm d.std K) (hK : K < 800000) (hlast : d.last < 900000) (hmade : 0 ≤ d.made ∧ d.made < 900000) (hfl : ∀ p ∈ d.std.nm, 0 ≤ p.2) (hs : s.size ≤ 9223372036854775807)
    (hB : Bs W (some ⟨b, off, none⟩) 64 cap data) (hP : P b) :
    Calls Tryz.prog 46 #[.pointer (some ⟨R, 0, none⟩), .string s, .int .i64 at', .slice (some ⟨b, off, none⟩) 64 cap] W fun e w' => e = .returned (.int .i64 (d.put s at' 64 data).1) ∧ Am w P B R (d.put s at' 64 data).2 w' ∧ No P W w' ∧ KeepsFrom B W w' := by
  have hh := h
  obtain ⟨L, o, a1, a2, a3, a4, a5, a6⟩ := h
  by_cases h1 : ¬ (1 ≤ s.size ∧ s.size ≤ 64) ∨ (64 : Nat) ≠ 64 ∨ at' < 0 ∨ ((lk d.std.rw (d.find s)).getD []).length < at'
  · refine (put_arg (a := some ⟨b, off, none⟩) (n := 64) (cap := cap) a1 hm hs (by omega) h1).mono ?_
    rintro e w' ⟨rfl, rfl⟩
    have e2 : d.put s at' 64 data = (2, d) := by unfold Dsk.put; rw [if_pos h1]
    rw [e2]
    exact ⟨rfl, hh, No.refl, KeepsFrom.refl _ _⟩
  · have hs' : 1 ≤ s.size ∧ s.size ≤ 64 := Decidable.not_not.1 (fun e => h1 (.inl e))
    have h01 : 0 ≤ at' := by
      have : ¬ at' < 0 := fun e => h1 (.inr (.inr (.inl e)))
      omega
    have h02 : at' ≤ ((lk d.std.rw (d.find s)).getD []).length := by
      have : ¬ ((lk d.std.rw (d.find s)).getD []).length < at' := fun e => h1 (.inr (.inr (.inr e)))
      omega
    by_cases h2 : at' = 4096 ∨ (d.find s = 0 ∧ 256 ≤ d.std.nm.length)
    · refine (put_full (a := some ⟨b, off, none⟩) (cap := cap) a1 hm hs' h01 h02 h2).mono ?_
      rintro e w' ⟨rfl, rfl⟩
      have e2 : d.put s at' 64 data = (5, d) := by unfold Dsk.put; rw [if_neg h1, if_pos h2]
      rw [e2]
      exact ⟨rfl, hh, No.refl, KeepsFrom.refl _ _⟩
    · obtain ⟨M, m1, m2, m3⟩ := a1.relab a3
      have m0 : ∀ g, P g → M g = (0, 0) := fun g hg => (m1 g).elim (fun e => e.trans (a4 g hg).2) id
      refine (put_gom m3 a2 hm (by omega) (by omega) (by omega) hfl hs' hB (by rw [m0 b hP]; exact notTD0) h01 h02 h2).mono ?_
      rintro e w' ⟨rfl, L', o', x, hd', hs2, sa, t⟩
      refine ⟨rfl, ⟨L', o', hd', hs2, a3.same sa, fun g hg => ?_, a5, Tb.trans a6 t (fun i hi e => ?_)⟩, Tb.mono t (fun i hi e hp => ?_), ⟨Tb.size t, fun k ob hk hkb hc => ?_⟩⟩
      · have := a4 g hg
        exact ⟨Nat.lt_of_lt_of_le this.1 (Tb.size t), by rw [x g this.1]; exact m0 g hg⟩
      · rw [m0 i (a5 i hi)] at e
        exact notTD0 e
      · rw [m0 i hp] at e
        exact notTD0 e
      · refine (Tb.block t k (Array.getElem?_eq_some_iff.1 hkb).1 (fun e => ?_)).trans hkb
        rw [m2 k (Al.noc hkb hc hk)] at e
        exact notTD0 e
end

end Go.Proofs.YtkdolabhcbjipaaGreat

/-
  The law's world in the midst of a turn.
-/
import Derived.Test.YtennciddjkijaaaCsp
namespace Go.Proofs.Ytennciddjkijaaa
open Go.RowKit QI
set_option maxRecDepth 100000
set_option linter.unusedSimpArgs false

/-- A turn's place. -/
structure Tp where
  L : Nat
  B : Nat
  pv : Value
  R : Nat
  i : Nat
  h1 : Nat
  h2 : Nat
  h3 : Nat
  h4 : Nat
  dv : Nat
  b : Nat
  prog : Nat
  at' : Nat
  d : Dop

/-- In the midst of a turn that began in w. -/
structure Mid (w : World) (bs : List Nat) (F D : Nat → Prop) (p : Tp) (σ : Sg) (left : Nat) (Y : World) : Prop where
  ex : ∃ F7 D7 bs7, Wd Y p.L p.B p.pv p.R bs7 σ (some p.i) left F7 D7 ∧ Wx w F D bs Y F7 D7 bs7 ∧ Bx F7 Y p.h1 p.h2 p.h3 p.h4 p.B p.b p.prog p.at' ∧ F7 p.dv ∧ Y.heap[p.dv]? = some (.cells #[.int .i64 p.d.1, .int .i64 p.d.2.1, .int .i64 p.d.2.2] (67 : TypeId) (0, 0)) ∧ bs7[p.i]? = some p.b
  q : σ.tk[p.i]? = some ⟨p.prog, p.at' + 1, 2, 0⟩
  low : p.L ≤ Y.heap.size
  ev : σ.ev.length ≤ 999999
  tk : σ.tk.length ≤ 999999
  ha : p.at' ≤ 1000000

section
variable {w Y V : World} {bs : List Nat} {F D : Nat → Prop} {p : Tp} {σ : Sg} {left : Nat}

theorem Mid.below (m : Mid w bs F D p σ left Y) (hV : Below Y.heap.size Y V) : Mid w bs F D p σ left V := by
  obtain ⟨F7, D7, bs7, a1, a2, a3, a4, a5, a6⟩ := m.ex
  exact ⟨⟨F7, D7, bs7, a1.below hV, a2.fresh hV, a3.below hV, a4, (hV.block _ (heap_lt a5)).trans a5, a6⟩, m.q, Nat.le_trans m.low hV.size, m.ev, m.tk, m.ha⟩

/-- What is read in the midst of a turn. -/
def Cs (p : Tp) (V : World) : Prop := V.cell? ⟨p.h1, 0, none⟩ = some (.pointer (some ⟨p.B, 0, none⟩)) ∧ V.cell? ⟨p.h2, 0, none⟩ = some (.pointer (some ⟨p.b, 0, none⟩)) ∧ V.cell? ⟨p.dv, 1, none⟩ = some (.int .i64 p.d.2.1) ∧ V.cell? ⟨p.dv, 2, none⟩ = some (.int .i64 p.d.2.2) ∧ V.cell? ⟨p.B, 0, none⟩ = some (.pointer (some ⟨p.R, 0, none⟩)) ∧ V.cell? ⟨p.B, 1, none⟩ = some p.pv

theorem Mid.cs (m : Mid w bs F D p σ left Y) : Cs p Y := by
  obtain ⟨F7, D7, bs7, a1, a2, a3, a4, a5, a6⟩ := m.ex
  exact ⟨cell_of_row Y _ 0 _ _ _ a3.e1, cell_of_row Y _ 0 _ _ _ a3.e2, cell_of_row Y _ 1 _ _ _ a5, cell_of_row Y _ 2 _ _ _ a5, a1.c0, a1.c1⟩

/-- A call was made. -/
theorem Mid.on {F7 D7 F8 D8 : Nat → Prop} {bs7 bs8 : List Nat} {σ' : Sg} {left' : Nat} {w' : World} (m : Mid w bs F D p σ left Y) (a2 : Wx w F D bs Y F7 D7 bs7) (a3 : Bx F7 Y p.h1 p.h2 p.h3 p.h4 p.B p.b p.prog p.at') (a4 : F7 p.dv) (a5 : Y.heap[p.dv]? = some (.cells #[.int .i64 p.d.1, .int .i64 p.d.2.1, .int .i64 p.d.2.2] (67 : TypeId) (0, 0))) (a6 : bs7[p.i]? = some p.b)
    (wd : Wd w' p.L p.B p.pv p.R bs8 σ' (some p.i) left' F8 D8) (wx : Wx Y F7 D7 bs7 w' F8 D8 bs8) (hq : σ'.tk[p.i]? = some ⟨p.prog, p.at' + 1, 2, 0⟩) (he : σ'.ev.length ≤ 999999) (ht : σ'.tk.length ≤ 999999) : Mid w bs F D p σ' left' w' := by
  obtain ⟨l, e⟩ := wx.bs
  refine ⟨⟨F8, D8, bs8, wd, a2.trans wx, ⟨wx.sub _ a3.f1, wx.sub _ a3.f2, wx.sub _ a3.f3, wx.sub _ a3.f4, (wx.kp _ a3.f1).trans a3.e1, (wx.kp _ a3.f2).trans a3.e2, (wx.kp _ a3.f3).trans a3.e3, (wx.kp _ a3.f4).trans a3.e4⟩, wx.sub _ a4, (wx.kp _ a4).trans a5, ?_⟩, hq, Nat.le_trans m.low wx.tb.size, he, ht, m.ha⟩
  rw [e, List.getElem?_append_left (List.getElem?_eq_some_iff.1 a6).1]
  exact a6

theorem Mid.note (m : Mid w bs F D p σ left Y) (what n : Int) (he : σ.ev.length < 999999) :
    Calls Try.prog 64 #[.pointer (some ⟨p.B, 0, none⟩), .int .i64 p.i, .int .i64 what, .int .i64 n] Y fun e w' => e = .returned (.tuple #[]) ∧ Mid w bs F D p (σ.note p.i what n) left w' := by
  obtain ⟨F7, D7, bs7, a1, a2, a3, a4, a5, a6⟩ := m.ex
  refine (note_any a1 m.low (by omega) p.i what n).mono ?_
  rintro e w' ⟨rfl, D8, wd, wx⟩
  exact ⟨rfl, m.on a2 a3 a4 a5 a6 wd wx m.q (by simp [Sg.note]; omega) m.tk⟩

theorem Mid.yield (m : Mid w bs F D p σ left Y) :
    Calls Try.prog 30 #[.pointer (some ⟨p.b, 0, none⟩), .func (.func 65) #[] #[.pointer (some ⟨p.h1, 0, none⟩), .pointer (some ⟨p.h2, 0, none⟩), .pointer (some ⟨p.h3, 0, none⟩), .pointer (some ⟨p.h4, 0, none⟩)]] Y fun e w' => e = .returned (.int .i64 0) ∧ TnW w p.L p.B p.pv p.R bs (σ.gets p.i ⟨p.prog, p.at' + 1, 2, 0⟩) p.i F D w' := by
  obtain ⟨F7, D7, bs7, a1, a2, a3, a4, a5, a6⟩ := m.ex
  refine (wyield a1 m.low a6 m.q a3 m.ha).mono ?_
  rintro e w' ⟨rfl, D8, wd, wx⟩
  exact ⟨rfl, TnW.of (a2.trans wx) wd⟩

theorem Mid.choice (m : Mid w bs F D p σ left Y) (n : Int) (hn : I6 n) :
    Calls Try.prog 37 #[.pointer (some ⟨p.R, 0, none⟩), .int .i64 n] Y fun e w' => e = .returned (.int .i64 (if 0 < n then ((left % n.toNat : Nat) : Int) else 0)) ∧ ∃ left', Mid w bs F D p σ left' w' := by
  obtain ⟨F7, D7, bs7, a1, a2, a3, a4, a5, a6⟩ := m.ex
  by_cases h0 : 0 < n
  · rw [if_pos h0]
    obtain ⟨k, rfl⟩ := Int.eq_ofNat_of_zero_le (Int.le_of_lt h0)
    have := hn.2
    refine (wchoice_yes a1 m.low k (by omega) (by omega)).mono ?_
    rintro e w' ⟨rfl, D8, wd, wx⟩
    exact ⟨by simp, _, m.on a2 a3 a4 a5 a6 wd wx m.q m.ev m.tk⟩
  · rw [if_neg h0]
    refine (wchoice_no a1 n (by omega)).mono ?_
    rintro e w' ⟨rfl, rfl⟩
    exact ⟨rfl, left, m⟩

/-- It wakes itself. -/
theorem Mid.self (m : Mid w bs F D p σ left Y) (why : Int) :
    Calls Try.prog 32 #[.pointer (some ⟨p.b, 0, none⟩), .int .i64 why] Y fun e w' => e = .returned (.int .i64 152) ∧ Mid w bs F D p σ left w' := by
  obtain ⟨F7, D7, bs7, a1, a2, a3, a4, a5, a6⟩ := m.ex
  refine (wwake_no a1 m.low a6 m.q (by simp) why).mono ?_
  rintro e w' ⟨rfl, _, D8, wd, wx⟩
  exact ⟨rfl, m.on a2 a3 a4 a5 a6 wd wx m.q m.ev m.tk⟩

theorem Mid.spawn (m : Mid w bs F D p σ left Y) (prog : Nat) (ht : σ.tk.length < 999999) :
    Calls Try.prog 9 #[.pointer (some ⟨p.B, 0, none⟩), .int .i64 prog] Y fun e w' => e = .returned (.int .i64 (if σ.opn = 256 then 5 else 0)) ∧ Mid w bs F D p (σ.spawn prog) left w' := by
  obtain ⟨F7, D7, bs7, a1, a2, a3, a4, a5, a6⟩ := m.ex
  refine (wspawn a1 m.low (by omega) prog).mono ?_
  rintro e w' ⟨rfl, F8, D8, bs8, wd, wx⟩
  have hq := m.q
  have hl : p.i < σ.tk.length := (List.getElem?_eq_some_iff.1 hq).1
  refine ⟨rfl, m.on a2 a3 a4 a5 a6 wd wx ?_ ?_ ?_⟩
  · unfold Sg.spawn
    split
    · exact hq
    · simp only [Sg.add]
      rw [List.getElem?_append_left hl]
      exact hq
  · unfold Sg.spawn
    split <;> exact m.ev
  · unfold Sg.spawn
    split
    · omega
    · simp [Sg.add]; omega

/-- It wakes another one: the tasks' slice, and what Wake of the k-th one does. -/
theorem Mid.tasks (m : Mid w bs F D p σ left Y) : ∃ ta cap, Y.cell? ⟨p.B, 2, none⟩ = some (.slice ta σ.tk.length cap) ∧ (∀ k : Nat, k < σ.tk.length → ∃ g b', ta = some ⟨g, 0, none⟩ ∧ Y.cell? ⟨g, k, none⟩ = some (.pointer (some ⟨b', 0, none⟩)) ∧ ∀ V, Below Y.heap.size Y V → ∀ why : Int,
    Calls Try.prog 32 #[.pointer (some ⟨b', 0, none⟩), .int .i64 why] V fun e w' => e = .returned (.int .i64 (if σ.waits (k : Int) then 0 else 152)) ∧ Mid w bs F D p (σ.wake (k : Int) why) left w' ∧ w'.cell? ⟨p.B, 2, none⟩ = some (.slice ta σ.tk.length cap) ∧ w'.cell? ⟨g, k, none⟩ = some (.pointer (some ⟨b', 0, none⟩))) := by
  obtain ⟨F7, D7, bs7, a1, a2, a3, a4, a5, a6⟩ := m.ex
  obtain ⟨ta, cap, hc, hl, hg⟩ := a1.c2
  refine ⟨ta, cap, hc, fun k hk => ?_⟩
  obtain ⟨g, hta, hcell⟩ := hg (by omega)
  have hkb : k < bs7.length := by omega
  have hbk : bs7[k]? = some bs7[k] := List.getElem?_eq_getElem hkb
  refine ⟨g, bs7[k], hta, hcell k _ hbk, fun V hV why => ?_⟩
  have hp : σ.tk[k]? = some σ.tk[k] := List.getElem?_eq_getElem hk
  have m' := m.below hV
  have hKt : ∀ w', Kt V w' p.B → w'.cell? ⟨p.B, 2, none⟩ = some (.slice ta σ.tk.length cap) ∧ w'.cell? ⟨g, k, none⟩ = some (.pointer (some ⟨bs7[k], 0, none⟩)) := fun w' kt => by
    have hc2 : V.cell? ⟨p.B, 2, none⟩ = some (.slice ta σ.tk.length cap) := (hV.cell (cell_lt hc)).trans hc
    have hg2 : V.cell? ⟨g, k, none⟩ = some (.pointer (some ⟨bs7[k], 0, none⟩)) := (hV.cell (cell_lt (hcell k _ hbk))).trans (hcell k _ hbk)
    refine ⟨?_, ?_⟩
    · rw [World.cell?_of_block kt.1]; exact hc2
    · rw [World.cell?_of_block (kt.2 ta _ cap hc2 g 0 hta (by omega))]; exact hg2
  by_cases hs : σ.tk[k].st = 3
  · have hwt : σ.waits (k : Int) = true := by simp [Sg.waits, List.getD, hp, hs]
    rw [if_pos hwt]
    refine (wwake_yes (a1.below hV) m'.low hbk hp hs why).mono ?_
    rintro e w' ⟨rfl, kt, F8, D8, wd, wx⟩
    have e1 : σ.wake (k : Int) why = σ.gets k { σ.tk[k] with why := why } := by
      unfold Sg.wake
      rw [if_pos hwt]
      simp [List.getD, hp]
    rw [e1]
    have hne : p.i ≠ k := fun e => by
      have := m.q
      rw [e, hp] at this
      simp only [Option.some.injEq] at this
      rw [this] at hs
      simp at hs
    refine ⟨rfl, m'.on (a2.fresh hV) (a3.below hV) a4 ((hV.block _ (heap_lt a5)).trans a5) a6 wd wx ?_ m.ev (by simp [Sg.gets]; exact m.tk), hKt w' kt⟩
    simp only [Sg.gets, pt_set hp]
    rw [if_neg hne]
    exact m.q
  · have hwt : σ.waits (k : Int) = false := by simp [Sg.waits, List.getD, hp, hs]
    rw [if_neg (by simp [hwt])]
    refine (wwake_no (a1.below hV) m'.low hbk hp hs why).mono ?_
    rintro e w' ⟨rfl, kt, D8, wd, wx⟩
    rw [show σ.wake (k : Int) why = σ by unfold Sg.wake; rw [hwt]; rfl]
    exact ⟨rfl, m'.on (a2.fresh hV) (a3.below hV) a4 ((hV.block _ (heap_lt a5)).trans a5) a6 wd wx m.q m.ev m.tk, hKt w' kt⟩
end

end Go.Proofs.Ytennciddjkijaaa

/-
  Programs of tasks as lists, and what a turn makes of them.
-/
import Derived.Test.YtennciddjkijaaaCrb
namespace Go.Proofs.Ytennciddjkijaaa
open Go.RowKit QI
set_option maxRecDepth 100000

/-- What a task does in a turn: a kind, a number, a why. -/
abbrev Dop := Int × Int × Int

/-- A task: its program, its place in it, how it stands (0 over, 1 ready, 2 running, 3 parked), its why. -/
structure Pt where
  prog : Nat
  at' : Nat
  st : Nat
  why : Int

structure Sg where
  tk : List Pt
  line : List Int
  ev : List (Int × Int × Int)

def Sg.note (σ : Sg) (i : Int) (what n : Int) : Sg := { σ with ev := σ.ev ++ [(i, what, n)] }
def Sg.opn (σ : Sg) : Nat := σ.tk.countP fun p => p.st != 0
def Sg.add (σ : Sg) (prog : Nat) : Sg := { σ with tk := σ.tk ++ [⟨prog, 0, 1, 0⟩], line := σ.line ++ [(σ.tk.length : Int)] }
def Sg.spawn (σ : Sg) (prog : Nat) : Sg := if σ.opn = 256 then σ else σ.add prog
def Sg.put (σ : Sg) (i : Nat) (p : Pt) : Sg := { σ with tk := σ.tk.set i p }
def Sg.gets (σ : Sg) (i : Nat) (p : Pt) : Sg := { σ with tk := σ.tk.set i { p with st := 1 }, line := σ.line ++ [(i : Int)] }
def pt0 : Pt := ⟨0, 0, 0, 0⟩
def Sg.waits (σ : Sg) (k : Int) : Bool := decide (0 ≤ k) && decide ((σ.tk.getD k.toNat pt0).st = 3)
def Sg.wake (σ : Sg) (k : Int) (why : Int) : Sg := if σ.waits k then σ.gets k.toNat { σ.tk.getD k.toNat pt0 with why := why } else σ

/-- A place out of any number. -/
def pck (x : Int) (n : Nat) : Nat := (x % (n : Int)).toNat
theorem pck_lt (x : Int) {n : Nat} (h : 0 < n) : pck x n < n := by
  have h1 := Int.emod_lt_of_pos x (by omega : (0 : Int) < n)
  have h2 := Int.emod_nonneg x (by omega : (n : Int) ≠ 0)
  unfold pck
  omega

def dop (ps : List (List Dop)) (p : Pt) : Dop := (ps.getD p.prog []).getD p.at' (0, 0, 0)

/-- What a task that runs does: np programs are there. -/
def Sg.acts (np : Nat) (σ1 : Sg) (i : Nat) (q : Pt) (d : Dop) (rest : Nat) : Sg :=
  if d.1 = 1 then σ1.gets i q
  else if d.1 = 2 then σ1.put i { q with st := 3 }
  else if d.1 = 3 then ((σ1.wake d.2.1 d.2.2).note i (-2) (if σ1.waits d.2.1 then 0 else 152)).gets i q
  else if d.1 = 4 then ((σ1.spawn (pck d.2.1 np)).note i (-3) (if σ1.opn = 256 then 5 else 0)).gets i q
  else if d.1 = 5 then (σ1.gets i q).note i (-1) 151
  else if d.1 = 6 then (σ1.note i (-4) (if 0 < d.2.1 then ((rest % d.2.1.toNat : Nat) : Int) else 0)).gets i q
  else if d.1 = 7 then (σ1.note i (-5) 152).gets i q
  else σ1

/-- A turn is over: who has said nothing is over. -/
def Sg.fin (σ : Sg) (i : Nat) : Sg := if (σ.tk.getD i pt0).st = 2 then σ.put i { σ.tk.getD i pt0 with st := 0 } else σ

/-- A turn of a task, what is left of its pick. -/
def Sg.turn (ps : List (List Dop)) (σ : Sg) (i : Nat) (p : Pt) (rest : Nat) : Sg :=
  (((σ.put i ⟨p.prog, p.at' + 1, 2, 0⟩).note i p.at' p.why).acts ps.length i ⟨p.prog, p.at' + 1, 2, 0⟩ (dop ps p) rest).fin i

/-- A step by a pick. -/
def Sg.step (ps : List (List Dop)) (σ : Sg) (p : Nat) : Sg :=
  if σ.line.length = 0 then σ else
    let i := (σ.line.getD (p % σ.line.length) 0).toNat
    ({ σ with line := σ.line.eraseIdx (p % σ.line.length) } : Sg).turn ps i (σ.tk.getD i pt0) (p / σ.line.length)

/-- A slice of things that a task does, as it is read; Pb: the blocks that it lies in. -/
structure Dos (Pb : Nat → Prop) (w : World) (a : Option Addr) (n cap : Nat) (ds : List Dop) : Prop where
  len : ds.length = n
  le : n ≤ cap
  reach : cap ≤ 9223372036854775807
  i6 : ∀ d ∈ ds, I6 d.1 ∧ I6 d.2.1 ∧ I6 d.2.2
  lies : 0 < n → ∃ b off, Pb b ∧ a = some ⟨b, off, none⟩ ∧ ∀ i, i < n → w.cell? ⟨b, off + i * 3, none⟩ = some (.int .i64 (ds.getD i (0, 0, 0)).1) ∧ w.cell? ⟨b, off + i * 3 + 1, none⟩ = some (.int .i64 (ds.getD i (0, 0, 0)).2.1) ∧ w.cell? ⟨b, off + i * 3 + 2, none⟩ = some (.int .i64 (ds.getD i (0, 0, 0)).2.2)

/-- A slice of programs, as it is read. -/
structure Pgs (Pb : Nat → Prop) (w : World) (a : Option Addr) (n cap : Nat) (ps : List (List Dop)) : Prop where
  len : ps.length = n
  le : n ≤ cap
  reach : cap ≤ 9223372036854775807
  lies : 0 < n → ∃ b off, Pb b ∧ a = some ⟨b, off, none⟩ ∧ ∀ i, i < n → ∃ a' n' c', w.cell? ⟨b, off + i, none⟩ = some (.slice a' n' c') ∧ Dos Pb w a' n' c' (ps.getD i [])

section
variable {Pb S : Nat → Prop} {w w' : World} {a : Option Addr} {n cap : Nat}
theorem Dos.tb {ds : List Dop} (h : Dos Pb w a n cap ds) (hb : Tb S w w') (hs : ∀ k, Pb k → ¬ S k) : Dos Pb w' a n cap ds := by
  refine ⟨h.len, h.le, h.reach, h.i6, fun hn => ?_⟩
  obtain ⟨b, off, hP, ha, hc⟩ := h.lies hn
  refine ⟨b, off, hP, ha, fun i hi => ?_⟩
  obtain ⟨h1, h2, h3⟩ := hc i hi
  exact ⟨hb.cell h1 (hs b hP), hb.cell h2 (hs b hP), hb.cell h3 (hs b hP)⟩
theorem Pgs.tb {ps : List (List Dop)} (h : Pgs Pb w a n cap ps) (hb : Tb S w w') (hs : ∀ k, Pb k → ¬ S k) : Pgs Pb w' a n cap ps := by
  refine ⟨h.len, h.le, h.reach, fun hn => ?_⟩
  obtain ⟨b, off, hP, ha, hc⟩ := h.lies hn
  refine ⟨b, off, hP, ha, fun i hi => ?_⟩
  obtain ⟨a', n', c', h1, h2⟩ := hc i hi
  exact ⟨a', n', c', hb.cell h1 (hs b hP), h2.tb hb hs⟩
/-- The first few of them. -/
theorem Pgs.front {ps : List (List Dop)} (h : Pgs Pb w a n cap ps) {m : Nat} (hm : m ≤ n) : Pgs Pb w a m cap (ps.take m) := by
  have hl := h.len
  refine ⟨by simp; omega, by have := h.le; omega, h.reach, fun hn => ?_⟩
  obtain ⟨b, off, hP, ha, hc⟩ := h.lies (by omega)
  refine ⟨b, off, hP, ha, fun i hi => ?_⟩
  obtain ⟨a', n', c', h1, h2⟩ := hc i (by omega)
  refine ⟨a', n', c', h1, ?_⟩
  have : (ps.take m).getD i [] = ps.getD i [] := by simp [List.getD, hi]
  rw [this]
  exact h2
end

end Go.Proofs.Ytennciddjkijaaa

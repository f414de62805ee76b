/-
  Texts put into one.
-/
import Derived.Test.YtgjpbekmkhanhaaGreatMxf72b398e

/-
  Programs of tasks at channels as lists, and what a turn makes of them.
-/
namespace Go.Proofs.YtgjpbekmkhanhaaGreat.CH
open Go.RowKit QW
set_option maxRecDepth 100000

/-- What goes on with a task: which case, a value, whether. -/
abbrev Tld := Int × Int × Bool
def tv (d : Tld) : Value := .agg #[.int .i64 d.1, .int .i64 d.2.1, .bool d.2.2]

/-- A task: its place in its program, how it stands (0 over, 1 ready, 2 running, 3 waiting), what it is told, whether it waits to receive. -/
structure Pt where
  at' : Nat
  st : Nat
  td : Tld
  rc : Bool

structure Cz where
  sz : Nat
  cl : Bool
  buf : List Int
  snd : List (Nat × Int)
  rcv : List Nat

structure Sg where
  tk : List Pt
  ch : List Cz
  line : List Int
  ev : List (Nat × Nat × Tld)

def pt0 : Pt := ⟨0, 0, (0, 0, false), false⟩
def cz0 : Cz := ⟨0, true, [], [], []⟩
def Cz.wts (c : Cz) : List Nat := c.snd.map Prod.fst ++ c.rcv
def Cz.canS (c : Cz) : Bool := c.cl || decide (c.buf.length < c.sz) || !c.rcv.isEmpty
def Cz.canR (c : Cz) : Bool := c.cl || decide (0 < c.buf.length) || !c.snd.isEmpty
def Sg.wts (σ : Sg) : List Nat := σ.ch.flatMap Cz.wts
def Sg.c (σ : Sg) (j : Nat) : Cz := σ.ch.getD j cz0
def Sg.setc (σ : Sg) (j : Nat) (c : Cz) : Sg := { σ with ch := σ.ch.set j c }
def Sg.p (σ : Sg) (i : Nat) : Pt := σ.tk.getD i pt0
def Sg.put (σ : Sg) (i : Nat) (p : Pt) : Sg := { σ with tk := σ.tk.set i p }
def Sg.gets (σ : Sg) (i : Nat) (d : Tld) : Sg := { σ with tk := σ.tk.set i { σ.p i with st := 1, td := d }, line := σ.line ++ [(i : Int)] }
def Sg.note (σ : Sg) (i : Nat) : Sg := { σ with ev := σ.ev ++ [(i, (σ.p i).at', (σ.p i).td)] }

/-- A value is sent, received, now. -/
def Sg.send (σ : Sg) (j : Nat) (v : Int) : Bool × Sg :=
  if (σ.c j).cl then (false, σ) else
    match (σ.c j).rcv with
    | i :: r => (true, (σ.setc j { σ.c j with rcv := r }).gets i (0, v, true))
    | [] => (true, σ.setc j { σ.c j with buf := (σ.c j).buf ++ [v] })
def Sg.recv (σ : Sg) (j : Nat) : Int × Bool × Sg :=
  match (σ.c j).snd with
  | (i, x) :: r => (((σ.c j).buf ++ [x]).headD 0, true, (σ.setc j { σ.c j with buf := ((σ.c j).buf ++ [x]).tail, snd := r }).gets i (0, 0, true))
  | [] => ((σ.c j).buf.headD 0, !(σ.c j).buf.isEmpty, σ.setc j { σ.c j with buf := (σ.c j).buf.tail })
/-- All who wait are told that nothing comes. -/
def Sg.tells (σ : Sg) : List Nat → Sg
  | [] => σ
  | i :: r => (σ.gets i (0, 0, false)).tells r
def Sg.close (σ : Sg) (j : Nat) : Bool × Sg :=
  if (σ.c j).cl then (false, σ) else (true, (σ.setc j { σ.c j with cl := true, snd := [], rcv := [] }).tells ((σ.c j).rcv ++ (σ.c j).snd.map Prod.fst))
/-- It waits to send, to receive. -/
def Sg.waitS (σ : Sg) (i j : Nat) (v : Int) : Sg := (σ.setc j { σ.c j with snd := (σ.c j).snd ++ [(i, v)] }).put i { σ.p i with st := 3, rc := false }
def Sg.waitR (σ : Sg) (i j : Nat) : Sg := (σ.setc j { σ.c j with rcv := (σ.c j).rcv ++ [i] }).put i { σ.p i with st := 3, rc := true }

/-- What a task does: its kind, its channel, its number. -/
structure Dop where
  kind : Int
  c : Int
  v : Int

def Sg.acts (σ : Sg) (i : Nat) (d : Dop) : Sg :=
  if d.kind = 1 then σ.gets i (0, 0, false)
  else if d.kind = 2 then (if (σ.c d.c.toNat).canS then (σ.send d.c.toNat d.v).2.gets i (0, 0, (σ.send d.c.toNat d.v).1) else σ.waitS i d.c.toNat d.v)
  else if d.kind = 3 then (if (σ.c d.c.toNat).canR then (σ.recv d.c.toNat).2.2.gets i (0, (σ.recv d.c.toNat).1, (σ.recv d.c.toNat).2.1) else σ.waitR i d.c.toNat)
  else if d.kind = 4 then (σ.close d.c.toNat).2.gets i (0, 0, (σ.close d.c.toNat).1)
  else if d.kind = 6 then (if (σ.c d.c.toNat).canS then (σ.send d.c.toNat d.v).2.gets i (0, 0, (σ.send d.c.toNat d.v).1) else σ.gets i (0, 0, false))
  else if d.kind = 7 then (if (σ.c d.c.toNat).canR then (σ.recv d.c.toNat).2.2.gets i (0, (σ.recv d.c.toNat).1, (σ.recv d.c.toNat).2.1) else σ.gets i (1, 0, false))
  else σ

/-- A turn is over: who has said nothing is over. -/
def Sg.fin (σ : Sg) (i : Nat) : Sg := if (σ.p i).st = 2 then σ.put i { σ.p i with st := 0 } else σ
def Sg.turn (σ : Sg) (i : Nat) (d : Dop) : Sg := (((σ.note i).put i ⟨(σ.p i).at' + 1, 2, (σ.p i).td, false⟩).acts i d).fin i

/-- What may be: who waits waits once, and stands so. -/
structure Sok (σ : Sg) : Prop where
  nd : σ.wts.Nodup
  sn : ∀ (j : Nat) (c : Cz), σ.ch[j]? = some c → ∀ x ∈ c.snd, (σ.p x.1).st = 3 ∧ (σ.p x.1).rc = false ∧ x.1 < σ.tk.length
  rc : ∀ (j : Nat) (c : Cz), σ.ch[j]? = some c → ∀ x ∈ c.rcv, (σ.p x).st = 3 ∧ (σ.p x).rc = true ∧ x < σ.tk.length
  bf : ∀ (j : Nat) (c : Cz), σ.ch[j]? = some c → c.buf.length ≤ c.sz ∧ c.sz ≤ 64

section
variable {σ : Sg} {i j : Nat} {c d : Cz} {p : Pt}
theorem c_of (h : σ.ch[j]? = some c) : σ.c j = c := by simp [Sg.c, List.getD, h]
theorem p_of (h : σ.tk[i]? = some p) : σ.p i = p := by simp [Sg.p, List.getD, h]
theorem of_c (h : j < σ.ch.length) : σ.ch[j]? = some (σ.c j) := by simp [Sg.c, List.getD, List.getElem?_eq_getElem h]
theorem of_p (h : i < σ.tk.length) : σ.tk[i]? = some (σ.p i) := by simp [Sg.p, List.getD, List.getElem?_eq_getElem h]
theorem setc_get (h : σ.ch[j]? = some c) (d : Cz) (k : Nat) : (σ.setc j d).ch[k]? = if k = j then some d else σ.ch[k]? := by
  have hl : j < σ.ch.length := (List.getElem?_eq_some_iff.1 h).1
  simp only [Sg.setc, List.getElem?_set]
  by_cases e : j = k
  · subst e
    simp [hl]
  · rw [if_neg e, if_neg (fun h => e h.symm)]
theorem put_get (h : σ.tk[i]? = some p) (q : Pt) (k : Nat) : (σ.put i q).tk[k]? = if k = i then some q else σ.tk[k]? := by
  have hl : i < σ.tk.length := (List.getElem?_eq_some_iff.1 h).1
  simp only [Sg.put, List.getElem?_set]
  by_cases e : i = k
  · subst e
    simp [hl]
  · rw [if_neg e, if_neg (fun h => e h.symm)]
theorem gets_get (h : σ.tk[i]? = some p) (d : Tld) (k : Nat) : (σ.gets i d).tk[k]? = if k = i then some { p with st := 1, td := d } else σ.tk[k]? := by
  have hl : i < σ.tk.length := (List.getElem?_eq_some_iff.1 h).1
  simp only [Sg.gets, List.getElem?_set, p_of h]
  by_cases e : i = k
  · subst e
    simp [hl]
  · rw [if_neg e, if_neg (fun h => e h.symm)]
/-- A list of lists in which one is turned. -/
theorem flat_set {α β : Type} {l : List α} {f : α → List β} {j : Nat} {c d : α} (h : l[j]? = some c) : ∃ u v, l.flatMap f = u ++ f c ++ v ∧ (l.set j d).flatMap f = u ++ f d ++ v := by
  induction l generalizing j with
  | nil => simp at h
  | cons x l ih =>
    cases j with
    | zero =>
      simp only [List.getElem?_cons_zero, Option.some.injEq] at h
      subst h
      exact ⟨[], l.flatMap f, by simp, by simp⟩
    | succ j =>
      simp only [List.getElem?_cons_succ] at h
      obtain ⟨u, v, h1, h2⟩ := ih h
      exact ⟨f x ++ u, v, by simp [h1], by simp [h2]⟩
theorem mem_wts {x : Nat} : x ∈ σ.wts ↔ ∃ (j : Nat) (c : Cz), σ.ch[j]? = some c ∧ x ∈ c.wts := by
  simp only [Sg.wts, List.mem_flatMap]
  constructor
  · rintro ⟨c, hc, hx⟩
    obtain ⟨j, hj⟩ := List.getElem?_of_mem hc
    exact ⟨j, c, hj, hx⟩
  · rintro ⟨j, c, hj, hx⟩
    exact ⟨c, List.mem_of_getElem? hj, hx⟩
theorem Sok.st3 (h : Sok σ) {x : Nat} (hx : x ∈ σ.wts) : (σ.p x).st = 3 ∧ x < σ.tk.length := by
  obtain ⟨j, c, hj, hx⟩ := mem_wts.1 hx
  rcases List.mem_append.1 hx with hx | hx
  · obtain ⟨y, hy, rfl⟩ := List.mem_map.1 hx
    exact ⟨(h.sn j c hj y hy).1, (h.sn j c hj y hy).2.2⟩
  · exact ⟨(h.rc j c hj x hx).1, (h.rc j c hj x hx).2.2⟩
/-- A channel is turned, nobody new waits in it. -/
theorem Sok.setc (h : Sok σ) (hc : σ.ch[j]? = some c) (hs : d.snd.Sublist c.snd) (hr : d.rcv.Sublist c.rcv) (hb : d.buf.length ≤ d.sz) (hz : d.sz = c.sz) : Sok (σ.setc j d) := by
  obtain ⟨u, v, e1, e2⟩ := flat_set (f := Cz.wts) (d := d) hc
  have hw : d.wts.Sublist c.wts := (hs.map Prod.fst).append hr
  refine ⟨?_, fun k e hk x hx => ?_, fun k e hk x hx => ?_, fun k e hk => ?_⟩
  · have h1 := h.nd
    unfold Sg.wts at h1 ⊢
    rw [e1] at h1
    show (List.flatMap Cz.wts (σ.ch.set j d)).Nodup
    rw [e2]
    exact h1.sublist (((List.Sublist.refl u).append hw).append (List.Sublist.refl v))
  · rw [setc_get hc] at hk
    by_cases e' : k = j
    · rw [if_pos e'] at hk
      cases hk
      exact h.sn j c hc x (hs.subset hx)
    · rw [if_neg e'] at hk
      exact h.sn k e hk x hx
  · rw [setc_get hc] at hk
    by_cases e' : k = j
    · rw [if_pos e'] at hk
      cases hk
      exact h.rc j c hc x (hr.subset hx)
    · rw [if_neg e'] at hk
      exact h.rc k e hk x hx
  · rw [setc_get hc] at hk
    by_cases e' : k = j
    · rw [if_pos e'] at hk
      cases hk
      exact ⟨hb, by rw [hz]; exact (h.bf j c hc).2⟩
    · rw [if_neg e'] at hk
      exact h.bf k e hk
/-- A task that does not wait is turned. -/
theorem Sok.puts (h : Sok σ) (hn : i ∉ σ.wts) {τ : Sg} (ht : τ.ch = σ.ch) (hl : τ.tk.length = σ.tk.length) (hp : ∀ k, k ≠ i → τ.p k = σ.p k) : Sok τ := by
  have e : τ.wts = σ.wts := by unfold Sg.wts; rw [ht]
  refine ⟨by rw [e]; exact h.nd, fun k e hk x hx => ?_, fun k e hk x hx => ?_, fun k e hk => h.bf k e (ht ▸ hk)⟩
  · rw [ht] at hk
    have h1 := h.sn k e hk x hx
    have hne : x.1 ≠ i := fun e' => hn (e' ▸ mem_wts.2 ⟨k, e, hk, List.mem_append_left _ (List.mem_map_of_mem hx)⟩)
    rw [hp _ hne, hl]
    exact h1
  · rw [ht] at hk
    have h1 := h.rc k e hk x hx
    have hne : x ≠ i := fun e' => hn (e' ▸ mem_wts.2 ⟨k, e, hk, List.mem_append_right _ hx⟩)
    rw [hp _ hne, hl]
    exact h1
theorem gets_p (hi : i < σ.tk.length) (d : Tld) (k : Nat) (hk : k ≠ i) : (σ.gets i d).p k = σ.p k := by
  have := gets_get (of_p hi) d k
  rw [if_neg hk] at this
  simp [Sg.p, List.getD, this]
theorem Sok.gets (h : Sok σ) (hn : i ∉ σ.wts) (d : Tld) (hi : i < σ.tk.length) : Sok (σ.gets i d) := h.puts hn rfl (by simp [Sg.gets]) (fun k hk => gets_p hi d k hk)
end

end Go.Proofs.YtgjpbekmkhanhaaGreat.CH

/-
  The law's world in memory: a runtime, channels, programs, tasks, events; which block is whose.
-/
namespace Go.Proofs.YtgjpbekmkhanhaaGreat.CH
open Go.RowKit QW
set_option maxRecDepth 100000

/-- Whose a block is: the runtime's, its line's, the world's own, of its rows, of a channel, of nobody who turns it, of a task that waits. -/
inductive Lab where
  | rt : Lab
  | q : Lab
  | b : Lab
  | ev : Lab
  | cv : Lab
  | tv : Lab
  | ch : Nat → Lab
  | fz : Lab
  | pk : Nat → Lab

abbrev Lb := Nat → Option Lab

/-- The blocks of a label are others now. -/
noncomputable def relab (lab : Lb) (l : Lab) (D : Nat → Prop) : Lb := fun k => @ite _ (D k) (Classical.propDecidable _) (some l) (@ite _ (lab k = some l) (Classical.propDecidable _) none (lab k))

section
variable {lab : Lb} {l l' : Lab} {D : Nat → Prop} {k : Nat}
theorem relab_same : relab lab l D k = some l ↔ D k := by
  unfold relab
  by_cases h : D k
  · simp [h]
  · rw [if_neg h]
    by_cases h2 : lab k = some l
    · rw [if_pos h2]
      simp [h]
    · rw [if_neg h2]
      simp [h, h2]
theorem relab_other (hD : ∀ k, D k → lab k = some l ∨ lab k = none) (hl : l' ≠ l) : relab lab l D k = some l' ↔ lab k = some l' := by
  unfold relab
  by_cases h : D k
  · rw [if_pos h]
    rcases hD k h with e | e
    · rw [e]
    · rw [e]
      constructor
      · intro e'
        exact absurd (Option.some.inj e').symm hl
      · intro e'
        cases e'
  · rw [if_neg h]
    by_cases h2 : lab k = some l
    · rw [if_pos h2, h2]
      constructor
      · intro e'
        cases e'
      · intro e'
        exact absurd (Option.some.inj e').symm hl
    · rw [if_neg h2]
end

/-- Where what a task waits with lies. -/
structure Pkr where
  k : Nat
  sv : Nat
  tb : Nat
  ub : Nat
  th : Nat
  f : Value

/-- A channel as it stands in memory. -/
def mem (K : Nat → Pkr) (c : Cz) : Cs := ⟨c.cl, c.buf, c.snd.map fun x => pkw (K x.1).k x.2 (K x.1).th (K x.1).sv, c.rcv.map fun i => pkw (K i).k 0 (K i).th (K i).sv⟩

def evc (e : Nat × Nat × Tld) : List Value := [.int .i64 e.1, .int .i64 e.2.1, .int .i64 e.2.2.1, .int .i64 e.2.2.2.1, .bool e.2.2.2.2]
def targs (B b i at' : Nat) (td : Tld) : Array Value := #[.pointer (some ⟨B, 0, none⟩), .pointer (some ⟨b, 0, none⟩), .int .i64 i, .int .i64 at', tv td]
/-- What a turn does. -/
def QT (B b i at' : Nat) (td : Tld) (V : World) (Ψ : World → Prop) : Prop := ∀ V' : World, Below V.heap.size V V' → Calls Tryz.prog 56 (targs B b i at' td) V' fun e w' => e = .returned (.tuple #[]) ∧ Ψ w'

def Fz (lab : Lb) (k : Nat) : Prop := lab k = some .fz

/-- How a task stands, in memory. -/
structure Tst (lab : Lb) (w : World) (A : Nat → Bool) (B : Nat) (run : Option Nat) (i : Nat) (t : Tc) (p : Pt) (r : Pkr) : Prop where
  le : p.st ≤ 3
  r1 : p.st = 1 → Go0 (Fz lab) w t.nx (QT B t.b i p.at' p.td) ∧ t.wk = .nilFunc
  r3 : p.st = 3 → t.nx = .nilFunc ∧ t.wk = pkv r.sv r.tb r.ub ∧ Pkd w r.k r.sv r.tb r.ub r.th t.b r.f ∧ Go2 (Fz lab) w r.f (fun v ok => QT B t.b i p.at' (0, if p.rc then v else 0, ok)) ∧ lab r.k = some (.pk i) ∧ lab r.sv = some (.pk i) ∧ lab r.tb = some .fz ∧ lab r.ub = some .fz ∧ lab r.th = some .fz ∧ A r.k = true
  r2 : p.st = 2 → run = some i ∧ t.nx = .nilFunc ∧ t.wk = .nilFunc
  r0 : p.st = 0 → run ≠ some i ∧ t.nx = .nilFunc ∧ t.wk = .nilFunc

/-- The law's world. -/
structure Wm (w : World) (L B : Nat) (pv cv tvv ev : Value) (a : Ad) (s : Rs) (A : Nat → Bool) (zs : List Zc) (m : Nat) (K : Nat → Pkr) (σ : Sg) (lab : Lb) : Prop where
  blk : w.heap[B]? = some (.cells #[.pointer (some ⟨a.R, 0, none⟩), pv, cv, tvv, ev, .bool false] (36 : TypeId) (0, 0))
  rt : Rt w a s
  cr : w.ownsRow L (48 : TypeId) 1 cv zs.length (zs.map fun z => .pointer (some ⟨z.C, 0, none⟩))
  tr : w.ownsRow L (60 : TypeId) 1 tvv s.ts.length (s.ts.map fun t => .pointer (some ⟨t.b, 0, none⟩))
  er : w.ownsRow L (113 : TypeId) 5 ev σ.ev.length (σ.ev.flatMap evc)
  lr : ∀ k, own a s k → lab k = some .rt
  lq : lab a.Q = some .q
  lb : lab B = some .b
  le : ∀ k, ev.ownBlock = some k → lab k = some .ev
  lc : ∀ k, cv.ownBlock = some k → lab k = some .cv
  lt : ∀ k, tvv.ownBlock = some k → lab k = some .tv
  lo : ∀ k l, lab k = some l → L ≤ k ∧ k < w.heap.size
  ch : ∀ (j : Nat) (z : Zc) (c : Cz), zs[j]? = some z → σ.ch[j]? = some c → z.rt = a.R ∧ z.size = c.sz ∧ Ch w A z m (mem K c) (fun k => lab k = some (.ch j))
  cn : zs.length = σ.ch.length
  ha : ∀ k, w.heap.size ≤ k → A k = true
  ln : s.line = σ.line
  len : s.ts.length = σ.tk.length
  cl : ∀ i t p, s.ts[i]? = some t → σ.tk[i]? = some p → Tst lab w A B s.run i t p (K i)
  ok : Sok σ

/-- What calls on the law's world leave. -/
structure Wy (w : World) (lab : Lb) (w' : World) (lab' : Lb) : Prop where
  tb : Tb (fun k => lab k ≠ none) w w'
  dm : ∀ k, lab' k ≠ none → lab k ≠ none ∨ w.heap.size ≤ k
  fz : ∀ k, lab k = some .fz → lab' k = some .fz ∧ w'.heap[k]? = w.heap[k]?

section
variable {w w' w'' : World} {lab lab' lab'' : Lb}
theorem Wy.trans (h : Wy w lab w' lab') (k : Wy w' lab' w'' lab'') : Wy w lab w'' lab'' := by
  have hz := h.tb.size
  refine ⟨h.tb.trans k.tb (fun i hi hT => (h.dm i hT).elim id (fun h' => by omega)), fun i hi => ?_, fun i hi => ⟨(k.fz i (h.fz i hi).1).1, (k.fz i (h.fz i hi).1).2.trans (h.fz i hi).2⟩⟩
  rcases k.dm i hi with h1 | h1
  · exact h.dm i h1
  · exact .inr (by omega)
theorem Wy.agr (h : Wy w lab w' lab') : Agr (Fz lab) w w' := fun k hk => (h.fz k hk).2
theorem Wy.sub (h : Wy w lab w' lab') : ∀ k, Fz lab k → Fz lab' k := fun k hk => (h.fz k hk).1
end

section
variable {w w' : World} {L B : Nat} {pv cv tvv ev : Value} {a : Ad} {s : Rs} {A A' : Nat → Bool} {zs : List Zc} {m m' : Nat} {K K' : Nat → Pkr} {σ : Sg} {lab lab' : Lb} {S : Nat → Prop} {T : Lab → Prop}

theorem Tst.keep {run : Option Nat} {i : Nat} {t : Tc} {p : Pt} {r : Pkr} (h : Tst lab w A B run i t p r) (ha : Agr (Fz lab) w w') (hs : ∀ k, Fz lab k → Fz lab' k) (hp : ∀ k, lab k = some (.pk i) → lab' k = some (.pk i) ∧ w'.heap[k]? = w.heap[k]? ∧ A' k = A k) (_hlt : ∀ k l, lab k = some l → k < w.heap.size) : Tst lab' w' A' B run i t p r := by
  refine ⟨h.le, fun e => ⟨(h.r1 e).1.keep ha hs, (h.r1 e).2⟩, fun e => ?_, h.r2, h.r0⟩
  obtain ⟨h1, h2, h3, h4, h5, h6, h7, h8, h9, h10⟩ := h.r3 e
  refine ⟨h1, h2, ⟨?_, (hp _ h6).2.1.trans h3.hs, (ha _ h7).trans h3.ht, (ha _ h8).trans h3.hu, (ha _ h9).trans h3.hh⟩, h4.keep ha hs, (hp _ h5).1, (hp _ h6).1, hs _ h7, hs _ h8, hs _ h9, by rw [(hp _ h5).2.2]; exact h10⟩
  have := h3.hk
  unfold Tkt at this ⊢
  exact (hp _ h5).2.1.trans this
theorem Ch.iff {z : Zc} {c : Cs} {D D' : Nat → Prop} (h : Ch w A z m c D) (hd : ∀ k, D' k ↔ D k) : Ch w A z m c D' := by
  obtain ⟨BG, DS, DR, cm, hc⟩ := h
  exact ⟨BG, DS, DR, cm, fun k => (hd k).trans (hc k)⟩
theorem Ch.mono {z : Zc} {c : Cs} {D : Nat → Prop} (h : Ch w A z m c D) (hm : m ≤ m') : Ch w A z m' c D := by
  obtain ⟨BG, DS, DR, cm, hc⟩ := h
  exact ⟨BG, DS, DR, ⟨cm.obj, cm.bq, cm.sl.mono hm, cm.rl.mono hm, cm.ap, cm.sz, cm.bf⟩, hc⟩

/-- Where only blocks of some labels were turned. -/
structure Fr (w : World) (lab : Lb) (T : Lab → Prop) (w' : World) (lab' : Lb) : Prop where
  tb : Tb (fun k => ∃ l, lab k = some l ∧ T l) w w'
  nf : ¬ T .fz
  eq : ∀ k l, ¬ T l → l ≠ .fz → (lab' k = some l ↔ lab k = some l)
  fz : ∀ k, lab k = some .fz → lab' k = some .fz
  fw : ∀ k, lab' k = some .fz → lab k = some .fz ∨ (∃ l, lab k = some l ∧ T l) ∨ w.heap.size ≤ k
  nw : ∀ k l, T l → lab' k = some l → (∃ l', lab k = some l' ∧ T l') ∨ w.heap.size ≤ k

theorem Fr.blk (f : Fr w lab T w' lab') (hlt : ∀ k l, lab k = some l → k < w.heap.size) {k : Nat} {l : Lab} (hk : lab k = some l) (hT : ¬ T l) : w'.heap[k]? = w.heap[k]? := by
  refine f.tb.block k (hlt k l hk) ?_
  rintro ⟨l', h1, h2⟩
  rw [hk] at h1
  cases h1
  exact hT h2
theorem Fr.wy (f : Fr w lab T w' lab') (hlt : ∀ k l, lab k = some l → k < w.heap.size) : Wy w lab w' lab' := by
  refine ⟨f.tb.mono (fun k _ h => by obtain ⟨l, h1, _⟩ := h; rw [h1]; simp), fun k hk => ?_, fun k hk => ⟨f.fz k hk, f.blk hlt hk f.nf⟩⟩
  obtain ⟨l, hl⟩ := Option.ne_none_iff_exists'.1 hk
  by_cases hT : T l
  · rcases f.nw k l hT hl with ⟨l', h1, _⟩ | h1
    · exact .inl (by rw [h1]; simp)
    · exact .inr h1
  · by_cases hz : l = .fz
    · subst hz
      rcases f.fw k hl with h1 | ⟨l', h1, _⟩ | h1
      · exact .inl (by rw [h1]; simp)
      · exact .inl (by rw [h1]; simp)
      · exact .inr h1
    · exact .inl (by rw [(f.eq k l hT hz).1 hl]; simp)

theorem Wm.lt' (h : Wm w L B pv cv tvv ev a s A zs m K σ lab) : ∀ k l, lab k = some l → k < w.heap.size := fun k l hk => (h.lo k l hk).2
theorem Wm.notk (h : Wm w L B pv cv tvv ev a s A zs m K σ lab) {k : Nat} {f : Value} (ht : Tkt w k f) : lab k ≠ some .rt ∨ ¬ own a s k := by
  refine .inr (fun ho => ?_)
  have h1 := own_ty h.rt.m ho ht
  revert h1
  decide
/-- A channel where only other labels were turned. -/
theorem Wm.chK (h : Wm w L B pv cv tvv ev a s A zs m K σ lab) (f : Fr w lab T w' lab') {j : Nat} {z : Zc} {c : Cz} (hz : zs[j]? = some z) (hc : σ.ch[j]? = some c) (hT : ¬ T (.ch j)) (hk : Kv w A w' A') (hal : ∀ i, i ∈ c.wts → A' (K i).k = true) (hK : ∀ i, i ∈ c.wts → K' i = K i) (hm : m ≤ m') : Ch w' A' z m' (mem K' c) (fun k => lab' k = some (.ch j)) := by
  obtain ⟨_, _, hch⟩ := h.ch j z c hz hc
  have h1 := hch.keep f.tb (fun k hk e => by
    obtain ⟨l, e1, e2⟩ := e
    rw [hk] at e1
    cases e1
    exact hT e2) hk
  have e1 : (mem K c).snd.filter (al A') = (mem K' c).snd := by
    have : (mem K c).snd = (mem K' c).snd := List.map_congr_left (fun x hx => by rw [hK x.1 (List.mem_append_left _ (List.mem_map_of_mem hx))])
    rw [← this]
    refine List.filter_eq_self.2 (fun x hx => ?_)
    obtain ⟨y, hy, rfl⟩ := List.mem_map.1 hx
    exact hal y.1 (List.mem_append_left _ (List.mem_map_of_mem hy))
  have e2 : (mem K c).rcv.filter (al A') = (mem K' c).rcv := by
    have : (mem K c).rcv = (mem K' c).rcv := List.map_congr_left (fun x hx => by rw [hK x (List.mem_append_right _ hx)])
    rw [← this]
    refine List.filter_eq_self.2 (fun x hx => ?_)
    obtain ⟨y, hy, rfl⟩ := List.mem_map.1 hx
    exact hal y (List.mem_append_right _ hy)
  rw [e1, e2] at h1
  exact (h1.iff (fun k => f.eq k _ hT (by simp))).mono hm
/-- Who waits has a ticket that is to fire. -/
theorem Wm.waits (h : Wm w L B pv cv tvv ev a s A zs m K σ lab) {i : Nat} (hi : i ∈ σ.wts) : ∃ t p, s.ts[i]? = some t ∧ σ.tk[i]? = some p ∧ p.st = 3 ∧ A (K i).k = true := by
  obtain ⟨h3, hl⟩ := h.ok.st3 hi
  have hp := of_p hl
  have hl2 : i < s.ts.length := by rw [h.len]; exact hl
  have ht : s.ts[i]? = some s.ts[i] := List.getElem?_eq_getElem hl2
  have hst := h.cl i _ _ ht hp
  exact ⟨_, _, ht, hp, h3, (hst.r3 h3).2.2.2.2.2.2.2.2.2⟩
end

end Go.Proofs.YtgjpbekmkhanhaaGreat.CH

/-
  The law's world: what stays where some labels' blocks were turned; a task yields; a channel is turned; boxes are made.
-/
namespace Go.Proofs.YtgjpbekmkhanhaaGreat.CH
open Go.RowKit QW
set_option maxRecDepth 100000

section
variable {w w' : World} {L B : Nat} {pv cv tvv ev : Value} {a a' : Ad} {s s' : Rs} {A A' : Nat → Bool} {zs : List Zc} {m m' : Nat} {K K' : Nat → Pkr} {σ σ' : Sg} {lab lab' : Lb} {S : Nat → Prop} {T : Lab → Prop}

/-- The world's parts put together again. -/
theorem Wm.build (h : Wm w L B pv cv tvv ev a s A zs m K σ lab) (f : Fr w lab T w' lab') (hL : L ≤ w.heap.size) (hTb : ¬ T .b) (hTq : ¬ T .q) (hTe : ¬ T .ev) (hTc : ¬ T .cv) (hTt : ¬ T .tv) (hlt : ∀ k l, lab' k = some l → k < w'.heap.size)
    (rt' : Rt w' a' s') (eR : a'.R = a.R) (eQ : a'.Q = a.Q) (eT : s'.ts.map Tc.b = s.ts.map Tc.b) (lr' : ∀ k, own a' s' k → lab' k = some .rt) (ev' : σ'.ev = σ.ev)
    (ch' : ∀ (j : Nat) (z : Zc) (c : Cz), zs[j]? = some z → σ'.ch[j]? = some c → z.rt = a.R ∧ z.size = c.sz ∧ Ch w' A' z m' (mem K' c) (fun k => lab' k = some (.ch j))) (cn' : σ'.ch.length = σ.ch.length)
    (ha' : ∀ k, w'.heap.size ≤ k → A' k = true) (ln' : s'.line = σ'.line) (len' : σ'.tk.length = σ.tk.length)
    (cl' : ∀ i t p, s'.ts[i]? = some t → σ'.tk[i]? = some p → Tst lab' w' A' B s'.run i t p (K' i)) (ok' : Sok σ') : Wm w' L B pv cv tvv ev a' s' A' zs m' K' σ' lab' := by
  have hlen : s'.ts.length = s.ts.length := by
    have := congrArg List.length eT
    simpa using this
  have row : ∀ {e : TypeId} {size n : Nat} {v : Value} {xs : List Value} {l : Lab}, w.ownsRow L e size v n xs → (∀ k, v.ownBlock = some k → lab k = some l) → ¬ T l → w'.ownsRow L e size v n xs := fun hr hl hT => row_tb hr f.tb (fun g hg e => by
    obtain ⟨l', e1, e2⟩ := e
    rw [hl g hg] at e1
    cases e1
    exact hT e2)
  refine ⟨?_, rt', row h.cr h.lc hTc, ?_, by rw [ev']; exact row h.er h.le hTe, lr', by rw [eQ]; exact (f.eq _ _ hTq (by simp)).2 h.lq, (f.eq _ _ hTb (by simp)).2 h.lb, fun k hk => (f.eq _ _ hTe (by simp)).2 (h.le k hk), fun k hk => (f.eq _ _ hTc (by simp)).2 (h.lc k hk), fun k hk => (f.eq _ _ hTt (by simp)).2 (h.lt k hk), fun k l hk => ⟨?_, hlt k l hk⟩, fun j z c hz hc => by rw [eR]; exact ch' j z c hz hc, by rw [cn']; exact h.cn, ha', ln', by rw [hlen, len']; exact h.len, cl', ok'⟩
  · rw [f.blk h.lt' h.lb hTb, eR]
    exact h.blk
  · have e1 : (s'.ts.map fun t => Value.pointer (some ⟨t.b, 0, none⟩)) = s.ts.map fun t => Value.pointer (some ⟨t.b, 0, none⟩) := by
      have := congrArg (List.map fun b => Value.pointer (some ⟨b, 0, none⟩)) eT
      rw [List.map_map, List.map_map] at this
      exact this
    rw [e1, hlen]
    exact row h.tr h.lt hTt
  · rcases (f.wy h.lt').dm k (by rw [hk]; simp) with h1 | h1
    · obtain ⟨l', hl'⟩ := Option.ne_none_iff_exists'.1 h1
      exact (h.lo k l' hl').1
    · omega

theorem Wm.fresh (h : Wm w L B pv cv tvv ev a s A zs m K σ lab) {k : Nat} (hk : w.heap.size ≤ k) : lab k = none := by
  cases e : lab k with
  | none => rfl
  | some l => have := h.lt' k l e; omega
theorem Fr.rt (h : Wm w L B pv cv tvv ev a s A zs m K σ lab) (ho : ∀ k, own a' s' k → own a s k ∨ w.heap.size ≤ k) (t : Tb (own a s) w w') : Fr w lab (fun l => l = .rt) w' (relab lab .rt (own a' s')) := by
  have hD : ∀ k, own a' s' k → lab k = some .rt ∨ lab k = none := fun k hk => (ho k hk).imp (h.lr k) h.fresh
  refine ⟨t.mono (fun k _ hk => ⟨_, h.lr k hk, rfl⟩), (fun e => by cases e), fun k l hT _ => relab_other hD hT, fun k hk => (relab_other hD (by simp)).2 hk, fun k hk => .inl ((relab_other hD (by simp)).1 hk), fun k l hT hk => ?_⟩
  subst hT
  exact (ho k (relab_same.1 hk)).imp (fun h1 => ⟨_, h.lr k h1, rfl⟩) id
theorem Fr.chan (h : Wm w L B pv cv tvv ev a s A zs m K σ lab) {j : Nat} {D : Nat → Prop} (x : Lx w (fun k => lab k = some (.ch j)) w' D) : Fr w lab (fun l => l = .ch j) w' (relab lab (.ch j) D) := by
  have hD : ∀ k, D k → lab k = some (.ch j) ∨ lab k = none := fun k hk => (x.dom k hk).imp id h.fresh
  refine ⟨x.tb.mono (fun k _ hk => ⟨_, hk, rfl⟩), (fun e => by cases e), fun k l hT _ => relab_other hD hT, fun k hk => (relab_other hD (by simp)).2 hk, fun k hk => .inl ((relab_other hD (by simp)).1 hk), fun k l hT hk => ?_⟩
  subst hT
  exact (x.dom k (relab_same.1 hk)).imp (fun h1 => ⟨_, h1, rfl⟩) id
theorem Fr.boxes (h : Wm w L B pv cv tvv ev a s A zs m K σ lab) (hb : Below w.heap.size w w') {N : Nat → Prop} (hN : ∀ k, N k → w.heap.size ≤ k) : Fr w lab (fun _ => False) w' (relab lab .fz (fun k => lab k = some .fz ∨ N k)) := by
  have hD : ∀ k, (lab k = some .fz ∨ N k) → lab k = some .fz ∨ lab k = none := fun k hk => hk.imp id (fun h1 => h.fresh (hN k h1))
  refine ⟨Tb.of_fresh hb, fun e => e, fun k l _ hl => relab_other hD hl, fun k hk => relab_same.2 (.inl hk), fun k hk => (relab_same.1 hk).imp id (fun h1 => .inr (hN k h1)), fun _ _ hT => hT.elim⟩

/-- New boxes that nobody turns. -/
theorem Wm.boxes (h : Wm w L B pv cv tvv ev a s A zs m K σ lab) (hL : L ≤ w.heap.size) (hb : Below w.heap.size w w') {N : Nat → Prop} (hN : ∀ k, N k → w.heap.size ≤ k ∧ k < w'.heap.size) :
    Wm w' L B pv cv tvv ev a s A zs m K σ (relab lab .fz (fun k => lab k = some .fz ∨ N k)) ∧ Wy w lab w' (relab lab .fz (fun k => lab k = some .fz ∨ N k)) := by
  have f := Fr.boxes h hb (fun k hk => (hN k hk).1)
  have hz := hb.size
  refine ⟨h.build f hL id id id id id (fun k l hk => ?_) (h.rt.below hb) rfl rfl rfl (fun k hk => (f.eq k _ id (by simp)).2 (h.lr k hk)) rfl (fun j z c hz hc => ⟨(h.ch j z c hz hc).1, (h.ch j z c hz hc).2.1, h.chK f hz hc id (Kv.below A hb) (fun i hi => ?_) (fun _ _ => rfl) (Nat.le_refl _)⟩) rfl (fun k hk => h.ha k (by omega)) h.ln rfl (fun i t p ht hp => (h.cl i t p ht hp).keep (f.wy h.lt').agr (f.wy h.lt').sub (fun k hk => ⟨(f.eq k _ id (by simp)).2 hk, f.blk h.lt' hk id, rfl⟩) h.lt') h.ok, f.wy h.lt'⟩
  · by_cases hl : l = .fz
    · subst hl
      rcases relab_same.1 hk with h1 | h1
      · have := h.lt' k _ h1; omega
      · exact (hN k h1).2
    · have := h.lt' k l ((f.eq k l id hl).1 hk); omega
  · obtain ⟨t, p, _, _, _, h4⟩ := h.waits (mem_wts.2 ⟨j, c, hc, hi⟩)
    exact h4

/-- A channel was turned, nobody told. -/
theorem Wm.chan (h : Wm w L B pv cv tvv ev a s A zs m K σ lab) (hL : L ≤ w.heap.size) {j : Nat} {z : Zc} {c d : Cz} {D : Nat → Prop} (hz : zs[j]? = some z) (hc : σ.ch[j]? = some c) (hd : Ch w' A z m' (mem K d) D) (hm : m ≤ m') (x : Lx w (fun k => lab k = some (.ch j)) w' D) (es : d.sz = c.sz) (ok' : Sok (σ.setc j d)) :
    Wm w' L B pv cv tvv ev a s A zs m' K (σ.setc j d) (relab lab (.ch j) D) ∧ Wy w lab w' (relab lab (.ch j) D) := by
  have f := Fr.chan h x
  have hzz := x.tb.size
  have hkv : Kv w A w' A := Kv.tb A x.tb (fun k f ht hk => (h.ch j z c hz hc).2.2.notk ht hk)
  refine ⟨h.build f hL (fun e => by cases e) (fun e => by cases e) (fun e => by cases e) (fun e => by cases e) (fun e => by cases e) (fun k l hk => ?_) (h.rt.tb x.tb (fun k hk e => ?_)) rfl rfl rfl (fun k hk => (f.eq k _ (by simp) (by simp)).2 (h.lr k hk)) rfl (fun i y e hy he => ?_) (by simp [Sg.setc]) (fun k hk => h.ha k (by omega)) h.ln rfl (fun i t p ht hp => (h.cl i t p ht hp).keep (f.wy h.lt').agr (f.wy h.lt').sub (fun k hk => ⟨(f.eq k _ (by simp) (by simp)).2 hk, f.blk h.lt' hk (by simp), rfl⟩) h.lt') ok', f.wy h.lt'⟩
  · by_cases hl : l = .ch j
    · subst hl
      exact hd.lt (relab_same.1 hk)
    · have hD : ∀ k, D k → lab k = some (.ch j) ∨ lab k = none := fun k hk => (x.dom k hk).imp id h.fresh
      have := h.lt' k l ((relab_other hD hl).1 hk); omega
  · rcases hk with hk | hk
    · rw [h.lr k hk] at e
      cases e
    · subst hk
      rw [h.lq] at e
      cases e
  · rw [setc_get hc] at he
    by_cases e' : i = j
    · subst e'
      rw [if_pos rfl] at he
      cases he
      rw [hz] at hy
      cases hy
      exact ⟨(h.ch i z c hz hc).1, by rw [es]; exact (h.ch i z c hz hc).2.1, hd.iff (fun k => relab_same)⟩
    · rw [if_neg e'] at he
      refine ⟨(h.ch i y e hy he).1, (h.ch i y e hy he).2.1, h.chK f hy he (fun e'' => e' (by cases e''; rfl)) hkv (fun q hq => ?_) (fun _ _ => rfl) hm⟩
      obtain ⟨t, p, _, _, _, h4⟩ := h.waits (mem_wts.2 ⟨i, e, he, hq⟩)
      exact h4

/-- A running task gets ready. -/
theorem Wm.yields (h : Wm w L B pv cv tvv ev a s A zs m K σ lab) (hL : L ≤ w.heap.size) {i : Nat} {t : Tc} {p : Pt} (hi : s.ts[i]? = some t) (hp : σ.tk[i]? = some p) (hst : p.st ≠ 3) {v : Value} {td : Tld} (hv : Go0 (Fz lab) w v (QT B t.b i p.at' td)) (hwk : t.wk = .nilFunc) (hr : Rp w a s w' a' (s.gets i { t with nx := v })) :
    Wm w' L B pv cv tvv ev a' (s.gets i { t with nx := v }) A zs m K (σ.gets i td) (relab lab .rt (own a' (s.gets i { t with nx := v }))) ∧ Wy w lab w' (relab lab .rt (own a' (s.gets i { t with nx := v }))) := by
  have f := Fr.rt h (fun k hk => hr.x.own hk) hr.x.tb
  have hz := hr.x.tb.size
  have hkv : Kv w A w' A := Kv.tb A hr.x.tb (fun k f ht hk => by
    have h1 := own_ty h.rt.m hk ht
    revert h1
    decide)
  have hnw : i ∉ σ.wts := fun e => hst (by have := (h.ok.st3 e).1; rwa [p_of hp] at this)
  have hil : i < σ.tk.length := (List.getElem?_eq_some_iff.1 hp).1
  refine ⟨h.build f hL (fun e => by cases e) (fun e => by cases e) (fun e => by cases e) (fun e => by cases e) (fun e => by cases e) (fun k l hk => ?_) hr.rt hr.x.R hr.x.Q ?_ (fun k hk => relab_same.2 hk) rfl (fun j z c hz hc => ⟨(h.ch j z c hz hc).1, (h.ch j z c hz hc).2.1, h.chK f hz hc (fun e => by cases e) hkv (fun i hi => ?_) (fun _ _ => rfl) (Nat.le_refl _)⟩) rfl (fun k hk => h.ha k (by omega)) (by simp [Rs.gets, Sg.gets, h.ln]) (by simp [Sg.gets]) (fun j u q hu hq => ?_) (h.ok.gets hnw td hil), f.wy h.lt'⟩
  · by_cases hl : l = .rt
    · subst hl
      exact hr.rt.m.own_lt (relab_same.1 hk)
    · have hD : ∀ k, own a' (s.gets i { t with nx := v }) k → lab k = some .rt ∨ lab k = none := fun k hk => (hr.x.own hk).imp (h.lr k) h.fresh
      have := h.lt' k l ((relab_other hD hl).1 hk); omega
  · exact map_set hi rfl
  · obtain ⟨t, p, _, _, _, h4⟩ := h.waits (mem_wts.2 ⟨j, c, hc, hi⟩)
    exact h4
  · simp only [Rs.gets, get_set hi] at hu
    rw [gets_get hp] at hq
    by_cases e : j = i
    · subst e
      rw [if_pos rfl] at hu hq
      cases hu
      cases hq
      exact ⟨(by simp), (fun _ => ⟨hv.keep (f.wy h.lt').agr (f.wy h.lt').sub, hwk⟩), (fun e => by simp at e), (fun e => by simp at e), (fun e => by simp at e)⟩
    · rw [if_neg e] at hu hq
      exact (h.cl j u q hu hq).keep (f.wy h.lt').agr (f.wy h.lt').sub (fun k hk => ⟨(f.eq k _ (by simp) (by simp)).2 hk, f.blk h.lt' hk (by simp), rfl⟩) h.lt'
end

end Go.Proofs.YtgjpbekmkhanhaaGreat.CH

/-
  Texts put into one.
-/
import Derived.Test.YtgjpbekmkhanhaaGreatQk0b06d003
import Derived.Test.YtgjpbekmkhanhaaGreatQkcab92001

/-
  Two runtimes, a channel of the first, and what is noted: each call lifted.
-/
namespace Go.Proofs.YtgjpbekmkhanhaaGreat.CH
open Go.RowKit QW
set_option maxRecDepth 100000
set_option linter.unusedSimpArgs false
set_option linter.unusedVariables false

abbrev nA : Nat → Bool := fun _ => true
abbrev nE : Cs := ⟨false, [], [], []⟩
abbrev zcs : Array Value := #[.pointer none, .pointer none, .int .i64 0, .bool false, .pointer none, .pointer none, .pointer none]
abbrev vT : Value := .func (.func 20) #[] #[]
abbrev vK : Value := .func (.func 21) #[] #[]

/-- Where all lies. -/
structure Np where
  z : Zc
  D : Nat → Prop
  CB : Nat
  NB : Nat
  ZB : Nat
  Z : Nat
  TB : Nat
  KB : Nat
  LB : Nat
  K : Nat

/-- A type of no box of the law's. -/
def alien (u : TypeId) : Bool := !(u == (48 : TypeId) || u == (66 : TypeId) || u == (67 : TypeId) || u == (68 : TypeId) || u == (127 : TypeId) || u == (71 : TypeId) || u == (55 : TypeId))

section
variable {w w' : World} {a a' a2 : Ad} {s s' s2 : Rs} {p : Np} {w0 : World} {n : Nat} {va : Option Addr} {vc : Nat} {xs : List Value}

/-- The boxes that stay. -/
structure Bxn (p : Np) (w : World) : Prop where
  cb : w.heap[p.CB]? = some (.cells #[.pointer (some ⟨p.z.C, 0, none⟩)] (48 : TypeId) (0, 0))
  nb : w.heap[p.NB]? = some (.cells #[.pointer none] (48 : TypeId) (0, 0))
  zb : w.heap[p.ZB]? = some (.cells #[.pointer (some ⟨p.Z, 0, none⟩)] (48 : TypeId) (0, 0))
  zz : w.heap[p.Z]? = some (.cells zcs (66 : TypeId) (0, 0))
  tb : w.heap[p.TB]? = some (.cells #[vT] (67 : TypeId) (0, 0))
  kb : w.heap[p.KB]? = some (.cells #[vK] (68 : TypeId) (0, 0))
  tk : Tkt w p.K (.func (.func 23) #[] #[])

theorem Bxn.tb' (h : Bxn p w) {S : Nat → Prop} (t : Tb S w w') (hS : ∀ k u (cs : Array Value), S k → w.heap[k]? = some (.cells cs u (0, 0)) → alien u = true ∨ u = (71 : TypeId) ∨ u = (55 : TypeId)) : Bxn p w' := by
  have key : ∀ {b : Nat} {cs : Array Value} {u : TypeId}, w.heap[b]? = some (.cells cs u (0, 0)) → ¬ (alien u = true ∨ u = (71 : TypeId) ∨ u = (55 : TypeId)) → w'.heap[b]? = some (.cells cs u (0, 0)) := fun hb hu => (t.block _ (heap_lt hb) (fun e => hu (hS _ _ _ e hb))).trans hb
  exact ⟨key h.cb (by decide), key h.nb (by decide), key h.zb (by decide), key h.zz (by decide), key h.tb (by decide), key h.kb (by decide), key h.tk (by decide)⟩

theorem own_alien (h : Rt w a s) {k : Nat} (hk : own a s k) {cs : Array Value} {u : TypeId} {fr : Nat × Nat} (hc : w.heap[k]? = some (.cells cs u fr)) : alien u = true := by
  rcases own_ty h.m hk hc with rfl | rfl | rfl | rfl <;> decide

/-- The boxes. -/
def nbx (p : Np) (k : Nat) : Prop := k = p.CB ∨ k = p.NB ∨ k = p.ZB ∨ k = p.Z ∨ k = p.TB ∨ k = p.KB ∨ k = p.K

theorem Bxn.tbn (h : Bxn p w) {S : Nat → Prop} (t : Tb S w w') (hS : ∀ k, S k → ¬ nbx p k) : Bxn p w' := by
  have key : ∀ {b : Nat} {cs : Array Value} {u : TypeId}, w.heap[b]? = some (.cells cs u (0, 0)) → nbx p b → w'.heap[b]? = some (.cells cs u (0, 0)) := fun hb hu => (t.block _ (heap_lt hb) (fun e => hS _ e hu)).trans hb
  exact ⟨key h.cb (.inl rfl), key h.nb (.inr (.inl rfl)), key h.zb (.inr (.inr (.inl rfl))), key h.zz (.inr (.inr (.inr (.inl rfl)))), key h.tb (.inr (.inr (.inr (.inr (.inl rfl))))), key h.kb (.inr (.inr (.inr (.inr (.inr (.inl rfl)))))), key h.tk (.inr (.inr (.inr (.inr (.inr (.inr rfl))))))⟩

theorem Bxn.lt (h : Bxn p w) {k : Nat} (hk : nbx p k) : k < w.heap.size := by
  rcases hk with rfl | rfl | rfl | rfl | rfl | rfl | rfl
  · exact heap_lt h.cb
  · exact heap_lt h.nb
  · exact heap_lt h.zb
  · exact heap_lt h.zz
  · exact heap_lt h.tb
  · exact heap_lt h.kb
  · exact heap_lt h.tk

/-- How all stands. -/
structure Nz (w0 : World) (p : Np) (w : World) (a a' : Ad) (s s' : Rs) (n : Nat) (va : Option Addr) (vc : Nat) (xs : List Value) : Prop where
  r : Rt w a s
  q : Rt w a' s'
  c : Ch w nA p.z 0 nE p.D
  zr : p.z.rt = a.R
  so : ∀ k, own a s k ∨ k = a.Q → ¬ (own a' s' k ∨ k = a'.Q)
  sd : ∀ k, p.D k → ¬ (own a s k ∨ k = a.Q) ∧ ¬ (own a' s' k ∨ k = a'.Q)
  ql : a.Q < w.heap.size ∧ a'.Q < w.heap.size
  bx : Bxn p w
  nt : Nt w p.LB p.LB n va vc xs
  dl : ∀ k, p.D k → k < p.LB
  db : ∀ k, p.D k → ¬ nbx p k
  l1 : ∀ k, own a s k ∨ k = a.Q → w0.heap.size ≤ k
  l2 : ∀ k, own a' s' k ∨ k = a'.Q → w0.heap.size ≤ k
  l3 : w0.heap.size ≤ p.LB
  l4 : ∀ k, p.D k → w0.heap.size ≤ k
  bel : Below w0.heap.size w0 w

theorem Nt.tys (h : Nt w p.LB p.LB n va vc xs) {u : TypeId} {k : Nat} {cs : Array Value} {fr : Nat × Nat} (hk : k = p.LB ∨ (Value.slice va n vc).ownBlock = some k) (hc : w.heap[k]? = some (.cells cs u fr)) : u = (71 : TypeId) ∨ u = (55 : TypeId) := by
  rcases hk with rfl | hk
  · have := h.box
    rw [hc] at this
    simp only [Option.some.injEq, Obj.cells.injEq] at this
    exact .inl this.2.1
  · obtain ⟨cs', hcs⟩ := row_ty h.row hk
    rw [hc] at hcs
    simp only [Option.some.injEq, Obj.cells.injEq] at hcs
    exact .inr hcs.2.1

theorem Nt.keep (h : Nt w p.LB p.LB n va vc xs) {S : Nat → Prop} (t : Tb S w w') (hS : ∀ k, (k = p.LB ∨ (Value.slice va n vc).ownBlock = some k) → ¬ S k) : Nt w' p.LB p.LB n va vc xs :=
  ⟨(t.block _ (heap_lt h.box) (hS _ (.inl rfl))).trans h.box, row_tb h.row t (fun g hg => hS g (.inr hg)), Nat.le_trans h.lo t.size⟩

theorem Nt.ownTy (h : Nt w p.LB p.LB n va vc xs) {k : Nat} (hk : k = p.LB ∨ (Value.slice va n vc).ownBlock = some k) : ∃ cs u, w.heap[k]? = some (.cells cs u (0, 0)) ∧ alien u = false := by
  rcases hk with rfl | hk
  · exact ⟨_, _, h.box, by decide⟩
  · obtain ⟨cs, hcs⟩ := row_ty h.row hk
    exact ⟨_, _, hcs, by decide⟩

theorem Nt.notOwn (h : Nt w p.LB p.LB n va vc xs) (hr : Rt w a s) {k : Nat} (hk : k = p.LB ∨ (Value.slice va n vc).ownBlock = some k) : ¬ own a s k := fun hk2 => by
  obtain ⟨cs, u, h1, h2⟩ := h.ownTy hk
  rw [own_alien hr hk2 h1] at h2
  cases h2

theorem Nz.below (h : Nz w0 p w a a' s s' n va vc xs) (hb : Below w.heap.size w w') : Nz w0 p w' a a' s s' n va vc xs :=
  have t : Tb (fun _ => False) w w' := Tb.of_fresh hb
  ⟨h.r.below hb, h.q.below hb, h.c.below hb, h.zr, h.so, h.sd, ⟨Nat.lt_of_lt_of_le h.ql.1 hb.size, Nat.lt_of_lt_of_le h.ql.2 hb.size⟩, h.bx.tb' t (fun _ _ _ e => e.elim), h.nt.keep t (fun _ _ e => e), h.dl, h.db, h.l1, h.l2, h.l3, h.l4, h.bel.trans (hb.mono h.bel.size)⟩

theorem tkt_own (hr : Rt w a s) : ∀ k f, Tkt w k f → ¬ own a s k := fun k f hk e => by
  have := own_alien hr e hk
  revert this
  decide

theorem Nz.r1 (h : Nz w0 p w a a' s s' n va vc xs) (x : Rp w a s w' a2 s2) : Nz w0 p w' a2 a' s2 s' n va vc xs := by
  have t := x.x.tb
  have hsz := t.size
  have hl1 : ∀ k, own a2 s2 k ∨ k = a2.Q → (own a s k ∨ k = a.Q) ∨ w.heap.size ≤ k := fun k hk => by
    rcases hk with hk | hk
    · exact (x.x.own hk).imp .inl id
    · exact .inl (.inr (by rw [hk, x.x.Q]))
  have hlt : ∀ k, own a' s' k ∨ k = a'.Q → k < w.heap.size := fun k hk => by
    rcases hk with hk | rfl
    · exact h.q.m.own_lt hk
    · exact h.ql.2
  refine ⟨x.rt, h.q.tb t (fun k hk e => h.so k (.inl e) hk), h.c.same t (fun k hk e => (h.sd k hk).1 (.inl e)) (Kv.tb nA t (tkt_own h.r)), h.zr.trans x.x.R.symm, fun k hk hk2 => ?_, fun k hk => ⟨fun hk2 => ?_, (h.sd k hk).2⟩, ?_, h.bx.tb' t (fun k u cs e hc => .inl (own_alien h.r e hc)), h.nt.keep t (fun k hk => h.nt.notOwn h.r hk), h.dl, h.db, fun k hk => ?_, h.l2, h.l3, h.l4, h.bel.trans (t.below (fun k hk => h.l1 k (.inl hk)) h.bel.size)⟩
  · rcases hl1 k hk with h1 | h1
    · exact h.so k h1 hk2
    · have := hlt k hk2
      omega
  · rcases hl1 k hk2 with h1 | h1
    · exact (h.sd k hk).1 h1
    · have := h.c.lt hk
      omega
  · have := h.ql
    rw [x.x.Q]
    omega
  · rcases hl1 k hk with h1 | h1
    · exact h.l1 k h1
    · exact Nat.le_trans h.bel.size h1

theorem Nz.r2 (h : Nz w0 p w a a' s s' n va vc xs) (x : Rp w a' s' w' a2 s2) : Nz w0 p w' a a2 s s2 n va vc xs := by
  have t := x.x.tb
  have hsz := t.size
  have hl1 : ∀ k, own a2 s2 k ∨ k = a2.Q → (own a' s' k ∨ k = a'.Q) ∨ w.heap.size ≤ k := fun k hk => by
    rcases hk with hk | hk
    · exact (x.x.own hk).imp .inl id
    · exact .inl (.inr (by rw [hk, x.x.Q]))
  have hlt : ∀ k, own a s k ∨ k = a.Q → k < w.heap.size := fun k hk => by
    rcases hk with hk | rfl
    · exact h.r.m.own_lt hk
    · exact h.ql.1
  refine ⟨h.r.tb t (fun k hk e => h.so k hk (.inl e)), x.rt, h.c.same t (fun k hk e => (h.sd k hk).2 (.inl e)) (Kv.tb nA t (tkt_own h.q)), h.zr, fun k hk hk2 => ?_, fun k hk => ⟨(h.sd k hk).1, fun hk2 => ?_⟩, ?_, h.bx.tb' t (fun k u cs e hc => .inl (own_alien h.q e hc)), h.nt.keep t (fun k hk => h.nt.notOwn h.q hk), h.dl, h.db, h.l1, fun k hk => ?_, h.l3, h.l4, h.bel.trans (t.below (fun k hk => h.l2 k (.inl hk)) h.bel.size)⟩
  · rcases hl1 k hk2 with h1 | h1
    · exact h.so k hk h1
    · have := hlt k hk
      omega
  · rcases hl1 k hk2 with h1 | h1
    · exact (h.sd k hk).2 h1
    · have := h.c.lt hk
      omega
  · have := h.ql
    rw [x.x.Q]
    omega
  · rcases hl1 k hk with h1 | h1
    · exact h.l2 k h1
    · exact Nat.le_trans h.bel.size h1

theorem Nz.row_ge (h : Nz w0 p w a a' s s' n va vc xs) {k : Nat} (hk : k = p.LB ∨ (Value.slice va n vc).ownBlock = some k) : p.LB ≤ k := by
  rcases hk with rfl | hk
  · exact Nat.le_refl _
  · rcases h.nt.row.2 with ⟨e, _⟩ | ⟨g', cap, cur, e, hge, _⟩
    · rw [e] at hk; cases hk
    · rw [e] at hk; cases hk; exact hge

theorem Nz.noted (h : Nz w0 p w a a' s s' n va vc xs) {n' : Nat} {va' : Option Addr} {vc' : Nat} {xs' : List Value} (hn : Nt w' p.LB p.LB n' va' vc' xs') (t : Tb (fun j => j = p.LB ∨ (Value.slice va n vc).ownBlock = some j) w w') : Nz w0 p w' a a' s s' n' va' vc' xs' := by
  have hsz := t.size
  have hq : ∀ q U, QI.Sd w q U → ¬ (q = p.LB ∨ (Value.slice va n vc).ownBlock = some q) := fun q U hs e => by
    rcases h.nt.tys e hs with h1 | h1 <;> revert h1 <;> decide
  refine ⟨h.r.tb t (fun k hk e => hk.elim (h.nt.notOwn h.r e) (fun hk => hq k _ (hk ▸ h.r.m.sd) e)), h.q.tb t (fun k hk e => hk.elim (h.nt.notOwn h.q e) (fun hk => hq k _ (hk ▸ h.q.m.sd) e)), h.c.same t (fun k hk e => ?_) (Kv.tb nA t (fun k f hk e => ?_)), h.zr, h.so, h.sd, ⟨Nat.lt_of_lt_of_le h.ql.1 hsz, Nat.lt_of_lt_of_le h.ql.2 hsz⟩, h.bx.tb' t (fun k u cs e hc => .inr (h.nt.tys e hc)), hn, h.dl, h.db, h.l1, h.l2, h.l3, h.l4, h.bel.trans (t.below (fun k hk => Nat.le_trans h.l3 (h.row_ge hk)) h.bel.size)⟩
  · have := h.row_ge e
    have := h.dl k hk
    omega
  · rcases h.nt.tys e hk with h1 | h1 <;> revert h1 <;> decide
end

end Go.Proofs.YtgjpbekmkhanhaaGreat.CH

/-
  The two tasks are spawned, and have their only turns.
-/
namespace Go.Proofs.YtgjpbekmkhanhaaGreat.CH
open Go.RowKit QW
set_option maxRecDepth 100000
set_option linter.unusedSimpArgs false
set_option linter.unusedVariables false

section
variable {w w' : World} {a a' a2 : Ad} {s s' s2 : Rs} {p : Np} {w0 : World} {n : Nat} {va : Option Addr} {vc : Nat} {xs : List Value}

theorem entN : Ent 68 := fun _ _ => by go_simp
theorem entN4 : Ent 25 := fun _ _ => by go_simp
theorem entN5 : Ent 28 := fun _ _ => by go_simp

theorem firstN {X : World} {g1 g2 b : Nat} {fn : Nat} {caps : Array Value} (hen : Ent fn) (e1 : X.heap[g1]? = some (.cells #[.func (.func fn) #[] caps] (76 : TypeId) (0, 0))) (e2 : X.heap[g2]? = some (.cells #[.pointer (some ⟨b, 0, none⟩)] (60 : TypeId) (0, 0))) (Ψ : World → Prop) (hC : Calls Tryz.prog fn (#[.pointer (some ⟨b, 0, none⟩)] ++ caps) X fun e w' => e = .returned (.tuple #[]) ∧ Ψ w') :
    Calls Tryz.prog 68 #[.pointer (some ⟨g1, 0, none⟩), .pointer (some ⟨g2, 0, none⟩)] X fun e w' => e = .returned (.tuple #[]) ∧ Ψ w' := by
  have d1 : X.cell? ⟨g1, 0, none⟩ = some (.func (.func fn) #[] caps) := cell_of_row X _ 0 _ _ _ e1
  have d2 : X.cell? ⟨g2, 0, none⟩ = some (.pointer (some ⟨b, 0, none⟩)) := cell_of_row X _ 0 _ _ _ e2
  have HC := hide hC
  clear hC e1 e2
  unfold Ent at hen
  go_enter Tryz.func68, Tryz.ntmps68
  go_wp2_with fail
  refine HC.out.mono ?_
  rintro e w1 ⟨rfl, hΨ⟩
  go_wp2_with fail
  go_end0
  exact ⟨rfl, hΨ⟩

/-- The first turn of a task that was spawned: it stands at place j of the line. -/
theorem step_first {w : World} {a : Ad} {s : Rs} (h : Rt w a s) (hr : s.run = none) (p : Nat) (hp : p ≤ 18446744073709551615) {j i b g1 g2 : Nat} {wk : Value} (hj : Hid (j = p % s.line.length)) (hji : s.line[j]? = some (i : Int)) (hi : s.ts[i]? = some ⟨b, spv g1 g2, wk⟩) {fn : Nat} {caps : Array Value} (hen : Ent fn)
    (e1 : w.heap[g1]? = some (.cells #[.func (.func fn) #[] caps] (76 : TypeId) (0, 0))) (e2 : w.heap[g2]? = some (.cells #[.pointer (some ⟨b, 0, none⟩)] (60 : TypeId) (0, 0))) (n1 : ¬ own a s g1) (n2 : ¬ own a s g2) (Φ : World → Ad → Rs → Prop)
    (HC : ∀ X a1, Rp w a s X a1 (s.begin i j ⟨b, .nilFunc, wk⟩ (p / s.line.length)) → Calls Tryz.prog fn (#[.pointer (some ⟨b, 0, none⟩)] ++ caps) X fun e w2 => e = .returned (.tuple #[]) ∧ ∃ a2 s2 t2, Rt w2 a2 s2 ∧ s2.run = some i ∧ s2.ts[i]? = some t2 ∧ t2.b = b ∧ a2.R = a.R ∧ Φ w2 a2 s2) :
    Calls Tryz.prog 12 #[.pointer (some ⟨a.R, 0, none⟩), .int .u64 p] w fun e w' => e = .returned (.bool true) ∧ ∃ w2 a2 s2, Φ w2 a2 s2 ∧ Rp w2 a2 s2 w' a2 s2.done :=
  step_yes h hr p hp hj hji hi (fn := 68) (caps := #[.pointer (some ⟨g1, 0, none⟩), .pointer (some ⟨g2, 0, none⟩)]) rfl entN Φ (fun X a1 x =>
    firstN hen ((x.x.tb.block _ (heap_lt e1) n1).trans e1) ((x.x.tb.block _ (heap_lt e2) n2).trans e2) _ (HC X a1 x))

/-- A runtime behind its only task's only turn. -/
abbrev Rs.aft (b : Nat) : Rs := ⟨[⟨b, .nilFunc, .nilFunc⟩], [], none, 0⟩

/-- What the first task notes. -/
abbrev xs4 : List Value := [.int .i64 160, .int .i64 160, .int .i64 1, .int .i64 1]
abbrev xs2 : List Value := [.int .i64 1, .int .i64 1]

abbrev cap4 (p : Np) : Array Value := #[.pointer (some ⟨p.LB, 0, none⟩), .pointer (some ⟨p.CB, 0, none⟩), .pointer (some ⟨p.TB, 0, none⟩), .pointer (some ⟨p.KB, 0, none⟩), .pointer (some ⟨p.NB, 0, none⟩), .pointer (some ⟨p.ZB, 0, none⟩)]
abbrev cap5 (p : Np) : Array Value := #[.pointer (some ⟨p.LB, 0, none⟩), .pointer (some ⟨p.CB, 0, none⟩)]

theorem cap4_eq (p : Np) (x : Value) : #[x] ++ cap4 p = #[x, .pointer (some ⟨p.LB, 0, none⟩), .pointer (some ⟨p.CB, 0, none⟩), .pointer (some ⟨p.TB, 0, none⟩), .pointer (some ⟨p.KB, 0, none⟩), .pointer (some ⟨p.NB, 0, none⟩), .pointer (some ⟨p.ZB, 0, none⟩)] := by simp [cap4]
theorem cap5_eq (p : Np) (x : Value) : #[x] ++ cap5 p = #[x, .pointer (some ⟨p.LB, 0, none⟩), .pointer (some ⟨p.CB, 0, none⟩)] := by simp [cap5]

theorem Nz.spawn2 (h : Nz w0 p w a a' s rs0 n va vc xs) (f : Fn) (ys zs : Array Value) : Calls Tryz.prog 24 #[.pointer (some ⟨a'.R, 0, none⟩), .func f ys zs] w fun e w' => ∃ b, e = .returned (.tuple #[.pointer (some ⟨b, 0, none⟩), .int .i64 0]) ∧ ∃ a2 g1 g2, a2.R = a'.R ∧ Nz w0 p w' a a2 s (rs0.spawn b (spv g1 g2)) n va vc xs ∧ w'.heap[g1]? = some (.cells #[.func f ys zs] (76 : TypeId) (0, 0)) ∧ w'.heap[g2]? = some (.cells #[.pointer (some ⟨b, 0, none⟩)] (60 : TypeId) (0, 0)) ∧ ¬ own a2 (rs0.spawn b (spv g1 g2)) g1 ∧ ¬ own a2 (rs0.spawn b (spv g1 g2)) g2 :=
  (spawn_yes h.q (by simp [rs0, Rs.lives]) (by simp [rs0]) f ys zs).mono fun e w' ⟨b, he, a2, g1, g2, x, _, _, _, e1, e2, n1, n2⟩ => ⟨b, he, a2, g1, g2, x.x.R, h.r2 x, e1, e2, n1, n2⟩

theorem Nz.spawn1 (h : Nz w0 p w a a' rs0 s' n va vc xs) (f : Fn) (ys zs : Array Value) : Calls Tryz.prog 24 #[.pointer (some ⟨a.R, 0, none⟩), .func f ys zs] w fun e w' => ∃ b, e = .returned (.tuple #[.pointer (some ⟨b, 0, none⟩), .int .i64 0]) ∧ ∃ a2 g1 g2, a2.R = a.R ∧ Nz w0 p w' a2 a' (rs0.spawn b (spv g1 g2)) s' n va vc xs ∧ w'.heap[g1]? = some (.cells #[.func f ys zs] (76 : TypeId) (0, 0)) ∧ w'.heap[g2]? = some (.cells #[.pointer (some ⟨b, 0, none⟩)] (60 : TypeId) (0, 0)) ∧ ¬ own a2 (rs0.spawn b (spv g1 g2)) g1 ∧ ¬ own a2 (rs0.spawn b (spv g1 g2)) g2 :=
  (spawn_yes h.r (by simp [rs0, Rs.lives]) (by simp [rs0]) f ys zs).mono fun e w' ⟨b, he, a2, g1, g2, x, _, _, _, e1, e2, n1, n2⟩ => ⟨b, he, a2, g1, g2, x.x.R, h.r1 x, e1, e2, n1, n2⟩

theorem Nz.step2 {b g1 g2 : Nat} (h : Nz w0 p w a a' s (rs0.spawn b (spv g1 g2)) n va vc xs) (hn : n ≤ 1000) (e1 : w.heap[g1]? = some (.cells #[.func (.func 25) #[] (cap4 p)] (76 : TypeId) (0, 0))) (e2 : w.heap[g2]? = some (.cells #[.pointer (some ⟨b, 0, none⟩)] (60 : TypeId) (0, 0))) (n1 : ¬ own a' (rs0.spawn b (spv g1 g2)) g1) (n2 : ¬ own a' (rs0.spawn b (spv g1 g2)) g2) :
    Calls Tryz.prog 12 #[.pointer (some ⟨a'.R, 0, none⟩), .int .u64 0] w fun e w' => e = .returned (.bool true) ∧ ∃ a2 va' vc', a2.R = a'.R ∧ Nz w0 p w' a a2 s (Rs.aft b) (n + 4) va' vc' (xs ++ xs4) := by
  have hst := step_first h.q rfl 0 (by omega) (j := 0) (i := 0) (b := b) (g1 := g1) (g2 := g2) (wk := .nilFunc) (hide (by simp)) rfl rfl entN4 e1 e2 n1 n2 (fun w3 a3 s3 => a3.R = a'.R ∧ s3 = (rs0.spawn b (spv g1 g2)).begin 0 0 ⟨b, .nilFunc, .nilFunc⟩ (0 / (rs0.spawn b (spv g1 g2)).line.length) ∧ ∃ va' vc', Nz w0 p w3 a a3 s s3 (n + 4) va' vc' (xs ++ xs4)) (fun X a1 x => by
    obtain ⟨s3, hs3⟩ : ∃ s3, s3 = (rs0.spawn b (spv g1 g2)).begin 0 0 ⟨b, .nilFunc, .nilFunc⟩ (0 / (rs0.spawn b (spv g1 g2)).line.length) := ⟨_, rfl⟩
    have hi : s3.ts[0]? = some ⟨b, .nilFunc, .nilFunc⟩ := by rw [hs3]; rfl
    have hru : s3.run = some 0 := by rw [hs3]; rfl
    rw [← hs3] at x
    have N := h.r2 x
    obtain ⟨cR, hR⟩ : ∃ c, X.heap[a1.R]? = some (.cells c (62 : TypeId) (0, 0)) := ⟨_, N.q.m.obj⟩
    obtain ⟨cS, hS⟩ : ∃ c, X.heap[p.z.rt]? = some (.cells c (62 : TypeId) (0, 0)) := by rw [N.zr]; exact ⟨_, N.r.m.obj⟩
    have hz : a1.R ≠ p.z.rt := fun e => N.so a.R (.inl (.inl rfl)) (.inl (.inl (by rw [← N.zr, ← e])))
    have hO : ∀ V, Below X.heap.size X V → Calls Tryz.prog 69 #[.pointer (some ⟨b, 0, none⟩), .pointer (some ⟨p.z.C, 0, none⟩), .bool false] V fun e w' => e = .returned (.int .i64 160) ∧ Below V.heap.size V w' := fun V hV => by
      have h1 := (hV.block _ (heap_lt hR)).trans hR
      have h2 := (hV.block _ (heap_lt hS)).trans hS
      have h3 := N.q.below hV
      have h4 := N.c.below hV
      exact refused_other (t := ⟨b, .nilFunc, .nilFunc⟩) h3 hi h4 h1 h2 hz
    have hN : ∀ V, Below X.heap.size X V → Calls Tryz.prog 69 #[.pointer (some ⟨b, 0, none⟩), .pointer none, .bool false] V fun e w' => e = .returned (.int .i64 1) ∧ Below V.heap.size V w' := fun V hV => (refused_noChan (N.q.below hV) hi (cmade_nil V) false).mono fun e w' ⟨h1, h2⟩ => ⟨h1, by subst h2; exact Below.refl _ _⟩
    have hzz : ∀ V, Below X.heap.size X V → V.cell? ⟨p.Z, 0, none⟩ = some (.pointer none) := fun V hV => by
      have h := (hV.block _ (heap_lt N.bx.zz)).trans N.bx.zz
      rw [cell_of_row V p.Z 0 _ _ _ h]
      rfl
    have hZ : ∀ V, Below X.heap.size X V → Calls Tryz.prog 69 #[.pointer (some ⟨b, 0, none⟩), .pointer (some ⟨p.Z, 0, none⟩), .bool false] V fun e w' => e = .returned (.int .i64 1) ∧ Below V.heap.size V w' := fun V hV => (refused_noChan (N.q.below hV) hi (cmade_zero (hzz V hV)) false).mono fun e w' ⟨h1, h2⟩ => ⟨h1, by subst h2; exact Below.refl _ _⟩
    have hf := f25_any (tp := some ⟨b, 0, none⟩) (cp := some ⟨p.z.C, 0, none⟩) N.nt hn N.bx.cb N.bx.tb N.bx.kb N.bx.nb N.bx.zb
      (fun V hV => send_refused (by decide) (.inr ⟨_, _, _, rfl, rfl⟩) (fun V' hV' => hO V' (hV.trans (hV'.mono hV.size))))
      (fun V hV => recv_refused (by decide) (.inr ⟨_, _, _, rfl, rfl⟩) (fun V' hV' => hO V' (hV.trans (hV'.mono hV.size))))
      (fun V hV => send_refused (by decide) (.inr ⟨_, _, _, rfl, rfl⟩) (fun V' hV' => hN V' (hV.trans (hV'.mono hV.size))))
      (fun V hV => recv_refused (by decide) (.inr ⟨_, _, _, rfl, rfl⟩) (fun V' hV' => hZ V' (hV.trans (hV'.mono hV.size))))
    rw [cap4_eq]
    refine hf.mono ?_
    rintro e w2 ⟨rfl, pa, pc, hnt, ht⟩
    have N2 := N.noted hnt ht
    exact ⟨rfl, a1, s3, ⟨b, .nilFunc, .nilFunc⟩, N2.q, hru, hi, rfl, x.x.R, x.x.R, hs3, pa, pc, N2⟩)
  refine hst.mono ?_
  rintro e w' ⟨rfl, w2, a2, s2, ⟨hR, rfl, pa, pc, N2⟩, x⟩
  have e0 : ((rs0.spawn b (spv g1 g2)).begin 0 0 ⟨b, .nilFunc, .nilFunc⟩ (0 / (rs0.spawn b (spv g1 g2)).line.length)).done = Rs.aft b := by simp [Rs.done, Rs.begin, Rs.spawn, rs0]
  rw [e0] at x
  exact ⟨rfl, a2, pa, pc, hR, N2.r2 x⟩

theorem Nz.step1 {b g1 g2 : Nat} (h : Nz w0 p w a a' (rs0.spawn b (spv g1 g2)) s' n va vc xs) (hn : n ≤ 1000) (e1 : w.heap[g1]? = some (.cells #[.func (.func 28) #[] (cap5 p)] (76 : TypeId) (0, 0))) (e2 : w.heap[g2]? = some (.cells #[.pointer (some ⟨b, 0, none⟩)] (60 : TypeId) (0, 0))) (n1 : ¬ own a (rs0.spawn b (spv g1 g2)) g1) (n2 : ¬ own a (rs0.spawn b (spv g1 g2)) g2) :
    Calls Tryz.prog 12 #[.pointer (some ⟨a.R, 0, none⟩), .int .u64 0] w fun e w' => e = .returned (.bool true) ∧ ∃ a2 va' vc', a2.R = a.R ∧ Nz w0 p w' a2 a' (Rs.aft b) s' (n + 2) va' vc' (xs ++ xs2) := by
  have hst := step_first h.r rfl 0 (by omega) (j := 0) (i := 0) (b := b) (g1 := g1) (g2 := g2) (wk := .nilFunc) (hide (by simp)) rfl rfl entN5 e1 e2 n1 n2 (fun w3 a3 s3 => a3.R = a.R ∧ s3 = (rs0.spawn b (spv g1 g2)).begin 0 0 ⟨b, .nilFunc, .nilFunc⟩ (0 / (rs0.spawn b (spv g1 g2)).line.length) ∧ ∃ va' vc', Nz w0 p w3 a3 a' s3 s' (n + 2) va' vc' (xs ++ xs2)) (fun X a1 x => by
    obtain ⟨s3, hs3⟩ : ∃ s3, s3 = (rs0.spawn b (spv g1 g2)).begin 0 0 ⟨b, .nilFunc, .nilFunc⟩ (0 / (rs0.spawn b (spv g1 g2)).line.length) := ⟨_, rfl⟩
    have hi : s3.ts[0]? = some ⟨b, .nilFunc, .nilFunc⟩ := by rw [hs3]; rfl
    have hru : s3.run = some 0 := by rw [hs3]; rfl
    rw [← hs3] at x
    have N := h.r1 x
    have hO : ∀ V, Below X.heap.size X V → Calls Tryz.prog 69 #[.pointer (some ⟨b, 0, none⟩), .pointer (some ⟨p.z.C, 0, none⟩), .bool true] V fun e w' => e = .returned (.int .i64 1) ∧ Below V.heap.size V w' := fun V hV => (refused_nothing (N.r.below hV) hi (N.c.below hV)).mono fun e w' ⟨h1, h2⟩ => ⟨h1, by subst h2; exact Below.refl _ _⟩
    have hf := f28_any (CB := p.CB) (tp := some ⟨b, 0, none⟩) (cp := some ⟨p.z.C, 0, none⟩) N.nt hn (cell_of_row X _ 0 _ _ _ N.bx.cb)
      (fun V hV => send_refused (by decide) (.inl ⟨rfl, rfl⟩) (fun V' hV' => hO V' (hV.trans (hV'.mono hV.size))))
      (fun V hV => recv_refused (by decide) (.inl ⟨rfl, rfl⟩) (fun V' hV' => hO V' (hV.trans (hV'.mono hV.size))))
    rw [cap5_eq]
    refine hf.mono ?_
    rintro e w2 ⟨rfl, pa, pc, hnt, ht⟩
    have N2 := N.noted hnt ht
    exact ⟨rfl, a1, s3, ⟨b, .nilFunc, .nilFunc⟩, N2.r, hru, hi, rfl, x.x.R, x.x.R, hs3, pa, pc, N2⟩)
  refine hst.mono ?_
  rintro e w' ⟨rfl, w2, a2, s2, ⟨hR, rfl, pa, pc, N2⟩, x⟩
  have e0 : ((rs0.spawn b (spv g1 g2)).begin 0 0 ⟨b, .nilFunc, .nilFunc⟩ (0 / (rs0.spawn b (spv g1 g2)).line.length)).done = Rs.aft b := by simp [Rs.done, Rs.begin, Rs.spawn, rs0]
  rw [e0] at x
  exact ⟨rfl, a2, pa, pc, hR, N2.r1 x⟩
end

end Go.Proofs.YtgjpbekmkhanhaaGreat.CH

/-
  ChansNone: how all begins.
-/
namespace Go.Proofs.YtgjpbekmkhanhaaGreat.CH
open Go.RowKit QW
set_option maxRecDepth 100000
set_option linter.unusedSimpArgs false
set_option linter.unusedVariables false

section
theorem Nz.start {w0 w1 w2 w3 w4 V : World} {a a' : Ad} {p : Np}
    (hb1 : Below w0.heap.size w0 w1) (r1 : Rt w1 a rs0) (o1 : ∀ k, own a rs0 k ∨ k = a.Q → w0.heap.size ≤ k)
    (hb2 : Below w1.heap.size w1 w2) (r2 : Rt w2 a' rs0) (o2 : ∀ k, own a' rs0 k ∨ k = a'.Q → w1.heap.size ≤ k)
    (hb3 : Below w2.heap.size w2 w3)
    (hb4 : Below w3.heap.size w3 w4) (c : Ch w4 nA p.z 0 nE p.D) (hD : ∀ k, p.D k → w3.heap.size ≤ k) (hz : p.z.rt = a.R)
    (hb5 : Below w4.heap.size w4 V) (hbx : Bxn p V) (hnt : Nt V p.LB p.LB 0 none 0 []) (hlb : w4.heap.size ≤ p.LB) (hnb : ∀ k, nbx p k → w4.heap.size ≤ k) : Nz w0 p V a a' rs0 rs0 0 none 0 [] := by
  have s1 := hb1.size
  have s2 := hb2.size
  have s3 := hb3.size
  have s4 := hb4.size
  have s5 := hb5.size
  have k1 : ∀ k, own a rs0 k ∨ k = a.Q → k < w1.heap.size := fun k hk => by
    rcases hk with hk | rfl
    · exact r1.m.own_lt hk
    · exact r1.m.sd.lt
  have k2 : ∀ k, own a' rs0 k ∨ k = a'.Q → k < w2.heap.size := fun k hk => by
    rcases hk with hk | rfl
    · exact r2.m.own_lt hk
    · exact r2.m.sd.lt
  have f2 : Below w2.heap.size w2 V := hb3.trans ((hb4.trans (hb5.mono s4)).mono s3)
  have f1 : Below w1.heap.size w1 V := hb2.trans (f2.mono s2)
  refine ⟨r1.below f1, r2.below f2, c.below hb5, hz, fun k h1 h2 => ?_, fun k hk => ⟨fun h => ?_, fun h => ?_⟩, ⟨?_, ?_⟩, hbx, hnt, fun k hk => ?_, fun k hk hn => ?_, o1, fun k hk => ?_, by omega, fun k hk => ?_, hb1.trans (f1.mono s1)⟩
  · have := k1 k h1
    have := o2 k h2
    omega
  · have := k1 k h
    have := hD k hk
    omega
  · have := k2 k h
    have := hD k hk
    omega
  · have := k1 _ (.inr rfl)
    have := f1.size
    omega
  · have := k2 _ (.inr rfl)
    have := f2.size
    omega
  · have := c.lt hk
    omega
  · have := c.lt hk
    have := hnb k hn
    omega
  · have := o2 k hk
    omega
  · have := hD k hk
    omega

theorem Bxn.start {w4 V1 V2 V3 V4 V5 V6 V7 V8 : World} (z : Zc) (D : Nat → Prop) (e1 : V1 = w4.alloc (.cells #[.pointer (some ⟨z.C, 0, none⟩)] (48 : TypeId))) (e2 : V2 = V1.alloc (.cells #[.pointer none] (48 : TypeId))) (e3 : V3 = V2.alloc (.cells zcs (66 : TypeId))) (e4 : V4 = V3.alloc (.cells #[.pointer (some ⟨w4.heap.size + 1 + 1, 0, none⟩)] (48 : TypeId))) (e5 : V5 = V4.alloc (.cells #[vT] (67 : TypeId))) (e6 : V6 = V5.alloc (.cells #[vK] (68 : TypeId)))
    (hb7 : Below V6.heap.size V6 V7) (ht : Tkt V7 V6.heap.size (.func (.func 23) #[] #[])) (e8 : V8 = V7.alloc (.cells #[.slice none 0 0] (71 : TypeId))) :
    Below w4.heap.size w4 V8 ∧ w4.heap.size ≤ V7.heap.size ∧ (∀ k, nbx ⟨z, D, w4.heap.size, w4.heap.size + 1, w4.heap.size + 1 + 1 + 1, w4.heap.size + 1 + 1, w4.heap.size + 1 + 1 + 1 + 1, w4.heap.size + 1 + 1 + 1 + 1 + 1, V7.heap.size, V6.heap.size⟩ k → w4.heap.size ≤ k) ∧ Bxn ⟨z, D, w4.heap.size, w4.heap.size + 1, w4.heap.size + 1 + 1 + 1, w4.heap.size + 1 + 1, w4.heap.size + 1 + 1 + 1 + 1, w4.heap.size + 1 + 1 + 1 + 1 + 1, V7.heap.size, V6.heap.size⟩ V8 ∧ Nt V8 V7.heap.size V7.heap.size 0 none 0 [] := by
  have al : ∀ (W : World) (o : Obj), Below W.heap.size W (W.alloc o) := fun W o => (Below.refl _ W).alloc (Nat.le_refl _) _
  have b1 : Below w4.heap.size w4 V1 := by rw [e1]; exact al _ _
  have b2 : Below V1.heap.size V1 V2 := by rw [e2]; exact al _ _
  have b3 : Below V2.heap.size V2 V3 := by rw [e3]; exact al _ _
  have b4 : Below V3.heap.size V3 V4 := by rw [e4]; exact al _ _
  have b5 : Below V4.heap.size V4 V5 := by rw [e5]; exact al _ _
  have b6 : Below V5.heap.size V5 V6 := by rw [e6]; exact al _ _
  have b8 : Below V7.heap.size V7 V8 := by rw [e8]; exact al _ _
  have z1 : V1.heap.size = w4.heap.size + 1 := by rw [e1]; simp
  have z2 : V2.heap.size = w4.heap.size + 2 := by rw [e2]; simp [z1]
  have z3 : V3.heap.size = w4.heap.size + 3 := by rw [e3]; simp [z2]
  have z4 : V4.heap.size = w4.heap.size + 4 := by rw [e4]; simp [z3]
  have z5 : V5.heap.size = w4.heap.size + 5 := by rw [e5]; simp [z4]
  have z6 : V6.heap.size = w4.heap.size + 6 := by rw [e6]; simp [z5]
  have z7 := hb7.size
  have h1 : V1.heap[w4.heap.size]? = some (.cells #[.pointer (some ⟨z.C, 0, none⟩)] (48 : TypeId) (0, 0)) := by rw [e1]; exact heap_alloc_new _ _
  have h2 : V2.heap[w4.heap.size + 1]? = some (.cells #[.pointer none] (48 : TypeId) (0, 0)) := by rw [e2, ← z1]; exact heap_alloc_new _ _
  have h3 : V3.heap[w4.heap.size + 2]? = some (.cells zcs (66 : TypeId) (0, 0)) := by rw [e3, ← z2]; exact heap_alloc_new _ _
  have h4 : V4.heap[w4.heap.size + 3]? = some (.cells #[.pointer (some ⟨w4.heap.size + 2, 0, none⟩)] (48 : TypeId) (0, 0)) := by rw [e4, ← z3]; exact heap_alloc_new _ _
  have h5 : V5.heap[w4.heap.size + 4]? = some (.cells #[vT] (67 : TypeId) (0, 0)) := by rw [e5, ← z4]; exact heap_alloc_new _ _
  have h6 : V6.heap[w4.heap.size + 5]? = some (.cells #[vK] (68 : TypeId) (0, 0)) := by rw [e6, ← z5]; exact heap_alloc_new _ _
  have h8 : V8.heap[V7.heap.size]? = some (.cells #[.slice none 0 0] (71 : TypeId) (0, 0)) := by rw [e8]; exact heap_alloc_new _ _
  have c6 : Below V6.heap.size V6 V8 := hb7.trans (b8.mono z7)
  have c5 : Below V5.heap.size V5 V8 := b6.trans (c6.mono (by omega))
  have c4 : Below V4.heap.size V4 V8 := b5.trans (c5.mono (by omega))
  have c3 : Below V3.heap.size V3 V8 := b4.trans (c4.mono (by omega))
  have c2 : Below V2.heap.size V2 V8 := b3.trans (c3.mono (by omega))
  have c1 : Below V1.heap.size V1 V8 := b2.trans (c2.mono (by omega))
  exact ⟨b1.trans (c1.mono (by omega)), by omega, fun k hk => by (rcases hk with h | h | h | h | h | h | h <;> (simp only at h; omega)), ⟨(c1.block _ (heap_lt h1)).trans h1, (c2.block _ (heap_lt h2)).trans h2, (c4.block _ (heap_lt h4)).trans h4, (c3.block _ (heap_lt h3)).trans h3, (c5.block _ (heap_lt h5)).trans h5, (c6.block _ (heap_lt h6)).trans h6, ht.below b8⟩, h8, World.ownsRow_nil _ _ _ _, by rw [e8]; simp⟩

theorem Nt.at' {w : World} {base LB n : Nat} {va : Option Addr} {vc : Nat} {xs : List Value} (h : Nt w base LB n va vc xs) (hn : 0 < n) : ∃ g, va = some ⟨g, 0, none⟩ ∧ g < w.heap.size ∧ n ≤ vc ∧ ∀ i, i < n → w.cell? ⟨g, i, none⟩ = xs[i]? := by
  obtain ⟨hl, h2⟩ := h.row
  rcases h2 with ⟨_, h0⟩ | ⟨g, cap, cur, e, _, hc, hle, _, _, ht⟩
  · omega
  · cases e
    refine ⟨g, rfl, heap_lt hc, hle, fun i hi => ?_⟩
    rw [cell_of_row _ _ i _ _ _ hc, ← ht, List.getElem?_take, if_pos (by omega)]
    simp

/-- The four boxes that are read at the end. -/
abbrev Svn (p : Np) (V : World) : Prop := V.cell? ⟨p.NB, 0, none⟩ = some (.pointer none) ∧ V.cell? ⟨p.TB, 0, none⟩ = some (.func (.func 20) #[] #[]) ∧ V.cell? ⟨p.KB, 0, none⟩ = some (.func (.func 21) #[] #[]) ∧ V.cell? ⟨p.CB, 0, none⟩ = some (.pointer (some ⟨p.z.C, 0, none⟩))
theorem Bxn.svn {p : Np} {V : World} (h : Bxn p V) : Svn p V := ⟨cell_of_row _ _ 0 _ _ _ h.nb, cell_of_row _ _ 0 _ _ _ h.tb, cell_of_row _ _ 0 _ _ _ h.kb, cell_of_row _ _ 0 _ _ _ h.cb⟩

theorem Nz.send_over {w0 w : World} {p : Np} {a a' : Ad} {s' : Rs} {b n : Nat} {va : Option Addr} {vc : Nat} {xs : List Value} (h : Nz w0 p w a a' (Rs.aft b) s' n va vc xs) :
    Calls Tryz.prog 26 #[.pointer (some ⟨b, 0, none⟩), .pointer (some ⟨p.z.C, 0, none⟩), .int .i64 1, .func (.func 20) #[] #[]] w fun e w' => e = .returned (.int .i64 152) ∧ Below w.heap.size w w' :=
  send_refused (by decide) (.inr ⟨_, _, _, rfl, rfl⟩) (fun V hV => (refused_over (i := 0) (t := ⟨b, .nilFunc, .nilFunc⟩) (h.r.below hV) rfl (by simp [slt, Rs.live, Tc.goes, on]) (by simp) (h.c.below hV) h.zr).mono fun e w' h => h)
end

end Go.Proofs.YtgjpbekmkhanhaaGreat.CH

/-
  ChansNone: the channel and the boxes at the end: tickets that wait for nothing, a close, tickets at what is closed.
-/
namespace Go.Proofs.YtgjpbekmkhanhaaGreat.CH
open Go.RowKit QW
set_option maxRecDepth 100000
set_option linter.unusedSimpArgs false
set_option linter.unusedVariables false

section
variable {w0 w w' : World} {p : Np} {cl : Bool}
/-- The channel, the boxes. -/
def Clx (w0 : World) (p : Np) (cl : Bool) (V : World) : Prop := ∃ D, Ch V nA p.z 0 ⟨cl, [], [], []⟩ D ∧ (∀ k, D k → ¬ nbx p k ∧ w0.heap.size ≤ k) ∧ Bxn p V ∧ Below w0.heap.size w0 V

theorem Clx.lx {D D' : Nat → Prop} (hb : Bxn p w) (hn : ∀ k, D k → ¬ nbx p k ∧ w0.heap.size ≤ k) (hw : Below w0.heap.size w0 w) (c : Ch w' nA p.z 0 ⟨cl, [], [], []⟩ D') (l : Lx w D w' D') : Clx w0 p cl w' := by
  refine ⟨D', c, fun k hk => ?_, hb.tbn l.tb (fun k hk => (hn k hk).1), hw.trans (l.tb.below (fun k hk => (hn k hk).2) hw.size)⟩
  rcases l.dom k hk with h | h
  · exact hn k h
  · exact ⟨fun e => by have := hb.lt e; omega, Nat.le_trans hw.size h⟩
theorem Clx.below (h : Clx w0 p cl w) (hb : Below w.heap.size w w') : Clx w0 p cl w' := by
  obtain ⟨D, c, hn, b, hw⟩ := h
  exact ⟨D, c.below hb, hn, b.tbn (Tb.of_fresh (S := fun _ => False) hb) (fun _ e => e.elim), hw.trans (hb.mono hw.size)⟩
theorem Clx.svn (h : Clx w0 p cl w) : Svn p w := by
  obtain ⟨D, c, hn, b, hw⟩ := h
  exact b.svn
theorem Clx.bel (h : Clx w0 p cl w) : Below w0.heap.size w0 w := by
  obtain ⟨D, c, hn, b, hw⟩ := h
  exact hw
theorem Nz.clx {a a' : Ad} {s s' : Rs} {n : Nat} {va : Option Addr} {vc : Nat} {xs : List Value} (h : Nz w0 p w a a' s s' n va vc xs) : Clx w0 p false w := ⟨_, h.c, fun k hk => ⟨h.db k hk, h.l4 k hk⟩, h.bx, h.bel⟩

theorem Clx.waitNo (h : Clx w0 p false w) : Calls Tryz.prog 38 #[.pointer (some ⟨p.z.C, 0, none⟩), .pointer none, .func (.func 21) #[] #[]] w fun e w' => e = .returned (.int .i64 1) ∧ Below w.heap.size w w' := by
  obtain ⟨D, c, hn, b, hw⟩ := h
  exact (waitRecv_noTicket c _).mono fun e w' ⟨h1, h2⟩ => ⟨h1, by subst h2; exact Below.refl _ _⟩
theorem Clx.waitNone (w : World) (k : Value) : Calls Tryz.prog 38 #[.pointer none, k, .func (.func 21) #[] #[]] w fun e w' => e = .returned (.int .i64 1) ∧ Below w.heap.size w w' :=
  (noWaitRecv_nil w k _).mono fun e w' ⟨h1, h2⟩ => ⟨h1, by subst h2; exact Below.refl _ _⟩
theorem Clx.waitNil (h : Clx w0 p false w) : Calls Tryz.prog 39 #[.pointer (some ⟨p.z.C, 0, none⟩), .int .i64 1, .pointer (some ⟨p.K, 0, none⟩), .nilFunc] w fun e w' => e = .returned (.int .i64 1) ∧ Below w.heap.size w w' := by
  obtain ⟨D, c, hn, b, hw⟩ := h
  exact waitSend_nothing c b.tk 1

theorem filt_nA {V : World} {l : List Wv} (ht : ∀ x ∈ l, Tkv V nA x) (h : l.filter (al nA) = []) : l = [] := by
  rw [List.filter_eq_nil_iff] at h
  cases l with
  | nil => rfl
  | cons x r =>
    exfalso
    obtain ⟨k, f, hk, _⟩ := ht x (by simp)
    exact h x (by simp) (by simp [al, hk])

theorem Clx.close (h : Clx w0 p false w) : Calls Tryz.prog 33 #[.pointer (some ⟨p.z.C, 0, none⟩)] w fun e w' => e = .returned (.int .i64 0) ∧ Clx w0 p true w' := by
  obtain ⟨D, c, hn, b, hw⟩ := h
  refine (close_open c rfl (fun _ l V => l = [] ∧ Clx w0 p true V) (fun V D' g xs ys hc hl hx hy ht _ => ?_) (fun g x r V ⟨h, _⟩ => by cases h) (fun g l V V' ⟨h1, h2⟩ hb => ⟨h1, h2.below hb⟩)).mono ?_
  · have e1 := filt_nA (fun x h => ht x (List.mem_append_left _ h)) hx
    have e2 := filt_nA (fun x h => ht x (List.mem_append_right _ h)) hy
    subst e1 e2
    exact ⟨rfl, Clx.lx b hn hw hc hl⟩
  · rintro e w' ⟨rfl, g, _, h⟩
    exact ⟨rfl, h⟩
theorem Clx.waitRecv (h : Clx w0 p true w) : Calls Tryz.prog 38 #[.pointer (some ⟨p.z.C, 0, none⟩), .pointer (some ⟨p.K, 0, none⟩), .func (.func 21) #[] #[]] w fun e w' => e = .returned (.int .i64 2) ∧ Clx w0 p true w' := by
  obtain ⟨D, c, hn, b, hw⟩ := h
  exact (waitRecv_arg c b.tk (.inr ⟨⟨_, _, _, rfl⟩, by simp [canR]⟩)).mono fun e w' ⟨h1, D', c', l⟩ => ⟨h1, Clx.lx b hn hw c' l⟩
theorem Clx.waitSend (h : Clx w0 p true w) : Calls Tryz.prog 39 #[.pointer (some ⟨p.z.C, 0, none⟩), .int .i64 1, .pointer (some ⟨p.K, 0, none⟩), .func (.func 20) #[] #[]] w fun e w' => e = .returned (.int .i64 2) ∧ Clx w0 p true w' := by
  obtain ⟨D, c, hn, b, hw⟩ := h
  exact (waitSend_arg c b.tk (.inr ⟨⟨_, _, _, rfl⟩, by simp [canS]⟩)).mono fun e w' ⟨h1, D', c', l⟩ => ⟨h1, Clx.lx b hn hw c' l⟩
end

end Go.Proofs.YtgjpbekmkhanhaaGreat.CH

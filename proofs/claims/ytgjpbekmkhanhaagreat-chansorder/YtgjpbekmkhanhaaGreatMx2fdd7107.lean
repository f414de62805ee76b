/-
  Texts put into one.
-/
import Derived.Test.YtgjpbekmkhanhaaGreatMx1cd497e6
import Derived.Test.YtgjpbekmkhanhaaGreatMx131b1434
import Derived.Deep.RegionHeld3
import Derived.BigQuiet

/-
  A channel in memory: its own block, its buffer, its two lines.
-/
namespace Go.Proofs.YtgjpbekmkhanhaaGreat.CH
open Go.RowKit QW
set_option maxRecDepth 100000

/-- Where a channel lies; its runtime's block, its size. -/
structure Zc where
  C : Nat
  rt : Nat
  size : Nat
  BR : Nat
  SL : Nat
  SR : Nat
  RL : Nat
  RR : Nat

/-- How a channel stands: whether it is closed, its buffer, who waits to send, to receive. -/
structure Cs where
  cl : Bool
  buf : List Int
  snd : List Wv
  rcv : List Wv

def ccs (z : Zc) (cl : Bool) : Array Value := #[.pointer (some ⟨z.C, 0, none⟩), .pointer (some ⟨z.rt, 0, none⟩), .int .i64 z.size, .bool cl, .pointer (some ⟨z.BR, 0, none⟩), .pointer (some ⟨z.SL, 0, none⟩), .pointer (some ⟨z.RL, 0, none⟩)]

structure Cm (w : World) (A : Nat → Bool) (z : Zc) (m : Nat) (s : Cs) (BG : Nat) (DS DR : Nat → Prop) : Prop where
  obj : w.heap[z.C]? = some (.cells (ccs z s.cl) (66 : TypeId) (0, 0))
  bq : ∃ N h, QI.Qu w z.BR BG N h s.buf
  sl : Ln w A z.SL z.SR m s.snd DS
  rl : Ln w A z.RL z.RR m s.rcv DR
  ap : ∀ k, DS k → ¬ DR k
  sz : z.size ≤ 64
  bf : s.buf.length ≤ 200

def cdom (z : Zc) (BG : Nat) (DS DR : Nat → Prop) (k : Nat) : Prop := k = z.C ∨ k = z.BR ∨ k = BG ∨ DS k ∨ DR k

/-- A channel; D: its blocks. -/
def Ch (w : World) (A : Nat → Bool) (z : Zc) (m : Nat) (s : Cs) (D : Nat → Prop) : Prop := ∃ BG DS DR, Cm w A z m s BG DS DR ∧ ∀ k, D k ↔ cdom z BG DS DR k

section
variable {w w' : World} {A A' : Nat → Bool} {z : Zc} {m m' : Nat} {s : Cs} {BG : Nat} {DS DR DS' DR' D D' S : Nat → Prop}

theorem Cm.qobj (c : Cm w A z m s BG DS DR) : ∃ cs, w.heap[z.BR]? = some (.cells cs (161 : TypeId) (0, 0)) := by
  obtain ⟨N, h, q⟩ := c.bq
  exact ⟨_, q.obj⟩
theorem Cm.gobj (c : Cm w A z m s BG DS DR) : ∃ cs, w.heap[BG]? = some (.cells cs 3 (0, 0)) := by
  obtain ⟨N, h, q⟩ := c.bq
  obtain ⟨cur, hc, _⟩ := q.ring
  exact ⟨_, hc⟩
theorem Cm.lt (c : Cm w A z m s BG DS DR) {k : Nat} (hk : cdom z BG DS DR k) : k < w.heap.size := by
  rcases hk with rfl | rfl | rfl | hk | hk
  · exact heap_lt c.obj
  · obtain ⟨_, h⟩ := c.qobj; exact heap_lt h
  · obtain ⟨_, h⟩ := c.gobj; exact heap_lt h
  · exact c.sl.lt hk
  · exact c.rl.lt hk
/-- A line's blocks are none of the others. -/
theorem Cm.line_ne (c : Cm w A z m s BG DS DR) {L R : Nat} {ys : List Wv} {E : Nat → Prop} (l : Ln w A L R m ys E) {k : Nat} (hk : E k) : k ≠ z.C ∧ k ≠ z.BR ∧ k ≠ BG := by
  obtain ⟨cs, t, h1, h2⟩ := l.ty hk
  obtain ⟨_, g1⟩ := c.qobj
  obtain ⟨_, g2⟩ := c.gobj
  refine ⟨ty_ne h1 c.obj ?_, ty_ne h1 g1 ?_, ty_ne h1 g2 ?_⟩ <;> rintro rfl <;> revert h2 <;> decide
theorem Cm.buf_ne (c : Cm w A z m s BG DS DR) : z.C ≠ z.BR ∧ z.C ≠ BG ∧ z.BR ≠ BG := by
  obtain ⟨_, g1⟩ := c.qobj
  obtain ⟨_, g2⟩ := c.gobj
  exact ⟨ty_ne c.obj g1 (by decide), ty_ne c.obj g2 (by decide), ty_ne g1 g2 (by decide)⟩
theorem Cm.notk (c : Cm w A z m s BG DS DR) {k : Nat} {f : Value} (ht : Tkt w k f) : ¬ cdom z BG DS DR k := by
  unfold Tkt at ht
  rintro (rfl | rfl | rfl | hk | hk)
  · exact ty_ne ht c.obj (by decide) rfl
  · obtain ⟨_, h⟩ := c.qobj; exact ty_ne ht h (by decide) rfl
  · obtain ⟨_, h⟩ := c.gobj; exact ty_ne ht h (by decide) rfl
  · exact c.sl.notk ht hk
  · exact c.rl.notk ht hk
/-- Other memory was turned; tickets may have fired. -/
theorem Cm.keep (c : Cm w A z m s BG DS DR) (t : Tb S w w') (hs : ∀ k, cdom z BG DS DR k → ¬ S k) (hk : Kv w A w' A') : Cm w' A' z m { s with snd := s.snd.filter (al A'), rcv := s.rcv.filter (al A') } BG DS DR := by
  obtain ⟨N, h, q⟩ := c.bq
  exact ⟨(t.block _ (heap_lt c.obj) (hs _ (.inl rfl))).trans c.obj, ⟨N, h, q.tb t (hs _ (.inr (.inl rfl))) (hs _ (.inr (.inr (.inl rfl))))⟩, c.sl.keep t (fun k hk => hs k (.inr (.inr (.inr (.inl hk))))) hk, c.rl.keep t (fun k hk => hs k (.inr (.inr (.inr (.inr hk))))) hk, c.ap, c.sz, c.bf⟩
theorem Cm.same (c : Cm w A z m s BG DS DR) (t : Tb S w w') (hs : ∀ k, cdom z BG DS DR k → ¬ S k) (hk : Kv w A w' A) : Cm w' A z m s BG DS DR := by
  have := c.keep t hs hk
  rwa [c.sl.all, c.rl.all] at this
theorem Cm.below (c : Cm w A z m s BG DS DR) (hb : Below w.heap.size w w') : Cm w' A z m s BG DS DR := c.same (Tb.of_fresh (S := fun _ => False) hb) (fun _ _ h => h) (Kv.below A hb)
/-- The line of those who send was turned. -/
theorem Cm.sline (c : Cm w A z m s BG DS DR) (hm : m ≤ m') {ys : List Wv} (l : Ln w' A z.SL z.SR m' ys DS') (x : Lx w DS w' DS') : Cm w' A z m' { s with snd := ys } BG DS' DR := by
  obtain ⟨N, h, q⟩ := c.bq
  have hn := fun k (hk : DS k) => c.line_ne c.sl hk
  refine ⟨(x.tb.block _ (heap_lt c.obj) (fun e => (hn _ e).1 rfl)).trans c.obj, ⟨N, h, q.tb x.tb (fun e => (hn _ e).2.1 rfl) (fun e => (hn _ e).2.2 rfl)⟩, l, (c.rl.same x.tb (fun k h1 h2 => c.ap k h2 h1) (Kv.tb A x.tb (fun k f ht => c.sl.notk ht))).mono hm, fun k h1 h2 => ?_, c.sz, c.bf⟩
  rcases x.dom k h1 with h3 | h3
  · exact c.ap k h3 h2
  · have := c.rl.lt h2; omega
theorem Cm.rline (c : Cm w A z m s BG DS DR) (hm : m ≤ m') {ys : List Wv} (l : Ln w' A z.RL z.RR m' ys DR') (x : Lx w DR w' DR') : Cm w' A z m' { s with rcv := ys } BG DS DR' := by
  obtain ⟨N, h, q⟩ := c.bq
  have hn := fun k (hk : DR k) => c.line_ne c.rl hk
  refine ⟨(x.tb.block _ (heap_lt c.obj) (fun e => (hn _ e).1 rfl)).trans c.obj, ⟨N, h, q.tb x.tb (fun e => (hn _ e).2.1 rfl) (fun e => (hn _ e).2.2 rfl)⟩, (c.sl.same x.tb (fun k h1 h2 => c.ap k h1 h2) (Kv.tb A x.tb (fun k f ht => c.rl.notk ht))).mono hm, l, fun k h1 h2 => ?_, c.sz, c.bf⟩
  rcases x.dom k h2 with h3 | h3
  · exact c.ap k h1 h3
  · have := c.sl.lt h1; omega
/-- The buffer was turned. -/
theorem Cm.buff (c : Cm w A z m s BG DS DR) {b : List Int} (k : QI.Qt w w' z.BR BG b) (hb : b.length ≤ 200) : ∃ BG', Cm w' A z m { s with buf := b } BG' DS DR ∧ Tb (fun k => k = z.BR ∨ k = BG) w w' ∧ (BG' = BG ∨ w.heap.size ≤ BG') := by
  obtain ⟨G', N, h, q, hg, t⟩ := k
  obtain ⟨n1, n2, n3⟩ := c.buf_ne
  have hkv : Kv w A w' A := Kv.tb A t (fun k f ht e => c.notk ht (e.elim (fun e => .inr (.inl e)) (fun e => .inr (.inr (.inl e)))))
  refine ⟨G', ⟨(t.block _ (heap_lt c.obj) (fun e => e.elim n1 n2)).trans c.obj, ⟨N, h, q⟩, c.sl.same t (fun k h1 e => e.elim (c.line_ne c.sl h1).2.1 (c.line_ne c.sl h1).2.2) hkv, c.rl.same t (fun k h1 e => e.elim (c.line_ne c.rl h1).2.1 (c.line_ne c.rl h1).2.2) hkv, c.ap, c.sz, hb⟩, t, hg⟩
theorem cdom_s (h : Lx w DS w' DS') {k : Nat} (hk : cdom z BG DS' DR k) : cdom z BG DS DR k ∨ w.heap.size ≤ k := by
  rcases hk with h1 | h1 | h1 | h1 | h1
  · exact .inl (.inl h1)
  · exact .inl (.inr (.inl h1))
  · exact .inl (.inr (.inr (.inl h1)))
  · exact (h.dom k h1).imp (fun h => .inr (.inr (.inr (.inl h)))) id
  · exact .inl (.inr (.inr (.inr (.inr h1))))
theorem cdom_r (h : Lx w DR w' DR') {k : Nat} (hk : cdom z BG DS DR' k) : cdom z BG DS DR k ∨ w.heap.size ≤ k := by
  rcases hk with h1 | h1 | h1 | h1 | h1
  · exact .inl (.inl h1)
  · exact .inl (.inr (.inl h1))
  · exact .inl (.inr (.inr (.inl h1)))
  · exact .inl (.inr (.inr (.inr (.inl h1))))
  · exact (h.dom k h1).imp (fun h => .inr (.inr (.inr (.inr h)))) id
theorem _root_.Go.Proofs.YtgjpbekmkhanhaaGreat.QW.Lx.sof (h : Lx w DS w' DS') : Lx w (cdom z BG DS DR) w' (cdom z BG DS' DR) := ⟨h.tb.mono (fun _ _ hk => .inr (.inr (.inr (.inl hk)))), fun _ hk => cdom_s h hk⟩
theorem _root_.Go.Proofs.YtgjpbekmkhanhaaGreat.QW.Lx.rof (h : Lx w DR w' DR') : Lx w (cdom z BG DS DR) w' (cdom z BG DS DR') := ⟨h.tb.mono (fun _ _ hk => .inr (.inr (.inr (.inr hk)))), fun _ hk => cdom_r h hk⟩
theorem bof {BG' : Nat} (t : Tb (fun k => k = z.BR ∨ k = BG) w w') (hg : BG' = BG ∨ w.heap.size ≤ BG') : Lx w (cdom z BG DS DR) w' (cdom z BG' DS DR) := by
  refine ⟨t.mono (fun _ _ hk => hk.elim (fun e => .inr (.inl e)) (fun e => .inr (.inr (.inl e)))), fun k hk => ?_⟩
  rcases hk with h1 | h1 | h1 | h1 | h1
  · exact .inl (.inl h1)
  · exact .inl (.inr (.inl h1))
  · subst h1
    exact hg.imp (fun e => .inr (.inr (.inl e))) id
  · exact .inl (.inr (.inr (.inr (.inl h1))))
  · exact .inl (.inr (.inr (.inr (.inr h1))))
theorem Cm.ch (c : Cm w A z m s BG DS DR) : Ch w A z m s (cdom z BG DS DR) := ⟨BG, DS, DR, c, fun _ => Iff.rfl⟩
theorem Cm.c (c : Cm w A z m s BG DS DR) (i : Nat) : w.cell? ⟨z.C, i, none⟩ = (ccs z s.cl)[i]? := cell_of_row w z.C i _ _ (0, 0) c.obj
theorem Ch.lt (h : Ch w A z m s D) {k : Nat} (hk : D k) : k < w.heap.size := by
  obtain ⟨BG, DS, DR, c, hd⟩ := h
  exact c.lt ((hd k).1 hk)
theorem Ch.notk (h : Ch w A z m s D) {k : Nat} {f : Value} (ht : Tkt w k f) : ¬ D k := by
  obtain ⟨BG, DS, DR, c, hd⟩ := h
  exact fun hk => c.notk ht ((hd k).1 hk)
theorem Ch.keep (h : Ch w A z m s D) (t : Tb S w w') (hs : ∀ k, D k → ¬ S k) (hk : Kv w A w' A') : Ch w' A' z m { s with snd := s.snd.filter (al A'), rcv := s.rcv.filter (al A') } D := by
  obtain ⟨BG, DS, DR, c, hd⟩ := h
  exact ⟨BG, DS, DR, c.keep t (fun k h => hs k ((hd k).2 h)) hk, hd⟩
theorem Ch.same (h : Ch w A z m s D) (t : Tb S w w') (hs : ∀ k, D k → ¬ S k) (hk : Kv w A w' A) : Ch w' A z m s D := by
  obtain ⟨BG, DS, DR, c, hd⟩ := h
  exact ⟨BG, DS, DR, c.same t (fun k h => hs k ((hd k).2 h)) hk, hd⟩
theorem Ch.below (h : Ch w A z m s D) (hb : Below w.heap.size w w') : Ch w' A z m s D := h.same (Tb.of_fresh (S := fun _ => False) hb) (fun _ _ h => h) (Kv.below A hb)
theorem Ch.C (h : Ch w A z m s D) : D z.C := by
  obtain ⟨BG, DS, DR, c, hd⟩ := h
  exact (hd _).2 (.inl rfl)
theorem lx_of (hd : ∀ k, D k ↔ DS k) (h : Lx w DS w' DS') : Lx w D w' DS' := ⟨h.tb.mono (fun k _ hk => (hd k).2 hk), fun k hk => (h.dom k hk).imp (hd k).2 id⟩
end

theorem infoC : ∃ j, Tryz.prog.info? (66 : TypeId) = some j ∧ j.size ≠ 0 := by
  have h : (Tryz.prog.info? (66 : TypeId)).map (·.size) = some 7 := by kernel_rfl
  obtain ⟨j, hj, hs⟩ := Option.map_eq_some_iff.1 h
  exact ⟨j, hj, by omega⟩

theorem cmade_yes {w : World} {A : Nat → Bool} {z : Zc} {m : Nat} {s : Cs} {D : Nat → Prop} (h : Ch w A z m s D) :
    Calls Tryz.prog 79 #[.pointer (some ⟨z.C, 0, none⟩)] w fun e w' => e = .returned (.bool true) ∧ w' = w := by
  obtain ⟨BG, DS, DR, c, hd⟩ := h
  have c0 : w.cell? ⟨z.C, 0, none⟩ = some (.pointer (some ⟨z.C, 0, none⟩)) := c.c 0
  clear c hd
  obtain ⟨j, hj, _⟩ := infoC
  have he := eql_self (P := Tryz.prog) (w := w) (tp := (48 : TypeId)) (te := (66 : TypeId)) ⟨z.C, 0, none⟩ Tryz.underlying48 hj
  go_enter Tryz.func79, Tryz.ntmps79
  go_wp2_with fail
  go_ret
  exact ⟨rfl, rfl⟩

theorem cmade_nil (w : World) : Calls Tryz.prog 79 #[.pointer none] w fun e w' => e = .returned (.bool false) ∧ w' = w := by
  go_enter Tryz.func79, Tryz.ntmps79
  go_wp2_with fail
  go_ret
  exact ⟨rfl, rfl⟩

theorem cmade_zero {w : World} {C : Nat} (c0 : w.cell? ⟨C, 0, none⟩ = some (.pointer none)) : Calls Tryz.prog 79 #[.pointer (some ⟨C, 0, none⟩)] w fun e w' => e = .returned (.bool false) ∧ w' = w := by
  have he := eql_nil (P := Tryz.prog) (w := w) (tp := (48 : TypeId)) (te := (66 : TypeId)) ⟨C, 0, none⟩ Tryz.underlying48
  go_enter Tryz.func79, Tryz.ntmps79
  go_wp2_with fail
  go_ret
  exact ⟨rfl, rfl⟩

end Go.Proofs.YtgjpbekmkhanhaaGreat.CH

/-
  A channel: what can be now, how much it has.
-/
namespace Go.Proofs.YtgjpbekmkhanhaaGreat.CH
open Go.RowKit QW
set_option maxRecDepth 100000

section
variable {w : World} {A : Nat → Bool} {z : Zc} {m : Nat} {s : Cs} {D : Nat → Prop}

/-- Whether somebody can send, receive now, those with a ticket left out. -/
def canS (z : Zc) (s : Cs) (kp : Option Addr) : Bool := s.cl || decide (s.buf.length < z.size) || oth s.rcv kp
def canR (s : Cs) (kp : Option Addr) : Bool := s.cl || decide (0 < s.buf.length) || oth s.snd kp

def Tkp (w : World) (kp : Option Addr) : Prop := kp = none ∨ ∃ k g, kp = some ⟨k, 0, none⟩ ∧ Tkt w k g
theorem Tkp.below {w w' : World} {kp : Option Addr} (h : Tkp w kp) (hb : Below w.heap.size w w') : Tkp w' kp := h.imp id (fun ⟨k, g, h1, h2⟩ => ⟨k, g, h1, h2.below hb⟩)

theorem Ch.rother (h : Ch w A z m s D) {kp : Option Addr} (hk : Tkp w kp) :
    Calls Tryz.prog 124 #[.pointer (some ⟨z.RL, 0, none⟩), .pointer kp] w fun e w' => e = .returned (.bool (oth s.rcv kp)) ∧ ∃ D', Ch w' A z m s D' ∧ Lx w D w' D' := by
  obtain ⟨BG, DS, DR, c, hd⟩ := h
  refine (other_any c.rl hk).mono ?_
  rintro e w' ⟨rfl, D', l, x⟩
  exact ⟨rfl, _, (c.rline (Nat.le_refl _) l x).ch, lx_of hd x.rof⟩
theorem Ch.sother (h : Ch w A z m s D) {kp : Option Addr} (hk : Tkp w kp) :
    Calls Tryz.prog 124 #[.pointer (some ⟨z.SL, 0, none⟩), .pointer kp] w fun e w' => e = .returned (.bool (oth s.snd kp)) ∧ ∃ D', Ch w' A z m s D' ∧ Lx w D w' D' := by
  obtain ⟨BG, DS, DR, c, hd⟩ := h
  refine (other_any c.sl hk).mono ?_
  rintro e w' ⟨rfl, D', l, x⟩
  exact ⟨rfl, _, (c.sline (Nat.le_refl _) l x).ch, lx_of hd x.sof⟩
theorem Ch.blen (h : Ch w A z m s D) :
    Calls Tryz.prog 83 #[.pointer (some ⟨z.BR, 0, none⟩)] w fun e w' => e = .returned (.int .i64 s.buf.length) ∧ w' = w := by
  obtain ⟨BG, DS, DR, c, hd⟩ := h
  obtain ⟨N, hh, q⟩ := c.bq
  exact QI.len_yes q
theorem Ch.cs (h : Ch w A z m s D) : w.cell? ⟨z.C, 1, none⟩ = some (.pointer (some ⟨z.rt, 0, none⟩)) ∧ w.cell? ⟨z.C, 2, none⟩ = some (.int .i64 z.size) ∧ w.cell? ⟨z.C, 3, none⟩ = some (.bool s.cl) ∧ w.cell? ⟨z.C, 4, none⟩ = some (.pointer (some ⟨z.BR, 0, none⟩)) ∧ w.cell? ⟨z.C, 5, none⟩ = some (.pointer (some ⟨z.SL, 0, none⟩)) ∧ w.cell? ⟨z.C, 6, none⟩ = some (.pointer (some ⟨z.RL, 0, none⟩)) := by
  obtain ⟨BG, DS, DR, c, hd⟩ := h
  exact ⟨c.c 1, c.c 2, c.c 3, c.c 4, c.c 5, c.c 6⟩
theorem Ch.few (h : Ch w A z m s D) : s.buf.length ≤ 200 ∧ z.size ≤ 64 := by
  obtain ⟨BG, DS, DR, c, hd⟩ := h
  exact ⟨c.bf, c.sz⟩

set_option maxHeartbeats 2000000 in
theorem canSend_any (h : Ch w A z m s D) {kp : Option Addr} (hk : Tkp w kp) :
    Calls Tryz.prog 70 #[.pointer (some ⟨z.C, 0, none⟩), .pointer kp] w fun e w' => e = .returned (.bool (canS z s kp)) ∧ ∃ D', Ch w' A z m s D' ∧ Lx w D w' D' := by
  obtain ⟨_, c2, c3, c4, _, c6⟩ := h.cs
  obtain ⟨hf1, hf2⟩ := h.few
  have FIN0 : Hid (∀ V, Below w.heap.size w V → ∃ D', Ch V A z m s D' ∧ Lx w D V D') := hide (fun V hV => ⟨D, h.below hV, Lx.fresh D hV⟩)
  have HF : ∀ {V : World}, Below w.heap.size w V → V.cell? ⟨z.C, 2, none⟩ = some (.int .i64 z.size) ∧ V.cell? ⟨z.C, 3, none⟩ = some (.bool s.cl) ∧ V.cell? ⟨z.C, 4, none⟩ = some (.pointer (some ⟨z.BR, 0, none⟩)) ∧ V.cell? ⟨z.C, 6, none⟩ = some (.pointer (some ⟨z.RL, 0, none⟩)) := fun hV => by
    obtain ⟨_, d2, d3, d4, _, d6⟩ := (h.below hV).cs
    exact ⟨d2, d3, d4, d6⟩
  obtain ⟨n, hn⟩ : ∃ n, Hid (n = s.buf.length) := ⟨_, hide rfl⟩
  have HL : Hid (∀ V, Below w.heap.size w V → Calls Tryz.prog 83 #[.pointer (some ⟨z.BR, 0, none⟩)] V fun e W => e = .returned (.int .i64 n) ∧ Below w.heap.size w W ∧ W.cell? ⟨z.C, 2, none⟩ = some (.int .i64 z.size) ∧ W.cell? ⟨z.C, 3, none⟩ = some (.bool s.cl) ∧ W.cell? ⟨z.C, 4, none⟩ = some (.pointer (some ⟨z.BR, 0, none⟩)) ∧ W.cell? ⟨z.C, 6, none⟩ = some (.pointer (some ⟨z.RL, 0, none⟩))) := hide (fun V hV => ((h.below hV).blen).mono (by
    rintro e W ⟨rfl, rfl⟩
    exact ⟨by rw [hn.out], hV, HF hV⟩))
  have HO : Hid (∀ V, Below w.heap.size w V → Calls Tryz.prog 124 #[.pointer (some ⟨z.RL, 0, none⟩), .pointer kp] V fun e W => e = .returned (.bool (oth s.rcv kp)) ∧ (W.cell? ⟨z.C, 2, none⟩ = some (.int .i64 z.size) ∧ W.cell? ⟨z.C, 3, none⟩ = some (.bool s.cl) ∧ W.cell? ⟨z.C, 4, none⟩ = some (.pointer (some ⟨z.BR, 0, none⟩)) ∧ W.cell? ⟨z.C, 6, none⟩ = some (.pointer (some ⟨z.RL, 0, none⟩))) ∧ Hid (∃ D', Ch W A z m s D' ∧ Lx w D W D')) := hide (fun V hV => ((h.below hV).rother (hk.below hV)).mono (by
    rintro e W ⟨rfl, D', h', x'⟩
    obtain ⟨_, d2, d3, d4, _, d6⟩ := h'.cs
    exact ⟨rfl, ⟨d2, d3, d4, d6⟩, hide ⟨D', h', (Lx.fresh D hV).trans x'⟩⟩))
  have HQ0 : Hid (∀ V, Below w.heap.size w V → Calls Tryz.prog 83 #[.pointer (some ⟨z.BR, 0, none⟩)] V fun e W => e = .returned (.int .i64 n) ∧ W = V) := hide (fun V hV => by rw [hn.out]; exact (h.below hV).blen)
  rw [← hn.out] at hf1
  have HE : canS z s kp = (s.cl || decide (n < z.size) || oth s.rcv kp) := by rw [hn.out]; rfl
  rw [HE]
  have b0 := Below.refl w.heap.size w
  clear h hk HE HF
  generalize s.cl = cl at *
  generalize oth s.rcv kp = ot at *
  have HQ : Hid (∀ V, Below w.heap.size w V → Calls Tryz.prog 83 #[.pointer (some ⟨z.BR, 0, none⟩)] V fun e W => e = .returned (.int .i64 n) ∧ W = V) := HQ0
  cases cl with
  | true =>
    go_enter Tryz.func70, Tryz.ntmps70
    go_wp2_with fail
    go_quiet (fail)
    go_wp2_with fail
    go_ret
    exact ⟨rfl, FIN0.out _ (below_drewN b0 _)⟩
  | false =>
    by_cases hlt : n < z.size
    · rw [show decide (n < z.size) = true by simpa using hlt]
      have hd : decide ((n : Int) < (z.size : Int)) = true := by simpa using hlt
      go_enter Tryz.func70, Tryz.ntmps70
      go_wp2_with fail
      go_quiet (first | (go_at_call 83; exact Calls.quiet_of_same (HQ.out _ (by first | exact Below.refl _ _ | exact (Below.refl _ _).drew | exact below_drewN (Below.refl _ _) _))))
      go_wp2_with fail
      go_ret
      exact ⟨rfl, FIN0.out _ (below_drewN b0 _)⟩
    · rw [show decide (n < z.size) = false by simpa using hlt]
      go_enter Tryz.func70, Tryz.ntmps70
      go_wp2_with fail
      go_region_held3 (fun V => V.cell? ⟨z.C, 2, none⟩ = some (.int .i64 z.size) ∧ V.cell? ⟨z.C, 3, none⟩ = some (.bool false) ∧ V.cell? ⟨z.C, 4, none⟩ = some (.pointer (some ⟨z.BR, 0, none⟩)) ∧ V.cell? ⟨z.C, 6, none⟩ = some (.pointer (some ⟨z.RL, 0, none⟩)))
        (first | exact ⟨c2, c3, c4, c6⟩ | exact e1)
        (first
          | (go_at_call 83; refine (HL.out _ ?_).mono ?_; (first | exact (Below.refl _ _).drew | assumption); rintro e W ⟨rfl, hV, e1⟩)
          | (go_at_call 124; refine (HO.out _ ?_).mono ?_; (first | exact (Below.refl _ _).drew | assumption); rintro e W2 ⟨rfl, e1, FIN⟩))
      all_goals
        go_wp2_with fail
        go_ret
        exact ⟨rfl, FIN.out⟩
end

end Go.Proofs.YtgjpbekmkhanhaaGreat.CH

/-
  A channel: what can be received now; how much it has; who waits.
-/
namespace Go.Proofs.YtgjpbekmkhanhaaGreat.CH
open Go.RowKit QW
set_option maxRecDepth 100000

section
variable {w : World} {A : Nat → Bool} {z : Zc} {m : Nat} {s : Cs} {D : Nat → Prop}

set_option maxHeartbeats 2000000 in
theorem canRecv_any (h : Ch w A z m s D) {kp : Option Addr} (hk : Tkp w kp) :
    Calls Tryz.prog 76 #[.pointer (some ⟨z.C, 0, none⟩), .pointer kp] w fun e w' => e = .returned (.bool (canR s kp)) ∧ ∃ D', Ch w' A z m s D' ∧ Lx w D w' D' := by
  obtain ⟨_, _, c3, c4, c5, _⟩ := h.cs
  obtain ⟨hf1, hf2⟩ := h.few
  have CL := h.blen
  have CO := h.sother hk
  obtain ⟨n, hn⟩ : ∃ n, Hid (n = s.buf.length) := ⟨_, hide rfl⟩
  have HE : canR s kp = (s.cl || decide (0 < n) || oth s.snd kp) := by rw [hn.out]; rfl
  rw [HE]
  rw [← hn.out] at hf1 CL
  have HH := hide (⟨D, h, Lx.refl w D⟩ : ∃ D', Ch w A z m s D' ∧ Lx w D w D')
  clear h hk HE
  generalize s.cl = cl at *
  generalize oth s.snd kp = ot at *
  cases cl with
  | true =>
    go_enter Tryz.func76, Tryz.ntmps76
    go_wp2_with fail
    go_ret
    exact ⟨rfl, HH.out⟩
  | false =>
    by_cases hlt : 0 < n
    · rw [show decide (0 < n) = true by simpa using hlt]
      go_enter Tryz.func76, Tryz.ntmps76
      go_wp2_with fail
      refine CL.mono ?_
      rintro e w1 ⟨rfl, hw1⟩
      subst w1
      go_wp2_with fail
      go_ret
      exact ⟨rfl, HH.out⟩
    · rw [show decide (0 < n) = false by simpa using hlt]
      go_enter Tryz.func76, Tryz.ntmps76
      go_wp2_with fail
      refine CL.mono ?_
      rintro e w1 ⟨rfl, hw1⟩
      subst w1
      go_wp2_with fail
      refine CO.mono ?_
      rintro e w2 ⟨rfl, FIN⟩
      have FIN := hide FIN
      go_wp2_with fail
      go_ret
      exact ⟨rfl, FIN.out⟩

theorem clen_any (h : Ch w A z m s D) : Calls Tryz.prog 34 #[.pointer (some ⟨z.C, 0, none⟩)] w fun e w' => e = .returned (.int .i64 s.buf.length) ∧ w' = w := by
  have CM := cmade_yes h
  obtain ⟨_, _, _, c4, _, _⟩ := h.cs
  have CL := h.blen
  clear h
  go_enter Tryz.func34, Tryz.ntmps34
  go_wp2_with fail
  refine CM.mono ?_
  rintro e w1 ⟨rfl, hw1⟩
  subst w1
  go_wp2_with fail
  refine CL.mono ?_
  rintro e w1 ⟨rfl, hw1⟩
  subst w1
  go_wp2_with fail
  go_ret
  exact ⟨rfl, rfl⟩

theorem ccap_any (h : Ch w A z m s D) : Calls Tryz.prog 35 #[.pointer (some ⟨z.C, 0, none⟩)] w fun e w' => e = .returned (.int .i64 z.size) ∧ w' = w := by
  have CM := cmade_yes h
  obtain ⟨_, c2, _, _, _, _⟩ := h.cs
  clear h
  go_enter Tryz.func35, Tryz.ntmps35
  go_wp2_with fail
  refine CM.mono ?_
  rintro e w1 ⟨rfl, hw1⟩
  subst w1
  go_wp2_with fail
  go_ret
  exact ⟨rfl, rfl⟩

theorem cclosed_any (h : Ch w A z m s D) : Calls Tryz.prog 36 #[.pointer (some ⟨z.C, 0, none⟩)] w fun e w' => e = .returned (.bool s.cl) ∧ w' = w := by
  have CM := cmade_yes h
  obtain ⟨_, _, c3, _, _, _⟩ := h.cs
  clear h
  generalize s.cl = cl at *
  go_enter Tryz.func36, Tryz.ntmps36
  go_wp2_with fail
  refine CM.mono ?_
  rintro e w1 ⟨rfl, hw1⟩
  subst w1
  go_wp2_with fail
  go_ret
  exact ⟨rfl, rfl⟩

theorem crun_any (h : Ch w A z m s D) : Calls Tryz.prog 32 #[.pointer (some ⟨z.C, 0, none⟩)] w fun e w' => e = .returned (.pointer (some ⟨z.rt, 0, none⟩)) ∧ w' = w := by
  have CM := cmade_yes h
  obtain ⟨c1, _, _, _, _, _⟩ := h.cs
  clear h
  go_enter Tryz.func32, Tryz.ntmps32
  go_wp2_with fail
  refine CM.mono ?_
  rintro e w1 ⟨rfl, hw1⟩
  subst w1
  go_wp2_with fail
  go_ret
  exact ⟨rfl, rfl⟩

theorem can_any (h : Ch w A z m s D) : Calls Tryz.prog 31 #[.pointer (some ⟨z.C, 0, none⟩)] w fun e w' => e = .returned (.tuple #[.bool (canS z s none), .bool (canR s none)]) ∧ ∃ D', Ch w' A z m s D' ∧ Lx w D w' D' := by
  have CM := cmade_yes h
  have CS := canSend_any h (kp := none) (.inl rfl)
  generalize hb : canS z s none = b1 at *
  generalize hc : canR s none = b2 at *
  clear h
  go_enter Tryz.func31, Tryz.ntmps31
  go_wp2_with fail
  refine CM.mono ?_
  rintro e w1 ⟨rfl, hw1⟩
  subst w1
  go_wp2_with fail
  refine CS.mono ?_
  rintro e w2 ⟨rfl, D2, h2, x2⟩
  have CR := canRecv_any h2 (kp := none) (.inl rfl)
  rw [hc] at CR
  have X2 := hide x2
  clear h2 x2 CS CM
  go_wp2_with fail
  refine CR.mono ?_
  rintro e w3 ⟨rfl, D3, h3, x3⟩
  have FIN := hide (⟨D3, h3, X2.out.trans x3⟩ : ∃ D', Ch w3 A z m s D' ∧ Lx w D w3 D')
  clear h3 x3 CR
  go_wp2_with fail
  go_ret2
  exact ⟨rfl, FIN.out⟩

theorem Ch.swaits (h : Ch w A z m s D) : Calls Tryz.prog 89 #[.pointer (some ⟨z.SL, 0, none⟩)] w fun e w' => e = .returned (.int .i64 s.snd.length) ∧ ∃ D', Ch w' A z m s D' ∧ Lx w D w' D' := by
  obtain ⟨BG, DS, DR, c, hd⟩ := h
  refine (waiting_any c.sl).mono ?_
  rintro e w' ⟨rfl, D', l, x⟩
  exact ⟨rfl, _, (c.sline (Nat.le_refl _) l x).ch, lx_of hd x.sof⟩
theorem Ch.rwaits (h : Ch w A z m s D) : Calls Tryz.prog 89 #[.pointer (some ⟨z.RL, 0, none⟩)] w fun e w' => e = .returned (.int .i64 s.rcv.length) ∧ ∃ D', Ch w' A z m s D' ∧ Lx w D w' D' := by
  obtain ⟨BG, DS, DR, c, hd⟩ := h
  refine (waiting_any c.rl).mono ?_
  rintro e w' ⟨rfl, D', l, x⟩
  exact ⟨rfl, _, (c.rline (Nat.le_refl _) l x).ch, lx_of hd x.rof⟩

/-- A channel that quiet calls left as it was. -/
def Cq (w : World) (A : Nat → Bool) (z : Zc) (m : Nat) (s : Cs) (D : Nat → Prop) (V : World) : Prop := ∃ D', Ch V A z m s D' ∧ Lx w D V D'
theorem Cq.below {V V' : World} (h : Cq w A z m s D V) (hb : Below V.heap.size V V') : Cq w A z m s D V' := by
  obtain ⟨D', h1, h2⟩ := h
  exact ⟨D', h1.below hb, h2.trans (Lx.fresh D' hb)⟩
theorem Cq.cs {V : World} (h : Cq w A z m s D V) : V.cell? ⟨z.C, 5, none⟩ = some (.pointer (some ⟨z.SL, 0, none⟩)) ∧ V.cell? ⟨z.C, 6, none⟩ = some (.pointer (some ⟨z.RL, 0, none⟩)) := by
  obtain ⟨D', h1, h2⟩ := h
  obtain ⟨_, _, _, _, h5, h6⟩ := h1.cs
  exact ⟨h5, h6⟩

set_option maxHeartbeats 2000000 in
theorem waits_any (h : Ch w A z m s D) : Calls Tryz.prog 46 #[.pointer (some ⟨z.C, 0, none⟩)] w fun e w' => e = .returned (.tuple #[.int .i64 s.snd.length, .int .i64 s.rcv.length]) ∧ ∃ D', Ch w' A z m s D' ∧ Lx w D w' D' := by
  have CM := cmade_yes h
  have h0 : Cq w A z m s D w := ⟨D, h, Lx.refl w D⟩
  have CA : Hid (∀ V, Cq w A z m s D V → Calls Tryz.prog 89 #[.pointer (some ⟨z.SL, 0, none⟩)] V fun e W => e = .returned (.int .i64 s.snd.length) ∧ (W.cell? ⟨z.C, 5, none⟩ = some (.pointer (some ⟨z.SL, 0, none⟩)) ∧ W.cell? ⟨z.C, 6, none⟩ = some (.pointer (some ⟨z.RL, 0, none⟩))) ∧ Cq w A z m s D W) := hide (fun V hV => by
    obtain ⟨D1, h1, x1⟩ := hV
    refine (h1.swaits).mono ?_
    rintro e W ⟨rfl, D2, h2, x2⟩
    have hq : Cq w A z m s D W := ⟨D2, h2, x1.trans x2⟩
    exact ⟨rfl, hq.cs, hq⟩)
  have CB : Hid (∀ V, Cq w A z m s D V → Calls Tryz.prog 89 #[.pointer (some ⟨z.RL, 0, none⟩)] V fun e W => e = .returned (.int .i64 s.rcv.length) ∧ (W.cell? ⟨z.C, 5, none⟩ = some (.pointer (some ⟨z.SL, 0, none⟩)) ∧ W.cell? ⟨z.C, 6, none⟩ = some (.pointer (some ⟨z.RL, 0, none⟩))) ∧ Cq w A z m s D W) := hide (fun V hV => by
    obtain ⟨D1, h1, x1⟩ := hV
    refine (h1.rwaits).mono ?_
    rintro e W ⟨rfl, D2, h2, x2⟩
    have hq : Cq w A z m s D W := ⟨D2, h2, x1.trans x2⟩
    exact ⟨rfl, hq.cs, hq⟩)
  have hc0 := h0.cs
  have hd0 := hide (h0.below (Below.refl _ w).drew)
  generalize (s.snd.length : Int) = n1 at *
  generalize (s.rcv.length : Int) = n2 at *
  clear h h0
  go_enter Tryz.func46, Tryz.ntmps46
  go_wp2_with fail
  refine CM.mono ?_
  rintro e w1 ⟨rfl, hw1⟩
  subst w1
  clear CM
  go_wp2_with fail
  go_region_held3 (fun V => V.cell? ⟨z.C, 5, none⟩ = some (.pointer (some ⟨z.SL, 0, none⟩)) ∧ V.cell? ⟨z.C, 6, none⟩ = some (.pointer (some ⟨z.RL, 0, none⟩)))
    (first | exact hc0 | exact e1)
    (first
      | (go_at_call_of 89 (Value.pointer (some (Addr.mk z.SL 0 none))); refine (CA.out _ ?_).mono ?_; (first | exact hd0.out | assumption); rintro e W ⟨rfl, e1, hq⟩)
      | (go_at_call_of 89 (Value.pointer (some (Addr.mk z.RL 0 none))); refine (CB.out _ ?_).mono ?_; (first | exact hd0.out | assumption); rintro e W ⟨rfl, e1, hq⟩))
  all_goals
    have FIN := hide hq
    go_wp2_with fail
    go_ret2
    exact ⟨rfl, FIN.out⟩
end

end Go.Proofs.YtgjpbekmkhanhaaGreat.CH

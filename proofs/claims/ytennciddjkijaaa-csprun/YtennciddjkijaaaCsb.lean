/-
  The law's world in memory: a runtime, programs, tasks, events; what of it stays whatever a call does.
-/
import Derived.Test.YtennciddjkijaaaCsa
import Derived.Test.YtennciddjkijaaaCrh
namespace Go.Proofs.Ytennciddjkijaaa
open Go.RowKit QI
set_option maxRecDepth 100000
set_option linter.unusedSimpArgs false

def evc (e : Int × Int × Int) : List Value := [.int .i64 e.1, .int .i64 e.2.1, .int .i64 e.2.2]
theorem evc_length (l : List (Int × Int × Int)) : (l.flatMap evc).length = l.length * 3 := by
  induction l with
  | nil => rfl
  | cons x l ih => simp only [List.flatMap_cons, List.length_append, ih, List.length_cons]; simp [evc]; omega

/-- Memory in which the blocks of F are as they were. -/
def Agr (F : Nat → Prop) (w V : World) : Prop := ∀ k, F k → V.heap[k]? = w.heap[k]?

def targs (B b prog at' : Nat) (why : Int) : Array Value := #[.pointer (some ⟨B, 0, none⟩), .pointer (some ⟨b, 0, none⟩), .int .i64 prog, .int .i64 at', .int .i64 why]

/-- A function that does what a turn does. -/
def Nx (F : Nat → Prop) (w : World) (v : Value) (B b prog at' : Nat) (why : Int) : Prop :=
  ∃ fn caps, v = .func (.func fn) #[] caps ∧ Ent fn ∧ ∀ (V : World) (Ψ : World → Prop), Agr F w V → (Calls Try.prog 43 (targs B b prog at' why) V fun e w' => e = .returned (.tuple #[]) ∧ Ψ w') → Calls Try.prog fn caps V fun e w' => e = .returned (.tuple #[]) ∧ Ψ w'
/-- A function of a why that does what a turn does. -/
def Wk (F : Nat → Prop) (w : World) (v : Value) (B b prog at' : Nat) : Prop :=
  ∃ fn c1 c2 c3 c4, v = .func (.func fn) #[] #[c1, c2, c3, c4] ∧ Ent fn ∧ ∀ (V : World) (why : Int) (Ψ : World → Prop), Agr F w V → (Calls Try.prog 43 (targs B b prog at' why) V fun e w' => e = .returned (.tuple #[]) ∧ Ψ w') → Calls Try.prog fn #[.int .i64 why, c1, c2, c3, c4] V fun e w' => e = .returned (.tuple #[]) ∧ Ψ w'

theorem Nx.keep {F F' : Nat → Prop} {w w' : World} {v : Value} {B b prog at' : Nat} {why : Int} (h : Nx F w v B b prog at' why) (hk : Agr F w w') (hs : ∀ k, F k → F' k) : Nx F' w' v B b prog at' why := by
  obtain ⟨fn, caps, h1, h2, h3⟩ := h
  exact ⟨fn, caps, h1, h2, fun V Ψ ha => h3 V Ψ (fun k hk' => (ha k (hs k hk')).trans (hk k hk'))⟩
theorem Wk.keep {F F' : Nat → Prop} {w w' : World} {v : Value} {B b prog at' : Nat} (h : Wk F w v B b prog at') (hk : Agr F w w') (hs : ∀ k, F k → F' k) : Wk F' w' v B b prog at' := by
  obtain ⟨fn, c1, c2, c3, c4, h1, h2, h3⟩ := h
  exact ⟨fn, c1, c2, c3, c4, h1, h2, fun V why Ψ ha => h3 V why Ψ (fun k hk' => (ha k (hs k hk')).trans (hk k hk'))⟩

/-- How a task stands, in memory. -/
structure Tst (F : Nat → Prop) (w : World) (B : Nat) (run : Option Nat) (i : Nat) (t : Tc) (p : Pt) : Prop where
  le : p.st ≤ 3
  r1 : p.st = 1 → Nx F w t.nx B t.b p.prog p.at' p.why ∧ t.wk = .nilFunc
  r3 : p.st = 3 → t.nx = .nilFunc ∧ Wk F w t.wk B t.b p.prog p.at'
  r2 : p.st = 2 → run = some i ∧ t.nx = .nilFunc ∧ t.wk = .nilFunc
  r0 : p.st = 0 → run ≠ some i ∧ t.nx = .nilFunc ∧ t.wk = .nilFunc

theorem Tst.keep {F F' : Nat → Prop} {w w' : World} {B : Nat} {run : Option Nat} {i : Nat} {t : Tc} {p : Pt} (h : Tst F w B run i t p) (hk : Agr F w w') (hs : ∀ k, F k → F' k) : Tst F' w' B run i t p :=
  ⟨h.le, fun e => ⟨(h.r1 e).1.keep hk hs, (h.r1 e).2⟩, fun e => ⟨(h.r3 e).1, (h.r3 e).2.keep hk hs⟩, h.r2, h.r0⟩
theorem Nx.on {F : Nat → Prop} {w : World} {v : Value} {B b prog at' : Nat} {why : Int} (h : Nx F w v B b prog at' why) : on v = true := by
  obtain ⟨fn, caps, rfl, _⟩ := h
  rfl
theorem Wk.on {F : Nat → Prop} {w : World} {v : Value} {B b prog at' : Nat} (h : Wk F w v B b prog at') : on v = true := by
  obtain ⟨fn, c1, c2, c3, c4, rfl, _⟩ := h
  rfl

/-- The law's world. -/
structure Wm (w : World) (L B : Nat) (pv : Value) (a : Ad) (s : Rs) (σ : Sg) (F : Nat → Prop) (tv ev : Value) : Prop where
  blk : w.heap[B]? = some (.cells #[.pointer (some ⟨a.R, 0, none⟩), pv, tv, ev] (31 : TypeId) (0, 0))
  rt : Rt w a s
  tr : w.ownsRow L (44 : TypeId) 1 tv s.ts.length (s.ts.map fun t => .pointer (some ⟨t.b, 0, none⟩))
  er : w.ownsRow L (64 : TypeId) 3 ev σ.ev.length (σ.ev.flatMap evc)
  lo : ∀ k, own a s k ∨ k = a.Q ∨ k = B → L ≤ k
  fz : ∀ k, F k → L ≤ k ∧ k < w.heap.size ∧ ¬ own a s k ∧ k ≠ B ∧ tv.ownBlock ≠ some k ∧ ev.ownBlock ≠ some k
  ln : s.line = σ.line
  len : s.ts.length = σ.tk.length
  cl : ∀ i t p, s.ts[i]? = some t → σ.tk[i]? = some p → Tst F w B s.run i t p

/-- The blocks of the law's world. -/
def dom (B : Nat) (a : Ad) (s : Rs) (F : Nat → Prop) (tv ev : Value) (k : Nat) : Prop := own a s k ∨ k = a.Q ∨ k = B ∨ tv.ownBlock = some k ∨ ev.ownBlock = some k ∨ F k

theorem Rm.own_ty {w : World} {a : Ad} {s : Rs} {ks : List Int} (h : Rm w a s ks) {k : Nat} (hk : own a s k) {cs : Array Value} {t : TypeId} {fr : Nat × Nat} (hc : w.heap[k]? = some (.cells cs t fr)) : t = (61 : TypeId) ∨ t = (97 : TypeId) ∨ t = 3 ∨ t = (52 : TypeId) := by
  have key : ∀ {c2 : Array Value} {t2 : TypeId}, w.heap[k]? = some (.cells c2 t2 (0, 0)) → t = t2 := fun h2 => by
    rw [hc] at h2
    simp only [Option.some.injEq, Obj.cells.injEq] at h2
    exact h2.2.1
  rcases hk with rfl | rfl | rfl | rfl | ⟨u, hu, rfl⟩
  · exact .inl (key h.obj)
  · obtain ⟨_, h2⟩ := h.que; exact .inr (.inl (key h2))
  · obtain ⟨_, h2⟩ := h.ring; exact .inr (.inr (.inl (key h2)))
  · exact absurd rfl (h.mp.ne hc)
  · obtain ⟨i, hi⟩ := List.getElem?_of_mem hu
    exact .inr (.inr (.inr (key (h.tk i u hi))))

/-- What a call on the law's world leaves. -/
structure Wx (w : World) (F D : Nat → Prop) (bs : List Nat) (w' : World) (F' D' : Nat → Prop) (bs' : List Nat) : Prop where
  tb : Tb D w w'
  dom : ∀ k, D' k → D k ∨ w.heap.size ≤ k
  sub : ∀ k, F k → F' k
  kp : Agr F w w'
  bs : ∃ l, bs' = bs ++ l
  lt : ∀ k, F k → k < w.heap.size

theorem Wx.trans {w w' w'' : World} {F D F' D' F'' D'' : Nat → Prop} {bs bs' bs'' : List Nat} (h : Wx w F D bs w' F' D' bs') (k : Wx w' F' D' bs' w'' F'' D'' bs'') : Wx w F D bs w'' F'' D'' bs'' := by
  obtain ⟨l1, e1⟩ := h.bs
  obtain ⟨l2, e2⟩ := k.bs
  have hz := h.tb.size
  refine ⟨h.tb.trans k.tb (fun i hi hT => (h.dom i hT).elim id (fun h' => by omega)), fun i hi => ?_, fun i hi => k.sub i (h.sub i hi), fun i hi => (k.kp i (h.sub i hi)).trans (h.kp i hi), ⟨l1 ++ l2, by rw [e2, e1, List.append_assoc]⟩, h.lt⟩
  rcases k.dom i hi with h1 | h1
  · exact h.dom i h1
  · exact .inr (by omega)

/-- The law's world, what is in it beside its tale hidden. -/
structure Wd (w : World) (L B : Nat) (pv : Value) (R : Nat) (bs : List Nat) (σ : Sg) (run : Option Nat) (left : Nat) (F D : Nat → Prop) : Prop where
  ex : ∃ a s tv ev, Wm w L B pv a s σ F tv ev ∧ a.R = R ∧ s.ts.map Tc.b = bs ∧ s.run = run ∧ s.left = left ∧ ∀ k, D k ↔ dom B a s F tv ev k

section
variable {w w' : World} {L B : Nat} {pv : Value} {a a' : Ad} {s s' : Rs} {σ σ' : Sg} {F F' D : Nat → Prop} {tv ev : Value} {R : Nat} {bs : List Nat} {run : Option Nat} {left : Nat}

theorem row_type {base n size : Nat} {e : TypeId} {v : Value} {xs : List Value} (h : w.ownsRow base e size v n xs) {g : Nat} (hg : v.ownBlock = some g) : ∃ cs, w.heap[g]? = some (.cells cs e (0, 0)) := by
  rcases h.2 with ⟨rfl, _⟩ | ⟨g', cap, cur, rfl, _, hh, _⟩
  · cases hg
  · simp only [Value.ownBlock, Option.some.injEq] at hg
    subst hg
    exact ⟨_, hh⟩
theorem Wm.tvn (h : Wm w L B pv a s σ F tv ev) {k : Nat} (hk : tv.ownBlock = some k) : ¬ own a s k ∧ k ≠ a.Q ∧ k ≠ B ∧ ev.ownBlock ≠ some k := by
  obtain ⟨cs, hc⟩ := row_type h.tr hk
  refine ⟨fun ho => ?_, ne_type hc h.rt.m.sd (by decide), ne_type hc h.blk (by decide), fun he => ?_⟩
  · have := h.rt.m.own_ty ho hc
    revert this
    decide
  · obtain ⟨c2, h2⟩ := row_type h.er he
    exact ne_type hc h2 (by decide) rfl
theorem Wm.evn (h : Wm w L B pv a s σ F tv ev) {k : Nat} (hk : ev.ownBlock = some k) : ¬ own a s k ∧ k ≠ a.Q ∧ k ≠ B := by
  obtain ⟨cs, hc⟩ := row_type h.er hk
  refine ⟨fun ho => ?_, ne_type hc h.rt.m.sd (by decide), ne_type hc h.blk (by decide)⟩
  have := h.rt.m.own_ty ho hc
  revert this
  decide
theorem Wm.Bn (h : Wm w L B pv a s σ F tv ev) : ¬ own a s B ∧ B ≠ a.Q := by
  refine ⟨fun ho => ?_, ne_type h.blk h.rt.m.sd (by decide)⟩
  have := h.rt.m.own_ty ho h.blk
  revert this
  decide
theorem Wm.dom_lt (h : Wm w L B pv a s σ F tv ev) {k : Nat} (hk : dom B a s F tv ev k) : L ≤ k ∧ k < w.heap.size := by
  rcases hk with hk | rfl | rfl | hk | hk | hk
  · exact ⟨h.lo k (.inl hk), h.rt.m.own_lt hk⟩
  · exact ⟨h.lo _ (.inr (.inl rfl)), h.rt.m.sd.lt⟩
  · exact ⟨h.lo _ (.inr (.inr rfl)), heap_lt h.blk⟩
  · exact h.tr.lt k hk
  · exact h.er.lt k hk
  · exact ⟨(h.fz k hk).1, (h.fz k hk).2.1⟩
/-- Other memory was turned. -/
theorem Wm.tb {S : Nat → Prop} (h : Wm w L B pv a s σ F tv ev) (t : Tb S w w') (hs : ∀ k, dom B a s F tv ev k → ¬ S k) : Wm w' L B pv a s σ F tv ev := by
  refine ⟨(t.block _ (heap_lt h.blk) (hs _ (.inr (.inr (.inl rfl))))).trans h.blk, h.rt.tb t (fun k hk => hs k (hk.elim .inl (fun e => .inr (.inl e)))), row_tb h.tr t (fun g hg => hs g (.inr (.inr (.inr (.inl hg))))), row_tb h.er t (fun g hg => hs g (.inr (.inr (.inr (.inr (.inl hg)))))), h.lo, fun k hk => ?_, h.ln, h.len, fun i u p hi hp => ?_⟩
  · have := h.fz k hk
    exact ⟨this.1, Nat.lt_of_lt_of_le this.2.1 t.size, this.2.2⟩
  · exact (h.cl i u p hi hp).keep (fun k hk => t.block k (h.fz k hk).2.1 (hs k (.inr (.inr (.inr (.inr (.inr hk))))))) (fun _ h => h)
/-- The runtime alone was turned, by one of its calls. -/
theorem Wm.rp (h : Wm w L B pv a s σ F tv ev) (hx : Rp w a s w' a' s') (hb : s'.ts.map Tc.b = s.ts.map Tc.b) (hL : L ≤ w.heap.size) (_hF : ∀ k, F k → F' k) (hF' : ∀ k, F' k → F k ∨ (w.heap.size ≤ k ∧ k < w'.heap.size ∧ ¬ own a' s' k)) (he : σ'.ev = σ.ev) (hln : s'.line = σ'.line) (hlen : s'.ts.length = σ'.tk.length)
    (hcl : (∀ k, F k → w'.heap[k]? = w.heap[k]?) → ∀ i t p, s'.ts[i]? = some t → σ'.tk[i]? = some p → Tst F' w' B s'.run i t p) : Wm w' L B pv a' s' σ' F' tv ev ∧ (∀ k, dom B a' s' F' tv ev k → dom B a s F tv ev k ∨ w.heap.size ≤ k) ∧ Tb (dom B a s F tv ev) w w' ∧ Agr F w w' := by
  have t := hx.x.tb
  have hlen' : s'.ts.length = s.ts.length := by
    have := congrArg List.length hb
    simpa using this
  have hrow : s'.ts.map (fun t => Value.pointer (some ⟨t.b, 0, none⟩)) = s.ts.map (fun t => Value.pointer (some ⟨t.b, 0, none⟩)) := by
    have := congrArg (List.map fun b => Value.pointer (some ⟨b, 0, none⟩)) hb
    simpa [List.map_map, Function.comp_def] using this
  have hag : Agr F w w' := fun k hk => t.block k (h.fz k hk).2.1 (h.fz k hk).2.2.1
  have hz := t.size
  refine ⟨⟨?_, hx.rt, ?_, ?_, ?_, fun k hk => ?_, hln, hlen, hcl hag⟩, fun k hk => ?_, t.mono (fun k _ hk => .inl hk), hag⟩
  · rw [hx.x.R]
    exact (t.block _ (heap_lt h.blk) h.Bn.1).trans h.blk
  · rw [hrow, hlen']
    exact row_tb h.tr t (fun g hg => (h.tvn hg).1)
  · rw [he]
    exact row_tb h.er t (fun g hg => (h.evn hg).1)
  · rintro k (hk | rfl | rfl)
    · rcases hx.x.own hk with h1 | h1
      · exact h.lo k (.inl h1)
      · omega
    · rw [hx.x.Q]; exact h.lo _ (.inr (.inl rfl))
    · exact h.lo _ (.inr (.inr rfl))
  · rcases hF' k hk with h1 | ⟨h1, h2, h3⟩
    · obtain ⟨q1, q2, q3, q4⟩ := h.fz k h1
      exact ⟨q1, by omega, fun ho => (hx.x.own ho).elim q3 (fun h' => by omega), q4⟩
    · refine ⟨by omega, h2, h3, ?_, fun e => ?_, fun e => ?_⟩
      · have := heap_lt h.blk; omega
      · have := (h.tr.lt k e).2; omega
      · have := (h.er.lt k e).2; omega
  · rcases hk with hk | rfl | rfl | hk | hk | hk
    · exact (hx.x.own hk).elim (fun h' => .inl (.inl h')) .inr
    · exact .inl (.inr (.inl hx.x.Q))
    · exact .inl (.inr (.inr (.inl rfl)))
    · exact .inl (.inr (.inr (.inr (.inl hk))))
    · exact .inl (.inr (.inr (.inr (.inr (.inl hk)))))
    · rcases hF' k hk with h1 | h1
      · exact .inl (.inr (.inr (.inr (.inr (.inr h1)))))
      · exact .inr h1.1

theorem Wd.lt (h : Wd w L B pv R bs σ run left F D) {k : Nat} (hk : D k) : L ≤ k ∧ k < w.heap.size := by
  obtain ⟨a, s, tv, ev, m, _, _, _, _, hd⟩ := h.ex
  exact m.dom_lt ((hd k).1 hk)
theorem Wd.tb {S : Nat → Prop} (h : Wd w L B pv R bs σ run left F D) (t : Tb S w w') (hs : ∀ k, D k → ¬ S k) : Wd w' L B pv R bs σ run left F D := by
  obtain ⟨a, s, tv, ev, m, q⟩ := h.ex
  exact ⟨a, s, tv, ev, m.tb t (fun k hk => hs k ((q.2.2.2.2 k).2 hk)), q⟩
theorem Wd.below (h : Wd w L B pv R bs σ run left F D) (hb : Below w.heap.size w w') : Wd w' L B pv R bs σ run left F D :=
  h.tb (S := fun _ => False) (Tb.of_fresh hb) (fun _ _ h => h)
/-- New variables that nobody turns. -/
theorem Wd.box (h : Wd w L B pv R bs σ run left F D) (hb : Below w.heap.size w w') (hL : L ≤ w.heap.size) {N : Nat → Prop} (hN : ∀ k, N k → w.heap.size ≤ k ∧ k < w'.heap.size) :
    Wd w' L B pv R bs σ run left (fun k => F k ∨ N k) (fun k => D k ∨ N k) ∧ Wx w F D bs w' (fun k => F k ∨ N k) (fun k => D k ∨ N k) bs := by
  obtain ⟨a, s, tv, ev, m, q1, q2, q3, q4, hd⟩ := h.ex
  have t : Tb (fun _ => False) w w' := Tb.of_fresh hb
  have m' := m.tb t (fun _ _ h => h)
  have hz := hb.size
  refine ⟨⟨a, s, tv, ev, ⟨m'.blk, m'.rt, m'.tr, m'.er, m'.lo, fun k hk => ?_, m'.ln, m'.len, fun i u p hi hp => (m'.cl i u p hi hp).keep (fun _ _ => rfl) (fun _ h => .inl h)⟩, q1, q2, q3, q4, fun k => ?_⟩, t.mono (fun _ _ h => h.elim), fun k hk => hk.elim .inl (fun h' => .inr (hN k h').1), fun _ h => .inl h, fun k hk => t.block k (m.fz k hk).2.1 (fun h => h), ⟨[], by simp⟩, fun k hk => (m.fz k hk).2.1⟩
  · rcases hk with hk | hk
    · exact m'.fz k hk
    · have h1 := hN k hk
      refine ⟨by omega, h1.2, fun ho => ?_, ?_, fun e => ?_, fun e => ?_⟩
      · have := m.rt.m.own_lt ho; omega
      · have := heap_lt m.blk; omega
      · have := (m.tr.lt k e).2; omega
      · have := (m.er.lt k e).2; omega
  · show D k ∨ N k ↔ _
    rw [hd k]
    unfold dom
    constructor
    · rintro ((h1 | h1 | h1 | h1 | h1 | h1) | h1) <;> simp [h1]
    · rintro (h1 | h1 | h1 | h1 | h1 | h1 | h1) <;> simp [h1]
end

end Go.Proofs.Ytennciddjkijaaa

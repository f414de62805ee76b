/-
  A runtime of tasks in memory: its own block, its line, its tasks by their numbers.
-/
import Derived.Test.YtennciddjkijaaaSdb
import Derived.Test.YtennciddjkijaaaDma
namespace Go.Proofs.Ytennciddjkijaaa
open Go.RowKit QI
set_option maxRecDepth 100000

/-- A func value that is there. -/
def on : Value → Bool
  | .nilFunc => false
  | _ => true

/-- A func value, or none. -/
def Fv (v : Value) : Prop := v = .nilFunc ∨ ∃ f xs ys, v = .func f xs ys
theorem Fv.nil : Fv .nilFunc := .inl rfl
theorem Fv.fn (f : Fn) (xs ys : Array Value) : Fv (.func f xs ys) := .inr ⟨_, _, _, rfl⟩

/-- A task: its block, what its next turn calls, what whoever wakes it makes it ready with. -/
structure Tc where
  b : Nat
  nx : Value
  wk : Value

def Tc.goes (t : Tc) : Bool := on t.nx || on t.wk

/-- Where a runtime lies. -/
structure Ad where
  R : Nat
  Q : Nat
  U : Nat
  G : Nat
  M : Nat

structure Rs where
  ts : List Tc
  line : List Int
  run : Option Nat
  left : Nat

def Rs.adr (s : Rs) (i : Nat) : Nat := (s.ts[i]?.map Tc.b).getD 0
def Rs.rp (s : Rs) : Option Addr := s.run.map fun i => ⟨s.adr i, 0, none⟩
def Rs.live (s : Rs) (i : Nat) : Bool := decide (s.run = some i) || (s.ts[i]?.map Tc.goes).getD false
def Rs.lives (s : Rs) : List Int := ((List.range s.ts.length).filter s.live).map Int.ofNat
def rcs (a : Ad) (s : Rs) : Array Value := #[.pointer (some ⟨a.R, 0, none⟩), .pointer (some ⟨a.Q, 0, none⟩), .map (some a.M), .int .i64 s.ts.length, .pointer s.rp, .int .u64 s.left]
def tcs (a : Ad) (i : Nat) (t : Tc) : Array Value := #[.pointer (some ⟨t.b, 0, none⟩), .pointer (some ⟨a.R, 0, none⟩), .int .i64 i, t.nx, t.wk]

theorem ne_type {w : World} {x y : Nat} {c1 c2 : Array Value} {t1 t2 : TypeId} {f1 f2 : Nat × Nat} (h1 : w.heap[x]? = some (.cells c1 t1 f1)) (h2 : w.heap[y]? = some (.cells c2 t2 f2)) (h : t1 ≠ t2) : x ≠ y := by
  rintro rfl
  rw [h1] at h2
  simp only [Option.some.injEq, Obj.cells.injEq] at h2
  exact h h2.2.1

theorem K3 : Maps.Keyed Try.prog 3 := Maps.int_keyed Try.underlying3
theorem key3 {x : Int} (h : I6 x) : keyOf Try.prog 3 (.int .i64 x) = some (.int .i64 x) := Maps.keyOf_int_mk Try.underlying3 h.wf
theorem mkT (W : World) : (Instr.makeMap (59 : TypeId) none).run Try.prog W = .ok (.map (some W.heap.size)) (W.alloc (.map #[] 0)) := run_makeMap _ _
theorem zeroT (W : World) : (zeroValue (44 : TypeId)).run Try.prog W = .ok (.pointer none) W := by
  have h : (Try.prog.info? (44 : TypeId)).map (·.zero) = some (some (.pointer none)) := by kernel_rfl
  obtain ⟨i, hi, hz⟩ := Option.map_eq_some_iff.1 h
  simp [zeroValue, typeInfo, hi, hz]
theorem has_gt {w : World} {b : Nat} {D : DataW Value} {kt : TypeId} (h : Mp w kt b D) (K : Maps.Keyed Try.prog kt) {key : Value} {kl : Lit} (hkey : keyOf Try.prog kt key = some kl) : Maps.has D kl = (gt D kl).isSome := by
  rcases h.at K hkey with ⟨_, h2, h3⟩ | ⟨v, _, h2, h3⟩ <;> simp [h2, h3]

/-- A map of tasks: these keys, each with its task's pointer. -/
structure Mt (w : World) (M : Nat) (ks : List Int) (f : Int → Nat) : Prop where
  ex : ∃ D, Mp w 3 M D ∧ Maps.size D = ks.length ∧ ∀ k, I6 k → gt D (.int .i64 k) = if k ∈ ks then some (.pointer (some ⟨f k, 0, none⟩)) else none

section
variable {w w' : World} {M : Nat} {ks ls : List Int} {f g : Int → Nat} {S : Nat → Prop}
theorem Mt.lt (h : Mt w M ks f) : M < w.heap.size := by
  obtain ⟨D, h1, _⟩ := h.ex
  exact h1.lt
theorem Mt.heap (h : Mt w M ks f) (e : w'.heap[M]? = w.heap[M]?) : Mt w' M ks f := by
  obtain ⟨D, h1, h2⟩ := h.ex
  exact ⟨D, h1.heap e, h2⟩
theorem Mt.tb (h : Mt w M ks f) (hb : Tb S w w') (hs : ¬ S M) : Mt w' M ks f := h.heap (hb.block M h.lt hs)
theorem Mt.ne (h : Mt w M ks f) {R : Nat} {cs : Array Value} {t : TypeId} {fr : Nat × Nat} (hR : w.heap[R]? = some (.cells cs t fr)) : M ≠ R := by
  obtain ⟨D, h1, _⟩ := h.ex
  obtain ⟨es, clock, hb, _⟩ := h1.own
  rintro rfl
  rw [hb] at hR
  cases hR
theorem Mt.congr (h : Mt w M ks f) (hl : ls.length = ks.length) (hm : ∀ x, x ∈ ls ↔ x ∈ ks) (hf : ∀ x ∈ ks, g x = f x) : Mt w M ls g := by
  obtain ⟨D, h1, h2, h3⟩ := h.ex
  refine ⟨D, h1, h2.trans hl.symm, fun k hk => ?_⟩
  rw [h3 k hk]
  by_cases hx : k ∈ ks
  · rw [if_pos hx, if_pos ((hm k).2 hx), hf k hx]
  · rw [if_neg hx, if_neg (fun h => hx ((hm k).1 h))]
theorem Mt.new (W : World) (f : Int → Nat) : Mt (W.alloc (.map #[] 0)) W.heap.size [] f := by
  exact ⟨_, Mp.of (World.ownsMap_made W Try.prog 3 hold), rfl, fun k _ => rfl⟩
theorem Mt.len (h : Mt w M ks f) (ty : TypeId) : (Builtin.len_ #[(59 : TypeId)] ty #[.map (some M)]).run Try.prog w = .ok (.int .i64 ks.length) w := by
  obtain ⟨D, h1, h2, _⟩ := h.ex
  rw [h1.len Try.underlying59 ty, h2]
theorem Mt.look (h : Mt w M ks f) {k : Int} (hk : I6 k) (hin : k ∈ ks) : (Instr.lookup (59 : TypeId) (.map (some M)) (.int .i64 k) false).run Try.prog w = .ok (.pointer (some ⟨f k, 0, none⟩)) w := by
  obtain ⟨D, h1, _, h3⟩ := h.ex
  rw [h1.look K3 Try.underlying59 (zeroT w) (key3 hk), h3 k hk, if_pos hin]
  rfl
theorem Mt.put (h : Mt w M ks f) {k : Int} (hk : I6 k) (hl : ks.length ≤ 1000) (hn : k ∉ ks) {b : Nat} (hb : g k = b) (hf : ∀ x ∈ ks, g x = f x) :
    ∃ X, (Instr.mapUpdate (59 : TypeId) (.map (some M)) (.int .i64 k) (.pointer (some ⟨b, 0, none⟩))).run Try.prog w = .ok () X ∧ Mt X M (ks ++ [k]) g ∧ Tb (fun i => i = M) w X := by
  obtain ⟨D, h1, h2, h3⟩ := h.ex
  obtain ⟨X, hr, h4, h5⟩ := h1.store K3 Try.underlying59 (by rw [h2]; unfold maxLen; omega) (key3 hk) (.pointer (some ⟨b, 0, none⟩))
  refine ⟨X, hr, ⟨_, h4, ?_, fun k' hk' => ?_⟩, Tb.turned h5 rfl⟩
  · rw [Maps.size_put (h1.own.tidy K3), has_gt h1 K3 (key3 hk), h3 k hk, h2, if_neg hn]
    simp
  · by_cases e : k' = k
    · subst e
      rw [gt_put_same h1.isMap (K3.key (key3 hk)), if_pos (by simp), hb]
    · rw [gt_put_other (by simpa using e), h3 k' hk']
      by_cases hmm : k' ∈ ks
      · rw [if_pos hmm, if_pos (by simp [hmm]), hf k' hmm]
      · rw [if_neg hmm, if_neg (by simp [hmm, e])]
theorem Mt.del (h : Mt w M ks f) {k : Int} (hk : I6 k) (hin : k ∈ ks) (hy : ls.length + 1 = ks.length) (hm : ∀ x, x ∈ ls ↔ x ∈ ks ∧ x ≠ k) (ty : TypeId) :
    ∃ X, (Builtin.delete_ #[(59 : TypeId), 3] ty #[.map (some M), .int .i64 k]).run Try.prog w = .ok (.tuple #[]) X ∧ Mt X M ls f ∧ Tb (fun i => i = M) w X := by
  obtain ⟨D, h1, h2, h3⟩ := h.ex
  obtain ⟨X, hr, h4, h5⟩ := h1.drop K3 Try.underlying59 (key3 hk) ty
  refine ⟨X, hr, ⟨_, h4, ?_, fun k' hk' => ?_⟩, Tb.turned h5 rfl⟩
  · have h6 := Maps.size_del (k := .int .i64 k) (h1.own.tidy K3)
    rw [has_gt h1 K3 (key3 hk), h3 k hk, h2, if_pos hin] at h6
    simp only [Option.isSome_some, if_true] at h6
    omega
  · by_cases e : k' = k
    · subst e
      rw [gt_del_same, if_neg (fun h => ((hm k').1 h).2 rfl)]
    · rw [gt_del_other (by simpa using e), h3 k' hk']
      have : (k' ∈ ls) ↔ k' ∈ ks := by rw [hm]; simp [e]
      by_cases hmm : k' ∈ ks
      · rw [if_pos hmm, if_pos (this.2 hmm)]
      · rw [if_neg hmm, if_neg (fun h => hmm (this.1 h))]
end

/-- A runtime in memory; ks: the tasks that its map has. -/
structure Rm (w : World) (a : Ad) (s : Rs) (ks : List Int) : Prop where
  obj : w.heap[a.R]? = some (.cells (rcs a s) (61 : TypeId) (0, 0))
  sd : Sd w a.Q a.U
  qu : ∃ N h, Qu w a.U a.G N h s.line
  mp : Mt w a.M ks fun k => s.adr k.toNat
  tk : ∀ (i : Nat) (t : Tc), s.ts[i]? = some t → w.heap[t.b]? = some (.cells (tcs a i t) (52 : TypeId) (0, 0))

/-- The blocks that a runtime's calls may turn. -/
def own (a : Ad) (s : Rs) (k : Nat) : Prop := k = a.R ∨ k = a.U ∨ k = a.G ∨ k = a.M ∨ ∃ t ∈ s.ts, t.b = k

section
variable {w w' : World} {a : Ad} {s s' : Rs} {ks : List Int} {S : Nat → Prop}
theorem adr_of {i : Nat} {t : Tc} (h : s.ts[i]? = some t) : s.adr i = t.b := by simp [Rs.adr, h]
theorem Rm.ring (h : Rm w a s ks) : ∃ cs : Array Value, w.heap[a.G]? = some (.cells cs 3 (0, 0)) := by
  obtain ⟨N, hd, q⟩ := h.qu
  obtain ⟨cur, hc, _⟩ := q.ring
  exact ⟨_, hc⟩
theorem Rm.que (h : Rm w a s ks) : ∃ cs : Array Value, w.heap[a.U]? = some (.cells cs (97 : TypeId) (0, 0)) := by
  obtain ⟨N, hd, q⟩ := h.qu
  exact ⟨_, q.obj⟩
theorem Rm.inj (h : Rm w a s ks) {i j : Nat} {t u : Tc} (hi : s.ts[i]? = some t) (hj : s.ts[j]? = some u) (e : t.b = u.b) : i = j := by
  have h1 := h.tk i t hi
  have h2 := h.tk j u hj
  rw [e, h2] at h1
  simp [tcs] at h1
  omega
theorem Rm.own_lt (h : Rm w a s ks) {k : Nat} (hk : own a s k) : k < w.heap.size := by
  rcases hk with rfl | rfl | rfl | rfl | ⟨t, ht, rfl⟩
  · exact heap_lt h.obj
  · obtain ⟨_, hc⟩ := h.que; exact heap_lt hc
  · obtain ⟨_, hc⟩ := h.ring; exact heap_lt hc
  · exact h.mp.lt
  · obtain ⟨i, hi⟩ := List.getElem?_of_mem ht
    exact heap_lt (h.tk i t hi)
theorem Rm.tb (h : Rm w a s ks) (hb : Tb S w w') (hs : ∀ k, own a s k ∨ k = a.Q → ¬ S k) : Rm w' a s ks := by
  obtain ⟨N, hd, q⟩ := h.qu
  refine ⟨(hb.block _ (heap_lt h.obj) (hs _ (.inl (.inl rfl)))).trans h.obj, h.sd.tb hb (hs _ (.inr rfl)), ⟨N, hd, q.tb hb (hs _ (.inl (.inr (.inl rfl)))) (hs _ (.inl (.inr (.inr (.inl rfl)))))⟩, h.mp.tb hb (hs _ (.inl (.inr (.inr (.inr (.inl rfl)))))), fun i t hi => ?_⟩
  have h1 := h.tk i t hi
  exact (hb.block _ (heap_lt h1) (hs _ (.inl (.inr (.inr (.inr (.inr ⟨t, List.mem_of_getElem? hi, rfl⟩))))))).trans h1
theorem Rm.below (h : Rm w a s ks) (hb : Below w.heap.size w w') : Rm w' a s ks :=
  h.tb (S := fun _ => False) (Tb.of_fresh hb) (fun _ _ h => h)
/-- The runtime's own block is turned. -/
theorem Rm.robj (h : Rm w a s ks) (t : Tb (fun k => k = a.R) w w') (ho : w'.heap[a.R]? = some (.cells (rcs a s') (61 : TypeId) (0, 0))) (e1 : s'.ts = s.ts) (e2 : s'.line = s.line) : Rm w' a s' ks := by
  obtain ⟨N, hd, q⟩ := h.qu
  obtain ⟨c1, hc1⟩ := h.ring
  have ea : s'.adr = s.adr := by funext i; simp [Rs.adr, e1]
  refine ⟨ho, h.sd.tb t (ne_type h.sd h.obj (by decide)), ⟨N, hd, by rw [e2]; exact q.tb t (ne_type q.obj h.obj (by decide)) (ne_type hc1 h.obj (by decide))⟩, by rw [ea]; exact h.mp.tb t (h.mp.ne h.obj), fun i u hi => ?_⟩
  rw [e1] at hi
  have h1 := h.tk i u hi
  exact (t.block _ (heap_lt h1) (ne_type h1 h.obj (by decide))).trans h1
theorem adr_set {i : Nat} {t u : Tc} (hi : s.ts[i]? = some t) (hb : u.b = t.b) (k : Nat) : (({ s with ts := s.ts.set i u } : Rs)).adr k = s.adr k := by
  simp only [Rs.adr, List.getElem?_set]
  by_cases e : i = k
  · subst e
    have hl : i < s.ts.length := (List.getElem?_eq_some_iff.1 hi).1
    simp [hl, hb, (List.getElem?_eq_some_iff.1 hi).2]
  · simp [e]
/-- A task's block is turned. -/
theorem Rm.tobj (h : Rm w a s ks) {i : Nat} {t u : Tc} (hi : s.ts[i]? = some t) (hb : u.b = t.b) (hT : Tb (fun k => k = t.b) w w') (ho : w'.heap[t.b]? = some (.cells (tcs a i u) (52 : TypeId) (0, 0))) : Rm w' a { s with ts := s.ts.set i u } ks := by
  obtain ⟨N, hd, q⟩ := h.qu
  obtain ⟨c1, hc1⟩ := h.ring
  have h0 := h.tk i t hi
  have ea : (({ s with ts := s.ts.set i u } : Rs)).adr = s.adr := funext (adr_set hi hb)
  have er : rcs a { s with ts := s.ts.set i u } = rcs a s := by simp [rcs, Rs.rp, ea]
  refine ⟨?_, h.sd.tb hT (ne_type h.sd h0 (by decide)), ⟨N, hd, q.tb hT (ne_type q.obj h0 (by decide)) (ne_type hc1 h0 (by decide))⟩, by rw [ea]; exact h.mp.tb hT (h.mp.ne h0), fun j v hj => ?_⟩
  · rw [er]
    exact (hT.block _ (heap_lt h.obj) (ne_type h.obj h0 (by decide))).trans h.obj
  · simp only [List.getElem?_set] at hj
    by_cases e : i = j
    · subst e
      have hl : i < s.ts.length := (List.getElem?_eq_some_iff.1 hi).1
      simp only [if_pos, hl, Option.some.injEq] at hj
      subst hj
      rw [hb]
      exact ho
    · rw [if_neg e] at hj
      have h1 := h.tk j v hj
      exact (hT.block _ (heap_lt h1) (fun e' => e (h.inj hi hj e'.symm))).trans h1
/-- The line is turned. -/
theorem Rm.turn (h : Rm w a s ks) {ys : List Int} (k : Qt w w' a.U a.G ys) : ∃ G', (G' = a.G ∨ w.heap.size ≤ G') ∧ Rm w' { a with G := G' } { s with line := ys } ks ∧ Tb (own a s) w w' := by
  obtain ⟨G', N', hd', q', hg, t⟩ := k
  obtain ⟨N, hd, q⟩ := h.qu
  obtain ⟨c1, hc1⟩ := h.ring
  have hS : ∀ {x : Nat} {cs : Array Value} {tt : TypeId} {fr : Nat × Nat}, w.heap[x]? = some (.cells cs tt fr) → tt ≠ (97 : TypeId) → tt ≠ 3 → ¬ (x = a.U ∨ x = a.G) := fun hx n1 n2 e => e.elim (ne_type hx q.obj n1) (ne_type hx hc1 n2)
  refine ⟨G', hg, ⟨(t.block _ (heap_lt h.obj) (hS h.obj (by decide) (by decide))).trans h.obj, h.sd.tb t (hS h.sd (by decide) (by decide)), ⟨_, _, q'⟩, h.mp.tb t (fun e => e.elim (h.mp.ne q.obj) (h.mp.ne hc1)), fun i u hi => ?_⟩, t.mono (fun i _ e => e.elim (fun e => .inr (.inl e)) (fun e => .inr (.inr (.inl e))))⟩
  have h1 := h.tk i u hi
  exact (t.block _ (heap_lt h1) (hS h1 (by decide) (by decide))).trans h1
theorem Rm.map (h : Rm w a s ks) {ls : List Int} (t : Tb (fun k => k = a.M) w w') (hm : Mt w' a.M ls fun k => s.adr k.toNat) : Rm w' a s ls := by
  obtain ⟨N, hd, q⟩ := h.qu
  obtain ⟨c1, hc1⟩ := h.ring
  refine ⟨(t.block _ (heap_lt h.obj) (fun e => h.mp.ne h.obj e.symm)).trans h.obj, h.sd.tb t (fun e => h.mp.ne h.sd e.symm), ⟨N, hd, q.tb t (fun e => h.mp.ne q.obj e.symm) (fun e => h.mp.ne hc1 e.symm)⟩, hm, fun i u hi => ?_⟩
  have h1 := h.tk i u hi
  exact (t.block _ (heap_lt h1) (fun e => h.mp.ne h1 e.symm)).trans h1
theorem Rm.cR (h : Rm w a s ks) (i : Nat) : w.cell? ⟨a.R, i, none⟩ = (rcs a s)[i]? := cell_of_row w a.R i _ _ (0, 0) h.obj
theorem Rm.cT (h : Rm w a s ks) {i : Nat} {t : Tc} (hi : s.ts[i]? = some t) (j : Nat) : w.cell? ⟨t.b, j, none⟩ = (tcs a i t)[j]? := cell_of_row w t.b j _ _ (0, 0) (h.tk i t hi)
theorem Rm.fR (h : Rm w a s ks) (i : Nat) : w.frozen? ⟨a.R, i, none⟩ = false := frozen_of_row w a.R i _ _ h.obj
theorem Rm.fT (h : Rm w a s ks) {i : Nat} {t : Tc} (hi : s.ts[i]? = some t) (j : Nat) : w.frozen? ⟨t.b, j, none⟩ = false := frozen_of_row w t.b j _ _ (h.tk i t hi)
end

end Go.Proofs.Ytennciddjkijaaa

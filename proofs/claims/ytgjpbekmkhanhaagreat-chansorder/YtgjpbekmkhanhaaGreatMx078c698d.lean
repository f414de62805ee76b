/-
  Texts put into one.
-/
import Derived.Test.YtgjpbekmkhanhaaGreatMx9cbc8c5e
import Derived.Test.YtgjpbekmkhanhaaGreatDma

/-
  A runtime of tasks in memory: its own block, its line, its tasks by their numbers.
-/
namespace Go.Proofs.YtgjpbekmkhanhaaGreat
open Go.RowKit QI
set_option maxRecDepth 100000

/-- A func value that is there. -/
def on : Value → Bool
  | .nilFunc => false
  | _ => true

/-- A func value, or none. -/
def Fv (v : Value) : Prop := v = .nilFunc ∨ ∃ f xs ys, v = .func f xs ys
theorem Fv.nil : Fv .nilFunc := .inl rfl
theorem Fv.fn (f : Fn) (xs ys : Array Value) : Fv (.func f xs ys) := .inr ⟨_, _, _, rfl⟩

/-- A task: its block, what its next turn calls, what whoever wakes it makes it ready with. -/
structure Tc where
  b : Nat
  nx : Value
  wk : Value

def Tc.goes (t : Tc) : Bool := on t.nx || on t.wk

/-- Where a runtime lies. -/
structure Ad where
  R : Nat
  Q : Nat
  U : Nat
  G : Nat
  M : Nat

structure Rs where
  ts : List Tc
  line : List Int
  run : Option Nat
  left : Nat

def Rs.adr (s : Rs) (i : Nat) : Nat := (s.ts[i]?.map Tc.b).getD 0
def Rs.rp (s : Rs) : Option Addr := s.run.map fun i => ⟨s.adr i, 0, none⟩
def Rs.live (s : Rs) (i : Nat) : Bool := decide (s.run = some i) || (s.ts[i]?.map Tc.goes).getD false
def Rs.lives (s : Rs) : List Int := ((List.range s.ts.length).filter s.live).map Int.ofNat
def rcs (a : Ad) (s : Rs) : Array Value := #[.pointer (some ⟨a.R, 0, none⟩), .pointer (some ⟨a.Q, 0, none⟩), .map (some a.M), .int .i64 s.ts.length, .pointer s.rp, .int .u64 s.left]
def tcs (a : Ad) (i : Nat) (t : Tc) : Array Value := #[.pointer (some ⟨t.b, 0, none⟩), .pointer (some ⟨a.R, 0, none⟩), .int .i64 i, t.nx, t.wk]

theorem ne_type {w : World} {x y : Nat} {c1 c2 : Array Value} {t1 t2 : TypeId} {f1 f2 : Nat × Nat} (h1 : w.heap[x]? = some (.cells c1 t1 f1)) (h2 : w.heap[y]? = some (.cells c2 t2 f2)) (h : t1 ≠ t2) : x ≠ y := by
  rintro rfl
  rw [h1] at h2
  simp only [Option.some.injEq, Obj.cells.injEq] at h2
  exact h h2.2.1

theorem K3 : Maps.Keyed Tryz.prog 3 := Maps.int_keyed Tryz.underlying3
theorem key3 {x : Int} (h : I6 x) : keyOf Tryz.prog 3 (.int .i64 x) = some (.int .i64 x) := Maps.keyOf_int_mk Tryz.underlying3 h.wf
theorem mkT (W : World) : (Instr.makeMap (59 : TypeId) none).run Tryz.prog W = .ok (.map (some W.heap.size)) (W.alloc (.map #[] 0)) := run_makeMap _ _
theorem zeroT (W : World) : (zeroValue (60 : TypeId)).run Tryz.prog W = .ok (.pointer none) W := by
  have h : (Tryz.prog.info? (60 : TypeId)).map (·.zero) = some (some (.pointer none)) := by kernel_rfl
  obtain ⟨i, hi, hz⟩ := Option.map_eq_some_iff.1 h
  simp [zeroValue, typeInfo, hi, hz]
theorem has_gt {w : World} {b : Nat} {D : DataW Value} {kt : TypeId} (h : Mp w kt b D) (K : Maps.Keyed Tryz.prog kt) {key : Value} {kl : Lit} (hkey : keyOf Tryz.prog kt key = some kl) : Maps.has D kl = (gt D kl).isSome := by
  rcases h.at K hkey with ⟨_, h2, h3⟩ | ⟨v, _, h2, h3⟩ <;> simp [h2, h3]

/-- A map of tasks: these keys, each with its task's pointer. -/
structure Mt (w : World) (M : Nat) (ks : List Int) (f : Int → Nat) : Prop where
  ex : ∃ D, Mp w 3 M D ∧ Maps.size D = ks.length ∧ ∀ k, I6 k → gt D (.int .i64 k) = if k ∈ ks then some (.pointer (some ⟨f k, 0, none⟩)) else none

section
variable {w w' : World} {M : Nat} {ks ls : List Int} {f g : Int → Nat} {S : Nat → Prop}
theorem Mt.lt (h : Mt w M ks f) : M < w.heap.size := by
  obtain ⟨D, h1, _⟩ := h.ex
  exact h1.lt
theorem Mt.heap (h : Mt w M ks f) (e : w'.heap[M]? = w.heap[M]?) : Mt w' M ks f := by
  obtain ⟨D, h1, h2⟩ := h.ex
  exact ⟨D, h1.heap e, h2⟩
theorem Mt.tb (h : Mt w M ks f) (hb : Tb S w w') (hs : ¬ S M) : Mt w' M ks f := h.heap (hb.block M h.lt hs)
theorem Mt.ne (h : Mt w M ks f) {R : Nat} {cs : Array Value} {t : TypeId} {fr : Nat × Nat} (hR : w.heap[R]? = some (.cells cs t fr)) : M ≠ R := by
  obtain ⟨D, h1, _⟩ := h.ex
  obtain ⟨es, clock, hb, _⟩ := h1.own
  rintro rfl
  rw [hb] at hR
  cases hR
theorem Mt.congr (h : Mt w M ks f) (hl : ls.length = ks.length) (hm : ∀ x, x ∈ ls ↔ x ∈ ks) (hf : ∀ x ∈ ks, g x = f x) : Mt w M ls g := by
  obtain ⟨D, h1, h2, h3⟩ := h.ex
  refine ⟨D, h1, h2.trans hl.symm, fun k hk => ?_⟩
  rw [h3 k hk]
  by_cases hx : k ∈ ks
  · rw [if_pos hx, if_pos ((hm k).2 hx), hf k hx]
  · rw [if_neg hx, if_neg (fun h => hx ((hm k).1 h))]
theorem Mt.new (W : World) (f : Int → Nat) : Mt (W.alloc (.map #[] 0)) W.heap.size [] f := by
  exact ⟨_, Mp.of (World.ownsMap_made W Tryz.prog 3 hold), rfl, fun k _ => rfl⟩
theorem Mt.len (h : Mt w M ks f) (ty : TypeId) : (Builtin.len_ #[(59 : TypeId)] ty #[.map (some M)]).run Tryz.prog w = .ok (.int .i64 ks.length) w := by
  obtain ⟨D, h1, h2, _⟩ := h.ex
  rw [h1.len Tryz.underlying59 ty, h2]
theorem Mt.look (h : Mt w M ks f) {k : Int} (hk : I6 k) (hin : k ∈ ks) : (Instr.lookup (59 : TypeId) (.map (some M)) (.int .i64 k) false).run Tryz.prog w = .ok (.pointer (some ⟨f k, 0, none⟩)) w := by
  obtain ⟨D, h1, _, h3⟩ := h.ex
  rw [h1.look K3 Tryz.underlying59 (zeroT w) (key3 hk), h3 k hk, if_pos hin]
  rfl
theorem Mt.put (h : Mt w M ks f) {k : Int} (hk : I6 k) (hl : ks.length ≤ 1000) (hn : k ∉ ks) {b : Nat} (hb : g k = b) (hf : ∀ x ∈ ks, g x = f x) :
    ∃ X, (Instr.mapUpdate (59 : TypeId) (.map (some M)) (.int .i64 k) (.pointer (some ⟨b, 0, none⟩))).run Tryz.prog w = .ok () X ∧ Mt X M (ks ++ [k]) g ∧ Tb (fun i => i = M) w X := by
  obtain ⟨D, h1, h2, h3⟩ := h.ex
  obtain ⟨X, hr, h4, h5⟩ := h1.store K3 Tryz.underlying59 (by rw [h2]; unfold maxLen; omega) (key3 hk) (.pointer (some ⟨b, 0, none⟩))
  refine ⟨X, hr, ⟨_, h4, ?_, fun k' hk' => ?_⟩, Tb.turned h5 rfl⟩
  · rw [Maps.size_put (h1.own.tidy K3), has_gt h1 K3 (key3 hk), h3 k hk, h2, if_neg hn]
    simp
  · by_cases e : k' = k
    · subst e
      rw [gt_put_same h1.isMap (K3.key (key3 hk)), if_pos (by simp), hb]
    · rw [gt_put_other (by simpa using e), h3 k' hk']
      by_cases hmm : k' ∈ ks
      · rw [if_pos hmm, if_pos (by simp [hmm]), hf k' hmm]
      · rw [if_neg hmm, if_neg (by simp [hmm, e])]
theorem Mt.del (h : Mt w M ks f) {k : Int} (hk : I6 k) (hin : k ∈ ks) (hy : ls.length + 1 = ks.length) (hm : ∀ x, x ∈ ls ↔ x ∈ ks ∧ x ≠ k) (ty : TypeId) :
    ∃ X, (Builtin.delete_ #[(59 : TypeId), 3] ty #[.map (some M), .int .i64 k]).run Tryz.prog w = .ok (.tuple #[]) X ∧ Mt X M ls f ∧ Tb (fun i => i = M) w X := by
  obtain ⟨D, h1, h2, h3⟩ := h.ex
  obtain ⟨X, hr, h4, h5⟩ := h1.drop K3 Tryz.underlying59 (key3 hk) ty
  refine ⟨X, hr, ⟨_, h4, ?_, fun k' hk' => ?_⟩, Tb.turned h5 rfl⟩
  · have h6 := Maps.size_del (k := .int .i64 k) (h1.own.tidy K3)
    rw [has_gt h1 K3 (key3 hk), h3 k hk, h2, if_pos hin] at h6
    simp only [Option.isSome_some, if_true] at h6
    omega
  · by_cases e : k' = k
    · subst e
      rw [gt_del_same, if_neg (fun h => ((hm k').1 h).2 rfl)]
    · rw [gt_del_other (by simpa using e), h3 k' hk']
      have : (k' ∈ ls) ↔ k' ∈ ks := by rw [hm]; simp [e]
      by_cases hmm : k' ∈ ks
      · rw [if_pos hmm, if_pos (this.2 hmm)]
      · rw [if_neg hmm, if_neg (fun h => hmm (this.1 h))]
end

/-- A runtime in memory; ks: the tasks that its map has. -/
structure Rm (w : World) (a : Ad) (s : Rs) (ks : List Int) : Prop where
  obj : w.heap[a.R]? = some (.cells (rcs a s) (62 : TypeId) (0, 0))
  sd : Sd w a.Q a.U
  qu : ∃ N h, Qu w a.U a.G N h s.line
  mp : Mt w a.M ks fun k => s.adr k.toNat
  tk : ∀ (i : Nat) (t : Tc), s.ts[i]? = some t → w.heap[t.b]? = some (.cells (tcs a i t) (130 : TypeId) (0, 0))

/-- The blocks that a runtime's calls may turn. -/
def own (a : Ad) (s : Rs) (k : Nat) : Prop := k = a.R ∨ k = a.U ∨ k = a.G ∨ k = a.M ∨ ∃ t ∈ s.ts, t.b = k

section
variable {w w' : World} {a : Ad} {s s' : Rs} {ks : List Int} {S : Nat → Prop}
theorem adr_of {i : Nat} {t : Tc} (h : s.ts[i]? = some t) : s.adr i = t.b := by simp [Rs.adr, h]
theorem Rm.ring (h : Rm w a s ks) : ∃ cs : Array Value, w.heap[a.G]? = some (.cells cs 3 (0, 0)) := by
  obtain ⟨N, hd, q⟩ := h.qu
  obtain ⟨cur, hc, _⟩ := q.ring
  exact ⟨_, hc⟩
theorem Rm.que (h : Rm w a s ks) : ∃ cs : Array Value, w.heap[a.U]? = some (.cells cs (161 : TypeId) (0, 0)) := by
  obtain ⟨N, hd, q⟩ := h.qu
  exact ⟨_, q.obj⟩
theorem Rm.inj (h : Rm w a s ks) {i j : Nat} {t u : Tc} (hi : s.ts[i]? = some t) (hj : s.ts[j]? = some u) (e : t.b = u.b) : i = j := by
  have h1 := h.tk i t hi
  have h2 := h.tk j u hj
  rw [e, h2] at h1
  simp [tcs] at h1
  omega
theorem Rm.own_lt (h : Rm w a s ks) {k : Nat} (hk : own a s k) : k < w.heap.size := by
  rcases hk with rfl | rfl | rfl | rfl | ⟨t, ht, rfl⟩
  · exact heap_lt h.obj
  · obtain ⟨_, hc⟩ := h.que; exact heap_lt hc
  · obtain ⟨_, hc⟩ := h.ring; exact heap_lt hc
  · exact h.mp.lt
  · obtain ⟨i, hi⟩ := List.getElem?_of_mem ht
    exact heap_lt (h.tk i t hi)
theorem Rm.tb (h : Rm w a s ks) (hb : Tb S w w') (hs : ∀ k, own a s k ∨ k = a.Q → ¬ S k) : Rm w' a s ks := by
  obtain ⟨N, hd, q⟩ := h.qu
  refine ⟨(hb.block _ (heap_lt h.obj) (hs _ (.inl (.inl rfl)))).trans h.obj, h.sd.tb hb (hs _ (.inr rfl)), ⟨N, hd, q.tb hb (hs _ (.inl (.inr (.inl rfl)))) (hs _ (.inl (.inr (.inr (.inl rfl)))))⟩, h.mp.tb hb (hs _ (.inl (.inr (.inr (.inr (.inl rfl)))))), fun i t hi => ?_⟩
  have h1 := h.tk i t hi
  exact (hb.block _ (heap_lt h1) (hs _ (.inl (.inr (.inr (.inr (.inr ⟨t, List.mem_of_getElem? hi, rfl⟩))))))).trans h1
theorem Rm.below (h : Rm w a s ks) (hb : Below w.heap.size w w') : Rm w' a s ks :=
  h.tb (S := fun _ => False) (Tb.of_fresh hb) (fun _ _ h => h)
/-- The runtime's own block is turned. -/
theorem Rm.robj (h : Rm w a s ks) (t : Tb (fun k => k = a.R) w w') (ho : w'.heap[a.R]? = some (.cells (rcs a s') (62 : TypeId) (0, 0))) (e1 : s'.ts = s.ts) (e2 : s'.line = s.line) : Rm w' a s' ks := by
  obtain ⟨N, hd, q⟩ := h.qu
  obtain ⟨c1, hc1⟩ := h.ring
  have ea : s'.adr = s.adr := by funext i; simp [Rs.adr, e1]
  refine ⟨ho, h.sd.tb t (ne_type h.sd h.obj (by decide)), ⟨N, hd, by rw [e2]; exact q.tb t (ne_type q.obj h.obj (by decide)) (ne_type hc1 h.obj (by decide))⟩, by rw [ea]; exact h.mp.tb t (h.mp.ne h.obj), fun i u hi => ?_⟩
  rw [e1] at hi
  have h1 := h.tk i u hi
  exact (t.block _ (heap_lt h1) (ne_type h1 h.obj (by decide))).trans h1
theorem adr_set {i : Nat} {t u : Tc} (hi : s.ts[i]? = some t) (hb : u.b = t.b) (k : Nat) : (({ s with ts := s.ts.set i u } : Rs)).adr k = s.adr k := by
  simp only [Rs.adr, List.getElem?_set]
  by_cases e : i = k
  · subst e
    have hl : i < s.ts.length := (List.getElem?_eq_some_iff.1 hi).1
    simp [hl, hb, (List.getElem?_eq_some_iff.1 hi).2]
  · simp [e]
/-- A task's block is turned. -/
theorem Rm.tobj (h : Rm w a s ks) {i : Nat} {t u : Tc} (hi : s.ts[i]? = some t) (hb : u.b = t.b) (hT : Tb (fun k => k = t.b) w w') (ho : w'.heap[t.b]? = some (.cells (tcs a i u) (130 : TypeId) (0, 0))) : Rm w' a { s with ts := s.ts.set i u } ks := by
  obtain ⟨N, hd, q⟩ := h.qu
  obtain ⟨c1, hc1⟩ := h.ring
  have h0 := h.tk i t hi
  have ea : (({ s with ts := s.ts.set i u } : Rs)).adr = s.adr := funext (adr_set hi hb)
  have er : rcs a { s with ts := s.ts.set i u } = rcs a s := by simp [rcs, Rs.rp, ea]
  refine ⟨?_, h.sd.tb hT (ne_type h.sd h0 (by decide)), ⟨N, hd, q.tb hT (ne_type q.obj h0 (by decide)) (ne_type hc1 h0 (by decide))⟩, by rw [ea]; exact h.mp.tb hT (h.mp.ne h0), fun j v hj => ?_⟩
  · rw [er]
    exact (hT.block _ (heap_lt h.obj) (ne_type h.obj h0 (by decide))).trans h.obj
  · simp only [List.getElem?_set] at hj
    by_cases e : i = j
    · subst e
      have hl : i < s.ts.length := (List.getElem?_eq_some_iff.1 hi).1
      simp only [if_pos, hl, Option.some.injEq] at hj
      subst hj
      rw [hb]
      exact ho
    · rw [if_neg e] at hj
      have h1 := h.tk j v hj
      exact (hT.block _ (heap_lt h1) (fun e' => e (h.inj hi hj e'.symm))).trans h1
/-- The line is turned. -/
theorem Rm.turn (h : Rm w a s ks) {ys : List Int} (k : Qt w w' a.U a.G ys) : ∃ G', (G' = a.G ∨ w.heap.size ≤ G') ∧ Rm w' { a with G := G' } { s with line := ys } ks ∧ Tb (own a s) w w' := by
  obtain ⟨G', N', hd', q', hg, t⟩ := k
  obtain ⟨N, hd, q⟩ := h.qu
  obtain ⟨c1, hc1⟩ := h.ring
  have hS : ∀ {x : Nat} {cs : Array Value} {tt : TypeId} {fr : Nat × Nat}, w.heap[x]? = some (.cells cs tt fr) → tt ≠ (161 : TypeId) → tt ≠ 3 → ¬ (x = a.U ∨ x = a.G) := fun hx n1 n2 e => e.elim (ne_type hx q.obj n1) (ne_type hx hc1 n2)
  refine ⟨G', hg, ⟨(t.block _ (heap_lt h.obj) (hS h.obj (by decide) (by decide))).trans h.obj, h.sd.tb t (hS h.sd (by decide) (by decide)), ⟨_, _, q'⟩, h.mp.tb t (fun e => e.elim (h.mp.ne q.obj) (h.mp.ne hc1)), fun i u hi => ?_⟩, t.mono (fun i _ e => e.elim (fun e => .inr (.inl e)) (fun e => .inr (.inr (.inl e))))⟩
  have h1 := h.tk i u hi
  exact (t.block _ (heap_lt h1) (hS h1 (by decide) (by decide))).trans h1
theorem Rm.map (h : Rm w a s ks) {ls : List Int} (t : Tb (fun k => k = a.M) w w') (hm : Mt w' a.M ls fun k => s.adr k.toNat) : Rm w' a s ls := by
  obtain ⟨N, hd, q⟩ := h.qu
  obtain ⟨c1, hc1⟩ := h.ring
  refine ⟨(t.block _ (heap_lt h.obj) (fun e => h.mp.ne h.obj e.symm)).trans h.obj, h.sd.tb t (fun e => h.mp.ne h.sd e.symm), ⟨N, hd, q.tb t (fun e => h.mp.ne q.obj e.symm) (fun e => h.mp.ne hc1 e.symm)⟩, hm, fun i u hi => ?_⟩
  have h1 := h.tk i u hi
  exact (t.block _ (heap_lt h1) (fun e => h.mp.ne h1 e.symm)).trans h1
theorem Rm.cR (h : Rm w a s ks) (i : Nat) : w.cell? ⟨a.R, i, none⟩ = (rcs a s)[i]? := cell_of_row w a.R i _ _ (0, 0) h.obj
theorem Rm.cT (h : Rm w a s ks) {i : Nat} {t : Tc} (hi : s.ts[i]? = some t) (j : Nat) : w.cell? ⟨t.b, j, none⟩ = (tcs a i t)[j]? := cell_of_row w t.b j _ _ (0, 0) (h.tk i t hi)
theorem Rm.fR (h : Rm w a s ks) (i : Nat) : w.frozen? ⟨a.R, i, none⟩ = false := frozen_of_row w a.R i _ _ h.obj
theorem Rm.fT (h : Rm w a s ks) {i : Nat} {t : Tc} (hi : s.ts[i]? = some t) (j : Nat) : w.frozen? ⟨t.b, j, none⟩ = false := frozen_of_row w t.b j _ _ (h.tk i t hi)
end

end Go.Proofs.YtgjpbekmkhanhaaGreat

/-
  Runtimes as lists: what may be, and what each call makes of them.
-/
namespace Go.Proofs.YtgjpbekmkhanhaaGreat
open Go.RowKit QI
set_option maxRecDepth 100000

section
variable {s : Rs}
theorem mem_lives {x : Int} : x ∈ s.lives ↔ ∃ i : Nat, x = (i : Int) ∧ i < s.ts.length ∧ s.live i = true := by
  simp only [Rs.lives, List.mem_map, List.mem_filter, List.mem_range]
  constructor
  · rintro ⟨i, ⟨h1, h2⟩, rfl⟩
    exact ⟨i, rfl, h1, h2⟩
  · rintro ⟨i, rfl, h1, h2⟩
    exact ⟨i, ⟨h1, h2⟩, rfl⟩
theorem lives_nodup : s.lives.Nodup := by
  unfold Rs.lives
  refine List.pairwise_map.2 ?_
  refine List.Pairwise.imp ?_ ((List.nodup_range (n := s.ts.length)).filter s.live)
  intro a b h e
  exact h (Int.ofNat.inj e)
theorem lives_congr {s' : Rs} (hl : s'.ts.length = s.ts.length) (hv : ∀ i, s'.live i = s.live i) : s'.lives = s.lives := by
  unfold Rs.lives
  rw [hl, show s'.live = s.live from funext hv]
theorem live_goes {i : Nat} {t : Tc} (h : s.ts[i]? = some t) : s.live i = (decide (s.run = some i) || t.goes) := by simp [Rs.live, h]
end

/-- A runtime as it may be. -/
structure Rok (s : Rs) : Prop where
  fv : ∀ t ∈ s.ts, Fv t.nx ∧ Fv t.wk
  nd : s.line.Nodup
  mem : ∀ x, x ∈ s.line ↔ ∃ (i : Nat) (t : Tc), x = (i : Int) ∧ s.ts[i]? = some t ∧ on t.nx = true
  one : ∀ t ∈ s.ts, on t.nx = true → on t.wk = false
  runs : ∀ i, s.run = some i → i < s.ts.length
  room : s.lives.length ≤ 256
  many : s.ts.length ≤ 4611686018427387904
  lft : s.left ≤ 18446744073709551615

def Rs.put (s : Rs) (i : Nat) (u : Tc) : Rs := { s with ts := s.ts.set i u }
/-- A new task. -/
def Rs.spawn (s : Rs) (b : Nat) (v : Value) : Rs := { s with ts := s.ts ++ [⟨b, v, .nilFunc⟩], line := s.line ++ [(s.ts.length : Int)] }
/-- A task gets ready. -/
def Rs.gets (s : Rs) (i : Nat) (u : Tc) : Rs := { s with ts := s.ts.set i u, line := s.line ++ [(i : Int)] }
/-- A turn begins: the task at place j of the line. -/
def Rs.begin (s : Rs) (i j : Nat) (u : Tc) (left : Nat) : Rs := { ts := s.ts.set i u, line := s.line.eraseIdx j, run := some i, left := left }
def Rs.done (s : Rs) : Rs := { s with run := none }
def Rs.take (s : Rs) (n : Nat) : Rs := { s with left := s.left / n }

section
variable {s : Rs} {i j : Nat} {t u : Tc} {b left : Nat} {v : Value}
theorem get_set (hi : s.ts[i]? = some t) (u : Tc) (k : Nat) : (s.ts.set i u)[k]? = if k = i then some u else s.ts[k]? := by
  have hl : i < s.ts.length := (List.getElem?_eq_some_iff.1 hi).1
  rw [List.getElem?_set]
  by_cases e : i = k
  · subst e
    simp [hl]
  · rw [if_neg e, if_neg (fun h => e h.symm)]
theorem mem_set (_hi : s.ts[i]? = some t) {u x : Tc} (h : x ∈ s.ts.set i u) : x = u ∨ x ∈ s.ts := (List.mem_or_eq_of_mem_set h).symm
theorem Rok.id (h : Rok s) (hi : s.ts[i]? = some t) : I6 (i : Int) := by
  have := h.many
  have hl : i < s.ts.length := (List.getElem?_eq_some_iff.1 hi).1
  unfold I6
  omega
theorem Rok.notin (h : Rok s) (hi : s.ts[i]? = some t) (hn : on t.nx = false) : (i : Int) ∉ s.line := by
  intro hm
  obtain ⟨k, x, e1, e2, e3⟩ := (h.mem _).1 hm
  obtain rfl : i = k := by omega
  rw [hi] at e2
  cases e2
  rw [hn] at e3
  cases e3
theorem Rok.sub (h : Rok s) : s.line ⊆ s.lives := by
  intro x hx
  obtain ⟨k, y, rfl, e2, e3⟩ := (h.mem _).1 hx
  refine mem_lives.2 ⟨k, rfl, (List.getElem?_eq_some_iff.1 e2).1, ?_⟩
  rw [live_goes e2]
  simp [Tc.goes, e3]
theorem Rok.few (h : Rok s) : s.line.length ≤ 256 := Nat.le_trans (h.nd.length_le_of_subset h.sub) h.room
theorem Rok.less (h : Rok s) (hi : s.ts[i]? = some t) (hn : on t.nx = false) (hv : s.live i = true) : s.line.length < 256 := by
  have hl : i < s.ts.length := (List.getElem?_eq_some_iff.1 hi).1
  have h1 : ((i : Int) :: s.line).Nodup := List.nodup_cons.2 ⟨h.notin hi hn, h.nd⟩
  have h2 : ((i : Int) :: s.line) ⊆ s.lives := by
    intro x hx
    rcases List.mem_cons.1 hx with rfl | hx
    · exact mem_lives.2 ⟨i, rfl, hl, hv⟩
    · exact h.sub hx
  have h3 := h1.length_le_of_subset h2
  have := h.room
  simp only [List.length_cons] at h3
  omega
theorem Rok.less' (h : Rok s) (hr : s.lives.length < 256) : s.line.length < 256 := Nat.lt_of_le_of_lt (h.nd.length_le_of_subset h.sub) hr
theorem lives_put (hi : s.ts[i]? = some t) (hg : s.run = some i ∨ u.goes = t.goes) : (s.put i u).lives = s.lives := by
  refine lives_congr (by simp [Rs.put]) (fun k => ?_)
  simp only [Rs.live, Rs.put, get_set hi]
  by_cases e : k = i
  · subst e
    rcases hg with hg | hg
    · simp [hg]
    · simp [hg, hi]
      rfl
  · simp [e]
    rfl
theorem lives_gets (hi : s.ts[i]? = some t) (hg : s.run = some i ∨ u.goes = t.goes) : (s.gets i u).lives = s.lives := by
  rw [← lives_put hi hg]
  rfl
/-- How a task waits is turned, not whether its next turn is there. -/
theorem Rok.put (h : Rok s) (hi : s.ts[i]? = some t) (hf : Fv u.wk) (hx : u.nx = t.nx) (ho : on u.nx = true → on u.wk = false) (hg : s.run = some i ∨ u.goes = t.goes) : Rok (s.put i u) := by
  refine ⟨fun x hx' => ?_, h.nd, fun x => ?_, fun x hx' => ?_, fun k hk => by simpa [Rs.put] using h.runs k hk, by rw [lives_put hi hg]; exact h.room, by simpa [Rs.put] using h.many, h.lft⟩
  · rcases mem_set hi hx' with rfl | hm
    · exact ⟨by rw [hx]; exact (h.fv t (List.mem_of_getElem? hi)).1, hf⟩
    · exact h.fv x hm
  · rw [show (s.put i u).line = s.line from rfl, h.mem x]
    constructor
    · rintro ⟨k, y, e1, e2, e3⟩
      by_cases e : k = i
      · subst e
        rw [hi] at e2
        cases e2
        exact ⟨k, u, e1, by simp [Rs.put, get_set hi], by rw [hx]; exact e3⟩
      · exact ⟨k, y, e1, by simp [Rs.put, get_set hi, e, e2], e3⟩
    · rintro ⟨k, y, e1, e2, e3⟩
      simp only [Rs.put, get_set hi] at e2
      by_cases e : k = i
      · subst e
        simp only [if_pos, Option.some.injEq] at e2
        subst e2
        exact ⟨k, t, e1, hi, by rw [← hx]; exact e3⟩
      · rw [if_neg e] at e2
        exact ⟨k, y, e1, e2, e3⟩
  · rcases mem_set hi hx' with rfl | hm
    · exact ho
    · exact h.one x hm
theorem Rok.gets (h : Rok s) (hi : s.ts[i]? = some t) (hn : on t.nx = false) (hf : Fv u.nx) (ho : on u.nx = true) (hw : u.wk = .nilFunc) (hg : s.run = some i ∨ u.goes = t.goes) : Rok (s.gets i u) := by
  refine ⟨fun x hx' => ?_, ?_, fun x => ?_, fun x hx' => ?_, fun k hk => by simpa [Rs.gets] using h.runs k hk, by rw [lives_gets hi hg]; exact h.room, by simpa [Rs.gets] using h.many, h.lft⟩
  · rcases mem_set hi hx' with rfl | hm
    · exact ⟨hf, by rw [hw]; exact Fv.nil⟩
    · exact h.fv x hm
  · refine List.nodup_append.2 ⟨h.nd, by simp, fun x hx y hy => ?_⟩
    simp only [List.mem_singleton] at hy
    subst hy
    rintro rfl
    exact h.notin hi hn hx
  · simp only [Rs.gets, List.mem_append, List.mem_singleton, h.mem x, get_set hi]
    constructor
    · rintro (⟨k, y, e1, e2, e3⟩ | rfl)
      · have e : k ≠ i := by
          rintro rfl
          rw [hi] at e2
          cases e2
          rw [hn] at e3
          cases e3
        exact ⟨k, y, e1, by rw [if_neg e]; exact e2, e3⟩
      · exact ⟨i, u, rfl, by simp, ho⟩
    · rintro ⟨k, y, e1, e2, e3⟩
      by_cases e : k = i
      · subst e
        exact .inr e1
      · rw [if_neg e] at e2
        exact .inl ⟨k, y, e1, e2, e3⟩
  · rcases mem_set hi hx' with rfl | hm
    · intro _
      rw [hw]
      rfl
    · exact h.one x hm
theorem lives_spawn (_h : Rok s) (hv : on v = true) : (s.spawn b v).lives = s.lives ++ [(s.ts.length : Int)] := by
  have hlive : ∀ k, k < s.ts.length → (s.spawn b v).live k = s.live k := fun k hk => by
    simp [Rs.live, Rs.spawn, List.getElem?_append_left hk]
    rfl
  unfold Rs.lives
  rw [show (s.spawn b v).ts.length = s.ts.length + 1 by simp [Rs.spawn], List.range_succ, List.filter_append, List.map_append]
  congr 1
  · congr 1
    refine List.filter_congr (fun k hk => hlive k (List.mem_range.1 hk))
  · have : (s.spawn b v).live s.ts.length = true := by
      simp [Rs.live, Rs.spawn, Tc.goes, hv]
    simp [this]
theorem Rok.spawn (h : Rok s) (hf : Fv v) (hv : on v = true) (hr : s.lives.length < 256) (hm : s.ts.length < 4611686018427387904) : Rok (s.spawn b v) := by
  refine ⟨fun x hx => ?_, ?_, fun x => ?_, fun x hx => ?_, fun k hk => by have := h.runs k hk; simp [Rs.spawn]; omega, by rw [lives_spawn h hv]; simp; omega, by simp [Rs.spawn]; omega, h.lft⟩
  · rcases List.mem_append.1 hx with hx | hx
    · exact h.fv x hx
    · simp only [List.mem_singleton] at hx
      subst hx
      exact ⟨hf, Fv.nil⟩
  · refine List.nodup_append.2 ⟨h.nd, by simp, fun x hx y hy => ?_⟩
    simp only [List.mem_singleton] at hy
    subst hy
    rintro rfl
    obtain ⟨k, y, e1, e2, _⟩ := (h.mem _).1 hx
    have := (List.getElem?_eq_some_iff.1 e2).1
    omega
  · simp only [Rs.spawn, List.mem_append, List.mem_singleton, h.mem x]
    constructor
    · rintro (⟨k, y, e1, e2, e3⟩ | rfl)
      · exact ⟨k, y, e1, by rw [List.getElem?_append_left (List.getElem?_eq_some_iff.1 e2).1]; exact e2, e3⟩
      · exact ⟨s.ts.length, ⟨b, v, .nilFunc⟩, rfl, by simp, hv⟩
    · rintro ⟨k, y, e1, e2, e3⟩
      by_cases hk : k < s.ts.length
      · rw [List.getElem?_append_left hk] at e2
        exact .inl ⟨k, y, e1, e2, e3⟩
      · have := (List.getElem?_eq_some_iff.1 e2).1
        simp only [List.length_append, List.length_cons, List.length_nil] at this
        obtain rfl : k = s.ts.length := by omega
        exact .inr e1
  · rcases List.mem_append.1 hx with hx | hx
    · exact h.one x hx
    · simp only [List.mem_singleton] at hx
      subst hx
      exact fun _ => rfl
theorem lives_begin (hi : s.ts[i]? = some t) (hg : t.goes = true) (hr : s.run = none) : (s.begin i j u left).lives = s.lives := by
  refine lives_congr (by simp [Rs.begin]) (fun k => ?_)
  simp only [Rs.live, Rs.begin, get_set hi, hr]
  by_cases e : k = i
  · subst e
    simp [hi, hg]
  · simp [e, show ¬ i = k from fun h => e h.symm]
theorem Rok.begin (h : Rok s) (hj : s.line[j]? = some (i : Int)) (hi : s.ts[i]? = some t) (hu : u.nx = .nilFunc) (hw : u.wk = t.wk) (hr : s.run = none) (hl : left ≤ 18446744073709551615) : Rok (s.begin i j u left) := by
  have hjl : j < s.line.length := (List.getElem?_eq_some_iff.1 hj).1
  have hjx : s.line[j] = (i : Int) := (List.getElem?_eq_some_iff.1 hj).2
  have hg : on t.nx = true := by
    obtain ⟨k, y, e1, e2, e3⟩ := (h.mem _).1 (List.mem_of_getElem? hj)
    obtain rfl : i = k := by omega
    rw [hi] at e2
    cases e2
    exact e3
  have hmem : ∀ x, x ∈ s.line.eraseIdx j ↔ x ∈ s.line ∧ x ≠ (i : Int) := fun x => by
    rw [← hjx, ← List.erase_eq_eraseIdx_of_idxOf (h.nd.idxOf_getElem j hjl), h.nd.mem_erase_iff]
    exact ⟨fun h => ⟨h.2, h.1⟩, fun h => ⟨h.2, h.1⟩⟩
  refine ⟨fun x hx' => ?_, h.nd.sublist (List.eraseIdx_sublist _ _), fun x => ?_, fun x hx' => ?_, fun k hk => ?_, by rw [lives_begin hi (by simp [Tc.goes, hg]) hr]; exact h.room, by simpa [Rs.begin] using h.many, hl⟩
  · rcases mem_set hi hx' with rfl | hm
    · exact ⟨by rw [hu]; exact Fv.nil, by rw [hw]; exact (h.fv t (List.mem_of_getElem? hi)).2⟩
    · exact h.fv x hm
  · simp only [Rs.begin, hmem, h.mem x, get_set hi]
    constructor
    · rintro ⟨⟨k, y, e1, e2, e3⟩, hne⟩
      exact ⟨k, y, e1, by rw [if_neg (by omega)]; exact e2, e3⟩
    · rintro ⟨k, y, e1, e2, e3⟩
      by_cases e : k = i
      · rw [if_pos e] at e2
        cases e2
        rw [hu] at e3
        cases e3
      · rw [if_neg e] at e2
        exact ⟨⟨k, y, e1, e2, e3⟩, by omega⟩
  · rcases mem_set hi hx' with rfl | hm
    · rw [hu]
      intro hh
      cases hh
    · exact h.one x hm
  · simp only [Rs.begin, Option.some.injEq] at hk
    subst hk
    simpa [Rs.begin] using (List.getElem?_eq_some_iff.1 hi).1
theorem lives_done (hi : s.ts[i]? = some t) (hr : s.run = some i) (x : Int) : x ∈ s.done.lives ↔ x ∈ s.lives ∧ (t.goes = true ∨ x ≠ (i : Int)) := by
  rw [mem_lives, mem_lives]
  constructor
  · rintro ⟨k, rfl, h1, h2⟩
    have h3 : (s.ts[k]?.map Tc.goes).getD false = true := by simpa [Rs.live, Rs.done] using h2
    refine ⟨⟨k, rfl, h1, by simp [Rs.live, h3]⟩, ?_⟩
    by_cases e : k = i
    · subst e
      rw [hi] at h3
      exact .inl h3
    · exact .inr (by omega)
  · rintro ⟨⟨k, rfl, h1, h2⟩, h3⟩
    refine ⟨k, rfl, h1, ?_⟩
    by_cases e : k = i
    · subst e
      rcases h3 with h3 | h3
      · simp [Rs.live, Rs.done, hi, h3]
      · exact absurd rfl h3
    · simp only [Rs.live, hr, Option.some.injEq, show ¬ i = k from fun h => e h.symm, decide_false, Bool.false_or] at h2
      simp [Rs.live, Rs.done, h2]
theorem Rok.done (h : Rok s) (hi : s.ts[i]? = some t) (hr : s.run = some i) : Rok s.done := by
  refine ⟨h.fv, h.nd, h.mem, h.one, fun k hk => by simp [Rs.done] at hk, Nat.le_trans (lives_nodup.length_le_of_subset (fun x hx => ((lives_done hi hr x).1 hx).1)) h.room, h.many, h.lft⟩
theorem Rok.take (h : Rok s) (n : Nat) : Rok (s.take n) := ⟨h.fv, h.nd, h.mem, h.one, h.runs, h.room, h.many, Nat.le_trans (Nat.div_le_self _ _) h.lft⟩
end

/-- A runtime in memory, as it may be. -/
structure Rt (w : World) (a : Ad) (s : Rs) : Prop where
  m : Rm w a s s.lives
  ok : Rok s

/-- What a call on a runtime leaves: its own blocks alone were turned, what is new to it is new memory. -/
structure Rx (w : World) (a : Ad) (s : Rs) (w' : World) (a' : Ad) (s' : Rs) : Prop where
  R : a'.R = a.R
  Q : a'.Q = a.Q
  U : a'.U = a.U
  M : a'.M = a.M
  G : a'.G = a.G ∨ w.heap.size ≤ a'.G
  ext : ∃ bs : List Nat, s'.ts.map Tc.b = s.ts.map Tc.b ++ bs ∧ ∀ b ∈ bs, w.heap.size ≤ b
  tb : Tb (own a s) w w'

structure Rp (w : World) (a : Ad) (s : Rs) (w' : World) (a' : Ad) (s' : Rs) : Prop where
  rt : Rt w' a' s'
  x : Rx w a s w' a' s'

section
variable {w w' w'' : World} {a a' a'' : Ad} {s s' s'' : Rs}
theorem Rx.own (h : Rx w a s w' a' s') {k : Nat} (hk : own a' s' k) : own a s k ∨ w.heap.size ≤ k := by
  rcases hk with rfl | rfl | rfl | rfl | ⟨t, ht, rfl⟩
  · exact .inl (.inl h.R)
  · exact .inl (.inr (.inl h.U))
  · exact h.G.elim (fun e => .inl (.inr (.inr (.inl e)))) .inr
  · exact .inl (.inr (.inr (.inr (.inl h.M))))
  · obtain ⟨bs, e, hb⟩ := h.ext
    have : t.b ∈ s.ts.map Tc.b ++ bs := by rw [← e]; exact List.mem_map_of_mem ht
    rcases List.mem_append.1 this with hm | hm
    · obtain ⟨u, hu, e⟩ := List.mem_map.1 hm
      exact .inl (.inr (.inr (.inr (.inr ⟨u, hu, e⟩))))
    · exact .inr (hb _ hm)
theorem Rx.trans (h : Rx w a s w' a' s') (k : Rx w' a' s' w'' a'' s'') : Rx w a s w'' a'' s'' := by
  obtain ⟨b1, e1, h1⟩ := h.ext
  obtain ⟨b2, e2, h2⟩ := k.ext
  have hz := h.tb.size
  refine ⟨k.R.trans h.R, k.Q.trans h.Q, k.U.trans h.U, k.M.trans h.M, ?_, ⟨b1 ++ b2, by rw [e2, e1, List.append_assoc], fun b hb => ?_⟩, h.tb.trans k.tb (fun i hi hT => ?_)⟩
  · rcases k.G with e | e
    · rw [e]; exact h.G
    · exact .inr (by omega)
  · rcases List.mem_append.1 hb with hb | hb
    · exact h1 b hb
    · have := h2 b hb; omega
  · exact (h.own hT).elim id (fun h' => by omega)
theorem Rp.trans (h : Rp w a s w' a' s') (k : Rp w' a' s' w'' a'' s'') : Rp w a s w'' a'' s'' := ⟨k.rt, h.x.trans k.x⟩
theorem Rx.fresh (hb : Below w.heap.size w w') : Rx w a s w' a s := ⟨rfl, rfl, rfl, rfl, .inl rfl, ⟨[], by simp, by simp⟩, Tb.of_fresh hb⟩
/-- Its own blocks turned, its tasks the same ones. -/
theorem Rx.turn (t : Tb (Proofs.YtgjpbekmkhanhaaGreat.own a s) w w') (e : s'.ts.map Tc.b = s.ts.map Tc.b) : Rx w a s w' a s' := ⟨rfl, rfl, rfl, rfl, .inl rfl, ⟨[], by simp [e], by simp⟩, t⟩
theorem Rt.same (h : Rt w a s) (hb : Below w.heap.size w w') : Rp w a s w' a s := ⟨⟨h.m.below hb, h.ok⟩, .fresh hb⟩
theorem Rt.refl (h : Rt w a s) : Rp w a s w a s := h.same (Below.refl _ _)
theorem Rt.tb {S : Nat → Prop} (h : Rt w a s) (hb : Tb S w w') (hs : ∀ k, Proofs.YtgjpbekmkhanhaaGreat.own a s k ∨ k = a.Q → ¬ S k) : Rt w' a s := ⟨h.m.tb hb hs, h.ok⟩
theorem Rt.below (h : Rt w a s) (hb : Below w.heap.size w w') : Rt w' a s := ⟨h.m.below hb, h.ok⟩
theorem Rx.adr (h : Rx w a s w' a' s') {i : Nat} {t : Tc} (hi : s.ts[i]? = some t) : ∃ t', s'.ts[i]? = some t' ∧ t'.b = t.b := by
  obtain ⟨bs, e, _⟩ := h.ext
  have h1 : (s'.ts.map Tc.b)[i]? = some t.b := by
    rw [e, List.getElem?_append_left (by simpa using (List.getElem?_eq_some_iff.1 hi).1)]
    simp [hi]
  rw [List.getElem?_map] at h1
  exact Option.map_eq_some_iff.1 h1
theorem map_set {i : Nat} {t u : Tc} (hi : s.ts[i]? = some t) (hb : u.b = t.b) : (s.ts.set i u).map Tc.b = s.ts.map Tc.b := by
  rw [List.map_set, hb]
  apply List.ext_getElem?
  intro k
  rw [List.getElem?_set]
  by_cases e : i = k
  · subst e
    have hl : i < s.ts.length := (List.getElem?_eq_some_iff.1 hi).1
    simp [hl, (List.getElem?_eq_some_iff.1 hi).2]
  · simp [e]
theorem own_task {i : Nat} {t : Tc} (hi : s.ts[i]? = some t) : Proofs.YtgjpbekmkhanhaaGreat.own a s t.b := .inr (.inr (.inr (.inr ⟨t, List.mem_of_getElem? hi, rfl⟩)))
end

end Go.Proofs.YtgjpbekmkhanhaaGreat

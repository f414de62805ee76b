/-
  Texts put into one.
-/
import Derived.Test.YtgjpbekmkhanhaaGreatQfr
import Derived.Laws.EntriesVeiled
import Derived.Test.YtgjpbekmkhanhaaGreatMx47aa09ae
import Derived.BigQuiet

/-
  Tickets in memory.
-/
namespace Go.Proofs.YtgjpbekmkhanhaaGreat.QW
open Go.RowKit
set_option maxRecDepth 100000

/-- A ticket: its own block k, what it fires (nilFunc: it has fired). -/
def Tkt (w : World) (k : Nat) (f : Value) : Prop := w.heap[k]? = some (.cells #[.pointer (some ⟨k, 0, none⟩), f] (127 : TypeId) (0, 0))

section
variable {w w' : World} {k : Nat} {f : Value} {S : Nat → Prop}
theorem Tkt.lt (h : Tkt w k f) : k < w.heap.size := heap_lt h
theorem Tkt.tb (h : Tkt w k f) (hb : Tb S w w') (hs : ¬ S k) : Tkt w' k f := (hb.block k h.lt hs).trans h
theorem Tkt.below (h : Tkt w k f) (hb : Below w.heap.size w w') : Tkt w' k f := (hb.block k h.lt).trans h
theorem Tkt.c0 (h : Tkt w k f) : w.cell? ⟨k, 0, none⟩ = some (.pointer (some ⟨k, 0, none⟩)) := cell_of_row w k 0 _ _ _ h
theorem Tkt.c1 (h : Tkt w k f) : w.cell? ⟨k, 1, none⟩ = some f := cell_of_row w k 1 _ _ _ h
theorem Tkt.free (h : Tkt w k f) (i : Nat) : w.frozen? ⟨k, i, none⟩ = false := frozen_of_row w k i _ _ h
theorem Tkt.one (h : Tkt w k f) {g : Value} (h' : Tkt w k g) : f = g := by
  unfold Tkt at h h'
  rw [h] at h'
  simpa using h'
/-- It fires: it is nobody's any more. -/
theorem Tkt.fire (h : Tkt w k f) (g : Value) : Tkt (w.setCell ⟨k, 1, none⟩ g) k g := by
  unfold Tkt at *
  rw [heap_setCell_same w k 1 _ (127 : TypeId) _ h]
  rfl
theorem Tkt.fire_tb (g : Value) (hs : S k) : Tb S w (w.setCell ⟨k, 1, none⟩ g) := Tb.set (S := S) k 1 _ hs
end

theorem infoT : ∃ j, Tryz.prog.info? (127 : TypeId) = some j := by
  have h : (Tryz.prog.info? (127 : TypeId)).isSome = true := by kernel_rfl
  exact Option.isSome_iff_exists.1 h

theorem tmade_yes {w : World} {k : Nat} {f : Value} (h : Tkt w k f) :
    Calls Tryz.prog 84 #[.pointer (some ⟨k, 0, none⟩)] w fun e w' => e = .returned (.bool true) ∧ w' = w := by
  have c0 := h.c0
  clear h
  obtain ⟨j, hj⟩ := infoT
  have he := eql_self (P := Tryz.prog) (w := w) (tp := (69 : TypeId)) (te := (127 : TypeId)) ⟨k, 0, none⟩ Tryz.underlying69 hj
  go_enter Tryz.func84, Tryz.ntmps84
  go_wp2_with fail
  go_ret
  exact ⟨rfl, rfl⟩

theorem tmade_nil (w : World) : Calls Tryz.prog 84 #[.pointer none] w fun e w' => e = .returned (.bool false) ∧ w' = w := by
  go_enter Tryz.func84, Tryz.ntmps84
  go_wp2_with fail
  go_ret
  exact ⟨rfl, rfl⟩

theorem fired_yes {w : World} {k : Nat} (h : Tkt w k .nilFunc) :
    Calls Tryz.prog 86 #[.pointer (some ⟨k, 0, none⟩)] w fun e w' => e = .returned (.bool true) ∧ w' = w := by
  have c1 := h.c1
  have he := eql_func_nil (P := Tryz.prog) (w := w) Tryz.underlying1
  clear h
  go_enter Tryz.func86, Tryz.ntmps86
  go_wp2_with fail
  go_ret
  exact ⟨rfl, rfl⟩

theorem fired_no {w : World} {k : Nat} {fn : Fn} {r c : Array Value} (h : Tkt w k (.func fn r c)) :
    Calls Tryz.prog 86 #[.pointer (some ⟨k, 0, none⟩)] w fun e w' => e = .returned (.bool false) ∧ w' = w := by
  have c1 := h.c1
  have he := eql_func_no (P := Tryz.prog) (w := w) fn r c Tryz.underlying1
  clear h
  go_enter Tryz.func86, Tryz.ntmps86
  go_wp2_with fail
  go_ret
  exact ⟨rfl, rfl⟩

theorem newticket_nil (w : World) : Calls Tryz.prog 22 #[.nilFunc] w fun e w' => e = .returned (.pointer none) ∧ w' = w := by
  have he := eql_func_nil (P := Tryz.prog) (w := w) Tryz.underlying1
  go_enter Tryz.func22, Tryz.ntmps22
  go_wp2_with fail
  go_ret
  exact ⟨rfl, rfl⟩

theorem newticket_any (w : World) (fn : Fn) (r c : Array Value) :
    Calls Tryz.prog 22 #[.func fn r c] w fun e w' => e = .returned (.pointer (some ⟨w.heap.size, 0, none⟩)) ∧ Tkt w' w.heap.size (.func fn r c) ∧ Below w.heap.size w w' := by
  have he := eql_func_no (P := Tryz.prog) (w := w) fn r c Tryz.underlying1
  obtain ⟨k, hk⟩ : ∃ k, Hid (w.heap.size = k) := ⟨_, hide rfl⟩
  obtain ⟨X, hX⟩ : ∃ X, Hid (X = w.alloc (.cells #[.pointer none, .func fn r c] (127 : TypeId))) := ⟨_, hide rfl⟩
  have hr : X.heap[k]? = some (.cells #[.pointer none, .func fn r c] (127 : TypeId) (0, 0)) := by rw [hX.out, ← hk.out]; exact heap_alloc_new w _
  have x0 : X.cell? ⟨k, 0, none⟩ = some (.pointer none) := cell_of_row X k 0 _ _ _ hr
  have f0 := frozen_of_row X k 0 _ _ hr
  have FIN : Hid (Tkt (X.setCell ⟨k, 0, none⟩ (.pointer (some ⟨k, 0, none⟩))) k (.func fn r c) ∧ Below k w (X.setCell ⟨k, 0, none⟩ (.pointer (some ⟨k, 0, none⟩)))) := hide ⟨by
    unfold Tkt
    rw [heap_setCell_same X k 0 _ (127 : TypeId) _ hr]
    rfl, by
    have : Below w.heap.size w X := by rw [hX.out]; exact (Below.refl _ w).alloc (Nat.le_refl _) _
    rw [hk.out] at this
    exact this.setCell (Nat.le_refl _) _⟩
  rw [hk.out]
  clear hr
  go_enter Tryz.func22, Tryz.ntmps22
  go_wp2_with (rw [← hX.out, hk.out])
  go_ret
  exact ⟨rfl, FIN.out⟩

end Go.Proofs.YtgjpbekmkhanhaaGreat.QW

/-
  What a line's functions ask of a waiter.
-/
namespace Go.Proofs.YtgjpbekmkhanhaaGreat.QW
open Go.RowKit
set_option maxRecDepth 100000

/-- A waiter whose ticket lies in memory, fired or not. -/
def Tok (w : World) (x : Wv) : Prop := ∃ k f, x.tk = some ⟨k, 0, none⟩ ∧ Tkt w k f ∧ (f = .nilFunc ∨ ∃ fn r c, f = .func fn r c)

/-- A boxed waiter. -/
theorem box_laid (w : World) (x : Wv) : ∃ A B, Hid (A = w.alloc (.cells #[.pointer x.tk, .int .i64 x.val, x.told] (141 : TypeId))) ∧ Hid (w.heap.size = B) ∧ Hid (Below w.heap.size w A) ∧ A.cell? ⟨B, 0, none⟩ = some (.pointer x.tk) ∧ A.cell? ⟨B, 1, none⟩ = some (.int .i64 x.val) ∧ A.cell? ⟨B, 2, none⟩ = some x.told := by
  have h := heap_alloc_new w (.cells #[.pointer x.tk, .int .i64 x.val, x.told] (141 : TypeId))
  exact ⟨_, _, hide rfl, hide rfl, hide ((Below.refl _ w).alloc (Nat.le_refl _) _), cell_of_row _ _ 0 _ _ _ h, cell_of_row _ _ 1 _ _ _ h, cell_of_row _ _ 2 _ _ _ h⟩

theorem ask_fired {w : World} {x : Wv} {k : Nat} {f : Value} (hx : x.tk = some ⟨k, 0, none⟩) (h : Tkt w k f) (hf : f = .nilFunc ∨ ∃ fn r c, f = .func fn r c) {b : Bool} (hb : b = true ↔ f = .nilFunc) :
    Calls Tryz.prog 143 #[.agg #[.pointer x.tk, .int .i64 x.val, x.told]] w fun e w' => e = .returned (.bool b) ∧ Below w.heap.size w w' := by
  obtain ⟨A, B, hA, hB, bA, a0, a1, a2⟩ := box_laid w x
  have hA2 := h.below bA.out
  have C : Calls Tryz.prog 86 #[.pointer (some ⟨k, 0, none⟩)] A fun e w' => e = .returned (.bool b) ∧ w' = A := by
    rcases hf with rfl | ⟨fn, r, c, rfl⟩
    · have : b = true := hb.2 rfl
      rw [this]
      exact fired_yes hA2
    · have : b = false := by
        cases b
        · rfl
        · exact absurd (hb.1 rfl) (by simp)
      rw [this]
      exact fired_no hA2
  rw [hx] at a0 hA ⊢
  clear h hA2 hf hb
  go_enter Tryz.func143, Tryz.ntmps143
  go_wp2_with (rw [← hA.out, hB.out])
  refine C.mono ?_
  rintro e w1 ⟨rfl, hw1⟩
  subst w1
  go_wp2_with fail
  go_ret
  exact ⟨rfl, bA.out⟩

theorem ask_all {w : World} (x : Wv) :
    Calls Tryz.prog 138 #[.agg #[.pointer x.tk, .int .i64 x.val, x.told]] w fun e w' => e = .returned (.bool true) ∧ Below w.heap.size w w' := by
  obtain ⟨A, B, hA, hB, bA, a0, a1, a2⟩ := box_laid w x
  go_enter Tryz.func138, Tryz.ntmps138
  go_wp2_with (rw [← hA.out, hB.out])
  go_ret
  exact ⟨rfl, hB.out ▸ bA.out⟩

end Go.Proofs.YtgjpbekmkhanhaaGreat.QW

/-
  A line of waiters in memory: which of them wait yet.
-/
namespace Go.Proofs.YtgjpbekmkhanhaaGreat.QW
open Go.RowKit
set_option maxRecDepth 100000

/-- Whether a waiter waits yet: A tells of a block whether the ticket that lies there is to fire. -/
def al (A : Nat → Bool) (x : Wv) : Bool := match x.tk with
  | some a => A a.block
  | none => false

/-- A waiter's ticket, as A tells it. -/
def Tkv (w : World) (A : Nat → Bool) (x : Wv) : Prop := ∃ k f, x.tk = some ⟨k, 0, none⟩ ∧ Tkt w k f ∧ ((A k = true ∧ ∃ fn r c, f = .func fn r c) ∨ (A k = false ∧ f = .nilFunc))

theorem Tkv.tok {w : World} {A : Nat → Bool} {x : Wv} (h : Tkv w A x) : ∃ k f, x.tk = some ⟨k, 0, none⟩ ∧ Tkt w k f ∧ (f = .nilFunc ∨ ∃ fn r c, f = .func fn r c) ∧ ((!al A x) = true ↔ f = .nilFunc) := by
  obtain ⟨k, f, h1, h2, h3⟩ := h
  refine ⟨k, f, h1, h2, ?_, ?_⟩
  · rcases h3 with ⟨_, h⟩ | ⟨_, h⟩
    · exact .inr h
    · exact .inl h
  · unfold al
    rw [h1]
    rcases h3 with ⟨h, fn, r, c, rfl⟩ | ⟨h, rfl⟩ <;> simp [h]
theorem Tkv.below {w w' : World} {A : Nat → Bool} {x : Wv} (h : Tkv w A x) (hb : Below w.heap.size w w') : Tkv w' A x := by
  obtain ⟨k, f, h1, h2, h3⟩ := h
  exact ⟨k, f, h1, h2.below hb, h3⟩

/-- Every ticket that there was is there, as A' tells. -/
def Kv (w : World) (A : Nat → Bool) (w' : World) (A' : Nat → Bool) : Prop := ∀ x, Tkv w A x → Tkv w' A' x ∧ (al A' x = true → al A x = true)
theorem Kv.trans {w w' w'' : World} {A A' A'' : Nat → Bool} (h : Kv w A w' A') (k : Kv w' A' w'' A'') : Kv w A w'' A'' := fun x hx => ⟨(k x (h x hx).1).1, fun e => (h x hx).2 ((k x (h x hx).1).2 e)⟩
/-- Where no ticket is turned, all are as they were. -/
theorem Kv.tb {w w' : World} {S : Nat → Prop} (A : Nat → Bool) (t : Tb S w w') (hs : ∀ k f, Tkt w k f → ¬ S k) : Kv w A w' A := fun x hx => by
  obtain ⟨k, f, h1, h2, h3⟩ := hx
  exact ⟨⟨k, f, h1, h2.tb t (hs k f h2), h3⟩, id⟩
theorem Kv.below {w w' : World} (A : Nat → Bool) (hb : Below w.heap.size w w') : Kv w A w' A := fun _ hx => ⟨hx.below hb, id⟩

/-- A line: its own block L, its queue at R, its ring G. -/
structure Lm (w : World) (A : Nat → Bool) (L R G N h : Nat) (c : Int) (xs : List Wv) : Prop where
  obj : w.heap[L]? = some (.cells #[.pointer (some ⟨R, 0, none⟩), .int .i64 c] (165 : TypeId) (0, 0))
  q : Qu w R G N h xs
  c0 : 0 ≤ c
  c1 : c ≤ 3000000
  tk : ∀ x ∈ xs, Tkv w A x

def Ld (L R G k : Nat) : Prop := k = L ∨ k = R ∨ k = G

/-- A line, what lies in it beside those who wait hidden: at most m stand in it. -/
def Ln (w : World) (A : Nat → Bool) (L R m : Nat) (ys : List Wv) (D : Nat → Prop) : Prop := ∃ G N h c xs, Lm w A L R G N h c xs ∧ xs.filter (al A) = ys ∧ xs.length ≤ m ∧ ∀ k, D k ↔ Ld L R G k

/-- What a call leaves: only D was turned; D' is D, and new blocks. -/
structure Lx (w : World) (D : Nat → Prop) (w' : World) (D' : Nat → Prop) : Prop where
  tb : Tb D w w'
  dom : ∀ k, D' k → D k ∨ w.heap.size ≤ k
theorem Lx.refl (w : World) (D : Nat → Prop) : Lx w D w D := ⟨Tb.refl _ _, fun _ h => .inl h⟩
theorem Lx.trans {w w' w'' : World} {D D' D'' : Nat → Prop} (h : Lx w D w' D') (k : Lx w' D' w'' D'') : Lx w D w'' D'' := by
  have hz := h.tb.size
  refine ⟨h.tb.trans k.tb (fun i hi hT => (h.dom i hT).elim id (fun h' => by omega)), fun i hi => ?_⟩
  rcases k.dom i hi with h1 | h1
  · exact h.dom i h1
  · exact .inr (by omega)
theorem Lx.fresh {w w' : World} (D : Nat → Prop) (hb : Below w.heap.size w w') : Lx w D w' D := ⟨Tb.of_fresh hb, fun _ h => .inl h⟩

section
variable {w w' : World} {A A' : Nat → Bool} {L R G N h m : Nat} {c : Int} {xs ys : List Wv} {S D : Nat → Prop}
theorem ty_ne {x y : Nat} {c1 c2 : Array Value} {t1 t2 : TypeId} {f1 f2 : Nat × Nat} (h1 : w.heap[x]? = some (.cells c1 t1 f1)) (h2 : w.heap[y]? = some (.cells c2 t2 f2)) (h : t1 ≠ t2) : x ≠ y := by
  rintro rfl
  rw [h1] at h2
  simp only [Option.some.injEq, Obj.cells.injEq] at h2
  exact h h2.2.1
theorem Lm.gobj (l : Lm w A L R G N h c xs) : ∃ cs, w.heap[G]? = some (.cells cs (141 : TypeId) (0, 0)) := by
  obtain ⟨cur, hc, _⟩ := l.q.ring
  exact ⟨_, hc⟩
theorem Lm.nR (l : Lm w A L R G N h c xs) : L ≠ R := ty_ne l.obj l.q.obj (by decide)
theorem Lm.nG (l : Lm w A L R G N h c xs) : L ≠ G := by
  obtain ⟨cs, hc⟩ := l.gobj
  exact ty_ne l.obj hc (by decide)
theorem Lm.ld_lt (l : Lm w A L R G N h c xs) {k : Nat} (hk : Ld L R G k) : k < w.heap.size := by
  rcases hk with rfl | rfl | rfl
  · exact heap_lt l.obj
  · exact l.q.lt
  · exact l.q.glt
/-- A line's blocks are of three types. -/
theorem Lm.ty (l : Lm w A L R G N h c xs) {k : Nat} (hk : Ld L R G k) : ∃ cs t, w.heap[k]? = some (.cells cs t (0, 0)) ∧ (t = (165 : TypeId) ∨ t = (187 : TypeId) ∨ t = (141 : TypeId)) := by
  rcases hk with rfl | rfl | rfl
  · exact ⟨_, _, l.obj, .inl rfl⟩
  · exact ⟨_, _, l.q.obj, .inr (.inl rfl)⟩
  · obtain ⟨cs, hc⟩ := l.gobj
    exact ⟨_, _, hc, .inr (.inr rfl)⟩
theorem Lm.notk (l : Lm w A L R G N h c xs) {k : Nat} {f : Value} (ht : Tkt w k f) : ¬ Ld L R G k := by
  intro hk
  obtain ⟨cs, t, h1, h2⟩ := l.ty hk
  have e : t = (127 : TypeId) := by
    unfold Tkt at ht
    rw [ht] at h1
    simp only [Option.some.injEq, Obj.cells.injEq] at h1
    exact h1.2.1.symm
  subst e
  revert h2
  decide
theorem Lm.keep (l : Lm w A L R G N h c xs) (t : Tb S w w') (hs : ∀ k, Ld L R G k → ¬ S k) (hk : Kv w A w' A') : Lm w' A' L R G N h c xs :=
  ⟨(t.block _ (heap_lt l.obj) (hs _ (.inl rfl))).trans l.obj, l.q.tb t (hs _ (.inr (.inl rfl))) (hs _ (.inr (.inr rfl))), l.c0, l.c1, fun x hx => (hk x (l.tk x hx)).1⟩
theorem Lm.below (l : Lm w A L R G N h c xs) (hb : Below w.heap.size w w') : Lm w' A L R G N h c xs := l.keep (Tb.of_fresh (S := fun _ => False) hb) (fun _ _ h => h) (Kv.below A hb)
/-- Its queue was turned by a call. -/
theorem Lm.turn (l : Lm w A L R G N h c xs) (k : Qt w w' R G ys) (hsub : ∀ y ∈ ys, y ∈ xs) : ∃ G' N' h', Lm w' A L R G' N' h' c ys ∧ Lx w (Ld L R G) w' (Ld L R G') := by
  obtain ⟨G', N', h', q', hg, t⟩ := k
  have hn : ∀ k f, Tkt w k f → ¬ (k = R ∨ k = G) := fun k f ht e => l.notk ht (e.elim (fun e => .inr (.inl e)) (fun e => .inr (.inr e)))
  have hkv : Kv w A w' A := Kv.tb A t hn
  refine ⟨G', N', h', ⟨(t.block _ (heap_lt l.obj) (fun e => e.elim l.nR l.nG)).trans l.obj, q', l.c0, l.c1, fun x hx => (hkv x (l.tk x (hsub x hx))).1⟩, ⟨t.mono (fun i _ e => e.elim (fun e => .inr (.inl e)) (fun e => .inr (.inr e))), fun k hk => ?_⟩⟩
  rcases hk with rfl | rfl | rfl
  · exact .inl (.inl rfl)
  · exact .inl (.inr (.inl rfl))
  · rcases hg with rfl | hg
    · exact .inl (.inr (.inr rfl))
    · exact .inr hg
theorem Lm.l0 (l : Lm w A L R G N h c xs) : w.cell? ⟨L, 0, none⟩ = some (.pointer (some ⟨R, 0, none⟩)) := cell_of_row w L 0 _ _ _ l.obj
theorem Lm.l1 (l : Lm w A L R G N h c xs) : w.cell? ⟨L, 1, none⟩ = some (.int .i64 c) := cell_of_row w L 1 _ _ _ l.obj
theorem Lm.free (l : Lm w A L R G N h c xs) (i : Nat) : w.frozen? ⟨L, i, none⟩ = false := frozen_of_row w L i _ _ l.obj
/-- How many may stand in it is turned. -/
theorem Lm.crowd (l : Lm w A L R G N h c xs) {d : Int} (d0 : 0 ≤ d) (d1 : d ≤ 3000000) : Lm (w.setCell ⟨L, 1, none⟩ (.int .i64 d)) A L R G N h d xs ∧ Lx w (Ld L R G) (w.setCell ⟨L, 1, none⟩ (.int .i64 d)) (Ld L R G) := by
  have t : Tb (fun k => k = L) w (w.setCell ⟨L, 1, none⟩ (.int .i64 d)) := Tb.set L 1 _ rfl
  have hq : Qu (w.setCell ⟨L, 1, none⟩ (.int .i64 d)) R G N h xs := l.q.tb t (fun e => l.nR e.symm) (fun e => l.nG e.symm)
  have hkv : Kv w A (w.setCell ⟨L, 1, none⟩ (.int .i64 d)) A := Kv.tb A t (fun k f ht e => l.notk ht (.inl e))
  refine ⟨⟨?_, hq, d0, d1, fun x hx => (hkv x (l.tk x hx)).1⟩, ⟨t.mono (fun _ _ e => .inl e), fun _ h => .inl h⟩⟩
  rw [heap_setCell_same w L 1 _ (165 : TypeId) _ l.obj]
  rfl

theorem asks_fired (hx : ∀ x ∈ xs, Tkv w A x) : Asks0 w xs 143 (fun x => !al A x) := by
  refine ⟨fun _ _ => by go_simp, fun x hxm V hV => ?_⟩
  obtain ⟨k, f, h1, h2, h3, h4⟩ := ((hx x hxm).below hV).tok
  exact ask_fired h1 h2 h3 h4
theorem asks_all : Asks0 w xs 138 (fun _ => true) := ⟨fun _ _ => by go_simp, fun x _ _ _ => ask_all x⟩

theorem Ln.lt (h : Ln w A L R m ys D) {k : Nat} (hk : D k) : k < w.heap.size := by
  obtain ⟨G, N, hd, c, xs, l, _, _, hD⟩ := h
  exact l.ld_lt ((hD k).1 hk)
theorem Ln.notk (h : Ln w A L R m ys D) {k : Nat} {f : Value} (ht : Tkt w k f) : ¬ D k := by
  obtain ⟨G, N, hd, c, xs, l, _, _, hD⟩ := h
  exact fun e => l.notk ht ((hD k).1 e)
theorem Ln.ty (h : Ln w A L R m ys D) {k : Nat} (hk : D k) : ∃ cs t, w.heap[k]? = some (.cells cs t (0, 0)) ∧ (t = (165 : TypeId) ∨ t = (187 : TypeId) ∨ t = (141 : TypeId)) := by
  obtain ⟨G, N, hd, c, xs, l, _, _, hD⟩ := h
  exact l.ty ((hD k).1 hk)
theorem Ln.mono (h : Ln w A L R m ys D) {m' : Nat} (hm : m ≤ m') : Ln w A L R m' ys D := by
  obtain ⟨G, N, hd, c, xs, l, e, hl, hD⟩ := h
  exact ⟨G, N, hd, c, xs, l, e, Nat.le_trans hl hm, hD⟩
theorem Ln.len (h : Ln w A L R m ys D) : ys.length ≤ m := by
  obtain ⟨G, N, hd, c, xs, l, e, hl, hD⟩ := h
  rw [← e]
  exact Nat.le_trans (List.length_filter_le _ _) hl
/-- Other memory was turned; tickets may have fired. -/
theorem Ln.keep (h : Ln w A L R m ys D) (t : Tb S w w') (hs : ∀ k, D k → ¬ S k) (hk : Kv w A w' A') : Ln w' A' L R m (ys.filter (al A')) D := by
  obtain ⟨G, N, hd, c, xs, l, e, hl, hD⟩ := h
  refine ⟨G, N, hd, c, xs, l.keep t (fun k hk => hs k ((hD k).2 hk)) hk, ?_, hl, hD⟩
  rw [← e, List.filter_filter]
  refine List.filter_congr (fun x hx => ?_)
  cases h1 : al A' x with
  | false => simp
  | true => simp [(hk x (l.tk x hx)).2 h1]
theorem Ln.all (h : Ln w A L R m ys D) : ys.filter (al A) = ys := by
  obtain ⟨G, N, hd, c, xs, l, e, hl, hD⟩ := h
  rw [← e, List.filter_filter]
  simp
theorem Ln.same (h : Ln w A L R m ys D) (t : Tb S w w') (hs : ∀ k, D k → ¬ S k) (hk : Kv w A w' A) : Ln w' A L R m ys D := by
  have := h.keep t hs hk
  rwa [h.all] at this
theorem Ln.below (h : Ln w A L R m ys D) (hb : Below w.heap.size w w') : Ln w' A L R m ys D := h.same (Tb.of_fresh (S := fun _ => False) hb) (fun _ _ h => h) (Kv.below A hb)
theorem Ln.tkv (h : Ln w A L R m ys D) {y : Wv} (hy : y ∈ ys) : Tkv w A y ∧ al A y = true := by
  obtain ⟨G, N, hd, c, xs, l, e, hl, hD⟩ := h
  rw [← e] at hy
  exact ⟨l.tk y (List.mem_filter.1 hy).1, (List.mem_filter.1 hy).2⟩
theorem Ln.dom (h : Ln w A L R m ys D) {D' : Nat → Prop} (hd : ∀ k, D' k ↔ D k) : Ln w A L R m ys D' := by
  obtain ⟨G, N, hh, c, xs, l, e, hl, hD⟩ := h
  exact ⟨G, N, hh, c, xs, l, e, hl, fun k => (hd k).trans (hD k)⟩
end

theorem waiting_any {w : World} {A : Nat → Bool} {L R m : Nat} {ys : List Wv} {D : Nat → Prop} (h : Ln w A L R m ys D) :
    Calls Tryz.prog 89 #[.pointer (some ⟨L, 0, none⟩)] w fun e w' => e = .returned (.int .i64 ys.length) ∧ ∃ D', Ln w' A L R m ys D' ∧ Lx w D w' D' := by
  obtain ⟨G, N, hd, c, xs, l, e, hl, hD⟩ := h
  have CD := drop_any0 l.q (asks_fired l.tk)
  simp only [Bool.not_not] at CD
  rw [show (xs.filter fun x => al A x) = ys from e] at CD
  have c0 := l.l0
  have FIN : Hid (∀ w1, Qt w w1 R G ys → w1.cell? ⟨L, 0, none⟩ = some (.pointer (some ⟨R, 0, none⟩)) ∧ (Calls Tryz.prog 141 #[.pointer (some ⟨R, 0, none⟩)] w1 fun e w' => e = .returned (.int .i64 ys.length) ∧ w' = w1) ∧ ∃ D', Ln w1 A L R m ys D' ∧ Lx w D w1 D') := hide (fun w1 hq => by
    obtain ⟨G', N', h', l', x'⟩ := l.turn hq (fun y hy => by rw [← e] at hy; exact (List.mem_filter.1 hy).1)
    refine ⟨l'.l0, len_yes l'.q, Ld L R G', ⟨G', N', h', c, ys, l', ?_, ?_, fun _ => Iff.rfl⟩, ⟨x'.tb.mono (fun k _ hk => (hD k).2 hk), fun k hk => (x'.dom k hk).elim (fun h => .inl ((hD k).2 h)) .inr⟩⟩
    · rw [← e, List.filter_filter]; simp
    · rw [← e]; exact Nat.le_trans (List.length_filter_le _ _) hl)
  clear l e hl hD
  go_enter Tryz.func89, Tryz.ntmps89
  go_wp2_with fail
  refine CD.mono ?_
  rintro e w1 ⟨rfl, hq⟩
  obtain ⟨d0, CL, HF⟩ := FIN.out w1 hq
  clear hq CD FIN
  go_wp2_with fail
  refine CL.mono ?_
  rintro e w2 ⟨rfl, hw2⟩
  subst w2
  go_wp2_with fail
  go_ret
  exact ⟨rfl, HF⟩

end Go.Proofs.YtgjpbekmkhanhaaGreat.QW

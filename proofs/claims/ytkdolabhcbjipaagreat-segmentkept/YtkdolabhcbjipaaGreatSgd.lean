/-
  A range over a function that hands on memory it has made: what is handed on is known in the world of its round (Hx).
-/
import Derived.RangeFuncNested
namespace Go.Proofs.YtkdolabhcbjipaaGreat
open Go.RowKit
set_option maxRecDepth 100000

/-- A loop's two blocks: its record, and the calls that its rounds defer. -/
structure Rc (D : Nat) (r : Loop) (W : World) : Prop where
  lp : W.heap[D + 1]? = some (.loop r)
  df : W.heap[D]? = some (.deferred (some []))

section
variable {D : Nat} {r : Loop} {W V : World}
theorem Rc.lt (h : Rc D r W) : D + 1 < W.heap.size := (Array.getElem?_eq_some_iff.1 h.lp).1
theorem Rc.turn (h : Rc D r W) (r' : Loop) : Rc D r' (W.putObj (D + 1) (.loop r')) := ⟨World.putObj_heap_same h.lt, (World.putObj_heap_other (by omega)).trans h.df⟩
theorem Rc.from (h : Rc D r W) (k : KeepsFrom D W V) : Rc D r V := ⟨k.same _ _ (by omega) h.lp rfl, k.same _ _ (Nat.le_refl _) h.df rfl⟩
theorem Rc.grown {row : Option Nat} (h : Rc D r W) (hg : W.grownBy V row) (hr : ∀ k, row = some k → ∃ o : Obj, W.heap[k]? = some o ∧ o.isWalk = true) : Rc D r V :=
  ⟨(grownBy_keeps hg hr h.lp rfl).trans h.lp, (grownBy_keeps hg hr h.df rfl).trans h.df⟩
end

variable {F : Fence} {n : Nat} {P : Program}

/-- An iterator's contract: whatever it hands on is such (Hx) in the world in which it does so. -/
def Hands {α : Type} (F : Fence) (n : Nat) (P : Program) (g : Nat) (lb : Array Value) (encs : α → Array Value) (Hx : List α → α → World → Prop) (Kp : World → World → Prop) (S : List α → Prop) (w : World) : Prop :=
  ∀ (l : Nat) (J Jx : List α → World → Prop) (W : World), Below w.heap.size w W → AbidesFrom W.heap.size J →
    (∀ pre x V, J pre V → Hx pre x V → YieldAt F (n - 1) P l (encs x) V fun e X => (e = .returned (.bool true) ∧ J (pre ++ [x]) X ∧ Kp V X) ∨ (e = .returned (.bool false) ∧ Jx (pre ++ [x]) X)) →
    J [] W →
    CallsIn F n P g (#[.func (.yield l) #[] #[]] ++ lb) W fun e X => (∃ v, e = .returned v) ∧ ((∃ xs, S xs ∧ J xs X) ∨ (∃ pre, Jx pre X))

/-- The statement, where its body goes on or returns. -/
theorem wpIn_hands {α : Type} {g : Operand} {ps : Array Tmp} {assign body : Code} {Q : Exit → Act → World → Prop} {a : Act} {w : World}
    (hro : F.round = none) (h1 : 1 ≤ n) {gf : Nat} {lb : Array Value} (hg : a.eval g = .func (.func gf) #[] lb) (hF : F.fn gf) (eg : ∀ args w, (callFunc gf args).run P w = .ok (.enter gf args) w)
    {encs : α → Array Value} {Hx : List α → α → World → Prop} {Kp : World → World → Prop} {S : List α → Prop} {w0 : World} (hit : Hands F (n - 1) P gf lb encs Hx Kp S w0) (hb0 : Below w0.heap.size w0 w)
    (hKt : ∀ {A B C : World}, Kp A B → Kp B C → Kp A C) (hKb : ∀ (W : World) (l : Nat) (o o' : Obj), w.heap.size ≤ l → W.heap[l]? = some o → o.isCells = false → o.isWalk = false → Kp W (W.putObj l o')) (hps : ∀ x, (encs x).size = ps.size)
    (hH : ∀ pre x, OwnFrom w.heap.size (fun (_ : Unit) W => Hx pre x W))
    (I : List α → World → Prop) (Ix : List α → World → Prop) (hI : OwnFrom w.heap.size I) (hIx : OwnFrom w.heap.size Ix) (h0 : I [] w) (a₁ : α → Act)
    (hassign : ∀ (l : Nat) (x : α) (W : World) (K : Act → World → Prop), K (a₁ x) W → assign.wpIn (F.inRound l) (n - 1 - 1) P (Exit.then K (fun _ _ _ => False)) { tmps := (ps.zip (encs x)).foldl (fun t (p, v) => t.setIfInBounds p v) a.tmps, defers := [] } W)
    (hbody : ∀ (l : Nat) (pre : List α) (x : α) (W : World), I pre W → Hx pre x W → body.wpIn (F.inRound l) (n - 1 - 1) P (fun e _ V => (e = .normal ∧ KeepsFrom w.heap.size W V ∧ Kp W V ∧ I (pre ++ [x]) V) ∨ (e = .ret ∧ KeepsFrom w.heap.size W V ∧ Ix (pre ++ [x]) V)) (a₁ x) W)
    (hdone : ∀ (D : Nat) (xs : List α) (W : World), w.heap.size ≤ D → S xs → I xs W → W.heap[D]? = some (.deferred (some [])) → Q .normal { a with defers := { target := .collected D, args := #[] } :: a.defers } W)
    (hstop : ∀ (D : Nat) (pre : List α) (W : World), w.heap.size ≤ D → Ix pre W → W.heap[D]? = some (.deferred (some [])) → Code.ret.wpIn F n P Q { a with defers := { target := .collected D, args := #[] } :: a.defers } W) :
    (Code.rangeFunc g ps assign body).wpIn F n P Q a w := by
  refine wpIn_rangeFunc fun fn hfn => ?_
  rw [hro]
  let r : LoopState → Option Code → Loop := fun s p => { state := s, pending := p, fn := fn, tmps := a.tmps, params := ps, assign := assign, body := body, defers := w.heap.size }
  obtain ⟨A, hA⟩ : ∃ A, A = (w.alloc (.deferred (some []))).alloc (.loop (r .ready none)) := ⟨_, rfl⟩
  have rA : Rc w.heap.size (r .ready none) A := by
    rw [hA]
    refine ⟨?_, (Below.heap_alloc _ _ _ (by simp)).trans (World.alloc_heap_new w _)⟩
    have := World.alloc_heap_new (w.alloc (.deferred (some []))) (.loop (r .ready none))
    rwa [World.size_alloc] at this
  have iA : I [] A := by rw [hA]; exact hI.alloc _ (hI.alloc _ h0)
  have bA : Below w0.heap.size w0 A := by
    rw [hA]
    exact hb0.trans ((((Below.refl _ w).alloc (Nat.le_refl _) _).alloc (by simp) _).mono hb0.size)
  have sA : A.heap.size = w.heap.size + 2 := by rw [hA]; simp
  refine ⟨w.heap.size + 1, _, A, { target := .fn (.func gf) lb, args := #[.func (.yield (w.heap.size + 1)) #[] #[]] }, A, gf, #[.func (.yield (w.heap.size + 1)) #[] #[]] ++ lb, A, by rw [hA]; exact run_enterLoop_outer _ _ _ _ _, ?_, ?_, ?_, fun _ => h1, ?_⟩
  · simp only [resolve, hg]
    simp [go_sem]
  · intro f' hf'
    simp [Target.leads] at hf'
    subst hf'
    exact hF
  · simp [invoke, go_sem, eg]
  refine (hit (w.heap.size + 1) (fun pre W => I pre W ∧ Rc w.heap.size (r .ready none) W) (fun pre W => Ix pre W ∧ Rc w.heap.size (r .done (some .ret)) W) A bA ?_ ?_ ⟨iA, rA⟩).mono ?_
  · rintro s W V row ⟨hi, hr⟩ hgr hrow
    exact ⟨hI s W V row hi hgr (fun k e => by obtain ⟨k1, o, k2, k3⟩ := hrow k e; exact ⟨by omega, o, k2, Obj.not_cells_of_walk k3⟩), hr.grown hgr (fun k e => (hrow k e).2)⟩
  · rintro pre x W ⟨hi, hr⟩ hx
    refine ⟨fn, _, assign, body, run_yield hr.lp (hps x), roundIn_of_wpIn hfn (hassign _ x W _ ⟨_, run_beginRound hr.lp rfl, ?_⟩)⟩
    have r2 := hr.turn { r .ready none with state := .busy }
    refine wpIn_mono (hbody _ pre x _ (hI.putObj _ hi (by omega) hr.lp rfl) ((hH pre x).putObj (s := ()) _ hx (by omega) hr.lp rfl)) ?_
    rintro e a3 V (⟨rfl, k3, kp, i3⟩ | ⟨rfl, k3, i3⟩)
    · have r3 := r2.from k3
      refine ⟨_, _, run_endRound none r3.lp, .inl ⟨rfl, ⟨hI.putObj _ i3 (by omega) r3.lp rfl, r3.turn (r .ready none)⟩, ?_⟩⟩
      exact hKt (hKt (hKb _ _ _ _ (by omega) hr.lp rfl rfl) kp) (hKb _ _ _ _ (by omega) r3.lp rfl rfl)
    · have r3 := r2.from k3
      exact ⟨_, _, run_endRound (some .ret) r3.lp, .inr ⟨rfl, hIx.putObj _ i3 (by omega) r3.lp rfl, r3.turn (r .done (some .ret))⟩⟩
  · rintro e W ⟨⟨v, rfl⟩, (⟨xs, hS, hi, hr⟩ | ⟨pre, hi, hr⟩)⟩
    · exact ⟨none, _, run_endLoop hr.lp (by simp [r]), hdone _ xs _ (Nat.le_refl _) hS (hI.putObj _ hi (by omega) hr.lp rfl) (hr.turn _).df⟩
    · exact ⟨some .ret, _, run_endLoop hr.lp (by simp [r]), hstop _ pre _ (Nat.le_refl _) (hIx.putObj _ hi (by omega) hr.lp rfl) (hr.turn _).df⟩

end Go.Proofs.YtkdolabhcbjipaaGreat

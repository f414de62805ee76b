/-
  What two tasks are told that may not: they note it.
-/
import Derived.Test.YtgjpbekmkhanhaaGreatMx8a6047af
import Derived.Test.YtgjpbekmkhanhaaGreatMx39e1dcd8
import Derived.Test.YtgjpbekmkhanhaaGreatMx468d338c
import Derived.Test.YtgjpbekmkhanhaaGreatMxa849c3a9
namespace Go.Proofs.YtgjpbekmkhanhaaGreat.CH
open Go.RowKit QW
set_option maxRecDepth 100000
set_option linter.unusedSimpArgs false
set_option linter.unusedVariables false

/-- An append of several. -/
theorem row_apps (w : World) (base : Nat) (t e : TypeId) (i : TypeInfo) (z : Value) (bytes : Nat) (ht : Tryz.prog.underlying t = some (.slice e)) (hi : Tryz.prog.info? e = some i) (hz : i.zero = some z) (hsize : i.size = 1) (hby : i.bytes = bytes) (hzs : z.cells.size = 1)
    {v : Value} {n : Nat} {xs : List Value} (hown : w.ownsRow base e 1 v n xs) (news : List Value) {k : Nat} (hl : news.length = k) (hk0 : 0 < k) (hk : k ≤ 100) (h1 : ∀ u ∈ news, u.oneCell' = true) (h63 : n ≤ 1000000) (hbytes : bytes ≤ 1000) (hbase : base ≤ w.heap.size) :
    ∃ va vc v' X, v = .slice va n vc ∧ (Builtin.append_ #[t, t] t #[v, .slice (some ⟨w.heap.size, 0, none⟩) k k]).run Tryz.prog (w.alloc (.cells news.toArray e)) = .ok v' X ∧ (∃ p c, v' = .slice p (n + k) c) ∧ X.ownsRow base e 1 v' (n + k) (xs ++ news) ∧ Tb (fun k => v.ownBlock = some k) w X ∧ (∀ k, v'.ownBlock = some k → v.ownBlock = some k ∨ w.heap.size ≤ k) := by
  obtain ⟨va, vc, rfl⟩ := row_val hown
  have bY : Below w.heap.size w (w.alloc (.cells news.toArray e)) := (Below.refl _ w).alloc (Nat.le_refl _) _
  have hYn : (w.alloc (.cells news.toArray e)).heap[w.heap.size]? = some (.cells news.toArray e (0, 0)) := heap_alloc_new w _
  have erY := row_tb hown (Tb.of_fresh (S := fun _ => False) bY) (fun _ _ h => h)
  have hm : (n + k) * bytes ≤ 1000100 * 1000 := Nat.mul_le_mul (by omega) hbytes
  obtain ⟨v', X, r1, r2, r3, _, r4⟩ := run_append_own_at (P := Tryz.prog) (w := w.alloc (.cells news.toArray e)) base t t e i z 1 bytes ht hi hz hsize hby hzs (by omega) (.slice va n vc) n xs erY ⟨w.heap.size, 0, none⟩ k k news (by omega) (fun j u hj => by
    rw [Addr.add_lit, cell_of_row _ _ _ _ _ _ hYn]
    simpa using hj) h1 (by unfold maxLen; omega) (by omega) (by have := bY.size; omega)
  have hzY := bY.size
  refine ⟨va, vc, v', X, rfl, r1, row_val r2, r2, (Tb.of_fresh (S := fun k => (Value.slice va n vc).ownBlock = some k) bY).trans (Tb.of_grown r3 (fun k e => e)) (fun k _ e => e), fun k hk => ?_⟩
  rcases r4 with e | e
  · rw [e] at hk; exact .inl hk
  · rw [e] at hk; cases hk; exact .inr (by omega)

theorem infoEr : (Tryz.prog.info? (55 : TypeId)).map (fun i => (i.zero, i.size, i.bytes)) = some (some (.int .i64 0), 1, 8) := by kernel_rfl

section
variable {w : World} {base LB n k : Nat} {va : Option Addr} {vc : Nat} {xs news : List Value}

/-- What is noted, n of them so far. -/
structure Nt (w : World) (base LB n : Nat) (va : Option Addr) (vc : Nat) (xs : List Value) : Prop where
  box : w.heap[LB]? = some (.cells #[.slice va n vc] (71 : TypeId) (0, 0))
  row : w.ownsRow base (55 : TypeId) 1 (.slice va n vc) n xs
  lo : base ≤ w.heap.size

theorem Nt.more (h : Nt w base LB n va vc xs) (hn : n ≤ 1000) (hl : news.length = k) (hk0 : 0 < k) (hk : k ≤ 100) (h1 : ∀ u ∈ news, u.oneCell' = true) {X : World} (hb : Below w.heap.size w X) :
    X.cell? ⟨LB, 0, none⟩ = some (.slice va n vc) ∧ (X.alloc (.cells news.toArray (55 : TypeId))).cell? ⟨LB, 0, none⟩ = some (.slice va n vc) ∧ ∃ pa pc Y, (Builtin.append_ #[(71 : TypeId), (71 : TypeId)] (71 : TypeId) #[.slice va n vc, .slice (some ⟨X.heap.size, 0, none⟩) k k]).run Tryz.prog (X.alloc (.cells news.toArray (55 : TypeId))) = .ok (.slice pa (n + k) pc) Y ∧
      Y.cell? ⟨LB, 0, none⟩ = some (.slice va n vc) ∧ Y.frozen? ⟨LB, 0, none⟩ = false ∧ Hid (Nt (Y.setCell ⟨LB, 0, none⟩ (.slice pa (n + k) pc)) base LB (n + k) pa pc (xs ++ news) ∧ Tb (fun j => j = LB ∨ (Value.slice va n vc).ownBlock = some j) w (Y.setCell ⟨LB, 0, none⟩ (.slice pa (n + k) pc))) ∧ Tb (fun j => (Value.slice va n vc).ownBlock = some j) w Y := by
  obtain ⟨ip, e1, e2, e3, e4⟩ := info_all infoEr
  have hz := hb.size
  have hX := (hb.block LB (heap_lt h.box)).trans h.box
  have rowX := row_tb h.row (Tb.of_fresh (S := fun _ => False) hb) (fun _ _ e => e)
  obtain ⟨va', vc', v', Y, ev, run, ⟨pa, pc, rfl⟩, hrow, tY, _⟩ := row_apps X base (71 : TypeId) _ ip _ 8 Tryz.underlying71 e1 e2 e3 e4 (by simp [Value.cells]) rowX news hl hk0 hk h1 (by omega) (by omega) (by have := h.lo; omega)
  have hown : ∀ g, (Value.slice va n vc).ownBlock = some g → ¬ LB = g := fun g hg e => by
    obtain ⟨cs, hcs⟩ := row_ty rowX hg
    exact ty_ne hX hcs (by decide) e
  have hY := (tY.block LB (heap_lt hX) (fun e => hown _ e rfl)).trans hX
  have bA : Below X.heap.size X (X.alloc (.cells news.toArray (55 : TypeId))) := (Below.refl _ X).alloc (Nat.le_refl _) _
  have cX := cell_of_row X LB 0 _ _ _ hX
  have tS : Tb (fun j => j = LB) Y (Y.setCell ⟨LB, 0, none⟩ (.slice pa (n + k) pc)) := Tb.set LB 0 _ rfl
  refine ⟨cX, (bA.cell (cell_lt cX)).trans cX, pa, pc, Y, run, cell_of_row Y LB 0 _ _ _ hY, frozen_of_row Y LB 0 _ _ hY, hide ⟨⟨?_, row_tb hrow tS (fun g hg e => ?_), ?_⟩, ?_⟩, (Tb.of_fresh (S := fun j => (Value.slice va n vc).ownBlock = some j) hb).trans tY (fun j _ e => e)⟩
  · rw [heap_setCell_same Y LB 0 _ _ _ hY]
    rfl
  · subst e
    obtain ⟨cs, hcs⟩ := row_ty hrow hg
    exact ty_ne hY hcs (by decide) rfl
  · have := tS.size
    have := tY.size
    have := h.lo
    omega
  · exact ((Tb.of_fresh (S := fun j => j = LB ∨ (Value.slice va n vc).ownBlock = some j) hb).trans tY (fun j _ e => .inr e)).trans tS (fun j _ e => .inl e)

set_option maxHeartbeats 4000000 in
/-- The second task: nothing to be told by. -/
theorem f28_any {CB : Nat} {tp cp : Option Addr} (h : Nt w base LB n va vc xs) (hn : n ≤ 1000) (hc : w.cell? ⟨CB, 0, none⟩ = some (.pointer cp))
    (CS : ∀ V, Below w.heap.size w V → Calls Tryz.prog 26 #[.pointer tp, .pointer cp, .int .i64 1, .nilFunc] V fun e w' => e = .returned (.int .i64 1) ∧ Below V.heap.size V w')
    (CR : ∀ V, Below w.heap.size w V → Calls Tryz.prog 27 #[.pointer tp, .pointer cp, .nilFunc] V fun e w' => e = .returned (.int .i64 1) ∧ Below V.heap.size V w') :
    Calls Tryz.prog 28 #[.pointer tp, .pointer (some ⟨LB, 0, none⟩), .pointer (some ⟨CB, 0, none⟩)] w fun e w' => e = .returned (.tuple #[]) ∧ ∃ pa pc, Nt w' base LB (n + 2) pa pc (xs ++ [.int .i64 1, .int .i64 1]) ∧ Tb (fun j => j = LB ∨ (Value.slice va n vc).ownBlock = some j) w w' := by
  have HM : Hid (∀ X, Below w.heap.size w X → X.cell? ⟨CB, 0, none⟩ = some (.pointer cp) ∧ X.cell? ⟨LB, 0, none⟩ = some (.slice va n vc) ∧ (X.alloc (.cells #[.int .i64 1, .int .i64 1] (55 : TypeId))).cell? ⟨LB, 0, none⟩ = some (.slice va n vc) ∧ ∃ pa pc Y, (Builtin.append_ #[(71 : TypeId), (71 : TypeId)] (71 : TypeId) #[.slice va n vc, .slice (some ⟨X.heap.size, 0, none⟩) 2 2]).run Tryz.prog (X.alloc (.cells #[.int .i64 1, .int .i64 1] (55 : TypeId))) = .ok (.slice pa (n + 2) pc) Y ∧
      Y.cell? ⟨LB, 0, none⟩ = some (.slice va n vc) ∧ Y.frozen? ⟨LB, 0, none⟩ = false ∧ Hid (Nt (Y.setCell ⟨LB, 0, none⟩ (.slice pa (n + 2) pc)) base LB (n + 2) pa pc (xs ++ [.int .i64 1, .int .i64 1]) ∧ Tb (fun j => j = LB ∨ (Value.slice va n vc).ownBlock = some j) w (Y.setCell ⟨LB, 0, none⟩ (.slice pa (n + 2) pc)))) := hide (fun X hX => ⟨(hX.cell (cell_lt hc)).trans hc, by
    obtain ⟨q1, q2, pa, pc, Y, r1, r2, r3, r4, _⟩ := h.more (news := [.int .i64 1, .int .i64 1]) (k := 2) hn rfl (by omega) (by omega) (by simp [Value.oneCell']) hX
    exact ⟨q1, q2, pa, pc, Y, r1, r2, r3, r4⟩⟩)
  obtain ⟨c0, l0, l0', _⟩ := HM.out w (Below.refl _ _)
  have CS := hide CS
  have CR := hide CR
  clear h hc
  go_enter Tryz.func28, Tryz.ntmps28
  go_region_law (first
    | (refine step_appendx (by rfl) (71 : TypeId) (.tmp 4) (.tmp 11) rfl (.slice va n vc) (.slice (some ⟨X2.heap.size, 0, none⟩) 2 2) (.slice pa (n + 2) pc) (by simp [Act.eval]) (by simp [Act.eval]) run ?_)
    | (go_simp; refine (CS.out _ ?_).mono ?_; exact (Below.refl _ w).drew; rintro e X1 ⟨rfl, b1⟩; have b1' := (Below.refl _ w).drew.trans b1; obtain ⟨c1, l1, l1', _⟩ := HM.out X1 b1')
    | (go_simp; refine (CR.out _ ?_).mono ?_; exact b1'; rintro e X2 ⟨rfl, b2⟩; obtain ⟨c2, l2, l2', pa, pc, Y, run, y1, y2, HY⟩ := HM.out X2 (b1'.trans (b2.mono b1'.size))))
  all_goals
    have HF := hide HY.out
    clear HM CS CR run y1 y2 HY
    go_end0
    exact ⟨rfl, pa, pc, HF.out⟩
end
end Go.Proofs.YtgjpbekmkhanhaaGreat.CH

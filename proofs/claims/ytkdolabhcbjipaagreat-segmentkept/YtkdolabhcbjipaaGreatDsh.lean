/-
  Shapes (names, and files' sectors) in memory: take, cut, put, carryOut.
-/
import Derived.Test.YtkdolabhcbjipaaGreatDst
import Derived.Great.BuildSlice
import Derived.OneCell
namespace Go.Proofs.YtkdolabhcbjipaaGreat
open Go.RowKit
set_option maxRecDepth 100000

section
variable {P : Program} {w w' : World} {ops : Array Oper} {rest : List Oper} {o : Oper} {a : Act} {Q : Exit → Act → World → Prop}
theorem wpList_lookup_run (hg : o.guard = none) (t : TypeId) (m x : Operand) (c : Bool) (hop : o.op = Op.lookup t m x c) (mv key v : Value) (hm : a.eval m = mv) (hx : a.eval x = key) (hrun : (Instr.lookup t mv key c).run P w = .ok v w)
    (hK : wpList P ops Q rest (a.put o.dst v) w) : wpList P ops Q (o :: rest) a w := by
  refine wpList_plain hg fun K' hK' => ?_
  unfold Oper.wp
  simp [execOp, hop, hm, hx, hrun, Result.andThen]
  exact hK' _ _ hK
theorem wpList_update_run (hg : o.guard = none) (t : TypeId) (m x y : Operand) (hop : o.op = Op.mapUpdate t m x y) (mv key val : Value) (hm : a.eval m = mv) (hx : a.eval x = key) (hy : a.eval y = val) (hrun : (Instr.mapUpdate t mv key val).run P w = .ok () w')
    (hK : wpList P ops Q rest (a.put o.dst undef) w') : wpList P ops Q (o :: rest) a w := by
  refine wpList_plain hg fun K' hK' => ?_
  unfold Oper.wp
  simp [execOp, hop, hm, hx, hy, hrun, Result.andThen]
  exact hK' _ _ hK
theorem wpList_delete_run (hg : o.guard = none) (t k : TypeId) (m x : Operand) (hop : o.op = Op.call { callee := Callee.builtin Builtin.delete, args := #[m, x], argTypes := #[t, k] }) (mv key : Value) (hm : a.eval m = mv) (hx : a.eval x = key) (hrun : (Builtin.delete_ #[t, k] o.type #[mv, key]).run P w = .ok (.tuple #[]) w')
    (hK : wpList P ops Q rest (a.put o.dst (.tuple #[])) w') : wpList P ops Q (o :: rest) a w := by
  refine wpList_plain hg fun K' hK' => ?_
  unfold Oper.wp
  simp [execOp, hop, resolve, invoke, builtin, hm, hx, hrun, Result.andThen]
  exact hK' _ _ hK
theorem wpList_append_run (hg : o.guard = none) (t : TypeId) (m x : Operand) (hop : o.op = Op.call { callee := Callee.builtin Builtin.append, args := #[m, x], argTypes := #[t, t] }) (mv key v : Value) (hm : a.eval m = mv) (hx : a.eval x = key) (hrun : (Builtin.append_ #[t, t] o.type #[mv, key]).run P w = .ok v w')
    (hK : wpList P ops Q rest (a.put o.dst v) w') : wpList P ops Q (o :: rest) a w := by
  refine wpList_plain hg fun K' hK' => ?_
  unfold Oper.wp
  simp [execOp, hop, resolve, invoke, builtin, hm, hx, hrun, Result.andThen]
  exact hK' _ _ hK
end

/-- The labels of a shape's blocks. -/
def TA (a : Int) (x : Int × Int) : Prop := x.1 = a ∨ x.1 = a + 1 ∨ x.1 = a + 10

/-- A shape in memory. -/
structure Sh (w : World) (L : Lb) (a : Int) (nb rb : Nat) (s : Shp) : Prop where
  nm : Nm w nb s.nm
  rw : Rw U (85 : TypeId) 64 w L (a + 10) rb s.rw
  ln : L nb = (a, 0)
  lr : L rb = (a + 1, 0)

/-- Its bounds. -/
structure Sm (s : Shp) (K : Nat) : Prop where
  nm : s.nm.length ≤ K
  rw : s.rw.length ≤ K
  file : ∀ p ∈ s.nm, I6 p.2
  row : ∀ p ∈ s.rw, p.2.length ≤ 4096 ∧ ∀ x ∈ p.2, x.length = 64 ∧ ∀ z ∈ x, 0 ≤ z ∧ z ≤ 255

section
variable {w w' : World} {L L' : Lb} {a : Int} {nb rb : Nat} {s : Shp} {K : Nat}

theorem Sh.tb {S : Nat → Prop} (h : Sh w L a nb rb s) (hb : Tb S w w') (hl : Lx w L L') (hS : ∀ g, TA a (L g) → ¬ S g) : Sh w' L' a nb rb s :=
  ⟨h.nm.tb hb (hS _ (.inl (by rw [h.ln]))), h.rw.tb hb hl (hS _ (.inr (.inl (by rw [h.lr])))) (fun g f e => hS g (.inr (.inr (by rw [e])))),
    by rw [hl _ h.nm.lt]; exact h.ln, by rw [hl _ h.rw.lt]; exact h.lr⟩

theorem Sh.none (h : Sh w L a nb rb s) (hb : Tb (fun _ => False) w w') : Sh w' L a nb rb s := h.tb hb (Lx.refl _ _) (fun _ _ h => h)

theorem Sm.fileOf (h : Sm s K) (k : List UInt8) : I6 ((lk s.nm k).getD 0) := by
  cases e : lk s.nm k with
  | none => exact ⟨by simp, by simp⟩
  | some f => exact h.file _ (lk_mem e)

theorem Sm.at (h : Sm s K) (f : Int) : ((lk s.rw f).getD []).length ≤ 4096 ∧ ∀ x ∈ (lk s.rw f).getD [], x.length = 64 ∧ ∀ z ∈ x, 0 ≤ z ∧ z ≤ 255 := by
  cases e : lk s.rw f with
  | none => simp
  | some r => exact h.row _ (lk_mem e)
end

theorem zero3 (W : World) : (zeroValue 3).run Tryz.prog W = .ok (.int .i64 0) W := by
  have h : (Tryz.prog.info? 3).map (·.zero) = some (some (.int .i64 0)) := by kernel_rfl
  obtain ⟨i, hi, hz⟩ := Option.map_eq_some_iff.1 h
  simp [zeroValue, typeInfo, hi, hz]
theorem zero74 (W : World) : (zeroValue (90 : TypeId)).run Tryz.prog W = .ok (.slice none 0 0) W := by
  have h : (Tryz.prog.info? (90 : TypeId)).map (·.zero) = some (some (.slice none 0 0)) := by kernel_rfl
  obtain ⟨i, hi, hz⟩ := Option.map_eq_some_iff.1 h
  simp [zeroValue, typeInfo, hi, hz]

/-- A name is taken away, and the file that has it. -/
def Shp.take (s : Shp) (k : List UInt8) : Shp := ⟨dl s.nm k, dl s.rw ((lk s.nm k).getD 0)⟩

set_option maxHeartbeats 1000000 in
theorem take_any {w : World} {L : Lb} {a : Int} {nb rb : Nat} {s : Shp} {K : Nat} {x : ByteArray} (h : Sh w L a nb rb s) (hm : Sm s K) (hx : x.size ≤ 9223372036854775807) :
    Calls Tryz.prog 65 #[.agg #[.map (some nb), .map (some rb)], .string x] w fun e w' => e = .returned (.tuple #[]) ∧ Sh w' L a nb rb (s.take x.data.toList) ∧ Tl L (TA a) w w' := by
  obtain ⟨W, HW⟩ : ∃ W, W = w.alloc (.cells #[.map (some nb), .map (some rb)] (54 : TypeId)) := ⟨_, rfl⟩
  have b0 : Tb (fun _ => False) w W := by rw [HW]; exact (Tb.refl _ _).alloc _
  have hS : Sh W L a nb rb s := h.none b0
  have hfl := hm.fileOf x.data.toList
  obtain ⟨F, hF⟩ : ∃ F, F = (lk s.nm x.data.toList).getD 0 := ⟨_, rfl⟩
  rw [← hF] at hfl
  have hfind := hS.nm.find Tryz.underlying51 zero3 hx
  rw [← hF] at hfind
  have hc : W.heap[w.heap.size]? = some (.cells #[.map (some nb), .map (some rb)] (54 : TypeId) (0, 0)) := by rw [HW]; exact heap_alloc_new w _
  obtain ⟨w1, hr1, hR1, ht1⟩ := hS.rw.drop Tryz.underlying52 hfl 0
  have hne : L nb ≠ L rb := by rw [h.ln, h.lr]; simp; omega
  have hnr : nb ≠ rb := fun e => hne (by rw [e])
  have hb1 : Tb (fun k => k = rb) W w1 := Tb.turned ht1 rfl
  have hN1 : Nm w1 nb s.nm := hS.nm.tb hb1 hnr
  have hrw : rb ≠ w.heap.size := Nat.ne_of_lt h.rw.lt
  have hc1 : w1.cell? ⟨w.heap.size, 0, none⟩ = some (.map (some nb)) := by
    rw [World.cell?_of_block (hb1.block _ (Array.getElem?_eq_some_iff.1 hc).1 (fun e => hrw e.symm)), cell_of_row W _ 0 _ (54 : TypeId) (0, 0) hc]
    rfl
  obtain ⟨w2, hr2, hN2, ht2⟩ := hN1.drop Tryz.underlying51 hx 0
  have hb2 : Tb (fun k => k = nb) w1 w2 := Tb.turned ht2 rfl
  have hfin : Hid (Sh w2 L a nb rb (s.take x.data.toList) ∧ Tl L (TA a) w w2) := by
    refine hide ⟨⟨hN2, ?_, h.ln, h.lr⟩, ?_⟩
    · have := hR1.tb hb2 (Lx.refl _ _) hnr.symm (fun g f e he => by rw [he, h.ln] at e; simp at e; omega)
      simpa only [Shp.take, ← hF] using this
    · have t1 : Tb (fun g => TA a (L g)) w W := b0.mono (fun _ _ h => h.elim)
      refine (t1.trans hb1 (fun i _ e => ?_)).trans hb2 (fun i _ e => ?_)
      · subst e
        exact .inr (.inl (by rw [h.lr]))
      · subst e
        exact .inl (by rw [h.ln])
  clear h hS hm hc hR1 ht1 hb1 hN1 hN2 ht2 hb2 b0 hne hnr hF
  subst HW
  go_enter Tryz.func65, Tryz.ntmps65
  go_wp2_with fail
  go_end0
  exact ⟨rfl, hfin⟩


/-- A file is cut. -/
def Shp.cut (s : Shp) (f at' : Int) : Shp := match lk s.rw f with
  | none => s
  | some r => if at' < r.length then ⟨s.nm, st s.rw f (r.take at'.toNat)⟩ else s

theorem flatMap_take {α β : Type} (c : α → List β) (size n : Nat) : ∀ l : List α, (∀ x ∈ l, (c x).length = size) → (l.take n).flatMap c = (l.flatMap c).take (n * size) := by
  induction n with
  | zero => intro l _; simp
  | succ n ih =>
    intro l h
    cases l with
    | nil => simp
    | cons x l =>
      have hx := h x (by simp)
      rw [List.take_succ_cons, List.flatMap_cons, List.flatMap_cons, ih l (fun y hy => h y (by simp [hy])), Nat.succ_mul, Nat.add_comm (n * size) size, List.take_append, List.take_of_length_le (l := c x) (by rw [hx]; omega), hx, Nat.add_sub_cancel_left]

theorem ownBlock_slice (ad : Option Addr) (n c m d : Nat) : (Value.slice ad n c).ownBlock = (Value.slice ad m d).ownBlock := by cases ad <;> rfl

/-- A row cut short. -/
theorem own_cut {w : World} {base n m size cap : Nat} {e : TypeId} {ad : Option Addr} {xs : List Value} (h : w.ownsRow base e size (.slice ad n cap) n xs) (hm : m ≤ n) (h0 : 0 < n) : w.ownsRow base e size (.slice ad m cap) m (xs.take (m * size)) := by
  have hms : m * size ≤ n * size := Nat.mul_le_mul_right _ hm
  refine ⟨by rw [List.length_take, h.1]; omega, ?_⟩
  rcases h.2 with ⟨h1, h2⟩ | ⟨g, c, cur, h1, hb, hg, hn, hc, hs, ht⟩
  · omega
  · simp only [Value.slice.injEq] at h1
    obtain ⟨rfl, _, rfl⟩ := h1
    exact .inr ⟨g, cap, cur, rfl, hb, hg, by omega, hc, hs, by rw [← ht, List.take_take, Nat.min_eq_left hms]⟩

set_option maxHeartbeats 1000000 in
theorem cut_any {w : World} {L : Lb} {a : Int} {nb rb : Nat} {s : Shp} {K : Nat} {f at' : Int} (h : Sh w L a nb rb s) (hm : Sm s K) (hK : K < 9223372036854775807) (hf : I6 f) (ha : 0 ≤ at' ∧ at' ≤ 4096) :
    Calls Tryz.prog 67 #[.agg #[.map (some nb), .map (some rb)], .int .i64 f, .int .i64 at'] w fun e w' => e = .returned (.tuple #[]) ∧ Sh w' L a nb rb (s.cut f at') ∧ Tl L (TA a) w w' := by
  obtain ⟨W, HW⟩ : ∃ W, W = w.alloc (.cells #[.map (some nb), .map (some rb)] (54 : TypeId)) := ⟨_, rfl⟩
  have b0 : Tb (fun _ => False) w W := by rw [HW]; exact (Tb.refl _ _).alloc _
  have hS : Sh W L a nb rb s := h.none b0
  obtain ⟨v, hfind, hown, hlab⟩ := hS.rw.find Tryz.underlying52 zero74 hf
  obtain ⟨N, hN⟩ : ∃ N, N = ((lk s.rw f).getD []).length := ⟨_, rfl⟩
  have hN2 : N ≤ 4096 := by rw [hN]; exact (hm.at f).1
  rw [← hN] at hown
  obtain ⟨ad, cap, rfl⟩ := row_val hown
  have hrun := (hfind W rfl).1
  obtain ⟨ha1, ha2⟩ := ha
  by_cases hlt : at' < N
  · have hl : lk s.rw f = some ((lk s.rw f).getD []) := by
      cases e : lk s.rw f with
      | none => rw [e] at hN; simp at hN; omega
      | some r => rfl
    have hcut := own_cut (m := at'.toNat) hown (by omega) (by omega)
    rw [← flatMap_take U 64 at'.toNat _ (fun x hx => by rw [U_length]; exact ((hm.at f).2 x hx).1)] at hcut
    have hlen : (((lk s.rw f).getD []).take at'.toNat).length = at'.toNat := by rw [List.length_take, ← hN]; omega
    have hcap : N ≤ cap ∧ cap ≤ 9223372036854775807 := by
      rcases hown.2 with ⟨h1, _⟩ | ⟨g, c, cur, h1, _, _, hn, hc, _⟩
      · simp only [Value.slice.injEq] at h1; omega
      · simp only [Value.slice.injEq] at h1; unfold maxLen at hc; omega
    obtain ⟨hcap1, hcap2⟩ := hcap
    have hnr : ∀ g, L g = (a + 10, f) → g ≠ rb := fun g e e2 => by rw [e2, h.lr] at e; simp at e
    have hlab' : ∀ g, (Value.slice ad at'.toNat cap).ownBlock = some g → L g = (a + 10, f) := fun g hg => hlab g (by rw [ownBlock_slice ad N cap at'.toNat cap]; exact hg)
    have hst := hS.rw.store (w := W.drew) (L' := L) (v := .slice ad at'.toNat cap) (xs := ((lk s.rw f).getD []).take at'.toNat) Tryz.underlying52 (by have := hm.rw; omega) hf (Tb.refl _ W).drew (Lx.refl _ _) (by rw [h.lr]; simp) (by rw [hlen]; exact row_heap hcut (fun _ _ => rfl)) hlab' (fun g hg => hnr g (hlab' g hg))
    obtain ⟨w1, hr1, hR1, ht1⟩ := hst
    have hb1 : Tb (fun k => k = rb) W w1 := (Tb.refl _ W).drew.trans (Tb.turned (S := fun k => k = rb) ht1 rfl) (fun _ _ h => h)
    have hfin : Hid (Sh w1 L a nb rb (s.cut f at') ∧ Tl L (TA a) w w1) := by
      have e : s.cut f at' = ⟨s.nm, st s.rw f (((lk s.rw f).getD []).take at'.toNat)⟩ := by
        unfold Shp.cut
        rw [hl]
        simp only [Option.getD_some]
        rw [if_pos (by rw [hN] at hlt; exact hlt)]
      rw [e]
      have hne : nb ≠ rb := fun e2 => by have := h.ln; rw [e2, h.lr] at this; simp at this; omega
      refine hide ⟨⟨hS.nm.tb hb1 hne, hR1, h.ln, h.lr⟩, ?_⟩
      have t1 : Tb (fun g => TA a (L g)) w W := b0.mono (fun _ _ h => h.elim)
      refine t1.trans hb1 (fun i _ e => ?_)
      subst e
      exact .inr (.inl (by rw [h.lr]))
    have hlt' : decide (at' < (N : Int)) = true := by simpa using hlt
    clear h hS hm hfind hown hlab hlab' hN hl hcut hlen hnr hR1 ht1 hb1 b0
    obtain ⟨A, hA⟩ : ∃ A, A = at'.toNat := ⟨_, rfl⟩
    have hA' : at' = (A : Int) := by omega
    subst hA'
    rw [← hA] at hr1
    subst HW
    clear hA
    go_enter Tryz.func67, Tryz.ntmps67
    go_wp2_with fail
    go_region
    go_end0
    exact ⟨rfl, hfin⟩
  · have hfin : Hid (Sh W L a nb rb (s.cut f at') ∧ Tl L (TA a) w W) := by
      have e : s.cut f at' = s := by
        unfold Shp.cut
        cases e : lk s.rw f with
        | none => rfl
        | some r =>
          rw [e] at hN
          simp only [Option.getD_some] at hN
          simp only
          rw [if_neg (by rw [← hN]; exact hlt)]
      rw [e]
      exact hide ⟨hS, b0.mono (fun _ _ h => h.elim)⟩
    have hlt' : decide (at' < (N : Int)) = false := by simpa using hlt
    clear h hS hm hfind hown hlab hN b0
    subst HW
    go_enter Tryz.func67, Tryz.ntmps67
    go_wp2_with fail
    go_end0
    exact ⟨rfl, hfin⟩

end Go.Proofs.YtkdolabhcbjipaaGreat

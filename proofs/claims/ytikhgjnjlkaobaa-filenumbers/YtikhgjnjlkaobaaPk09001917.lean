/-
  Texts put into one.
-/
import Derived.Test.YtikhgjnjlkaobaaPk59a9caad
import Derived.Great.BuildSlice
import Derived.OneCell

/-
  Shapes (names, and files' sectors) in memory: take, cut, put, carryOut.
-/
namespace Go.Proofs.Ytikhgjnjlkaobaa
open Go.RowKit
set_option maxRecDepth 100000
set_option maxRecDepth 100000

section
variable {P : Program} {w w' : World} {ops : Array Oper} {rest : List Oper} {o : Oper} {a : Act} {Q : Exit → Act → World → Prop}
theorem wpList_lookup_run (hg : o.guard = none) (t : TypeId) (m x : Operand) (c : Bool) (hop : o.op = Op.lookup t m x c) (mv key v : Value) (hm : a.eval m = mv) (hx : a.eval x = key) (hrun : (Instr.lookup t mv key c).run P w = .ok v w)
    (hK : wpList P ops Q rest (a.put o.dst v) w) : wpList P ops Q (o :: rest) a w := by
  refine wpList_plain hg fun K' hK' => ?_
  unfold Oper.wp
  simp [execOp, hop, hm, hx, hrun, Result.andThen]
  exact hK' _ _ hK
theorem wpList_update_run (hg : o.guard = none) (t : TypeId) (m x y : Operand) (hop : o.op = Op.mapUpdate t m x y) (mv key val : Value) (hm : a.eval m = mv) (hx : a.eval x = key) (hy : a.eval y = val) (hrun : (Instr.mapUpdate t mv key val).run P w = .ok () w')
    (hK : wpList P ops Q rest (a.put o.dst undef) w') : wpList P ops Q (o :: rest) a w := by
  refine wpList_plain hg fun K' hK' => ?_
  unfold Oper.wp
  simp [execOp, hop, hm, hx, hy, hrun, Result.andThen]
  exact hK' _ _ hK
theorem wpList_delete_run (hg : o.guard = none) (t k : TypeId) (m x : Operand) (hop : o.op = Op.call { callee := Callee.builtin Builtin.delete, args := #[m, x], argTypes := #[t, k] }) (mv key : Value) (hm : a.eval m = mv) (hx : a.eval x = key) (hrun : (Builtin.delete_ #[t, k] o.type #[mv, key]).run P w = .ok (.tuple #[]) w')
    (hK : wpList P ops Q rest (a.put o.dst (.tuple #[])) w') : wpList P ops Q (o :: rest) a w := by
  refine wpList_plain hg fun K' hK' => ?_
  unfold Oper.wp
  simp [execOp, hop, resolve, invoke, builtin, hm, hx, hrun, Result.andThen]
  exact hK' _ _ hK
theorem wpList_append_run (hg : o.guard = none) (t : TypeId) (m x : Operand) (hop : o.op = Op.call { callee := Callee.builtin Builtin.append, args := #[m, x], argTypes := #[t, t] }) (mv key v : Value) (hm : a.eval m = mv) (hx : a.eval x = key) (hrun : (Builtin.append_ #[t, t] o.type #[mv, key]).run P w = .ok v w')
    (hK : wpList P ops Q rest (a.put o.dst v) w') : wpList P ops Q (o :: rest) a w := by
  refine wpList_plain hg fun K' hK' => ?_
  unfold Oper.wp
  simp [execOp, hop, resolve, invoke, builtin, hm, hx, hrun, Result.andThen]
  exact hK' _ _ hK
end

/-- The labels of a shape's blocks. -/
def TA (a : Int) (x : Int × Int) : Prop := x.1 = a ∨ x.1 = a + 1 ∨ x.1 = a + 10

/-- A shape in memory. -/
structure Sh (w : World) (L : Lb) (a : Int) (nb rb : Nat) (s : Shp) : Prop where
  nm : Nm w nb s.nm
  rw : Rw U (79 : TypeId) 64 w L (a + 10) rb s.rw
  ln : L nb = (a, 0)
  lr : L rb = (a + 1, 0)

/-- Its bounds. -/
structure Sm (s : Shp) (K : Nat) : Prop where
  nm : s.nm.length ≤ K
  rw : s.rw.length ≤ K
  file : ∀ p ∈ s.nm, I6 p.2
  row : ∀ p ∈ s.rw, p.2.length ≤ 4096 ∧ ∀ x ∈ p.2, x.length = 64 ∧ ∀ z ∈ x, 0 ≤ z ∧ z ≤ 255

section
variable {w w' : World} {L L' : Lb} {a : Int} {nb rb : Nat} {s : Shp} {K : Nat}

theorem Sh.tb {S : Nat → Prop} (h : Sh w L a nb rb s) (hb : Tb S w w') (hl : Lx w L L') (hS : ∀ g, TA a (L g) → ¬ S g) : Sh w' L' a nb rb s :=
  ⟨h.nm.tb hb (hS _ (.inl (by rw [h.ln]))), h.rw.tb hb hl (hS _ (.inr (.inl (by rw [h.lr])))) (fun g f e => hS g (.inr (.inr (by rw [e])))),
    by rw [hl _ h.nm.lt]; exact h.ln, by rw [hl _ h.rw.lt]; exact h.lr⟩

theorem Sh.none (h : Sh w L a nb rb s) (hb : Tb (fun _ => False) w w') : Sh w' L a nb rb s := h.tb hb (Lx.refl _ _) (fun _ _ h => h)

theorem Sm.fileOf (h : Sm s K) (k : List UInt8) : I6 ((lk s.nm k).getD 0) := by
  cases e : lk s.nm k with
  | none => exact ⟨by simp, by simp⟩
  | some f => exact h.file _ (lk_mem e)

theorem Sm.at (h : Sm s K) (f : Int) : ((lk s.rw f).getD []).length ≤ 4096 ∧ ∀ x ∈ (lk s.rw f).getD [], x.length = 64 ∧ ∀ z ∈ x, 0 ≤ z ∧ z ≤ 255 := by
  cases e : lk s.rw f with
  | none => simp
  | some r => exact h.row _ (lk_mem e)
end

theorem zero3 (W : World) : (zeroValue 3).run Try.prog W = .ok (.int .i64 0) W := by
  have h : (Try.prog.info? 3).map (·.zero) = some (some (.int .i64 0)) := by kernel_rfl
  obtain ⟨i, hi, hz⟩ := Option.map_eq_some_iff.1 h
  simp [zeroValue, typeInfo, hi, hz]
theorem zero74 (W : World) : (zeroValue (74 : TypeId)).run Try.prog W = .ok (.slice none 0 0) W := by
  have h : (Try.prog.info? (74 : TypeId)).map (·.zero) = some (some (.slice none 0 0)) := by kernel_rfl
  obtain ⟨i, hi, hz⟩ := Option.map_eq_some_iff.1 h
  simp [zeroValue, typeInfo, hi, hz]

/-- A name is taken away, and the file that has it. -/
def Shp.take (s : Shp) (k : List UInt8) : Shp := ⟨dl s.nm k, dl s.rw ((lk s.nm k).getD 0)⟩

set_option maxHeartbeats 1000000 in
theorem take_any {w : World} {L : Lb} {a : Int} {nb rb : Nat} {s : Shp} {K : Nat} {x : ByteArray} (h : Sh w L a nb rb s) (hm : Sm s K) (hx : x.size ≤ 9223372036854775807) :
    Calls Try.prog 61 #[.agg #[.map (some nb), .map (some rb)], .string x] w fun e w' => e = .returned (.tuple #[]) ∧ Sh w' L a nb rb (s.take x.data.toList) ∧ Tl L (TA a) w w' := by
  obtain ⟨W, HW⟩ : ∃ W, W = w.alloc (.cells #[.map (some nb), .map (some rb)] (46 : TypeId)) := ⟨_, rfl⟩
  have b0 : Tb (fun _ => False) w W := by rw [HW]; exact (Tb.refl _ _).alloc _
  have hS : Sh W L a nb rb s := h.none b0
  have hfl := hm.fileOf x.data.toList
  obtain ⟨F, hF⟩ : ∃ F, F = (lk s.nm x.data.toList).getD 0 := ⟨_, rfl⟩
  rw [← hF] at hfl
  have hfind := hS.nm.find Try.underlying43 zero3 hx
  rw [← hF] at hfind
  have hc : W.heap[w.heap.size]? = some (.cells #[.map (some nb), .map (some rb)] (46 : TypeId) (0, 0)) := by rw [HW]; exact heap_alloc_new w _
  obtain ⟨w1, hr1, hR1, ht1⟩ := hS.rw.drop Try.underlying44 hfl 0
  have hne : L nb ≠ L rb := by rw [h.ln, h.lr]; simp; omega
  have hnr : nb ≠ rb := fun e => hne (by rw [e])
  have hb1 : Tb (fun k => k = rb) W w1 := Tb.turned ht1 rfl
  have hN1 : Nm w1 nb s.nm := hS.nm.tb hb1 hnr
  have hrw : rb ≠ w.heap.size := Nat.ne_of_lt h.rw.lt
  have hc1 : w1.cell? ⟨w.heap.size, 0, none⟩ = some (.map (some nb)) := by
    rw [World.cell?_of_block (hb1.block _ (Array.getElem?_eq_some_iff.1 hc).1 (fun e => hrw e.symm)), cell_of_row W _ 0 _ (46 : TypeId) (0, 0) hc]
    rfl
  obtain ⟨w2, hr2, hN2, ht2⟩ := hN1.drop Try.underlying43 hx 0
  have hb2 : Tb (fun k => k = nb) w1 w2 := Tb.turned ht2 rfl
  have hfin : Hid (Sh w2 L a nb rb (s.take x.data.toList) ∧ Tl L (TA a) w w2) := by
    refine hide ⟨⟨hN2, ?_, h.ln, h.lr⟩, ?_⟩
    · have := hR1.tb hb2 (Lx.refl _ _) hnr.symm (fun g f e he => by rw [he, h.ln] at e; simp at e; omega)
      simpa only [Shp.take, ← hF] using this
    · have t1 : Tb (fun g => TA a (L g)) w W := b0.mono (fun _ _ h => h.elim)
      refine (t1.trans hb1 (fun i _ e => ?_)).trans hb2 (fun i _ e => ?_)
      · subst e
        exact .inr (.inl (by rw [h.lr]))
      · subst e
        exact .inl (by rw [h.ln])
  clear h hS hm hc hR1 ht1 hb1 hN1 hN2 ht2 hb2 b0 hne hnr hF
  subst HW
  go_enter Try.func61, Try.ntmps61
  go_wp2_with fail
  go_end0
  exact ⟨rfl, hfin⟩


/-- A file is cut. -/
def Shp.cut (s : Shp) (f at' : Int) : Shp := match lk s.rw f with
  | none => s
  | some r => if at' < r.length then ⟨s.nm, st s.rw f (r.take at'.toNat)⟩ else s

theorem flatMap_take {α β : Type} (c : α → List β) (size n : Nat) : ∀ l : List α, (∀ x ∈ l, (c x).length = size) → (l.take n).flatMap c = (l.flatMap c).take (n * size) := by
  induction n with
  | zero => intro l _; simp
  | succ n ih =>
    intro l h
    cases l with
    | nil => simp
    | cons x l =>
      have hx := h x (by simp)
      rw [List.take_succ_cons, List.flatMap_cons, List.flatMap_cons, ih l (fun y hy => h y (by simp [hy])), Nat.succ_mul, Nat.add_comm (n * size) size, List.take_append, List.take_of_length_le (l := c x) (by rw [hx]; omega), hx, Nat.add_sub_cancel_left]

theorem ownBlock_slice (ad : Option Addr) (n c m d : Nat) : (Value.slice ad n c).ownBlock = (Value.slice ad m d).ownBlock := by cases ad <;> rfl

/-- A row cut short. -/
theorem own_cut {w : World} {base n m size cap : Nat} {e : TypeId} {ad : Option Addr} {xs : List Value} (h : w.ownsRow base e size (.slice ad n cap) n xs) (hm : m ≤ n) (h0 : 0 < n) : w.ownsRow base e size (.slice ad m cap) m (xs.take (m * size)) := by
  have hms : m * size ≤ n * size := Nat.mul_le_mul_right _ hm
  refine ⟨by rw [List.length_take, h.1]; omega, ?_⟩
  rcases h.2 with ⟨h1, h2⟩ | ⟨g, c, cur, h1, hb, hg, hn, hc, hs, ht⟩
  · omega
  · simp only [Value.slice.injEq] at h1
    obtain ⟨rfl, _, rfl⟩ := h1
    exact .inr ⟨g, cap, cur, rfl, hb, hg, by omega, hc, hs, by rw [← ht, List.take_take, Nat.min_eq_left hms]⟩

set_option maxHeartbeats 1000000 in
theorem cut_any {w : World} {L : Lb} {a : Int} {nb rb : Nat} {s : Shp} {K : Nat} {f at' : Int} (h : Sh w L a nb rb s) (hm : Sm s K) (hK : K < 9223372036854775807) (hf : I6 f) (ha : 0 ≤ at' ∧ at' ≤ 4096) :
    Calls Try.prog 63 #[.agg #[.map (some nb), .map (some rb)], .int .i64 f, .int .i64 at'] w fun e w' => e = .returned (.tuple #[]) ∧ Sh w' L a nb rb (s.cut f at') ∧ Tl L (TA a) w w' := by
  obtain ⟨W, HW⟩ : ∃ W, W = w.alloc (.cells #[.map (some nb), .map (some rb)] (46 : TypeId)) := ⟨_, rfl⟩
  have b0 : Tb (fun _ => False) w W := by rw [HW]; exact (Tb.refl _ _).alloc _
  have hS : Sh W L a nb rb s := h.none b0
  obtain ⟨v, hfind, hown, hlab⟩ := hS.rw.find Try.underlying44 zero74 hf
  obtain ⟨N, hN⟩ : ∃ N, N = ((lk s.rw f).getD []).length := ⟨_, rfl⟩
  have hN2 : N ≤ 4096 := by rw [hN]; exact (hm.at f).1
  rw [← hN] at hown
  obtain ⟨ad, cap, rfl⟩ := row_val hown
  have hrun := (hfind W rfl).1
  obtain ⟨ha1, ha2⟩ := ha
  by_cases hlt : at' < N
  · have hl : lk s.rw f = some ((lk s.rw f).getD []) := by
      cases e : lk s.rw f with
      | none => rw [e] at hN; simp at hN; omega
      | some r => rfl
    have hcut := own_cut (m := at'.toNat) hown (by omega) (by omega)
    rw [← flatMap_take U 64 at'.toNat _ (fun x hx => by rw [U_length]; exact ((hm.at f).2 x hx).1)] at hcut
    have hlen : (((lk s.rw f).getD []).take at'.toNat).length = at'.toNat := by rw [List.length_take, ← hN]; omega
    have hcap : N ≤ cap ∧ cap ≤ 9223372036854775807 := by
      rcases hown.2 with ⟨h1, _⟩ | ⟨g, c, cur, h1, _, _, hn, hc, _⟩
      · simp only [Value.slice.injEq] at h1; omega
      · simp only [Value.slice.injEq] at h1; unfold maxLen at hc; omega
    obtain ⟨hcap1, hcap2⟩ := hcap
    have hnr : ∀ g, L g = (a + 10, f) → g ≠ rb := fun g e e2 => by rw [e2, h.lr] at e; simp at e
    have hlab' : ∀ g, (Value.slice ad at'.toNat cap).ownBlock = some g → L g = (a + 10, f) := fun g hg => hlab g (by rw [ownBlock_slice ad N cap at'.toNat cap]; exact hg)
    have hst := hS.rw.store (w := W.drew) (L' := L) (v := .slice ad at'.toNat cap) (xs := ((lk s.rw f).getD []).take at'.toNat) Try.underlying44 (by have := hm.rw; omega) hf (Tb.refl _ W).drew (Lx.refl _ _) (by rw [h.lr]; simp) (by rw [hlen]; exact row_heap hcut (fun _ _ => rfl)) hlab' (fun g hg => hnr g (hlab' g hg))
    obtain ⟨w1, hr1, hR1, ht1⟩ := hst
    have hb1 : Tb (fun k => k = rb) W w1 := (Tb.refl _ W).drew.trans (Tb.turned (S := fun k => k = rb) ht1 rfl) (fun _ _ h => h)
    have hfin : Hid (Sh w1 L a nb rb (s.cut f at') ∧ Tl L (TA a) w w1) := by
      have e : s.cut f at' = ⟨s.nm, st s.rw f (((lk s.rw f).getD []).take at'.toNat)⟩ := by
        unfold Shp.cut
        rw [hl]
        simp only [Option.getD_some]
        rw [if_pos (by rw [hN] at hlt; exact hlt)]
      rw [e]
      have hne : nb ≠ rb := fun e2 => by have := h.ln; rw [e2, h.lr] at this; simp at this; omega
      refine hide ⟨⟨hS.nm.tb hb1 hne, hR1, h.ln, h.lr⟩, ?_⟩
      have t1 : Tb (fun g => TA a (L g)) w W := b0.mono (fun _ _ h => h.elim)
      refine t1.trans hb1 (fun i _ e => ?_)
      subst e
      exact .inr (.inl (by rw [h.lr]))
    have hlt' : decide (at' < (N : Int)) = true := by simpa using hlt
    clear h hS hm hfind hown hlab hlab' hN hl hcut hlen hnr hR1 ht1 hb1 b0
    obtain ⟨A, hA⟩ : ∃ A, A = at'.toNat := ⟨_, rfl⟩
    have hA' : at' = (A : Int) := by omega
    subst hA'
    rw [← hA] at hr1
    subst HW
    clear hA
    go_enter Try.func63, Try.ntmps63
    go_wp2_with fail
    go_region
    go_end0
    exact ⟨rfl, hfin⟩
  · have hfin : Hid (Sh W L a nb rb (s.cut f at') ∧ Tl L (TA a) w W) := by
      have e : s.cut f at' = s := by
        unfold Shp.cut
        cases e : lk s.rw f with
        | none => rfl
        | some r =>
          rw [e] at hN
          simp only [Option.getD_some] at hN
          simp only
          rw [if_neg (by rw [← hN]; exact hlt)]
      rw [e]
      exact hide ⟨hS, b0.mono (fun _ _ h => h.elim)⟩
    have hlt' : decide (at' < (N : Int)) = false := by simpa using hlt
    clear h hS hm hfind hown hlab hN b0
    subst HW
    go_enter Try.func63, Try.ntmps63
    go_wp2_with fail
    go_end0
    exact ⟨rfl, hfin⟩

end Go.Proofs.Ytikhgjnjlkaobaa

/-
  A sector is put into a shape; steps are carried out.
-/
namespace Go.Proofs.Ytikhgjnjlkaobaa
open Go.RowKit
set_option maxRecDepth 100000
set_option maxRecDepth 100000

/-- Rows of elements appended to a row that is owned, told where it went: at the operation. -/
theorem wpList_append_rows {P : Program} {w : World} {ops : Array Oper} {rest : List Oper} {o : Oper} {a : Act} {Q : Exit → Act → World → Prop} (hgd : o.guard = none) (s x : Operand) (t : TypeId) (ho : o.op = .call { callee := .builtin .append, args := #[s, x], argTypes := #[t, t] })
    (base : Nat) (e : TypeId) (i : TypeInfo) (z : Value) (size bytes : Nat) (ht : P.underlying t = some (.slice e)) (hi : P.info? e = some i) (hz : i.zero = some z)
    (hsize : i.size = size) (hby : i.bytes = bytes) (hzs : z.cells.size = size) (hsz : 0 < size) (v : Value) (n : Nat) (xs : List Value) (hs : a.eval s = v) (hown : w.ownsRow base e size v n xs)
    (xv : Value) (m : Nat) (ys : List Value) (base' : Nat) (hx : a.eval x = xv) (hxo : w.ownsRow base' e size xv m ys) (h1 : ∀ u ∈ ys, u.oneCell' = true) (h63 : n + m ≤ maxLen) (hbytes : (n + m) * bytes ≤ 140737488355328) (hbase : base ≤ w.heap.size)
    (h : ∀ v' w', w'.ownsRow base e size v' (n + m) (xs ++ ys) → w.grownBy w' v.ownBlock → (v'.ownBlock = v.ownBlock ∨ v'.ownBlock = some w.heap.size) → wpList P ops Q rest (a.put o.dst v') w') :
    wpList P ops Q (o :: rest) a w := by
  obtain ⟨v', w', hr, h2, h3, h4⟩ := run_append_rows (P := P) (w := w) base t o.type e i z size bytes ht hi hz hsize hby hzs hsz v n xs hown xv m ys base' hxo h1 h63 hbytes hbase
  refine wpList_append_run hgd t s x ho v xv v' hs hx hr (h v' w' h2 h3 h4)

/-- The new values of cells from a place on. -/
def over (c : Array Value) (o : Nat) : List Value → Array Value
  | [] => c
  | v :: r => over (c.setIfInBounds o v) (o + 1) r

theorem over_size (vs : List Value) : ∀ (c : Array Value) (o : Nat), (over c o vs).size = c.size := by
  induction vs with
  | nil => exact fun _ _ => rfl
  | cons v r ih => exact fun c o => by rw [over, ih]; simp

theorem over_list (vs : List Value) : ∀ (c : Array Value) (o : Nat), o + vs.length ≤ c.size → (over c o vs).toList = c.toList.take o ++ vs ++ c.toList.drop (o + vs.length) := by
  induction vs with
  | nil => intro c o h; simp [over]
  | cons v r ih =>
    intro c o h
    simp only [List.length_cons] at h
    rw [over, ih _ _ (by simp; omega)]
    simp only [Array.toList_setIfInBounds, List.length_cons]
    have h2 : o < c.toList.length := by simp; omega
    rw [List.take_succ_eq_append_getElem (by simp; omega)]
    simp only [List.getElem_set_self, List.append_assoc, List.cons_append, List.nil_append]
    rw [List.take_set_of_le (by omega), List.drop_set_of_lt (by omega)]
    congr 3
    congr 1
    omega

theorem heap_over {G : Nat} {T : TypeId} (vs : List Value) : ∀ (o : Nat) (w : World) (c : Array Value), w.heap[G]? = some (.cells c T (0, 0)) → (w.setCells G o vs).heap[G]? = some (.cells (over c o vs) T (0, 0)) := by
  induction vs with
  | nil => exact fun o w c h => h
  | cons v r ih => exact fun o w c h => ih (o + 1) _ _ (heap_setCell_same w G o c T v h)

theorem tb_over {S : Nat → Prop} {G : Nat} (hG : S G) (vs : List Value) : ∀ (o : Nat) (w : World), Tb S w (w.setCells G o vs) := by
  induction vs with
  | nil => exact fun o w => Tb.refl _ _
  | cons v r ih => exact fun o w => (Tb.set G o v hG).trans (ih (o + 1) _) (fun _ _ h => h)

theorem there_over {w : World} {G : Nat} {T : TypeId} {c : Array Value} (h : w.heap[G]? = some (.cells c T (0, 0))) (o n : Nat) (hn : o + n ≤ c.size) : w.there G o n := fun j hj => by
  refine ⟨?_, frozen_of_row w G (o + j) c T h⟩
  rw [cell_of_row w G (o + j) c T (0, 0) h, Array.getElem?_eq_getElem (by omega)]
  rfl

/-- An element of a row is put anew. -/
theorem own_put {α : Type} {c : α → List Value} {w : World} {base n size cap g k : Nat} {e : TypeId} {xs : List α} {x : α} (h : w.ownsRow base e size (.slice (some ⟨g, 0, none⟩) n cap) n (xs.flatMap c)) (hn : xs.length = n) (hc : ∀ y ∈ xs, (c y).length = size) (hx : (c x).length = size) (hk : k < n) :
    w.there g (k * size) (c x).length ∧ (w.setCells g (k * size) (c x)).ownsRow base e size (.slice (some ⟨g, 0, none⟩) n cap) n ((xs.set k x).flatMap c) := by
  subst hn
  rcases h.2 with ⟨h1, _⟩ | ⟨g', c', cur, h1, hb, hg, hn, hm, hs, ht⟩
  · cases h1
  · simp only [Value.slice.injEq, Option.some.injEq, Addr.mk.injEq] at h1
    obtain ⟨⟨rfl, _, _⟩, _, rfl⟩ := h1
    have hkn : k * size + size ≤ xs.length * size := by
      have := Nat.mul_le_mul_right size (show k + 1 ≤ xs.length by omega)
      rw [Nat.succ_mul] at this
      exact this
    have hnc : xs.length * size ≤ cur.size := by rw [hs]; exact Nat.mul_le_mul_right _ hn
    have hset : (xs.set k x).flatMap c = (xs.flatMap c).take (k * size) ++ c x ++ (xs.flatMap c).drop (k * size + size) := by
      have e1 : xs.set k x = xs.take k ++ x :: xs.drop (k + 1) := List.set_eq_take_append_cons_drop .. |>.trans (by rw [if_pos hk])
      have e2 : (xs.drop (k + 1)).flatMap c = (xs.flatMap c).drop ((k + 1) * size) := by
        have h3 : xs.flatMap c = (xs.take (k + 1)).flatMap c ++ (xs.drop (k + 1)).flatMap c := by rw [← List.flatMap_append, List.take_append_drop]
        have h4 : ((xs.take (k + 1)).flatMap c).length = (k + 1) * size := by
          rw [flatMap_take c size (k + 1) xs hc, List.length_take, h.1]
          rw [Nat.succ_mul]
          omega
        rw [h3, ← h4, List.drop_left]
      rw [e1, List.flatMap_append, List.flatMap_cons, flatMap_take c size k xs hc, e2, Nat.succ_mul, List.append_assoc]
    have hl : (over cur (k * size) (c x)).toList.take (xs.length * size) = (xs.set k x).flatMap c := by
      rw [over_list _ _ _ (by rw [hx]; omega), hset, ← ht, hx]
      have a1 : (cur.toList.take (xs.length * size)).take (k * size) = cur.toList.take (k * size) := by rw [List.take_take, Nat.min_eq_left (by omega)]
      rw [a1, List.take_append, List.take_of_length_le (l := cur.toList.take (k * size) ++ c x) (by simp [hx]; omega)]
      congr 1
      rw [List.drop_take]
      congr 1
      simp [hx]
      omega
    refine ⟨there_over hg _ _ (by rw [hx]; omega), ?_, .inr ⟨_, _, _, rfl, hb, heap_over _ _ _ _ hg, hn, hm, by rw [over_size, hs], hl⟩⟩
    have e3 : (over cur (k * size) (c x)).toList.length = cur.size := (Array.length_toList (xs := over cur (k * size) (c x))).trans (over_size _ _ _)
    rw [← hl, List.length_take, e3]
    omega

/-- A sector of noughts. -/
def zero64 : Array Value := (U (List.replicate 64 0)).toArray
theorem info79 : (Try.prog.info? (79 : TypeId)).map (fun i => (i.zero, i.size, i.bytes)) = some (some (.agg zero64), 64, 64) := by kernel_rfl
theorem built79 : Try.prog.built (79 : TypeId) [] = some zero64 := by kernel_rfl
theorem fill79 : Instr.fill (fun i => some (i * 64, 64)) ((Array.range (1 * 64)).map (zero64[· % zero64.size]!)) [(0, .agg zero64)] = some zero64 := by kernel_rfl

/-- A row with a sector put. -/
def putIn (r : List (List Int)) (k : Nat) (d : List Int) : List (List Int) := (r ++ List.replicate (k + 1 - r.length) (List.replicate 64 0)).set k d

def Shp.put (s : Shp) (f at' : Int) (d : List Int) : Shp := match lk s.rw f with
  | none => s
  | some r => ⟨s.nm, st s.rw f (putIn r at'.toNat d)⟩


theorem replicate_more (r : List (List Int)) (j : Nat) : r ++ List.replicate (j + 1) (List.replicate 64 (0 : Int)) = (r ++ List.replicate j (List.replicate 64 0)) ++ [List.replicate 64 0] := by
  rw [List.replicate_succ', List.append_assoc]

/-- A row under way: so many noughts more. -/
structure Uw (w W : World) (L : Lb) (x : Int × Int) (r : List (List Int)) (N j : Nat) (v : Value) (wr : World) : Prop where
  own : wr.ownsRow 0 (79 : TypeId) 64 v (N + j) ((r ++ List.replicate j (List.replicate 64 0)).flatMap U)
  tb : Tb (fun g => g < w.heap.size ∧ L g = x) W wr
  lb : ∀ g, v.ownBlock = some g → (g < w.heap.size ∧ L g = x) ∨ W.heap.size ≤ g

theorem own_one (w : World) (cs : List Value) (size : Nat) (e : TypeId) (h : cs.length = size) : (w.alloc (.cells cs.toArray e)).ownsRow 0 e size (.slice (some ⟨w.heap.size, 0, none⟩) 1 1) 1 cs :=
  ⟨by omega, .inr ⟨_, 1, _, rfl, Nat.zero_le _, heap_alloc_new w _, Nat.le_refl _, by unfold maxLen; omega, by simp [h], by simp [← h]⟩⟩

def lenV : Value → Nat
  | .slice _ n _ => n
  | _ => 0

set_option maxHeartbeats 2000000 in
theorem put_any {w : World} {L : Lb} {a : Int} {nb rb : Nat} {s : Shp} {K : Nat} {f at' : Int} {d : List Int} (h : Sh w L a nb rb s) (hm : Sm s K) (hK : K < 9223372036854775807) (hf : I6 f) (ha : 0 ≤ at' ∧ at' ≤ 4095) (hd : d.length = 64) :
    Calls Try.prog 62 #[.agg #[.map (some nb), .map (some rb)], .int .i64 f, .int .i64 at', .agg (U d).toArray] w fun e w' => e = .returned (.tuple #[]) ∧ ∃ L', Lx w L L' ∧ Sh w' L' a nb rb (s.put f at' d) ∧ Tl L (TA a) w w' := by
  obtain ⟨W, HW⟩ : ∃ W, W = (w.alloc (.cells #[.map (some nb), .map (some rb)] (46 : TypeId))).alloc (.cells (U d).toArray (79 : TypeId)) := ⟨_, rfl⟩
  have b0 : Tb (fun _ => False) w W := by rw [HW]; exact ((Tb.refl _ _).alloc _).alloc _
  have hS : Sh W L a nb rb s := h.none b0
  obtain ⟨v, hfind, hown, hlab⟩ := h.rw.find Try.underlying44 zero74 hf
  have hrun := (hfind W (b0.block rb h.rw.lt (fun h => h))).2
  obtain ⟨ha1, ha2⟩ := ha
  cases hl : lk s.rw f with
  | none =>
    rw [hl] at hrun
    have e : s.put f at' d = s := by unfold Shp.put; rw [hl]
    have hfin : Hid (Lx w L L ∧ Sh W L a nb rb (s.put f at' d) ∧ Tl L (TA a) w W) := hide ⟨Lx.refl _ _, by rw [e]; exact hS, b0.mono (fun _ _ h => h.elim)⟩
    clear h hS hm hfind hown hlab b0 hl e
    subst HW
    go_enter Try.func62, Try.ntmps62
    go_wp2_with fail
    (try simp only [Exit.inBlock, Exit.then])
    refine bodyPost_ret (results_none rfl _ _ _) rfl ?_
    exact ⟨rfl, L, hfin⟩
  | some r =>
    rw [hl] at hrun hown
    simp only [Option.getD_some] at hown
    have hrl : r.length ≤ 4096 ∧ ∀ x ∈ r, x.length = 64 := by
      have := hm.at f
      rw [hl] at this
      exact ⟨this.1, fun x hx => (this.2 x hx).1⟩
    obtain ⟨N, hN⟩ : ∃ N, Hid (N = r.length) := ⟨_, hide rfl⟩
    rw [← hN.out] at hown
    have hu0 : Hid (Uw w W L (a + 10, f) r N 0 v W) := hide ⟨by simpa using row_tb hown b0 (fun _ _ h => h), Tb.refl _ _, fun g hg => .inl ⟨row_lt hown hg, hlab g hg⟩⟩
    have hN2 : N ≤ 4096 := by rw [hN.out]; exact hrl.1
    obtain ⟨ad, cap, rfl⟩ := row_val hown
    obtain ⟨A, hA⟩ : ∃ A : Nat, at' = (A : Int) := ⟨at'.toNat, by omega⟩
    subst hA
    obtain ⟨i9, hi9, hz9⟩ := Option.map_eq_some_iff.1 info79
    simp only [Prod.mk.injEq] at hz9
    obtain ⟨hz1, hz2, hz3⟩ := hz9
    have HS := hide hS
    have HF := hide h
    have HM := hide hm
    have HB := hide b0
    have hW1 : Hid (W.heap[w.heap.size + 1]? = some (.cells (U d).toArray (79 : TypeId) (0, 0))) := hide (by rw [HW]; simpa using heap_alloc_new (w.alloc (.cells #[.map (some nb), .map (some rb)] (46 : TypeId))) (.cells (U d).toArray (79 : TypeId)))
    have hW0 : Hid (W.heap[w.heap.size]? = some (.cells #[.map (some nb), .map (some rb)] (46 : TypeId) (0, 0))) := hide (by rw [HW]; exact (((Tb.refl (fun _ => False) _).alloc _).block w.heap.size (by simp) (fun h => h)).trans (heap_alloc_new w _))
    rw [HW] at hrun
    have HW' := hide HW
    have HR := hide hrl
    clear h hS hm hfind hown hlab b0 HW hrl
    go_enter Try.func62, Try.ntmps62
    go_wp2_with fail
    go_loopw [8] (fun rv wr => ∃ (j : Nat) (ad1 : Option Addr) (cap1 : Nat), N + j ≤ 4096 ∧ Hid (j = 0 ∨ N + j ≤ A + 1) ∧ rv = .slice ad1 (N + j) cap1 ∧ Hid (Uw w W L (a + 10, f) r N j (.slice ad1 (N + j) cap1) wr)) (fun rv _ => A + 1 - lenV rv)
    case atStart => exact ⟨0, ad, cap, hN2, hide (.inl rfl), rfl, by rw [← HW'.out]; exact hu0⟩
    case round =>
      obtain ⟨j, ad1, cap1, hj, hj2, rfl, hu⟩ := hrel
      by_cases hlt : N + j ≤ A
      · go_wp2_with (first
          | (refine wpList_buildTo rfl (79 : TypeId) _ rfl _ rfl zero64 built79 ?_)
          | (refine wpList_buildSlice rfl (74 : TypeId) (79 : TypeId) 1 _ rfl zero64 i9 (.agg zero64) Try.underlying74 hi9 hz1 (by rw [hz2]; decide) (by rw [hz2]; decide) (by rw [hz2]; exact fill79) ?_)
          | (at_builtin; refine wpList_append_rows rfl (.tmp 23) (.tmp 25) (74 : TypeId) rfl 0 (79 : TypeId) i9 (.agg zero64) 64 64 Try.underlying74 hi9 hz1 hz2 hz3 (by rfl) (by decide) (.slice ad1 (N + j) cap1) (N + j) _ rfl (hu.out.own.alloc _) _ 1 (U (List.replicate 64 0)) 0 rfl (own_one wr (U (List.replicate 64 0)) 64 (79 : TypeId) (by rfl)) (U_one _) (by unfold maxLen; omega) (by omega) (Nat.zero_le _) ?_; intro v1 w2 hown1 hgrow1 hwent1; obtain ⟨ad2, cap2, rfl⟩ := row_val hown1; have ho1 := hide hown1; clear hown1))
        go_roundw
        case rel =>
          refine ⟨j + 1, ad2, cap2, by omega, hide (.inr (by omega)), rfl, hide ⟨?_, ?_, fun g hg => ?_⟩⟩
          · have := ho1.out
            rw [replicate_more, List.flatMap_append, List.flatMap_singleton]
            exact this
          · have t1 : Tb (fun g => g < w.heap.size ∧ L g = (a + 10, f)) W (wr.alloc (.cells zero64 (79 : TypeId))) := hu.out.tb.alloc _
            refine t1.trans (Tb.of_grown (S := fun g => (g < w.heap.size ∧ L g = (a + 10, f)) ∨ W.heap.size ≤ g) hgrow1 hu.out.lb) (fun g hg hh => ?_)
            rcases hh with hh | hh
            · exact hh
            · omega
          · rcases hwent1 with e | e
            · exact hu.out.lb g (by rw [← e]; exact hg)
            · have hg' : (Value.slice ad2 (N + j + 1) cap2).ownBlock = some g := hg
              rw [e] at hg'
              simp at hg'
              have := hu.out.tb.size
              exact .inr (by omega)
        case measure => simp only [lenV]; omega
      · have hgt : A < N + j := by omega
        obtain ⟨g, hg⟩ : ∃ g, ad1 = some ⟨g, 0, none⟩ := by
          rcases hu.out.own.2 with ⟨h1, h2⟩ | ⟨g, c, cur, h1, _⟩
          · omega
          · simp only [Value.slice.injEq] at h1
            exact ⟨g, h1.1⟩
        subst hg
        have hcap : N + j ≤ cap1 ∧ cap1 ≤ 9223372036854775807 := by
          rcases hu.out.own.2 with ⟨h1, _⟩ | ⟨g, c, cur, h1, _, _, hn, hc, _⟩
          · cases h1
          · simp only [Value.slice.injEq] at h1; unfold maxLen at hc; omega
        obtain ⟨hcap1, hcap2⟩ := hcap
        have hsz := HB.out.size
        have hX : wr.heap[w.heap.size + 1]? = some (.cells (U d).toArray (79 : TypeId) (0, 0)) := (hu.out.tb.block _ (Array.getElem?_eq_some_iff.1 hW1.out).1 (fun h => by omega)).trans hW1.out
        have hC : wr.heap[w.heap.size]? = some (.cells #[.map (some nb), .map (some rb)] (46 : TypeId) (0, 0)) := (hu.out.tb.block _ (Array.getElem?_eq_some_iff.1 hW0.out).1 (fun h => by omega)).trans hW0.out
        obtain ⟨R2, hR2⟩ : ∃ R2, Hid (R2 = r ++ List.replicate j (List.replicate 64 (0 : Int))) := ⟨_, hide rfl⟩
        have hl2 : R2.length = N + j := by rw [hR2.out]; simp [hN.out]
        have hown2 := hu.out.own
        rw [← hR2.out] at hown2
        have hall : ∀ y ∈ R2, (U y).length = 64 := by
          intro y hy
          rw [hR2.out] at hy
          rw [U_length]
          rcases List.mem_append.1 hy with hy | hy
          · exact HR.out.2 y hy
          · rw [(List.mem_replicate.1 hy).2]; simp
        obtain ⟨hth, hown3⟩ := own_put (x := d) (k := A) hown2 hl2 hall (by rw [U_length, hd]) hgt
        have hone : (U d).toArray.all (·.oneCell') = true := all_oneCell_toArray (U_one d)
        obtain ⟨W5, hW5⟩ : ∃ W5, Hid (W5 = wr.setCells g (A * 64) (U d)) := ⟨_, hide rfl⟩
        rw [← hW5.out] at hown3
        have hset : (R2.set A d).length = N + j := by rw [List.length_set, hl2]
        have hgl := hu.out.lb g rfl
        have t5 : Tb (fun k => k = g) wr W5 := by rw [hW5.out]; exact tb_over (S := fun k => k = g) rfl _ _ _
        have t4 : Tb (fun k => L k = (a + 10, f)) w wr := (HB.out.mono (T := fun k => L k = (a + 10, f)) (fun _ _ h => h.elim)).trans hu.out.tb (fun _ _ h => h.2)
        have tbw : Tb (fun k => L k = (a + 10, f)) w W5 := t4.trans t5 (fun k hk e => by
          subst e
          rcases hgl with h | h
          · exact h.2
          · omega)
        have hLx : Lx w L (lab L g (a + 10, f)) := fun k hk => by
          unfold lab
          by_cases e : k = g
          · subst e
            rw [if_pos rfl]
            rcases hgl with h | h
            · exact h.2.symm
            · omega
          · rw [if_neg e]
        have hne : ∀ k, (Value.slice (some ⟨g, 0, none⟩) (N + j) cap1).ownBlock = some k → k = g := fun k hk => by simpa [Value.ownBlock] using hk.symm
        have hgb : g ≠ rb := fun e => by
          subst e
          have := HF.out.rw.lt
          rcases hgl with h | h
          · have := h.2; rw [HF.out.lr] at this; simp at this
          · omega
        have hst := HF.out.rw.store (w := W5) (L' := lab L g (a + 10, f)) (v := .slice (some ⟨g, 0, none⟩) (N + j) cap1) (xs := R2.set A d) Try.underlying44 (by have := HM.out.rw; omega) hf tbw hLx (by rw [HF.out.lr]; simp) (by rw [hset]; exact hown3) (fun k hk => by rw [hne k hk]; exact lab_new _ _ _) (fun k hk => by rw [hne k hk]; exact hgb)
        obtain ⟨w6, hr6, hR6, ht6⟩ := hst
        have t6 : Tb (fun k => k = rb) W5 w6 := Tb.turned ht6 rfl
        have hfin : Hid (Lx w L (lab L g (a + 10, f)) ∧ Sh w6 (lab L g (a + 10, f)) a nb rb (s.put f (A : Int) d) ∧ Tl L (TA a) w w6) := by
          have e : s.put f (A : Int) d = ⟨s.nm, st s.rw f (R2.set A d)⟩ := by
            unfold Shp.put
            rw [hl]
            simp only [putIn, Int.toNat_natCast]
            rw [hR2.out]
            have e2 : A + 1 - r.length = j := by
              rw [← hN.out]
              rcases hj2.out with h | h <;> omega
            rw [e2]
          have tf : Tb (fun k => TA a (L k)) w w6 := (tbw.mono (T := fun k => TA a (L k)) (fun k _ h => .inr (.inr (by rw [h])))).trans t6 (fun k _ e => by subst e; exact .inr (.inl (by rw [HF.out.lr])))
          have hnr : nb ≠ rb := fun e2 => by have := HF.out.ln; rw [e2, HF.out.lr] at this; simp at this; omega
          have hN6 : Nm w6 nb s.nm := (HF.out.nm.tb tbw (by rw [HF.out.ln]; simp; omega)).tb t6 hnr
          rw [e]
          exact hide ⟨hLx, ⟨hN6, hR6, by rw [hLx _ HF.out.nm.lt]; exact HF.out.ln, by rw [hLx _ HF.out.rw.lt]; exact HF.out.lr⟩, tf⟩
        have hsz2 := (Array.getElem?_eq_some_iff.1 hW1.out).1
        have hgw : g ≠ w.heap.size := fun e => by rcases hgl with h | h <;> omega
        have hC5 : W5.cell? ⟨w.heap.size, 1, none⟩ = some (.map (some rb)) := by
          rw [World.cell?_of_block (t5.block _ (Array.getElem?_eq_some_iff.1 hC).1 (fun e => hgw e.symm)), cell_of_row wr _ 1 _ (46 : TypeId) (0, 0) hC]
          rfl
        clear hu t4 t5 t6 tbw hLx hne hgb hR6 ht6 hown2 hown3 hset hall hC hgl
        go_wp2_with (first
          | (refine wpList_load_row rfl (79 : TypeId) _ rfl (w.heap.size + 1) rfl (79 : TypeId) (U d).toArray (0, 0) _ hX Try.underlying79 rfl (by rw [hi9]; simp [hz2, U_length, hd]) ?_)
          | (refine wpList_store_mid rfl (79 : TypeId) _ _ rfl g (A * 64) (U d).toArray rfl rfl hth (by rw [hi9]; simp [hz2, U_length, hd]) hone ?_; rw [← hW5.out]))
        go_end0
        exact ⟨rfl, _, hfin⟩

end Go.Proofs.Ytikhgjnjlkaobaa

/-
  Steps are carried out on a shape.
-/
namespace Go.Proofs.Ytikhgjnjlkaobaa
open Go.RowKit
set_option maxRecDepth 100000
set_option maxRecDepth 100000

/-- A step is carried out. -/
def Shp.does (s : Shp) (t : Stp) : Shp :=
  if t.kind = 0 then ⟨st (s.take t.name.data.toList).nm t.name.data.toList t.file, st (s.take t.name.data.toList).rw t.file []⟩
  else if t.kind = 1 then s.put t.file t.at' t.data
  else if t.kind = 2 then s.cut t.file t.at'
  else if t.kind = 3 then
    (if (lk s.nm t.name.data.toList).getD 0 = t.file then ⟨st ((⟨dl s.nm t.name.data.toList, s.rw⟩ : Shp).take t.to.data.toList).nm t.to.data.toList t.file, ((⟨dl s.nm t.name.data.toList, s.rw⟩ : Shp).take t.to.data.toList).rw⟩ else s)
  else (if (lk s.nm t.name.data.toList).getD 0 = t.file then s.take t.name.data.toList else s)

theorem dl_le {κ ν : Type} [DecidableEq κ] (l : List (κ × ν)) (k : κ) : (dl l k).length ≤ l.length := List.length_filter_le _ _
theorem st_le {κ ν : Type} [DecidableEq κ] (l : List (κ × ν)) (k : κ) (v : ν) : (st l k v).length ≤ l.length + 1 := by
  unfold st
  rw [List.length_append]
  have := dl_le l k
  simp
  omega
theorem dl_mem {κ ν : Type} [DecidableEq κ] {l : List (κ × ν)} {k : κ} {p : κ × ν} (h : p ∈ dl l k) : p ∈ l := (List.mem_filter.1 h).1
theorem st_mem {κ ν : Type} [DecidableEq κ] {l : List (κ × ν)} {k : κ} {v : ν} {p : κ × ν} (h : p ∈ st l k v) : p ∈ l ∨ p = (k, v) := by
  rcases List.mem_append.1 h with h | h
  · exact .inl (dl_mem h)
  · exact .inr (by simpa using h)

section
variable {s : Shp} {K : Nat}
theorem Sm.mono (h : Sm s K) {K' : Nat} (hk : K ≤ K') : Sm s K' := ⟨Nat.le_trans h.nm hk, Nat.le_trans h.rw hk, h.file, h.row⟩
theorem Sm.take (h : Sm s K) (k : List UInt8) : Sm (s.take k) K :=
  ⟨Nat.le_trans (dl_le _ _) h.nm, Nat.le_trans (dl_le _ _) h.rw, fun p hp => h.file p (dl_mem hp), fun p hp => h.row p (dl_mem hp)⟩
theorem Sm.dln (h : Sm s K) (k : List UInt8) : Sm ⟨dl s.nm k, s.rw⟩ K := ⟨Nat.le_trans (dl_le _ _) h.nm, h.rw, fun p hp => h.file p (dl_mem hp), h.row⟩
theorem Sm.stn (h : Sm s K) (k : List UInt8) {f : Int} (hf : I6 f) : Sm ⟨st s.nm k f, s.rw⟩ (K + 1) :=
  ⟨Nat.le_trans (st_le _ _ _) (Nat.succ_le_succ h.nm), Nat.le_succ_of_le h.rw, fun p hp => (st_mem hp).elim (h.file p) (fun e => by rw [e]; exact hf), h.row⟩
theorem Sm.str (h : Sm s K) (f : Int) {r : List (List Int)} (hr : r.length ≤ 4096 ∧ ∀ x ∈ r, x.length = 64 ∧ ∀ z ∈ x, 0 ≤ z ∧ z ≤ 255) : Sm ⟨s.nm, st s.rw f r⟩ (K + 1) :=
  ⟨Nat.le_succ_of_le h.nm, Nat.le_trans (st_le _ _ _) (Nat.succ_le_succ h.rw), h.file, fun p hp => (st_mem hp).elim (h.row p) (fun e => by rw [e]; exact hr)⟩
theorem Sm.put (h : Sm s K) (f at' : Int) {d : List Int} (ha : 0 ≤ at' ∧ at' ≤ 4095) (hd : d.length = 64) (hb : ∀ z ∈ d, 0 ≤ z ∧ z ≤ 255) : Sm (s.put f at' d) (K + 1) := by
  unfold Shp.put
  cases e : lk s.rw f with
  | none => exact h.mono (Nat.le_succ _)
  | some r =>
    have hr := h.row _ (lk_mem e)
    refine h.str f ⟨?_, fun x hx => ?_⟩
    · simp only [putIn, List.length_set, List.length_append, List.length_replicate]
      have := hr.1
      simp only at this
      omega
    · rcases List.mem_or_eq_of_mem_set hx with hx | rfl
      · rcases List.mem_append.1 hx with hx | hx
        · exact hr.2 x hx
        · rw [(List.mem_replicate.1 hx).2]
          exact ⟨by simp, fun z hz => by rw [(List.mem_replicate.1 hz).2]; omega⟩
      · exact ⟨hd, hb⟩
theorem Sm.cut (h : Sm s K) (f at' : Int) : Sm (s.cut f at') (K + 1) := by
  unfold Shp.cut
  cases e : lk s.rw f with
  | none => exact h.mono (Nat.le_succ _)
  | some r =>
    have hr := h.row _ (lk_mem e)
    simp only
    split
    · exact h.str f ⟨by rw [List.length_take]; have := hr.1; simp only at this; omega, fun x hx => hr.2 x (List.mem_of_mem_take hx)⟩
    · exact h.mono (Nat.le_succ _)
theorem Stp.Ok.i6 {t : Stp} (h : t.Ok) : I6 t.file := ⟨by have := h.file; omega, h.file.2⟩
theorem Sm.does (h : Sm s K) {t : Stp} (ht : t.Ok) : Sm (s.does t) (K + 1) := by
  unfold Shp.does
  split
  · have h1 := (h.take t.name.data.toList).stn t.name.data.toList ht.i6
    have h2 := (h.take t.name.data.toList).str t.file (r := []) ⟨by simp, by simp⟩
    exact ⟨h1.nm, h2.rw, h1.file, h2.row⟩
  · split
    · next hk => exact h.put _ _ ⟨ht.at'.1, ht.put hk⟩ ht.data ht.byte
    · split
      · exact h.cut _ _
      · split
        · split
          · exact ((h.dln _).take _).stn _ ht.i6
          · exact h.mono (Nat.le_succ _)
        · split
          · exact (h.take _).mono (Nat.le_succ _)
          · exact h.mono (Nat.le_succ _)
end

/-- The labels as they are of what is there. -/
def onlyL (w : World) (L : Lb) : Lb := fun b => if b < w.heap.size then L b else (0, 0)
theorem onlyL_lx (w : World) (L : Lb) : Lx w L (onlyL w L) := fun b hb => by simp [onlyL, hb]
theorem onlyL_new {w : World} {L : Lb} {b : Nat} (h : w.heap.size ≤ b) : onlyL w L b = (0, 0) := by simp [onlyL, Nat.not_lt.2 h]

theorem Tl.labels {w w' : World} {L L' : Lb} {T : Int × Int → Prop} (h : Tl L' T w w') (hl : Lx w L L') : Tl L T w w' := Tb.mono h (fun i hi ht => by rw [hl i hi] at ht; exact ht)

set_option maxHeartbeats 2000000 in
theorem carry_any {w : World} {L : Lb} {a : Int} {nb rb : Nat} {s : Shp} {K : Nat} {t : Stp} (h : Sh w L a nb rb s) (ha : 0 < a) (hm : Sm s K) (hK : K < 9000000000000000000) (ht : t.Ok) :
    Calls Try.prog 43 #[.agg #[.map (some nb), .map (some rb)], .agg t.cells.toArray] w fun e w' => e = .returned (.tuple #[]) ∧ ∃ L', Lx w L L' ∧ Sh w' L' a nb rb (s.does t) ∧ Tl L (TA a) w w' := by
  obtain ⟨cs, hcs⟩ : ∃ cs, Hid (cs = t.cells.toArray) := ⟨_, hide rfl⟩
  have h1 : cs[1]? = some (.int .u8 t.kind) := by rw [hcs.out]; rfl
  have h2 : cs[2]? = some (.int .i64 t.file) := by rw [hcs.out]; rfl
  have h3 : cs[3]? = some (.string t.name) := by rw [hcs.out]; rfl
  have h4 : cs[4]? = some (.string t.to) := by rw [hcs.out]; rfl
  have h5 : cs[5]? = some (.int .i64 t.at') := by rw [hcs.out]; rfl
  have hsz : Hid (cs.size = 70) := hide (by rw [hcs.out, List.size_toArray]; exact ht.len)
  rw [← hcs.out]
  obtain ⟨W, HW⟩ : ∃ W, W = (w.alloc (.cells #[.map (some nb), .map (some rb)] (46 : TypeId))).alloc (.cells cs (81 : TypeId)) := ⟨_, rfl⟩
  have b0 : Tb (fun _ => False) w W := by rw [HW]; exact ((Tb.refl _ _).alloc _).alloc _
  obtain ⟨M, hM⟩ : ∃ M, M = onlyL w L := ⟨_, rfl⟩
  have hLM : Lx w L M := by rw [hM]; exact onlyL_lx w L
  have hS : Sh W M a nb rb s := h.tb b0 hLM (fun _ _ h => h)
  have hW0 : W.heap[w.heap.size]? = some (.cells #[.map (some nb), .map (some rb)] (46 : TypeId) (0, 0)) := by rw [HW]; exact (((Tb.refl (fun _ => False) _).alloc _).block w.heap.size (by simp) (fun h => h)).trans (heap_alloc_new w _)
  have hW1 : W.heap[w.heap.size + 1]? = some (.cells cs (81 : TypeId) (0, 0)) := by rw [HW]; simpa using heap_alloc_new (w.alloc (.cells #[.map (some nb), .map (some rb)] (46 : TypeId))) (.cells cs (81 : TypeId))
  have hM0 : ¬ TA a (M w.heap.size) := by rw [hM, onlyL_new (Nat.le_refl _)]; unfold TA; simp; omega
  have hM1 : ¬ TA a (M (w.heap.size + 1)) := by rw [hM, onlyL_new (Nat.le_succ _)]; unfold TA; simp; omega
  clear hM
  -- what stays of the two boxes
  have keep : ∀ W' : World, Tl M (TA a) W W' → Hid (W'.heap[w.heap.size]? = some (.cells #[.map (some nb), .map (some rb)] (46 : TypeId) (0, 0)) ∧ W'.heap[w.heap.size + 1]? = some (.cells cs (81 : TypeId) (0, 0))) := fun W' hT =>
    hide ⟨(hT.block _ (Array.getElem?_eq_some_iff.1 hW0).1 hM0).trans hW0, (hT.block _ (Array.getElem?_eq_some_iff.1 hW1).1 hM1).trans hW1⟩
  have fin : ∀ (W' : World) (L' : Lb) (s' : Shp), Lx W M L' → Sh W' L' a nb rb s' → Tl M (TA a) W W' → Hid (∃ L', Lx w L L' ∧ Sh W' L' a nb rb s' ∧ Tl L (TA a) w W') := fun W' L' s' hx hs hT =>
    hide ⟨L', hLM.trans (w' := W) hx b0.size, hs, Tl.trans (L := L) (T := TA a) (b0.mono (fun _ _ h => h.elim)) hT hLM (fun _ h => h)⟩
  have CL : ∀ X : World, Tl M (TA a) W X → X.cell? ⟨w.heap.size, 0, none⟩ = some (.map (some nb)) ∧ X.cell? ⟨w.heap.size, 1, none⟩ = some (.map (some rb)) ∧ X.cell? ⟨w.heap.size + 1, 2, none⟩ = some (.int .i64 t.file) ∧ X.cell? ⟨w.heap.size + 1, 3, none⟩ = some (.string t.name) ∧ X.cell? ⟨w.heap.size + 1, 4, none⟩ = some (.string t.to) := fun X hX => by
    obtain ⟨c0, c1⟩ := (keep X hX).out
    refine ⟨?_, ?_, ?_, ?_, ?_⟩
    · rw [cell_of_row X _ 0 _ (46 : TypeId) (0, 0) c0]; rfl
    · rw [cell_of_row X _ 1 _ (46 : TypeId) (0, 0) c0]; rfl
    · rw [cell_of_row X _ 2 _ (81 : TypeId) (0, 0) c1]; exact h2
    · rw [cell_of_row X _ 3 _ (81 : TypeId) (0, 0) c1]; exact h3
    · rw [cell_of_row X _ 4 _ (81 : TypeId) (0, 0) c1]; exact h4
  have HC := hide CL
  clear CL keep
  have hk := ht.kind
  rcases (by omega : t.kind = 0 ∨ t.kind = 1 ∨ t.kind = 2 ∨ t.kind = 3 ∨ t.kind = 4) with e | e | e | e | e
  · rw [e] at h1
    have ed : s.does t = ⟨st (s.take t.name.data.toList).nm t.name.data.toList t.file, st (s.take t.name.data.toList).rw t.file []⟩ := by unfold Shp.does; rw [if_pos e]
    have htake := take_any (x := t.name) hS hm (by have := ht.name; omega)
    have HP := hide htake
    have HF := hide fin
    have HM := hide (hm.take t.name.data.toList)
    have hnm : t.name.size ≤ 9223372036854775807 := by have := ht.name; omega
    have hi6 := hide ht.i6
    clear h hm hS hW0 hM0 hM1 b0 hLM ht htake fin hW1
    have HW' := hide HW
    clear HW
    go_enter Try.func43, Try.ntmps43
    go_wp2_with (go_at_call 61; rw [← HW'.out]; refine HP.out.mono ?_; rintro e w1 ⟨rfl, hs, hT⟩)
    obtain ⟨d0, d1, d2, d3, _⟩ := HC.out w1 hT
    have hne : nb ≠ rb := fun e2 => by have := hs.ln; rw [e2, hs.lr] at this; simp at this; omega
    have hsd : Sh w1.drew M a nb rb (s.take t.name.data.toList) := hs.none (Tb.refl _ _).drew
    have TN : ∀ {X Y : World}, X.mapTurned Y nb → Tl M (TA a) X Y := fun h => Tb.turned h (.inl (by rw [hs.ln]))
    have TR : ∀ {X Y : World}, X.mapTurned Y rb → Tl M (TA a) X Y := fun h => Tb.turned h (.inr (.inl (by rw [hs.lr])))
    have t1 : Tl M (TA a) W w1.drew := Tb.drew hT
    have bn := HM.out.nm
    have bw := HM.out.rw
    -- names first, then rows
    obtain ⟨wa, ra, na, ta⟩ := hsd.nm.store Try.underlying43 (by omega) hnm t.file
    have ka : Rw U (79 : TypeId) 64 wa M (a + 10) rb (s.take t.name.data.toList).rw := hsd.rw.tb (Tb.turned (S := fun k => k = nb) ta rfl) (Lx.refl _ _) hne.symm (fun g f e he => by rw [he, hs.ln] at e; simp at e; omega)
    obtain ⟨wb, rb1, nb1, tb1⟩ := ka.store (w := wa) (L' := M) (v := .slice none 0 0) (xs := []) Try.underlying44 (by omega) hi6.out (Tb.refl _ _) (Lx.refl _ _) (by rw [hs.lr]; simp) (World.ownsRow_nil _ _ _ _) (fun g hg => by cases hg) (fun g hg => by cases hg)
    have fa : Hid (∃ L', Lx w L L' ∧ Sh wb L' a nb rb (s.does t) ∧ Tl L (TA a) w wb) := by
      rw [ed]
      refine HF.out wb M _ (Lx.refl _ _) ⟨na.tb (Tb.turned (S := fun k => k = rb) tb1 rfl) hne, nb1, hs.ln, hs.lr⟩ ?_
      exact Tl.trans (Tl.trans t1 (TN ta) (Lx.refl _ _) (fun _ h => h)) (TR tb1) (Lx.refl _ _) (fun _ h => h)
    obtain ⟨a0, a1, a2, a3, _⟩ := HC.out wa (Tl.trans t1 (TN ta) (Lx.refl _ _) (fun _ h => h))
    clear hs hT hsd TN TR t1 bn bw na ta ka nb1 tb1 hne HM
    go_region
    all_goals go_end0
    exact ⟨rfl, fa⟩
  · rw [e] at h1
    have ed : s.does t = s.put t.file t.at' t.data := by unfold Shp.does; rw [if_neg (by omega), if_pos e]
    have hrange : W.rangeAt (w.heap.size + 1) 6 (U t.data) := fun j v hv => by
      rw [cell_of_row W _ _ _ (81 : TypeId) (0, 0) hW1, hcs.out]
      simp only [Stp.cells, List.getElem?_toArray]
      rw [List.getElem?_append_right (by simp)]
      simpa using hv
    have hput := put_any hS hm (by omega) ht.i6 ⟨ht.at'.1, ht.put e⟩ ht.data
    rw [← ed] at hput
    have HP := hide hput
    have HF := hide fin
    have hi : (Try.prog.info? (79 : TypeId)).map (·.size) = some (U t.data).length := by rw [U_length, ht.data]; kernel_rfl
    have HR := hide hrange
    clear h hm hS hW0 hM0 hM1 b0 hLM ht hput fin hrange
    rw [HW] at hW1
    have HW' := hide HW
    clear HW
    go_enter Try.func43, Try.ntmps43
    go_wp2_with (first
      | (refine wpList_load_mid rfl (79 : TypeId) _ rfl (w.heap.size + 1) 6 rfl (U t.data) _ (by rw [← HW'.out]; exact HR.out) Try.underlying79 rfl hi ?_)
      | (go_at_call 62; rw [← HW'.out]; refine HP.out.mono ?_; rintro e w1 ⟨rfl, L', hx, hs, hT⟩))
    go_end0
    exact ⟨rfl, HF.out w1 L' _ hx hs hT⟩
  · rw [e] at h1
    have ed : s.does t = s.cut t.file t.at' := by unfold Shp.does; rw [if_neg (by omega), if_neg (by omega), if_pos e]
    have hcut := cut_any hS hm (by omega) ht.i6 ht.at'
    rw [← ed] at hcut
    have HP := hide hcut
    have HF := hide fin
    clear h hm hS hW0 hM0 hM1 b0 hLM ht hcut fin hW1
    have HW' := hide HW
    clear HW
    go_enter Try.func43, Try.ntmps43
    go_wp2_with (go_at_call 63; rw [← HW'.out]; refine HP.out.mono ?_; rintro e w1 ⟨rfl, hs, hT⟩)
    go_end0
    exact ⟨rfl, HF.out w1 M _ (Lx.refl _ _) hs hT⟩
  · rw [e] at h1
    have hnm : t.name.size ≤ 9223372036854775807 := by have := ht.name; omega
    have hto : t.to.size ≤ 9223372036854775807 := by have := ht.to; omega
    have hfind := hS.nm.find Try.underlying43 zero3 hnm
    have hi6 := ht.i6
    by_cases hq : (lk s.nm t.name.data.toList).getD 0 = t.file
    · have ed : s.does t = ⟨st ((⟨dl s.nm t.name.data.toList, s.rw⟩ : Shp).take t.to.data.toList).nm t.to.data.toList t.file, ((⟨dl s.nm t.name.data.toList, s.rw⟩ : Shp).take t.to.data.toList).rw⟩ := by
        unfold Shp.does; rw [if_neg (by omega), if_neg (by omega), if_neg (by omega), if_pos e, if_pos hq]
      rw [hq] at hfind
      have hne : nb ≠ rb := fun e2 => by have := hS.ln; rw [e2, hS.lr] at this; simp at this; omega
      obtain ⟨wa, ra, na, ta⟩ := hS.nm.drop Try.underlying43 hnm 0
      have t1 : Tl M (TA a) W wa := Tb.turned ta (.inl (by rw [hS.ln]))
      have sa : Sh wa M a nb rb ⟨dl s.nm t.name.data.toList, s.rw⟩ := ⟨na, hS.rw.tb (Tb.turned (S := fun k => k = nb) ta rfl) (Lx.refl _ _) hne.symm (fun g f e he => by rw [he, hS.ln] at e; simp at e; omega), hS.ln, hS.lr⟩
      have htake := take_any (x := t.to) sa (hm.dln _) hto
      obtain ⟨a0, a1, a2, a3, a4⟩ := HC.out wa t1
      have hbn := ((hm.dln t.name.data.toList).take t.to.data.toList).nm
      have nx : ∀ w1 : World, Sh w1 M a nb rb ((⟨dl s.nm t.name.data.toList, s.rw⟩ : Shp).take t.to.data.toList) → Tl M (TA a) wa w1 → ∃ w2, (Instr.mapUpdate (43 : TypeId) (.map (some nb)) (.string t.to) (.int .i64 t.file)).run Try.prog w1 = .ok () w2 ∧
          Hid (∃ L', Lx w L L' ∧ Sh w2 L' a nb rb (s.does t) ∧ Tl L (TA a) w w2) := fun w1 hs hT => by
        obtain ⟨wb, rb1, nb1, tb1⟩ := hs.nm.store Try.underlying43 (by omega) hto t.file
        refine ⟨wb, rb1, ?_⟩
        rw [ed]
        refine fin wb M _ (Lx.refl _ _) ⟨nb1, hs.rw.tb (Tb.turned (S := fun k => k = nb) tb1 rfl) (Lx.refl _ _) hne.symm (fun g f e he => by rw [he, hS.ln] at e; simp at e; omega), hS.ln, hS.lr⟩ ?_
        exact Tl.trans (Tl.trans t1 hT (Lx.refl _ _) (fun _ h => h)) (Tb.turned tb1 (.inl (by rw [hS.ln])) : Tl M (TA a) w1 wb) (Lx.refl _ _) (fun _ h => h)
      have cl : ∀ w1 : World, Tl M (TA a) wa w1 → Hid (w1.cell? ⟨w.heap.size, 0, none⟩ = some (.map (some nb)) ∧ w1.cell? ⟨w.heap.size + 1, 2, none⟩ = some (.int .i64 t.file) ∧ w1.cell? ⟨w.heap.size + 1, 4, none⟩ = some (.string t.to)) := fun w1 hT => by
        obtain ⟨a0, a1, a2, a3, a4⟩ := HC.out w1 (Tl.trans t1 hT (Lx.refl _ _) (fun _ h => h))
        exact hide ⟨a0, a2, a4⟩
      have HP := hide htake
      have HN := hide nx
      have HL := hide cl
      clear h hm hS hW0 hM0 hM1 b0 hLM ht htake fin hW1 nx cl na ta t1 sa HC hq ed hbn
      subst HW
      go_enter Try.func43, Try.ntmps43
      go_wp2_with (go_at_call 61; refine HP.out.mono ?_; rintro e w1 ⟨rfl, hs, hT⟩; obtain ⟨w2, hr2, hf2⟩ := HN.out w1 hs hT; obtain ⟨b0, b2, b4⟩ := (HL.out w1 hT).out)
      go_end0
      exact ⟨rfl, hf2⟩
    · have ed : s.does t = s := by unfold Shp.does; rw [if_neg (by omega), if_neg (by omega), if_neg (by omega), if_pos e, if_neg hq]
      have hf := fin W M s (Lx.refl _ _) hS (Tb.refl _ _)
      rw [← ed] at hf
      obtain ⟨F, hF⟩ : ∃ F, F = (lk s.nm t.name.data.toList).getD 0 := ⟨_, rfl⟩
      rw [← hF] at hq hfind
      have hq' : (F == t.file) = false := by simpa using hq
      clear h hm hS hW0 hM0 hM1 b0 hLM ht fin hW1 HC ed hF
      subst HW
      go_enter Try.func43, Try.ntmps43
      go_wp2_with fail
      go_end0
      exact ⟨rfl, hf⟩
  · rw [e] at h1
    have hnm : t.name.size ≤ 9223372036854775807 := by have := ht.name; omega
    have hfind := hS.nm.find Try.underlying43 zero3 hnm
    by_cases hq : (lk s.nm t.name.data.toList).getD 0 = t.file
    · have ed : s.does t = s.take t.name.data.toList := by
        unfold Shp.does; rw [if_neg (by omega), if_neg (by omega), if_neg (by omega), if_neg (by omega), if_pos hq]
      rw [hq] at hfind
      have htake := take_any (x := t.name) hS hm hnm
      rw [← ed] at htake
      have HP := hide htake
      have HF := hide fin
      clear h hm hS hW0 hM0 hM1 b0 hLM ht htake fin hW1 HC hq ed
      subst HW
      go_enter Try.func43, Try.ntmps43
      go_wp2_with (go_at_call 61; refine HP.out.mono ?_; rintro e w1 ⟨rfl, hs, hT⟩)
      go_end0
      exact ⟨rfl, HF.out w1 M _ (Lx.refl _ _) hs hT⟩
    · have ed : s.does t = s := by unfold Shp.does; rw [if_neg (by omega), if_neg (by omega), if_neg (by omega), if_neg (by omega), if_neg hq]
      have hf := fin W M s (Lx.refl _ _) hS (Tb.refl _ _)
      rw [← ed] at hf
      obtain ⟨F, hF⟩ : ∃ F, F = (lk s.nm t.name.data.toList).getD 0 := ⟨_, rfl⟩
      rw [← hF] at hq hfind
      have hq' : (F == t.file) = false := by simpa using hq
      clear h hm hS hW0 hM0 hM1 b0 hLM ht fin hW1 HC ed hF
      subst HW
      go_enter Try.func43, Try.ntmps43
      go_wp2_with fail
      go_end0
      exact ⟨rfl, hf⟩

end Go.Proofs.Ytikhgjnjlkaobaa

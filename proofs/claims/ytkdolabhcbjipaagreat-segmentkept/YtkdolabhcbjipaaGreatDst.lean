/-
  The parts of a disk in memory: labels of blocks, what may turn, steps, shapes, rows in maps.
-/
import Derived.Test.YtkdolabhcbjipaaGreatDma
import Derived.Maps.AppendAt
import Derived.Deep.MidRow
import Derived.StringKeys
namespace Go.Proofs.YtkdolabhcbjipaaGreat
open Go.RowKit
set_option maxRecDepth 100000

/-- What was there has not turned, but for the blocks of S. -/
structure Tb (S : Nat → Prop) (w w' : World) : Prop where
  os : w'.os = w.os
  tape : w'.tape = w.tape
  output : w'.output = w.output
  size : w.heap.size ≤ w'.heap.size
  block : ∀ k, k < w.heap.size → ¬ S k → w'.heap[k]? = w.heap[k]?

section
variable {S T : Nat → Prop} {w w' a b c : World}
theorem Tb.refl (S : Nat → Prop) (w : World) : Tb S w w := ⟨rfl, rfl, rfl, Nat.le_refl _, fun _ _ _ => rfl⟩
theorem Tb.trans (h : Tb S a b) (k : Tb T b c) (ht : ∀ i, i < a.heap.size → T i → S i) : Tb S a c :=
  ⟨k.os.trans h.os, k.tape.trans h.tape, k.output.trans h.output, Nat.le_trans h.size k.size, fun i hi hs =>
    (k.block i (Nat.lt_of_lt_of_le hi h.size) (fun hT => hs (ht i hi hT))).trans (h.block i hi hs)⟩
theorem Tb.of_fresh (h : Below w.heap.size w w') : Tb S w w' := ⟨h.os, h.tape, h.output, h.size, fun i hi _ => h.block i hi⟩
theorem Tb.of_grown {row : Option Nat} (h : w.grownBy w' row) (hS : ∀ k, row = some k → S k) : Tb S w w' :=
  ⟨h.os, h.tape, h.output, h.size, fun i hi hs => h.block i hi (fun e => hs (hS i e.symm))⟩
theorem Tb.mono (h : Tb S w w') (hS : ∀ i, i < w.heap.size → S i → T i) : Tb T w w' :=
  ⟨h.os, h.tape, h.output, h.size, fun i hi hs => h.block i hi (fun hh => hs (hS i hi hh))⟩
theorem Tb.alloc (h : Tb S w w') (o : Obj) : Tb S w (w'.alloc o) :=
  h.trans (T := fun _ => False) (Tb.of_fresh ((Below.refl _ w').alloc (Nat.le_refl _) o)) (fun _ _ h => h.elim)
theorem Tb.drew (h : Tb S w w') : Tb S w w'.drew := h.trans (T := fun _ => False) (Tb.of_fresh (Below.refl _ w').drew) (fun _ _ h => h.elim)
theorem Tb.turned {b : Nat} (h : w.mapTurned w' b) (hS : S b) : Tb S w w' := Tb.of_grown h.grown (fun k e => by cases e; exact hS)
theorem Tb.set (R i : Nat) (x : Value) (hS : S R) : Tb S w (w.setCell ⟨R, i, none⟩ x) :=
  ⟨rfl, rfl, rfl, by simp [World.setCell], fun k _ hs => Below.heap_setCell w ⟨R, i, none⟩ x k fun e => hs (by simp only at e; exact e ▸ hS)⟩
theorem Tb.cell (h : Tb S w w') {ad : Addr} {v : Value} (hc : w.cell? ad = some v) (hs : ¬ S ad.block) : w'.cell? ad = some v := by
  rw [World.cell?_of_block (h.block _ (cell_lt hc) hs)]
  exact hc
theorem Tb.below {n : Nat} (h : Tb S w w') (hS : ∀ i, S i → n ≤ i) (hn : n ≤ w.heap.size) : Below n w w' :=
  ⟨h.os, h.tape, h.output, h.size, fun i hi => h.block i (by omega) (fun hs => by have := hS i hs; omega)⟩
theorem row_heap {base n size : Nat} {e : TypeId} {v : Value} {xs : List Value} (h : w.ownsRow base e size v n xs) (hb : ∀ g, v.ownBlock = some g → w'.heap[g]? = w.heap[g]?) : w'.ownsRow base e size v n xs := by
  refine ⟨h.1, ?_⟩
  rcases h.2 with hn | ⟨g, cap, cur, rfl, hbg, hgg, rest⟩
  · exact .inl hn
  · exact .inr ⟨g, cap, cur, rfl, hbg, by rw [hb g rfl]; exact hgg, rest⟩
theorem row_lt {base n size : Nat} {e : TypeId} {v : Value} {xs : List Value} (h : w.ownsRow base e size v n xs) {g : Nat} (hg : v.ownBlock = some g) : g < w.heap.size := (h.lt g hg).2
theorem row_tb {base n size : Nat} {e : TypeId} {v : Value} {xs : List Value} (h : w.ownsRow base e size v n xs) (hb : Tb S w w') (hS : ∀ g, v.ownBlock = some g → ¬ S g) : w'.ownsRow base e size v n xs :=
  row_heap h (fun g hg => hb.block g (row_lt h hg) (hS g hg))
theorem row_val {base n size : Nat} {e : TypeId} {v : Value} {xs : List Value} (h : w.ownsRow base e size v n xs) : ∃ a cap, v = .slice a n cap := by
  rcases h.2 with ⟨rfl, rfl⟩ | ⟨g, cap, _, rfl, _⟩
  · exact ⟨_, _, rfl⟩
  · exact ⟨_, _, rfl⟩
end

/-- Rows of elements appended to a row that is owned, told where it went. -/
theorem run_append_rows {P : Program} {w : World} (base : Nat) (t ty e : TypeId) (i : TypeInfo) (z : Value) (size bytes : Nat) (ht : P.underlying t = some (.slice e)) (hi : P.info? e = some i) (hz : i.zero = some z)
    (hsize : i.size = size) (hby : i.bytes = bytes) (hzs : z.cells.size = size) (hsz : 0 < size) (v : Value) (n : Nat) (xs : List Value) (hown : w.ownsRow base e size v n xs)
    (x : Value) (m : Nat) (ys : List Value) (base' : Nat) (hx : w.ownsRow base' e size x m ys) (h1 : ∀ u ∈ ys, u.oneCell' = true) (h63 : n + m ≤ maxLen) (hbytes : (n + m) * bytes ≤ 140737488355328) (hbase : base ≤ w.heap.size) :
    ∃ v' w', (Builtin.append_ #[t, t] ty #[v, x]).run P w = .ok v' w' ∧ w'.ownsRow base e size v' (n + m) (xs ++ ys) ∧ w.grownBy w' v.ownBlock ∧ (v'.ownBlock = v.ownBlock ∨ v'.ownBlock = some w.heap.size) := by
  rcases hx.2 with ⟨rfl, rfl⟩ | ⟨g, cap, cur, rfl, _, hg, hc, hm, hcs, htk⟩
  · have hy : ys = [] := List.eq_nil_of_length_eq_zero (by rw [hx.1]; simp)
    subst hy
    refine ⟨v, w, ?_, by simpa using hown, World.grownBy.refl _ _, .inl rfl⟩
    rcases hown.2 with ⟨rfl, rfl⟩ | ⟨g, c, cur, rfl, _, hg, hc, _⟩
    · simp [Builtin.append_, run_underlying ht, sizeOf, typeInfo, hi, Builtin.lenOf, Builtin.firstCells]
    · simp [Builtin.append_, run_underlying ht, sizeOf, typeInfo, hi, Builtin.lenOf, Builtin.firstCells, loadCells, hc, storeCells]
  · obtain ⟨v', w', hr, h2, h3, _, h5⟩ := run_append_own_at (P := P) w base t ty e i z size bytes ht hi hz hsize hby hzs hsz v n xs hown ⟨g, 0, none⟩ m cap ys hx.1 (hx.cells (g := g) rfl) h1 h63 hbytes hbase
    exact ⟨v', w', hr, h2, h3, h5⟩

/-- A number that an int can be. -/
def I6 (x : Int) : Prop := -9223372036854775808 ≤ x ∧ x ≤ 9223372036854775807
theorem I6.wf {x : Int} (h : I6 x) : (Lit.int .i64 x).wf = true := by
  unfold I6 at h
  simp [Lit.wf, IntKind.min, IntKind.max, IntKind.signed, IntKind.bits]
  omega

/-! ### Labels -/
/-- Which part of a disk a block is of. -/
abbrev Lb := Nat → Int × Int
/-- One block more. -/
def lab (L : Lb) (n : Nat) (x : Int × Int) : Lb := fun b => if b = n then x else L b
/-- What was there is labelled as it was. -/
def Lx (w : World) (L L' : Lb) : Prop := ∀ b, b < w.heap.size → L' b = L b

theorem lab_new (L : Lb) (n : Nat) (x : Int × Int) : lab L n x n = x := by simp [lab]
theorem lab_old {L : Lb} {n b : Nat} {x : Int × Int} (h : b < n) : lab L n x b = L b := by simp [lab, Nat.ne_of_lt h]
theorem Lx.refl (w : World) (L : Lb) : Lx w L L := fun _ _ => rfl
theorem Lx.trans {w w' : World} {L L' L'' : Lb} (h : Lx w L L') (k : Lx w' L' L'') (hs : w.heap.size ≤ w'.heap.size) : Lx w L L'' := fun b hb => (k b (Nat.lt_of_lt_of_le hb hs)).trans (h b hb)
theorem Lx.lab {w w' : World} (L : Lb) (x : Int × Int) (hs : w.heap.size ≤ w'.heap.size) : Lx w L (lab L w'.heap.size x) := fun _ hb => lab_old (Nat.lt_of_lt_of_le hb hs)

/-- Nothing has turned but blocks of some labels. -/
def Tl (L : Lb) (T : Int × Int → Prop) (w w' : World) : Prop := Tb (fun b => T (L b)) w w'

theorem Tl.trans {L L' : Lb} {T T' : Int × Int → Prop} {a a1 a2 : World} (h : Tl L T a a1) (k : Tl L' T' a1 a2) (hl : Lx a L L') (hT : ∀ x, T' x → T x) : Tl L T a a2 :=
  Tb.trans h k (fun i hi ht => by rw [hl i hi] at ht; exact hT _ ht)

/-! ### Steps and shapes -/
/-- A step. -/
structure Stp where
  no : Int
  kind : Int
  file : Int
  name : ByteArray
  to : ByteArray
  at' : Int
  data : List Int

def Stp.cells (t : Stp) : List Value := [.int .i64 t.no, .int .u8 t.kind, .int .i64 t.file, .string t.name, .string t.to, .int .i64 t.at'] ++ U t.data

structure Stp.Ok (t : Stp) : Prop where
  no : 0 ≤ t.no ∧ t.no ≤ 9223372036854775807
  kind : 0 ≤ t.kind ∧ t.kind ≤ 4
  file : 1 ≤ t.file ∧ t.file ≤ 9223372036854775807
  name : t.name.size ≤ 64
  to : t.to.size ≤ 64
  at' : 0 ≤ t.at' ∧ t.at' ≤ 4096
  put : t.kind = 1 → t.at' ≤ 4095
  data : t.data.length = 64
  byte : ∀ z ∈ t.data, 0 ≤ z ∧ z ≤ 255

theorem Stp.Ok.len {t : Stp} (h : t.Ok) : t.cells.length = 70 := by simp [Stp.cells, U, h.data]
theorem Stp.one (t : Stp) : ∀ v ∈ t.cells, v.oneCell' = true := by
  intro v hv
  simp only [Stp.cells, List.mem_append, List.mem_cons, List.not_mem_nil, or_false] at hv
  rcases hv with (rfl | rfl | rfl | rfl | rfl | rfl) | hv
  all_goals first | rfl | exact U_one _ v hv

/-- Names, and the sectors of files. -/
structure Shp where
  nm : List (List UInt8 × Int)
  rw : List (Int × List (List Int))

/-- A map of names. -/
structure Nm (w : World) (b : Nat) (nm : List (List UInt8 × Int)) : Prop where
  un : Un nm
  ex : ∃ D, Mp w 9 b D ∧ Maps.size D = nm.length ∧ ∀ k, gt D (.string k) = (lk nm k).map (Value.int .i64)

/-- A map of rows. -/
structure Rw {α : Type} (c : α → List Value) (T : TypeId) (size : Nat) (w : World) (L : Lb) (tag : Int) (b : Nat) (rw : List (Int × List α)) : Prop where
  un : Un rw
  ix : ∀ p ∈ rw, I6 p.1
  ex : ∃ D, Mp w 3 b D ∧ Maps.size D = rw.length ∧ (∀ f, I6 f → lk rw f = none → gt D (.int .i64 f) = none) ∧
    ∀ f xs, lk rw f = some xs → ∃ v, gt D (.int .i64 f) = some v ∧ w.ownsRow 0 T size v xs.length (xs.flatMap c) ∧ ∀ g, v.ownBlock = some g → L g = (tag, f)

theorem K9 : Maps.Keyed Tryz.prog 9 := Maps.string_keyed Tryz.underlying9
theorem K3 : Maps.Keyed Tryz.prog 3 := Maps.int_keyed Tryz.underlying3
theorem key9 {s : ByteArray} (h : s.size ≤ 9223372036854775807) : keyOf Tryz.prog 9 (.string s) = some (.string s.data.toList) := WideMaps.keyOf_string_mk Tryz.underlying9 (by unfold maxLen; omega)
theorem key3 {x : Int} (h : I6 x) : keyOf Tryz.prog 3 (.int .i64 x) = some (.int .i64 x) := Maps.keyOf_int_mk Tryz.underlying3 h.wf

section
variable {w w' : World} {b : Nat} {nm : List (List UInt8 × Int)}

theorem Nm.lt (h : Nm w b nm) : b < w.heap.size := by
  obtain ⟨D, h1, _⟩ := h.ex
  exact h1.lt
theorem Nm.heap (h : Nm w b nm) (e : w'.heap[b]? = w.heap[b]?) : Nm w' b nm := by
  obtain ⟨D, h1, h2⟩ := h.ex
  exact ⟨h.un, D, h1.heap e, h2⟩
theorem Nm.tb {S : Nat → Prop} (h : Nm w b nm) (hb : Tb S w w') (hs : ¬ S b) : Nm w' b nm := h.heap (hb.block b h.lt hs)

theorem Nm.find (h : Nm w b nm) {t : TypeId} (ht : Tryz.prog.underlying t = some (.map 9 3)) (hz : ∀ W, (zeroValue 3).run Tryz.prog W = .ok (.int .i64 0) W) {s : ByteArray} (hs : s.size ≤ 9223372036854775807) :
    (Instr.lookup t (.map (some b)) (.string s) false).run Tryz.prog w = .ok (.int .i64 ((lk nm s.data.toList).getD 0)) w := by
  obtain ⟨D, h1, _, h3⟩ := h.ex
  rw [h1.look K9 ht (hz w) (key9 hs), h3]
  cases lk nm s.data.toList <;> rfl

theorem has_gt {D : DataW Value} {kt : TypeId} (h : Mp w kt b D) (K : Maps.Keyed Tryz.prog kt) {key : Value} {kl : Lit} (hkey : keyOf Tryz.prog kt key = some kl) : Maps.has D kl = (gt D kl).isSome := by
  rcases h.at K hkey with ⟨_, h2, h3⟩ | ⟨v, _, h2, h3⟩ <;> simp [h2, h3]

theorem Nm.store (h : Nm w b nm) {t : TypeId} (ht : Tryz.prog.underlying t = some (.map 9 3)) (hn : nm.length < 9223372036854775807) {s : ByteArray} (hs : s.size ≤ 9223372036854775807) (x : Int) :
    ∃ w', (Instr.mapUpdate t (.map (some b)) (.string s) (.int .i64 x)).run Tryz.prog w = .ok () w' ∧ Nm w' b (st nm s.data.toList x) ∧ w.mapTurned w' b := by
  obtain ⟨D, h1, h2, h3⟩ := h.ex
  obtain ⟨w', hr, h4, h5⟩ := h1.store K9 ht (by rw [h2]; unfold maxLen; omega) (key9 hs) (.int .i64 x)
  refine ⟨w', hr, ⟨h.un.st _ _, _, h4, ?_, fun k => ?_⟩, h5⟩
  · rw [Maps.size_put (h1.own.tidy K9), has_gt h1 K9 (key9 hs), h3, h2]
    have := dl_length (k := s.data.toList) h.un
    simp only [st, List.length_append, List.length_singleton, Option.isSome_map]
    cases e : lk nm s.data.toList <;> simp [e] at this ⊢ <;> omega
  · by_cases hk : k = s.data.toList
    · subst hk
      rw [gt_put_same h1.isMap (K9.key (key9 hs)), lk_st_same]
      rfl
    · rw [gt_put_other (by simpa using hk), lk_st_other hk, h3]

theorem Nm.drop (h : Nm w b nm) {t : TypeId} (ht : Tryz.prog.underlying t = some (.map 9 3)) {s : ByteArray} (hs : s.size ≤ 9223372036854775807) (ty : TypeId) :
    ∃ w', (Builtin.delete_ #[t, 9] ty #[.map (some b), .string s]).run Tryz.prog w = .ok (.tuple #[]) w' ∧ Nm w' b (dl nm s.data.toList) ∧ w.mapTurned w' b := by
  obtain ⟨D, h1, h2, h3⟩ := h.ex
  obtain ⟨w', hr, h4, h5⟩ := h1.drop K9 ht (key9 hs) ty
  refine ⟨w', hr, ⟨h.un.dl _, _, h4, ?_, fun k => ?_⟩, h5⟩
  · have h6 := Maps.size_del (k := .string s.data.toList) (h1.own.tidy K9)
    rw [has_gt h1 K9 (key9 hs), h3, h2] at h6
    have := dl_length (k := s.data.toList) h.un
    simp only [Option.isSome_map] at h6
    omega
  · by_cases hk : k = s.data.toList
    · subst hk
      rw [gt_del_same, lk_dl_same]
      rfl
    · rw [gt_del_other (by simpa using hk), lk_dl_other hk, h3]

theorem Nm.len (h : Nm w b nm) {t : TypeId} (ht : Tryz.prog.underlying t = some (.map 9 3)) (ty : TypeId) : (Builtin.len_ #[t] ty #[.map (some b)]).run Tryz.prog w = .ok (.int .i64 nm.length) w := by
  obtain ⟨D, h1, h2, _⟩ := h.ex
  rw [h1.len ht ty, h2]
end

section
variable {α : Type} {c : α → List Value} {T : TypeId} {size : Nat} {w w' : World} {L L' : Lb} {tag : Int} {b : Nat} {rw : List (Int × List α)}

theorem Rw.lt (h : Rw c T size w L tag b rw) : b < w.heap.size := by
  obtain ⟨D, h1, _⟩ := h.ex
  exact h1.lt

theorem Rw.tb {S : Nat → Prop} (h : Rw c T size w L tag b rw) (hb : Tb S w w') (hl : Lx w L L') (h1 : ¬ S b) (h2 : ∀ g f, L g = (tag, f) → ¬ S g) : Rw c T size w' L' tag b rw := by
  obtain ⟨D, g1, g2, g3, g4⟩ := h.ex
  refine ⟨h.un, h.ix, D, g1.heap (hb.block b g1.lt h1), g2, g3, fun f xs hx => ?_⟩
  obtain ⟨v, e1, e2, e3⟩ := g4 f xs hx
  refine ⟨v, e1, row_tb e2 hb (fun g hg => h2 g f (e3 g hg)), fun g hg => ?_⟩
  rw [hl g (row_lt e2 hg)]
  exact e3 g hg

/-- What a map of rows has at a file's number: nothing, or its row. -/
theorem Rw.find (h : Rw c T size w L tag b rw) {t e : TypeId} (ht : Tryz.prog.underlying t = some (.map 3 e)) (hz : ∀ W, (zeroValue e).run Tryz.prog W = .ok (.slice none 0 0) W) {f : Int} (hf : I6 f) :
    ∃ v, (∀ W : World, W.heap[b]? = w.heap[b]? → (Instr.lookup t (.map (some b)) (.int .i64 f) false).run Tryz.prog W = .ok v W ∧ (Instr.lookup t (.map (some b)) (.int .i64 f) true).run Tryz.prog W = .ok (.tuple #[v, .bool (lk rw f).isSome]) W) ∧
      w.ownsRow 0 T size v ((lk rw f).getD []).length (((lk rw f).getD []).flatMap c) ∧ ∀ g, v.ownBlock = some g → L g = (tag, f) := by
  obtain ⟨D, g1, g2, g3, g4⟩ := h.ex
  cases hl : lk rw f with
  | none =>
    have h0 := g3 f hf hl
    refine ⟨.slice none 0 0, fun W hW => ?_, World.ownsRow_nil _ _ _ _, fun g hg => by cases hg⟩
    have := g1.heap hW
    rw [this.look K3 ht (hz W) (key3 hf), this.look_ok K3 ht (hz W) (key3 hf), h0]
    exact ⟨rfl, rfl⟩
  | some xs =>
    obtain ⟨v, e1, e2, e3⟩ := g4 f xs hl
    refine ⟨v, fun W hW => ?_, e2, e3⟩
    have := g1.heap hW
    rw [this.look K3 ht (hz W) (key3 hf), this.look_ok K3 ht (hz W) (key3 hf), e1]
    exact ⟨rfl, rfl⟩

/-- A row is laid into a map of rows: w0 is what was there when the row was found, w what is there now. -/
theorem Rw.store {w0 : World} (h : Rw c T size w0 L tag b rw) {t e : TypeId} (ht : Tryz.prog.underlying t = some (.map 3 e)) (hn : rw.length < 9223372036854775807) {f : Int} (hf : I6 f)
    (hb : Tb (fun g => L g = (tag, f)) w0 w) (hl : Lx w0 L L') (hbl : L b ≠ (tag, f)) {v : Value} {xs : List α} (hv : w.ownsRow 0 T size v xs.length (xs.flatMap c)) (hg : ∀ g, v.ownBlock = some g → L' g = (tag, f)) (hne : ∀ g, v.ownBlock = some g → g ≠ b) :
    ∃ w', (Instr.mapUpdate t (.map (some b)) (.int .i64 f) v).run Tryz.prog w = .ok () w' ∧ Rw c T size w' L' tag b (st rw f xs) ∧ w.mapTurned w' b := by
  obtain ⟨D, g1, g2, g3, g4⟩ := h.ex
  have g1' := g1.heap (hb.block b g1.lt hbl)
  obtain ⟨w', hr, h4, h5⟩ := g1'.store K3 ht (by rw [g2]; unfold maxLen; omega) (key3 hf) v
  have hgr : Tb (fun k => k = b) w w' := Tb.turned h5 rfl
  refine ⟨w', hr, ⟨h.un.st _ _, fun p hp => ?_, _, h4, ?_, fun f' hf' hn' => ?_, fun f' xs' hx' => ?_⟩, h5⟩
  · rcases List.mem_append.1 hp with hp | hp
    · exact h.ix p ((List.mem_filter.1 hp).1)
    · simp only [List.mem_singleton] at hp
      subst hp
      exact hf
  · rw [Maps.size_put (g1'.own.tidy K3), has_gt g1' K3 (key3 hf), g2]
    have := dl_length (k := f) h.un
    simp only [st, List.length_append, List.length_singleton]
    cases e1 : lk rw f with
    | none => rw [g3 f hf e1]; simp [e1] at this ⊢; omega
    | some ys =>
      obtain ⟨u, eu, _⟩ := g4 f ys e1
      rw [eu]
      simp [e1] at this ⊢
      omega
  · by_cases hk : f' = f
    · subst hk
      rw [lk_st_same] at hn'
      cases hn'
    · rw [gt_put_other (by simpa using hk)]
      rw [lk_st_other hk] at hn'
      exact g3 f' hf' hn'
  · by_cases hk : f' = f
    · subst hk
      rw [lk_st_same] at hx'
      cases hx'
      exact ⟨v, gt_put_same g1'.isMap (K3.key (key3 hf)) _, row_tb hv hgr (fun g hg' => hne g hg'), hg⟩
    · rw [lk_st_other hk] at hx'
      obtain ⟨u, e1, e2, e3⟩ := g4 f' xs' hx'
      refine ⟨u, by rw [gt_put_other (by simpa using hk)]; exact e1, ?_, fun g hg' => by rw [hl g (row_lt e2 hg')]; exact e3 g hg'⟩
      have e4 := row_tb e2 hb (fun g hg' he => hk (by rw [e3 g hg'] at he; simpa using he))
      refine row_tb e4 hgr (fun g hg' he => ?_)
      subst he
      obtain ⟨es, clock, hm, _⟩ := g1'.own
      rcases e4.2 with ⟨rfl, _⟩ | ⟨g', cap, cur, rfl, _, hgg, _⟩
      · cases hg'
      · simp only [Value.ownBlock, Option.some.injEq] at hg'
        subst hg'
        rw [hm] at hgg
        cases hgg

theorem Rw.drop (h : Rw c T size w L tag b rw) {t e : TypeId} (ht : Tryz.prog.underlying t = some (.map 3 e)) {f : Int} (hf : I6 f) (ty : TypeId) :
    ∃ w', (Builtin.delete_ #[t, 3] ty #[.map (some b), .int .i64 f]).run Tryz.prog w = .ok (.tuple #[]) w' ∧ Rw c T size w' L tag b (dl rw f) ∧ w.mapTurned w' b := by
  obtain ⟨D, g1, g2, g3, g4⟩ := h.ex
  obtain ⟨w', hr, h4, h5⟩ := g1.drop K3 ht (key3 hf) ty
  have hgr : Tb (fun k => k = b) w w' := Tb.turned h5 rfl
  refine ⟨w', hr, ⟨h.un.dl _, fun p hp => h.ix p ((List.mem_filter.1 hp).1), _, h4, ?_, fun f' hf' hn' => ?_, fun f' xs' hx' => ?_⟩, h5⟩
  · have h6 := Maps.size_del (k := .int .i64 f) (g1.own.tidy K3)
    rw [has_gt g1 K3 (key3 hf), g2] at h6
    have := dl_length (k := f) h.un
    cases e1 : lk rw f with
    | none => rw [g3 f hf e1] at h6; simp [e1] at this h6; omega
    | some ys =>
      obtain ⟨u, eu, _⟩ := g4 f ys e1
      rw [eu] at h6
      simp [e1] at this h6
      omega
  · by_cases hk : f' = f
    · subst hk
      exact gt_del_same
    · rw [gt_del_other (by simpa using hk)]
      rw [lk_dl_other hk] at hn'
      exact g3 f' hf' hn'
  · by_cases hk : f' = f
    · subst hk
      rw [lk_dl_same] at hx'
      cases hx'
    · rw [lk_dl_other hk] at hx'
      obtain ⟨u, e1, e2, e3⟩ := g4 f' xs' hx'
      refine ⟨u, by rw [gt_del_other (by simpa using hk)]; exact e1, row_tb e2 hgr (fun g hg' he => ?_), e3⟩
      subst he
      obtain ⟨es, clock, hm, _⟩ := g1.own
      rcases e2.2 with ⟨rfl, _⟩ | ⟨g', cap, cur, rfl, _, hgg, _⟩
      · cases hg'
      · simp only [Value.ownBlock, Option.some.injEq] at hg'
        subst hg'
        rw [hm] at hgg
        cases hgg
end

end Go.Proofs.YtkdolabhcbjipaaGreat

/-
  Texts put into one.
-/
import Derived.Test.YtnimfkcnkkjlkaaPk0b054a4c
import Derived.Test.YtnimfkcnkkjlkaaPk951d67dd
import Derived.Deep.QuietTactic
import Derived.BigQuiet
import Derived.Test.YtnimfkcnkkjlkaaPk26443d94

/-
  What SameLists does.
-/
namespace Go.Proofs.Ytnimfkcnkkjlkaa
open Go.RowKit
set_option maxRecDepth 100000

theorem Bs.drewN {w : World} {a : Option Addr} {n cap : Nat} {zs : List Int} (h : Bs w a n cap zs) (m : Nat) : Bs (w.drewN m) a n cap zs := h.keep (below_drewN (Below.refl _ w) m)
theorem Rl.drewN {w : World} {a : Option Addr} {n cap : Nat} {bss : List (List Int)} (h : Rl w a n cap bss) (m : Nat) : Rl (w.drewN m) a n cap bss := h.keep (below_drewN (Below.refl _ w) m)

theorem take_next_eq {xs ys : List (List Int)} {k : Nat} (h : xs.take k = ys.take k) (hx : k < xs.length) (hy : k < ys.length) : xs.take (k + 1) = ys.take (k + 1) ↔ xs.getD k [] = ys.getD k [] := by
  rw [List.take_succ_eq_append_getElem hx, List.take_succ_eq_append_getElem hy, h, List.append_cancel_left_eq]
  simp [List.getD, List.getElem?_eq_getElem hx, List.getElem?_eq_getElem hy]

end Go.Proofs.Ytnimfkcnkkjlkaa

/-
  FrameCuts: lists that grow by lists; what is told of pieces.
-/
namespace Go.Proofs.Ytnimfkcnkkjlkaa
open Go.RowKit
set_option maxRecDepth 100000

/-- A slice of ints, as it can be read. -/
structure Is (w : World) (a : Option Addr) (n cap : Nat) (zs : List Int) : Prop where
  len : zs.length = n
  le : n ≤ cap
  reach : cap ≤ 9223372036854775807
  lies : 0 < n → ∃ b off, a = some ⟨b, off, none⟩ ∧ ∀ i, i < n → w.cell? ⟨b, off + i, none⟩ = some (.int .i64 (zs.getD i 0))

theorem Is.keep {w w' : World} {a : Option Addr} {n cap : Nat} {zs : List Int} (h : Is w a n cap zs) (hb : Below w.heap.size w w') : Is w' a n cap zs := by
  refine ⟨h.len, h.le, h.reach, fun hn => ?_⟩
  obtain ⟨b, off, ha, hc⟩ := h.lies hn
  refine ⟨b, off, ha, fun i hi => ?_⟩
  have h1 := hc i hi
  rw [hb.cell (cell_lt h1)]
  exact h1

/-- The slices of a list, as they are written in it. -/
structure Vl (w : World) (ad : Option Addr) (n cap : Nat) (vs : List Value) : Prop where
  len : vs.length = n
  bare : ad = none → n = 0 ∧ cap = 0
  one : ∀ u ∈ vs, u.oneCell' = true
  cell : ∀ ad', ad = some ad' → ∀ j u, vs[j]? = some u → w.cell? (ad'.add j) = some u

theorem LL.vl {w : World} {base n cap : Nat} {a : Option Addr} {rs : List (Value × List Int)} (h : LL w base (.slice a n cap) rs) : Vl w a n cap (rs.map (·.1)) := by
  have hl : rs.length = n := by
    obtain ⟨a', c', e⟩ := own_val h.own
    simp only [Value.slice.injEq] at e
    exact e.2.1.symm
  refine ⟨by simpa using hl, fun e => ?_, fun u hu => ?_, fun ad' e j u hu => ?_⟩
  · subst e
    rcases h.own.2 with ⟨h1, h0⟩ | ⟨g, cap', cur, h1, _⟩
    · simp only [Value.slice.injEq] at h1
      exact ⟨by omega, h1.2.2⟩
    · simp at h1
  · obtain ⟨r, hr, rfl⟩ := List.mem_map.1 hu
    exact slice_one (h.row r hr)
  · subst e
    rcases h.own.2 with ⟨h1, h0⟩ | ⟨g, cap', cur, h1, _⟩
    · simp at h1
    · simp only [Value.slice.injEq, Option.some.injEq] at h1
      obtain ⟨rfl, _, rfl⟩ := h1
      exact h.own.cells (g := g) rfl j u hu

section
variable {P : Program} {w : World}

theorem run_append_lists (base : Nat) (t ty e : TypeId) (i : TypeInfo) (z : Value) (ht : P.underlying t = some (.slice e)) (hi : P.info? e = some i) (hz : i.zero = some z) (hsize : i.size = 1) (hby : i.bytes = 24) (hzs : z.cells.size = 1)
    (v : Value) (m : Nat) (xs : List Value) (hown : w.ownsRow base e 1 v m xs) (ad : Option Addr) (n cap : Nat) (vs : List Value) (hV : Vl w ad n cap vs)
    (hroom : m + n ≤ 1000000000000) (hbase : base ≤ w.heap.size) :
    ∃ v' w', (Builtin.append_ #[t, t] ty #[v, .slice ad n cap]).run P w = .ok v' w' ∧ w'.ownsRow base e 1 v' (m + n) (xs ++ vs) ∧ w.grownBy w' v.ownBlock := by
  cases ad with
  | none =>
    obtain ⟨rfl, rfl⟩ := hV.bare rfl
    have hvs : vs = [] := List.eq_nil_of_length_eq_zero hV.len
    subst hvs
    have hrun : (Builtin.append_ #[t, t] ty #[v, .slice none 0 0]).run P w = .ok v w := by
      rcases hown.2 with ⟨rfl, rfl⟩ | ⟨g, c, cur, rfl, _, hg, hc, _⟩
      · simp [Builtin.append_, run_underlying ht, sizeOf, typeInfo, hi, Builtin.lenOf, Builtin.firstCells]
      · simp [Builtin.append_, run_underlying ht, sizeOf, typeInfo, hi, Builtin.lenOf, Builtin.firstCells, hc, storeCells]
    exact ⟨v, w, hrun, by simpa using hown, World.grownBy.refl _ _⟩
  | some ad' =>
    obtain ⟨v', w', h1, h2, h3, _⟩ := run_append_own (P := P) w base t ty e i z 1 24 ht hi hz hsize hby hzs (by omega) v m xs hown ad' n cap vs (by rw [hV.len]; omega) (hV.cell ad' rfl) hV.one (by unfold maxLen; omega) (by omega) hbase
    exact ⟨v', w', h1, h2, h3⟩

theorem wpList_append_lists {ops : Array Oper} {rest : List Oper} {o : Oper} {a : Act} {Q : Exit → Act → World → Prop} (hgd : o.guard = none) (s x : Operand) (t : TypeId) (ho : o.op = .call { callee := .builtin .append, args := #[s, x], argTypes := #[t, t] })
    (base : Nat) (e : TypeId) (i : TypeInfo) (z : Value) (ht : P.underlying t = some (.slice e)) (hi : P.info? e = some i) (hz : i.zero = some z) (hsize : i.size = 1) (hby : i.bytes = 24) (hzs : z.cells.size = 1)
    (v : Value) (m : Nat) (xs : List Value) (hs : a.eval s = v) (hown : w.ownsRow base e 1 v m xs) (ad : Option Addr) (n cap : Nat) (vs : List Value) (hx : a.eval x = .slice ad n cap) (hV : Vl w ad n cap vs)
    (hroom : m + n ≤ 1000000000000) (hbase : base ≤ w.heap.size)
    (h : ∀ v' w', w'.ownsRow base e 1 v' (m + n) (xs ++ vs) → w.grownBy w' v.ownBlock → wpList P ops Q rest (a.put o.dst v') w') :
    wpList P ops Q (o :: rest) a w := by
  refine wpList_plain hgd fun K hK => ?_
  obtain ⟨v', w', hr, h2, h3⟩ := run_append_lists (P := P) base t o.type e i z ht hi hz hsize hby hzs v m xs hown ad n cap vs hV hroom hbase
  unfold Oper.wp execOp
  simp only [ho, resolve, invoke, builtin, Sem.run_bind, Sem.run_pure, Result.andThen_ok, List.map_toArray, List.map_cons, List.map_nil, hs, hx, hr]
  exact hK _ _ (h v' w' h2 h3)

/-- The same, where the operation is guarded and wanted. -/
theorem wpList_append_wanted {ops : Array Oper} {rest : List Oper} {o : Oper} {a : Act} {Q : Exit → Act → World → Prop} (hgd : Region.wanted o (yielded ops a.tmps) = true) (s x : Operand) (t : TypeId) (ho : o.op = .call { callee := .builtin .append, args := #[s, x], argTypes := #[t, t] })
    (base : Nat) (e : TypeId) (i : TypeInfo) (z : Value) (ht : P.underlying t = some (.slice e)) (hi : P.info? e = some i) (hz : i.zero = some z) (hsize : i.size = 1) (hby : i.bytes = 24) (hzs : z.cells.size = 1)
    (v : Value) (m : Nat) (xs : List Value) (hs : a.eval s = v) (hown : w.ownsRow base e 1 v m xs) (ad : Option Addr) (n cap : Nat) (vs : List Value) (hx : a.eval x = .slice ad n cap) (hV : Vl w ad n cap vs)
    (hroom : m + n ≤ 1000000000000) (hbase : base ≤ w.heap.size)
    (h : ∀ v' w', w'.ownsRow base e 1 v' (m + n) (xs ++ vs) → w.grownBy w' v.ownBlock → wpList P ops Q rest (a.put o.dst v') w') :
    wpList P ops Q (o :: rest) a w := by
  refine wpList_step fun K hK => ?_
  rw [if_pos hgd]
  obtain ⟨v', w', hr, h2, h3⟩ := run_append_lists (P := P) base t o.type e i z ht hi hz hsize hby hzs v m xs hown ad n cap vs hV hroom hbase
  unfold Oper.wp execOp
  simp only [ho, resolve, invoke, builtin, Sem.run_bind, Sem.run_pure, Result.andThen_ok, List.map_toArray, List.map_cons, List.map_nil, hs, hx, hr]
  exact hK _ _ (h v' w' h2 h3)
end

end Go.Proofs.Ytnimfkcnkkjlkaa

/-
  Slices of whatever is laid in so many cells, as they can be read: texts, structs, lists within them.
-/
namespace Go.Proofs.Ytnimfkcnkkjlkaa
open Go.RowKit
set_option maxRecDepth 100000

/-- How a value of a kind is read at a place of a block: it stays while nothing that was there turns. -/
structure Rdr {α : Type} (R : World → Nat → Nat → α → Prop) : Prop where
  keep : ∀ {w w' : World} {b o : Nat} {x : α}, R w b o x → Below w.heap.size w w' → R w' b o x

/-- A slice of values, each of so many cells. -/
structure Sq {α : Type} (R : World → Nat → Nat → α → Prop) (size : Nat) (w : World) (a : Option Addr) (n cap : Nat) (l : List α) : Prop where
  len : l.length = n
  le : n ≤ cap
  reach : cap ≤ 9223372036854775807
  lies : 0 < n → ∃ b off, a = some ⟨b, off, none⟩ ∧ ∀ i (h : i < l.length), R w b (off + i * size) l[i]

theorem Sq.keep {α : Type} {R : World → Nat → Nat → α → Prop} {size : Nat} {w w' : World} {a : Option Addr} {n cap : Nat} {l : List α} (hR : Rdr R) (h : Sq R size w a n cap l) (hb : Below w.heap.size w w') : Sq R size w' a n cap l := by
  refine ⟨h.len, h.le, h.reach, fun hn => ?_⟩
  obtain ⟨b, off, ha, hc⟩ := h.lies hn
  exact ⟨b, off, ha, fun i hi => hR.keep (hc i hi) hb⟩

theorem Sq.nil {α : Type} (R : World → Nat → Nat → α → Prop) (size : Nat) (w : World) : Sq R size w none 0 0 [] := ⟨rfl, Nat.le_refl _, by omega, fun h => by omega⟩

/-- A number, a bool, a text in one cell. -/
def RNum (k : IntKind) (w : World) (b o : Nat) (x : Int) : Prop := w.cell? ⟨b, o, none⟩ = some (.int k x)
def RBool (w : World) (b o : Nat) (x : Bool) : Prop := w.cell? ⟨b, o, none⟩ = some (.bool x)
def RText (w : World) (b o : Nat) (x : List Int) : Prop := ∃ s : ByteArray, w.cell? ⟨b, o, none⟩ = some (.string s) ∧ sb s = x ∧ s.size ≤ 9223372036854775807
/-- Bytes, and a list, by the slice in one cell. -/
def RBytes (w : World) (b o : Nat) (x : List Int) : Prop := ∃ c m d, w.cell? ⟨b, o, none⟩ = some (.slice c m d) ∧ Bs w c m d x
def RList {α : Type} (R : World → Nat → Nat → α → Prop) (size : Nat) (w : World) (b o : Nat) (l : List α) : Prop := ∃ c m d, w.cell? ⟨b, o, none⟩ = some (.slice c m d) ∧ Sq R size w c m d l

theorem cell_keep {w w' : World} {a : Addr} {v : Value} (h : w.cell? a = some v) (hb : Below w.heap.size w w') : w'.cell? a = some v := (hb.cell (cell_lt h)).trans h

theorem rNum (k : IntKind) : Rdr (RNum k) := ⟨fun h hb => cell_keep h hb⟩
theorem rBool : Rdr RBool := ⟨fun h hb => cell_keep h hb⟩
theorem rText : Rdr RText := ⟨fun ⟨s, h1, h2, h3⟩ hb => ⟨s, cell_keep h1 hb, h2, h3⟩⟩
theorem rBytes : Rdr RBytes := ⟨fun ⟨c, m, d, h1, h2⟩ hb => ⟨c, m, d, cell_keep h1 hb, h2.keep hb⟩⟩
theorem rList {α : Type} {R : World → Nat → Nat → α → Prop} (hR : Rdr R) (size : Nat) : Rdr (RList R size) := ⟨fun ⟨c, m, d, h1, h2⟩ hb => ⟨c, m, d, cell_keep h1 hb, h2.keep hR hb⟩⟩

/-- A slice of slices of bytes is one of these. -/
theorem Rl.sq {w : World} {a : Option Addr} {n cap : Nat} {bss : List (List Int)} (h : Rl w a n cap bss) : Sq RBytes 1 w a n cap bss := by
  refine ⟨h.len, h.le, h.reach, fun hn => ?_⟩
  obtain ⟨b, off, ha, hc⟩ := h.lies hn
  refine ⟨b, off, ha, fun i hi => ?_⟩
  have hl := h.len
  obtain ⟨c, m, d, h1, h2⟩ := hc i (by omega)
  refine ⟨c, m, d, by rw [Nat.mul_one]; exact h1, ?_⟩
  simpa [List.getD, List.getElem?_eq_getElem hi] using h2

end Go.Proofs.Ytnimfkcnkkjlkaa

/-
  How the parts of layer 6's things are read in memory.
-/
namespace Go.Proofs.Ytnimfkcnkkjlkaa
open Go.RowKit
set_option maxRecDepth 100000

def I64 (n : Int) : Prop := -9223372036854775808 ≤ n ∧ n ≤ 9223372036854775807
def U8 (k : Int) : Prop := 0 ≤ k ∧ k ≤ 255

theorem wrap_u8 {k : Int} (h : 0 ≤ k ∧ k ≤ 255) : IntKind.i64.wrap k = k := by
  simp [IntKind.wrap, IntKind.signed, IntKind.bits]
  omega

theorem U8.i64 {k : Int} (h : U8 k) : I64 (IntKind.i64.wrap k) := by
  rw [wrap_u8 h]
  unfold U8 at h
  exact ⟨by omega, by omega⟩

def RI64 (w : World) (b o : Nat) (x : Int) : Prop := RNum .i64 w b o x ∧ I64 x
def RU8 (w : World) (b o : Nat) (x : Int) : Prop := RNum .u8 w b o x ∧ U8 x
theorem rI64 : Rdr RI64 := ⟨fun h hb => ⟨(rNum _).keep h.1 hb, h.2⟩⟩
theorem rU8 : Rdr RU8 := ⟨fun h hb => ⟨(rNum _).keep h.1 hb, h.2⟩⟩

def RPlace (w : World) (b o : Nat) (x : Cod.Place) : Prop := RText w b o x.topic ∧ RNum .i64 w b (o + 1) x.part ∧ -9223372036854775808 ≤ x.part ∧ x.part ≤ 9223372036854775807
theorem rPlace : Rdr RPlace := ⟨fun h hb => ⟨rText.keep h.1 hb, (rNum _).keep h.2.1 hb, h.2.2⟩⟩
def REntry (w : World) (b o : Nat) (x : Cod.Entry) : Prop := RNum .i64 w b o x.term ∧ RBytes w b (o + 1) x.data ∧ I64 x.term
theorem rEntry : Rdr REntry := ⟨fun h hb => ⟨(rNum _).keep h.1 hb, rBytes.keep h.2.1 hb, h.2.2⟩⟩
def RRecent (w : World) (b o : Nat) (x : Cod.Recent) : Prop := (RNum .i64 w b o x.first ∧ RNum .i64 w b (o + 1) x.count ∧ RNum .i64 w b (o + 2) x.offset) ∧ I64 x.first ∧ I64 x.count ∧ I64 x.offset
theorem rRecent : Rdr RRecent := ⟨fun h hb => ⟨⟨(rNum _).keep h.1.1 hb, (rNum _).keep h.1.2.1 hb, (rNum _).keep h.1.2.2 hb⟩, h.2⟩⟩
def RProducer (w : World) (b o : Nat) (x : Cod.Producer) : Prop := (RNum .i64 w b o x.pid ∧ RNum .i64 w b (o + 1) x.epoch ∧ RNum .i64 w b (o + 2) x.next ∧ RList RRecent 3 w b (o + 3) x.recent) ∧ I64 x.pid ∧ I64 x.epoch ∧ I64 x.next
theorem rProducer : Rdr RProducer := ⟨fun h hb => ⟨⟨(rNum _).keep h.1.1 hb, (rNum _).keep h.1.2.1 hb, (rNum _).keep h.1.2.2.1 hb, (rList rRecent 3).keep h.1.2.2.2 hb⟩, h.2⟩⟩
def RTopic (w : World) (b o : Nat) (x : Cod.Topic) : Prop := RText w b o x.name ∧ RI64 w b (o + 1) x.parts
theorem rTopic : Rdr RTopic := ⟨fun h hb => ⟨rText.keep h.1 hb, rI64.keep h.2 hb⟩⟩
def RWriter (w : World) (b o : Nat) (x : Cod.Writer) : Prop := RText w b o x.name ∧ RI64 w b (o + 1) x.pid ∧ RI64 w b (o + 2) x.epoch
theorem rWriter : Rdr RWriter := ⟨fun h hb => ⟨rText.keep h.1 hb, rI64.keep h.2.1 hb, rI64.keep h.2.2 hb⟩⟩
def RMember (w : World) (b o : Nat) (x : Cod.Member) : Prop := RText w b o x.member ∧ RList RText 1 w b (o + 1) x.topics ∧ RI64 w b (o + 2) x.seen ∧ RBool w b (o + 3) x.back
theorem rMember : Rdr RMember := ⟨fun h hb => ⟨rText.keep h.1 hb, (rList rText 1).keep h.2.1 hb, rI64.keep h.2.2.1 hb, rBool.keep h.2.2.2 hb⟩⟩
def RShare (w : World) (b o : Nat) (x : Cod.Share) : Prop := RText w b o x.member ∧ RList RPlace 2 w b (o + 1) x.places
theorem rShare : Rdr RShare := ⟨fun h hb => ⟨rText.keep h.1 hb, (rList rPlace 2).keep h.2 hb⟩⟩
def RKept (w : World) (b o : Nat) (x : Cod.Kept) : Prop := RPlace w b o x.place ∧ RI64 w b (o + 2) x.offset
theorem rKept : Rdr RKept := ⟨fun h hb => ⟨rPlace.keep h.1 hb, rI64.keep h.2 hb⟩⟩
def RGroup (w : World) (b o : Nat) (x : Cod.Group) : Prop := RText w b o x.name ∧ RI64 w b (o + 1) x.generation ∧ RU8 w b (o + 2) x.phase ∧ RI64 w b (o + 3) x.until' ∧ RList RMember 4 w b (o + 4) x.members ∧ RList RShare 2 w b (o + 5) x.shares ∧ RList RKept 3 w b (o + 6) x.offsets
theorem rGroup : Rdr RGroup := ⟨fun h hb => ⟨rText.keep h.1 hb, rI64.keep h.2.1 hb, rU8.keep h.2.2.1 hb, rI64.keep h.2.2.2.1 hb, (rList rMember 4).keep h.2.2.2.2.1 hb, (rList rShare 2).keep h.2.2.2.2.2.1 hb, (rList rKept 3).keep h.2.2.2.2.2.2 hb⟩⟩
def RAnswer (w : World) (b o : Nat) (x : Cod.Answer) : Prop := RI64 w b o x.err ∧ RI64 w b (o + 1) x.pid ∧ RI64 w b (o + 2) x.epoch ∧ RI64 w b (o + 3) x.n ∧ RU8 w b (o + 4) x.phase ∧ RList RPlace 2 w b (o + 5) x.places
theorem rAnswer : Rdr RAnswer := ⟨fun h hb => ⟨rI64.keep h.1 hb, rI64.keep h.2.1 hb, rI64.keep h.2.2.1 hb, rI64.keep h.2.2.2.1 hb, rU8.keep h.2.2.2.2.1 hb, (rList rPlace 2).keep h.2.2.2.2.2 hb⟩⟩
def RTold (w : World) (b o : Nat) (x : Cod.Told) : Prop := RI64 w b o x.call ∧ RAnswer w b (o + 1) x.answer
theorem rTold : Rdr RTold := ⟨fun h hb => ⟨rI64.keep h.1 hb, rAnswer.keep h.2 hb⟩⟩
def RCaller (w : World) (b o : Nat) (x : Cod.Caller) : Prop := RI64 w b o x.client ∧ RI64 w b (o + 1) x.floor ∧ RList RTold 7 w b (o + 2) x.calls
theorem rCaller : Rdr RCaller := ⟨fun h hb => ⟨rI64.keep h.1 hb, rI64.keep h.2.1 hb, (rList rTold 7).keep h.2.2 hb⟩⟩

end Go.Proofs.Ytnimfkcnkkjlkaa

/-
  How values lie in cells, with what hangs on them in memory; what stays while blocks of one type alone turn.
-/
namespace Go.Proofs.Ytnimfkcnkkjlkaa
open Go.RowKit
set_option maxRecDepth 100000

/-- Of what was there nothing has turned but blocks of one type. -/
structure Kt (t : TypeId) (w w' : World) : Prop where
  size : w.heap.size ≤ w'.heap.size
  block : ∀ (k : Nat) (c : Array Value) (u : TypeId) (f : Nat × Nat), w.heap[k]? = some (.cells c u f) → u ≠ t → w'.heap[k]? = some (.cells c u f)

theorem hp_lt {w : World} {k : Nat} {o : Obj} (h : w.heap[k]? = some o) : k < w.heap.size := (Array.getElem?_eq_some_iff.1 h).1

section
variable {t : TypeId} {w w1 w' : World}

theorem Kt.refl (t : TypeId) (w : World) : Kt t w w := ⟨Nat.le_refl _, fun _ _ _ _ h _ => h⟩
theorem Kt.trans (h : Kt t w w1) (k : Kt t w1 w') : Kt t w w' := ⟨Nat.le_trans h.size k.size, fun i c u f hi h1 => k.block i c u f (h.block i c u f hi h1) h1⟩
theorem Kt.of_below (h : Below w.heap.size w w') : Kt t w w' := ⟨h.size, fun i _ _ _ hi _ => (h.block i (hp_lt hi)).trans hi⟩
theorem Kt.grown {base n size : Nat} {v : Value} {xs : List Value} (ho : w.ownsRow base t size v n xs) (h : w.grownBy w' v.ownBlock) : Kt t w w' := by
  refine ⟨h.size, fun i c u f hi h1 => (h.block i (hp_lt hi) fun e => ?_).trans hi⟩
  rcases ho.2 with ⟨rfl, _⟩ | ⟨g, cap, cur, rfl, _, hg, _⟩
  · cases e
  · simp only [Value.ownBlock, Option.some.injEq] at e
    subst e
    rw [hg] at hi
    simp only [Option.some.injEq, Obj.cells.injEq] at hi
    exact h1 hi.2.1.symm
theorem Kt.set {R i : Nat} {c : Array Value} {f : Nat × Nat} (hR : w.heap[R]? = some (.cells c t f)) (x : Value) : Kt t w (w.setCell ⟨R, i, none⟩ x) := by
  refine ⟨by simp [World.setCell], fun k c' u f' hk h2 => (Below.heap_setCell w ⟨R, i, none⟩ x k fun e => ?_).trans hk⟩
  simp only at e
  subst e
  rw [hR] at hk
  simp only [Option.some.injEq, Obj.cells.injEq] at hk
  exact h2 hk.2.1.symm
theorem Kt.own {base n size : Nat} {u : TypeId} {v : Value} {xs : List Value} (h : Kt t w w') (ho : w.ownsRow base u size v n xs) (hu : u ≠ t) : w'.ownsRow base u size v n xs := by
  refine ⟨ho.1, ?_⟩
  rcases ho.2 with h1 | ⟨g, cap, cur, hv, hb, hg, hr⟩
  · exact .inl h1
  · exact .inr ⟨g, cap, cur, hv, hb, h.block _ _ _ _ hg hu, hr⟩
end

/-- How a value lies in cells. -/
abbrev Lay (α : Type) := World → α → List Value → Prop

/-- It stays while only blocks of other types turn. -/
def Lk {α : Type} (ts : List TypeId) (L : Lay α) : Prop := ∀ (t : TypeId) (w w' : World) (x : α) (cs : List Value), t ∉ ts → Kt t w w' → L w x cs → L w' x cs

def LI64 : Lay Int := fun _ x cs => cs = [.int .i64 x] ∧ I64 x
def LU8 : Lay Int := fun _ x cs => cs = [.int .u8 x] ∧ U8 x
def LBl : Lay Bool := fun _ x cs => cs = [.bool x]
def LTx : Lay (List Int) := fun _ x cs => ∃ s : ByteArray, cs = [.string s] ∧ sb s = x ∧ s.size ≤ 9223372036854775807
def LBy : Lay (List Int) := fun w x cs => ∃ a m d, cs = [.slice a m d] ∧ Bs w a m d x ∧ (0 < m → ∃ b off c f, a = some ⟨b, off, none⟩ ∧ w.heap[b]? = some (.cells c 5 f))
def LPr {α β : Type} (L : Lay α) (M : Lay β) : Lay (α × β) := fun w q cs => ∃ c d, cs = c ++ d ∧ L w q.1 c ∧ M w q.2 d
def LIs {α β : Type} (L : Lay α) (g : β → α) : Lay β := fun w x cs => L w (g x) cs
def LLs {α : Type} (T : TypeId) (size : Nat) (L : Lay α) : Lay (List α) := fun w l cs => ∃ a m d, cs = [.slice a m d] ∧ l.length = m ∧ m ≤ d ∧ d ≤ 9223372036854775807 ∧
  (0 < m → ∃ b c f, a = some ⟨b, 0, none⟩ ∧ w.heap[b]? = some (.cells c T f) ∧ ∀ i (h : i < l.length), ((c.toList.drop (i * size)).take size).length = size ∧ L w l[i] ((c.toList.drop (i * size)).take size))

theorem LI64.k : Lk [] LI64 := fun _ _ _ _ _ _ _ h => h
theorem LU8.k : Lk [] LU8 := fun _ _ _ _ _ _ _ h => h
theorem LBl.k : Lk [] LBl := fun _ _ _ _ _ _ _ h => h
theorem LTx.k : Lk [] LTx := fun _ _ _ _ _ _ _ h => h
theorem LBy.k : Lk [5] LBy := by
  rintro t w w' x cs ht hk ⟨a, m, d, h1, h2, h3⟩
  have ht' : (5 : TypeId) ≠ t := fun e => ht (by simp [e])
  refine ⟨a, m, d, h1, ⟨h2.len, h2.le, h2.reach, h2.byte, h2.bare, fun hm => ?_⟩, fun hm => ?_⟩
  · obtain ⟨b, off, ha, hc⟩ := h2.lies hm
    obtain ⟨b', off', c, f, ha', hb⟩ := h3 hm
    rw [ha] at ha'
    simp only [Option.some.injEq, Addr.mk.injEq, and_true] at ha'
    obtain ⟨rfl, rfl⟩ := ha'
    refine ⟨b, off, ha, fun i hi => ?_⟩
    have := hc i hi
    rw [cell_of_row w b (off + i) c 5 f hb] at this
    rw [cell_of_row w' b (off + i) c 5 f (hk.block _ _ _ _ hb ht')]
    exact this
  · obtain ⟨b', off', c, f, ha', hb⟩ := h3 hm
    exact ⟨b', off', c, f, ha', hk.block _ _ _ _ hb ht'⟩

section
variable {α β : Type} {L : Lay α} {M : Lay β} {ts us : List TypeId}

theorem Lk.pr (h : Lk ts L) (k : Lk us M) : Lk (ts ++ us) (LPr L M) := by
  rintro t w w' ⟨x, y⟩ cs ht hk ⟨c, d, h1, h2, h3⟩
  rw [List.mem_append] at ht
  exact ⟨c, d, h1, h t w w' x c (fun e => ht (.inl e)) hk h2, k t w w' y d (fun e => ht (.inr e)) hk h3⟩

theorem Lk.is (h : Lk ts L) (g : β → α) : Lk ts (LIs L g) := fun t w w' x cs ht hk hl => h t w w' (g x) cs ht hk hl

theorem Lk.ls (h : Lk ts L) (T : TypeId) (size : Nat) : Lk (T :: ts) (LLs T size L) := by
  rintro t w w' l cs ht hk ⟨a, m, d, h1, h2, h3, h4, h5⟩
  rw [List.mem_cons, not_or] at ht
  refine ⟨a, m, d, h1, h2, h3, h4, fun hm => ?_⟩
  obtain ⟨b, c, f, ha, hb, hl⟩ := h5 hm
  exact ⟨b, c, f, ha, hk.block _ _ _ _ hb (fun e => ht.1 e.symm), fun i hi => ⟨(hl i hi).1, h t w w' _ _ ht.2 hk (hl i hi).2⟩⟩

/-- It stays while nothing turns. -/
theorem Lk.below {w w' : World} {x : α} {cs : List Value} (h : Lk ts L) (hl : L w x cs) (hb : Below w.heap.size w w') : L w' x cs := by
  have : ∃ t : TypeId, t ∉ ts := by
    refine ⟨ts.foldl (· + ·) 0 + 1, fun hm => ?_⟩
    have key : ∀ (l : List Nat) (a : Nat), a ≤ l.foldl (· + ·) a ∧ ∀ x ∈ l, x ≤ l.foldl (· + ·) a := by
      intro l
      induction l with
      | nil => intro a; simp
      | cons y l ih =>
        intro a
        have h1 := ih (a + y)
        simp only [List.foldl_cons]
        refine ⟨by omega, fun x hx => ?_⟩
        rcases List.mem_cons.1 hx with rfl | hx
        · omega
        · exact h1.2 x hx
    exact Nat.not_succ_le_self _ ((key ts 0).2 _ hm)
  obtain ⟨t, ht⟩ := this
  exact h t w w' x cs ht (Kt.of_below hb) hl
end

/-- A value that lies so can be read where its cells stand. -/
def Lr {α : Type} (L : Lay α) (R : World → Nat → Nat → α → Prop) (size : Nat) : Prop := ∀ (w : World) (x : α) (cs : List Value) (b o : Nat), L w x cs → (∀ j v, cs[j]? = some v → w.cell? ⟨b, o + j, none⟩ = some v) → cs.length = size ∧ R w b o x

theorem LI64.r : Lr LI64 RI64 1 := by
  rintro w x cs b o ⟨rfl, h⟩ hc
  exact ⟨rfl, by simpa [RNum] using hc 0 _ rfl, h⟩
theorem LU8.r : Lr LU8 RU8 1 := by
  rintro w x cs b o ⟨rfl, h⟩ hc
  exact ⟨rfl, by simpa [RNum] using hc 0 _ rfl, h⟩
theorem LBl.r : Lr LBl RBool 1 := by
  rintro w x cs b o rfl hc
  exact ⟨rfl, by simpa [RBool] using hc 0 _ rfl⟩
theorem LTx.r : Lr LTx RText 1 := by
  rintro w x cs b o ⟨s, rfl, h⟩ hc
  exact ⟨rfl, s, by simpa using hc 0 _ rfl, h⟩
theorem LBy.r : Lr LBy RBytes 1 := by
  rintro w x cs b o ⟨a, m, d, rfl, h, _⟩ hc
  exact ⟨rfl, a, m, d, by simpa using hc 0 _ rfl, h⟩

theorem LLs.sq {α : Type} {L : Lay α} {R : World → Nat → Nat → α → Prop} {size : Nat} (h : Lr L R size) {T : TypeId} {w : World} {l : List α} {a : Option Addr} {m d : Nat} (hl : LLs T size L w l [.slice a m d]) : Sq R size w a m d l := by
  obtain ⟨a', m', d', h1, h2, h3, h4, h5⟩ := hl
  simp only [List.cons.injEq, Value.slice.injEq, and_true] at h1
  obtain ⟨rfl, rfl, rfl⟩ := h1
  refine ⟨h2, h3, h4, fun hm => ?_⟩
  obtain ⟨b, c, f, ha, hb, hi⟩ := h5 hm
  refine ⟨b, 0, ha, fun i hi' => ?_⟩
  refine (h w l[i] _ b (0 + i * size) (hi i hi').2 fun j v hv => ?_).2
  have hj : j < size := by
    have := (List.getElem?_eq_some_iff.1 hv).1
    rw [(hi i hi').1] at this
    exact this
  rw [List.getElem?_take, if_pos hj, List.getElem?_drop] at hv
  rw [cell_of_row w b _ c T f hb, Nat.zero_add]
  simpa using hv

theorem LLs.r {α : Type} {L : Lay α} {R : World → Nat → Nat → α → Prop} {size : Nat} (h : Lr L R size) (T : TypeId) : Lr (LLs T size L) (RList R size) 1 := by
  intro w l cs b o hl hc
  obtain ⟨a, m, d, rfl, h2⟩ := hl
  exact ⟨rfl, a, m, d, by simpa using hc 0 _ rfl, LLs.sq h (T := T) ⟨a, m, d, rfl, h2⟩⟩

theorem Lr.pr {α β : Type} {L : Lay α} {M : Lay β} {R : World → Nat → Nat → α → Prop} {Q : World → Nat → Nat → β → Prop} {m n : Nat} (h : Lr L R m) (k : Lr M Q n) {w : World} {q : α × β} {cs : List Value} {b o : Nat} (hl : LPr L M w q cs) (hc : ∀ j v, cs[j]? = some v → w.cell? ⟨b, o + j, none⟩ = some v) :
    cs.length = m + n ∧ R w b o q.1 ∧ Q w b (o + m) q.2 := by
  obtain ⟨c, d, rfl, h1, h2⟩ := hl
  obtain ⟨e1, r1⟩ := h w q.1 c b o h1 (fun j v hv => hc j v (by rw [List.getElem?_append_left (List.getElem?_eq_some_iff.1 hv).1]; exact hv))
  obtain ⟨e2, r2⟩ := k w q.2 d b (o + m) h2 (fun j v hv => by
    have := hc (m + j) v (by rw [List.getElem?_append_right (by omega), e1]; simpa using hv)
    rw [Nat.add_assoc]
    exact this)
  exact ⟨by rw [List.length_append, e1, e2], r1, r2⟩

end Go.Proofs.Ytnimfkcnkkjlkaa

/-
  Texts put into one.
-/
import Derived.Test.YtnimfkcnkkjlkaaRows
import Derived.Test.YtnimfkcnkkjlkaaPk9bf0f6a5
import Derived.ProofKit
import Derived.OpenShut
import Derived.ShutString
import Derived.ChangeOld
import Derived.SizedLaws
import Derived.ChangeArms
import Derived.DataReads

/-
  Structs, texts and lists among the arguments, opened.
-/
namespace Go.Proofs.Ytnimfkcnkkjlkaa
open Go.ChangeShapes Go.WideShapes Go.ChangeAt Go.RowKit
set_option maxRecDepth 100000

/-- Bytes, and lists, as they are handed in. -/
def ABy : Lay (List Int) := fun w x cs => ∃ a m d, cs = [.slice a m d] ∧ Bs w a m d x
def ALs {α : Type} (R : World → Nat → Nat → α → Prop) (size : Nat) : Lay (List α) := fun w l cs => ∃ a m d, cs = [.slice a m d] ∧ Sq R size w a m d l

/-- What is read of an argument of a type: a value that lies so, and its bytes are no more than so many. -/
def Opn {α : Type} (t : TypeId) (A : Lay α) (c : Cod.Way α) : Prop := ∀ (H : Type) (enc : TypeId × Value → H) (W : World) (fuel : Nat) (cs : List Value) (y : DataW H × List MemPlace),
  DataW.trod enc Try.prog W 0 (fun _ => true) true fuel t cs = some y → ∃ x, A W x cs ∧ (c.put x).length ≤ 20 * Rows.uptoBulk y.1

theorem vb10 {n : Nat} (h : n < 18446744073709551616) : (vb n).length ≤ 10 := vb_len10 h

theorem open_i64 {t : TypeId} (ht : Try.prog.underlying t = some (.int .i64)) : Opn t LI64 Cod.i64 := by
  intro H enc W fuel cs y h
  obtain ⟨n, rfl, rfl, hw⟩ := DataW.trod_int ht h
  have hb := bounds_i64 hw
  have hI : I64 n := ⟨by omega, by omega⟩
  refine ⟨n, ⟨rfl, hI⟩, ?_⟩
  have := vb10 (fo_lt hI.1 hI.2)
  have e : Cod.i64.put n = vb (fo n) := rfl
  rw [e]
  simp only [Rows.uptoBulk]
  omega

theorem open_u8 {t : TypeId} (ht : Try.prog.underlying t = some (.int .u8)) : Opn t LU8 Cod.u8 := by
  intro H enc W fuel cs y h
  obtain ⟨n, rfl, rfl, hw⟩ := DataW.trod_int ht h
  have hb := bounds_u8 hw
  refine ⟨n, ⟨rfl, hb⟩, ?_⟩
  have := vb10 (fo_lt (n := n) (by omega) (by omega))
  have e : Cod.u8.put n = vb (fo n) := rfl
  rw [e]
  simp only [Rows.uptoBulk]
  omega

theorem open_bl : Opn 4 LBl Cod.bool := by
  intro H enc W fuel cs y h
  obtain ⟨b, rfl, rfl⟩ := DataW.trod_bool Try.underlying4 h
  exact ⟨b, rfl, by simp [Cod.bool, Rows.uptoBulk]⟩

theorem open_tx : Opn 9 LTx Cod.data := by
  intro H enc W fuel cs y h
  obtain ⟨s, rfl, rfl, hs⟩ := DataW.trod_string Try.underlying9 h
  unfold maxLen at hs
  refine ⟨sb s, ⟨s, rfl, rfl, by omega⟩, ?_⟩
  have e : (Cod.data.put (sb s)).length = (vb (sb s).length).length + (sb s).length := by simp [Cod.data]
  have h10 := vb10 (n := (sb s).length) (by rw [sb_length]; omega)
  have e2 : s.data.toList.length = s.size := by rw [Array.length_toList]; rfl
  rw [e]
  simp only [Rows.uptoBulk, e2]
  rw [sb_length] at *
  omega

theorem bulk_pos {H : Type} (d : DataW H) : 1 ≤ Rows.uptoBulk d := by
  cases d with
  | lit l => cases l <;> simp [Rows.uptoBulk]
  | _ => simp [Rows.uptoBulk]

theorem bulk_app {H : Type} (l m : List (DataW H)) : Rows.uptoBulkAll (l ++ m) = Rows.uptoBulkAll l + Rows.uptoBulkAll m := by
  induction l with
  | nil => simp [Rows.uptoBulkAll]
  | cons d l ih => simp only [List.cons_append, Rows.uptoBulkAll, ih]; omega

theorem bulk_len {H : Type} (l : List (DataW H)) : l.length ≤ Rows.uptoBulkAll l := by
  induction l with
  | nil => simp [Rows.uptoBulkAll]
  | cons d l ih =>
    have := bulk_pos d
    simp only [Rows.uptoBulkAll, List.length_cons]
    omega

theorem spot_none {w : World} {x : Addr} {v : Value} (h : w.cell? x = some v) : x.spot = none := World.cell?_spot h

theorem open_ls {α : Type} {t e : TypeId} {A : Lay α} {c : Cod.Way α} {R : World → Nat → Nat → α → Prop} {size : Nat} (ht : Try.prog.underlying t = some (.slice e)) (hs : Try.prog.cellsOf e = size) (h0 : 0 < size) (ho : Opn e A c) (hr : Lr A R size) : Opn t (ALs R size) (Cod.list c) := by
  intro H enc W fuel cs y h
  rcases DataW.trod_slice ht h with ⟨rfl, rfl⟩ | ⟨a, len, cap, elems, rest, n, rfl, rfl, rfl, _, hle, hmax, hel, hat, _, _⟩
  · refine ⟨[], ⟨none, 0, 0, rfl, Sq.nil _ _ _⟩, ?_⟩
    have e : (Cod.list c).put [] = vb 0 := by simp [Cod.list, Cod.puts]
    have := vb10 (n := 0) (by omega)
    rw [e]
    simp only [Rows.uptoBulk]
    omega
  · unfold maxLen at hmax
    rw [hs] at hat
    have key : ∀ k, k ≤ len → ∃ l : List α, l.length = k ∧ (∀ i (hi : i < l.length), ∃ cs', W.cells? 0 (a.add (i * size)) size = some cs' ∧ A W l[i] cs') ∧ (Cod.puts c l).length ≤ 20 * Rows.uptoBulkAll ((elems.take k).map (·.1)) := by
      intro k
      induction k with
      | zero => exact fun _ => ⟨[], rfl, fun i hi => by simp at hi, by simp [Cod.puts]⟩
      | succ k ih =>
        intro hk
        obtain ⟨l, h1, h2, h3⟩ := ih (by omega)
        have hek : k < elems.length := by omega
        have := hat k (by omega)
        rw [List.getElem?_eq_getElem hek, Option.bind_eq_some_iff] at this
        obtain ⟨cs', hc, hd⟩ := this
        obtain ⟨x, hx, hb⟩ := ho H enc W n cs' _ hd
        refine ⟨l ++ [x], by simp [h1], fun i hi => ?_, ?_⟩
        · rw [List.length_append, List.length_singleton] at hi
          rcases Nat.lt_or_ge i l.length with hlt | hge
          · rw [List.getElem_append_left hlt]
            exact h2 i hlt
          · obtain rfl : i = l.length := by omega
            refine ⟨cs', by rw [h1]; exact hc, ?_⟩
            simpa using hx
        · rw [Cod.puts_append, List.length_append, List.take_succ_eq_append_getElem hek, List.map_append, bulk_app]
          simp only [Cod.puts, List.append_nil, List.map_cons, List.map_nil, Rows.uptoBulkAll]
          omega
    obtain ⟨l, h1, h2, h3⟩ := key len (Nat.le_refl _)
    rw [List.take_of_length_le (by omega)] at h3
    refine ⟨l, ⟨_, _, _, rfl, h1, hle, by omega, fun hn => ?_⟩, ?_⟩
    · obtain ⟨cs0, hc0, _⟩ := h2 0 (by omega)
      have h00 := (World.cells?_some hc0).2.2 0 h0
      obtain ⟨b, off, spot⟩ := a
      have hspot : spot = none := by
        have hl := (World.cells?_some hc0).2.1
        rw [List.getElem?_eq_getElem (by omega)] at h00
        simpa [Addr.add] using World.cell?_spot h00
      subst hspot
      refine ⟨b, off, rfl, fun i hi => ?_⟩
      obtain ⟨cs', hc, hA⟩ := h2 i hi
      refine (hr W l[i] cs' b (off + i * size) hA fun j v hv => ?_).2
      have hl := (World.cells?_some hc).2.1
      have hj : j < size := by
        have := (List.getElem?_eq_some_iff.1 hv).1
        omega
      have := (World.cells?_some hc).2.2 j hj
      rw [Addr.add_lit, Addr.add_lit, hv] at this
      exact this
    · have e : ((Cod.list c).put l).length = (vb l.length).length + (Cod.puts c l).length := by simp [Cod.list]
      have h10 := vb10 (n := l.length) (by omega)
      rw [e]
      simp only [Rows.uptoBulk]
      omega

theorem open_by : Opn (22 : TypeId) ABy Cod.data := by
  intro H enc W fuel cs y h
  rcases DataW.trod_slice Try.underlying22 h with ⟨rfl, rfl⟩ | ⟨a, len, cap, elems, rest, n, rfl, rfl, rfl, _, hle, hmax, hel, hat, _, _⟩
  · refine ⟨[], ⟨none, 0, 0, rfl, Bs.nil _⟩, ?_⟩
    have e : Cod.data.put [] = vb 0 := by simp [Cod.data]
    have := vb10 (n := 0) (by omega)
    rw [e]
    simp only [Rows.uptoBulk]
    omega
  · unfold maxLen at hmax
    have hs : Try.prog.cellsOf 5 = 1 := by kernel_rfl
    rw [hs] at hat
    have key : ∀ k, k ≤ len → ∃ l : List Int, l.length = k ∧ (∀ z ∈ l, 0 ≤ z ∧ z ≤ 255) ∧ ∀ i (hi : i < l.length), W.cell? (a.add i) = some (.int .u8 l[i]) := by
      intro k
      induction k with
      | zero => exact fun _ => ⟨[], rfl, by simp, fun i hi => by simp at hi⟩
      | succ k ih =>
        intro hk
        obtain ⟨l, h1, h2, h3⟩ := ih (by omega)
        have hek : k < elems.length := by omega
        have := hat k (by omega)
        rw [List.getElem?_eq_getElem hek, Option.bind_eq_some_iff] at this
        obtain ⟨cs', hc, hd⟩ := this
        obtain ⟨z, rfl, _, hw⟩ := DataW.trod_int Try.underlying5 hd
        have hcell := (World.cells?_some hc).2.2 0 (by omega)
        refine ⟨l ++ [z], by simp [h1], fun z' hz => ?_, fun i hi => ?_⟩
        · rcases List.mem_append.1 hz with hz | hz
          · exact h2 z' hz
          · simp only [List.mem_singleton] at hz
            subst hz
            exact bounds_u8 hw
        · rw [List.length_append, List.length_singleton] at hi
          rcases Nat.lt_or_ge i l.length with hlt | hge
          · rw [List.getElem_append_left hlt]
            exact h3 i hlt
          · obtain rfl : i = l.length := by omega
            subst h1
            simp only [Nat.mul_one] at hcell
            have e2 : (a.add l.length).add 0 = a.add l.length := by
              cases a
              simp only [Addr.add]
              split <;> simp_all
            rw [e2] at hcell
            rw [hcell]
            simp
    obtain ⟨l, h1, h2, h3⟩ := key len (Nat.le_refl _)
    refine ⟨l, ⟨_, _, _, rfl, h1, hle, by omega, h2, fun h => (by cases h), fun hn => ?_⟩, ?_⟩
    · have h00 := h3 0 (by omega)
      obtain ⟨b, off, spot⟩ := a
      have hspot : spot = none := by simpa [Addr.add] using World.cell?_spot h00
      subst hspot
      refine ⟨b, off, rfl, fun i hi => ?_⟩
      have := h3 i (by omega)
      rw [Addr.add_lit] at this
      rw [this]
      simp [List.getD, show i < l.length by omega]
    · have e : (Cod.data.put l).length = (vb l.length).length + l.length := by simp [Cod.data]
      have h10 := vb10 (n := l.length) (by omega)
      have hbl := bulk_len (elems.map (·.1))
      rw [List.length_map] at hbl
      rw [e]
      simp only [Rows.uptoBulk]
      omega

theorem ABy.r : Lr ABy RBytes 1 := by
  rintro w x cs b o ⟨a, m, d, rfl, h⟩ hc
  exact ⟨rfl, a, m, d, by simpa using hc 0 _ rfl, h⟩
theorem ALs.r {α : Type} {R : World → Nat → Nat → α → Prop} {size : Nat} : Lr (ALs R size) (RList R size) 1 := by
  rintro w l cs b o ⟨a, m, d, rfl, h⟩ hc
  exact ⟨rfl, a, m, d, by simpa using hc 0 _ rfl, h⟩

theorem LPr.cut {α β : Type} {L : Lay α} {M : Lay β} {w : World} {q : α × β} {cs : List Value} {k s : Nat} (h1 : L w q.1 ((cs.drop k).take s)) (h2 : M w q.2 (cs.drop (k + s))) : LPr L M w q (cs.drop k) :=
  ⟨_, _, by rw [← List.drop_drop, List.take_append_drop], h1, h2⟩

theorem Lay.last {α : Type} {L : Lay α} {w : World} {x : α} {cs : List Value} {k s : Nat} (h : L w x ((cs.drop k).take s)) (hl : cs.length = k + s) : L w x (cs.drop k) := by
  rwa [List.take_of_length_le (by rw [List.length_drop]; omega)] at h

end Go.Proofs.Ytnimfkcnkkjlkaa

/-
  Places, entries, batches, commands, requests, answers and messages among the arguments.
-/
namespace Go.Proofs.Ytnimfkcnkkjlkaa
open Go.RowKit
set_option maxRecDepth 100000
set_option linter.unusedVariables false

/-- It stays while nothing turns. -/
def Ak {α : Type} (L : Lay α) : Prop := ∀ (w w' : World) (x : α) (cs : List Value), Below w.heap.size w w' → L w x cs → L w' x cs
theorem LI64.a : Ak LI64 := fun _ _ _ _ _ h => h
theorem LU8.a : Ak LU8 := fun _ _ _ _ _ h => h
theorem LBl.a : Ak LBl := fun _ _ _ _ _ h => h
theorem LTx.a : Ak LTx := fun _ _ _ _ _ h => h
theorem ABy.a : Ak ABy := fun _ _ _ _ hb ⟨a, m, d, h1, h2⟩ => ⟨a, m, d, h1, h2.keep hb⟩
theorem ALs.a {α : Type} {R : World → Nat → Nat → α → Prop} {size : Nat} (hR : Rdr R) : Ak (ALs R size) := fun _ _ _ _ hb ⟨a, m, d, h1, h2⟩ => ⟨a, m, d, h1, h2.keep hR hb⟩
theorem Ak.pr {α β : Type} {L : Lay α} {M : Lay β} (h : Ak L) (k : Ak M) : Ak (LPr L M) := fun w w' q cs hb ⟨c, d, h1, h2, h3⟩ => ⟨c, d, h1, h w w' q.1 c hb h2, k w w' q.2 d hb h3⟩
theorem Ak.is {α β : Type} {L : Lay α} (h : Ak L) (g : β → α) : Ak (LIs L g) := fun w w' x cs hb hl => h w w' (g x) cs hb hl

def APlace : Lay Cod.Place := LIs (LPr LTx LI64) (fun x => (x.topic, x.part))
theorem APlace.a : Ak APlace := ((Ak.pr LTx.a LI64.a)).is _

theorem open_Place : Opn (35 : TypeId) APlace Cod.place := by
  intro H enc W fuel cs y h
  obtain ⟨xs, n, rfl, rfl, hl, hlen, hf⟩ := DataW.trod_struct Try.underlying35 h
  have hl2 : cs.length = 2 := hl.trans (by kernel_rfl)
  match xs, hlen with
  | [y0, y1], _ =>
    obtain ⟨x0, a0, b0⟩ := open_tx H enc W n _ y0 (hf 0 _ rfl)
    have k0 : Try.prog.cellsOf (9 : TypeId) = 1 := by kernel_rfl
    have c0 : LTx W x0 ((cs.drop 0).take 1) := by rw [← k0]; exact a0
    obtain ⟨x1, a1, b1⟩ := (open_i64 Try.underlying3) H enc W n _ y1 (hf 1 _ rfl)
    have k1 : Try.prog.cellsOf (3 : TypeId) = 1 := by kernel_rfl
    have c1 : LI64 W x1 ((cs.drop 1).take 1) := by rw [← k1]; exact a1
    refine ⟨⟨x0, x1⟩, (LPr.cut (q := (x0, x1)) (cs := cs) (k := 0) (s := 1) c0 (Lay.last (k := 1) (s := 1) c1 (by omega))), ?_⟩
    have e : Cod.place.put ⟨x0, x1⟩ = Cod.data.put x0 ++ (Cod.i64.put x1) := rfl
    rw [e]
    simp only [List.length_append, List.map_cons, List.map_nil, Rows.uptoBulk, Rows.uptoBulkAll]
    omega

theorem APlace.r : Lr APlace RPlace 2 := fun _ _ _ _ _ hl hc => by
  obtain ⟨e, r1, r2⟩ := Lr.pr LTx.r LI64.r hl hc
  exact ⟨e, r1, r2.1, r2.2.1, r2.2.2⟩

def AEntry : Lay Cod.Entry := LIs (LPr LI64 ABy) (fun x => (x.term, x.data))
theorem AEntry.a : Ak AEntry := ((Ak.pr LI64.a ABy.a)).is _

theorem open_Entry : Opn (41 : TypeId) AEntry Cod.entry := by
  intro H enc W fuel cs y h
  obtain ⟨xs, n, rfl, rfl, hl, hlen, hf⟩ := DataW.trod_struct Try.underlying41 h
  have hl2 : cs.length = 2 := hl.trans (by kernel_rfl)
  match xs, hlen with
  | [y0, y1], _ =>
    obtain ⟨x0, a0, b0⟩ := (open_i64 Try.underlying3) H enc W n _ y0 (hf 0 _ rfl)
    have k0 : Try.prog.cellsOf (3 : TypeId) = 1 := by kernel_rfl
    have c0 : LI64 W x0 ((cs.drop 0).take 1) := by rw [← k0]; exact a0
    obtain ⟨x1, a1, b1⟩ := open_by H enc W n _ y1 (hf 1 _ rfl)
    have k1 : Try.prog.cellsOf (22 : TypeId) = 1 := by kernel_rfl
    have c1 : ABy W x1 ((cs.drop 1).take 1) := by rw [← k1]; exact a1
    refine ⟨⟨x0, x1⟩, (LPr.cut (q := (x0, x1)) (cs := cs) (k := 0) (s := 1) c0 (Lay.last (k := 1) (s := 1) c1 (by omega))), ?_⟩
    have e : Cod.entry.put ⟨x0, x1⟩ = Cod.i64.put x0 ++ (Cod.data.put x1) := rfl
    rw [e]
    simp only [List.length_append, List.map_cons, List.map_nil, Rows.uptoBulk, Rows.uptoBulkAll]
    omega

theorem AEntry.r : Lr AEntry REntry 2 := fun _ _ _ _ _ hl hc => by
  obtain ⟨e, r1, r2⟩ := Lr.pr LI64.r ABy.r hl hc
  exact ⟨e, r1.1, r2, r1.2⟩

def ABatch : Lay Cod.Batch := LIs (LPr LI64 (LPr LI64 (LPr LI64 (ALs RBytes 1)))) (fun x => (x.pid, x.epoch, x.first, x.records))
theorem ABatch.a : Ak ABatch := ((Ak.pr LI64.a (Ak.pr LI64.a (Ak.pr LI64.a (ALs.a rBytes))))).is _

theorem open_Batch : Opn (26 : TypeId) ABatch Cod.batch := by
  intro H enc W fuel cs y h
  obtain ⟨xs, n, rfl, rfl, hl, hlen, hf⟩ := DataW.trod_struct Try.underlying26 h
  have hl2 : cs.length = 4 := hl.trans (by kernel_rfl)
  match xs, hlen with
  | [y0, y1, y2, y3], _ =>
    obtain ⟨x0, a0, b0⟩ := (open_i64 Try.underlying2) H enc W n _ y0 (hf 0 _ rfl)
    have k0 : Try.prog.cellsOf (2 : TypeId) = 1 := by kernel_rfl
    have c0 : LI64 W x0 ((cs.drop 0).take 1) := by rw [← k0]; exact a0
    obtain ⟨x1, a1, b1⟩ := (open_i64 Try.underlying3) H enc W n _ y1 (hf 1 _ rfl)
    have k1 : Try.prog.cellsOf (3 : TypeId) = 1 := by kernel_rfl
    have c1 : LI64 W x1 ((cs.drop 1).take 1) := by rw [← k1]; exact a1
    obtain ⟨x2, a2, b2⟩ := (open_i64 Try.underlying2) H enc W n _ y2 (hf 2 _ rfl)
    have k2 : Try.prog.cellsOf (2 : TypeId) = 1 := by kernel_rfl
    have c2 : LI64 W x2 ((cs.drop 2).take 1) := by rw [← k2]; exact a2
    obtain ⟨x3, a3, b3⟩ := (open_ls Try.underlying23 (by kernel_rfl) (by omega) open_by ABy.r) H enc W n _ y3 (hf 3 _ rfl)
    have k3 : Try.prog.cellsOf (23 : TypeId) = 1 := by kernel_rfl
    have c3 : (ALs RBytes 1) W x3 ((cs.drop 3).take 1) := by rw [← k3]; exact a3
    refine ⟨⟨x0, x1, x2, x3⟩, (LPr.cut (q := (x0, (x1, (x2, x3)))) (cs := cs) (k := 0) (s := 1) c0 (LPr.cut (k := 1) (s := 1) c1 (LPr.cut (k := 2) (s := 1) c2 (Lay.last (k := 3) (s := 1) c3 (by omega))))), ?_⟩
    have e : Cod.batch.put ⟨x0, x1, x2, x3⟩ = Cod.i64.put x0 ++ (Cod.i64.put x1 ++ (Cod.i64.put x2 ++ ((Cod.list Cod.data).put x3))) := rfl
    rw [e]
    simp only [List.length_append, List.map_cons, List.map_nil, Rows.uptoBulk, Rows.uptoBulkAll]
    omega

def APartC : Lay Cod.PartC := LIs (LPr LU8 (LPr ABatch LI64)) (fun x => (x.kind, x.batch, x.offset))
theorem APartC.a : Ak APartC := ((Ak.pr LU8.a (Ak.pr ABatch.a LI64.a))).is _

theorem open_PartC : Opn (28 : TypeId) APartC Cod.part := by
  intro H enc W fuel cs y h
  obtain ⟨xs, n, rfl, rfl, hl, hlen, hf⟩ := DataW.trod_struct Try.underlying28 h
  have hl2 : cs.length = 6 := hl.trans (by kernel_rfl)
  match xs, hlen with
  | [y0, y1, y2], _ =>
    obtain ⟨x0, a0, b0⟩ := (open_u8 Try.underlying24) H enc W n _ y0 (hf 0 _ rfl)
    have k0 : Try.prog.cellsOf (24 : TypeId) = 1 := by kernel_rfl
    have c0 : LU8 W x0 ((cs.drop 0).take 1) := by rw [← k0]; exact a0
    obtain ⟨x1, a1, b1⟩ := open_Batch H enc W n _ y1 (hf 1 _ rfl)
    have k1 : Try.prog.cellsOf (26 : TypeId) = 4 := by kernel_rfl
    have c1 : ABatch W x1 ((cs.drop 1).take 4) := by rw [← k1]; exact a1
    obtain ⟨x2, a2, b2⟩ := (open_i64 Try.underlying2) H enc W n _ y2 (hf 2 _ rfl)
    have k2 : Try.prog.cellsOf (2 : TypeId) = 1 := by kernel_rfl
    have c2 : LI64 W x2 ((cs.drop 5).take 1) := by rw [← k2]; exact a2
    refine ⟨⟨x0, x1, x2⟩, (LPr.cut (q := (x0, (x1, x2))) (cs := cs) (k := 0) (s := 1) c0 (LPr.cut (k := 1) (s := 4) c1 (Lay.last (k := 5) (s := 1) c2 (by omega)))), ?_⟩
    have e : Cod.part.put ⟨x0, x1, x2⟩ = Cod.u8.put x0 ++ (Cod.batch.put x1 ++ (Cod.i64.put x2)) := rfl
    rw [e]
    simp only [List.length_append, List.map_cons, List.map_nil, Rows.uptoBulk, Rows.uptoBulkAll]
    omega

def AMetaC : Lay Cod.MetaC := LIs (LPr LU8 (LPr LTx (LPr LTx (LPr LI64 (LPr (ALs RText 1) (LPr APlace (LPr LI64 (LPr LI64 (LPr LI64 LI64))))))))) (fun x => (x.kind, x.group, x.name, x.n, x.topics, x.place, x.offset, x.now, x.client, x.call))
theorem AMetaC.a : Ak AMetaC := ((Ak.pr LU8.a (Ak.pr LTx.a (Ak.pr LTx.a (Ak.pr LI64.a (Ak.pr (ALs.a rText) (Ak.pr APlace.a (Ak.pr LI64.a (Ak.pr LI64.a (Ak.pr LI64.a LI64.a)))))))))).is _

theorem open_MetaC : Opn (37 : TypeId) AMetaC Cod.meta' := by
  intro H enc W fuel cs y h
  obtain ⟨xs, n, rfl, rfl, hl, hlen, hf⟩ := DataW.trod_struct Try.underlying37 h
  have hl2 : cs.length = 11 := hl.trans (by kernel_rfl)
  match xs, hlen with
  | [y0, y1, y2, y3, y4, y5, y6, y7, y8, y9], _ =>
    obtain ⟨x0, a0, b0⟩ := (open_u8 Try.underlying32) H enc W n _ y0 (hf 0 _ rfl)
    have k0 : Try.prog.cellsOf (32 : TypeId) = 1 := by kernel_rfl
    have c0 : LU8 W x0 ((cs.drop 0).take 1) := by rw [← k0]; exact a0
    obtain ⟨x1, a1, b1⟩ := open_tx H enc W n _ y1 (hf 1 _ rfl)
    have k1 : Try.prog.cellsOf (9 : TypeId) = 1 := by kernel_rfl
    have c1 : LTx W x1 ((cs.drop 1).take 1) := by rw [← k1]; exact a1
    obtain ⟨x2, a2, b2⟩ := open_tx H enc W n _ y2 (hf 2 _ rfl)
    have k2 : Try.prog.cellsOf (9 : TypeId) = 1 := by kernel_rfl
    have c2 : LTx W x2 ((cs.drop 2).take 1) := by rw [← k2]; exact a2
    obtain ⟨x3, a3, b3⟩ := (open_i64 Try.underlying3) H enc W n _ y3 (hf 3 _ rfl)
    have k3 : Try.prog.cellsOf (3 : TypeId) = 1 := by kernel_rfl
    have c3 : LI64 W x3 ((cs.drop 3).take 1) := by rw [← k3]; exact a3
    obtain ⟨x4, a4, b4⟩ := (open_ls Try.underlying33 (by kernel_rfl) (by omega) open_tx LTx.r) H enc W n _ y4 (hf 4 _ rfl)
    have k4 : Try.prog.cellsOf (33 : TypeId) = 1 := by kernel_rfl
    have c4 : (ALs RText 1) W x4 ((cs.drop 4).take 1) := by rw [← k4]; exact a4
    obtain ⟨x5, a5, b5⟩ := open_Place H enc W n _ y5 (hf 5 _ rfl)
    have k5 : Try.prog.cellsOf (35 : TypeId) = 2 := by kernel_rfl
    have c5 : APlace W x5 ((cs.drop 5).take 2) := by rw [← k5]; exact a5
    obtain ⟨x6, a6, b6⟩ := (open_i64 Try.underlying2) H enc W n _ y6 (hf 6 _ rfl)
    have k6 : Try.prog.cellsOf (2 : TypeId) = 1 := by kernel_rfl
    have c6 : LI64 W x6 ((cs.drop 7).take 1) := by rw [← k6]; exact a6
    obtain ⟨x7, a7, b7⟩ := (open_i64 Try.underlying2) H enc W n _ y7 (hf 7 _ rfl)
    have k7 : Try.prog.cellsOf (2 : TypeId) = 1 := by kernel_rfl
    have c7 : LI64 W x7 ((cs.drop 8).take 1) := by rw [← k7]; exact a7
    obtain ⟨x8, a8, b8⟩ := (open_i64 Try.underlying3) H enc W n _ y8 (hf 8 _ rfl)
    have k8 : Try.prog.cellsOf (3 : TypeId) = 1 := by kernel_rfl
    have c8 : LI64 W x8 ((cs.drop 9).take 1) := by rw [← k8]; exact a8
    obtain ⟨x9, a9, b9⟩ := (open_i64 Try.underlying3) H enc W n _ y9 (hf 9 _ rfl)
    have k9 : Try.prog.cellsOf (3 : TypeId) = 1 := by kernel_rfl
    have c9 : LI64 W x9 ((cs.drop 10).take 1) := by rw [← k9]; exact a9
    refine ⟨⟨x0, x1, x2, x3, x4, x5, x6, x7, x8, x9⟩, (LPr.cut (q := (x0, (x1, (x2, (x3, (x4, (x5, (x6, (x7, (x8, x9)))))))))) (cs := cs) (k := 0) (s := 1) c0 (LPr.cut (k := 1) (s := 1) c1 (LPr.cut (k := 2) (s := 1) c2 (LPr.cut (k := 3) (s := 1) c3 (LPr.cut (k := 4) (s := 1) c4 (LPr.cut (k := 5) (s := 2) c5 (LPr.cut (k := 7) (s := 1) c6 (LPr.cut (k := 8) (s := 1) c7 (LPr.cut (k := 9) (s := 1) c8 (Lay.last (k := 10) (s := 1) c9 (by omega))))))))))), ?_⟩
    have e : Cod.meta'.put ⟨x0, x1, x2, x3, x4, x5, x6, x7, x8, x9⟩ = Cod.u8.put x0 ++ (Cod.data.put x1 ++ (Cod.data.put x2 ++ (Cod.i64.put x3 ++ ((Cod.list Cod.data).put x4 ++ (Cod.place.put x5 ++ (Cod.i64.put x6 ++ (Cod.i64.put x7 ++ (Cod.i64.put x8 ++ (Cod.i64.put x9))))))))) := rfl
    rw [e]
    simp only [List.length_append, List.map_cons, List.map_nil, Rows.uptoBulk, Rows.uptoBulkAll]
    omega

def AAnswer : Lay Cod.Answer := LIs (LPr LI64 (LPr LI64 (LPr LI64 (LPr LI64 (LPr LU8 (ALs RPlace 2)))))) (fun x => (x.err, x.pid, x.epoch, x.n, x.phase, x.places))
theorem AAnswer.a : Ak AAnswer := ((Ak.pr LI64.a (Ak.pr LI64.a (Ak.pr LI64.a (Ak.pr LI64.a (Ak.pr LU8.a (ALs.a rPlace))))))).is _

theorem open_Answer : Opn (68 : TypeId) AAnswer Cod.answer := by
  intro H enc W fuel cs y h
  obtain ⟨xs, n, rfl, rfl, hl, hlen, hf⟩ := DataW.trod_struct Try.underlying68 h
  have hl2 : cs.length = 6 := hl.trans (by kernel_rfl)
  match xs, hlen with
  | [y0, y1, y2, y3, y4, y5], _ =>
    obtain ⟨x0, a0, b0⟩ := (open_i64 Try.underlying29) H enc W n _ y0 (hf 0 _ rfl)
    have k0 : Try.prog.cellsOf (29 : TypeId) = 1 := by kernel_rfl
    have c0 : LI64 W x0 ((cs.drop 0).take 1) := by rw [← k0]; exact a0
    obtain ⟨x1, a1, b1⟩ := (open_i64 Try.underlying2) H enc W n _ y1 (hf 1 _ rfl)
    have k1 : Try.prog.cellsOf (2 : TypeId) = 1 := by kernel_rfl
    have c1 : LI64 W x1 ((cs.drop 1).take 1) := by rw [← k1]; exact a1
    obtain ⟨x2, a2, b2⟩ := (open_i64 Try.underlying3) H enc W n _ y2 (hf 2 _ rfl)
    have k2 : Try.prog.cellsOf (3 : TypeId) = 1 := by kernel_rfl
    have c2 : LI64 W x2 ((cs.drop 2).take 1) := by rw [← k2]; exact a2
    obtain ⟨x3, a3, b3⟩ := (open_i64 Try.underlying3) H enc W n _ y3 (hf 3 _ rfl)
    have k3 : Try.prog.cellsOf (3 : TypeId) = 1 := by kernel_rfl
    have c3 : LI64 W x3 ((cs.drop 3).take 1) := by rw [← k3]; exact a3
    obtain ⟨x4, a4, b4⟩ := (open_u8 Try.underlying65) H enc W n _ y4 (hf 4 _ rfl)
    have k4 : Try.prog.cellsOf (65 : TypeId) = 1 := by kernel_rfl
    have c4 : LU8 W x4 ((cs.drop 4).take 1) := by rw [← k4]; exact a4
    obtain ⟨x5, a5, b5⟩ := (open_ls Try.underlying66 (by kernel_rfl) (by omega) open_Place APlace.r) H enc W n _ y5 (hf 5 _ rfl)
    have k5 : Try.prog.cellsOf (66 : TypeId) = 1 := by kernel_rfl
    have c5 : (ALs RPlace 2) W x5 ((cs.drop 5).take 1) := by rw [← k5]; exact a5
    refine ⟨⟨x0, x1, x2, x3, x4, x5⟩, (LPr.cut (q := (x0, (x1, (x2, (x3, (x4, x5)))))) (cs := cs) (k := 0) (s := 1) c0 (LPr.cut (k := 1) (s := 1) c1 (LPr.cut (k := 2) (s := 1) c2 (LPr.cut (k := 3) (s := 1) c3 (LPr.cut (k := 4) (s := 1) c4 (Lay.last (k := 5) (s := 1) c5 (by omega))))))), ?_⟩
    have e : Cod.answer.put ⟨x0, x1, x2, x3, x4, x5⟩ = Cod.i64.put x0 ++ (Cod.i64.put x1 ++ (Cod.i64.put x2 ++ (Cod.i64.put x3 ++ (Cod.u8.put x4 ++ ((Cod.list Cod.place).put x5))))) := rfl
    rw [e]
    simp only [List.length_append, List.map_cons, List.map_nil, Rows.uptoBulk, Rows.uptoBulkAll]
    omega

def ARequest : Lay Cod.Request := LIs (LPr LU8 (LPr LI64 (LPr LI64 (LPr LTx (LPr LI64 (LPr ABatch (LPr LI64 (LPr LI64 (LPr LI64 AMetaC))))))))) (fun x => (x.kind, x.client, x.call, x.topic, x.part, x.batch, x.offset, x.most, x.bytes, x.meta'))
theorem ARequest.a : Ak ARequest := ((Ak.pr LU8.a (Ak.pr LI64.a (Ak.pr LI64.a (Ak.pr LTx.a (Ak.pr LI64.a (Ak.pr ABatch.a (Ak.pr LI64.a (Ak.pr LI64.a (Ak.pr LI64.a AMetaC.a)))))))))).is _

theorem open_Request : Opn (64 : TypeId) ARequest Cod.request := by
  intro H enc W fuel cs y h
  obtain ⟨xs, n, rfl, rfl, hl, hlen, hf⟩ := DataW.trod_struct Try.underlying64 h
  have hl2 : cs.length = 23 := hl.trans (by kernel_rfl)
  match xs, hlen with
  | [y0, y1, y2, y3, y4, y5, y6, y7, y8, y9], _ =>
    obtain ⟨x0, a0, b0⟩ := (open_u8 Try.underlying62) H enc W n _ y0 (hf 0 _ rfl)
    have k0 : Try.prog.cellsOf (62 : TypeId) = 1 := by kernel_rfl
    have c0 : LU8 W x0 ((cs.drop 0).take 1) := by rw [← k0]; exact a0
    obtain ⟨x1, a1, b1⟩ := (open_i64 Try.underlying3) H enc W n _ y1 (hf 1 _ rfl)
    have k1 : Try.prog.cellsOf (3 : TypeId) = 1 := by kernel_rfl
    have c1 : LI64 W x1 ((cs.drop 1).take 1) := by rw [← k1]; exact a1
    obtain ⟨x2, a2, b2⟩ := (open_i64 Try.underlying3) H enc W n _ y2 (hf 2 _ rfl)
    have k2 : Try.prog.cellsOf (3 : TypeId) = 1 := by kernel_rfl
    have c2 : LI64 W x2 ((cs.drop 2).take 1) := by rw [← k2]; exact a2
    obtain ⟨x3, a3, b3⟩ := open_tx H enc W n _ y3 (hf 3 _ rfl)
    have k3 : Try.prog.cellsOf (9 : TypeId) = 1 := by kernel_rfl
    have c3 : LTx W x3 ((cs.drop 3).take 1) := by rw [← k3]; exact a3
    obtain ⟨x4, a4, b4⟩ := (open_i64 Try.underlying3) H enc W n _ y4 (hf 4 _ rfl)
    have k4 : Try.prog.cellsOf (3 : TypeId) = 1 := by kernel_rfl
    have c4 : LI64 W x4 ((cs.drop 4).take 1) := by rw [← k4]; exact a4
    obtain ⟨x5, a5, b5⟩ := open_Batch H enc W n _ y5 (hf 5 _ rfl)
    have k5 : Try.prog.cellsOf (26 : TypeId) = 4 := by kernel_rfl
    have c5 : ABatch W x5 ((cs.drop 5).take 4) := by rw [← k5]; exact a5
    obtain ⟨x6, a6, b6⟩ := (open_i64 Try.underlying2) H enc W n _ y6 (hf 6 _ rfl)
    have k6 : Try.prog.cellsOf (2 : TypeId) = 1 := by kernel_rfl
    have c6 : LI64 W x6 ((cs.drop 9).take 1) := by rw [← k6]; exact a6
    obtain ⟨x7, a7, b7⟩ := (open_i64 Try.underlying3) H enc W n _ y7 (hf 7 _ rfl)
    have k7 : Try.prog.cellsOf (3 : TypeId) = 1 := by kernel_rfl
    have c7 : LI64 W x7 ((cs.drop 10).take 1) := by rw [← k7]; exact a7
    obtain ⟨x8, a8, b8⟩ := (open_i64 Try.underlying3) H enc W n _ y8 (hf 8 _ rfl)
    have k8 : Try.prog.cellsOf (3 : TypeId) = 1 := by kernel_rfl
    have c8 : LI64 W x8 ((cs.drop 11).take 1) := by rw [← k8]; exact a8
    obtain ⟨x9, a9, b9⟩ := open_MetaC H enc W n _ y9 (hf 9 _ rfl)
    have k9 : Try.prog.cellsOf (37 : TypeId) = 11 := by kernel_rfl
    have c9 : AMetaC W x9 ((cs.drop 12).take 11) := by rw [← k9]; exact a9
    refine ⟨⟨x0, x1, x2, x3, x4, x5, x6, x7, x8, x9⟩, (LPr.cut (q := (x0, (x1, (x2, (x3, (x4, (x5, (x6, (x7, (x8, x9)))))))))) (cs := cs) (k := 0) (s := 1) c0 (LPr.cut (k := 1) (s := 1) c1 (LPr.cut (k := 2) (s := 1) c2 (LPr.cut (k := 3) (s := 1) c3 (LPr.cut (k := 4) (s := 1) c4 (LPr.cut (k := 5) (s := 4) c5 (LPr.cut (k := 9) (s := 1) c6 (LPr.cut (k := 10) (s := 1) c7 (LPr.cut (k := 11) (s := 1) c8 (Lay.last (k := 12) (s := 11) c9 (by omega))))))))))), ?_⟩
    have e : Cod.request.put ⟨x0, x1, x2, x3, x4, x5, x6, x7, x8, x9⟩ = Cod.u8.put x0 ++ (Cod.i64.put x1 ++ (Cod.i64.put x2 ++ (Cod.data.put x3 ++ (Cod.i64.put x4 ++ (Cod.batch.put x5 ++ (Cod.i64.put x6 ++ (Cod.i64.put x7 ++ (Cod.i64.put x8 ++ (Cod.meta'.put x9))))))))) := rfl
    rw [e]
    simp only [List.length_append, List.map_cons, List.map_nil, Rows.uptoBulk, Rows.uptoBulkAll]
    omega

def AResponse : Lay Cod.Response := LIs (LPr LU8 (LPr LI64 (LPr LI64 (LPr LI64 (LPr LI64 (LPr LI64 (LPr LI64 (LPr LI64 (LPr LBl (LPr (ALs RBytes 1) AAnswer)))))))))) (fun x => (x.kind, x.client, x.call, x.err, x.leader, x.offset, x.start, x.end', x.again, x.records, x.answer))
theorem AResponse.a : Ak AResponse := ((Ak.pr LU8.a (Ak.pr LI64.a (Ak.pr LI64.a (Ak.pr LI64.a (Ak.pr LI64.a (Ak.pr LI64.a (Ak.pr LI64.a (Ak.pr LI64.a (Ak.pr LBl.a (Ak.pr (ALs.a rBytes) AAnswer.a))))))))))).is _

theorem open_Response : Opn (70 : TypeId) AResponse Cod.response := by
  intro H enc W fuel cs y h
  obtain ⟨xs, n, rfl, rfl, hl, hlen, hf⟩ := DataW.trod_struct Try.underlying70 h
  have hl2 : cs.length = 16 := hl.trans (by kernel_rfl)
  match xs, hlen with
  | [y0, y1, y2, y3, y4, y5, y6, y7, y8, y9, y10], _ =>
    obtain ⟨x0, a0, b0⟩ := (open_u8 Try.underlying62) H enc W n _ y0 (hf 0 _ rfl)
    have k0 : Try.prog.cellsOf (62 : TypeId) = 1 := by kernel_rfl
    have c0 : LU8 W x0 ((cs.drop 0).take 1) := by rw [← k0]; exact a0
    obtain ⟨x1, a1, b1⟩ := (open_i64 Try.underlying3) H enc W n _ y1 (hf 1 _ rfl)
    have k1 : Try.prog.cellsOf (3 : TypeId) = 1 := by kernel_rfl
    have c1 : LI64 W x1 ((cs.drop 1).take 1) := by rw [← k1]; exact a1
    obtain ⟨x2, a2, b2⟩ := (open_i64 Try.underlying3) H enc W n _ y2 (hf 2 _ rfl)
    have k2 : Try.prog.cellsOf (3 : TypeId) = 1 := by kernel_rfl
    have c2 : LI64 W x2 ((cs.drop 2).take 1) := by rw [← k2]; exact a2
    obtain ⟨x3, a3, b3⟩ := (open_i64 Try.underlying29) H enc W n _ y3 (hf 3 _ rfl)
    have k3 : Try.prog.cellsOf (29 : TypeId) = 1 := by kernel_rfl
    have c3 : LI64 W x3 ((cs.drop 3).take 1) := by rw [← k3]; exact a3
    obtain ⟨x4, a4, b4⟩ := (open_i64 Try.underlying3) H enc W n _ y4 (hf 4 _ rfl)
    have k4 : Try.prog.cellsOf (3 : TypeId) = 1 := by kernel_rfl
    have c4 : LI64 W x4 ((cs.drop 4).take 1) := by rw [← k4]; exact a4
    obtain ⟨x5, a5, b5⟩ := (open_i64 Try.underlying2) H enc W n _ y5 (hf 5 _ rfl)
    have k5 : Try.prog.cellsOf (2 : TypeId) = 1 := by kernel_rfl
    have c5 : LI64 W x5 ((cs.drop 5).take 1) := by rw [← k5]; exact a5
    obtain ⟨x6, a6, b6⟩ := (open_i64 Try.underlying2) H enc W n _ y6 (hf 6 _ rfl)
    have k6 : Try.prog.cellsOf (2 : TypeId) = 1 := by kernel_rfl
    have c6 : LI64 W x6 ((cs.drop 6).take 1) := by rw [← k6]; exact a6
    obtain ⟨x7, a7, b7⟩ := (open_i64 Try.underlying2) H enc W n _ y7 (hf 7 _ rfl)
    have k7 : Try.prog.cellsOf (2 : TypeId) = 1 := by kernel_rfl
    have c7 : LI64 W x7 ((cs.drop 7).take 1) := by rw [← k7]; exact a7
    obtain ⟨x8, a8, b8⟩ := open_bl H enc W n _ y8 (hf 8 _ rfl)
    have k8 : Try.prog.cellsOf (4 : TypeId) = 1 := by kernel_rfl
    have c8 : LBl W x8 ((cs.drop 8).take 1) := by rw [← k8]; exact a8
    obtain ⟨x9, a9, b9⟩ := (open_ls Try.underlying23 (by kernel_rfl) (by omega) open_by ABy.r) H enc W n _ y9 (hf 9 _ rfl)
    have k9 : Try.prog.cellsOf (23 : TypeId) = 1 := by kernel_rfl
    have c9 : (ALs RBytes 1) W x9 ((cs.drop 9).take 1) := by rw [← k9]; exact a9
    obtain ⟨x10, a10, b10⟩ := open_Answer H enc W n _ y10 (hf 10 _ rfl)
    have k10 : Try.prog.cellsOf (68 : TypeId) = 6 := by kernel_rfl
    have c10 : AAnswer W x10 ((cs.drop 10).take 6) := by rw [← k10]; exact a10
    refine ⟨⟨x0, x1, x2, x3, x4, x5, x6, x7, x8, x9, x10⟩, (LPr.cut (q := (x0, (x1, (x2, (x3, (x4, (x5, (x6, (x7, (x8, (x9, x10))))))))))) (cs := cs) (k := 0) (s := 1) c0 (LPr.cut (k := 1) (s := 1) c1 (LPr.cut (k := 2) (s := 1) c2 (LPr.cut (k := 3) (s := 1) c3 (LPr.cut (k := 4) (s := 1) c4 (LPr.cut (k := 5) (s := 1) c5 (LPr.cut (k := 6) (s := 1) c6 (LPr.cut (k := 7) (s := 1) c7 (LPr.cut (k := 8) (s := 1) c8 (LPr.cut (k := 9) (s := 1) c9 (Lay.last (k := 10) (s := 6) c10 (by omega)))))))))))), ?_⟩
    have e : Cod.response.put ⟨x0, x1, x2, x3, x4, x5, x6, x7, x8, x9, x10⟩ = Cod.u8.put x0 ++ (Cod.i64.put x1 ++ (Cod.i64.put x2 ++ (Cod.i64.put x3 ++ (Cod.i64.put x4 ++ (Cod.i64.put x5 ++ (Cod.i64.put x6 ++ (Cod.i64.put x7 ++ (Cod.bool.put x8 ++ ((Cod.list Cod.data).put x9 ++ (Cod.answer.put x10)))))))))) := rfl
    rw [e]
    simp only [List.length_append, List.map_cons, List.map_nil, Rows.uptoBulk, Rows.uptoBulkAll]
    omega

def ARaft : Lay Cod.Raft := LIs (LPr LTx (LPr LU8 (LPr LI64 (LPr LI64 (LPr LI64 (LPr LI64 (LPr LI64 (LPr LI64 (LPr LI64 (LPr LBl (LPr (ALs REntry 2) ABy))))))))))) (fun x => (x.group, x.kind, x.from', x.to, x.term, x.index, x.logTerm, x.commit, x.round, x.ok, x.entries, x.snap))
theorem ARaft.a : Ak ARaft := ((Ak.pr LTx.a (Ak.pr LU8.a (Ak.pr LI64.a (Ak.pr LI64.a (Ak.pr LI64.a (Ak.pr LI64.a (Ak.pr LI64.a (Ak.pr LI64.a (Ak.pr LI64.a (Ak.pr LBl.a (Ak.pr (ALs.a rEntry) ABy.a)))))))))))).is _

theorem open_Raft : Opn (45 : TypeId) ARaft Cod.raft := by
  intro H enc W fuel cs y h
  obtain ⟨xs, n, rfl, rfl, hl, hlen, hf⟩ := DataW.trod_struct Try.underlying45 h
  have hl2 : cs.length = 12 := hl.trans (by kernel_rfl)
  match xs, hlen with
  | [y0, y1, y2, y3, y4, y5, y6, y7, y8, y9, y10, y11], _ =>
    obtain ⟨x0, a0, b0⟩ := open_tx H enc W n _ y0 (hf 0 _ rfl)
    have k0 : Try.prog.cellsOf (9 : TypeId) = 1 := by kernel_rfl
    have c0 : LTx W x0 ((cs.drop 0).take 1) := by rw [← k0]; exact a0
    obtain ⟨x1, a1, b1⟩ := (open_u8 Try.underlying43) H enc W n _ y1 (hf 1 _ rfl)
    have k1 : Try.prog.cellsOf (43 : TypeId) = 1 := by kernel_rfl
    have c1 : LU8 W x1 ((cs.drop 1).take 1) := by rw [← k1]; exact a1
    obtain ⟨x2, a2, b2⟩ := (open_i64 Try.underlying3) H enc W n _ y2 (hf 2 _ rfl)
    have k2 : Try.prog.cellsOf (3 : TypeId) = 1 := by kernel_rfl
    have c2 : LI64 W x2 ((cs.drop 2).take 1) := by rw [← k2]; exact a2
    obtain ⟨x3, a3, b3⟩ := (open_i64 Try.underlying3) H enc W n _ y3 (hf 3 _ rfl)
    have k3 : Try.prog.cellsOf (3 : TypeId) = 1 := by kernel_rfl
    have c3 : LI64 W x3 ((cs.drop 3).take 1) := by rw [← k3]; exact a3
    obtain ⟨x4, a4, b4⟩ := (open_i64 Try.underlying3) H enc W n _ y4 (hf 4 _ rfl)
    have k4 : Try.prog.cellsOf (3 : TypeId) = 1 := by kernel_rfl
    have c4 : LI64 W x4 ((cs.drop 4).take 1) := by rw [← k4]; exact a4
    obtain ⟨x5, a5, b5⟩ := (open_i64 Try.underlying3) H enc W n _ y5 (hf 5 _ rfl)
    have k5 : Try.prog.cellsOf (3 : TypeId) = 1 := by kernel_rfl
    have c5 : LI64 W x5 ((cs.drop 5).take 1) := by rw [← k5]; exact a5
    obtain ⟨x6, a6, b6⟩ := (open_i64 Try.underlying3) H enc W n _ y6 (hf 6 _ rfl)
    have k6 : Try.prog.cellsOf (3 : TypeId) = 1 := by kernel_rfl
    have c6 : LI64 W x6 ((cs.drop 6).take 1) := by rw [← k6]; exact a6
    obtain ⟨x7, a7, b7⟩ := (open_i64 Try.underlying3) H enc W n _ y7 (hf 7 _ rfl)
    have k7 : Try.prog.cellsOf (3 : TypeId) = 1 := by kernel_rfl
    have c7 : LI64 W x7 ((cs.drop 7).take 1) := by rw [← k7]; exact a7
    obtain ⟨x8, a8, b8⟩ := (open_i64 Try.underlying3) H enc W n _ y8 (hf 8 _ rfl)
    have k8 : Try.prog.cellsOf (3 : TypeId) = 1 := by kernel_rfl
    have c8 : LI64 W x8 ((cs.drop 8).take 1) := by rw [← k8]; exact a8
    obtain ⟨x9, a9, b9⟩ := open_bl H enc W n _ y9 (hf 9 _ rfl)
    have k9 : Try.prog.cellsOf (4 : TypeId) = 1 := by kernel_rfl
    have c9 : LBl W x9 ((cs.drop 9).take 1) := by rw [← k9]; exact a9
    obtain ⟨x10, a10, b10⟩ := (open_ls Try.underlying42 (by kernel_rfl) (by omega) open_Entry AEntry.r) H enc W n _ y10 (hf 10 _ rfl)
    have k10 : Try.prog.cellsOf (42 : TypeId) = 1 := by kernel_rfl
    have c10 : (ALs REntry 2) W x10 ((cs.drop 10).take 1) := by rw [← k10]; exact a10
    obtain ⟨x11, a11, b11⟩ := open_by H enc W n _ y11 (hf 11 _ rfl)
    have k11 : Try.prog.cellsOf (22 : TypeId) = 1 := by kernel_rfl
    have c11 : ABy W x11 ((cs.drop 11).take 1) := by rw [← k11]; exact a11
    refine ⟨⟨x0, x1, x2, x3, x4, x5, x6, x7, x8, x9, x10, x11⟩, (LPr.cut (q := (x0, (x1, (x2, (x3, (x4, (x5, (x6, (x7, (x8, (x9, (x10, x11)))))))))))) (cs := cs) (k := 0) (s := 1) c0 (LPr.cut (k := 1) (s := 1) c1 (LPr.cut (k := 2) (s := 1) c2 (LPr.cut (k := 3) (s := 1) c3 (LPr.cut (k := 4) (s := 1) c4 (LPr.cut (k := 5) (s := 1) c5 (LPr.cut (k := 6) (s := 1) c6 (LPr.cut (k := 7) (s := 1) c7 (LPr.cut (k := 8) (s := 1) c8 (LPr.cut (k := 9) (s := 1) c9 (LPr.cut (k := 10) (s := 1) c10 (Lay.last (k := 11) (s := 1) c11 (by omega))))))))))))), ?_⟩
    have e : Cod.raft.put ⟨x0, x1, x2, x3, x4, x5, x6, x7, x8, x9, x10, x11⟩ = Cod.data.put x0 ++ (Cod.u8.put x1 ++ (Cod.i64.put x2 ++ (Cod.i64.put x3 ++ (Cod.i64.put x4 ++ (Cod.i64.put x5 ++ (Cod.i64.put x6 ++ (Cod.i64.put x7 ++ (Cod.i64.put x8 ++ (Cod.bool.put x9 ++ ((Cod.list Cod.entry).put x10 ++ (Cod.data.put x11))))))))))) := rfl
    rw [e]
    simp only [List.length_append, List.map_cons, List.map_nil, Rows.uptoBulk, Rows.uptoBulkAll]
    omega

end Go.Proofs.Ytnimfkcnkkjlkaa

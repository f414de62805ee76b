/-
  Texts put into one.
-/
import Derived.Test.YtnimfkcnkkjlkaaGreatPk088d69a7
import Derived.Test.YtnimfkcnkkjlkaaGreatPk8a549ef9
import Derived.Test.YtnimfkcnkkjlkaaGreatPkee673eda

/-
  The document's reader in memory: what is left of the bytes, and whether they went wrong; what a reading promises.
-/
namespace Go.Proofs.YtnimfkcnkkjlkaaGreat
open Go.RowKit
set_option maxRecDepth 100000
set_option linter.unusedVariables false

/-- The document's reader: l is left; bad says whether it went wrong. -/
structure Tq (Wb : World) (R : Nat) (l : List Int) (bad : Bool) (w : World) : Prop where
  low : Below Wb.heap.size Wb w
  ge : Wb.heap.size ≤ R
  short : l.length ≤ 70000
  is : ∃ a m c, w.heap[R]? = some (.cells #[.slice a m c, .bool bad] (157 : TypeId) (0, 0)) ∧ Bs Wb a m c l

/-- What was read so far, by a way: q, which lies as G says; l was left, l' is. If the way takes something off, it is q, and nothing went wrong. -/
structure Aq {α : Type} (c : Cod.Way α) (G : World → α → Prop) (ts : List TypeId) (C : Nat) (Wb : World) (R : Nat) (l : List Int) (bad : Bool) (l' : List Int) (bad' : Bool) (w0 w : World) : Prop where
  tq : Tq Wb R l' bad' w
  kt : Kt (157 : TypeId) w0 w
  le : l'.length ≤ l.length
  mono : bad = true → bad' = true
  ex : ∃ q, G w q ∧ (c.put q).length + 2 * l'.length ≤ 2 * l.length + (if bad' = true then C else 0) ∧ (bad = false → ∀ a t, c.get l = some (a, t) → q = a ∧ l' = t ∧ bad' = false)
  keep : ∀ (t : TypeId) (V V' : World) (q : α), t ∉ ts → Kt t V V' → G V q → G V' q

/-- A reading's promise: the cells that it gives. -/
def Rq {α : Type} (c : Cod.Way α) (L : Lay α) (ts : List TypeId) (C : Nat) (cs : List Value) (Wb : World) (R : Nat) (l : List Int) (bad : Bool) (w w' : World) : Prop :=
  ∃ l' bad', Aq c (fun V q => L V q cs) ts C Wb R l bad l' bad' w w'

section
variable {Wb w w' w0 w1 w2 : World} {R : Nat} {l l' l1 l2 : List Int} {bad bad' b1 b2 : Bool}

theorem Tq.lt (h : Tq Wb R l bad w) : R < w.heap.size := by
  obtain ⟨a, m, c, h1, _⟩ := h.is
  exact hp_lt h1

theorem Tq.byte (h : Tq Wb R l bad w) : ∀ z ∈ l, 0 ≤ z ∧ z ≤ 255 := by
  obtain ⟨a, m, c, _, h1⟩ := h.is
  exact h1.byte

theorem Tq.keep (h : Tq Wb R l bad w) {n : Nat} (hb : Below n w w') (hn : R < n) : Tq Wb R l bad w' := by
  obtain ⟨a, m, c, h1, h2⟩ := h.is
  have hg := h.ge
  exact ⟨h.low.trans (hb.mono (by omega)), h.ge, h.short, a, m, c, (hb.block R hn).trans h1, h2⟩

theorem Tq.mark (h : Tq Wb R l bad w) : Tq Wb R l true (w.setCell ⟨R, 1, none⟩ (.bool true)) := by
  obtain ⟨a, m, c, h1, h2⟩ := h.is
  refine ⟨h.low.setCell h.ge _, h.ge, h.short, a, m, c, ?_, h2⟩
  have := heap_setCell_same w R 1 _ (157 : TypeId) (.bool true) h1
  rw [this]
  rfl

theorem Tq.move (h : Tq Wb R l bad w) {a' : Option Addr} {m' c' : Nat} (hB : Bs Wb a' m' c' l') (hl : l'.length ≤ l.length) : Tq Wb R l' bad (w.setCell ⟨R, 0, none⟩ (.slice a' m' c')) := by
  obtain ⟨a, m, c, h1, h2⟩ := h.is
  refine ⟨h.low.setCell h.ge _, h.ge, Nat.le_trans hl h.short, a', m', c', ?_, hB⟩
  have := heap_setCell_same w R 0 _ (157 : TypeId) (.slice a' m' c') h1
  rw [this]
  rfl

theorem Tq.kt (h : Tq Wb R l bad w) (i : Nat) (x : Value) : Kt (157 : TypeId) w (w.setCell ⟨R, i, none⟩ x) := by
  obtain ⟨a, m, c, h1, h2⟩ := h.is
  exact Kt.set h1 x

theorem Aq.step {α β : Type} {c : Cod.Way α} {d : Cod.Way β} {G : World → α → Prop} {L : Lay β} {cs : List Value} {ts us : List TypeId} {C D : Nat} (h : Aq c G ts C Wb R l bad l1 b1 w0 w1) (k : Aq d (fun V q => L V q cs) us D Wb R l1 b1 l2 b2 w1 w2) (ht : (157 : TypeId) ∉ ts) :
    Aq (Cod.pair c d) (fun V q => G V q.1 ∧ L V q.2 cs) (ts ++ us) (C + D) Wb R l bad l2 b2 w0 w2 := by
  obtain ⟨q1, g1, e1, x1⟩ := h.ex
  obtain ⟨q2, g2, e2, x2⟩ := k.ex
  refine ⟨k.tq, h.kt.trans k.kt, Nat.le_trans k.le h.le, fun hb => k.mono (h.mono hb), ⟨(q1, q2), ⟨h.keep _ w1 w2 q1 ht k.kt g1, g2⟩, ?_, fun hb a t hg => ?_⟩, fun t V V' q hq hk hG => ?_⟩
  · have e : (Cod.pair c d).put (q1, q2) = c.put q1 ++ d.put q2 := rfl
    rw [e, List.length_append]
    cases b2 with
    | true =>
      simp only [if_true] at e2 ⊢
      split at e1 <;> omega
    | false =>
      have hb1 : b1 = false := by
        cases b1 with
        | true => exact absurd (k.mono rfl) (by simp)
        | false => rfl
      subst hb1
      simp only [Bool.false_eq_true, if_false] at e1 e2 ⊢
      omega
  · simp only [Cod.pair] at hg
    cases e3 : c.get l with
    | none => simp [e3] at hg
    | some r =>
      obtain ⟨a1, t1⟩ := r
      simp only [e3] at hg
      cases e4 : d.get t1 with
      | none => simp [e4] at hg
      | some r2 =>
        obtain ⟨a2, t2⟩ := r2
        simp only [e4, Option.some.injEq, Prod.mk.injEq] at hg
        obtain ⟨rfl, rfl⟩ := hg
        obtain ⟨rfl, rfl, rfl⟩ := x1 hb a1 t1 e3
        obtain ⟨rfl, rfl, rfl⟩ := x2 rfl a2 t2 e4
        exact ⟨rfl, rfl, rfl⟩
  · rw [List.mem_append, not_or] at hq
    exact ⟨h.keep t V V' q.1 hq.1 hk hG.1, k.keep t V V' q.2 hq.2 hk hG.2⟩

/-- What is laid or stored beside the reader, in a block of another type. -/
theorem Aq.beside {α : Type} {c : Cod.Way α} {G : World → α → Prop} {ts : List TypeId} {C : Nat} (h : Aq c G ts C Wb R l bad l' bad' w0 w) {S : TypeId} (hS : S ∉ ts) (hk : Kt S w w') (hb : Below w0.heap.size w w') (hR : R < w0.heap.size) : Aq c G ts C Wb R l bad l' bad' w0 w' := by
  obtain ⟨q, g, e, x⟩ := h.ex
  exact ⟨h.tq.keep hb hR, ⟨Nat.le_trans h.kt.size hb.size, fun k c u f hk' hu => (hb.block k (hp_lt hk')).trans (h.kt.block k c u f hk' hu)⟩, h.le, h.mono, ⟨q, h.keep S w w' q hS hk g, e, x⟩, h.keep⟩

/-- The first value, behind something that was laid. -/
theorem Aq.first {α : Type} {c : Cod.Way α} {G : World → α → Prop} {ts : List TypeId} {C : Nat} (h : Aq c G ts C Wb R l bad l' bad' w1 w) (hb : Below w0.heap.size w0 w1) : Aq c G ts C Wb R l bad l' bad' w0 w :=
  ⟨h.tq, (Kt.of_below hb).trans h.kt, h.le, h.mono, h.ex, h.keep⟩

theorem Aq.iso {α β : Type} {c : Cod.Way α} {G : World → α → Prop} {ts : List TypeId} {C : Nat} {f : α → β} {g : β → α} {L : Lay β} {cs : List Value} {us : List TypeId} (h : Aq c G ts C Wb R l bad l' bad' w0 w) (hgf : ∀ a, g (f a) = a) (hG : ∀ q, G w q → L w (f q) cs) (hL : Lk us L) : Aq (Cod.iso c f g) (fun V q => L V q cs) us C Wb R l bad l' bad' w0 w := by
  obtain ⟨q, g1, e, x⟩ := h.ex
  refine ⟨h.tq, h.kt, h.le, h.mono, ⟨f q, hG q g1, ?_, fun hb a t hg => ?_⟩, fun t V V' q ht hk hl => hL t V V' q cs ht hk hl⟩
  · have e2 : (Cod.iso c f g).put (f q) = c.put (g (f q)) := rfl
    rw [e2, hgf]
    exact e
  · simp only [Cod.iso, Cod.via] at hg
    cases e3 : c.get l with
    | none => simp [e3] at hg
    | some r =>
      obtain ⟨a1, t1⟩ := r
      simp only [e3, Option.some.injEq, Prod.mk.injEq] at hg
      obtain ⟨rfl, rfl⟩ := hg
      obtain ⟨rfl, rfl, rfl⟩ := x hb a1 t1 e3
      exact ⟨rfl, rfl, rfl⟩

/-- A row's cell, and that it may be written. -/
theorem row_at {G : Nat} {c : Array Value} {u : TypeId} (hG : w.heap[G]? = some (.cells c u (0, 0))) (i : Nat) (x : Value) (hx : c[i]? = some x) : w.cell? ⟨G, i, none⟩ = some x ∧ w.frozen? ⟨G, i, none⟩ = false :=
  ⟨by rw [cell_of_row w G i c u (0, 0) hG]; exact hx, frozen_of_row w G i c u hG⟩

theorem gv_zero (l : List Int) : gv l 0 = getv l := by
  unfold gv
  cases l with
  | nil => rfl
  | cons z l =>
    rw [if_neg (by simp only [List.length_cons]; omega)]
    rfl

theorem rget0 {a : Option Addr} {m c : Nat} {W : World} (hB : Bs W a m c l) :
    Calls Tryz.prog 153 #[.slice a m c, .int .i64 0] W fun e w' => (match getv l with
      | some v => e = .returned (.tuple #[.int .u64 (v : Int), .int .i64 ((vb v).length : Int), .bool true])
      | none => e = .returned (.tuple #[.int .u64 0, .int .i64 0, .bool false])) ∧ Below W.heap.size W w' := by
  have C := refGet_val a m c l 0 W hB
  unfold gN gE gB at C
  rw [gv_zero] at C
  refine C.mono ?_
  rintro e w' ⟨rfl, hb⟩
  refine ⟨?_, hb⟩
  cases getv l with
  | none => rfl
  | some v => simp

theorem rgetInt0 {a : Option Addr} {m c : Nat} {W : World} (hB : Bs W a m c l) :
    Calls Tryz.prog 132 #[.slice a m c, .int .i64 0] W fun e w' => (match getv l with
      | some v => e = .returned (.tuple #[.int .i64 (unfo v), .int .i64 ((vb v).length : Int), .bool true])
      | none => e = .returned (.tuple #[.int .i64 0, .int .i64 0, .bool false])) ∧ Below W.heap.size W w' := by
  have C := refGetInt_val a m c l 0 W hB
  unfold gN gE gB at C
  rw [gv_zero] at C
  refine C.mono ?_
  rintro e w' ⟨rfl, hb⟩
  refine ⟨?_, hb⟩
  cases getv l with
  | none => rfl
  | some v => simp

theorem rget_yes {a : Option Addr} {m c v : Nat} {W : World} (hB : Bs W a m c l) (hg : getv l = some v) : Calls Tryz.prog 153 #[.slice a m c, .int .i64 0] W fun e w' => e = .returned (.tuple #[.int .u64 (v : Int), .int .i64 ((vb v).length : Int), .bool true]) ∧ Below W.heap.size W w' := by
  have := rget0 hB
  rw [hg] at this
  exact this
theorem rget_no {a : Option Addr} {m c : Nat} {W : World} (hB : Bs W a m c l) (hg : getv l = none) : Calls Tryz.prog 153 #[.slice a m c, .int .i64 0] W fun e w' => e = .returned (.tuple #[.int .u64 0, .int .i64 0, .bool false]) ∧ Below W.heap.size W w' := by
  have := rget0 hB
  rw [hg] at this
  exact this
theorem rgetInt_yes {a : Option Addr} {m c v : Nat} {W : World} (hB : Bs W a m c l) (hg : getv l = some v) : Calls Tryz.prog 132 #[.slice a m c, .int .i64 0] W fun e w' => e = .returned (.tuple #[.int .i64 (unfo v), .int .i64 ((vb v).length : Int), .bool true]) ∧ Below W.heap.size W w' := by
  have := rgetInt0 hB
  rw [hg] at this
  exact this
theorem rgetInt_no {a : Option Addr} {m c : Nat} {W : World} (hB : Bs W a m c l) (hg : getv l = none) : Calls Tryz.prog 132 #[.slice a m c, .int .i64 0] W fun e w' => e = .returned (.tuple #[.int .i64 0, .int .i64 0, .bool false]) ∧ Below W.heap.size W w' := by
  have := rgetInt0 hB
  rw [hg] at this
  exact this

theorem unfo_i64q {v : Nat} (h : v < 18446744073709551616) : I64 (unfo v) := by
  unfold unfo I64
  split <;> constructor <;> omega

/-- A tail, as a slice: behind all of it the address stands still. -/
theorem Bs.tail {W : World} {b off m c k : Nat} (hB : Bs W (some ⟨b, off, none⟩) m c l) (hk : k ≤ m) : (k < c → Bs W (some ⟨b, off + k, none⟩) (m - k) (c - k) (l.drop k)) ∧ (k = c → Bs W (some ⟨b, off, none⟩) 0 0 (l.drop k)) := by
  have hl := hB.len
  have hle := hB.le
  refine ⟨fun _ => ⟨by rw [List.length_drop, hl], by omega, by have := hB.reach; omega, drop_byte hB.byte _, fun h => (by cases h), fun h0 => ?_⟩, fun hc => ?_⟩
  · obtain ⟨b', off', ha, hc⟩ := hB.lies (by omega)
    simp only [Option.some.injEq, Addr.mk.injEq, and_true] at ha
    obtain ⟨rfl, rfl⟩ := ha
    refine ⟨b, off + k, rfl, fun i hi => ?_⟩
    rw [Nat.add_assoc, hc (k + i) (by omega)]
    simp [List.getD]
  · have e : l.drop k = [] := List.eq_nil_of_length_eq_zero (by rw [List.length_drop]; omega)
    rw [e]
    exact ⟨rfl, Nat.le_refl _, by omega, by simp, fun h => (by cases h), fun h => by omega⟩
end

end Go.Proofs.YtnimfkcnkkjlkaaGreat

/-
  The document's reader: numbers, sizes, bools, bytes, texts.
-/
namespace Go.Proofs.YtnimfkcnkkjlkaaGreat
open Go.RowKit
set_option maxRecDepth 100000
set_option linter.unusedVariables false

section
variable {Wb w w' w0 w1 w2 : World} {R : Nat} {l l' l1 l2 : List Int} {bad bad' b1 b2 : Bool}

theorem i64_get (l : List Int) : Cod.i64.get l = match getv l with | some v => (if -9223372036854775808 ≤ unfo v ∧ unfo v ≤ 9223372036854775807 then some (unfo v, l.drop (vb v).length) else none) | none => none := by
  simp only [Cod.i64, Cod.num, Cod.via, Cod.size]
  cases getv l with
  | none => rfl
  | some v =>
    simp only
    by_cases h : -9223372036854775808 ≤ unfo v ∧ unfo v ≤ 9223372036854775807 <;> simp [h]

theorem put_unfo (v : Nat) : Cod.i64.put (unfo v) = vb v := by
  have e : Cod.i64.put (unfo v) = vb (fo (unfo v)) := rfl
  rw [e, Cod.fo_unfo']

/-- A number. -/
def Pnq (Wb : World) (R : Nat) (l : List Int) (bad : Bool) (w : World) (e : Ending) (w' : World) : Prop :=
  ∃ n : Int, e = .returned (.int .i64 n) ∧ I64 n ∧ Rq Cod.i64 LI64 [] 1 [.int .i64 n] Wb R l bad w w'

set_option maxHeartbeats 1000000 in
theorem tnum_any (h : Tq Wb R l bad w) : Calls Tryz.prog 54 #[.pointer (some ⟨R, 0, none⟩)] w (Pnq Wb R l bad w) := by
  obtain ⟨a, m, c, h1, hB⟩ := h.is
  have hby := hB.byte
  have c0 := (row_at h1 0 (.slice a m c) rfl).1
  have HT := hide h
  have hml := hB.len
  have hmc := hB.le
  cases hg : getv l with
  | none =>
    have hi : Cod.i64.get l = none := by rw [i64_get, hg]
    have HI := hide hi
    have HC := hide (rgetInt_no (hB.keep h.low) hg)
    clear h hB h1 hg hi
    go_enter Tryz.func54, Tryz.ntmps54
    go_wp2_with fail
    refine HC.out.mono ?_
    rintro e w1 ⟨rfl, hb1⟩
    have hT1 := HT.out.keep hb1 HT.out.lt
    obtain ⟨a', m', c', g1, _⟩ := hT1.is
    have q1 := (row_at g1 1 (.bool bad) rfl).1
    have f1 := (row_at g1 1 _ rfl).2
    have HE : Hid (Pnq Wb R l bad w (.returned (.int .i64 0)) (w1.setCell ⟨R, 1, none⟩ (.bool true))) := hide ⟨0, rfl, ⟨by omega, by omega⟩, l, true, hT1.mark, (Kt.of_below hb1).trans (hT1.kt 1 _), Nat.le_refl _, fun _ => rfl, ⟨0, ⟨rfl, ⟨by omega, by omega⟩⟩, by
      have e : Cod.i64.put 0 = vb 0 := rfl
      rw [e, vb_0]
      simp only [if_true, List.length_singleton]
      omega, fun _ a t hat => by rw [HI.out] at hat; cases hat⟩, fun t V V' q ht hk hl => hl⟩
    clear hT1 g1 hb1
    go_wp2_with fail
    go_ret
    exact HE.out
  | some v =>
    obtain ⟨hv1, hv2⟩ := (getv_iff hby v).1 hg
    have hI := unfo_i64q hv1
    have hvl := hv2.length_le
    have hp := vb_pos v
    obtain ⟨bb, off, rfl, _⟩ := hB.lies (by omega)
    have HC := hide (rgetInt_yes (hB.keep h.low) hg)
    obtain ⟨t1, t2⟩ := hB.tail (k := (vb v).length) (by omega)
    have hgi : Cod.i64.get l = some (unfo v, l.drop (vb v).length) := by rw [i64_get, hg]; simp only; exact if_pos hI
    have HI := hide hgi
    have hpl : (Cod.i64.put (unfo v)).length = (vb v).length := by rw [put_unfo]
    have HP := hide hpl
    clear hpl
    have HII := hide hI
    generalize hk : (vb v).length = k at *
    clear hB hg hgi hk hv1 hv2 h1 h
    generalize unfo v = n at *
    have fin : ∀ (w1 : World) (a' : Option Addr) (m' c' : Nat), Below w.heap.size w w1 → Bs Wb a' m' c' (l.drop k) → Pnq Wb R l bad w (.returned (.int .i64 n)) (w1.setCell ⟨R, 0, none⟩ (.slice a' m' c')) := by
      intro w1 a' m' c' hb1 hB'
      have hT1 := HT.out.keep hb1 HT.out.lt
      refine ⟨n, rfl, HII.out, l.drop k, bad, hT1.move hB' (by rw [List.length_drop]; omega), (Kt.of_below hb1).trans (hT1.kt 0 _), by rw [List.length_drop]; omega, fun h => h, ⟨n, ⟨rfl, HII.out⟩, ?_, fun hb a t hat => ?_⟩, fun t V V' q ht hk hl => hl⟩
      · have hkl : (Cod.i64.put n).length = k := HP.out
        rw [hkl, List.length_drop]
        omega
      · rw [HI.out] at hat
        simp only [Option.some.injEq, Prod.mk.injEq] at hat
        exact ⟨hat.1, hat.2, hb⟩
    have FIN := hide fin
    clear fin
    rcases Nat.lt_or_ge k c with hkc | hkc
    · have hB' := t1 hkc
      clear t1 t2
      go_enter Tryz.func54, Tryz.ntmps54
      go_wp2_with fail
      refine HC.out.mono ?_
      rintro e w1 ⟨rfl, hb1⟩
      have HE := hide (FIN.out w1 _ _ _ hb1 hB')
      have hT1 := HT.out.keep hb1 HT.out.lt
      obtain ⟨a', m', c', g1, _⟩ := hT1.is
      have q0 := cell_keep c0 hb1
      have f0 := (row_at g1 0 _ rfl).2
      clear hT1 g1 hb1 hB'
      go_wp2_with fail
      go_ret
      exact HE.out
    · have hkc : k = c := by omega
      have hB' := t2 hkc
      clear t1 t2
      go_enter Tryz.func54, Tryz.ntmps54
      go_wp2_with fail
      refine HC.out.mono ?_
      rintro e w1 ⟨rfl, hb1⟩
      have HE := hide (FIN.out w1 _ _ _ hb1 hB')
      have hT1 := HT.out.keep hb1 HT.out.lt
      obtain ⟨a', m', c', g1, _⟩ := hT1.is
      have q0 := cell_keep c0 hb1
      have f0 := (row_at g1 0 _ rfl).2
      clear hT1 g1 hb1 hB'
      go_wp2_with fail
      go_ret
      exact HE.out
theorem size_get (l : List Int) : Cod.size.get l = match getv l with | some v => some (v, l.drop (vb v).length) | none => none := rfl

/-- A count, or a length. -/
def Psq (Wb : World) (R : Nat) (l : List Int) (bad : Bool) (w : World) (e : Ending) (w' : World) : Prop :=
  ∃ (n : Nat) (l' : List Int) (bad' : Bool), e = .returned (.int .i64 (n : Int)) ∧ Tq Wb R l' bad' w' ∧ Kt (157 : TypeId) w w' ∧ n ≤ l.length ∧
    ((n = 0 ∧ l' = l ∧ bad' = true ∧ ∀ v t, Cod.size.get l = some (v, t) → l.length < v) ∨ (bad' = bad ∧ Cod.size.get l = some (n, l')))

theorem Psq.no (h : Tq Wb R l bad w) {w1 : World} (hb1 : Below w.heap.size w w1) (hi : ∀ v t, Cod.size.get l = some (v, t) → l.length < v) : Psq Wb R l bad w (.returned (.int .i64 0)) (w1.setCell ⟨R, 1, none⟩ (.bool true)) := by
  have hT1 := h.keep hb1 h.lt
  exact ⟨0, l, true, rfl, hT1.mark, (Kt.of_below hb1).trans (hT1.kt 1 _), Nat.zero_le _, .inl ⟨rfl, rfl, rfl, hi⟩⟩

set_option maxHeartbeats 1000000 in
theorem tsize_any (h : Tq Wb R l bad w) : Calls Tryz.prog 82 #[.pointer (some ⟨R, 0, none⟩)] w (Psq Wb R l bad w) := by
  obtain ⟨a, m, c, h1, hB⟩ := h.is
  have hby := hB.byte
  have c0 := (row_at h1 0 (.slice a m c) rfl).1
  have HT := hide h
  have hml := hB.len
  have hmc := hB.le
  have hsh := h.short
  cases hg : getv l with
  | none =>
    have HI : Hid (∀ v t, Cod.size.get l = some (v, t) → l.length < v) := hide fun v t e => by rw [size_get, hg] at e; cases e
    have HC := hide (rget_no (hB.keep h.low) hg)
    clear h hB h1 hg
    go_enter Tryz.func82, Tryz.ntmps82
    go_wp2_with fail
    refine HC.out.mono ?_
    rintro e w1 ⟨rfl, hb1⟩
    have hT1 := HT.out.keep hb1 HT.out.lt
    obtain ⟨a', m', c', g1, _⟩ := hT1.is
    have q0 := cell_keep c0 hb1
    have q1 := (row_at g1 1 (.bool bad) rfl).1
    have f1 := (row_at g1 1 (.bool bad) rfl).2
    have HE := hide (Psq.no HT.out hb1 HI.out)
    clear hT1 g1 hb1
    go_wp2_with fail
    go_ret
    exact HE.out
  | some v =>
    obtain ⟨hv1, hv2⟩ := (getv_iff hby v).1 hg
    have hvl := hv2.length_le
    have hp := vb_pos v
    obtain ⟨bb, off, rfl, _⟩ := hB.lies (by omega)
    have HC := hide (rget_yes (hB.keep h.low) hg)
    obtain ⟨t1, t2⟩ := hB.tail (k := (vb v).length) (by omega)
    have hgi : Cod.size.get l = some (v, l.drop (vb v).length) := by rw [size_get, hg]
    have HI := hide hgi
    generalize hk : (vb v).length = k at *
    clear hB hg hgi hk hv2 h1 h
    by_cases hvm : m < v
    · have HN : Hid (∀ v' t, Cod.size.get l = some (v', t) → l.length < v') := hide fun v' t e => by
        rw [HI.out] at e
        simp only [Option.some.injEq, Prod.mk.injEq] at e
        omega
      have j1 : (m : Int) < (v : Int) := by omega
      go_enter Tryz.func82, Tryz.ntmps82
      go_wp2_with fail
      refine HC.out.mono ?_
      rintro e w1 ⟨rfl, hb1⟩
      have hT1 := HT.out.keep hb1 HT.out.lt
      obtain ⟨a', m', c', g1, _⟩ := hT1.is
      have q0 := cell_keep c0 hb1
      have q1 := (row_at g1 1 (.bool bad) rfl).1
      have f1 := (row_at g1 1 (.bool bad) rfl).2
      have HE := hide (Psq.no HT.out hb1 HN.out)
      clear hT1 g1 hb1
      go_wp2_with fail
      go_ret
      exact HE.out
    · have j1 : ¬ ((m : Int) < (v : Int)) := by omega
      have FIN : Hid (∀ (w1 : World) (a' : Option Addr) (m' c' : Nat), Below w.heap.size w w1 → Bs Wb a' m' c' (l.drop k) → Psq Wb R l bad w (.returned (.int .i64 (v : Int))) (w1.setCell ⟨R, 0, none⟩ (.slice a' m' c'))) := hide fun w1 a' m' c' hb1 hB' => by
        have hT1 := HT.out.keep hb1 HT.out.lt
        exact ⟨v, l.drop k, bad, rfl, hT1.move hB' (by rw [List.length_drop]; omega), (Kt.of_below hb1).trans (hT1.kt 0 _), by omega, .inr ⟨rfl, HI.out⟩⟩
      rcases Nat.lt_or_ge k c with hkc | hkc
      · have hB' := t1 hkc
        clear t1 t2
        go_enter Tryz.func82, Tryz.ntmps82
        go_wp2_with fail
        refine HC.out.mono ?_
        rintro e w1 ⟨rfl, hb1⟩
        have HE := hide (FIN.out w1 _ _ _ hb1 hB')
        have hT1 := HT.out.keep hb1 HT.out.lt
        obtain ⟨a', m', c', g1, _⟩ := hT1.is
        have q0 := cell_keep c0 hb1
        have f0 := (row_at g1 0 _ rfl).2
        clear hT1 g1 hb1 hB'
        go_wp2_with fail
        go_ret
        exact HE.out
      · have hkc : k = c := by omega
        have hB' := t2 hkc
        clear t1 t2
        go_enter Tryz.func82, Tryz.ntmps82
        go_wp2_with fail
        refine HC.out.mono ?_
        rintro e w1 ⟨rfl, hb1⟩
        have HE := hide (FIN.out w1 _ _ _ hb1 hB')
        have hT1 := HT.out.keep hb1 HT.out.lt
        obtain ⟨a', m', c', g1, _⟩ := hT1.is
        have q0 := cell_keep c0 hb1
        have f0 := (row_at g1 0 _ rfl).2
        clear hT1 g1 hb1 hB'
        go_wp2_with fail
        go_ret
        exact HE.out

/-- A bool. -/
def Pbq (Wb : World) (R : Nat) (l : List Int) (bad : Bool) (w : World) (e : Ending) (w' : World) : Prop :=
  ∃ x : Bool, e = .returned (.bool x) ∧ Rq Cod.bool LBl [] 1 [.bool x] Wb R l bad w w'

set_option maxHeartbeats 1000000 in
theorem tbool_any (h : Tq Wb R l bad w) : Calls Tryz.prog 73 #[.pointer (some ⟨R, 0, none⟩)] w (Pbq Wb R l bad w) := by
  obtain ⟨a, m, c, h1, hB⟩ := h.is
  have c0 := (row_at h1 0 (.slice a m c) rfl).1
  have c1 := (row_at h1 1 (.bool bad) rfl).1
  have f0 := (row_at h1 0 (.slice a m c) rfl).2
  have f1 := (row_at h1 1 (.bool bad) rfl).2
  have HT := hide h
  have hml := hB.len
  have hmc := hB.le
  cases l with
  | nil =>
    simp only [List.length_nil] at hml
    subst hml
    have HE : Hid (Pbq Wb R [] bad w (.returned (.bool false)) (w.setCell ⟨R, 1, none⟩ (.bool true))) := hide ⟨false, rfl, [], true, h.mark, h.kt 1 _, Nat.le_refl _, fun _ => rfl, ⟨false, rfl, by simp [Cod.bool], fun _ a t hat => by simp [Cod.bool] at hat⟩, fun t V V' q ht hk hl => hl⟩
    clear h hB h1
    go_enter Tryz.func73, Tryz.ntmps73
    go_wp2_with fail
    go_ret
    exact HE.out
  | cons z t =>
    simp only [List.length_cons] at hml
    obtain ⟨bb, off, rfl, hc⟩ := hB.lies (by omega)
    have k0 := cell_keep (hc 0 (by omega)) h.low
    simp only [List.getD_cons_zero, Nat.add_zero] at k0
    have hz := hB.byte z (by simp)
    obtain ⟨t1, t2⟩ := hB.tail (k := 1) (by omega)
    simp only [List.drop_one, List.tail_cons] at t1 t2
    have FIN : Hid (∀ (x : Bool) (a' : Option Addr) (m' c' : Nat), x = decide (z ≠ 0) → Bs Wb a' m' c' t → Pbq Wb R (z :: t) bad w (.returned (.bool x)) (w.setCell ⟨R, 0, none⟩ (.slice a' m' c'))) := hide fun x a' m' c' hx hB' => by
      refine ⟨x, rfl, t, bad, HT.out.move hB' (by simp), HT.out.kt 0 _, by simp, fun h => h, ⟨x, rfl, ?_, fun hb a u hat => ?_⟩, fun t V V' q ht hk hl => hl⟩
      · have e : (Cod.bool.put x).length = 1 := rfl
        rw [e, List.length_cons]
        split <;> omega
      · simp only [Cod.bool] at hat
        split at hat
        · next h0 =>
          simp only [Option.some.injEq, Prod.mk.injEq] at hat
          obtain ⟨rfl, rfl⟩ := hat
          exact ⟨by rw [hx, h0]; rfl, rfl, hb⟩
        · split at hat
          · next h0 h1 =>
            simp only [Option.some.injEq, Prod.mk.injEq] at hat
            obtain ⟨rfl, rfl⟩ := hat
            exact ⟨by rw [hx, h1]; rfl, rfl, hb⟩
          · cases hat
    have hm0 : ¬ ((m : Int) = 0) := by omega
    have hm1 : (0 : Int) < (m : Int) := by omega
    clear h hB h1 hc
    by_cases hz0 : z = 0
    · subst hz0
      rcases Nat.lt_or_ge 1 c with hkc | hkc
      · have HE := hide (FIN.out false _ _ _ (by simp) (t1 hkc))
        clear t1 t2
        go_enter Tryz.func73, Tryz.ntmps73
        go_wp2_with fail
        go_ret
        exact HE.out
      · obtain rfl : c = 1 := by omega
        obtain rfl : m = 1 := by omega
        have HE := hide (FIN.out false _ _ _ (by simp) (t2 rfl))
        clear t1 t2
        go_enter Tryz.func73, Tryz.ntmps73
        go_wp2_with fail
        go_ret
        exact HE.out
    · have hzb : (z != 0) = true := by simp [hz0]
      rcases Nat.lt_or_ge 1 c with hkc | hkc
      · have HE := hide (FIN.out true _ _ _ (by simp [hz0]) (t1 hkc))
        clear t1 t2
        go_enter Tryz.func73, Tryz.ntmps73
        go_wp2_with fail
        go_ret
        exact HE.out
      · obtain rfl : c = 1 := by omega
        obtain rfl : m = 1 := by omega
        have HE := hide (FIN.out true _ _ _ (by simp [hz0]) (t2 rfl))
        clear t1 t2
        go_enter Tryz.func73, Tryz.ntmps73
        go_wp2_with fail
        go_ret
        exact HE.out

/-- Bytes. -/
def Pdq (Wb : World) (R : Nat) (l : List Int) (bad : Bool) (w : World) (e : Ending) (w' : World) : Prop :=
  ∃ (a : Option Addr) (m d : Nat), e = .returned (.slice a m d) ∧ m ≤ 70000 ∧ Rq Cod.data LBy [5] 1 [.slice a m d] Wb R l bad w w'

theorem LBy.nil (w : World) : LBy w [] [.slice none 0 0] := ⟨none, 0, 0, rfl, Bs.nil _, fun h => by omega⟩

theorem own_lby {base n : Nat} {v : Value} {zs : List Int} (h : w.ownsRow base 5 1 v n (U zs)) (hb : ∀ z ∈ zs, 0 ≤ z ∧ z ≤ 255) (hn : zs.length = n) : LBy w zs [v] := by
  subst hn
  rcases h.2 with ⟨h1, h2⟩ | ⟨g, c, cur, h1, h2, h3, h4⟩
  · have : zs = [] := List.eq_nil_of_length_eq_zero h2
    subst this
    subst h1
    exact LBy.nil w
  · subst h1
    exact ⟨_, _, _, rfl, own_bs h hb, fun _ => ⟨g, 0, cur, (0, 0), rfl, h3⟩⟩

theorem data_no (hi : ∀ v t, Cod.size.get l = some (v, t) → l.length < v) : Cod.data.get l = none := by
  simp only [Cod.data]
  cases e : Cod.size.get l with
  | none => rfl
  | some q =>
    obtain ⟨n, t⟩ := q
    have h1 := hi n t e
    have h2 : t.length ≤ l.length := by
      rw [size_get] at e
      cases hg : getv l with
      | none => rw [hg] at e; cases e
      | some v =>
        rw [hg] at e
        simp only [Option.some.injEq, Prod.mk.injEq] at e
        rw [← e.2, List.length_drop]
        omega
    simp only
    rw [if_neg (by omega)]

set_option maxHeartbeats 1000000 in
theorem tdata_any (h : Tq Wb R l bad w) : Calls Tryz.prog 83 #[.pointer (some ⟨R, 0, none⟩)] w (Pdq Wb R l bad w) := by
  have HRL := hide h.lt
  have hsh := h.short
  have hby := h.byte
  have HC := hide (tsize_any h)
  clear h
  go_enter Tryz.func83, Tryz.ntmps83
  go_wp2_with fail
  refine HC.out.mono ?_
  rintro e w1 ⟨n, l1, b1, rfl, hT1, hk1, hn, hor⟩
  obtain ⟨a, m, c, h1, hB⟩ := hT1.is
  have c0 := (row_at h1 0 (.slice a m c) rfl).1
  have c1 := (row_at h1 1 (.bool b1) rfl).1
  have f1 := (row_at h1 1 (.bool b1) rfl).2
  have hml := hB.len
  have hmc := hB.le
  have HT1 := hide hT1
  have HK1 := hide hk1
  clear HC
  by_cases hnm : m < n
  · -- more than is there
    obtain ⟨_, hsz⟩ : b1 = bad ∧ Cod.size.get l = some (n, l1) := by
      rcases hor with ⟨rfl, _⟩ | h
      · omega
      · exact h
    have hd : Cod.data.get l = none := by
      simp only [Cod.data, hsz]
      rw [if_neg (by omega)]
    have hl1 : l1.length ≤ l.length := by
      have := Cod.size_law.len hby hsz
      omega
    have HE : Hid (Pdq Wb R l bad w (.returned (.slice none 0 0)) (w1.setCell ⟨R, 1, none⟩ (.bool true))) := hide ⟨none, 0, 0, rfl, by omega, l1, true, hT1.mark, hk1.trans (hT1.kt 1 _), hl1, fun _ => rfl, ⟨[], LBy.nil _, by
      have e : Cod.data.put [] = vb 0 ++ [] := rfl
      rw [e, vb_0]
      simp only [List.append_nil, List.length_singleton, if_true]
      omega, fun _ a t hat => by rw [hd] at hat; cases hat⟩, fun t V V' q ht hk hl => LBy.k t V V' q _ ht hk hl⟩
    have j1 : (m : Int) < (n : Int) := by omega
    clear hT1 hk1 h1 hB hor
    go_wp2_with fail
    go_ret
    exact HE.out
  · have j1 : ¬ ((m : Int) < (n : Int)) := by omega
    have hBn := hB.head n (by omega)
    have HCP := hide (copy_any a n c (l1.take n) w1 (hBn.keep hT1.low) (by omega))
    have j2 : (n : Int) ≤ (m : Int) := by omega
    have FIN : Hid (∀ (w2 : World) (ca : Option Addr) (cd : Nat) (a' : Option Addr) (m' c' : Nat), Below w1.heap.size w1 w2 → w2.ownsRow w1.heap.size 5 1 (.slice ca n cd) n (U (l1.take n)) → Bs Wb a' m' c' (l1.drop n) → Pdq Wb R l bad w (.returned (.slice ca n cd)) (w2.setCell ⟨R, 0, none⟩ (.slice a' m' c'))) := hide fun w2 ca cd a' m' c' hb2 ho hB' => by
      have hT2 := hT1.keep hb2 hT1.lt
      have hlen : (l1.take n).length = n := by rw [List.length_take]; omega
      have hL := own_lby ho (take_byte hT1.byte n) hlen
      have hL2 := LBy.k (157 : TypeId) w2 (w2.setCell ⟨R, 0, none⟩ (.slice a' m' c')) _ _ (by decide) (hT2.kt 0 _) hL
      have hput : Cod.data.put (l1.take n) = vb n ++ l1.take n := by simp only [Cod.data, hlen]
      rcases hor with ⟨rfl, rfl, rfl, hi⟩ | ⟨rfl, hsz⟩
      · refine ⟨ca, 0, cd, rfl, by omega, _, true, hT2.move hB' (by rw [List.length_drop]; omega), (hk1.trans (Kt.of_below hb2)).trans (hT2.kt 0 _), by rw [List.length_drop]; omega, fun _ => rfl, ⟨_, hL2, ?_, fun _ a t hat => by rw [data_no hi] at hat; cases hat⟩, fun t V V' q ht hk hl => LBy.k t V V' q _ ht hk hl⟩
        rw [hput, vb_0]
        simp only [List.length_append, List.length_drop, List.length_take, List.length_singleton, if_true]
        omega
      · have hl1 := Cod.size_law.len hby hsz
        have e1 : Cod.size.put n = vb n := rfl
        rw [e1] at hl1
        refine ⟨ca, n, cd, rfl, by omega, _, b1, hT2.move hB' (by rw [List.length_drop]; omega), (hk1.trans (Kt.of_below hb2)).trans (hT2.kt 0 _), by rw [List.length_drop]; omega, fun h => h, ⟨_, hL2, ?_, fun hb a t hat => ?_⟩, fun t V V' q ht hk hl => LBy.k t V V' q _ ht hk hl⟩
        · rw [hput]
          simp only [List.length_append, List.length_drop, List.length_take]
          split <;> omega
        · simp only [Cod.data, hsz] at hat
          rw [if_pos (by omega)] at hat
          simp only [Option.some.injEq, Prod.mk.injEq] at hat
          exact ⟨hat.1, hat.2, hb⟩
    have f0 := (row_at h1 0 (.slice a m c) rfl).2
    have HRR : Hid (∀ V, Below w1.heap.size w1 V → V.frozen? ⟨R, 0, none⟩ = false) := hide fun V hV => by
      obtain ⟨a', m', c', g1, _⟩ := (HT1.out.keep hV HT1.out.lt).is
      exact (row_at g1 0 _ rfl).2
    rcases Nat.eq_zero_or_pos n with rfl | hn0
    · -- nothing is taken
      have hB0 := hB
      cases a with
      | none =>
        obtain rfl : c = 0 := hB.bare rfl
        obtain rfl : m = 0 := by omega
        clear hT1 hk1 hB hBn hor
        go_wp2_with fail
        refine HCP.out.mono ?_
        rintro e w2 ⟨ca, cd, rfl, ho, hb2⟩
        have q0 := cell_keep c0 hb2
        have g0 := HRR.out w2 hb2
        have HE := hide (FIN.out w2 ca cd none 0 0 hb2 ho (by simpa using hB0))
        clear hb2 ho
        go_wp2_with fail
        go_ret
        exact HE.out
      | some ad =>
        obtain ⟨ab, ao, sp⟩ := ad
        rcases Nat.eq_zero_or_pos c with rfl | hc0
        · obtain rfl : m = 0 := by omega
          clear hT1 hk1 hB hBn hor
          go_wp2_with fail
          refine HCP.out.mono ?_
          rintro e w2 ⟨ca, cd, rfl, ho, hb2⟩
          have q0 := cell_keep c0 hb2
          have g0 := HRR.out w2 hb2
          have HE := hide (FIN.out w2 ca cd (some ⟨ab, ao, sp⟩) 0 0 hb2 ho (by simpa using hB0))
          clear hb2 ho
          go_wp2_with fail
          go_ret
          exact HE.out
        · clear hT1 hk1 hB hBn hor
          go_wp2_with fail
          refine HCP.out.mono ?_
          rintro e w2 ⟨ca, cd, rfl, ho, hb2⟩
          have q0 := cell_keep c0 hb2
          have g0 := HRR.out w2 hb2
          have HE := hide (FIN.out w2 ca cd (some ⟨ab, ao, sp⟩) m c hb2 ho (by simpa using hB0))
          clear hb2 ho
          go_wp2_with fail
          go_ret
          exact HE.out
    · obtain ⟨bb, off, rfl, _⟩ := hB.lies (by omega)
      obtain ⟨t1, t2⟩ := hB.tail (k := n) (by omega)
      clear hT1 hk1 hB hBn hor
      rcases Nat.lt_or_ge n c with hkc | hkc
      · have hB' := t1 hkc
        clear t1 t2
        go_wp2_with fail
        refine HCP.out.mono ?_
        rintro e w2 ⟨ca, cd, rfl, ho, hb2⟩
        have q0 := cell_keep c0 hb2
        have g0 := HRR.out w2 hb2
        have HE := hide (FIN.out w2 ca cd _ _ _ hb2 ho hB')
        clear hb2 ho hB'
        go_wp2_with fail
        go_ret
        exact HE.out
      · obtain rfl : n = c := by omega
        obtain rfl : n = m := by omega
        have hB' := t2 rfl
        clear t1 t2
        go_wp2_with fail
        refine HCP.out.mono ?_
        rintro e w2 ⟨ca, cd, rfl, ho, hb2⟩
        have q0 := cell_keep c0 hb2
        have g0 := HRR.out w2 hb2
        have HE := hide (FIN.out w2 ca cd _ _ _ hb2 ho hB')
        clear hb2 ho hB'
        go_wp2_with fail
        go_ret
        exact HE.out

/-- A text. -/
def Ptq (Wb : World) (R : Nat) (l : List Int) (bad : Bool) (w : World) (e : Ending) (w' : World) : Prop :=
  ∃ (s : ByteArray), e = .returned (.string s) ∧ Rq Cod.data LTx [] 1 [.string s] Wb R l bad w w'

set_option maxHeartbeats 1000000 in
theorem ttext_any (h : Tq Wb R l bad w) : Calls Tryz.prog 68 #[.pointer (some ⟨R, 0, none⟩)] w (Ptq Wb R l bad w) := by
  go_enter Tryz.func68, Tryz.ntmps68
  go_wp2_with fail
  refine (tdata_any h).mono ?_
  rintro e w1 ⟨a, m, d, rfl, hm, l1, b1, hA⟩
  obtain ⟨xs, ⟨a', m', d', e1, hX, _⟩, e2, e3⟩ := hA.ex
  simp only [List.cons.injEq, Value.slice.injEq, and_true] at e1
  obtain ⟨rfl, rfl, rfl⟩ := e1
  have k1 : (convert 32 9 (.slice a m d)).run Tryz.prog w1 = .ok (.string (strOfNums xs)) w1 := run_str 32 5 Tryz.underlying32 Tryz.underlying5 hX 9 Tryz.underlying9
  have HE : Hid (Ptq Wb R l bad w (.returned (.string (strOfNums xs))) w1) := by
    refine hide ⟨_, rfl, l1, b1, hA.tq, hA.kt, hA.le, hA.mono, ⟨xs, ⟨_, rfl, sb_str hX.byte, ?_⟩, e2, e3⟩, fun t V V' q ht hk hl => hl⟩
    have h1 : (strOfNums xs).size = m := by rw [← sb_length, sb_str hX.byte, hX.len]
    omega
  generalize strOfNums xs = st at k1 HE
  clear hA hX e2 e3 h
  go_wp2_with fail
  go_ret
  exact HE.out
end

end Go.Proofs.YtnimfkcnkkjlkaaGreat

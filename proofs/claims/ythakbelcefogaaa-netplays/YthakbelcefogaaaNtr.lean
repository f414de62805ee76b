/-
  The document's net: a list of packets as it is read; find.
-/
import Derived.Test.YthakbelcefogaaaNti
namespace Go.Proofs.Ythakbelcefogaaa
open Go.RowKit
set_option maxRecDepth 100000

/-- A list of packets, as it can be read: its rows are ts, all its blocks are of F. -/
structure Pl (w : World) (F : Nat → Prop) (a : Option Addr) (n cap : Nat) (ts : List Pt) (l : List (Int × Pk)) : Prop where
  len : l.length = n
  tl : ts.length = n
  le : n ≤ cap
  reach : cap ≤ 9223372036854775807
  bare : a = none → cap = 0
  lies : 0 < n → ∀ b off, a = some ⟨b, off, none⟩ → F b ∧ ∀ j u, (ts.flatMap Pt.cells)[j]? = some u → w.cell? ⟨b, off + j, none⟩ = some u
  spot : 0 < n → ∃ b off, a = some ⟨b, off, none⟩
  is : ∀ (i : Nat) (t : Pt) (q : Int × Pk), ts[i]? = some t → l[i]? = some q → t.no = q.1 ∧ t.fr = q.2.fr ∧ t.to = q.2.to ∧ Bs w t.a t.ln t.cap q.2.bd ∧ ∀ ad, t.a = some ad → F ad.block ∧ ad.block < w.heap.size

theorem cells_at (ts : List Pt) (i : Nat) (hi : i < ts.length) (j : Nat) (hj : j < 4) : (ts.flatMap Pt.cells)[i * 4 + j]? = (ts[i].cells)[j]? := by
  induction ts generalizing i with
  | nil => simp at hi
  | cons t ts ih =>
    rw [List.flatMap_cons]
    cases i with
    | zero => rw [List.getElem?_append_left (by simp [Pt.cells]; omega)]; simp
    | succ i =>
      rw [List.getElem?_append_right (by simp [Pt.cells]; omega)]
      have e : (i + 1) * 4 + j - t.cells.length = i * 4 + j := by simp [Pt.cells]; omega
      rw [e, ih i (by simpa using hi)]
      simp

section
variable {w w' : World} {F G : Nat → Prop} {a : Option Addr} {n cap : Nat} {ts : List Pt} {l : List (Int × Pk)}
theorem Pl.heap (h : Pl w F a n cap ts l) (hb : ∀ g, F g → g < w.heap.size → w'.heap[g]? = w.heap[g]?) (hs : w.heap.size ≤ w'.heap.size) : Pl w' F a n cap ts l := by
  refine ⟨h.len, h.tl, h.le, h.reach, h.bare, fun hn b off ha => ?_, h.spot, fun i t q h1 h2 => ?_⟩
  · obtain ⟨hF, hc⟩ := h.lies hn b off ha
    refine ⟨hF, fun j u hu => ?_⟩
    have h1 := hc j u hu
    have hq : w'.heap[b]? = w.heap[b]? := hb b hF (cell_lt h1)
    unfold World.cell? at h1 ⊢
    simp only at h1 ⊢
    rw [hq]
    exact h1
  · obtain ⟨a1, a2, a3, a4, a5⟩ := h.is i t q h1 h2
    exact ⟨a1, a2, a3, a4.heap (fun ad e => hb _ (a5 ad e).1 (a5 ad e).2), fun ad e => ⟨(a5 ad e).1, Nat.lt_of_lt_of_le (a5 ad e).2 hs⟩⟩
theorem Pl.keep (h : Pl w F a n cap ts l) (hb : Below w.heap.size w w') : Pl w' F a n cap ts l := h.heap (fun g _ hg => hb.block g hg) hb.size
theorem Pl.mono (h : Pl w F a n cap ts l) (hF : ∀ g, F g → G g) : Pl w G a n cap ts l :=
  ⟨h.len, h.tl, h.le, h.reach, h.bare, fun hn b off ha => ⟨hF _ (h.lies hn b off ha).1, (h.lies hn b off ha).2⟩, h.spot, fun i t q h1 h2 => by
    obtain ⟨a1, a2, a3, a4, a5⟩ := h.is i t q h1 h2
    exact ⟨a1, a2, a3, a4, fun ad e => ⟨hF _ (a5 ad e).1, (a5 ad e).2⟩⟩⟩
theorem Pl.nil (w : World) (F : Nat → Prop) : Pl w F none 0 0 [] [] := ⟨rfl, rfl, Nat.le_refl _, by omega, fun _ => rfl, fun h => by omega, fun h => by omega, by simp⟩
theorem Pl.low (h : Pl w F a n cap ts l) : Pl w (fun g => F g ∧ g < w.heap.size) a n cap ts l :=
  ⟨h.len, h.tl, h.le, h.reach, h.bare, fun hn b off ha => by
    obtain ⟨hF, hc⟩ := h.lies hn b off ha
    have ht := h.tl
    refine ⟨⟨hF, ?_⟩, hc⟩
    have h0 := hc (0 * 4 + 0) (.int .i64 (ts[0]'(by omega)).no) (by rw [cells_at ts 0 (by omega) 0 (by omega)]; rfl)
    exact cell_lt h0, h.spot, fun i t q h1 h2 => by
    obtain ⟨a1, a2, a3, a4, a5⟩ := h.is i t q h1 h2
    exact ⟨a1, a2, a3, a4, fun ad e => ⟨⟨(a5 ad e).1, (a5 ad e).2⟩, (a5 ad e).2⟩⟩⟩
theorem Pl.no (h : Pl w F a n cap ts l) (i : Nat) (hi : i < l.length) : ∃ b off, a = some ⟨b, off, none⟩ ∧ w.cell? ⟨b, off + i * 4, none⟩ = some (.int .i64 l[i].1) := by
  have hl := h.len
  have ht := h.tl
  have hit : i < ts.length := by omega
  obtain ⟨b, off, ha⟩ := h.spot (by omega)
  refine ⟨b, off, ha, ?_⟩
  have h0 := (h.lies (by omega) b off ha).2 (i * 4 + 0) (.int .i64 ts[i].no) (by rw [cells_at ts i hit 0 (by omega)]; rfl)
  rw [(h.is i ts[i] l[i] (List.getElem?_eq_getElem hit) (List.getElem?_eq_getElem hi)).1] at h0
  exact h0
end

/-- A number's place; -1. -/
def fnd : List (Int × Pk) → Int → Nat → Int
  | [], _, _ => -1
  | q :: l, k, i => if q.1 = k then (i : Int) else fnd l k (i + 1)

theorem fnd_none {l : List (Int × Pk)} {k : Int} (h : lk l k = none) (i : Nat) : fnd l k i = -1 := by
  induction l generalizing i with
  | nil => rfl
  | cons q l ih =>
    rw [lk_cons] at h
    by_cases e : q.1 = k
    · simp [e] at h
    · rw [if_neg e] at h
      rw [fnd, if_neg e]
      exact ih h _
theorem fnd_some {l : List (Int × Pk)} {k : Int} {p : Pk} (h : lk l k = some p) (i : Nat) : ∃ j, ∃ hj : j < l.length, fnd l k i = ((i + j : Nat) : Int) ∧ l[j] = (k, p) := by
  induction l generalizing i with
  | nil => cases h
  | cons q l ih =>
    rw [lk_cons] at h
    by_cases e : q.1 = k
    · rw [if_pos e] at h
      refine ⟨0, by simp, by rw [fnd, if_pos e]; simp, ?_⟩
      simp only [Option.some.injEq] at h
      rw [List.getElem_cons_zero, ← e, ← h]
    · rw [if_neg e] at h
      obtain ⟨j, hj, h1, h2⟩ := ih h (i + 1)
      exact ⟨j + 1, by simpa using hj, by rw [fnd, if_neg e, h1]; congr 1; omega, by simpa using h2⟩
theorem fnd_drop {l : List (Int × Pk)} {k : Int} (i : Nat) (hi : i < l.length) : fnd (l.drop i) k i = if l[i].1 = k then (i : Int) else fnd (l.drop (i + 1)) k (i + 1) := by
  rw [List.drop_eq_getElem_cons hi, fnd]

set_option maxHeartbeats 1000000 in
theorem rfind_any {w : World} {F : Nat → Prop} {a : Option Addr} {n cap : Nat} {ts : List Pt} {l : List (Int × Pk)} {la k : Int} (h : Pl w F a n cap ts l) (_hn : n ≤ 100000) :
    Calls Try.prog 40 #[.agg #[.slice a n cap, .int .i64 la], .int .i64 k] w fun e w' => e = .returned (.int .i64 (fnd l k 0)) ∧ Below w.heap.size w w' := by
  have hlen := h.len
  have hle := h.le
  have hre := h.reach
  have hW := h.keep ((Below.refl _ w).alloc (Nat.le_refl _) (.cells #[.slice a n cap, .int .i64 la] (40 : TypeId)))
  have HW := hide hW
  have HB : Hid (Below w.heap.size w (w.alloc (.cells #[.slice a n cap, .int .i64 la] (40 : TypeId)))) := hide ((Below.refl _ w).alloc (Nat.le_refl _) _)
  have HL := hide hlen
  clear h hW hlen
  go_enter Try.func40, Try.ntmps40
  go_wp2_with fail
  go_loopw [5] (fun i wr => ∃ j : Nat, j ≤ n ∧ i = .int .i64 (j : Int) ∧ Hid (wr = w.alloc (.cells #[.slice a n cap, .int .i64 la] (40 : TypeId))) ∧ Hid (fnd l k 0 = fnd (l.drop j) k j))
    (fun i _ => n - (intOf i).toNat)
  case atStart => exact ⟨0, Nat.zero_le _, rfl, hide rfl, hide rfl⟩
  case round =>
    obtain ⟨j, hj, rfl, hwr, hf⟩ := hrel
    have hw0 : wr.heap[w.heap.size]? = some (.cells #[.slice a n cap, .int .i64 la] (40 : TypeId) (0, 0)) := by rw [hwr.out]; exact heap_alloc_new w _
    have x0 := cell_of_row wr w.heap.size 0 _ (40 : TypeId) (0, 0) hw0
    simp only [List.getElem?_toArray, List.getElem?_cons_zero] at x0
    clear hw0
    by_cases hjn : j < n
    · have hjl : j < l.length := by rw [HL.out]; exact hjn
      obtain ⟨b, off, rfl, h1⟩ := HW.out.no j hjl
      have hstep := fnd_drop (k := k) j hjl
      have h1' : wr.cell? ⟨b, off + j * 4, none⟩ = some (.int .i64 l[j].1) := by rw [hwr.out]; exact h1
      obtain ⟨q, hq⟩ : ∃ q, Hid (q = l[j].1) := ⟨_, hide rfl⟩
      rw [← hq.out] at h1' hstep
      have HS := hide hstep
      clear h1 hstep
      by_cases e : q = k
      · have e1 : (q == k) = true := by simp [e]
        go_wp2_with fail
        go_ret
        refine ⟨?_, by rw [hwr.out]; exact HB.out⟩
        rw [hf.out, HS.out, if_pos e]
        rfl
      · have e1 : (q == k) = false := by simpa using e
        go_wp2_with fail
        go_roundw
        case rel => exact ⟨j + 1, by omega, by simp, hwr, hide (by rw [hf.out, HS.out, if_neg e])⟩
        case measure => simp [intOf]; omega
    · have hjz : ¬ ((j : Int) < (n : Int)) := by omega
      have hnil : Hid (fnd l k 0 = -1) := hide (by rw [hf.out, List.drop_eq_nil_of_le (by rw [HL.out]; omega)]; rfl)
      go_wp2_with fail
      go_ret
      refine ⟨?_, by rw [hwr.out]; exact HB.out⟩
      rw [hnil.out]
      rfl

end Go.Proofs.Ythakbelcefogaaa

/-
  'awake' of the third layer's statements: it answers true, and writes nothing that was there.
-/
import Derived.Test.YtelfckhiafnniaaVrs
import Derived.Test.YtelfckhiafnniaaSam
namespace Go.Proofs.Ytelfckhiafnniaa
open Go.RowKit

theorem vb_0 : vb 0 = [0] := by simp [vb_lt]
theorem vb_1 : vb 1 = [1] := by simp [vb_lt]
theorem vb_2 : vb 2 = [2] := by simp [vb_lt]
theorem vb_127 : vb 127 = [127] := by simp [vb_lt]
theorem vb_128 : vb 128 = [128, 1] := by simp [vb_ge, vb_lt]
theorem vb_300 : vb 300 = [172, 2] := by simp [vb_ge, vb_lt]
theorem vb_max : vb 18446744073709551615 = [255, 255, 255, 255, 255, 255, 255, 255, 255, 1] := by simp [vb_ge, vb_lt]

theorem Bs.row {w : World} {g m : Nat} {zs : List Int} (hg : w.heap[g]? = some (.cells (U zs).toArray 5 (0, 0))) (hl : zs.length = m) (hm : m ≤ 281474976710656) (hb : ∀ z ∈ zs, 0 ≤ z ∧ z ≤ 255) : Bs w (some ⟨g, 0, none⟩) m m zs :=
  Bs.own (cur := U zs) hg (by rw [U_length, hl]) hl (Nat.le_refl _) (by omega) hb (by rw [List.take_of_length_le (by rw [U_length, hl]; exact Nat.le_refl _)]; rfl)

theorem Bs.drop {w : World} {b off n cap : Nat} {zs : List Int} (hB : Bs w (some ⟨b, off, none⟩) n cap zs) (k : Nat) (hk : k ≤ n) : Bs w (some ⟨b, off + k, none⟩) (n - k) (cap - k) (zs.drop k) := by
  have hl := hB.len
  have hle := hB.le
  have hr := hB.reach
  refine ⟨by simp; omega, by omega, by omega, drop_byte hB.byte _, fun h => (by cases h), fun h => ?_⟩
  obtain ⟨b', off', ha, hc⟩ := hB.lies (by omega)
  simp only [Option.some.injEq, Addr.mk.injEq, and_true] at ha
  obtain ⟨rfl, rfl⟩ := ha
  refine ⟨b, off + k, rfl, fun i hi => ?_⟩
  rw [Nat.add_assoc, hc (k + i) (by omega)]
  simp [List.getD]

theorem app_byte {xs ys : List Int} (hx : ∀ z ∈ xs, 0 ≤ z ∧ z ≤ 255) (hy : ∀ z ∈ ys, 0 ≤ z ∧ z ≤ 255) : ∀ z ∈ xs ++ ys, 0 ≤ z ∧ z ≤ 255 := fun z hz => (List.mem_append.1 hz).elim (hx z) (hy z)

theorem put_bs (a : Option Addr) (len cap : Nat) (zs : List Int) (v : Nat) (hv : v < 18446744073709551616) (w : World) (hB : Bs w a len cap zs) (hlen : len ≤ 140737488355318) :
    Calls Try.prog 48 #[.slice a len cap, .int .u64 (v : Int)] w fun e W' => ∃ g, e = .returned (.slice (some ⟨g, 0, none⟩) (len + (vb v).length) (len + (vb v).length)) ∧
      Bs W' (some ⟨g, 0, none⟩) (len + (vb v).length) (len + (vb v).length) (zs ++ vb v) ∧ w.heap.size ≤ g ∧ Below w.heap.size w W' := by
  have h10 := vb_len10 hv
  refine (put_any a len cap zs v hv w hB hlen).mono ?_
  rintro e w' ⟨g, rfl, hg, hle, hb⟩
  exact ⟨g, rfl, Bs.row hg (by simp [hB.len]) (by omega) (app_byte hB.byte (vb_byte v)), hle, hb⟩

theorem putInt_bs (a : Option Addr) (len cap : Nat) (zs : List Int) (n : Int) (h1 : -9223372036854775808 ≤ n) (h2 : n ≤ 9223372036854775807) (w : World) (hB : Bs w a len cap zs) (hlen : len ≤ 140737488355318) :
    Calls Try.prog 47 #[.slice a len cap, .int .i64 n] w fun e W' => ∃ g, e = .returned (.slice (some ⟨g, 0, none⟩) (len + (vb (fo n)).length) (len + (vb (fo n)).length)) ∧
      Bs W' (some ⟨g, 0, none⟩) (len + (vb (fo n)).length) (len + (vb (fo n)).length) (zs ++ vb (fo n)) ∧ w.heap.size ≤ g ∧ Below w.heap.size w W' := by
  have h10 := vb_len10 (fo_lt h1 h2)
  refine (putInt_any a len cap zs n h1 h2 w hB hlen).mono ?_
  rintro e w' ⟨g, rfl, hg, hle, hb⟩
  exact ⟨g, rfl, Bs.row hg (by simp [hB.len]) (by omega) (app_byte hB.byte (vb_byte _)), hle, hb⟩

/-- A number put behind nothing, its bytes written out. -/
theorem put_lit (v : Nat) (hv : v < 18446744073709551616) (l : List Int) (k : Nat) (hl : vb v = l) (hk : l.length = k) (w : World) :
    Calls Try.prog 48 #[.slice none 0 0, .int .u64 (v : Int)] w fun e W' => ∃ g, e = .returned (.slice (some ⟨g, 0, none⟩) k k) ∧ Bs W' (some ⟨g, 0, none⟩) k k l ∧ Below w.heap.size w W' := by
  subst hl
  subst hk
  refine (put_bs none 0 0 [] v hv w (Bs.nil w) (by omega)).mono ?_
  rintro e w' ⟨g, rfl, hB, _, hb⟩
  simp only [Nat.zero_add, List.nil_append] at hB ⊢
  exact ⟨g, rfl, hB, hb⟩

theorem putInt_lit (n : Int) (h1 : -9223372036854775808 ≤ n) (h2 : n ≤ 9223372036854775807) (l : List Int) (k : Nat) (hl : vb (fo n) = l) (hk : l.length = k) (w : World) :
    Calls Try.prog 47 #[.slice none 0 0, .int .i64 n] w fun e W' => ∃ g, e = .returned (.slice (some ⟨g, 0, none⟩) k k) ∧ Bs W' (some ⟨g, 0, none⟩) k k l ∧ Below w.heap.size w W' := by
  subst hl
  subst hk
  refine (putInt_bs none 0 0 [] n h1 h2 w (Bs.nil w) (by omega)).mono ?_
  rintro e w' ⟨g, rfl, hB, _, hb⟩
  simp only [Nat.zero_add, List.nil_append] at hB ⊢
  exact ⟨g, rfl, hB, hb⟩

theorem get_yes {a : Option Addr} {len cap : Nat} {zs : List Int} {x : Int} {w : World} (hB : Bs w a len cap zs) {v : Nat} (h : gv zs x = some v) (y k : Int) (hy : (v : Int) = y) (hk : ((x.toNat + (vb v).length : Nat) : Int) = k) :
    Calls Try.prog 55 #[.slice a len cap, .int .i64 x] w fun e W' => e = .returned (.tuple #[.int .u64 y, .int .i64 k, .bool true]) ∧ Below w.heap.size w W' := by
  have c := get_val a len cap zs x w hB
  unfold gN gE gB at c
  rw [h] at c
  simp only [Option.getD_some, Option.isSome_some, hy, hk] at c
  exact c

theorem get_no {a : Option Addr} {len cap : Nat} {zs : List Int} {x : Int} {w : World} (hB : Bs w a len cap zs) (h : gv zs x = none) :
    Calls Try.prog 55 #[.slice a len cap, .int .i64 x] w fun e W' => e = .returned (.tuple #[.int .u64 0, .int .i64 0, .bool false]) ∧ Below w.heap.size w W' := by
  have c := get_val a len cap zs x w hB
  unfold gN gE gB at c
  rw [h] at c
  exact c

theorem getInt_yes {a : Option Addr} {len cap : Nat} {zs : List Int} {x : Int} {w : World} (hB : Bs w a len cap zs) {v : Nat} (h : gv zs x = some v) (y k : Int) (hy : unfo v = y) (hk : ((x.toNat + (vb v).length : Nat) : Int) = k) :
    Calls Try.prog 53 #[.slice a len cap, .int .i64 x] w fun e W' => e = .returned (.tuple #[.int .i64 y, .int .i64 k, .bool true]) ∧ Below w.heap.size w W' := by
  have c := getInt_val a len cap zs x w hB
  unfold gN gE gB at c
  rw [h] at c
  simp only [Option.getD_some, Option.isSome_some, hy, hk] at c
  exact c

/-- What the head of a list says. -/
theorem gv_head (v : Nat) (hv : v < 18446744073709551616) (l t : List Int) (hl : vb v = l) (hb : ∀ z ∈ l ++ t, 0 ≤ z ∧ z ≤ 255) : gv (l ++ t) 0 = some v := by
  subst hl
  exact gv_intro (x := 0) hb hv ⟨t, by simp⟩

/-- A slice against a row written out. -/
theorem same_lit {w : World} {a : Option Addr} {n cap : Nat} {zs : List Int} (h : Bs w a n cap zs) (m : Nat) (hm : zs.length = m) (hm2 : m ≤ 1000) :
    Calls Try.prog 22 #[.slice a n cap, .slice (some ⟨w.heap.size, 0, none⟩) m m] (w.alloc (.cells (U zs).toArray 5)) fun e w' => e = .returned (.bool true) ∧ w' = w.alloc (.cells (U zs).toArray 5) :=
  same_true rfl (h.alloc _) (Bs.lit w zs m hm hm2 h.byte)

end Go.Proofs.Ytelfckhiafnniaa

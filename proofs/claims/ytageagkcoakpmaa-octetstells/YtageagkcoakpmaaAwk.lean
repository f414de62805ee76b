/-
  'awake' of the first layer's statements: it answers true, and writes nothing that was there.
-/
import Derived.Test.YtageagkcoakpmaaTxt
namespace Go.Proofs.Ytageagkcoakpmaa
open Go.RowKit

/-- A row of bytes written out, as a slice. -/
theorem Bs.lit (w : World) (l : List Int) (n : Nat) (hn : l.length = n) (h2 : n ≤ 1000) (hb : ∀ z ∈ l, 0 ≤ z ∧ z ≤ 255) : Bs (w.alloc (.cells (U l).toArray 5)) (some ⟨w.heap.size, 0, none⟩) n n l :=
  Bs.own (cur := U l) (heap_alloc_new w _) (by rw [U_length, hn]) hn (Nat.le_refl _) (by omega) hb (by rw [List.take_of_length_le (by rw [U_length, hn]; exact Nat.le_refl _)]; rfl)

theorem awake_text (w : World) : Calls Try.prog 12 #[.slice none 0 0, .string ⟨#[5, 6]⟩] w fun e w' => e = .returned (.tuple #[.slice (some ⟨w.heap.size, 0, none⟩) 4 4, .int .i64 0]) ∧
    Bs w' (some ⟨w.heap.size, 0, none⟩) 4 4 [0, 2, 5, 6] ∧ Below w.heap.size w w' :=
  addText_yes none 0 0 [] ⟨#[5, 6]⟩ w (Bs.nil w) (by decide) (by decide)

theorem awake_add (w : World) (g : Nat) (hg : w.heap.size = g) : Calls Try.prog 20 #[.slice (some ⟨g, 0, none⟩) 1 1, .int .u32 258] (w.alloc (.cells #[.int .u8 9] 5)) fun e w' => e = .returned (.slice (some ⟨g + 1, 0, none⟩) 5 5) ∧
    Bs w' (some ⟨g + 1, 0, none⟩) 5 5 [9, 0, 0, 1, 2] ∧ Below (g + 1) (w.alloc (.cells #[.int .u8 9] 5)) w' := by
  subst hg
  have h := add32_any (some ⟨w.heap.size, 0, none⟩) 1 1 [9] 258 (w.alloc (.cells #[.int .u8 9] 5)) (Bs.lit w [9] 1 rfl (by decide) (by decide)) (by decide) (by decide)
  rw [World.size_alloc] at h
  exact h

theorem awake_read (w : World) : Calls Try.prog 10 #[.slice (some ⟨w.heap.size, 0, none⟩) 4 4, .int .i64 0] (w.alloc (.cells #[.int .u8 128, .int .u8 0, .int .u8 0, .int .u8 1] 5)) fun e w' => e = .returned (.tuple #[.int .u32 2147483649, .bool true]) ∧
    w' = (w.alloc (.cells #[.int .u8 128, .int .u8 0, .int .u8 0, .int .u8 1] 5)) :=
  u32_any (some ⟨w.heap.size, 0, none⟩) 4 4 [128, 0, 0, 1] 0 _ (Bs.lit w [128, 0, 0, 1] 4 rfl (by decide) (by decide))

theorem Bs.alloc {w : World} {a : Option Addr} {n cap : Nat} {zs : List Int} (h : Bs w a n cap zs) (o : Obj) : Bs (w.alloc o) a n cap zs := h.keep ((Below.refl _ _).alloc (Nat.le_refl _) o)

/-- A slice against a row written out. -/
theorem same_lit {w : World} {a : Option Addr} {n cap : Nat} {zs : List Int} (h : Bs w a n cap zs) (m : Nat) (hm : zs.length = m) (hm2 : m ≤ 1000) :
    Calls Try.prog 16 #[.slice a n cap, .slice (some ⟨w.heap.size, 0, none⟩) m m] (w.alloc (.cells (U zs).toArray 5)) fun e w' => e = .returned (.bool true) ∧ w' = w.alloc (.cells (U zs).toArray 5) := by
  refine (same_any a (some ⟨w.heap.size, 0, none⟩) n cap m m zs zs _ (h.alloc _) (Bs.lit w zs m hm hm2 h.byte)).mono ?_
  rintro e w' ⟨rfl, rfl⟩
  exact ⟨by simp, rfl⟩

set_option maxHeartbeats 400000 in
theorem awake_any (w : World) : Calls Try.prog 13 #[] w fun e w' => e = .returned (.bool true) ∧ Below w.heap.size w w' := by
  go_enter Try.func13, Try.ntmps13
  go_wp2_with fail
  refine (awake_read _).mono ?_
  rintro e w' ⟨rfl, rfl⟩
  go_wp2_with fail
  refine (awake_text _).mono ?_
  rintro e w' ⟨rfl, hB1, hb1⟩
  rw [World.size_alloc] at hB1 hb1
  have S1 := same_lit hB1 4 rfl (by decide)
  simp only [U, List.map_cons, List.map_nil] at S1
  have HS1 := hide S1
  clear S1
  go_wp2_with fail
  refine (unhide HS1).mono ?_
  rintro e w2 ⟨rfl, rfl⟩
  go_wp2_with fail
  refine (awake_add _ _ (by simp)).mono ?_
  rintro e w3 ⟨rfl, hB3, hb3⟩
  have S3 := same_lit hB3 5 rfl (by decide)
  simp only [U, List.map_cons, List.map_nil] at S3
  have HS3 := hide S3
  clear S3
  have z1 : w.heap.size + 1 ≤ w'.heap.size := by have := hb1.size; simpa using this
  have z3 : w'.heap.size + 1 + 1 ≤ w3.heap.size := by have := hb3.size; simpa using this
  go_wp2_with fail
  refine (unhide HS3).mono ?_
  rintro e w4 ⟨rfl, rfl⟩
  go_wp2_with fail
  go_ret
  have b1 : Below w.heap.size w w' := ((Below.refl _ _).alloc (Nat.le_refl _) _).trans (hb1.mono (by omega))
  have b2 := ((b1.alloc (by omega) (.cells #[.int .u8 0, .int .u8 2, .int .u8 5, .int .u8 6] 5)).alloc (by rw [World.size_alloc]; omega) (.cells #[.int .u8 9] 5))
  exact ⟨rfl, (b2.trans (hb3.mono (by omega))).alloc (by omega) _⟩

end Go.Proofs.Ytageagkcoakpmaa

/-
  SumsNumbers returns true: the fixed examples of the chapter come out as written.
-/
import Derived.Test.YtclhkngeicmlkaaSum
namespace Go.Proofs.Ytclhkngeicmlkaa.sumsNumbers
open Go.RowKit

def rowl (f s : Nat) : List Int := (List.range 32).map fun i => (((f + s * i) % 256 : Nat) : Int)
theorem rowl_length (f s : Nat) : (rowl f s).length = 32 := by simp [rowl]
theorem rowl_byte (f s : Nat) : ∀ z ∈ rowl f s, 0 ≤ z ∧ z ≤ 255 := by
  intro z hz
  obtain ⟨i, _, rfl⟩ := List.mem_map.1 hz
  omega

theorem set_next (zs : List Int) (m k : Nat) (hl : zs.length = m) (hk : k < m) (z : Int) (hz : zs[k]? = some z) :
    (U (zs.take k ++ List.replicate (m - k) 0)).set k (.int .u8 z) = U (zs.take (k + 1) ++ List.replicate (m - (k + 1)) 0) := by
  have hk2 : k < zs.length := by omega
  rw [List.getElem?_eq_getElem hk2] at hz
  simp only [Option.some.injEq] at hz
  have e1 : m - k = (m - (k + 1)) + 1 := by omega
  have e2 : (U (zs.take k)).length = k := by rw [U_length, List.length_take]; omega
  rw [U_append, List.set_append_right _ _ (by omega), e2, Nat.sub_self, e1, List.replicate_succ, List.take_succ_eq_append_getElem hk2, hz]
  simp [U]

set_option maxHeartbeats 400000 in
theorem row_any (f s : Nat) (w : World) :
    Calls Try.prog 9 #[.int .u8 f, .int .u8 s] w fun e w' => e = .returned (.slice (some ⟨w.heap.size, 0, none⟩) 32 32) ∧ Bs w' (some ⟨w.heap.size, 0, none⟩) 32 32 (rowl f s) ∧ Below w.heap.size w w' := by
  obtain ⟨i0, hi, hz0, hz1, hz2⟩ := info_parts info5
  go_enter Try.func9, Try.ntmps9
  go_wp2_with (at_make; refine wpList_make_full _ rfl _ _ 25 rfl w.heap.size 5 i0 (.int .u8 0) 1 Try.underlying25 hi hz0 hz1 .i64 .i64 _ _ 32 rfl rfl (by decide) (by decide) (by rw [hz2]; decide) (by unfold maxLen; decide) (Nat.le_refl _) ?_; intro w1 hown hgrow; have hg := hide (own_full hown); have hb : Below w.heap.size w w1 := (Below.refl _ _).grown hgrow (Nat.le_refl _) (fun k hk => by cases hk); clear hown hgrow)
  go_loopw [6] (fun i wr => ∃ k : Nat, k ≤ 32 ∧ i = .int .i64 k ∧ Hid (wr.heap[w.heap.size]? = some (.cells (U ((rowl f s).take k ++ List.replicate (32 - k) 0)).toArray 5 (0, 0))) ∧ Below w.heap.size w wr)
    (fun i _ => 32 - (intOf i).toNat)
  case atStart => exact ⟨0, Nat.zero_le _, rfl, hg, hb⟩
  case round =>
    obtain ⟨k, hk, rfl, hr, hbr⟩ := hrel
    by_cases hlt : k < 32
    · obtain ⟨u, hu⟩ := heap_cell (i := k) hr.out (by rw [U_length]; simp [rowl_length]; omega)
      have hfz : wr.frozen? ⟨w.heap.size, k, none⟩ = false := heap_free hr.out
      go_wp2
      go_roundw
      case rel =>
        refine ⟨k + 1, by omega, by go_num, hide ?_, hbr.setCell (Nat.le_refl w.heap.size) _⟩
        rw [heap_set hr.out, set_next (rowl f s) 32 k (rowl_length f s) hlt _ ?_]
        simp [rowl, hlt]
      case measure => simp [intOf]; omega
    · obtain rfl : k = 32 := by omega
      go_wp2
      go_ret
      refine ⟨rfl, ?_, hbr⟩
      have h := hr.out
      rw [List.take_of_length_le (by rw [rowl_length]; exact Nat.le_refl _)] at h
      simp only [Nat.sub_self, List.replicate_zero, List.append_nil] at h
      exact Bs.own h (by rw [U_length, rowl_length]) (rowl_length f s) (Nat.le_refl _) (by decide) (rowl_byte f s) (by rw [List.take_of_length_le (by rw [U_length, rowl_length]; exact Nat.le_refl _)]; rfl)

theorem ex_zero : more 0 (rowl 0 0) = 2324772522 := by decide +kernel
theorem ex_full : more 0 (rowl 255 0) = 1655221059 := by decide +kernel
theorem ex_row : more 0 (rowl 0 1) = 1188919630 := by decide +kernel

theorem crc_is {w : World} {a : Option Addr} {n cap : Nat} {zs : List Int} {x : Nat} (hB : Bs w a n cap zs) (hx : more 0 zs = x) :
    Calls Try.prog 7 #[.slice a n cap] w fun e w' => e = .returned (.int .u32 x) ∧ Below w.heap.size w w' := by
  subst hx
  exact crc_any a n cap zs w hB

theorem more_is {w : World} {a : Option Addr} {n cap : Nat} {zs : List Int} {s x : Nat} (hs : s < 4294967296) (hB : Bs w a n cap zs) (hx : more s zs = x) :
    Calls Try.prog 8 #[.int .u32 s, .slice a n cap] w fun e w' => e = .returned (.int .u32 x) ∧ Below w.heap.size w w' := by
  subst hx
  exact more_any s a n cap zs w hs hB

set_option maxRecDepth 100000 in
set_option maxHeartbeats 1000000 in
theorem walk (w : World) : Calls Try.prog 3 #[] w fun e w' => e = .returned (.bool true) ∧ Below w.heap.size w w' := by
  have kc := fun (w : World) (C : Array Value) (n c : Nat) => Lib.run_convert_bytes_const (P := Try.prog) w 25 5 C n c Try.underlying25 Try.underlying5
  go_enter Try.func3, Try.ntmps3
  go_wp2_with fail
  refine (crc_is (Bs.nil w) (x := 0) (by decide)).mono ?_
  rintro e w1 ⟨rfl, b1⟩
  go_wp2_with fail
  refine (crc_is (row_mark w1 _ rfl [49, 50, 51, 52] 4 (4, 5) rfl (by decide) (by decide)) (x := 4131058926) (by decide +kernel)).mono ?_
  rintro e w2 ⟨rfl, b2⟩
  replace b2 := (b1.alloc b1.size _).trans (b2.mono (by have := b1.size; simp; omega))
  go_wp2_with fail
  refine (more_is (by decide) (row_mark w2 _ rfl [53, 54, 55, 56, 57] 5 (5, 6) rfl (by decide) (by decide)) (x := 3808858755) (by decide +kernel)).mono ?_
  rintro e w3 ⟨rfl, b3⟩
  replace b3 := (b2.alloc b2.size _).trans (b3.mono (by have := b2.size; simp; omega))
  clear b1 b2
  go_wp2_with fail
  refine (row_any 0 0 w3).mono ?_
  rintro e w4 ⟨rfl, hB4, b4⟩
  replace b4 := b3.trans (b4.mono b3.size)
  go_wp2_with fail
  refine (crc_is hB4 ex_zero).mono ?_
  rintro e w5 ⟨rfl, b5⟩
  replace b5 := b4.trans (b5.mono b4.size)
  clear b3 b4 hB4
  go_wp2_with fail
  refine (row_any 255 0 w5).mono ?_
  rintro e w6 ⟨rfl, hB6, b6⟩
  replace b6 := b5.trans (b6.mono b5.size)
  go_wp2_with fail
  refine (crc_is hB6 ex_full).mono ?_
  rintro e w7 ⟨rfl, b7⟩
  replace b7 := b6.trans (b7.mono b6.size)
  clear b5 b6 hB6
  go_wp2_with fail
  refine (row_any 0 1 w7).mono ?_
  rintro e w8 ⟨rfl, hB8, b8⟩
  replace b8 := b7.trans (b8.mono b7.size)
  go_wp2_with fail
  refine (crc_is hB8 ex_row).mono ?_
  rintro e w9 ⟨rfl, b9⟩
  replace b9 := b8.trans (b9.mono b8.size)
  clear b7 b8 hB8
  go_wp2_with fail
  refine (awake_any w9).mono ?_
  rintro e w10 ⟨rfl, b10⟩
  go_wp2_with fail
  go_ret
  exact ⟨rfl, b9.trans (b10.mono b9.size)⟩

end Go.Proofs.Ytclhkngeicmlkaa.sumsNumbers

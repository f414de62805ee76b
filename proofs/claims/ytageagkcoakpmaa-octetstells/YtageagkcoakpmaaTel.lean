/-
  OctetsTells returns true: for any bytes, text, place and number all calls answer as the document defines; what is handed in stays.
-/
import Derived.Test.YtageagkcoakpmaaRtx
import Derived.Test.YtageagkcoakpmaaAwk
namespace Go.Proofs.Ytageagkcoakpmaa.octetsTells
open Go.RowKit

def ter (s : ByteArray) : Int := if s.size ≤ 65535 then 0 else 3
def tls (zs : List Int) (s : ByteArray) : List Int := if s.size ≤ 65535 then zs ++ (be 2 s.size ++ sb s) else []

theorem addText_uni (a : Option Addr) (n cap : Nat) (zs : List Int) (s : ByteArray) (w : World) (hB : Bs w a n cap zs) (hs2 : s.size ≤ 9223372036854775807) (h1 : n + 2 ≤ 140737488355328) :
    Calls Try.prog 12 #[.slice a n cap, .string s] w fun e w' => ∃ a' n' c', e = .returned (.tuple #[.slice a' n' c', .int .i64 (ter s)]) ∧ Bs w' a' n' c' (tls zs s) ∧ Below w.heap.size w w' := by
  by_cases h : s.size ≤ 65535
  · refine (addText_yes a n cap zs s w hB h (by omega)).mono ?_
    rintro e w' ⟨rfl, h2, h3⟩
    exact ⟨_, _, _, by rw [ter, if_pos h], by rw [tls, if_pos h]; exact h2, h3⟩
  · refine (addText_no a n cap s w (by omega) hs2).mono ?_
    rintro e w' ⟨rfl, rfl⟩
    exact ⟨_, _, _, by rw [ter, if_neg h], by rw [tls, if_neg h]; exact Bs.nil _, Below.refl _ _⟩

theorem raddText_uni (a : Option Addr) (n cap : Nat) (zs : List Int) (s : ByteArray) (w : World) (hB : Bs w a n cap zs) (hs2 : s.size ≤ 9223372036854775807) (h1 : n + 2 ≤ 140737488355328) :
    Calls Try.prog 22 #[.slice a n cap, .string s] w fun e w' => ∃ a' n' c', e = .returned (.tuple #[.slice a' n' c', .int .i64 (ter s)]) ∧ Bs w' a' n' c' (tls zs s) ∧ Below w.heap.size w w' := by
  by_cases h : s.size ≤ 65535
  · refine (raddText_yes a n cap zs s w hB h (by omega)).mono ?_
    rintro e w' ⟨g, d, rfl, h2, h3⟩
    exact ⟨_, _, _, by rw [ter, if_pos h], by rw [tls, if_pos h]; exact h2, h3⟩
  · refine (raddText_no a n cap s w (by omega) hs2).mono ?_
    rintro e w' ⟨rfl, rfl⟩
    exact ⟨_, _, _, by rw [ter, if_neg h], by rw [tls, if_neg h]; exact Bs.nil _, Below.refl _ _⟩

theorem addB {size : Nat} {zs : List Int} {y : Int} (hz : ∀ z ∈ zs, 0 ≤ z ∧ z ≤ 255) : ∀ z ∈ zs ++ be size y.toNat, 0 ≤ z ∧ z ≤ 255 := by
  intro z h
  rcases List.mem_append.1 h with h | h
  · exact hz z h
  · exact be_byte _ _ z h

theorem radd_int (a : Option Addr) (n cap : Nat) (zs : List Int) (y : Int) (size : Nat) (w : World) (hB : Bs w a n cap zs) (hn : n + size ≤ 140737488355328) (h8 : size ≤ 8) (hs : 0 < size) (h0 : 0 ≤ y) (hv : y ≤ 18446744073709551615) :
    Calls Try.prog 18 #[.slice a n cap, .int .u64 y, .int .i64 size] w fun e w' => ∃ g d, e = .returned (.slice (some ⟨g, 0, none⟩) (n + size) d) ∧
      Bs w' (some ⟨g, 0, none⟩) (n + size) d (zs ++ be size y.toNat) ∧ Below w.heap.size w w' := by
  obtain ⟨v, rfl⟩ := Int.eq_ofNat_of_zero_le h0
  refine (radd_any a n cap zs v size w hB hn h8 hs (by omega)).mono ?_
  rintro e w' ⟨g, d, rfl, hown, hb⟩
  exact ⟨g, d, rfl, own_bs hown (addB hB.byte), hb⟩

theorem add8_int (a : Option Addr) (n cap : Nat) (zs : List Int) (y : Int) (w : World) (hB : Bs w a n cap zs) (h1 : n + 1 ≤ 281474976710656) (h2 : 0 ≤ y) (h3 : y ≤ 255) :
    Calls Try.prog 17 #[.slice a n cap, .int .u8 y] w fun e w' => e = .returned (.slice (some ⟨w.heap.size, 0, none⟩) (n + 1) (n + 1)) ∧
      Bs w' (some ⟨w.heap.size, 0, none⟩) (n + 1) (n + 1) (zs ++ be 1 y.toNat) ∧ Below w.heap.size w w' := by
  obtain ⟨v, rfl⟩ := Int.eq_ofNat_of_zero_le h2
  exact add8_any a n cap zs v w hB h1 (by omega)

theorem add16_int (a : Option Addr) (n cap : Nat) (zs : List Int) (y : Int) (w : World) (hB : Bs w a n cap zs) (h1 : n + 2 ≤ 281474976710656) (h2 : 0 ≤ y) (h3 : y ≤ 65535) :
    Calls Try.prog 19 #[.slice a n cap, .int .u16 y] w fun e w' => e = .returned (.slice (some ⟨w.heap.size, 0, none⟩) (n + 2) (n + 2)) ∧
      Bs w' (some ⟨w.heap.size, 0, none⟩) (n + 2) (n + 2) (zs ++ be 2 y.toNat) ∧ Below w.heap.size w w' := by
  obtain ⟨v, rfl⟩ := Int.eq_ofNat_of_zero_le h2
  exact add16_any a n cap zs v w hB h1 (by omega)

theorem add32_int (a : Option Addr) (n cap : Nat) (zs : List Int) (y : Int) (w : World) (hB : Bs w a n cap zs) (h1 : n + 4 ≤ 281474976710656) (h2 : 0 ≤ y) (h3 : y ≤ 4294967295) :
    Calls Try.prog 20 #[.slice a n cap, .int .u32 y] w fun e w' => e = .returned (.slice (some ⟨w.heap.size, 0, none⟩) (n + 4) (n + 4)) ∧
      Bs w' (some ⟨w.heap.size, 0, none⟩) (n + 4) (n + 4) (zs ++ be 4 y.toNat) ∧ Below w.heap.size w w' := by
  obtain ⟨v, rfl⟩ := Int.eq_ofNat_of_zero_le h2
  exact add32_any a n cap zs v w hB h1 (by omega)

theorem add64_int (a : Option Addr) (n cap : Nat) (zs : List Int) (y : Int) (w : World) (hB : Bs w a n cap zs) (h1 : n + 8 ≤ 281474976710656) (h2 : 0 ≤ y) :
    Calls Try.prog 21 #[.slice a n cap, .int .u64 y] w fun e w' => e = .returned (.slice (some ⟨w.heap.size, 0, none⟩) (n + 8) (n + 8)) ∧
      Bs w' (some ⟨w.heap.size, 0, none⟩) (n + 8) (n + 8) (zs ++ be 8 y.toNat) ∧ Below w.heap.size w w' := by
  obtain ⟨v, rfl⟩ := Int.eq_ofNat_of_zero_le h2
  exact add64_any a n cap zs v w hB h1

theorem same_true {w : World} {a c : Option Addr} {n cap m dap : Nat} {xs ys : List Int} (h : xs = ys) (h1 : Bs w a n cap xs) (h2 : Bs w c m dap ys) :
    Calls Try.prog 16 #[.slice a n cap, .slice c m dap] w fun e w' => e = .returned (.bool true) ∧ w' = w := by
  subst h
  have h := same_any a c n cap m dap xs xs w h1 h2
  rw [decide_eq_true rfl] at h
  exact h

set_option maxRecDepth 100000 in
set_option maxHeartbeats 4000000 in
theorem walk (a : Option Addr) (n cap : Nat) (zs : List Int) (s : ByteArray) (at' : Int) (x : Nat) (w : World) (hB : Bs w a n cap zs) (hn : n ≤ 140737488351232) (hs : s.size ≤ 9223372036854775807) (hx : x ≤ 18446744073709551615) :
    Calls Try.prog 4 #[.slice a n cap, .string s, .int .i64 at', .int .u64 x] w fun e w' => e = .returned (.bool true) ∧ Below w.heap.size w w' := by
  have hby := hB.byte
  have n1 : num zs at' 1 ≤ 255 := by have := num_lt hby at' 1; omega
  have n2 : num zs at' 2 ≤ 65535 := by have := num_lt hby at' 2; omega
  have n4 : num zs at' 4 ≤ 4294967295 := by have := num_lt hby at' 4; omega
  have n8 : num zs at' 8 ≤ 18446744073709551615 := by have := num_lt hby at' 8; omega
  have u0 : 0 ≤ IntKind.u16.wrap (x : Int) := by rw [IntKind.wrap_u16]; omega
  have u1 : IntKind.u16.wrap (x : Int) ≤ 65535 := by rw [IntKind.wrap_u16]; omega
  go_enter Try.func4, Try.ntmps4
  go_wp2_with fail
  refine (lent_any _ _ _ zs _ hB (by omega)).mono ?_
  rintro e w1 ⟨g, d, rfl, BL, b1⟩
  have hb := hB.keep b1
  have hI : Bs w1 (some ⟨g, 0, none⟩) n d zs := by
    have h := BL.head n (by omega)
    rw [List.take_left' hB.len] at h
    exact h
  go_wp2_with fail
  refine (u8_any _ _ _ zs _ _ hI).mono ?_
  rintro e v ⟨rfl, rfl⟩
  go_wp2_with fail
  refine (u16_any _ _ _ zs _ _ hI).mono ?_
  rintro e v ⟨rfl, rfl⟩
  go_wp2_with fail
  refine (u32_any _ _ _ zs _ _ hI).mono ?_
  rintro e v ⟨rfl, rfl⟩
  go_wp2_with fail
  refine (u64_any _ _ _ zs _ _ hI).mono ?_
  rintro e v ⟨rfl, rfl⟩
  go_wp2_with fail
  refine (rnum_any _ _ _ zs _ 1 _ hb (by omega) (by omega)).mono ?_
  rintro e v ⟨rfl, rfl⟩
  go_wp2_with fail
  refine (rnum_any _ _ _ zs _ 2 _ hb (by omega) (by omega)).mono ?_
  rintro e v ⟨rfl, rfl⟩
  go_wp2_with fail
  refine (rnum_any _ _ _ zs _ 4 _ hb (by omega) (by omega)).mono ?_
  rintro e v ⟨rfl, rfl⟩
  go_wp2_with fail
  refine (rnum_any _ _ _ zs _ 8 _ hb (by omega) (by omega)).mono ?_
  rintro e v ⟨rfl, rfl⟩
  go_wp2_with fail
  refine (add8_int _ _ _ zs _ _ hI (by omega) (by omega) (by omega)).mono ?_
  rintro e w2 ⟨rfl, BA, bA⟩
  replace hb := hb.keep bA
  replace hI := hI.keep bA
  replace BL := BL.keep bA
  replace b1 := b1.trans (bA.mono b1.size)
  clear bA
  go_wp2_with fail
  refine (radd_int _ _ _ zs _ 1 _ hb (by omega) (by omega) (by omega) (by omega) (by omega)).mono ?_
  rintro e w3 ⟨g2, d2, rfl, BB, bB⟩
  replace hb := hb.keep bB
  replace hI := hI.keep bB
  replace BL := BL.keep bB
  replace BA := BA.keep bB
  replace b1 := b1.trans (bB.mono b1.size)
  clear bB
  go_wp2_with fail
  refine (same_true rfl BA BB).mono ?_
  rintro e v ⟨rfl, rfl⟩
  clear BA BB
  go_wp2_with fail
  refine (add16_int _ _ _ zs _ _ hI (by omega) u0 u1).mono ?_
  rintro e w2 ⟨rfl, BA, bA⟩
  replace hb := hb.keep bA
  replace hI := hI.keep bA
  replace BL := BL.keep bA
  replace b1 := b1.trans (bA.mono b1.size)
  clear bA
  go_wp2_with fail
  refine (radd_int _ _ _ zs _ 2 _ hb (by omega) (by omega) (by omega) (by omega) (by omega)).mono ?_
  rintro e w3 ⟨g2, d2, rfl, BB, bB⟩
  replace hb := hb.keep bB
  replace hI := hI.keep bB
  replace BL := BL.keep bB
  replace BA := BA.keep bB
  replace b1 := b1.trans (bB.mono b1.size)
  clear bB
  go_wp2_with fail
  refine (same_true (by rw [IntKind.wrap_u16]) BA BB).mono ?_
  rintro e v ⟨rfl, rfl⟩
  clear BA BB
  go_wp2_with fail
  refine (add32_int _ _ _ zs _ _ hI (by omega) (by omega) (by omega)).mono ?_
  rintro e w2 ⟨rfl, BA, bA⟩
  replace hb := hb.keep bA
  replace hI := hI.keep bA
  replace BL := BL.keep bA
  replace b1 := b1.trans (bA.mono b1.size)
  clear bA
  go_wp2_with fail
  refine (radd_int _ _ _ zs _ 4 _ hb (by omega) (by omega) (by omega) (by omega) (by omega)).mono ?_
  rintro e w3 ⟨g2, d2, rfl, BB, bB⟩
  replace hb := hb.keep bB
  replace hI := hI.keep bB
  replace BL := BL.keep bB
  replace BA := BA.keep bB
  replace b1 := b1.trans (bB.mono b1.size)
  clear bB
  go_wp2_with fail
  refine (same_true rfl BA BB).mono ?_
  rintro e v ⟨rfl, rfl⟩
  clear BA BB
  go_wp2_with fail
  refine (add64_int _ _ _ zs _ _ hI (by omega) (by omega)).mono ?_
  rintro e w2 ⟨rfl, BA, bA⟩
  replace hb := hb.keep bA
  replace hI := hI.keep bA
  replace BL := BL.keep bA
  replace b1 := b1.trans (bA.mono b1.size)
  clear bA
  go_wp2_with fail
  refine (radd_int _ _ _ zs _ 8 _ hb (by omega) (by omega) (by omega) (by omega) (by omega)).mono ?_
  rintro e w3 ⟨g2, d2, rfl, BB, bB⟩
  replace hb := hb.keep bB
  replace hI := hI.keep bB
  replace BL := BL.keep bB
  replace BA := BA.keep bB
  replace b1 := b1.trans (bB.mono b1.size)
  clear bB
  go_wp2_with fail
  refine (same_true rfl BA BB).mono ?_
  rintro e v ⟨rfl, rfl⟩
  clear BA BB
  go_wp2_with fail
  refine (addText_uni _ _ _ zs _ _ hI hs (by omega)).mono ?_
  rintro e w2 ⟨a2, n2, c2, rfl, BA, bA⟩
  replace hb := hb.keep bA
  replace hI := hI.keep bA
  replace BL := BL.keep bA
  replace b1 := b1.trans (bA.mono b1.size)
  clear bA
  go_wp2_with fail
  refine (raddText_uni _ _ _ zs _ _ hb hs (by omega)).mono ?_
  rintro e w3 ⟨a3, n3, c3, rfl, BB, bB⟩
  replace hb := hb.keep bB
  replace hI := hI.keep bB
  replace BL := BL.keep bB
  replace BA := BA.keep bB
  replace b1 := b1.trans (bB.mono b1.size)
  clear bB
  go_wp2_with fail
  refine (text_any _ _ _ zs _ _ hI).mono ?_
  rintro e v ⟨rfl, rfl⟩
  go_wp2_with fail
  refine (rtext_any _ _ _ zs _ _ hb).mono ?_
  rintro e v ⟨rfl, rfl⟩
  go_wp2_with fail
  refine (same_true rfl BA BB).mono ?_
  rintro e v ⟨rfl, rfl⟩
  clear BA BB
  go_wp2_with fail
  refine (kept_any _ _ _ _ _ zs _ BL hb).mono ?_
  rintro e v ⟨rfl, rfl⟩
  go_wp2_with fail
  refine (awake_any _).mono ?_
  rintro e w9 ⟨rfl, b9⟩
  go_wp2_with fail
  go_ret
  exact ⟨rfl, b1.trans (b9.mono b1.size)⟩

end Go.Proofs.Ytageagkcoakpmaa.octetsTells

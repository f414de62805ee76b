/-
  OctetsBack returns true: what is put behind bytes is read back where it was put.
-/
import Derived.Test.YtageagkcoakpmaaAwk
namespace Go.Proofs.Ytageagkcoakpmaa.octetsBack
open Go.RowKit

theorem add8_int (a : Option Addr) (n cap : Nat) (zs : List Int) (y : Int) (w : World) (hB : Bs w a n cap zs) (h1 : n + 1 ≤ 281474976710656) (h2 : 0 ≤ y) (h3 : y ≤ 255) :
    Calls Try.prog 17 #[.slice a n cap, .int .u8 y] w fun e w' => e = .returned (.slice (some ⟨w.heap.size, 0, none⟩) (n + 1) (n + 1)) ∧
      Bs w' (some ⟨w.heap.size, 0, none⟩) (n + 1) (n + 1) (zs ++ be 1 y.toNat) ∧ Below w.heap.size w w' := by
  obtain ⟨v, rfl⟩ := Int.eq_ofNat_of_zero_le h2
  exact add8_any a n cap zs v w hB h1 (by omega)

theorem add16_int (a : Option Addr) (n cap : Nat) (zs : List Int) (y : Int) (w : World) (hB : Bs w a n cap zs) (h1 : n + 2 ≤ 281474976710656) (h2 : 0 ≤ y) (h3 : y ≤ 65535) :
    Calls Try.prog 19 #[.slice a n cap, .int .u16 y] w fun e w' => e = .returned (.slice (some ⟨w.heap.size, 0, none⟩) (n + 2) (n + 2)) ∧
      Bs w' (some ⟨w.heap.size, 0, none⟩) (n + 2) (n + 2) (zs ++ be 2 y.toNat) ∧ Below w.heap.size w w' := by
  obtain ⟨v, rfl⟩ := Int.eq_ofNat_of_zero_le h2
  exact add16_any a n cap zs v w hB h1 (by omega)

theorem add32_int (a : Option Addr) (n cap : Nat) (zs : List Int) (y : Int) (w : World) (hB : Bs w a n cap zs) (h1 : n + 4 ≤ 281474976710656) (h2 : 0 ≤ y) (h3 : y ≤ 4294967295) :
    Calls Try.prog 20 #[.slice a n cap, .int .u32 y] w fun e w' => e = .returned (.slice (some ⟨w.heap.size, 0, none⟩) (n + 4) (n + 4)) ∧
      Bs w' (some ⟨w.heap.size, 0, none⟩) (n + 4) (n + 4) (zs ++ be 4 y.toNat) ∧ Below w.heap.size w w' := by
  obtain ⟨v, rfl⟩ := Int.eq_ofNat_of_zero_le h2
  exact add32_any a n cap zs v w hB h1 (by omega)

theorem wit_at (N : Nat) (at' : Int) (k : Nat) (h0 : 0 ≤ at') (h1 : at' + k ≤ N) : wit N at' k = true := by simp [wit]; omega

theorem num_at (pre rest : List Int) (at' : Int) (k v : Nat) (hm : at' = pre.length) (hv : v < 256 ^ k) : num (pre ++ (be k v ++ rest)) at' k = v := by
  subst hm
  unfold num
  rw [if_pos (wit_at _ _ _ (by omega) (by simp [be_length]; omega)), Int.toNat_natCast, List.drop_left, List.take_left' (be_length k v), un_be, Nat.mod_eq_of_lt hv]

theorem txb_at (pre rest : List Int) (at' : Int) (s : ByteArray) (hm : at' = pre.length) (hs : s.size ≤ 65535) : txb (pre ++ (be 2 s.size ++ (sb s ++ rest))) at' = true := by
  unfold txb
  rw [num_at pre (sb s ++ rest) at' 2 s.size hm (by omega)]
  have e : wit (pre ++ (be 2 s.size ++ (sb s ++ rest))).length at' 2 = true := wit_at _ at' 2 (by omega) (by simp [be_length, sb_length]; omega)
  rw [e]
  simp [be_length, sb_length]
  omega

theorem txs_at (pre rest : List Int) (at' : Int) (s : ByteArray) (hm : at' = pre.length) (hs : s.size ≤ 65535) : txs (pre ++ (be 2 s.size ++ (sb s ++ rest))) at' = sb s := by
  unfold txs
  rw [if_pos (txb_at pre rest at' s hm hs), num_at pre (sb s ++ rest) at' 2 s.size hm (by omega), hm, Int.toNat_natCast, ← List.append_assoc, List.drop_left' (by simp [be_length]), List.take_left' (sb_length s)]

theorem txe_at (pre rest : List Int) (at' : Int) (s : ByteArray) (hm : at' = pre.length) (hs : s.size ≤ 65535) : txe (pre ++ (be 2 s.size ++ (sb s ++ rest))) at' = at' + 2 + s.size := by
  unfold txe
  rw [if_pos (txb_at pre rest at' s hm hs), num_at pre (sb s ++ rest) at' 2 s.size hm (by omega)]

theorem u8_at {a : Option Addr} {n cap : Nat} {zs : List Int} {w : World} (hB : Bs w a n cap zs) (at' y : Int) (h : (num zs at' 1 : Int) = y) (hw : wit n at' 1 = true) :
    Calls Try.prog 9 #[.slice a n cap, .int .i64 at'] w fun e w' => e = .returned (.tuple #[.int .u8 y, .bool true]) ∧ w' = w := by
  have c := u8_any a n cap zs at' w hB
  rw [h, hw] at c
  exact c
theorem u16_at {a : Option Addr} {n cap : Nat} {zs : List Int} {w : World} (hB : Bs w a n cap zs) (at' y : Int) (h : (num zs at' 2 : Int) = y) (hw : wit n at' 2 = true) :
    Calls Try.prog 7 #[.slice a n cap, .int .i64 at'] w fun e w' => e = .returned (.tuple #[.int .u16 y, .bool true]) ∧ w' = w := by
  have c := u16_any a n cap zs at' w hB
  rw [h, hw] at c
  exact c
theorem u32_at {a : Option Addr} {n cap : Nat} {zs : List Int} {w : World} (hB : Bs w a n cap zs) (at' y : Int) (h : (num zs at' 4 : Int) = y) (hw : wit n at' 4 = true) :
    Calls Try.prog 10 #[.slice a n cap, .int .i64 at'] w fun e w' => e = .returned (.tuple #[.int .u32 y, .bool true]) ∧ w' = w := by
  have c := u32_any a n cap zs at' w hB
  rw [h, hw] at c
  exact c
theorem u64_at {a : Option Addr} {n cap : Nat} {zs : List Int} {w : World} (hB : Bs w a n cap zs) (at' y : Int) (h : (num zs at' 8 : Int) = y) (hw : wit n at' 8 = true) :
    Calls Try.prog 8 #[.slice a n cap, .int .i64 at'] w fun e w' => e = .returned (.tuple #[.int .u64 y, .bool true]) ∧ w' = w := by
  have c := u64_any a n cap zs at' w hB
  rw [h, hw] at c
  exact c
theorem text_at {a : Option Addr} {n cap : Nat} {zs : List Int} {w : World} (hB : Bs w a n cap zs) (at' z : Int) (s : ByteArray) (h1 : txs zs at' = sb s) (h2 : txe zs at' = z) (h3 : txb zs at' = true) :
    Calls Try.prog 11 #[.slice a n cap, .int .i64 at'] w fun e w' => e = .returned (.tuple #[.string s, .int .i64 z, .bool true]) ∧ w' = w := by
  have c := text_any a n cap zs at' w hB
  rw [h1, h2, h3, str_sb] at c
  exact c

theorem head_bs {w : World} {a : Option Addr} {n cap : Nat} {zs : List Int} (hB : Bs w a n cap zs) (m : Nat) (hm : m ≤ n) : Bs w a m cap (zs.take m) := by
  have hl := hB.len
  have hle := hB.le
  refine ⟨by simp; omega, by omega, hB.reach, take_byte hB.byte _, hB.bare, fun h => ?_⟩
  obtain ⟨b, off, ha, hc⟩ := hB.lies (by omega)
  refine ⟨b, off, ha, fun i hi => ?_⟩
  rw [hc i (by omega)]
  simp [List.getD, hi]

theorem same_true {w : World} {a c : Option Addr} {n cap m dap : Nat} {zs : List Int} (h1 : Bs w a n cap zs) (h2 : Bs w c m dap zs) :
    Calls Try.prog 16 #[.slice a n cap, .slice c m dap] w fun e w' => e = .returned (.bool true) ∧ w' = w := by
  have h := same_any a c n cap m dap zs zs w h1 h2
  rw [decide_eq_true rfl] at h
  exact h

/-- All that is put, one behind the other. -/
def all (zs : List Int) (y1 y2 y3 x : Nat) (p q : ByteArray) : List Int := zs ++ be 1 y1 ++ be 2 y2 ++ be 4 y3 ++ be 8 x ++ (be 2 p.size ++ sb p) ++ (be 2 q.size ++ sb q)

theorem all1 (zs : List Int) (n y1 y2 y3 x : Nat) (p q : ByteArray) (hn : zs.length = n) (h : y1 ≤ 255) : num (all zs y1 y2 y3 x p q) n 1 = y1 := by
  have := num_at zs (be 2 y2 ++ (be 4 y3 ++ (be 8 x ++ ((be 2 p.size ++ sb p) ++ (be 2 q.size ++ sb q))))) n 1 y1 (by rw [hn]) (by omega)
  simpa [all, List.append_assoc] using this
theorem all2 (zs : List Int) (n y1 y2 y3 x : Nat) (p q : ByteArray) (hn : zs.length = n) (h : y2 ≤ 65535) : num (all zs y1 y2 y3 x p q) ((n : Int) + 1) 2 = y2 := by
  have := num_at (zs ++ be 1 y1) (be 4 y3 ++ (be 8 x ++ ((be 2 p.size ++ sb p) ++ (be 2 q.size ++ sb q)))) ((n : Int) + 1) 2 y2 (by simp [be_length, hn]) (by omega)
  simpa [all, List.append_assoc] using this
theorem all3 (zs : List Int) (n y1 y2 y3 x : Nat) (p q : ByteArray) (hn : zs.length = n) (h : y3 ≤ 4294967295) : num (all zs y1 y2 y3 x p q) ((n : Int) + 3) 4 = y3 := by
  have := num_at (zs ++ be 1 y1 ++ be 2 y2) (be 8 x ++ ((be 2 p.size ++ sb p) ++ (be 2 q.size ++ sb q))) ((n : Int) + 3) 4 y3 (by simp [be_length, hn]) (by omega)
  simpa [all, List.append_assoc] using this
theorem all4 (zs : List Int) (n y1 y2 y3 x : Nat) (p q : ByteArray) (hn : zs.length = n) (h : x ≤ 18446744073709551615) : num (all zs y1 y2 y3 x p q) ((n : Int) + 7) 8 = x := by
  have := num_at (zs ++ be 1 y1 ++ be 2 y2 ++ be 4 y3) ((be 2 p.size ++ sb p) ++ (be 2 q.size ++ sb q)) ((n : Int) + 7) 8 x (by simp [be_length, hn]) (by omega)
  simpa [all, List.append_assoc] using this
theorem all5 (zs : List Int) (n y1 y2 y3 x : Nat) (p q : ByteArray) (hn : zs.length = n) (h : p.size ≤ 65535) : txs (all zs y1 y2 y3 x p q) ((n : Int) + 15) = sb p ∧ txe (all zs y1 y2 y3 x p q) ((n : Int) + 15) = (n : Int) + 15 + 2 + p.size ∧ txb (all zs y1 y2 y3 x p q) ((n : Int) + 15) = true := by
  have e : all zs y1 y2 y3 x p q = (zs ++ be 1 y1 ++ be 2 y2 ++ be 4 y3 ++ be 8 x) ++ (be 2 p.size ++ (sb p ++ (be 2 q.size ++ sb q))) := by simp [all, List.append_assoc]
  have hm : (n : Int) + 15 = ((zs ++ be 1 y1 ++ be 2 y2 ++ be 4 y3 ++ be 8 x).length : Int) := by simp [be_length, hn]
  rw [e]
  exact ⟨txs_at _ _ _ p hm h, txe_at _ _ _ p hm h, txb_at _ _ _ p hm h⟩
theorem all6 (zs : List Int) (n y1 y2 y3 x : Nat) (p q : ByteArray) (hn : zs.length = n) (h : q.size ≤ 65535) : txs (all zs y1 y2 y3 x p q) ((n : Int) + 15 + 2 + p.size) = sb q ∧ txe (all zs y1 y2 y3 x p q) ((n : Int) + 15 + 2 + p.size) = (n : Int) + 15 + 2 + p.size + 2 + q.size ∧
    txb (all zs y1 y2 y3 x p q) ((n : Int) + 15 + 2 + p.size) = true := by
  have e : all zs y1 y2 y3 x p q = (zs ++ be 1 y1 ++ be 2 y2 ++ be 4 y3 ++ be 8 x ++ (be 2 p.size ++ sb p)) ++ (be 2 q.size ++ (sb q ++ [])) := by simp [all, List.append_assoc]
  have hm : (n : Int) + 15 + 2 + p.size = ((zs ++ be 1 y1 ++ be 2 y2 ++ be 4 y3 ++ be 8 x ++ (be 2 p.size ++ sb p)).length : Int) := by simp [be_length, sb_length, hn]; omega
  rw [e]
  exact ⟨txs_at _ _ _ q hm h, txe_at _ _ _ q hm h, txb_at _ _ _ q hm h⟩
theorem all0 (zs : List Int) (n y1 y2 y3 x : Nat) (p q : ByteArray) (hn : zs.length = n) : (all zs y1 y2 y3 x p q).take n = zs := by
  subst hn
  simp [all, List.append_assoc]

set_option maxRecDepth 100000 in
set_option maxHeartbeats 1000000 in
theorem walk (a : Option Addr) (n cap : Nat) (zs : List Int) (p q : ByteArray) (x : Nat) (w : World) (hB : Bs w a n cap zs) (hn : n ≤ 140737488351232) (hp : p.size ≤ 65535) (hq : q.size ≤ 65535) (hx : x ≤ 18446744073709551615) :
    Calls Try.prog 5 #[.slice a n cap, .string p, .string q, .int .u64 x] w fun e w' => e = .returned (.bool true) ∧ Below w.heap.size w w' := by
  have u0 : 0 ≤ IntKind.u16.wrap ((x : Int) / 128) := by rw [IntKind.wrap_u16]; omega
  have u1 : IntKind.u16.wrap ((x : Int) / 128) ≤ 65535 := by rw [IntKind.wrap_u16]; omega
  go_enter Try.func5, Try.ntmps5
  go_wp2_with fail
  refine (add8_int _ _ _ zs _ _ hB (by omega) (by omega) (by omega)).mono ?_
  rintro e w1 ⟨rfl, B1, b1⟩
  go_wp2_with fail
  refine (add16_int _ _ _ _ _ _ B1 (by omega) u0 u1).mono ?_
  rintro e w2 ⟨rfl, B2, b2⟩
  replace b2 := b1.trans (b2.mono b1.size)
  clear B1 b1
  go_wp2_with fail
  refine (add32_int _ _ _ _ _ _ B2 (by omega) (by omega) (by omega)).mono ?_
  rintro e w3 ⟨rfl, B3, b3⟩
  replace b3 := b2.trans (b3.mono b2.size)
  clear B2 b2
  go_wp2_with fail
  refine (add64_any _ _ _ _ _ _ B3 (by omega)).mono ?_
  rintro e w4 ⟨rfl, B4, b4⟩
  replace b4 := b3.trans (b4.mono b3.size)
  clear B3 b3
  go_wp2_with fail
  refine (addText_yes _ _ _ _ _ _ B4 hp (by omega)).mono ?_
  rintro e w5 ⟨rfl, B5, b5⟩
  replace b5 := b4.trans (b5.mono b4.size)
  clear B4 b4
  go_wp2_with fail
  refine (addText_yes _ _ _ _ _ _ B5 hq (by omega)).mono ?_
  rintro e w6 ⟨rfl, B6, b6⟩
  replace b6 := b5.trans (b6.mono b5.size)
  clear B5 b5
  have A1 := all1 zs n ((x : Int) / 2048 % 256).toNat (IntKind.u16.wrap ((x : Int) / 128)).toNat ((x : Int) / 8 % 4294967296).toNat x p q hB.len (by omega)
  have A2 := all2 zs n ((x : Int) / 2048 % 256).toNat (IntKind.u16.wrap ((x : Int) / 128)).toNat ((x : Int) / 8 % 4294967296).toNat x p q hB.len (by omega)
  have A3 := all3 zs n ((x : Int) / 2048 % 256).toNat (IntKind.u16.wrap ((x : Int) / 128)).toNat ((x : Int) / 8 % 4294967296).toNat x p q hB.len (by omega)
  have A4 := all4 zs n ((x : Int) / 2048 % 256).toNat (IntKind.u16.wrap ((x : Int) / 128)).toNat ((x : Int) / 8 % 4294967296).toNat x p q hB.len hx
  have A5 := all5 zs n ((x : Int) / 2048 % 256).toNat (IntKind.u16.wrap ((x : Int) / 128)).toNat ((x : Int) / 8 % 4294967296).toNat x p q hB.len hp
  have A6 := all6 zs n ((x : Int) / 2048 % 256).toNat (IntKind.u16.wrap ((x : Int) / 128)).toNat ((x : Int) / 8 % 4294967296).toNat x p q hB.len hq
  have A0 := all0 zs n ((x : Int) / 2048 % 256).toNat (IntKind.u16.wrap ((x : Int) / 128)).toNat ((x : Int) / 8 % 4294967296).toNat x p q hB.len
  change Bs w6 _ _ _ (all zs ((x : Int) / 2048 % 256).toNat (IntKind.u16.wrap ((x : Int) / 128)).toNat ((x : Int) / 8 % 4294967296).toNat x p q) at B6
  generalize all zs ((x : Int) / 2048 % 256).toNat (IntKind.u16.wrap ((x : Int) / 128)).toNat ((x : Int) / 8 % 4294967296).toNat x p q = All at A0 A1 A2 A3 A4 A5 A6 B6
  have C1 := hide (u8_at B6 n ((x : Int) / 2048 % 256) (by rw [A1]; omega) (by simp [wit]; omega))
  have C2 := hide (u16_at B6 ((n : Int) + 1) (IntKind.u16.wrap ((x : Int) / 128)) (by rw [A2]; omega) (by simp [wit]; omega))
  have C3 := hide (u32_at B6 ((n : Int) + 3) ((x : Int) / 8 % 4294967296) (by rw [A3]; omega) (by simp [wit]; omega))
  have C4 := hide (u64_at B6 ((n : Int) + 7) x (by rw [A4]) (by simp [wit]; omega))
  have C5 := hide (text_at B6 ((n : Int) + 15) _ p A5.1 A5.2.1 A5.2.2)
  have C6 := hide (text_at B6 ((n : Int) + 15 + 2 + p.size) _ q A6.1 A6.2.1 A6.2.2)
  have H0 := head_bs B6 n (by omega)
  rw [A0] at H0
  have C0 := hide (same_true H0 (hB.keep b6))
  clear A0 A1 A2 A3 A4 A5 A6 B6 H0 hB
  go_wp2_with fail
  refine C1.out.mono ?_
  rintro e v1 ⟨rfl, h1⟩
  subst h1
  go_wp2_with fail
  refine C2.out.mono ?_
  rintro e v1 ⟨rfl, h1⟩
  subst h1
  go_wp2_with fail
  refine C3.out.mono ?_
  rintro e v1 ⟨rfl, h1⟩
  subst h1
  go_wp2_with fail
  refine C4.out.mono ?_
  rintro e v1 ⟨rfl, h1⟩
  subst h1
  go_wp2_with fail
  refine C5.out.mono ?_
  rintro e v1 ⟨rfl, h1⟩
  subst h1
  go_wp2_with fail
  refine C6.out.mono ?_
  rintro e v1 ⟨rfl, h1⟩
  subst h1
  clear C1 C2 C3 C4 C5 C6
  go_wp2_with fail
  refine C0.out.mono ?_
  rintro e v1 ⟨rfl, h1⟩
  subst h1
  clear C0
  go_wp2_with (go_at_call 13; refine (awake_any _).mono ?_; rintro e v8 ⟨rfl, c8⟩)
  go_ret
  exact ⟨rfl, b6.trans (c8.mono b6.size)⟩

set_option maxRecDepth 100000 in
set_option maxHeartbeats 400000 in
theorem walk_long (a : Option Addr) (n cap : Nat) (p q : ByteArray) (x : Nat) (w : World) (hp2 : p.size ≤ 9223372036854775807) (hq2 : q.size ≤ 9223372036854775807) (h : 65535 < p.size ∨ 65535 < q.size) :
    Calls Try.prog 5 #[.slice a n cap, .string p, .string q, .int .u64 x] w fun e w' => e = .returned (.bool true) ∧ Below w.heap.size w w' := by
  by_cases hp : 65535 < p.size
  · clear h
    go_enter Try.func5, Try.ntmps5
    go_wp2_with (go_at_call 13; refine (awake_any _).mono ?_; rintro e v8 ⟨rfl, c8⟩)
    go_ret
    exact ⟨rfl, c8⟩
  · have hq : 65535 < q.size := by omega
    clear h
    go_enter Try.func5, Try.ntmps5
    go_wp2_with (go_at_call 13; refine (awake_any _).mono ?_; rintro e v8 ⟨rfl, c8⟩)
    go_ret
    exact ⟨rfl, c8⟩

theorem walk_any (a : Option Addr) (n cap : Nat) (zs : List Int) (p q : ByteArray) (x : Nat) (w : World) (hB : Bs w a n cap zs) (hn : n ≤ 140737488351232) (hp2 : p.size ≤ 9223372036854775807) (hq2 : q.size ≤ 9223372036854775807) (hx : x ≤ 18446744073709551615) :
    Calls Try.prog 5 #[.slice a n cap, .string p, .string q, .int .u64 x] w fun e w' => e = .returned (.bool true) ∧ Below w.heap.size w w' := by
  by_cases hp : p.size ≤ 65535
  · by_cases hq : q.size ≤ 65535
    · exact walk a n cap zs p q x w hB hn hp hq hx
    · exact walk_long a n cap p q x w hp2 hq2 (by omega)
  · exact walk_long a n cap p q x w hp2 hq2 (by omega)

end Go.Proofs.Ytageagkcoakpmaa.octetsBack

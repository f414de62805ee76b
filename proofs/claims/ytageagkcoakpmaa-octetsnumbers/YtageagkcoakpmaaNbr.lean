/-
  OctetsNumbers returns true: the fixed examples of the chapter come out as written.
-/
import Derived.Test.YtageagkcoakpmaaAwk
import Derived.Deep.RegionWith
namespace Go.Proofs.Ytageagkcoakpmaa.octetsNumbers
open Go.RowKit

theorem conv {w : World} {a : Option Addr} {n cap : Nat} {zs : List Int} (h : Bs w a n cap zs) : (convert 25 9 (.slice a n cap)).run Try.prog w = .ok (.string (strOfNums zs)) w :=
  run_str 25 5 Try.underlying25 Try.underlying5 h 9 Try.underlying9

theorem wit22 (x : Int) (h : x ≠ 0) : wit 2 x 2 = false := by simp [wit]; omega
theorem wit24 (x : Int) : wit 2 x 4 = false := by simp [wit]; omega
theorem num22 (x : Int) (h : x ≠ 0) : num [1, 2] x 2 = 0 := by unfold num; rw [if_neg]; show ¬ wit 2 x 2 = true; rw [wit22 x h]; decide
theorem num24 (x : Int) : num [1, 2] x 4 = 0 := by unfold num; rw [if_neg]; show ¬ wit 2 x 4 = true; rw [wit24 x]; decide
theorem txb2 (x : Int) (h : x ≠ 0) : txb [1, 2] x = false := by unfold txb; rw [show ([1, 2] : List Int).length = 2 from rfl, wit22 x h]; rfl

/-- The row of two bytes, 1 and 2, written out. -/
theorem row12 (w : World) (g : Nat) (hg : w.heap.size = g) : Bs (w.alloc (.cells #[.int .u8 1, .int .u8 2] 5)) (some ⟨g, 0, none⟩) 2 2 [1, 2] := by
  subst hg; exact Bs.lit w [1, 2] 2 rfl (by decide) (by decide)

theorem u16_no (w : World) (g : Nat) (hg : w.heap.size = g) (x : Int) (h : x ≠ 0) : Calls Try.prog 7 #[.slice (some ⟨g, 0, none⟩) 2 2, .int .i64 x] (w.alloc (.cells #[.int .u8 1, .int .u8 2] 5)) fun e w' =>
    e = .returned (.tuple #[.int .u16 0, .bool false]) ∧ w' = w.alloc (.cells #[.int .u8 1, .int .u8 2] 5) := by
  have c := u16_any (some ⟨g, 0, none⟩) 2 2 [1, 2] x _ (row12 w g hg)
  rw [num22 x h, wit22 x h] at c
  exact c

theorem u32_no (w : World) (g : Nat) (hg : w.heap.size = g) (x : Int) : Calls Try.prog 10 #[.slice (some ⟨g, 0, none⟩) 2 2, .int .i64 x] (w.alloc (.cells #[.int .u8 1, .int .u8 2] 5)) fun e w' =>
    e = .returned (.tuple #[.int .u32 0, .bool false]) ∧ w' = w.alloc (.cells #[.int .u8 1, .int .u8 2] 5) := by
  have c := u32_any (some ⟨g, 0, none⟩) 2 2 [1, 2] x _ (row12 w g hg)
  rw [num24 x, wit24 x] at c
  exact c

theorem text_no (w : World) (g : Nat) (hg : w.heap.size = g) (x : Int) (h : x ≠ 0) : Calls Try.prog 11 #[.slice (some ⟨g, 0, none⟩) 2 2, .int .i64 x] (w.alloc (.cells #[.int .u8 1, .int .u8 2] 5)) fun e w' =>
    e = .returned (.tuple #[.string ByteArray.empty, .int .i64 0, .bool false]) ∧ w' = w.alloc (.cells #[.int .u8 1, .int .u8 2] 5) := by
  have c := text_any (some ⟨g, 0, none⟩) 2 2 [1, 2] x _ (row12 w g hg)
  have e1 : txs [1, 2] x = [] := by unfold txs; rw [txb2 x h]; rfl
  have e2 : txe [1, 2] x = 0 := by unfold txe; rw [txb2 x h]; rfl
  rw [txb2 x h, e1, e2] at c
  exact c

theorem u16_yes (w : World) (g : Nat) (hg : w.heap.size = g) : Calls Try.prog 7 #[.slice (some ⟨g, 0, none⟩) 2 2, .int .i64 0] (w.alloc (.cells #[.int .u8 1, .int .u8 2] 5)) fun e w' =>
    e = .returned (.tuple #[.int .u16 258, .bool true]) ∧ w' = w.alloc (.cells #[.int .u8 1, .int .u8 2] 5) :=
  u16_any (some ⟨g, 0, none⟩) 2 2 [1, 2] 0 _ (row12 w g hg)

theorem u64_yes (w : World) (g : Nat) (hg : w.heap.size = g) : Calls Try.prog 8 #[.slice (some ⟨g, 0, none⟩) 8 8, .int .i64 0] (w.alloc (.cells #[.int .u8 128, .int .u8 0, .int .u8 0, .int .u8 0, .int .u8 0, .int .u8 0, .int .u8 0, .int .u8 1] 5)) fun e w' =>
    e = .returned (.tuple #[.int .u64 9223372036854775809, .bool true]) ∧ w' = w.alloc (.cells #[.int .u8 128, .int .u8 0, .int .u8 0, .int .u8 0, .int .u8 0, .int .u8 0, .int .u8 0, .int .u8 1] 5) := by
  subst hg
  have c := u64_any (some ⟨w.heap.size, 0, none⟩) 8 8 [128, 0, 0, 0, 0, 0, 0, 1] 0 _ (Bs.lit w [128, 0, 0, 0, 0, 0, 0, 1] 8 rfl (by decide) (by decide))
  rw [show num [128, 0, 0, 0, 0, 0, 0, 1] 0 8 = 9223372036854775809 by decide, show wit 8 0 8 = true by decide] at c
  exact c

theorem u8_yes (w : World) (g : Nat) (hg : w.heap.size = g) : Calls Try.prog 9 #[.slice (some ⟨g, 0, none⟩) 1 1, .int .i64 0] (w.alloc (.cells #[.int .u8 5] 5)) fun e w' =>
    e = .returned (.tuple #[.int .u8 5, .bool true]) ∧ w' = w.alloc (.cells #[.int .u8 5] 5) := by
  subst hg
  exact u8_any (some ⟨w.heap.size, 0, none⟩) 1 1 [5] 0 _ (Bs.lit w [5] 1 rfl (by decide) (by decide))

theorem u64_no (a : Option Addr) (zs : List Int) (w : World) (hB : Bs w a 7 7 zs) : Calls Try.prog 8 #[.slice a 7 7, .int .i64 0] w fun e w' =>
    e = .returned (.tuple #[.int .u64 0, .bool false]) ∧ w' = w := by
  have c := u64_any a 7 7 zs 0 w hB
  have e0 : wit 7 0 8 = false := by decide
  have e1 : num zs 0 8 = 0 := by unfold num; rw [hB.len, if_neg]; show ¬ wit 7 0 8 = true; rw [e0]; decide
  rw [e0, e1] at c
  exact c

theorem text4 (l : List Int) (hl : l.length = 4) (hb : ∀ z ∈ l, 0 ≤ z ∧ z ≤ 255) (x : Int) (t : List Int) (y : Int) (o : Bool) (h1 : txs l x = t) (h2 : txe l x = y) (h3 : txb l x = o) (w : World) (g : Nat) (hg : w.heap.size = g) :
    Calls Try.prog 11 #[.slice (some ⟨g, 0, none⟩) 4 4, .int .i64 x] (w.alloc (.cells (U l).toArray 5)) fun e w' => e = .returned (.tuple #[.string (strOfNums t), .int .i64 y, .bool o]) ∧ w' = w.alloc (.cells (U l).toArray 5) := by
  subst hg h1 h2 h3
  exact text_any (some ⟨w.heap.size, 0, none⟩) 4 4 l x _ (Bs.lit w l 4 hl (by decide) hb)

theorem text_a (w : World) (g : Nat) (hg : w.heap.size = g) : Calls Try.prog 11 #[.slice (some ⟨g, 0, none⟩) 4 4, .int .i64 0] (w.alloc (.cells #[.int .u8 0, .int .u8 2, .int .u8 5, .int .u8 6] 5)) fun e w' =>
    e = .returned (.tuple #[.string ⟨#[5, 6]⟩, .int .i64 4, .bool true]) ∧ w' = w.alloc (.cells #[.int .u8 0, .int .u8 2, .int .u8 5, .int .u8 6] 5) :=
  text4 [0, 2, 5, 6] rfl (by decide) 0 [5, 6] 4 true (by decide) (by decide) (by decide) w g hg

theorem text_b (w : World) (g : Nat) (hg : w.heap.size = g) : Calls Try.prog 11 #[.slice (some ⟨g, 0, none⟩) 4 4, .int .i64 1] (w.alloc (.cells #[.int .u8 0, .int .u8 2, .int .u8 5, .int .u8 6] 5)) fun e w' =>
    e = .returned (.tuple #[.string ByteArray.empty, .int .i64 0, .bool false]) ∧ w' = w.alloc (.cells #[.int .u8 0, .int .u8 2, .int .u8 5, .int .u8 6] 5) :=
  text4 [0, 2, 5, 6] rfl (by decide) 1 [] 0 false (by decide) (by decide) (by decide) w g hg

theorem text_c (w : World) (g : Nat) (hg : w.heap.size = g) : Calls Try.prog 11 #[.slice (some ⟨g, 0, none⟩) 4 4, .int .i64 0] (w.alloc (.cells #[.int .u8 0, .int .u8 3, .int .u8 5, .int .u8 6] 5)) fun e w' =>
    e = .returned (.tuple #[.string ByteArray.empty, .int .i64 0, .bool false]) ∧ w' = w.alloc (.cells #[.int .u8 0, .int .u8 3, .int .u8 5, .int .u8 6] 5) :=
  text4 [0, 3, 5, 6] rfl (by decide) 0 [] 0 false (by decide) (by decide) (by decide) w g hg

/-- A make of so many bytes, turned into a text. -/
theorem zeros {w w1 : World} {n : Nat} (hn : n ≤ 1000000) (h : w1.ownsRow w.heap.size 5 1 (.slice (some ⟨w.heap.size, 0, none⟩) n n) n (madeCells (Value.int .u8 0).cells (n * 1)).toList) :
    Bs w1 (some ⟨w.heap.size, 0, none⟩) n n (List.replicate n 0) := by
  refine Bs.own (cur := U (List.replicate n 0)) (own_full h) (by rw [U_length, List.length_replicate]) (by simp) (Nat.le_refl _) (by omega) ?_ ?_
  · intro z hz
    rw [(List.mem_replicate.1 hz).2]
    omega
  · rw [List.take_of_length_le (by rw [U_length, List.length_replicate]; exact Nat.le_refl _)]
    rfl

theorem zerosText {w w1 : World} {n : Nat} (hn : n ≤ 1000000) (h : w1.ownsRow w.heap.size 5 1 (.slice (some ⟨w.heap.size, 0, none⟩) n n) n (madeCells (Value.int .u8 0).cells (n * 1)).toList) :
    ∃ s : ByteArray, s.size = n ∧ (convert 25 9 (.slice (some ⟨w.heap.size, 0, none⟩) n n)).run Try.prog w1 = .ok (.string s) w1 :=
  ⟨strOfNums (List.replicate n 0), by rw [strOfNums_size, List.length_replicate], conv (zeros hn h)⟩

theorem fresh {f : FuncId} {args : Array Value} {w : World} {o : Obj} {E : Ending} (h : Calls Try.prog f args (w.alloc o) fun e w' => e = E ∧ w' = w.alloc o) :
    Calls Try.prog f args (w.alloc o) fun e w' => e = E ∧ Below w.heap.size w w' := by
  refine h.mono ?_
  rintro e w' ⟨rfl, rfl⟩
  exact ⟨rfl, (Below.refl _ _).alloc (Nat.le_refl _) _⟩

def L : List Int := [1, -1, 2, 9223372036854775807, -9223372036854775808]

theorem text_long (S : ByteArray) (h : S.size = 65536) (w : World) : Calls Try.prog 12 #[.slice none 0 0, .string S] w fun e w' => e = .returned (.tuple #[.slice none 0 0, .int .i64 3]) ∧ w' = w :=
  addText_no none 0 0 S w (by rw [h]; decide) (by rw [h]; decide)

theorem text_big (S : ByteArray) (h : S.size = 65535) (w : World) : Calls Try.prog 12 #[.slice none 0 0, .string S] w fun e w' =>
    e = .returned (.tuple #[.slice (some ⟨w.heap.size, 0, none⟩) 65537 65537, .int .i64 0]) ∧ Below w.heap.size w w' := by
  have e : 0 + (2 + S.size) = 65537 := by rw [h]
  have c := addText_yes none 0 0 [] S w (Bs.nil w) (by rw [h]; decide) (by rw [h]; decide)
  rw [e] at c
  refine c.mono ?_
  rintro e w' ⟨rfl, _, hb⟩
  exact ⟨rfl, hb⟩

theorem L_ne (k : Nat) (h : k < 5) : L.getD k 0 ≠ 0 := by
  match k, h with
  | 0, _ => decide
  | 1, _ => decide
  | 2, _ => decide
  | 3, _ => decide
  | 4, _ => decide

theorem L_cell (w : World) (k : Nat) (h : k < 5) : (w.alloc (.cells #[.int .i64 1, .int .i64 (-1), .int .i64 2, .int .i64 9223372036854775807, .int .i64 (-9223372036854775808)] 3)).cell? ⟨w.heap.size, k, none⟩ = some (.int .i64 (L.getD k 0)) := by
  rw [cell_of_row _ _ k _ 3 (0, 0) (heap_alloc_new w _)]
  match k, h with
  | 0, _ => rfl
  | 1, _ => rfl
  | 2, _ => rfl
  | 3, _ => rfl
  | 4, _ => rfl

set_option maxRecDepth 100000 in
set_option maxHeartbeats 1000000 in
theorem walk (w : World) : Calls Try.prog 3 #[] w fun e w' => e = .returned (.bool true) ∧ Below w.heap.size w w' := by
  obtain ⟨i0, hi, hz0, hz1, hz2⟩ := info_parts info5
  go_enter Try.func3, Try.ntmps3
  go_wp2_with fail
  refine (fresh (u16_yes _ _ rfl)).mono ?_
  rintro e w1 ⟨rfl, b1⟩
  go_wp2_with (at_make; refine wpList_make_full _ rfl _ _ 25 rfl w1.heap.size 5 i0 (.int .u8 0) 1 Try.underlying25 hi hz0 hz1 .i64 .i64 _ _ 7 rfl rfl (by decide) (by decide) (by rw [hz2]; decide) (by unfold maxLen; decide) (Nat.le_refl _) ?_; intro w2 hown hgrow; have hB2 := zeros (by decide) hown; have b2 : Below w1.heap.size w1 w2 := (Below.refl _ _).grown hgrow (Nat.le_refl _) (fun k hk => by cases hk); clear hown hgrow)
  refine (u64_no _ _ _ hB2).mono ?_
  rintro e w3 ⟨rfl, h3⟩
  subst h3
  replace b2 := b1.trans (b2.mono b1.size)
  clear hB2 b1
  go_wp2_with fail
  refine (fresh (u64_yes _ _ rfl)).mono ?_
  rintro e w4 ⟨rfl, b4⟩
  replace b4 := b2.trans (b4.mono b2.size)
  clear b2
  go_wp2_with fail
  refine (fresh (u8_yes _ _ rfl)).mono ?_
  rintro e w5 ⟨rfl, b5⟩
  replace b5 := b4.trans (b5.mono b4.size)
  clear b4
  go_wp2_with fail
  go_loopw [78] (fun i wr => ∃ k : Nat, k ≤ 5 ∧ i = .int .i64 k ∧ Hid (∀ j, j < 5 → wr.cell? ⟨w5.heap.size, j, none⟩ = some (.int .i64 (L.getD j 0))) ∧ Below w.heap.size w wr)
    (fun i _ => 5 - (intOf i).toNat)
  case atStart => exact ⟨0, Nat.zero_le _, rfl, hide (L_cell w5), b5.alloc b5.size _⟩
  case round =>
    obtain ⟨k, hk, rfl, hc, hb⟩ := hrel
    by_cases hlt : k < 5
    · have hne := L_ne k hlt
      have hck := hc.out k hlt
      generalize L.getD k 0 = x at hne hck
      go_wp2_with fail
      refine (fresh (u16_no _ _ rfl _ hne)).mono ?_
      rintro e v1 ⟨rfl, c1⟩
      go_wp2_with fail
      refine (fresh (u32_no _ _ rfl _)).mono ?_
      rintro e v2 ⟨rfl, c2⟩
      go_wp2_with fail
      refine (fresh (text_no _ _ rfl _ hne)).mono ?_
      rintro e v3 ⟨rfl, c3⟩
      replace c3 := (c1.trans (c2.mono c1.size)).trans (c3.mono (Nat.le_trans c1.size c2.size))
      clear c1 c2
      go_wp2_with fail
      go_roundw
      case rel => exact ⟨k + 1, by omega, by go_num, hide (fun j hj => by rw [c3.cell (cell_lt (hc.out j hj))]; exact hc.out j hj), hb.trans (c3.mono hb.size)⟩
      case measure => simp [intOf]; omega
    · clear hc b5
      go_wp2_with fail
      refine (fresh (text_a _ _ rfl)).mono ?_
      rintro e v1 ⟨rfl, c1⟩
      replace c1 := hb.trans (c1.mono hb.size)
      go_wp2_with fail
      refine (fresh (text_b _ _ rfl)).mono ?_
      rintro e v2 ⟨rfl, c2⟩
      replace c2 := c1.trans (c2.mono c1.size)
      go_wp2_with fail
      refine (fresh (text_c _ _ rfl)).mono ?_
      rintro e v3 ⟨rfl, c3⟩
      replace c3 := c2.trans (c3.mono c2.size)
      clear hb c1 c2
      go_wp2_with (at_make; refine wpList_make_full _ rfl _ _ 25 rfl v3.heap.size 5 i0 (.int .u8 0) 1 Try.underlying25 hi hz0 hz1 .i64 .i64 _ _ 65536 rfl rfl (by decide) (by decide) (by rw [hz2]; decide) (by unfold maxLen; decide) (Nat.le_refl _) ?_; intro v4 hown hgrow; obtain ⟨S1, hS, kS1⟩ := zerosText (by decide) hown; have c4 : Below v3.heap.size v3 v4 := (Below.refl _ _).grown hgrow (Nat.le_refl _) (fun k hk => by cases hk); clear hown hgrow; have HS1 := hide hS; clear hS)
      replace c4 := c3.trans (c4.mono c3.size)
      refine (text_long S1 (unhide HS1) _).mono ?_
      rintro e v5 ⟨rfl, h5⟩
      subst h5
      clear kS1 c3
      go_wp2_with (at_make; refine wpList_make_full _ rfl _ _ 25 rfl v5.heap.size 5 i0 (.int .u8 0) 1 Try.underlying25 hi hz0 hz1 .i64 .i64 _ _ 65535 rfl rfl (by decide) (by decide) (by rw [hz2]; decide) (by unfold maxLen; decide) (Nat.le_refl _) ?_; intro v6 hown hgrow; obtain ⟨S2, hS, kS2⟩ := zerosText (by decide) hown; have c6 : Below v5.heap.size v5 v6 := (Below.refl _ _).grown hgrow (Nat.le_refl _) (fun k hk => by cases hk); clear hown hgrow; have HS2 := hide hS; clear hS)
      replace c6 := c4.trans (c6.mono c4.size)
      refine (text_big S2 (unhide HS2) _).mono ?_
      rintro e v7 ⟨rfl, c7⟩
      replace c7 := c6.trans (c7.mono c6.size)
      clear kS2 c4
      go_wp2_with (go_at_call 13; refine (awake_any _).mono ?_; rintro e v8 ⟨rfl, c8⟩)
      go_ret
      exact ⟨rfl, c7.trans (c8.mono c7.size)⟩

end Go.Proofs.Ytageagkcoakpmaa.octetsNumbers

/-
  What the document's own answers (Number, Add, AddText, Text) and the lending of bytes do, for any slice of bytes.
-/
import Derived.Test.YtageagkcoakpmaaTxt
import Derived.Test.YtageagkcoakpmaaApp
namespace Go.Proofs.Ytageagkcoakpmaa
open Go.RowKit

set_option maxHeartbeats 400000 in
theorem rnum_yes (a : Option Addr) (n cap : Nat) (zs : List Int) (p size : Nat) (w : World) (hB : Bs w a n cap zs) (h1 : size ≤ 8) (hs : 0 < size) (hp : p + size ≤ n) :
    Calls Try.prog 15 #[.slice a n cap, .int .i64 p, .int .i64 size] w fun e w' => e = .returned (.tuple #[.int .u64 (un ((zs.drop p).take size)), .bool true]) ∧ w' = w := by
  have hr := hB.reach
  have hle := hB.le
  obtain ⟨b, off, rfl, hcell⟩ := hB.lies (by omega)
  go_enter Try.func15, Try.ntmps15
  go_wp2
  go_loop [8, 9] (fun v i => ∃ k : Nat, k ≤ size ∧ i = .int .i64 k ∧ v = .int .u64 (un ((zs.drop p).take k))) (fun _ i => size - (intOf i).toNat)
  case atStart => exact ⟨0, Nat.zero_le _, rfl, rfl⟩
  case round =>
    obtain ⟨k, hk, rfl, rfl⟩ := hrel
    by_cases hlt : k < size
    · have hc := hcell (p + k) (by omega)
      have hz := getD_byte hB.byte (p + k)
      have hz0 := hz.1
      have hz1 := hz.2
      have hu : un (List.take k (List.drop p zs)) ≤ 72057594037927935 := by
        have := un_take_lt hB.byte p k 7 (by omega)
        omega
      have HS := hide (un_take_succ zs p k (by rw [hB.len]; omega))
      clear hz
      go_wp2
      go_round
      case rel => exact ⟨k + 1, by omega, by go_num, by rw [unhide HS]; go_num⟩
      case measure => simp [intOf]; omega
    · have hk' : k = size := by omega
      subst hk'
      go_wp2
      go_ret2
      exact ⟨rfl, rfl⟩

set_option maxHeartbeats 400000 in
theorem rnum_no (a : Option Addr) (n cap : Nat) (at' : Int) (size : Nat) (w : World) (hn : n ≤ 9223372036854775807) (h1 : size ≤ 8) (hp : wit n at' size = false) :
    Calls Try.prog 15 #[.slice a n cap, .int .i64 at', .int .i64 size] w fun e w' => e = .returned (.tuple #[.int .u64 0, .bool false]) ∧ w' = w := by
  simp only [wit, decide_eq_false_iff_not] at hp
  by_cases c1 : at' < 0
  · clear hp
    go_enter Try.func15, Try.ntmps15
    go_wp2
    go_ret2
    exact ⟨rfl, rfl⟩
  · by_cases c2 : n < size
    · clear hp
      go_enter Try.func15, Try.ntmps15
      go_wp2
      go_ret2
      exact ⟨rfl, rfl⟩
    · have c3 : (n : Int) - size < at' := by omega
      clear hp
      go_enter Try.func15, Try.ntmps15
      go_wp2
      go_ret2
      exact ⟨rfl, rfl⟩

theorem rnum_any (a : Option Addr) (n cap : Nat) (zs : List Int) (at' : Int) (size : Nat) (w : World) (hB : Bs w a n cap zs) (h1 : size ≤ 8) (hs : 0 < size) :
    Calls Try.prog 15 #[.slice a n cap, .int .i64 at', .int .i64 size] w fun e w' => e = .returned (.tuple #[.int .u64 (num zs at' size), .bool (wit n at' size)]) ∧ w' = w := by
  have hl := hB.len
  have hr := hB.reach
  have hle := hB.le
  cases hw : wit n at' size with
  | false =>
    have e : num zs at' size = 0 := by unfold num; rw [hl, hw]; rfl
    rw [e]
    exact rnum_no a n cap at' size w (by omega) h1 hw
  | true =>
    have e : num zs at' size = un ((zs.drop at'.toNat).take size) := by unfold num; rw [hl, hw]; rfl
    rw [e]
    have hw2 := hw
    simp only [wit, decide_eq_true_eq] at hw2
    obtain ⟨p, rfl⟩ := Int.eq_ofNat_of_zero_le hw2.1
    exact rnum_yes a n cap zs p size w hB h1 hs (by omega)

theorem Bs.head {w : World} {a : Option Addr} {n cap : Nat} {zs : List Int} (hB : Bs w a n cap zs) (m : Nat) (hm : m ≤ n) : Bs w a m cap (zs.take m) := by
  have hl := hB.len
  have hle := hB.le
  refine ⟨by simp; omega, by omega, hB.reach, take_byte hB.byte _, hB.bare, fun h => ?_⟩
  obtain ⟨b, off, ha, hc⟩ := hB.lies (by omega)
  refine ⟨b, off, ha, fun i hi => ?_⟩
  rw [hc i (by omega)]
  simp [List.getD, hi]

set_option maxHeartbeats 400000 in
theorem copy_any (a : Option Addr) (n cap : Nat) (zs : List Int) (w : World) (hB : Bs w a n cap zs) (hn : n ≤ 140737488355328) :
    Calls Try.prog 29 #[.slice a n cap] w fun e w' => ∃ c d, e = .returned (.slice c n d) ∧ w'.ownsRow w.heap.size 5 1 (.slice c n d) n (U zs) ∧ Below w.heap.size w w' := by
  obtain ⟨i0, hi, hz0, hz1, hz2⟩ := info_parts info5
  by_cases h0 : n = 0
  · subst h0
    have hz : zs = [] := List.eq_nil_of_length_eq_zero hB.len
    subst hz
    go_enter Try.func29, Try.ntmps29
    go_wp2_with (at_builtin; refine wpList_append_zero rfl (.tmp 4) (.tmp 5) 25 rfl 5 i0 Try.underlying25 hi rfl _ _ rfl ?_)
    go_ret
    exact ⟨_, _, rfl, World.ownsRow_nil _ _ _ _, Below.refl _ _⟩
  · go_enter Try.func29, Try.ntmps29
    go_wp2_with (at_builtin; refine wpList_append_bs rfl (.tmp 4) (.tmp 5) 25 rfl w.heap.size 5 i0 Try.underlying25 hi hz0 hz1 hz2 (.slice none 0 0) 0 [] rfl (World.ownsRow_nil _ _ _ _) _ _ _ zs rfl hB (by omega) (by omega) (Nat.le_refl _) ?_; intro g c w1 hown hgrow; simp only [Nat.zero_add, List.nil_append] at hown; rw [Nat.zero_add])
    go_ret
    exact ⟨_, _, rfl, hown, (Below.refl _ _).grown hgrow (Nat.le_refl _) (fun k hk => by cases hk)⟩

end Go.Proofs.Ytageagkcoakpmaa

/-
  What 'longer', 'fill', 'addNumber' and Add32 of the program's octets do, for any slice of bytes.
-/
import Derived.Test.YtkdolabhcbjipaaGreatBas
namespace Go.Proofs.YtkdolabhcbjipaaGreat
open Go.RowKit
set_option maxRecDepth 100000


set_option maxHeartbeats 400000 in
theorem longer_any (a : Option Addr) (n cap : Nat) (zs : List Int) (m : Nat) (w : World) (hB : Bs w a n cap zs) (h1 : n + m ≤ 281474976710656) :
    Calls Tryz.prog 89 #[.slice a n cap, .int .i64 m] w fun e w' => e = .returned (.slice (some ⟨w.heap.size, 0, none⟩) (n + m) (n + m)) ∧
      w'.heap[w.heap.size]? = some (.cells (U (zs ++ List.replicate m 0)).toArray 5 (0, 0)) ∧ Below w.heap.size w w' := by
  have hr := hB.reach
  have hle := hB.le
  obtain ⟨i0, hi, hz0, hz1, hz2⟩ := info_parts info5
  go_enter Tryz.func89, Tryz.ntmps89
  go_wp2_with (first
    | (at_make; refine wpList_make_full _ rfl (.tmp 9) (.tmp 9) 30 rfl w.heap.size 5 i0 (.int .u8 0) 1 Tryz.underlying30 hi hz0 hz1 .i64 .i64 _ _ (n + m) rfl rfl (by omega) (by omega) (by rw [hz2]; omega) (by unfold maxLen; omega) (Nat.le_refl _) ?_; intro w1 hown hgrow; have hg := hide (own_full hown); have hb : Below w.heap.size w w1 := (Below.refl _ _).grown hgrow (Nat.le_refl _) (fun k hk => by cases hk); clear hown hgrow)
    | (refine wpList_copy_splice rfl (.tmp 11) (.tmp 12) 30 30 rfl 5 Tryz.underlying30 size5 _ _ _ _ _ _ rfl rfl w.heap.size 0 _ 5 (unhide hg) (U zs) (by rw [U_length, hB.len]; exact (Nat.min_eq_left (by omega)).symm) (fun hp => ⟨rfl, Bs.src (hB.keep hb) (by rw [U_length, hB.len] at hp; exact hp)⟩) (by rw [U_length, zero_length, hB.len]; omega) (U_one zs) w.heap.size w hb (Nat.le_refl _) ?_; intro w2 hg2 hb2))
  go_ret
  have hg3 := hg2.out
  rw [splice_head zs n m hB.len] at hg3
  exact ⟨rfl, hg3, hb2⟩

set_option maxHeartbeats 400000 in
theorem ofill_any (g off m cap : Nat) (cur : List Value) (v size : Nat) (w : World) (hg : w.heap[g]? = some (.cells cur.toArray 5 (0, 0))) (hs : size ≤ m) (hm : m ≤ 9223372036854775807) (hfit : off + size ≤ cur.length) :
    Calls Tryz.prog 90 #[.slice (some ⟨g, off, none⟩) m cap, .int .u64 v, .int .i64 size] w fun e w' => e = .returned (.tuple #[]) ∧
      w'.heap[g]? = some (.cells (splice cur off (U (be size v))).toArray 5 (0, 0)) ∧ Below g w w' := by
  have HG := hide hg
  clear hg
  go_enter Tryz.func90, Tryz.ntmps90
  go_wp2
  go_loopw [1, 8] (fun x i wr => ∃ k y : Nat, k ≤ size ∧ i = .int .i64 k ∧ x = .int .u64 y ∧ Hid (y = v / 256 ^ k) ∧ Hid (wr.heap[g]? = some (.cells (splice cur (off + size - k) (U (be k v))).toArray 5 (0, 0))) ∧ Below g w wr)
    (fun _ i _ => size - (intOf i).toNat)
  case atStart => exact ⟨0, v, Nat.zero_le _, rfl, rfl, hide (by simp), hide (by simpa [be, U, splice_nil] using HG.out), Below.refl _ _⟩
  case round =>
    obtain ⟨k, y, hk, rfl, rfl, hy, hr, hb⟩ := hrel
    by_cases hlt : k < size
    · obtain ⟨u, hu⟩ := heap_cell (i := off + (size - 1 - k)) hr.out (by rw [splice_length_U (by rw [be_length]; omega)]; omega)
      have hf : wr.frozen? ⟨g, off + (size - 1 - k), none⟩ = false := heap_free hr.out
      go_wp2
      go_roundw
      case rel =>
        refine ⟨k + 1, y / 256, by omega, by go_num, by go_num, hide ?_, hide ?_, hb.setCell (Nat.le_refl _) _⟩
        · rw [hy.out, Nat.div_div_eq_div_mul, Nat.pow_succ]
        · rw [heap_set hr.out, fill_step hlt hfit hy.out]
      case measure => simp [intOf]; omega
    · have hk' : k = size := by omega
      subst hk'
      go_wp2
      go_end0
      have h2 := hr.out
      rw [show off + k - k = off from by omega] at h2
      exact ⟨rfl, h2, hb⟩

set_option maxHeartbeats 400000 in
theorem addNumber_any (a : Option Addr) (n cap : Nat) (zs : List Int) (v size : Nat) (w : World) (hB : Bs w a n cap zs) (h1 : n + size ≤ 281474976710656) (hs : 0 < size) :
    Calls Tryz.prog 78 #[.slice a n cap, .int .u64 v, .int .i64 size] w fun e w' => e = .returned (.slice (some ⟨w.heap.size, 0, none⟩) (n + size) (n + size)) ∧
      w'.heap[w.heap.size]? = some (.cells (U (zs ++ be size v)).toArray 5 (0, 0)) ∧ Below w.heap.size w w' := by
  have hr := hB.reach
  have hle := hB.le
  go_enter Tryz.func78, Tryz.ntmps78
  go_wp2_with (first
    | (go_at_call 89; refine (longer_any _ _ _ zs _ _ hB h1).mono ?_; rintro e w1 ⟨rfl, hg1, hb1⟩; have HG1 := hide hg1; clear hg1)
    | (go_at_call 90; refine (ofill_any _ _ _ _ _ _ _ _ HG1.out (Nat.le_refl _) (by omega) (by rw [U_length, List.length_append, List.length_replicate, hB.len]; omega)).mono ?_; rintro e w2 ⟨rfl, hg2, hb2⟩; have HG2 := hide hg2; clear hg2))
  go_ret
  have hg3 := HG2.out
  rw [splice_tail zs n hB.len _ size (be_length _ _)] at hg3
  exact ⟨rfl, hg3, hb1.trans hb2⟩

theorem add_bs {w' : World} {n size v g : Nat} {zs : List Int} (hn : zs.length = n) (hz : ∀ z ∈ zs, 0 ≤ z ∧ z ≤ 255) (h1 : n + size ≤ 281474976710656)
    (hg : w'.heap[g]? = some (.cells (U (zs ++ be size v)).toArray 5 (0, 0))) : Bs w' (some ⟨g, 0, none⟩) (n + size) (n + size) (zs ++ be size v) := by
  refine Bs.own (cur := U (zs ++ be size v)) hg (by rw [U_length]; simp [be_length, hn]) (by simp [be_length, hn]) (Nat.le_refl _) (by omega) ?_ ?_
  · intro z h
    rcases List.mem_append.1 h with h | h
    · exact hz z h
    · exact be_byte _ _ z h
  · rw [List.take_of_length_le (by rw [U_length]; simp [be_length, hn])]
    rfl

set_option maxHeartbeats 400000 in
theorem add32_any (a : Option Addr) (n cap : Nat) (zs : List Int) (v : Nat) (w : World) (hB : Bs w a n cap zs) (h1 : n + 4 ≤ 281474976710656) (hv : v ≤ 4294967295) :
    Calls Tryz.prog 56 #[.slice a n cap, .int .u32 v] w fun e w' => e = .returned (.slice (some ⟨w.heap.size, 0, none⟩) (n + 4) (n + 4)) ∧
      Bs w' (some ⟨w.heap.size, 0, none⟩) (n + 4) (n + 4) (zs ++ be 4 v) ∧ Below w.heap.size w w' := by
  go_enter Tryz.func56, Tryz.ntmps56
  go_wp2_with (go_at_call 78; refine (addNumber_any _ _ _ zs _ 4 _ hB h1 (by omega)).mono ?_; rintro e w1 ⟨rfl, hg1, hb1⟩; have HG1 := hide hg1; clear hg1)
  go_ret
  exact ⟨rfl, add_bs hB.len hB.byte h1 HG1.out, hb1⟩

end Go.Proofs.YtkdolabhcbjipaaGreat

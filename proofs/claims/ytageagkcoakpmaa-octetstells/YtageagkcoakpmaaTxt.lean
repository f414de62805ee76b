/-
  What 'SameBytes', 'Text' and 'AddText' do, for any slice of bytes and any string.
-/
import Derived.Test.YtageagkcoakpmaaNum
import Derived.Test.YtageagkcoakpmaaPut
import Derived.Lib.AppendStr
namespace Go.Proofs.Ytageagkcoakpmaa
open Go.RowKit

theorem str_beq {xs ys : List Int} (hx : ∀ z ∈ xs, 0 ≤ z ∧ z ≤ 255) (hy : ∀ z ∈ ys, 0 ≤ z ∧ z ≤ 255) : ((strOfNums xs).toList == (strOfNums ys).toList) = decide (xs = ys) := by
  have e : ∀ l : List Int, (strOfNums l).toList = l.map (fun n => UInt8.ofNat n.toNat) := fun l => by rw [ByteArray.toList_eq, strOfNums_data]
  rw [e, e, Bool.eq_iff_iff]
  simp only [beq_iff_eq, decide_eq_true_eq]
  exact ⟨strOf_inj hx hy, fun h => by rw [h]⟩

set_option maxHeartbeats 400000 in
theorem same_any (a c : Option Addr) (n cap m dap : Nat) (xs ys : List Int) (w : World) (hB : Bs w a n cap xs) (hC : Bs w c m dap ys) :
    Calls Try.prog 16 #[.slice a n cap, .slice c m dap] w fun e w' => e = .returned (.bool (decide (xs = ys))) ∧ w' = w := by
  have k1 : (convert 25 9 (.slice a n cap)).run Try.prog w = .ok (.string (strOfNums xs)) w := run_str 25 5 Try.underlying25 Try.underlying5 hB 9 Try.underlying9
  have k2 : (convert 25 9 (.slice c m dap)).run Try.prog w = .ok (.string (strOfNums ys)) w := run_str 25 5 Try.underlying25 Try.underlying5 hC 9 Try.underlying9
  go_enter Try.func16, Try.ntmps16
  go_wp2
  go_ret
  exact ⟨congrArg (fun x => Ending.returned (.bool x)) (str_beq hB.byte hC.byte), rfl⟩

set_option maxHeartbeats 400000 in
theorem text_no1 (a : Option Addr) (n cap : Nat) (zs : List Int) (at' : Int) (w : World) (hB : Bs w a n cap zs) (h : wit n at' 2 = false) :
    Calls Try.prog 11 #[.slice a n cap, .int .i64 at'] w fun e w' => e = .returned (.tuple #[.string ByteArray.empty, .int .i64 0, .bool false]) ∧ w' = w := by
  go_enter Try.func11, Try.ntmps11
  go_wp2_with (go_at_call 7; refine (u16_any _ _ _ zs _ _ hB).mono ?_; rintro e w' ⟨rfl, rfl⟩)
  go_ret3
  exact ⟨rfl, rfl⟩

set_option maxHeartbeats 400000 in
theorem text_no2 (a : Option Addr) (n cap : Nat) (zs : List Int) (p : Nat) (w : World) (hB : Bs w a n cap zs) (h : p + 2 ≤ n) (h2 : n < p + 2 + num zs p 2) :
    Calls Try.prog 11 #[.slice a n cap, .int .i64 p] w fun e w' => e = .returned (.tuple #[.string ByteArray.empty, .int .i64 0, .bool false]) ∧ w' = w := by
  have hr := hB.reach
  have hle := hB.le
  have hlt : num zs p 2 ≤ 65535 := by have := num_lt hB.byte p 2; omega
  have hw : wit n p 2 = true := by simp [wit]; omega
  have hw2 : wit n ((p : Int) + 2) (num zs p 2) = false := by simp [wit]; omega
  go_enter Try.func11, Try.ntmps11
  go_wp2_with (first
    | (go_at_call 7; refine (u16_any _ _ _ zs _ _ hB).mono ?_; rintro e w' ⟨rfl, rfl⟩)
    | (go_at_call 26; refine (within_any _ _ _ _ _ _ (by omega) (by omega) (by omega)).mono ?_; rintro e w' ⟨rfl, rfl⟩))
  go_ret3
  exact ⟨rfl, rfl⟩

theorem Bs.cut {w : World} {a : Option Addr} {n cap : Nat} {zs : List Int} (hB : Bs w a n cap zs) {lo hi : Nat} (h1 : lo < hi) (h2 : hi ≤ n) {b off : Nat} (ha : a = some ⟨b, off, none⟩) :
    Bs w (some ⟨b, off + lo, none⟩) (hi - lo) (cap - lo) ((zs.drop lo).take (hi - lo)) := by
  have hl := hB.len
  have hle := hB.le
  have hr := hB.reach
  refine ⟨by simp; omega, by omega, by omega, take_byte (drop_byte hB.byte _) _, fun h => (by cases h), fun _ => ⟨b, off + lo, rfl, fun i hi' => ?_⟩⟩
  obtain ⟨b', off', ha', hc⟩ := hB.lies (by omega)
  rw [ha] at ha'
  simp only [Option.some.injEq, Addr.mk.injEq, and_true] at ha'
  obtain ⟨rfl, rfl⟩ := ha'
  have := hc (lo + i) (by omega)
  rw [Nat.add_assoc, this]
  simp [List.getD, hi']

set_option maxHeartbeats 400000 in
theorem text_yes (a : Option Addr) (n cap : Nat) (zs : List Int) (p : Nat) (w : World) (hB : Bs w a n cap zs) (h2 : p + 2 + num zs p 2 ≤ n) :
    Calls Try.prog 11 #[.slice a n cap, .int .i64 p] w fun e w' => e = .returned (.tuple #[.string (strOfNums ((zs.drop (p + 2)).take (num zs p 2))), .int .i64 (p + 2 + num zs p 2), .bool true]) ∧ w' = w := by
  have hr := hB.reach
  have hle := hB.le
  have hlt : num zs p 2 ≤ 65535 := by have := num_lt hB.byte p 2; omega
  have hw : wit n p 2 = true := by simp [wit]; omega
  have hw2 : wit n ((p : Int) + 2) (num zs p 2) = true := by simp [wit]; omega
  obtain ⟨b, off, rfl, hc⟩ := hB.lies (by omega)
  have k0 : ∀ (ad : Addr) (c : Nat), (convert 25 9 (.slice (some ad) 0 c)).run Try.prog w = .ok (.string ByteArray.empty) w := fun ad c => by
    rw [run_convert_bytes_string w 25 9 5 _ 0 c Try.underlying25 Try.underlying5 Try.underlying9, run_bytesToString w _ 0 c [] (by simp [loadCells, loadCellsFrom])]
    rfl
  by_cases h0 : num zs p 2 = 0
  · have hw3 : wit n ((p : Int) + 2) 0 = true := by simp [wit]; omega
    clear hw2
    go_enter Try.func11, Try.ntmps11
    go_wp2_with (first
      | (go_at_call 7; refine (u16_any _ _ _ zs _ _ hB).mono ?_; rintro e w' ⟨rfl, rfl⟩)
      | (go_at_call 26; refine (within_any _ _ _ _ _ _ (by omega) (by omega) (by omega)).mono ?_; rintro e w' ⟨rfl, rfl⟩))
    all_goals
      go_ret3
      rw [h0]
      exact ⟨by simp; rfl, rfl⟩
  · have hp : 0 < num zs p 2 := by omega
    have k1 : (convert 25 9 (.slice (some ⟨b, off + (p + 2), none⟩) (num zs p 2) (cap - (p + 2)))).run Try.prog w = .ok (.string (strOfNums ((zs.drop (p + 2)).take (num zs p 2)))) w := by
      have hcut := hB.cut (lo := p + 2) (hi := p + 2 + num zs p 2) (by omega) h2 rfl
      rw [Nat.add_sub_cancel_left] at hcut
      exact run_str 25 5 Try.underlying25 Try.underlying5 hcut 9 Try.underlying9
    go_enter Try.func11, Try.ntmps11
    go_wp2_with (first
      | (go_at_call 7; refine (u16_any _ _ _ zs _ _ hB).mono ?_; rintro e w' ⟨rfl, rfl⟩)
      | (go_at_call 26; refine (within_any _ _ _ _ _ _ (by omega) (by omega) (by omega)).mono ?_; rintro e w' ⟨rfl, rfl⟩))
    go_ret3
    exact ⟨rfl, rfl⟩

/-- Is there a text at a place; its bytes; the place behind it. -/
def txb (zs : List Int) (at' : Int) : Bool := wit zs.length at' 2 && decide (at' + 2 + num zs at' 2 ≤ zs.length)
def txs (zs : List Int) (at' : Int) : List Int := if txb zs at' = true then (zs.drop (at'.toNat + 2)).take (num zs at' 2) else []
def txe (zs : List Int) (at' : Int) : Int := if txb zs at' = true then at' + 2 + num zs at' 2 else 0

theorem txs_byte {zs : List Int} (h : ∀ z ∈ zs, 0 ≤ z ∧ z ≤ 255) (at' : Int) : ∀ z ∈ txs zs at', 0 ≤ z ∧ z ≤ 255 := by
  unfold txs
  split
  · exact take_byte (drop_byte h _) _
  · simp

theorem text_any (a : Option Addr) (n cap : Nat) (zs : List Int) (at' : Int) (w : World) (hB : Bs w a n cap zs) :
    Calls Try.prog 11 #[.slice a n cap, .int .i64 at'] w fun e w' => e = .returned (.tuple #[.string (strOfNums (txs zs at')), .int .i64 (txe zs at'), .bool (txb zs at')]) ∧ w' = w := by
  have hl := hB.len
  cases hw : wit n at' 2 with
  | false =>
    have e : txb zs at' = false := by unfold txb; rw [hl, hw]; rfl
    have e1 : txs zs at' = [] := by unfold txs; rw [e]; rfl
    have e2 : txe zs at' = 0 := by unfold txe; rw [e]; rfl
    rw [e, e1, e2]
    exact text_no1 a n cap zs at' w hB hw
  | true =>
    have hw2 := hw
    simp only [wit, decide_eq_true_eq] at hw2
    obtain ⟨p, rfl⟩ := Int.eq_ofNat_of_zero_le hw2.1
    by_cases h : p + 2 + num zs p 2 ≤ n
    · have e : txb zs p = true := by unfold txb; rw [hl, hw]; simp; omega
      have e1 : txs zs p = (zs.drop (p + 2)).take (num zs p 2) := by unfold txs; rw [e]; rfl
      have e2 : txe zs p = p + 2 + num zs p 2 := by unfold txe; rw [e]; rfl
      rw [e, e1, e2]
      exact text_yes a n cap zs p w hB h
    · have e : txb zs p = false := by unfold txb; rw [hl, hw]; simp; omega
      have e1 : txs zs p = [] := by unfold txs; rw [e]; rfl
      have e2 : txe zs p = 0 := by unfold txe; rw [e]; rfl
      rw [e, e1, e2]
      exact text_no2 a n cap zs p w hB (by omega) (by omega)

set_option maxHeartbeats 400000 in
theorem addText_no (a : Option Addr) (n cap : Nat) (s : ByteArray) (w : World) (hs : 65535 < s.size) (hs2 : s.size ≤ 9223372036854775807) :
    Calls Try.prog 12 #[.slice a n cap, .string s] w fun e w' => e = .returned (.tuple #[.slice none 0 0, .int .i64 3]) ∧ w' = w := by
  go_enter Try.func12, Try.ntmps12
  go_wp2
  go_ret2
  exact ⟨rfl, rfl⟩

theorem textRow_bs {w' : World} {n g : Nat} {zs : List Int} {s : ByteArray} (hn : zs.length = n) (hz : ∀ z ∈ zs, 0 ≤ z ∧ z ≤ 255) (h1 : n + 2 + s.size ≤ 281474976710656)
    (hg : w'.heap[g]? = some (.cells (U (zs ++ (be 2 s.size ++ sb s))).toArray 5 (0, 0))) : Bs w' (some ⟨g, 0, none⟩) (n + (2 + s.size)) (n + (2 + s.size)) (zs ++ (be 2 s.size ++ sb s)) := by
  have hl : (zs ++ (be 2 s.size ++ sb s)).length = n + (2 + s.size) := by simp [be_length, sb_length, hn]
  refine Bs.own (cur := U (zs ++ (be 2 s.size ++ sb s))) hg (by rw [U_length, hl]) hl (Nat.le_refl _) (by omega) ?_ ?_
  · intro z h
    rcases List.mem_append.1 h with h | h
    · exact hz z h
    · rcases List.mem_append.1 h with h | h
      · exact be_byte _ _ z h
      · exact sb_byte _ z h
  · rw [List.take_of_length_le (by rw [U_length, hl]; exact Nat.le_refl _)]
    rfl

set_option maxHeartbeats 400000 in
theorem addText_zero (a : Option Addr) (n cap : Nat) (zs : List Int) (w : World) (hB : Bs w a n cap zs) (h1 : n + 2 ≤ 281474976710656) :
    Calls Try.prog 12 #[.slice a n cap, .string ByteArray.empty] w fun e w' => e = .returned (.tuple #[.slice (some ⟨w.heap.size, 0, none⟩) (n + 2) (n + 2), .int .i64 0]) ∧
      w'.heap[w.heap.size]? = some (.cells (U (zs ++ be 2 0)).toArray 5 (0, 0)) ∧ Below w.heap.size w w' := by
  have hr := hB.reach
  have hle := hB.le
  have e2 := hide (splice_tail zs n hB.len (be 2 0) 2 (be_length _ _))
  have E1 := hide (show (zs ++ be 2 0).length = n + 2 by rw [List.length_append, be_length, hB.len])
  go_enter Try.func12, Try.ntmps12
  go_wp2_with (first
    | (go_at_call 27; refine (longer_any _ _ _ zs 2 _ hB (by omega)).mono ?_; rintro e w1 ⟨rfl, hg1, hb1⟩; have HG1 := hide hg1; clear hg1)
    | (go_at_call 28; refine (fill_any _ _ _ _ _ 0 2 _ HG1.out (by omega) (by omega) (by rw [U_length, List.length_append, List.length_replicate, hB.len]; omega)).mono ?_; rintro e w2 ⟨rfl, hg2, hb2⟩; rw [unhide e2] at hg2; have HG2 := hide hg2; clear hg2)
    | (refine wpList_copy_str rfl (.tmp 27) (.tmp 28) 25 9 rfl 5 Try.underlying25 size5 _ _ _ ByteArray.empty rfl rfl (Nat.zero_le _) w.heap.size (n + 2) _ 5 (unhide HG2) (fun hp => (by cases hp)) (by rw [U_length, unhide E1]; exact Nat.le_refl _) w.heap.size w (hb1.trans hb2) (Nat.le_refl _) ?_; intro w3 hg3 hb3))
  go_ret2
  refine ⟨rfl, ?_, hb3⟩
  have h3 := hg3.out
  rw [show U (sb ByteArray.empty) = [] from rfl, splice_nil] at h3
  exact h3

set_option maxHeartbeats 400000 in
theorem addText_yes (a : Option Addr) (n cap : Nat) (zs : List Int) (s : ByteArray) (w : World) (hB : Bs w a n cap zs) (hs : s.size ≤ 65535) (h1 : n + 2 + s.size ≤ 281474976710656) :
    Calls Try.prog 12 #[.slice a n cap, .string s] w fun e w' => e = .returned (.tuple #[.slice (some ⟨w.heap.size, 0, none⟩) (n + (2 + s.size)) (n + (2 + s.size)), .int .i64 0]) ∧
      Bs w' (some ⟨w.heap.size, 0, none⟩) (n + (2 + s.size)) (n + (2 + s.size)) (zs ++ (be 2 s.size ++ sb s)) ∧ Below w.heap.size w w' := by
  have hr := hB.reach
  have hle := hB.le
  by_cases h0 : s.size = 0
  · have hse : s = ByteArray.empty := by
      apply ByteArray.ext
      apply Array.ext'
      exact List.eq_nil_of_length_eq_zero (by rw [Array.length_toList]; exact h0)
    subst hse
    refine (addText_zero a n cap zs w hB (by omega)).mono ?_
    rintro e w' ⟨rfl, hg, hb⟩
    exact ⟨rfl, textRow_bs (s := ByteArray.empty) hB.len hB.byte h1 (by rw [show be 2 ByteArray.empty.size ++ sb ByteArray.empty = be 2 0 from rfl]; exact hg), hb⟩
  · have e0 := hide (show (2 + (s.size : Int)) = ((2 + s.size : Nat) : Int) from by omega)
    have E1 := hide (show (zs ++ be 2 s.size).length = n + 2 by rw [List.length_append, be_length, hB.len])
    have e2 := hide (splice_mid zs n hB.len (be 2 s.size) (2 + s.size) (by rw [be_length]; omega))
    have e3 := hide (splice_tail (zs ++ be 2 s.size) (n + 2) (by rw [List.length_append, be_length, hB.len]) (sb s) (2 + s.size - (be 2 s.size).length) (by rw [be_length, sb_length]; omega))
    go_enter Try.func12, Try.ntmps12
    go_wp2_with (first
      | (go_at_call 27; rw [unhide e0]; refine (longer_any _ _ _ zs (2 + s.size) _ hB (by omega)).mono ?_; rintro e w1 ⟨rfl, hg1, hb1⟩; have HG1 := hide hg1; clear hg1)
      | (go_at_call 28; refine (fill_any _ _ _ _ _ s.size 2 _ HG1.out (by omega) (by omega) (by rw [U_length, List.length_append, List.length_replicate, hB.len]; omega)).mono ?_; rintro e w2 ⟨rfl, hg2, hb2⟩; rw [unhide e2] at hg2; have HG2 := hide hg2; clear hg2)
      | (refine wpList_copy_str rfl (.tmp 27) (.tmp 28) 25 9 rfl 5 Try.underlying25 size5 _ _ _ s rfl rfl (by omega) w.heap.size (n + 2) _ 5 (unhide HG2) (fun _ => rfl) (by rw [U_length, List.length_append, List.length_replicate, unhide E1, be_length]; omega) w.heap.size w (hb1.trans hb2) (Nat.le_refl _) ?_; intro w3 hg3 hb3))
    go_ret2
    have h3 := hg3.out
    rw [unhide e3, List.append_assoc] at h3
    exact ⟨rfl, textRow_bs hB.len hB.byte h1 h3, hb3⟩

end Go.Proofs.Ytageagkcoakpmaa

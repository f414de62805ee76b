/-
  What the document's own AddText and Text do, for any slice of bytes and any text.
-/
import Derived.Test.YtageagkcoakpmaaAdd
namespace Go.Proofs.Ytageagkcoakpmaa
open Go.RowKit

set_option maxHeartbeats 400000 in
theorem raddText_no (a : Option Addr) (n cap : Nat) (s : ByteArray) (w : World) (hs : 65535 < s.size) (hs2 : s.size ≤ 9223372036854775807) :
    Calls Try.prog 22 #[.slice a n cap, .string s] w fun e w' => e = .returned (.tuple #[.slice none 0 0, .int .i64 3]) ∧ w' = w := by
  go_enter Try.func22, Try.ntmps22
  go_wp2
  go_ret2
  exact ⟨rfl, rfl⟩

set_option maxHeartbeats 400000 in
theorem raddText_yes (a : Option Addr) (n cap : Nat) (zs : List Int) (s : ByteArray) (w : World) (hB : Bs w a n cap zs) (hs : s.size ≤ 65535) (h1 : n + 2 ≤ 140737488355328) :
    Calls Try.prog 22 #[.slice a n cap, .string s] w fun e w' => ∃ g d, e = .returned (.tuple #[.slice (some ⟨g, 0, none⟩) (n + 2 + s.size) d, .int .i64 0]) ∧
      Bs w' (some ⟨g, 0, none⟩) (n + 2 + s.size) d (zs ++ (be 2 s.size ++ sb s)) ∧ Below w.heap.size w w' := by
  obtain ⟨i0, hi, hz0, hz1, hz2⟩ := info_parts info5
  have hby : ∀ z ∈ zs ++ (be 2 s.size ++ sb s), 0 ≤ z ∧ z ≤ 255 := by
    intro z h
    rcases List.mem_append.1 h with h | h
    · exact hB.byte z h
    · rcases List.mem_append.1 h with h | h
      · exact be_byte _ _ z h
      · exact sb_byte _ z h
  go_enter Try.func22, Try.ntmps22
  go_wp2_with fail
  refine (radd_any _ _ _ zs s.size 2 _ hB (by omega) (by omega) (by omega) (by omega)).mono ?_
  rintro e w1 ⟨g, d, rfl, hown, hb⟩
  go_wp2_with (at_builtin; refine wpList_append_str rfl (.tmp 13) (.tmp 14) 25 9 rfl w.heap.size 5 i0 Try.underlying25 Try.underlying9 hi hz0 hz1 hz2 g (n + 2) d _ rfl hown s rfl (by omega) hb.size ?_; intro g2 d2 w2 hown2 hgrow2)
  go_ret2
  rw [List.append_assoc] at hown2
  refine ⟨g2, d2, rfl, own_bs hown2 hby, hb.grown hgrow2 hb.size ?_⟩
  intro k hk
  have := (own_lt hown).1
  simp only [Option.some.injEq] at hk
  omega

set_option maxHeartbeats 400000 in
theorem rtext_no1 (a : Option Addr) (n cap : Nat) (zs : List Int) (at' : Int) (w : World) (hB : Bs w a n cap zs) (h : wit n at' 2 = false) :
    Calls Try.prog 23 #[.slice a n cap, .int .i64 at'] w fun e w' => e = .returned (.tuple #[.string ByteArray.empty, .int .i64 0, .bool false]) ∧ w' = w := by
  go_enter Try.func23, Try.ntmps23
  go_wp2_with (go_at_call 15; refine (rnum_any _ _ _ zs _ 2 _ hB (by omega) (by omega)).mono ?_; rintro e w' ⟨rfl, rfl⟩)
  go_ret3
  exact ⟨rfl, rfl⟩

set_option maxHeartbeats 400000 in
theorem rtext_no2 (a : Option Addr) (n cap : Nat) (zs : List Int) (p : Nat) (w : World) (hB : Bs w a n cap zs) (h : p + 2 ≤ n) (h2 : n < p + 2 + num zs p 2) :
    Calls Try.prog 23 #[.slice a n cap, .int .i64 p] w fun e w' => e = .returned (.tuple #[.string ByteArray.empty, .int .i64 0, .bool false]) ∧ w' = w := by
  have hr := hB.reach
  have hle := hB.le
  have hlt : num zs p 2 ≤ 65535 := by have := num_lt hB.byte p 2; omega
  have hw : wit n p 2 = true := by simp [wit]; omega
  go_enter Try.func23, Try.ntmps23
  go_wp2_with (go_at_call 15; refine (rnum_any _ _ _ zs _ 2 _ hB (by omega) (by omega)).mono ?_; rintro e w' ⟨rfl, rfl⟩)
  go_ret3
  exact ⟨rfl, rfl⟩

set_option maxHeartbeats 400000 in
theorem rtext_yes (a : Option Addr) (n cap : Nat) (zs : List Int) (p : Nat) (w : World) (hB : Bs w a n cap zs) (h2 : p + 2 + num zs p 2 ≤ n) :
    Calls Try.prog 23 #[.slice a n cap, .int .i64 p] w fun e w' => e = .returned (.tuple #[.string (strOfNums ((zs.drop (p + 2)).take (num zs p 2))), .int .i64 (p + 2 + num zs p 2), .bool true]) ∧ w' = w := by
  have hr := hB.reach
  have hle := hB.le
  have hlt : num zs p 2 ≤ 65535 := by have := num_lt hB.byte p 2; omega
  have hw : wit n p 2 = true := by simp [wit]; omega
  obtain ⟨b, off, rfl, hc⟩ := hB.lies (by omega)
  have k0 : ∀ (ad : Addr) (c : Nat), (convert 25 9 (.slice (some ad) 0 c)).run Try.prog w = .ok (.string ByteArray.empty) w := fun ad c => by
    rw [run_convert_bytes_string w 25 9 5 _ 0 c Try.underlying25 Try.underlying5 Try.underlying9, run_bytesToString w _ 0 c [] (by simp [loadCells, loadCellsFrom])]
    rfl
  by_cases h0 : num zs p 2 = 0
  · go_enter Try.func23, Try.ntmps23
    go_wp2_with (go_at_call 15; refine (rnum_any _ _ _ zs _ 2 _ hB (by omega) (by omega)).mono ?_; rintro e w' ⟨rfl, rfl⟩)
    all_goals
      go_ret3
      rw [h0]
      exact ⟨by simp; rfl, rfl⟩
  · have hp : 0 < num zs p 2 := by omega
    have k1 : (convert 25 9 (.slice (some ⟨b, off + (p + 2), none⟩) (num zs p 2) (cap - (p + 2)))).run Try.prog w = .ok (.string (strOfNums ((zs.drop (p + 2)).take (num zs p 2)))) w := by
      have hcut := hB.cut (lo := p + 2) (hi := p + 2 + num zs p 2) (by omega) h2 rfl
      rw [Nat.add_sub_cancel_left] at hcut
      exact run_str 25 5 Try.underlying25 Try.underlying5 hcut 9 Try.underlying9
    go_enter Try.func23, Try.ntmps23
    go_wp2_with (go_at_call 15; refine (rnum_any _ _ _ zs _ 2 _ hB (by omega) (by omega)).mono ?_; rintro e w' ⟨rfl, rfl⟩)
    go_ret3
    exact ⟨rfl, rfl⟩

theorem rtext_any (a : Option Addr) (n cap : Nat) (zs : List Int) (at' : Int) (w : World) (hB : Bs w a n cap zs) :
    Calls Try.prog 23 #[.slice a n cap, .int .i64 at'] w fun e w' => e = .returned (.tuple #[.string (strOfNums (txs zs at')), .int .i64 (txe zs at'), .bool (txb zs at')]) ∧ w' = w := by
  have hl := hB.len
  cases hw : wit n at' 2 with
  | false =>
    have e : txb zs at' = false := by unfold txb; rw [hl, hw]; rfl
    have e1 : txs zs at' = [] := by unfold txs; rw [e]; rfl
    have e2 : txe zs at' = 0 := by unfold txe; rw [e]; rfl
    rw [e, e1, e2]
    exact rtext_no1 a n cap zs at' w hB hw
  | true =>
    have hw2 := hw
    simp only [wit, decide_eq_true_eq] at hw2
    obtain ⟨p, rfl⟩ := Int.eq_ofNat_of_zero_le hw2.1
    by_cases h : p + 2 + num zs p 2 ≤ n
    · have e : txb zs p = true := by unfold txb; rw [hl, hw]; simp; omega
      have e1 : txs zs p = (zs.drop (p + 2)).take (num zs p 2) := by unfold txs; rw [e]; rfl
      have e2 : txe zs p = p + 2 + num zs p 2 := by unfold txe; rw [e]; rfl
      rw [e, e1, e2]
      exact rtext_yes a n cap zs p w hB h
    · have e : txb zs p = false := by unfold txb; rw [hl, hw]; simp; omega
      have e1 : txs zs p = [] := by unfold txs; rw [e]; rfl
      have e2 : txe zs p = 0 := by unfold txe; rw [e]; rfl
      rw [e, e1, e2]
      exact rtext_no2 a n cap zs p w hB (by omega) (by omega)

end Go.Proofs.Ytageagkcoakpmaa

/-
  Bytes out of a number.
-/
import Derived.Test.YtkdolabhcbjipaaGreatQk89cd1639
namespace Go.Proofs.YtkdolabhcbjipaaGreat
open Go.RowKit Go.Shelf
set_option maxRecDepth 100000
set_option linter.unusedVariables false

attribute [local go_sem] Oper.semAt_some

def nxt (x : Nat) : Nat := (x * 2862933555777941757 + 3037000493) % 18446744073709551616
def mkg : Nat → Nat → Nat → List Int
  | 0, _, _ => []
  | k + 1, i, x => (((if i % 8 = 0 then nxt x else x) / 1099511627776 % 256 : Nat) : Int) :: mkg k (i + 1) (if i % 8 = 0 then nxt x else x)
def mk (seed n : Nat) : List Int := mkg n 0 (nxt seed)

theorem mkg_length : ∀ (k i x : Nat), (mkg k i x).length = k
  | 0, _, _ => rfl
  | k + 1, i, x => by rw [mkg, List.length_cons, mkg_length]
theorem mk_length (seed n : Nat) : (mk seed n).length = n := mkg_length n 0 _
theorem mkg_byte : ∀ (k i x : Nat), ∀ z ∈ mkg k i x, 0 ≤ z ∧ z ≤ 255
  | 0, _, _ => by simp [mkg]
  | k + 1, i, x => by
    rw [mkg]
    intro z hz
    rcases List.mem_cons.1 hz with rfl | hz
    · omega
    · exact mkg_byte k _ _ z hz
theorem mk_byte (seed n : Nat) : ∀ z ∈ mk seed n, 0 ≤ z ∧ z ≤ 255 := mkg_byte n 0 _
theorem nxt_lt (x : Nat) : nxt x < 18446744073709551616 := Nat.mod_lt _ (by omega)

theorem wrap_nxt (x : Nat) : IntKind.u64.wrap (IntKind.u64.wrap ((x : Int) * 2862933555777941757) + 3037000493) = (nxt x : Int) := by
  rw [IntKind.wrap_u64, IntKind.wrap_u64]
  unfold nxt
  omega

set_option maxHeartbeats 2000000 in
theorem made_any (seed n : Nat) (hs : seed ≤ 9223372036854775807) (hn : n ≤ 1000000) (w : World) :
    Calls Tryz.prog 9 #[.int .i64 (seed : Int), .int .i64 (n : Int)] w fun e w' => e = .returned (.slice (some ⟨w.heap.size, 0, none⟩) n n) ∧ w'.ownsRow w.heap.size 5 1 (.slice (some ⟨w.heap.size, 0, none⟩) n n) n (U (mk seed n)) ∧ Below w.heap.size w w' := by
  refine (callsIn_wide (n := 2)).1 ?_
  obtain ⟨i0, hi, hz0, hz1, hz2⟩ := info_parts info5
  have e0 : IntKind.u64.wrap (seed : Int) = (seed : Int) := by rw [IntKind.wrap_u64]; omega
  have e1 := wrap_nxt seed
  refine callsIn_of_wp Tryz.func9 rfl trivial ?_ rfl
  simp only [Tryz.ntmps9, List.size_toArray, List.length_cons, List.length_nil, Nat.reduceAdd, Nat.reduceSub, Array.replicate_succ, Array.replicate_zero, List.push_toArray, List.append_toArray, List.nil_append, List.cons_append]
  gi_wp2_with (gi_at_make; refine wpListIn_make_bytes _ rfl _ _ 30 rfl 5 i0 Tryz.underlying30 hi hz0 hz1 hz2 .i64 .i64 (n : Int) (n : Int) n n rfl rfl rfl rfl (by omega) (by omega) ?_; intro w2 hg2 hgr2 hs2)
  have hb2 : Below w.heap.size w w2 := ⟨hgr2.os, hgr2.tape, hgr2.output, hgr2.size, fun i hi => hgr2.block i hi (by simp)⟩
  have hl0 := mkg_length
  gi_loopw [6, 7] (fun xv iv wr => ∃ (i x : Nat) (zs : List Int), i ≤ n ∧ xv = .int .u64 (x : Int) ∧ iv = .int .i64 (i : Int) ∧ x < 18446744073709551616 ∧ Hid (zs.length = i) ∧ Hid (mk seed n = zs ++ mkg (n - i) i x) ∧ Hid (wr.heap[w.heap.size]? = some (.cells (U (zs ++ List.replicate (n - i) 0)).toArray 5 (0, 0))) ∧ Below w.heap.size w wr)
    (fun _ iv _ => n - (intOf iv).toNat)
  case atStart =>
    exact ⟨0, nxt seed, [], Nat.zero_le _, by rw [← e1], rfl, nxt_lt _, hide rfl, hide rfl, hide (by simpa using hg2.out), hb2⟩
  case round =>
    obtain ⟨i, x, zs, hin, rfl, rfl, hx, hzl, hmk, hrow, hbw⟩ := hrel
    by_cases h : i < n
    · have hbyt : ∀ y : Nat, y < 18446744073709551616 → IntKind.u8.wrap ((y : Int) / 1099511627776) = ((y / 1099511627776 % 256 : Nat) : Int) := fun y hy => by rw [IntKind.wrap_u8]; omega
      have hcell : ∃ v, wr.cell? ⟨w.heap.size, i, none⟩ = some v := by
        rw [cell_of_row wr w.heap.size i _ 5 (0, 0) hrow.out]
        have : i < (U (zs ++ List.replicate (n - i) 0)).length := by rw [U_length, List.length_append, hzl.out, List.length_replicate]; omega
        exact ⟨_, by simp only [List.getElem?_toArray]; exact List.getElem?_eq_getElem this⟩
      obtain ⟨v0, hcell⟩ := hcell
      have hfro := frozen_of_row wr w.heap.size i _ 5 hrow.out
      have STEP : Hid (∀ y : Nat, y = (if i % 8 = 0 then nxt x else x) → y < 18446744073709551616 ∧ mk seed n = (zs ++ [((y / 1099511627776 % 256 : Nat) : Int)]) ++ mkg (n - (i + 1)) (i + 1) y ∧ (wr.setCell ⟨w.heap.size, i, none⟩ (.int .u8 ((y / 1099511627776 % 256 : Nat) : Int))).heap[w.heap.size]? = some (.cells (U ((zs ++ [((y / 1099511627776 % 256 : Nat) : Int)]) ++ List.replicate (n - (i + 1)) 0)).toArray 5 (0, 0))) := hide (fun y hy => by
        refine ⟨by rw [hy]; split; exact nxt_lt _; exact hx, ?_, ?_⟩
        · rw [hmk.out, show n - i = (n - (i + 1)) + 1 from by omega, mkg, ← hy]
          simp
        · rw [heap_setCell_same wr w.heap.size i _ 5 _ hrow.out, List.setIfInBounds_toArray, show n - i = (n - (i + 1)) + 1 from by omega, List.replicate_succ]
          congr 3
          simp only [U, List.map_append, List.map_cons, List.map_nil]
          rw [List.set_append_right _ _ (by simp [hzl.out])]
          simp [hzl.out])
      have HB := hide hbw
      by_cases h8 : i % 8 = 0
      · have hr8 : ((i : Int)).tmod 8 = 0 := by rw [Int.tmod_eq_emod_of_nonneg (by omega)]; omega
        have hwn := wrap_nxt x
        obtain ⟨s1, s2, s3⟩ := STEP.out (nxt x) (by rw [if_pos h8])
        have S2 := hide s2
        have S3 := hide s3
        have hb8 := hbyt (nxt x) s1
        obtain ⟨y, hy⟩ : ∃ y, Hid (y = nxt x) := ⟨_, hide rfl⟩
        rw [← hy.out] at s1 S2 S3 hb8 hwn
        clear hrow hbw s2 s3 hbyt STEP h8
        have hcast : ((y / 1099511627776 % 256 : Nat) : Int) = (y : Int) / 1099511627776 % 256 := by omega
        have HC := hide hcast
        clear hcast
        gi_wp2
        have hcast := HC.out
        exact ⟨⟨i + 1, y, zs ++ [((y / 1099511627776 % 256 : Nat) : Int)], by omega, rfl, by simp, s1, hide (by simp [hzl.out]), S2, hide (by rw [← hcast]; exact S3.out), by rw [← hcast]; exact HB.out.setCell (p := ⟨w.heap.size, i, none⟩) (Nat.le_refl _) _⟩, by simp [intOf]; omega⟩
      · have hr8 : ¬ ((i : Int)).tmod 8 = 0 := by rw [Int.tmod_eq_emod_of_nonneg (by omega)]; omega
        have hr9 : (((i : Int)).tmod 8 == 0) = false := by simpa using hr8
        have hr7 : ((i : Int) % 8 == 0) = false := by simp only [beq_eq_false_iff_ne, ne_eq]; omega
        obtain ⟨y, hy⟩ : ∃ y, y = x := ⟨_, rfl⟩
        obtain ⟨s1, s2, s3⟩ := STEP.out y (by rw [if_neg h8]; exact hy)
        subst hy
        have S2 := hide s2
        have S3 := hide s3
        have hb8 := hbyt y s1
        clear hrow hbw s2 s3 hbyt STEP h8 hr8
        have hcast : ((y / 1099511627776 % 256 : Nat) : Int) = (y : Int) / 1099511627776 % 256 := by omega
        have HC := hide hcast
        clear hcast
        gi_wp2
        have hcast := HC.out
        exact ⟨⟨i + 1, y, zs ++ [((y / 1099511627776 % 256 : Nat) : Int)], by omega, rfl, by simp, s1, hide (by simp [hzl.out]), S2, hide (by rw [← hcast]; exact S3.out), by rw [← hcast]; exact HB.out.setCell (p := ⟨w.heap.size, i, none⟩) (Nat.le_refl _) _⟩, by simp [intOf]; omega⟩
    · have hie : Hid (i = n) := hide (by omega)
      have HB := hide hbw
      have hfin : Hid (wr.ownsRow w.heap.size 5 1 (.slice (some ⟨w.heap.size, 0, none⟩) n n) n (U (mk seed n))) := hide (by
        have e := hmk.out
        have hr := hrow.out
        rw [hie.out, Nat.sub_self] at hr e
        rw [show mkg 0 n x = [] from rfl, List.append_nil] at e
        rw [List.replicate_zero, List.append_nil] at hr
        rw [e]
        exact own_of_row w.heap.size (Nat.le_refl _) hr (by rw [U_length, hzl.out, hie.out]) (by rw [hzl.out, hie.out]) (Nat.le_refl _) (by omega) (List.take_of_length_le (by rw [U_length, hzl.out, hie.out]; exact Nat.le_refl _)))
      clear hrow hmk hbw
      gi_wp2
      go_ret
      exact ⟨rfl, hfin.out, HB.out⟩

end Go.Proofs.YtkdolabhcbjipaaGreat

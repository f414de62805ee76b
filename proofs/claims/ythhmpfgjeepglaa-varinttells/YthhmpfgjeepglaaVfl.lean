/-
  Two loops that append: nine full bytes and one more; the bytes of a number by division.
-/
import Derived.Test.YthhmpfgjeepglaaVaw
namespace Go.Proofs.Ythhmpfgjeepglaa
open Go.RowKit

theorem own_ge {w : World} {base n : Nat} {e : TypeId} {v : Value} {xs : List Value} (h : w.ownsRow base e 1 v n xs) {k : Nat} (hk : v.ownBlock = some k) : base ≤ k := by
  rcases h.2 with ⟨rfl, _⟩ | ⟨g, cap, _, rfl, hb, _⟩
  · cases hk
  · simp [Value.ownBlock] at hk
    omega

/-- One more byte behind a row that is owned: what stays. -/
theorem own_below {w0 w w' : World} {base n : Nat} {e : TypeId} {v : Value} {xs : List Value} (hb : Below base w0 w) (h : w.ownsRow base e 1 v n xs) (o : Obj) (hg : (w.alloc o).grownBy w' v.ownBlock) (hs : base ≤ w.heap.size) : Below base w0 w' :=
  (hb.alloc hs o).grown hg (by simp; omega) (fun _ hk => own_ge h hk)

set_option maxHeartbeats 1000000 in
theorem full_any (z : Int) (hz : 0 ≤ z ∧ z ≤ 255) (w : World) :
    Calls Try.prog 9 #[.int .u8 z] w fun e w' => ∃ g d, e = .returned (.slice (some ⟨g, 0, none⟩) 10 d) ∧ w'.ownsRow w.heap.size 5 1 (.slice (some ⟨g, 0, none⟩) 10 d) 10 (U (List.replicate 9 255 ++ [z])) ∧ Below w.heap.size w w' := by
  obtain ⟨i0, hi, hz0, hz1, hz2⟩ := info_parts info5
  go_enter Try.func9, Try.ntmps9
  go_wp2
  go_loopw [3, 4] (fun v i wr => ∃ k : Nat, k ≤ 9 ∧ i = .int .i64 k ∧ Hid (wr.ownsRow w.heap.size 5 1 v k (U (List.replicate k 255))) ∧ Below w.heap.size w wr)
    (fun _ i _ => 9 - (intOf i).toNat)
  case atStart => exact ⟨0, Nat.zero_le _, rfl, hide (World.ownsRow_nil _ _ _ _), Below.refl _ _⟩
  case round =>
    obtain ⟨k, hk, rfl, ho, hb⟩ := hrel
    have hs := hb.size
    by_cases hlt : k < 9
    · go_wp2_with (at_builtin; refine wpList_append_val rfl (.tmp 9) (.tmp 10) 23 rfl w.heap.size 5 i0 Try.underlying23 hi hz0 hz1 hz2 _ k _ rfl (ho.out.alloc _) _ 1 1 [255] rfl (Bs.lit wr [255] 1 rfl (by decide) (by decide)) (by omega) (by simp; omega) ?_; intro v1 w2 hown1 hgrow1; have ho1 := hide hown1; clear hown1)
      go_roundw
      case rel =>
        refine ⟨k + 1, by omega, by simp, hide ?_, own_below hb ho.out _ hgrow1 hs⟩
        have h := ho1.out
        rw [← U_append] at h
        rw [List.replicate_succ']
        exact h
      case measure => simp [intOf]; omega
    · obtain rfl : k = 9 := by omega
      go_wp2_with (at_builtin; refine wpList_append_bs rfl (.tmp 12) (.tmp 14) 23 rfl w.heap.size 5 i0 Try.underlying23 hi hz0 hz1 hz2 _ 9 _ rfl (ho.out.alloc _) _ 1 1 [z] rfl (Bs.lit wr [z] 1 rfl (by decide) (by simpa using hz)) (by omega) (by omega) (by simp; omega) ?_; intro g d w2 hown1 hgrow1; have ho1 := hide hown1; clear hown1)
      go_ret
      have h := ho1.out
      rw [← U_append] at h
      exact ⟨g, d, rfl, h, own_below hb ho.out _ hgrow1 hs⟩

set_option maxHeartbeats 1000000 in
theorem refBytes_any (v : Nat) (hv : v < 18446744073709551616) (w : World) :
    Calls Try.prog 20 #[.int .u64 (v : Int)] w fun e w' => ∃ g d, e = .returned (.slice (some ⟨g, 0, none⟩) (vb v).length d) ∧ w'.ownsRow w.heap.size 5 1 (.slice (some ⟨g, 0, none⟩) (vb v).length d) (vb v).length (U (vb v)) ∧ Below w.heap.size w w' := by
  obtain ⟨i0, hi, hz0, hz1, hz2⟩ := info_parts info5
  have h10 := vb_len10 hv
  go_enter Try.func20, Try.ntmps20
  go_wp2
  go_loopw [0, 3] (fun x o wr => ∃ (r : Nat) (pre : List Int), x = .int .u64 (r : Int) ∧ r ≤ v ∧ Hid (vb v = pre ++ vb r) ∧ Hid (wr.ownsRow w.heap.size 5 1 o pre.length (U pre)) ∧ Below w.heap.size w wr)
    (fun x _ _ => (intOf x).toNat)
  case atStart => exact ⟨v, [], rfl, Nat.le_refl _, hide rfl, hide (World.ownsRow_nil _ _ _ _), Below.refl _ _⟩
  case round =>
    obtain ⟨r, pre, rfl, hr, hx, ho, hb⟩ := hrel
    have hs := hb.size
    have hl := congrArg List.length hx.out
    rw [List.length_append] at hl
    have hvp := vb_pos r
    by_cases hlt : 127 < r
    · have hvr : Hid (vb r = ((r : Int) % 128 + 128) :: vb (r / 128)) := hide (by rw [vb_ge (by omega)]; congr 1)
      go_wp2_with (at_builtin; refine wpList_append_val rfl (.tmp 6) (.tmp 11) 23 rfl w.heap.size 5 i0 Try.underlying23 hi hz0 hz1 hz2 _ pre.length _ rfl (ho.out.alloc _) _ 1 1 [(r : Int) % 128 + 128] rfl (Bs.lit wr [(r : Int) % 128 + 128] 1 rfl (by decide) (by simp; omega)) (by omega) (by simp; omega) ?_; intro v1 w2 hown1 hgrow1; have ho1 := hide hown1; clear hown1)
      go_roundw
      case rel =>
        refine ⟨r / 128, pre ++ [(r : Int) % 128 + 128], by simp, by omega, hide (by rw [hx.out, hvr.out]; simp), hide ?_, own_below hb ho.out _ hgrow1 hs⟩
        have h := ho1.out
        rw [← U_append] at h
        simpa using h
      case measure => simp [intOf]; omega
    · have hvr : vb r = [(r : Int)] := vb_lt (by omega)
      have HV := hide hvr
      have hm : (r : Int) % 256 = r := by omega
      rw [hvr, List.length_singleton] at hl
      clear hvr
      go_wp2_with (at_builtin; refine wpList_append_bs rfl (.tmp 15) (.tmp 18) 23 rfl w.heap.size 5 i0 Try.underlying23 hi hz0 hz1 hz2 _ pre.length _ rfl (ho.out.alloc _) _ 1 1 [(r : Int)] rfl (Bs.lit wr [(r : Int)] 1 rfl (by decide) (by simp; omega)) (by omega) (by omega) (by simp; omega) ?_; intro g d w2 hown1 hgrow1; have ho1 := hide hown1; clear hown1)
      go_ret
      have h := ho1.out
      rw [← U_append] at h
      refine ⟨g, d, ?_, ?_, own_below hb ho.out _ hgrow1 hs⟩
      · rw [hx.out, HV.out]; simp
      · rw [hx.out, HV.out]; simpa using h

end Go.Proofs.Ythhmpfgjeepglaa

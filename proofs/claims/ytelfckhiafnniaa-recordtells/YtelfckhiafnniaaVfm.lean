/-
  Two loops that append: nine full bytes and one more; the bytes of a number by division.
-/
import Derived.Test.YtelfckhiafnniaaVax
namespace Go.Proofs.Ytelfckhiafnniaa
open Go.RowKit

theorem own_ge {w : World} {base n : Nat} {e : TypeId} {v : Value} {xs : List Value} (h : w.ownsRow base e 1 v n xs) {k : Nat} (hk : v.ownBlock = some k) : base ≤ k := by
  rcases h.2 with ⟨rfl, _⟩ | ⟨g, cap, _, rfl, hb, _⟩
  · cases hk
  · simp [Value.ownBlock] at hk
    omega

/-- One more byte behind a row that is owned: what stays. -/
theorem own_below {w0 w w' : World} {base n : Nat} {e : TypeId} {v : Value} {xs : List Value} (hb : Below base w0 w) (h : w.ownsRow base e 1 v n xs) (o : Obj) (hg : (w.alloc o).grownBy w' v.ownBlock) (hs : base ≤ w.heap.size) : Below base w0 w' :=
  (hb.alloc hs o).grown hg (by simp; omega) (fun _ hk => own_ge h hk)

set_option maxHeartbeats 1000000 in
theorem refBytes_any (v : Nat) (hv : v < 18446744073709551616) (w : World) :
    Calls Try.prog 39 #[.int .u64 (v : Int)] w fun e w' => ∃ g d, e = .returned (.slice (some ⟨g, 0, none⟩) (vb v).length d) ∧ w'.ownsRow w.heap.size 5 1 (.slice (some ⟨g, 0, none⟩) (vb v).length d) (vb v).length (U (vb v)) ∧ Below w.heap.size w w' := by
  obtain ⟨i0, hi, hz0, hz1, hz2⟩ := info_parts info5
  have h10 := vb_len10 hv
  go_enter Try.func39, Try.ntmps39
  go_wp2
  go_loopw [0, 3] (fun x o wr => ∃ (r : Nat) (pre : List Int), x = .int .u64 (r : Int) ∧ r ≤ v ∧ Hid (vb v = pre ++ vb r) ∧ Hid (wr.ownsRow w.heap.size 5 1 o pre.length (U pre)) ∧ Below w.heap.size w wr)
    (fun x _ _ => (intOf x).toNat)
  case atStart => exact ⟨v, [], rfl, Nat.le_refl _, hide rfl, hide (World.ownsRow_nil _ _ _ _), Below.refl _ _⟩
  case round =>
    obtain ⟨r, pre, rfl, hr, hx, ho, hb⟩ := hrel
    have hs := hb.size
    have hl := congrArg List.length hx.out
    rw [List.length_append] at hl
    have hvp := vb_pos r
    by_cases hlt : 127 < r
    · have hvr : Hid (vb r = ((r : Int) % 128 + 128) :: vb (r / 128)) := hide (by rw [vb_ge (by omega)]; congr 1)
      go_wp2_with (at_builtin; refine wpList_append_val rfl (.tmp 6) (.tmp 11) 22 rfl w.heap.size 5 i0 Try.underlying22 hi hz0 hz1 hz2 _ pre.length _ rfl (ho.out.alloc _) _ 1 1 [(r : Int) % 128 + 128] rfl (Bs.lit wr [(r : Int) % 128 + 128] 1 rfl (by decide) (by simp; omega)) (by omega) (by simp; omega) ?_; intro v1 w2 hown1 hgrow1; have ho1 := hide hown1; clear hown1)
      go_roundw
      case rel =>
        refine ⟨r / 128, pre ++ [(r : Int) % 128 + 128], by simp, by omega, hide (by rw [hx.out, hvr.out]; simp), hide ?_, own_below hb ho.out _ hgrow1 hs⟩
        have h := ho1.out
        rw [← U_append] at h
        simpa using h
      case measure => simp [intOf]; omega
    · have hvr : vb r = [(r : Int)] := vb_lt (by omega)
      have HV := hide hvr
      have hm : (r : Int) % 256 = r := by omega
      rw [hvr, List.length_singleton] at hl
      clear hvr
      go_wp2_with (at_builtin; refine wpList_append_bs rfl (.tmp 15) (.tmp 18) 22 rfl w.heap.size 5 i0 Try.underlying22 hi hz0 hz1 hz2 _ pre.length _ rfl (ho.out.alloc _) _ 1 1 [(r : Int)] rfl (Bs.lit wr [(r : Int)] 1 rfl (by decide) (by simp; omega)) (by omega) (by omega) (by simp; omega) ?_; intro g d w2 hown1 hgrow1; have ho1 := hide hown1; clear hown1)
      go_ret
      have h := ho1.out
      rw [← U_append] at h
      refine ⟨g, d, ?_, ?_, own_below hb ho.out _ hgrow1 hs⟩
      · rw [hx.out, HV.out]; simp
      · rw [hx.out, HV.out]; simpa using h

end Go.Proofs.Ytelfckhiafnniaa

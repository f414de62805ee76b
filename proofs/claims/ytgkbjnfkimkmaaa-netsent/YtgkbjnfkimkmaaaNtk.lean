/-
  The body of the so-manyth packet that NetSent sends.
-/
import Derived.Test.YtgkbjnfkimkmaaaNtm
import Derived.Test.YtgkbjnfkimkmaaaNti
namespace Go.Proofs.Ytgkbjnfkimkmaaa
open Go.RowKit
set_option maxRecDepth 100000

/-- The body. -/
def bod (i : Nat) : List Int := [((i / 256 % 256 : Nat) : Int), ((i % 256 : Nat) : Int)] ++ mk i (i % 20)
theorem bod_length (i : Nat) : (bod i).length = 2 + i % 20 := by
  unfold bod
  rw [List.length_append, mk_length]
  rfl
theorem bod_byte (i : Nat) : ∀ z ∈ bod i, 0 ≤ z ∧ z ≤ 255 := by
  intro z hz
  rcases List.mem_append.1 hz with h | h
  · simp only [List.mem_cons, List.not_mem_nil, or_false] at h
    omega
  · exact mk_byte _ _ z h

set_option maxHeartbeats 1000000 in
theorem body_any (i : Nat) (hi : i ≤ 1000) (w : World) :
    Calls Try.prog 26 #[.int .i64 (i : Int)] w fun e w' => ∃ a c, e = .returned (.slice a (2 + i % 20) c) ∧ w'.ownsRow w.heap.size 5 1 (.slice a (2 + i % 20) c) (2 + i % 20) (U (bod i)) ∧ Below w.heap.size w w' := by
  obtain ⟨i0, hi0, hz0, hz1, hz2⟩ := info_parts info5
  have e1 : IntKind.u8.wrap ((i : Int) / 256) = ((i / 256 % 256 : Nat) : Int) := by rw [IntKind.wrap_u8]; omega
  have e2 : IntKind.u8.wrap (i : Int) = ((i % 256 : Nat) : Int) := by rw [IntKind.wrap_u8]; omega
  have e3 : (i : Int).tmod 20 = ((i % 20 : Nat) : Int) := by rw [Int.tmod_eq_emod_of_nonneg (by omega)]; omega
  obtain ⟨m, hm⟩ : ∃ m, Hid (m = i % 20) := ⟨_, hide rfl⟩
  have hm20 : m < 20 := by rw [hm.out]; omega
  obtain ⟨x, hx⟩ : ∃ x : Nat, Hid (x = i / 256 % 256) := ⟨_, hide rfl⟩
  obtain ⟨y, hy⟩ : ∃ y : Nat, Hid (y = i % 256) := ⟨_, hide rfl⟩
  rw [← hx.out] at e1
  rw [← hy.out] at e2
  rw [← hm.out] at e3
  have CM := made_any i m (by omega) (by omega)
  rw [← hm.out]
  have hal : (w.alloc (.cells #[.int .u8 (x : Int), .int .u8 (y : Int)] 5)).heap.size = w.heap.size + 1 := by simp
  have HAL := hide hal
  have R0 : (w.alloc (.cells #[.int .u8 (x : Int), .int .u8 (y : Int)] 5)).ownsRow w.heap.size 5 1 (.slice (some ⟨w.heap.size, 0, none⟩) 2 2) 2 (U [(x : Int), (y : Int)]) := ⟨rfl, .inr ⟨_, 2, _, rfl, Nat.le_refl _, heap_alloc_new w _, Nat.le_refl _, by unfold maxLen; omega, rfl, rfl⟩⟩
  have bA : Below w.heap.size w (w.alloc (.cells #[.int .u8 (x : Int), .int .u8 (y : Int)] 5)) := (Below.refl _ w).alloc (Nat.le_refl _) _
  have FIN : Hid (∀ (w1 w2 : World) (g c : Nat), Below (w.alloc (.cells #[.int .u8 (x : Int), .int .u8 (y : Int)] 5)).heap.size (w.alloc (.cells #[.int .u8 (x : Int), .int .u8 (y : Int)] 5)) w1 → w2.ownsRow w.heap.size 5 1 (.slice (some ⟨g, 0, none⟩) (2 + m) c) (2 + m) (U [(x : Int), (y : Int)] ++ U (mk i m)) → w1.grownBy w2 (some w.heap.size) → w2.ownsRow w.heap.size 5 1 (.slice (some ⟨g, 0, none⟩) (2 + m) c) (2 + m) (U (bod i)) ∧ Below w.heap.size w w2) := hide (fun w1 w2 g c h1 h2 h3 => by
    refine ⟨?_, (bA.trans (h1.mono (by omega))).grown h3 (by have := h1.size; omega) (fun k hk => by cases hk; exact Nat.le_refl _)⟩
    have e : U (bod i) = U [(x : Int), (y : Int)] ++ U (mk i m) := by unfold bod; rw [hx.out, hy.out, hm.out, U_append]
    rw [e]
    exact h2)
  have HR0 := hide R0
  clear R0 bA hal
  go_enter Try.func26, Try.ntmps26
  go_wp2_with fail
  refine (CM _).mono ?_
  rintro e w1 ⟨rfl, hown, hb⟩
  have hB1 := own_bs hown (mk_byte i m)
  have hrow1 := row_tb HR0.out (Tb.of_fresh (S := fun _ => False) hb) (fun _ _ h => h)
  have hs1 := hb.size
  have HB := hide hb
  clear hown hb CM
  rw [HAL.out] at hB1 hs1
  rw [HAL.out]
  go_wp2_with (at_builtin; refine wpList_append_bs rfl (.tmp 8) (.tmp 12) (27 : TypeId) rfl w.heap.size 5 i0 Try.underlying27 hi0 hz0 hz1 hz2 (.slice (some ⟨w.heap.size, 0, none⟩) 2 2) 2 (U [(x : Int), (y : Int)]) (by simp [Act.eval]) hrow1 (some ⟨w.heap.size + 1, 0, none⟩) m m (mk i m) (by simp [Act.eval]) hB1 (by omega) (by omega) (by omega) ?_; intro g c w2 hown hgrow)
  go_ret
  exact ⟨_, _, rfl, FIN.out w1 w2 g c HB.out hown hgrow⟩

end Go.Proofs.Ytgkbjnfkimkmaaa

/-
  Texts put into one.
-/
import Derived.Test.YtgbboaedhpaocaaGreatBas
import Derived.Test.YtgbboaedhpaocaaGreatRows
import Derived.Test.YtgbboaedhpaocaaGreatKit
import Derived.ProofKit
import Derived.OpenShut
import Derived.ShutString
import Derived.ChangeOld
import Derived.SizedLaws
import Derived.Test.YtgbboaedhpaocaaGreatFow
import Derived.Deep.Matrix

/-
  What 'CopyBytes' does, for any slice of bytes.
-/
namespace Go.Proofs.YtgbboaedhpaocaaGreat
open Go.RowKit
set_option maxRecDepth 100000

set_option maxHeartbeats 400000 in
theorem copy_any (a : Option Addr) (n cap : Nat) (zs : List Int) (w : World) (hB : Bs w a n cap zs) (hn : n ≤ 140737488355328) :
    Calls Tryz.prog 25 #[.slice a n cap] w fun e w' => ∃ c d, e = .returned (.slice c n d) ∧ w'.ownsRow w.heap.size 5 1 (.slice c n d) n (U zs) ∧ Below w.heap.size w w' := by
  obtain ⟨i0, hi, hz0, hz1, hz2⟩ := info_parts info5
  by_cases h0 : n = 0
  · subst h0
    have hz : zs = [] := List.eq_nil_of_length_eq_zero hB.len
    subst hz
    go_enter Tryz.func25, Tryz.ntmps25
    go_wp2_with (at_builtin; refine wpList_append_zero rfl (.tmp 4) (.tmp 5) 30 rfl 5 i0 Tryz.underlying30 hi rfl _ _ rfl ?_)
    go_ret
    exact ⟨_, _, rfl, World.ownsRow_nil _ _ _ _, Below.refl _ _⟩
  · go_enter Tryz.func25, Tryz.ntmps25
    go_wp2_with (at_builtin; refine wpList_append_bs rfl (.tmp 4) (.tmp 5) 30 rfl w.heap.size 5 i0 Tryz.underlying30 hi hz0 hz1 hz2 (.slice none 0 0) 0 [] rfl (World.ownsRow_nil _ _ _ _) _ _ _ zs rfl hB (by omega) (by omega) (Nat.le_refl _) ?_; intro g c w1 hown hgrow; simp only [Nat.zero_add, List.nil_append] at hown; rw [Nat.zero_add])
    go_ret
    exact ⟨_, _, rfl, hown, (Below.refl _ _).grown hgrow (Nat.le_refl _) (fun k hk => by cases hk)⟩

end Go.Proofs.YtgbboaedhpaocaaGreat

/-
  A slice of bytes among the arguments, opened.
-/
namespace Go.Proofs.YtgbboaedhpaocaaGreat
open Go.ChangeShapes Go.WideShapes Go.ChangeAt Go.RowKit
set_option maxRecDepth 100000

theorem open_bs {H : Type} {enc : TypeId × Value → H} {W : World} {a : Option Addr} {len cap : Nat} {d : DataW H} {p : List MemPlace}
    (h : DataW.Trod enc Tryz.prog W 0 (fun _ => true) true 30 (.slice a len cap) d p) :
    ∃ zs, Bs W a len cap zs ∧ ((d = .nil ∧ cap = 0) ∨ ∃ all : List Int, all.length = cap ∧ d = .slice (lits .u8 (all.take len)) (lits .u8 (all.drop len))) := by
  obtain ⟨fuel, hf⟩ := h
  rcases open_ints Tryz.underlying30 Tryz.underlying5 (by kernel_rfl) hf with ⟨hcs, hx⟩ | ⟨x, l, c, zs, hcs, _, hl, hm, hz, hx, hcell, hwz⟩
  · simp [Value.cells] at hcs
    obtain ⟨rfl, rfl, rfl⟩ := hcs
    simp only [Prod.mk.injEq] at hx
    exact ⟨[], Bs.nil W, .inl ⟨hx.1, rfl⟩⟩
  · simp [Value.cells] at hcs
    obtain ⟨rfl, rfl, rfl⟩ := hcs
    simp only [Prod.mk.injEq] at hx
    simp only [if_true] at hz
    unfold maxLen at hm
    refine ⟨zs.take len, ⟨by simp; omega, hl, by omega, ?_, fun h => (by cases h), fun hn => ?_⟩, .inr ⟨zs, hz, hx.1⟩⟩
    · intro z hz'
      exact bounds_u8 (hwz z (List.mem_of_mem_take hz'))
    · obtain ⟨b, off, spot⟩ := x
      have hspot : spot = none := by simpa [Addr.add] using World.cell?_spot (hcell 0 (by omega))
      subst hspot
      refine ⟨b, off, rfl, fun i hi => ?_⟩
      rw [← Addr.add_lit, hcell i (by omega)]
      simp [List.getD, hi]

end Go.Proofs.YtgbboaedhpaocaaGreat

/-
  A slice of slices of bytes among the arguments, opened.
-/
namespace Go.Proofs.YtgbboaedhpaocaaGreat
open Go.ChangeShapes Go.WideShapes Go.ChangeAt Go.RowKit
set_option maxRecDepth 100000

theorem weightsAll_mem {H : Type} (P : Program) (e : TypeId) (d : DataW H) (x : Nat) (hx : x ∈ d.weights P e) : ∀ l : List (DataW H), d ∈ l → x ∈ DataW.weightsAll P e l := by
  intro l
  induction l with
  | nil => intro h; cases h
  | cons y l ih =>
    intro h
    simp only [DataW.weightsAll, List.mem_append]
    rcases List.mem_cons.1 h with rfl | h
    · exact .inl hx
    · exact .inr (ih h)

theorem bytes5' : Tryz.prog.bytesOf 5 = 1 := by kernel_rfl

theorem open_bss {H : Type} {enc : TypeId × Value → H} {W : World} {a : Option Addr} {len cap : Nat} {d : DataW H} {p : List MemPlace}
    (h : DataW.Trod enc Tryz.prog W 0 (fun _ => true) true 41 (.slice a len cap) d p) :
    ∃ bss, Rl W a len cap bss ∧ (∀ N, (d.weights Tryz.prog 41).all (· ≤ N) = true → ∀ b ∈ bss, b.length ≤ N) := by
  obtain ⟨fuel, hf⟩ := h
  rcases Deep.open_int_rows Tryz.underlying41 Tryz.underlying30 Tryz.underlying5 (by kernel_rfl) (by kernel_rfl) hf with ⟨hcs, hx⟩ | ⟨x, l, c, A, L, C, Z, hcs, _, hl, hm, hx, hrow⟩
  · simp [Value.cells] at hcs
    obtain ⟨rfl, rfl, rfl⟩ := hcs
    exact ⟨[], ⟨rfl, Nat.le_refl _, by omega, fun h => by omega⟩, by simp⟩
  · simp [Value.cells] at hcs
    obtain ⟨rfl, rfl, rfl⟩ := hcs
    simp only [Prod.mk.injEq] at hx
    unfold maxLen at hm
    have hget : ∀ i, i < len → ((List.range len).map (fun r => (Z r).take (L r))).getD i [] = (Z i).take (L i) := by
      intro i hi
      simp [List.getD, hi]
    refine ⟨(List.range len).map (fun r => (Z r).take (L r)), ⟨by simp, hl, by omega, fun hn => ?_⟩, fun N hN b hb => ?_⟩
    · obtain ⟨b, off, spot⟩ := x
      have hspot : spot = none := by simpa [Addr.add] using World.cell?_spot (hrow 0 (by omega)).1
      subst hspot
      refine ⟨b, off, rfl, fun i hi => ⟨A i, L i, C i, ?_, ?_⟩⟩
      · rw [← Addr.add_lit, (hrow i (by omega)).1]
      · obtain ⟨_, h2, h3, h4, h5, h6, h7⟩ := hrow i (by omega)
        rw [hget i hi]
        unfold maxLen at h3
        refine ⟨by simp; omega, h2, by omega, fun z hz => bounds_u8 (h5 z (List.mem_of_mem_take hz)), h6, fun hp => ?_⟩
        cases hAi : A i with
        | none => have := h6 hAi; omega
        | some ad =>
          obtain ⟨b', off', spot'⟩ := ad
          have hc := (h7 _ hAi).2
          have hspot' : spot' = none := by simpa [Addr.add] using World.cell?_spot (hc 0 (by omega))
          subst hspot'
          refine ⟨b', off', rfl, fun j hj => ?_⟩
          rw [← Addr.add_lit, hc j (by omega)]
          simp [List.getD, hj]
    · obtain ⟨r, hr, rfl⟩ := List.mem_map.1 hb
      have hr' := List.mem_range.1 hr
      obtain ⟨_, h2, h3, h4, h5, h6, h7⟩ := hrow r (by omega)
      cases hAi : A r with
      | none =>
        have := h6 hAi
        simp
        omega
      | some ad =>
        have hmem : (L r + (C r - L r)) * Tryz.prog.bytesOf 5 ∈ d.weights Tryz.prog 41 := by
          rw [hx.1]
          simp only [DataW.weights, Tryz.underlying41, List.mem_cons, List.mem_append]
          refine .inr (.inl (weightsAll_mem Tryz.prog 30 (Deep.intRow .u8 (A r) (L r) (Z r)) _ ?_ _ (List.mem_map.2 ⟨r, hr, rfl⟩)))
          rw [hAi]
          simp only [Deep.intRow, DataW.weights, Tryz.underlying30, lits, List.length_map, List.length_take, List.length_drop, h4, Nat.min_eq_left h2, List.mem_cons, true_or]
        have := List.all_eq_true.1 hN _ hmem
        simp only [bytes5', decide_eq_true_eq] at this
        simp
        omega

end Go.Proofs.YtgbboaedhpaocaaGreat

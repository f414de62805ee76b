/-
  Two lists of events that are the same.
-/
import Derived.Test.YtennciddjkijaaaCui
import Derived.Laws.StructEq
namespace Go.Proofs.Ytennciddjkijaaa
open Go.RowKit QI
set_option maxRecDepth 100000
set_option linter.unusedSimpArgs false

/-- Events as they are read. -/
structure Evs (w : World) (a : Option Addr) (n cap : Nat) (l : List (Int × Int × Int)) : Prop where
  len : l.length = n
  le : n ≤ cap
  reach : cap ≤ 9223372036854775807
  lies : 0 < n → ∃ g, a = some ⟨g, 0, none⟩ ∧ ∀ k e, l[k]? = some e → w.cell? ⟨g, k * 3, none⟩ = some (.int .i64 e.1) ∧ w.cell? ⟨g, k * 3 + 1, none⟩ = some (.int .i64 e.2.1) ∧ w.cell? ⟨g, k * 3 + 2, none⟩ = some (.int .i64 e.2.2)

theorem own_evs {w : World} {base n cap : Nat} {a : Option Addr} {l : List (Int × Int × Int)} {e : TypeId} (h : w.ownsRow base e 3 (.slice a n cap) n (l.flatMap evc)) : Evs w a n cap l := by
  have hl : l.length = n := by have := h.1; rw [evc_length] at this; omega
  have h0 := h
  rcases h.2 with ⟨h1, h2⟩ | ⟨g, cap', cur, h1, _, hh, hc, hm, hs, ht⟩
  · simp only [Value.slice.injEq] at h1
    obtain ⟨rfl, rfl, rfl⟩ := h1
    exact ⟨hl, Nat.le_refl _, by omega, fun h => by omega⟩
  · simp only [Value.slice.injEq] at h1
    obtain ⟨rfl, _, rfl⟩ := h1
    unfold maxLen at hm
    refine ⟨hl, hc, by omega, fun _ => ⟨g, rfl, fun k x hk => ?_⟩⟩
    obtain ⟨q1, q2, q3⟩ := flat_get l k hk
    have c1 := h0.cells (g := g) rfl _ _ q1
    have c2 := h0.cells (g := g) rfl _ _ q2
    have c3 := h0.cells (g := g) rfl _ _ q3
    rw [Addr.add_lit, Nat.zero_add] at c1 c2 c3
    exact ⟨c1, c2, c3⟩

theorem Evs.keep {w w' : World} {a : Option Addr} {n cap : Nat} {l : List (Int × Int × Int)} (h : Evs w a n cap l) (hb : Below w.heap.size w w') : Evs w' a n cap l := by
  refine ⟨h.len, h.le, h.reach, fun hn => ?_⟩
  obtain ⟨g, ha, hc⟩ := h.lies hn
  refine ⟨g, ha, fun k e hk => ?_⟩
  obtain ⟨c1, c2, c3⟩ := hc k e hk
  exact ⟨(hb.cell (cell_lt c1)).trans c1, (hb.cell (cell_lt c2)).trans c2, (hb.cell (cell_lt c3)).trans c3⟩

theorem neq_ev (w : World) (x y z : Int) : (binOp .neq (64 : TypeId) (.agg #[.int .i64 x, .int .i64 y, .int .i64 z]) (.agg #[.int .i64 x, .int .i64 y, .int .i64 z])).run Try.prog w = .ok (.bool false) w := by
  go_simp

set_option maxHeartbeats 1000000 in
theorem sameEvents_yes (a c : Option Addr) (n cap dap : Nat) (l : List (Int × Int × Int)) (w : World) (hA : Evs w a n cap l) (hC : Evs w c n dap l) :
    Calls Try.prog 19 #[.slice a n cap, .slice c n dap] w fun e w' => e = .returned (.bool true) ∧ ∃ q, w' = w.drewN q := by
  have hla := hA.len
  have hea := hA.le
  have hra := hA.reach
  have hec := hC.le
  have hrc := hC.reach
  have HL := hide hla
  clear hla
  go_enter Try.func19, Try.ntmps19
  go_wp2_with fail
  go_loopw [5] (fun i wr => ∃ k q : Nat, k ≤ n ∧ i = .int .i64 k ∧ wr = w.drewN q) (fun i _ => n - (intOf i).toNat)
  case atStart => exact ⟨0, 0, Nat.zero_le _, rfl, rfl⟩
  case round =>
    obtain ⟨k, q, hk, rfl, hwr⟩ := hrel
    have hA' := hA.keep (below_drewN (Below.refl _ w) q)
    have hC' := hC.keep (below_drewN (Below.refl _ w) q)
    rw [← hwr] at hA' hC'
    have HR := hide hwr
    clear hwr
    by_cases hlt : k < n
    · obtain ⟨x, hx⟩ : ∃ x, l[k]? = some x := ⟨_, List.getElem?_eq_getElem (by rw [HL.out]; exact hlt)⟩
      obtain ⟨b1, rfl, hc1⟩ := hA'.lies (by omega)
      obtain ⟨b2, rfl, hc2⟩ := hC'.lies (by omega)
      obtain ⟨k1, k2, k3⟩ := hc1 k _ hx
      obtain ⟨j1, j2, j3⟩ := hc2 k _ hx
      obtain ⟨x, y, z⟩ := x
      have qn := fun V => neq_ev V x y z
      clear hc1 hc2 hx
      try simp only at k1 k2 k3 j1 j2 j3
      go_wp2_with fail
      go_quiet (fail)
      go_wp2_with fail
      go_roundw
      case rel => exact ⟨k + 1, q + nq, by omega, by go_num, by rw [HR.out, World.drewN_drewN]⟩
      case measure => simp [intOf]; omega
    · obtain rfl : k = n := by omega
      go_wp2_with fail
      go_ret
      exact ⟨rfl, q, HR.out⟩

end Go.Proofs.Ytennciddjkijaaa

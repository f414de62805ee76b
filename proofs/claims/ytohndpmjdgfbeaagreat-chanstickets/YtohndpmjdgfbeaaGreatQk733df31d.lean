/-
  A map of numbers as a set.
-/
import Derived.Test.YtohndpmjdgfbeaaGreatMxc9916342
namespace Go.Proofs.YtohndpmjdgfbeaaGreat
open Go.RowKit QI
set_option maxRecDepth 100000

theorem mkM (W : World) : (Instr.makeMap (106 : TypeId) none).run Tryz.prog W = .ok (.map (some W.heap.size)) (W.alloc (.map #[] 0)) := run_makeMap _ _
theorem zero4 (W : World) : (zeroValue 4).run Tryz.prog W = .ok (.bool false) W := by
  have h : (Tryz.prog.info? 4).map (·.zero) = some (some (.bool false)) := by kernel_rfl
  obtain ⟨i, hi, hz⟩ := Option.map_eq_some_iff.1 h
  simp [zeroValue, typeInfo, hi, hz]
/-- A map whose keys are these numbers, each with true. -/
structure Mi (w : World) (M : Nat) (xs : List Int) : Prop where
  ex : ∃ D, Mp w 3 M D ∧ Maps.size D = xs.length ∧ ∀ k, I6 k → gt D (.int .i64 k) = if k ∈ xs then some (.bool true) else none

section
variable {w w' : World} {M : Nat} {xs ys : List Int} {S : Nat → Prop}
theorem Mi.lt (h : Mi w M xs) : M < w.heap.size := by
  obtain ⟨D, h1, _⟩ := h.ex
  exact h1.lt
theorem Mi.heap (h : Mi w M xs) (e : w'.heap[M]? = w.heap[M]?) : Mi w' M xs := by
  obtain ⟨D, h1, h2⟩ := h.ex
  exact ⟨D, h1.heap e, h2⟩
theorem Mi.tb (h : Mi w M xs) (hb : Tb S w w') (hs : ¬ S M) : Mi w' M xs := h.heap (hb.block M h.lt hs)
theorem Mi.below (h : Mi w M xs) (hb : Below w.heap.size w w') : Mi w' M xs := h.heap (hb.block M h.lt)
theorem Mi.ne (h : Mi w M xs) {R : Nat} {cs : Array Value} {t : TypeId} {fr : Nat × Nat} (hR : w.heap[R]? = some (.cells cs t fr)) : M ≠ R := by
  obtain ⟨D, h1, _⟩ := h.ex
  obtain ⟨es, clock, hb, _⟩ := h1.own
  rintro rfl
  rw [hb] at hR
  cases hR
theorem Mi.len (h : Mi w M xs) (ty : TypeId) : (Builtin.len_ #[(106 : TypeId)] ty #[.map (some M)]).run Tryz.prog w = .ok (.int .i64 xs.length) w := by
  obtain ⟨D, h1, h2, _⟩ := h.ex
  rw [h1.len Tryz.underlying106 ty, h2]
theorem Mi.look (h : Mi w M xs) {k : Int} (hk : I6 k) : (Instr.lookup (106 : TypeId) (.map (some M)) (.int .i64 k) false).run Tryz.prog w = .ok (.bool (decide (k ∈ xs))) w := by
  obtain ⟨D, h1, _, h3⟩ := h.ex
  rw [h1.look K3 Tryz.underlying106 (zero4 w) (key3 hk), h3 k hk]
  by_cases hm : k ∈ xs <;> simp [hm]
theorem Mi.put (h : Mi w M xs) {k : Int} (hk : I6 k) (hl : xs.length ≤ 1000) (hy : ys.length = if k ∈ xs then xs.length else xs.length + 1) (hm : ∀ x, x ∈ ys ↔ x ∈ xs ∨ x = k) :
    ∃ X, (Instr.mapUpdate (106 : TypeId) (.map (some M)) (.int .i64 k) (.bool true)).run Tryz.prog w = .ok () X ∧ Mi X M ys ∧ Tb (fun i => i = M) w X := by
  obtain ⟨D, h1, h2, h3⟩ := h.ex
  obtain ⟨X, hr, h4, h5⟩ := h1.store K3 Tryz.underlying106 (by rw [h2]; unfold maxLen; omega) (key3 hk) (.bool true)
  refine ⟨X, hr, ⟨_, h4, ?_, fun k' hk' => ?_⟩, Tb.turned h5 rfl⟩
  · rw [Maps.size_put (h1.own.tidy K3), has_gt h1 K3 (key3 hk), h3 k hk, h2, hy]
    by_cases hmm : k ∈ xs <;> simp [hmm]
  · by_cases e : k' = k
    · subst e
      rw [gt_put_same h1.isMap (K3.key (key3 hk)), if_pos ((hm k').2 (.inr rfl))]
    · rw [gt_put_other (by simpa using e), h3 k' hk']
      have : (k' ∈ ys) ↔ k' ∈ xs := by rw [hm]; simp [e]
      by_cases hmm : k' ∈ xs
      · rw [if_pos hmm, if_pos (this.2 hmm)]
      · rw [if_neg hmm, if_neg (fun h => hmm (this.1 h))]
theorem Mi.del (h : Mi w M xs) {k : Int} (hk : I6 k) (hin : k ∈ xs) (hy : ys.length + 1 = xs.length) (hm : ∀ x, x ∈ ys ↔ x ∈ xs ∧ x ≠ k) (ty : TypeId) :
    ∃ X, (Builtin.delete_ #[(106 : TypeId), 3] ty #[.map (some M), .int .i64 k]).run Tryz.prog w = .ok (.tuple #[]) X ∧ Mi X M ys ∧ Tb (fun i => i = M) w X := by
  obtain ⟨D, h1, h2, h3⟩ := h.ex
  obtain ⟨X, hr, h4, h5⟩ := h1.drop K3 Tryz.underlying106 (key3 hk) ty
  refine ⟨X, hr, ⟨_, h4, ?_, fun k' hk' => ?_⟩, Tb.turned h5 rfl⟩
  · have h6 := Maps.size_del (k := .int .i64 k) (h1.own.tidy K3)
    rw [has_gt h1 K3 (key3 hk), h3 k hk, h2, if_pos hin] at h6
    simp only [Option.isSome_some, if_true] at h6
    omega
  · by_cases e : k' = k
    · subst e
      rw [gt_del_same, if_neg (fun h => ((hm k').1 h).2 rfl)]
    · rw [gt_del_other (by simpa using e), h3 k' hk']
      have : (k' ∈ ys) ↔ k' ∈ xs := by rw [hm]; simp [e]
      by_cases hmm : k' ∈ xs
      · rw [if_pos hmm, if_pos (this.2 hmm)]
      · rw [if_neg hmm, if_neg (fun h => hmm (this.1 h))]
end

end Go.Proofs.YtohndpmjdgfbeaaGreat

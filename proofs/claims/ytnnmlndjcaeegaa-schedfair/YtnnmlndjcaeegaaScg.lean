/-
  A map of numbers as a set, beside a sched.
-/
import Derived.Test.YtnnmlndjcaeegaaSce
import Derived.Test.YtnnmlndjcaeegaaDma
namespace Go.Proofs.Ytnnmlndjcaeegaa.QI
open Go.RowKit
set_option maxRecDepth 20000

theorem K3 : Maps.Keyed Try.prog 3 := Maps.int_keyed Try.underlying3
theorem key3 {x : Int} (h : I6 x) : keyOf Try.prog 3 (.int .i64 x) = some (.int .i64 x) := Maps.keyOf_int_mk Try.underlying3 h.wf
theorem mkM (W : World) : (Instr.makeMap (52 : TypeId) none).run Try.prog W = .ok (.map (some W.heap.size)) (W.alloc (.map #[] 0)) := run_makeMap _ _
theorem zero4 (W : World) : (zeroValue 4).run Try.prog W = .ok (.bool false) W := by
  have h : (Try.prog.info? 4).map (·.zero) = some (some (.bool false)) := by kernel_rfl
  obtain ⟨i, hi, hz⟩ := Option.map_eq_some_iff.1 h
  simp [zeroValue, typeInfo, hi, hz]
theorem has_gt {w : World} {b : Nat} {D : DataW Value} {kt : TypeId} (h : Mp w kt b D) (K : Maps.Keyed Try.prog kt) {key : Value} {kl : Lit} (hkey : keyOf Try.prog kt key = some kl) : Maps.has D kl = (gt D kl).isSome := by
  rcases h.at K hkey with ⟨_, h2, h3⟩ | ⟨v, _, h2, h3⟩ <;> simp [h2, h3]

/-- A map whose keys are these numbers, each with true. -/
structure Mi (w : World) (M : Nat) (xs : List Int) : Prop where
  ex : ∃ D, Mp w 3 M D ∧ Maps.size D = xs.length ∧ ∀ k, I6 k → gt D (.int .i64 k) = if k ∈ xs then some (.bool true) else none

section
variable {w w' : World} {M : Nat} {xs ys : List Int} {S : Nat → Prop}
theorem Mi.lt (h : Mi w M xs) : M < w.heap.size := by
  obtain ⟨D, h1, _⟩ := h.ex
  exact h1.lt
theorem Mi.heap (h : Mi w M xs) (e : w'.heap[M]? = w.heap[M]?) : Mi w' M xs := by
  obtain ⟨D, h1, h2⟩ := h.ex
  exact ⟨D, h1.heap e, h2⟩
theorem Mi.tb (h : Mi w M xs) (hb : Tb S w w') (hs : ¬ S M) : Mi w' M xs := h.heap (hb.block M h.lt hs)
theorem Mi.below (h : Mi w M xs) (hb : Below w.heap.size w w') : Mi w' M xs := h.heap (hb.block M h.lt)
theorem Mi.ne (h : Mi w M xs) {R : Nat} {cs : Array Value} {t : TypeId} {fr : Nat × Nat} (hR : w.heap[R]? = some (.cells cs t fr)) : M ≠ R := by
  obtain ⟨D, h1, _⟩ := h.ex
  obtain ⟨es, clock, hb, _⟩ := h1.own
  rintro rfl
  rw [hb] at hR
  cases hR
theorem Mi.turn (h : Mi w M xs) {R G N hd : Nat} {zs : List Int} (q : Qu w R G N hd zs) (k : Qt w w' R G ys) : Mi w' M xs := by
  obtain ⟨_, _, _, _, _, t⟩ := k
  obtain ⟨cur, hc, _⟩ := q.ring
  exact h.tb t (fun e => e.elim (h.ne q.obj) (h.ne hc))
theorem Mi.len (h : Mi w M xs) (ty : TypeId) : (Builtin.len_ #[(52 : TypeId)] ty #[.map (some M)]).run Try.prog w = .ok (.int .i64 xs.length) w := by
  obtain ⟨D, h1, h2, _⟩ := h.ex
  rw [h1.len Try.underlying52 ty, h2]
theorem Mi.look (h : Mi w M xs) {k : Int} (hk : I6 k) : (Instr.lookup (52 : TypeId) (.map (some M)) (.int .i64 k) false).run Try.prog w = .ok (.bool (decide (k ∈ xs))) w := by
  obtain ⟨D, h1, _, h3⟩ := h.ex
  rw [h1.look K3 Try.underlying52 (zero4 w) (key3 hk), h3 k hk]
  by_cases hm : k ∈ xs <;> simp [hm]
theorem Mi.put (h : Mi w M xs) {k : Int} (hk : I6 k) (hl : xs.length ≤ 1000) (hy : ys.length = if k ∈ xs then xs.length else xs.length + 1) (hm : ∀ x, x ∈ ys ↔ x ∈ xs ∨ x = k) :
    ∃ X, (Instr.mapUpdate (52 : TypeId) (.map (some M)) (.int .i64 k) (.bool true)).run Try.prog w = .ok () X ∧ Mi X M ys ∧ Tb (fun i => i = M) w X := by
  obtain ⟨D, h1, h2, h3⟩ := h.ex
  obtain ⟨X, hr, h4, h5⟩ := h1.store K3 Try.underlying52 (by rw [h2]; unfold maxLen; omega) (key3 hk) (.bool true)
  refine ⟨X, hr, ⟨_, h4, ?_, fun k' hk' => ?_⟩, Tb.turned h5 rfl⟩
  · rw [Maps.size_put (h1.own.tidy K3), has_gt h1 K3 (key3 hk), h3 k hk, h2, hy]
    by_cases hmm : k ∈ xs <;> simp [hmm]
  · by_cases e : k' = k
    · subst e
      rw [gt_put_same h1.isMap (K3.key (key3 hk)), if_pos ((hm k').2 (.inr rfl))]
    · rw [gt_put_other (by simpa using e), h3 k' hk']
      have : (k' ∈ ys) ↔ k' ∈ xs := by rw [hm]; simp [e]
      by_cases hmm : k' ∈ xs
      · rw [if_pos hmm, if_pos (this.2 hmm)]
      · rw [if_neg hmm, if_neg (fun h => hmm (this.1 h))]
theorem Mi.del (h : Mi w M xs) {k : Int} (hk : I6 k) (hin : k ∈ xs) (hy : ys.length + 1 = xs.length) (hm : ∀ x, x ∈ ys ↔ x ∈ xs ∧ x ≠ k) (ty : TypeId) :
    ∃ X, (Builtin.delete_ #[(52 : TypeId), 3] ty #[.map (some M), .int .i64 k]).run Try.prog w = .ok (.tuple #[]) X ∧ Mi X M ys ∧ Tb (fun i => i = M) w X := by
  obtain ⟨D, h1, h2, h3⟩ := h.ex
  obtain ⟨X, hr, h4, h5⟩ := h1.drop K3 Try.underlying52 (key3 hk) ty
  refine ⟨X, hr, ⟨_, h4, ?_, fun k' hk' => ?_⟩, Tb.turned h5 rfl⟩
  · have h6 := Maps.size_del (k := .int .i64 k) (h1.own.tidy K3)
    rw [has_gt h1 K3 (key3 hk), h3 k hk, h2, if_pos hin] at h6
    simp only [Option.isSome_some, if_true] at h6
    omega
  · by_cases e : k' = k
    · subst e
      rw [gt_del_same, if_neg (fun h => ((hm k').1 h).2 rfl)]
    · rw [gt_del_other (by simpa using e), h3 k' hk']
      have : (k' ∈ ys) ↔ k' ∈ xs := by rw [hm]; simp [e]
      by_cases hmm : k' ∈ xs
      · rw [if_pos hmm, if_pos (this.2 hmm)]
      · rw [if_neg hmm, if_neg (fun h => hmm (this.1 h))]
theorem Sn.map {W0 : World} {Q R G : Nat} (h : Sn W0 w Q R G xs) (mi : Mi w M ys) (hM : W0.heap.size ≤ M) (t : Tb (fun i => i = M) w w') : Sn W0 w' Q R G xs := by
  obtain ⟨N, hd, q⟩ := h.ex
  obtain ⟨cur, hc, _⟩ := q.ring
  refine ⟨h.s.tb t (fun e => mi.ne h.s e.symm), ⟨N, hd, q.tb t (fun e => mi.ne q.obj e.symm) (fun e => mi.ne hc e.symm)⟩, h.r, h.g, h.q, h.bel.trans (t.below (fun i hi => by omega) h.bel.size)⟩
end

/-- Tasks that may be ready: numbers from 0 on, none twice, few. -/
structure Tk (xs : List Int) (n : Nat) : Prop where
  nd : xs.Nodup
  i6 : ∀ x ∈ xs, 0 ≤ x ∧ x ≤ 9223372036854775807
  few : xs.length ≤ n

theorem Tk.rd {xs : List Int} {n : Nat} (h : Tk xs n) {x : Int} (hx : x ≤ 9223372036854775807) (_hn : n ≤ 100) : Tk (rdL xs x) (n + 1) := by
  have hf := h.few
  refine ⟨rdL_nodup h.nd x, fun y hy => ?_, ?_⟩
  · unfold rdL at hy
    split at hy
    · rename_i he
      rcases List.mem_append.1 hy with hy | hy
      · exact h.i6 y hy
      · simp only [List.mem_singleton] at hy
        subst hy
        have : ¬ y < 0 := by
          intro h0
          unfold rdE at he
          rw [if_pos h0] at he
          omega
        omega
    · exact h.i6 y hy
  · unfold rdL
    split
    · simp; omega
    · omega

theorem Tk.er {xs : List Int} {n : Nat} (h : Tk xs n) (i : Nat) : Tk (xs.eraseIdx i) n :=
  ⟨er_nodup h.nd i, fun y hy => h.i6 y (List.mem_of_mem_eraseIdx hy), Nat.le_trans (List.length_eraseIdx_le xs i) h.few⟩

theorem mem_er {xs : List Int} (hn : xs.Nodup) {i : Nat} (hi : i < xs.length) (x : Int) : x ∈ xs.eraseIdx i ↔ x ∈ xs ∧ x ≠ xs.getD i 0 := by
  have hg : xs.getD i 0 = xs[i] := by simp [List.getD, List.getElem?_eq_getElem hi]
  rw [hg, ← List.erase_eq_eraseIdx_of_idxOf (hn.idxOf_getElem i hi), hn.mem_erase_iff]
  exact ⟨fun h => ⟨h.2, h.1⟩, fun h => ⟨h.2, h.1⟩⟩

end Go.Proofs.Ytnnmlndjcaeegaa.QI

/-
  The document's Pick: one of a line leaves it.
-/
import Derived.Test.YtennciddjkijaaaCuc
namespace Go.Proofs.Ytennciddjkijaaa.QI
open Go.RowKit
set_option maxRecDepth 100000
set_option maxRecDepth 20000
set_option linter.unusedSimpArgs false

set_option maxHeartbeats 2000000 in
theorem refpick {w : World} {xs : List Int} {a : Option Addr} {n cap : Nat} (hA : Ls w a n cap xs) (hl : xs.length = n) (hn : n ≤ 1000000) (hn0 : 0 < n) (p : Nat) (hp : p ≤ 18446744073709551615) :
    Calls Try.prog 46 #[.slice a n cap, .int .u64 p] w fun e w' => ∃ va vc, e = .returned (.tuple #[.slice va (n - 1) vc, .int .i64 (xs.getD (p % n) 0), .int .u64 (p / n : Nat), .bool true]) ∧ w'.ownsRow w.heap.size 3 1 (.slice va (n - 1) vc) (n - 1) (W (xs.eraseIdx (p % n))) ∧ Below w.heap.size w w' := by
  have hea := hA.le
  have hra := hA.reach
  have hlt : p % n < n := Nat.mod_lt _ hn0
  have hdl : p / n ≤ p := Nat.div_le_self _ _
  have ht : (p : Int).tmod (n : Int) = ((p % n : Nat) : Int) := by
    rw [Int.tmod_eq_emod_of_nonneg (by omega)]
    simp
  have hd : (p : Int).tdiv (n : Int) = ((p / n : Nat) : Int) := by
    rw [Int.tdiv_eq_ediv_of_nonneg (by omega)]
    simp
  obtain ⟨b0, off0, rfl, hc⟩ := hA.lies hn0
  have hck := hc (p % n) hlt
  have hel : (xs.eraseIdx (p % n)).length = n - 1 := by
    rw [List.length_eraseIdx, if_pos (by omega)]
    omega
  have HW : Hid (∀ V, Below w.heap.size w V → Calls Try.prog 70 #[.slice (some ⟨b0, off0, none⟩) n cap, .int .i64 ((p % n : Nat) : Int)] V fun e w' => ∃ va vc, e = .returned (.slice va (n - 1) vc) ∧ Hid (w'.ownsRow w.heap.size 3 1 (.slice va (n - 1) vc) (n - 1) (W (xs.eraseIdx (p % n)))) ∧ Hid (Below w.heap.size w w') ∧ w'.cell? ⟨b0, off0 + p % n, none⟩ = some (.int .i64 (xs.getD (p % n) 0))) := hide (fun V hV => (without_any (hA.keep hV) (by unfold Mx; omega) ((p % n : Nat) : Int)).mono (by
    rintro e w' ⟨v, rfl, o, b⟩
    rw [show wo xs ((p % n : Nat) : Int) = xs.eraseIdx (p % n) from by
      unfold wo
      rw [if_pos (by omega), Int.toNat_natCast]] at o
    obtain ⟨va, vc, rfl⟩ := row_val o
    have hb := hV.trans (b.mono hV.size)
    have s5 := own_base o hV.size
    rw [hel] at s5
    exact ⟨va, vc, by rw [hel], hide s5, hide hb, (hb.cell (cell_lt hck)).trans hck⟩))
  generalize xs.eraseIdx (p % n) = zs at *
  generalize xs.getD (p % n) 0 = x at *
  obtain ⟨KK, hKK⟩ : ∃ KK, Hid (KK = p % n) := ⟨_, hide rfl⟩
  rw [← hKK.out] at HW ht hlt hck
  obtain ⟨D, hD⟩ : ∃ D, Hid (D = p / n) := ⟨_, hide rfl⟩
  rw [← hD.out] at hd hdl ⊢
  have hrem : ∀ V : World, (Op.intDiv .rem .u64 (p : Int) (n : Int)).run Try.prog V = .ok (.int .u64 (KK : Int)) V := fun V => by
    simp [Op.intDiv, ht, show n ≠ 0 by omega]
  have hquo : ∀ V : World, (Op.intDiv .quo .u64 (p : Int) (n : Int)).run Try.prog V = .ok (.int .u64 (D : Int)) V := fun V => by
    have : IntKind.u64.wrap (D : Int) = D := by simp [IntKind.wrap, IntKind.signed, IntKind.bits]; omega
    simp [Op.intDiv, hd, this, show n ≠ 0 by omega]
  have hwD : IntKind.u64.wrap (D : Int) = D := by simp [IntKind.wrap, IntKind.signed, IntKind.bits]; omega
  have hne : n ≠ 0 := by omega
  have h00 : ((n : Int) == 0) = false := by rw [beq_eq_false_iff_ne]; omega
  clear hA hc hl hel
  go_enter Try.func46, Try.ntmps46
  go_wp2_with fail
  refine wp_region_held_drew (S := fun V => V.cell? ⟨b0, off0 + KK, none⟩ = some (.int .i64 x)) (by kernel_rfl) hck (fun hHeld => ?_)
  try simp only [List.size_toArray, List.length_cons, List.length_nil, Nat.reduceAdd]
  refine wpAnyH_take (i := 0) (v := (.slice (some ⟨b0, off0, none⟩) n cap)) rfl (by kernel_rfl) (by kernel_rfl) (by kernel_rfl) (fun _ _ _ h => h) (Or.inl ⟨by rfl, ?hy⟩) hHeld ?_
  case hy => (intro V hV; go_simp <;> first | done | rfl | (try simp_all; done) | omega)
  simp only [Act.put, List.getElem_toArray, List.getElem_cons_succ, List.getElem_cons_zero, List.setIfInBounds_toArray, List.set_cons_succ, List.set_cons_zero]
  refine wpAnyH_take (i := 1) (v := (.int .i64 (KK : Int))) rfl (by kernel_rfl) (by kernel_rfl) (by kernel_rfl) (fun _ _ _ h => h) (Or.inl ⟨by rfl, ?hy⟩) hHeld ?_
  case hy => (intro V hV; go_simp <;> first | done | rfl | (try simp_all; done) | omega)
  simp only [Act.put, List.getElem_toArray, List.getElem_cons_succ, List.getElem_cons_zero, List.setIfInBounds_toArray, List.set_cons_succ, List.set_cons_zero]
  refine wpAnyH_take (i := 3) (v := (.slice (some ⟨b0, off0, none⟩) n cap)) rfl (by kernel_rfl) (by kernel_rfl) (by kernel_rfl) (fun _ _ _ h => h) (Or.inl ⟨by rfl, ?hy⟩) hHeld ?_
  case hy => (intro V hV; go_simp <;> first | done | rfl | (try simp_all; done) | omega)
  simp only [Act.put, List.getElem_toArray, List.getElem_cons_succ, List.getElem_cons_zero, List.setIfInBounds_toArray, List.set_cons_succ, List.set_cons_zero]
  refine wpAnyH_take (i := 4) (v := (.int .i64 (KK : Int))) rfl (by kernel_rfl) (by kernel_rfl) (by kernel_rfl) (fun _ _ _ h => h) (Or.inl ⟨by rfl, ?hy⟩) hHeld ?_
  case hy => (intro V hV; go_simp <;> first | done | rfl | (try simp_all; done) | omega)
  simp only [Act.put, List.getElem_toArray, List.getElem_cons_succ, List.getElem_cons_zero, List.setIfInBounds_toArray, List.set_cons_succ, List.set_cons_zero]
  refine wpAnyH_take (i := 5) (v := (.pointer (some ⟨b0, off0 + KK, none⟩))) rfl (by kernel_rfl) (by kernel_rfl) (by kernel_rfl) (fun _ _ _ h => h) (Or.inl ⟨by rfl, ?hy⟩) hHeld ?_
  case hy => (intro V hV; go_simp <;> first | done | rfl | (try simp_all; done) | omega)
  simp only [Act.put, List.getElem_toArray, List.getElem_cons_succ, List.getElem_cons_zero, List.setIfInBounds_toArray, List.set_cons_succ, List.set_cons_zero]
  refine wpAnyH_take (i := 6) (v := (.int .i64 x)) rfl (by kernel_rfl) (by kernel_rfl) (by kernel_rfl) (fun _ _ _ h => h) (Or.inl ⟨by rfl, ?hy⟩) hHeld ?_
  case hy => (intro V hV; go_simp <;> first | done | rfl | (try simp_all; done) | omega)
  simp only [Act.put, List.getElem_toArray, List.getElem_cons_succ, List.getElem_cons_zero, List.setIfInBounds_toArray, List.set_cons_succ, List.set_cons_zero]
  refine wpAnyH_take (i := 7) (v := (.int .u64 (p : Int))) rfl (by kernel_rfl) (by kernel_rfl) (by kernel_rfl) (fun _ _ _ h => h) (Or.inl ⟨by rfl, ?hy⟩) hHeld ?_
  case hy => (intro V hV; go_simp <;> first | done | rfl | (try simp_all; done) | omega)
  simp only [Act.put, List.getElem_toArray, List.getElem_cons_succ, List.getElem_cons_zero, List.setIfInBounds_toArray, List.set_cons_succ, List.set_cons_zero]
  refine wpAnyH_take (i := 8) (v := (.int .u64 (n : Int))) rfl (by kernel_rfl) (by kernel_rfl) (by kernel_rfl) (fun _ _ _ h => h) (Or.inl ⟨by rfl, ?hy⟩) hHeld ?_
  case hy => (intro V hV; go_simp <;> first | done | rfl | (try simp_all; done) | omega)
  simp only [Act.put, List.getElem_toArray, List.getElem_cons_succ, List.getElem_cons_zero, List.setIfInBounds_toArray, List.set_cons_succ, List.set_cons_zero]
  refine wpAnyH_take (i := 9) (v := (.int .u64 (D : Int))) rfl (by kernel_rfl) (by kernel_rfl) (by kernel_rfl) (fun _ _ _ h => h) (Or.inl ⟨by rfl, ?hy⟩) hHeld ?_
  case hy => (intro V hV; go_simp <;> first | done | rfl | (try simp_all; done) | omega)
  simp only [Act.put, List.getElem_toArray, List.getElem_cons_succ, List.getElem_cons_zero, List.setIfInBounds_toArray, List.set_cons_succ, List.set_cons_zero]
  refine wpAnyH_ready (rs := [2]) (by kernel_rfl) (by simp) ?_
  refine AllReadyH.cons (by rfl) ?_ AllReadyH.nil
  intro K hK
  refine step_callw (by rfl) 70 #[.slice (some ⟨b0, off0, none⟩) n cap, .int .i64 (KK : Int)] (by go_simp) ?_
  refine (HW.out _ (Below.refl _ _).drew).mono ?_
  rintro e w2 ⟨va, vc, rfl, s2, b2, c2⟩
  refine ⟨_, rfl, ?_⟩
  refine hK.out _ _ c2 (fun hHeld => ?_)
  clear hK K
  simp only [Act.put, List.getElem_toArray, List.getElem_cons_succ, List.getElem_cons_zero, List.setIfInBounds_toArray, List.set_cons_succ, List.set_cons_zero]
  refine wpAnyH_take (i := 10) (v := (.slice va (n - 1) vc)) rfl (by kernel_rfl) (by kernel_rfl) (by kernel_rfl) (fun _ _ _ h => h) (Or.inl ⟨by rfl, ?hy⟩) hHeld ?_
  case hy => (intro V hV; go_simp <;> first | done | rfl | (try simp_all; done) | omega)
  simp only [Act.put, List.getElem_toArray, List.getElem_cons_succ, List.getElem_cons_zero, List.setIfInBounds_toArray, List.set_cons_succ, List.set_cons_zero]
  refine wpAnyH_take (i := 11) (v := (.int .i64 x)) rfl (by kernel_rfl) (by kernel_rfl) (by kernel_rfl) (fun _ _ _ h => h) (Or.inl ⟨by rfl, ?hy⟩) hHeld ?_
  case hy => (intro V hV; go_simp <;> first | done | rfl | (try simp_all; done) | omega)
  simp only [Act.put, List.getElem_toArray, List.getElem_cons_succ, List.getElem_cons_zero, List.setIfInBounds_toArray, List.set_cons_succ, List.set_cons_zero]
  refine wpAnyH_take (i := 12) (v := (.int .u64 (D : Int))) rfl (by kernel_rfl) (by kernel_rfl) (by kernel_rfl) (fun _ _ _ h => h) (Or.inl ⟨by rfl, ?hy⟩) hHeld ?_
  case hy => (intro V hV; go_simp <;> first | done | rfl | (try simp_all; done) | omega)
  simp only [Act.put, List.getElem_toArray, List.getElem_cons_succ, List.getElem_cons_zero, List.setIfInBounds_toArray, List.set_cons_succ, List.set_cons_zero]
  refine wpAnyH_take (i := 13) (v := (.bool true)) rfl (by kernel_rfl) (by kernel_rfl) (by kernel_rfl) (fun _ _ _ h => h) (Or.inl ⟨by rfl, ?hy⟩) hHeld ?_
  case hy => (intro V hV; go_simp <;> first | done | rfl | (try simp_all; done) | omega)
  simp only [Act.put, List.getElem_toArray, List.getElem_cons_succ, List.getElem_cons_zero, List.setIfInBounds_toArray, List.set_cons_succ, List.set_cons_zero]
  refine wpAnyH_done (by kernel_rfl) ?_ _
  try simp only [Act.put, List.getElem_toArray, List.getElem_cons_succ, List.getElem_cons_zero, List.setIfInBounds_toArray, List.set_cons_succ, List.set_cons_zero]
  go_wp2_with fail
  refine bodyPost_ret (v := .tuple #[.slice va (n - 1) vc, .int .i64 x, .int .u64 (D : Int), .bool true]) (by simp [results, Try.results46, go_sem]) rfl ?_
  exact ⟨va, vc, rfl, s2.out, b2.out⟩

theorem refpick_no {w : World} (a : Option Addr) (cap : Nat) (p : Int) :
    Calls Try.prog 46 #[.slice a 0 cap, .int .u64 p] w fun e w' => e = .returned (.tuple #[.slice a 0 cap, .int .i64 0, .int .u64 0, .bool false]) ∧ w' = w := by
  go_enter Try.func46, Try.ntmps46
  go_wp2_with fail
  refine bodyPost_ret (v := .tuple #[.slice a 0 cap, .int .i64 0, .int .u64 0, .bool false]) (by simp [results, Try.results46, go_sem]) rfl ?_
  exact ⟨rfl, rfl⟩

end Go.Proofs.Ytennciddjkijaaa.QI

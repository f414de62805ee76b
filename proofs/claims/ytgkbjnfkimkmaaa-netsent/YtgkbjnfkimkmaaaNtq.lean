/-
  NetSent, its walk.
-/
import Derived.Test.YtgkbjnfkimkmaaaNtp
namespace Go.Proofs.Ytgkbjnfkimkmaaa.netSent
open Go.RowKit Go.Proofs.Ytgkbjnfkimkmaaa
set_option maxRecDepth 100000
set_option linter.unusedVariables false
set_option linter.unusedSimpArgs false

theorem make_ints : ∃ Z : Array Value, (∀ W : World, (Instr.makeSlice (59 : TypeId) (.int .i64 400) (.int .i64 400)).run Try.prog W = .ok (.slice (some ⟨W.heap.size, 0, none⟩) 400 400) (W.alloc (.cells Z 3))) ∧ Z = (I1 (List.replicate 400 0)).toArray := by
  obtain ⟨i0, hi, hz0, hz1, hz2⟩ := info_parts info3
  refine ⟨(I1 (List.replicate 400 0)).toArray, fun W => ?_, rfl⟩
  have h := run_make (P := Try.prog) W (59 : TypeId) 3 i0 (.int .i64 0) Try.underlying59 hi hz0 .i64 .i64 400 400 (by omega) (Int.le_refl _) (by rw [hz2]; decide) (by decide)
  rw [hz1, Nat.mul_one] at h
  have e : madeCells (Value.int .i64 0).cells (Int.toNat 400) = (I1 (List.replicate 400 0)).toArray := by
    apply Array.toList_inj.1
    rw [show (Value.int .i64 0).cells = #[.int .i64 0] from rfl, toList_madeCells_one]
    simp [I1]
  rw [e] at h
  exact h

theorem iv0 : Iv 0 0 [] (List.replicate 400 0) newNt 0 0 :=
  ⟨by omega, by omega, by simp [newNt], rfl, by simp, by simp, by simp [newNt], by simp [sm, newNt], by simp [sm, newNt], by omega, by omega⟩

theorem ms0 {w W : World} {R M : Nat} {Z : Array Value} (h : An w R M newNt W) (hZ : Z = (I1 (List.replicate 400 0)).toArray) :
    Ms w R M W.heap.size (W.heap.size + 1 + 1) (W.heap.size + 1) 0 [] (List.replicate 400 0) newNt (.slice none 0 0) (((W.alloc (.cells #[.int .i64 0] 3)).alloc (.cells Z 3)).alloc (.cells #[.slice (some ⟨W.heap.size + 1, 0, none⟩) 400 400] (59 : TypeId))) := by
  have hs := h.bel.size
  refine ⟨((h.alloc _).alloc _).alloc _, ?_, ?_, ?_, by simp, World.ownsRow_nil _ _ _ _, hs, by omega, by omega, by omega, fun g hg => by cases hg⟩
  · rw [Below.heap_alloc _ _ _ (by simp; omega), Below.heap_alloc _ _ _ (by simp)]
    exact heap_alloc_new W _
  · simpa using heap_alloc_new ((W.alloc (.cells #[.int .i64 0] 3)).alloc (.cells Z 3)) (.cells #[.slice (some ⟨W.heap.size + 1, 0, none⟩) 400 400] (59 : TypeId))
  · rw [Below.heap_alloc _ _ _ (by simp), ← hZ]
    simpa using heap_alloc_new (W.alloc (.cells #[.int .i64 0] 3)) (.cells Z 3)

theorem Ms.cells {w : World} {R M S O og s : Nat} {cp own : List Int} {n : Nt} {cv : Value} {wr : World} (h : Ms w R M S O og s cp own n cv wr) : wr.cell? ⟨S, 0, none⟩ = some (.int .i64 (s : Int)) ∧ wr.cell? ⟨O, 0, none⟩ = some (.slice (some ⟨og, 0, none⟩) 400 400) ∧ wr.frozen? ⟨S, 0, none⟩ = false ∧ (∀ k, k < 400 → wr.cell? ⟨og, k, none⟩ = some (.int .i64 (own.getD k 0)) ∧ wr.frozen? ⟨og, k, none⟩ = false) := by
  refine ⟨by rw [cell_of_row wr S 0 _ 3 (0, 0) h.sc]; rfl, by rw [cell_of_row wr O 0 _ (59 : TypeId) (0, 0) h.oc]; rfl, frozen_of_row wr S 0 _ 3 h.sc, fun k hk => ⟨?_, frozen_of_row wr og k _ 3 h.orow⟩⟩
  rw [cell_of_row wr og k _ 3 (0, 0) h.orow]
  have hl := h.ol
  simp [I1, List.getD, List.getElem?_eq_getElem (show k < own.length by omega)]

/-- The first of those that are left. -/
theorem last_drop {l : List (Int × Pk)} (hl : l.Pairwise fun p q => p.1 < q.1) (la : Int) (k : Nat) (hk : k < l.length) : lk (⟨l.drop k, la⟩ : Nt).m l[k].1 = some l[k].2 ∧ (⟨l.drop k, la⟩ : Nt).drop l[k].1 = ⟨l.drop (k + 1), la⟩ := by
  have hd : l.drop k = l[k] :: l.drop (k + 1) := List.drop_eq_getElem_cons hk
  have hp : (l.drop k).Pairwise fun p q => p.1 < q.1 := hl.sublist (List.drop_sublist _ _)
  rw [hd] at hp
  obtain ⟨h1, _⟩ := List.pairwise_cons.1 hp
  have hn : lk (l.drop (k + 1)) l[k].1 = none := lk_none_iff.2 (fun p hp' e => by have := h1 p hp'; omega)
  refine ⟨?_, ?_⟩
  · show lk (l.drop k) l[k].1 = some l[k].2
    rw [hd, lk_cons, if_pos rfl]
  · have e : dl (l.drop k) l[k].1 = l.drop (k + 1) := by
      have h0 := dl_none hn
      rw [hd]
      unfold dl at h0 ⊢
      rw [List.filter_cons]
      simpa using h0
    unfold Nt.drop
    rw [e]

theorem sm_take (cp : List Int) (h : ∀ c ∈ cp, -100 ≤ c ∧ c ≤ 100) (k : Nat) : -(100 * (k : Int)) ≤ sm (cp.take k) ∧ sm (cp.take k) ≤ 100 * (k : Int) := by
  induction k with
  | zero => simp [sm]
  | succ k ih =>
    rcases Nat.lt_or_ge k cp.length with hk | hk
    · rw [List.take_succ_eq_append_getElem hk, sm_append]
      have := h _ (List.getElem_mem hk)
      simp only [sm, List.foldr_cons, List.foldr_nil] at ih ⊢
      omega
    · rw [List.take_of_length_le (by omega)]
      rw [List.take_of_length_le (by omega)] at ih
      omega
theorem sm_next (cp : List Int) (k : Nat) (hk : k < cp.length) : sm (cp.take (k + 1)) = sm (cp.take k) + cp.getD k 0 := by
  rw [List.take_succ_eq_append_getElem hk, sm_append]
  simp [sm, List.getD, hk]

/-- A count in memory. -/
theorem cp_at {W : World} {base s κ : Nat} {cv : Value} {cp : List Int} (h : W.ownsRow base 3 1 cv s (I1 cp)) (hκ : κ < s) : ∃ g cap, cv = .slice (some ⟨g, 0, none⟩) s cap ∧ s ≤ cap ∧ cap ≤ 9223372036854775807 ∧ (W.cell? ⟨g, κ, none⟩ = some (.int .i64 (cp.getD κ 0)) ∧ W.frozen? ⟨g, κ, none⟩ = false) := by
  rcases h.2 with ⟨_, h0⟩ | ⟨g, cap, cur, rfl, _, hg, hn, hm, _⟩
  · omega
  · have hl := h.1
    rw [I1_length] at hl
    have hc := h.cells (g := g) rfl κ (.int .i64 (cp.getD κ 0)) (by simp [I1, List.getD, List.getElem?_eq_getElem (show κ < cp.length by omega)])
    rw [Addr.add_mid, Nat.zero_add] at hc
    exact ⟨g, cap, rfl, hn, by unfold maxLen at hm; omega, hc, frozen_of_row W g κ _ 3 hg⟩

/-- One more was sent: what is stored then. -/
theorem sent_mem {w : World} {R M S O og s : Nat} {cp own : List Int} {n : Nt} {cv : Value} {X : World} (h : Ms w R M S O og s cp own n cv X) (L : Nat) (hL : L < 399) (hs : s ≤ 1000) :
    (X.setCell ⟨S, 0, none⟩ (.int .i64 ((s : Int) + 1))).cell? ⟨S, 0, none⟩ = some (.int .i64 ((s : Int) + 1)) ∧ (X.setCell ⟨S, 0, none⟩ (.int .i64 ((s : Int) + 1))).cell? ⟨O, 0, none⟩ = some (.slice (some ⟨og, 0, none⟩) 400 400) ∧ (X.setCell ⟨S, 0, none⟩ (.int .i64 ((s : Int) + 1))).cell? ⟨og, L + 1, none⟩ = some (.int .i64 (own.getD (L + 1) 0)) ∧ (X.setCell ⟨S, 0, none⟩ (.int .i64 ((s : Int) + 1))).frozen? ⟨og, L + 1, none⟩ = false ∧
    ∃ v' Z, (∀ ty, (Builtin.append_ #[(59 : TypeId), (59 : TypeId)] ty #[cv, .slice (some ⟨X.heap.size, 0, none⟩) 1 1]).run Try.prog (((X.setCell ⟨S, 0, none⟩ (.int .i64 ((s : Int) + 1))).setCell ⟨og, L + 1, none⟩ (.int .i64 ((s : Int) + 1))).alloc (.cells #[.int .i64 1] 3)) = .ok v' Z) ∧ Ms w R M S O og (s + 1) (cp ++ [1]) (own.set (L + 1) ((s : Int) + 1)) n v' Z := by
  have hc : (((s + 1 : Nat) : Int)) = (s : Int) + 1 := by omega
  have h0 := h.setS (s + 1)
  rw [hc] at h0
  obtain ⟨a1, a2, a3, a4, a5⟩ := h0
  obtain ⟨A, hA⟩ : ∃ A, A = X.setCell ⟨S, 0, none⟩ (.int .i64 ((s : Int) + 1)) := ⟨_, rfl⟩
  rw [← hA] at a1 a2 a3 a4 a5 ⊢
  have o1 := a3.trans h.oc
  have g1 := a4.trans h.orow
  have b1 := Nw.cells_off a2.net g1 (by decide)
  have hso := h.so
  have hsg := h.sg
  have hol := h.ol
  have an2 := An.set (i := L + 1) a2 (.int .i64 ((s : Int) + 1)) b1.1 b1.2 h.wg
  have s2 : (A.setCell ⟨og, L + 1, none⟩ (.int .i64 ((s : Int) + 1))).heap[S]? = some (.cells #[.int .i64 ((s + 1 : Nat) : Int)] 3 (0, 0)) := by rw [hc]; exact (Below.heap_setCell _ ⟨og, L + 1, none⟩ _ _ (fun e => hsg (by simpa using e))).trans a1
  have o2 : (A.setCell ⟨og, L + 1, none⟩ (.int .i64 ((s : Int) + 1))).heap[O]? = some (.cells #[.slice (some ⟨og, 0, none⟩) 400 400] (59 : TypeId) (0, 0)) := (Below.heap_setCell _ ⟨og, L + 1, none⟩ _ _ (fun e => hso.2 (by simpa using e.symm))).trans o1
  have g2 : (A.setCell ⟨og, L + 1, none⟩ (.int .i64 ((s : Int) + 1))).heap[og]? = some (.cells (I1 (own.set (L + 1) ((s : Int) + 1))).toArray 3 (0, 0)) := by
    rw [heap_setCell_same A og (L + 1) _ 3 _ g1]
    simp [I1, List.map_set]
  have c2 := row_set (i := L + 1) a5 (.int .i64 ((s : Int) + 1)) (fun b hb => (h.cs b hb).2)
  obtain ⟨v', Z, r1, r2, r3, r4⟩ := ints_went 1 c2 an2.bel.size (by omega)
  have hsz : (A.setCell ⟨og, L + 1, none⟩ (.int .i64 ((s : Int) + 1))).heap.size = X.heap.size := by rw [hA]; simp [World.setCell]
  have r1' : ∀ ty, (Builtin.append_ #[(59 : TypeId), (59 : TypeId)] ty #[cv, .slice (some ⟨X.heap.size, 0, none⟩) 1 1]).run Try.prog ((A.setCell ⟨og, L + 1, none⟩ (.int .i64 ((s : Int) + 1))).alloc (.cells #[.int .i64 1] 3)) = .ok v' Z := fun ty => by rw [← hsz]; exact r1 ty
  refine ⟨by rw [cell_of_row A S 0 _ 3 (0, 0) a1]; rfl, by rw [cell_of_row A O 0 _ (59 : TypeId) (0, 0) o1]; rfl, ?_, frozen_of_row A og (L + 1) _ 3 g1, v', Z, r1', Ms.more an2 s2 o2 g2 (by simp [hol]) c2 ⟨h.ws, h.wo, h.wg⟩ hsg h.cs r2 r3 r4⟩
  rw [cell_of_row A og (L + 1) _ 3 (0, 0) g1]
  simp [I1, List.getD, List.getElem?_eq_getElem (show L + 1 < own.length by omega)]

set_option maxHeartbeats 8000000 in
theorem walk (a0 : Option Addr) (n0 cap0 : Nat) (zs : List Int) (w : World) (hB : Is w a0 n0 cap0 zs) :
    Calls Try.prog 6 #[.slice a0 n0 cap0] w fun e w' => e = .returned (.bool true) ∧ Below w.heap.size w w' := by
  have hb2 := hB.le
  have hb3 := hB.reach
  have HB := hide hB
  clear hB
  obtain ⟨Z, mk0, hZ⟩ := make_ints
  go_enter Try.func6, Try.ntmps6
  go_wp2_with fail
  refine (an_new w).mono ?_
  rintro e W1 ⟨R, M, rfl, h1⟩
  have M0 := hide (ms0 h1 hZ)
  clear h1 hZ
  go_wp2_with fail
  obtain ⟨S, hS⟩ : ∃ S, Hid (S = W1.heap.size) := ⟨_, hide rfl⟩
  obtain ⟨og, hog⟩ : ∃ og, Hid (og = W1.heap.size + 1) := ⟨_, hide rfl⟩
  obtain ⟨O, hOO⟩ : ∃ O, Hid (O = W1.heap.size + 1 + 1) := ⟨_, hide rfl⟩
  obtain ⟨W2, hW2⟩ : ∃ W2, Hid (W2 = (((W1.alloc (.cells #[.int .i64 0] 3)).alloc (.cells Z 3)).alloc (.cells #[.slice (some ⟨W1.heap.size + 1, 0, none⟩) 400 400] (59 : TypeId)))) := ⟨_, hide rfl⟩
  rw [← hW2.out] at M0 ⊢
  rw [← hOO.out] at M0 ⊢
  rw [← hog.out] at M0 ⊢
  rw [← hS.out] at M0 ⊢
  clear hW2 hOO hog hS mk0
  go_loopw [5, 6, 8, 10, 11] (fun lo cv la de i wr => ∃ (j s lost dd L : Nat) (cp own : List Int) (n : Nt), j ≤ n0 ∧ i = .int .i64 (j : Int) ∧ lo = .int .i64 (lost : Int) ∧ la = .int .i64 (L : Int) ∧ de = .int .i64 (dd : Int) ∧ Hid (n.last = (L : Int)) ∧ Hid (Iv j s cp own n lost dd ∧ Ms w R M S O og s cp own n cv wr))
    (fun _ _ _ _ i _ => 100 - (intOf i).toNat)
  case atStart => exact ⟨0, 0, 0, 0, 0, [], List.replicate 400 0, newNt, by omega, rfl, rfl, rfl, rfl, hide rfl, hide ⟨iv0, M0.out⟩⟩
  case round =>
    obtain ⟨j, s, lost, dd, L, cp, own, n, hj, rfl, rfl, rfl, rfl, hLn, hI⟩ := hrel
    clear M0
    have hj100 : j ≤ 100 := hI.out.1.hi
    have hsj : s ≤ j := hI.out.1.hs
    have hLj : L ≤ j := by have := hI.out.1.last.2; rw [hLn.out] at this; omega
    have hlost : lost ≤ j := hI.out.1.ll
    have hdd : dd ≤ j := hI.out.1.dl
    by_cases hjn : j < n0 ∧ j < 100
    · obtain ⟨hj1, hj2⟩ := hjn
      obtain ⟨b, off, rfl, hc⟩ := HB.out.lies (by omega)
      have hcj : wr.cell? ⟨b, off + j, none⟩ = some (.int .i64 (zs.getD j 0)) := by
        have h0 := hc j hj1
        rw [hI.out.2.net.bel.cell (cell_lt h0)]
        exact h0
      obtain ⟨x, hx⟩ : ∃ x, Hid (x = zs.getD j 0) := ⟨_, hide rfl⟩
      rw [← hx.out] at hcj
      have CP : Calls Try.prog 27 #[.int .i64 x, .int .i64 1000003] wr fun e w' => ∃ p : Nat, p < 1000003 ∧ e = .returned (.int .i64 p) ∧ w' = wr := pick_any x 1000003 wr (by omega) (by omega)
      clear hc
      go_wp2_with fail
      refine CP.mono ?_
      rintro e wp ⟨p, hp, rfl, hwp⟩
      subst wp
      clear CP hcj
      go_wp2_with fail
      refine (an_list hI.out.2.net).mono ?_
      rintro e Y ⟨v, ts, rfl, hT, hYn, bY⟩
      have MY := hide (hI.out.2.fresh bY)
      obtain ⟨va, vc, rfl, hv1, hv2⟩ := hT.val
      obtain ⟨N, hN⟩ : ∃ N, Hid (N = n.m.length) := ⟨_, hide rfl⟩
      rw [← hN.out] at hv1 ⊢
      have HT := hide hT
      have hmod : (p : Int).tmod 5 = ((p % 5 : Nat) : Int) := by rw [Int.tmod_eq_emod_of_nonneg (by omega)]; omega
      obtain ⟨r, hr⟩ : ∃ r, Hid (r = p % 5) := ⟨_, hide rfl⟩
      have hr5 : r < 5 := by rw [hr.out]; omega
      rw [← hr.out] at hmod
      clear hT hYn bY
      by_cases hsend : N = 0 ∨ r < 2
      · have hsend' : (N = 0) ∨ (((N : Int) == 0) = false ∧ (r : Int) < 2) := by
          by_cases h0 : N = 0
          · exact .inl h0
          · exact .inr ⟨by simp; omega, by omega⟩
        have MYd := hide (MY.out.fresh ((Below.refl _ Y).drew))
        have hcell := MYd.out.cells.1
        have hput : Hid (n.sendA (bod s) = ((L : Int) + 1, 0) ∧ n.sendN (s : Int) ((s : Int) + 1) (bod s) = n.put (Bp s)) := hide (by
          have hf := hI.out.1.few
          have hb : (bod s).length ≤ 65545 := by rw [bod_length]; omega
          unfold Nt.sendA Nt.sendN Nt.putA Nt.putN
          rw [if_neg (by omega), if_neg (by omega), if_neg (by omega), if_neg (by omega), hLn.out]
          exact ⟨rfl, rfl⟩)
        have hnl : n.last < 9223372036854775807 := by rw [hLn.out]; omega
        have HNL := hide hnl
        clear hnl HT hsend
        rcases hsend' with rfl | ⟨hs0, hs1⟩
        all_goals
          go_wp2_with fail
          refine wp_region_held_drew (S := fun V => V.cell? ⟨S, 0, none⟩ = some (.int .i64 (s : Int))) (by kernel_rfl) hcell (fun hHeld => ?_)
          try simp only [List.size_toArray, List.length_cons, List.length_nil, Nat.reduceAdd]
          refine wpAnyH_take (i := 0) (v := (Value.pointer (some ⟨R, 0, none⟩))) rfl (by kernel_rfl) (by kernel_rfl) (by kernel_rfl) (fun _ _ _ h => h) (Or.inl ⟨by rfl, ?hy⟩) hHeld ?_
          case hy => (intro V hV; go_simp <;> first | done | rfl | exact wrap_small (by omega) | (try simp_all; done) | omega)
          simp only [Act.put, List.getElem_toArray, List.getElem_cons_succ, List.getElem_cons_zero, List.setIfInBounds_toArray, List.set_cons_succ, List.set_cons_zero]
          refine wpAnyH_take (i := 1) (v := (Value.int .i64 (s : Int))) rfl (by kernel_rfl) (by kernel_rfl) (by kernel_rfl) (fun _ _ _ h => h) (Or.inl ⟨by rfl, ?hy⟩) hHeld ?_
          case hy => (intro V hV; go_simp <;> first | done | rfl | exact wrap_small (by omega) | (try simp_all; done) | omega)
          simp only [Act.put, List.getElem_toArray, List.getElem_cons_succ, List.getElem_cons_zero, List.setIfInBounds_toArray, List.set_cons_succ, List.set_cons_zero]
          refine wpAnyH_take (i := 2) (v := (Value.int .i64 (s : Int))) rfl (by kernel_rfl) (by kernel_rfl) (by kernel_rfl) (fun _ _ _ h => h) (Or.inl ⟨by rfl, ?hy⟩) hHeld ?_
          case hy => (intro V hV; go_simp <;> first | done | rfl | exact wrap_small (by omega) | (try simp_all; done) | omega)
          simp only [Act.put, List.getElem_toArray, List.getElem_cons_succ, List.getElem_cons_zero, List.setIfInBounds_toArray, List.set_cons_succ, List.set_cons_zero]
          refine wpAnyH_take (i := 3) (v := (Value.int .i64 ((s : Int) + 1))) rfl (by kernel_rfl) (by kernel_rfl) (by kernel_rfl) (fun _ _ _ h => h) (Or.inl ⟨by rfl, ?hy⟩) hHeld ?_
          case hy => (intro V hV; go_simp <;> first | done | rfl | exact wrap_small (by omega) | (try simp_all; done) | omega)
          simp only [Act.put, List.getElem_toArray, List.getElem_cons_succ, List.getElem_cons_zero, List.setIfInBounds_toArray, List.set_cons_succ, List.set_cons_zero]
          refine wpAnyH_take (i := 4) (v := (Value.int .i64 (s : Int))) rfl (by kernel_rfl) (by kernel_rfl) (by kernel_rfl) (fun _ _ _ h => h) (Or.inl ⟨by rfl, ?hy⟩) hHeld ?_
          case hy => (intro V hV; go_simp <;> first | done | rfl | exact wrap_small (by omega) | (try simp_all; done) | omega)
          simp only [Act.put, List.getElem_toArray, List.getElem_cons_succ, List.getElem_cons_zero, List.setIfInBounds_toArray, List.set_cons_succ, List.set_cons_zero]
          refine wpAnyH_ready (rs := [5]) (by kernel_rfl) (by simp) ?_
          refine AllReadyH.cons (by rfl) ?_ AllReadyH.nil
          intro K hK
          refine step_callw (by rfl) 26 #[.int .i64 (s : Int)] (by go_simp) ?_
          refine (body_any s (by omega) _).mono ?_
          rintro e X1 ⟨ba, bc, rfl, hx1, hx2⟩
          have mX := hide (MYd.out.fresh hx2)
          have hBx := own_bs hx1 (bod_byte s)
          clear hx1 hx2
          refine ⟨_, rfl, ?_⟩
          refine hK.out _ _ (mX.out.cells.1) (fun hHeld => ?_)
          clear hK K
          simp only [Act.put, List.getElem_toArray, List.getElem_cons_succ, List.getElem_cons_zero, List.setIfInBounds_toArray, List.set_cons_succ, List.set_cons_zero]
          refine wpAnyH_ready (rs := [6]) (by kernel_rfl) (by simp) ?_
          refine AllReadyH.cons (by rfl) ?_ AllReadyH.nil
          intro K hK
          refine step_callw (by rfl) 10 #[.pointer (some ⟨R, 0, none⟩), .int .i64 (s : Int), .int .i64 ((s : Int) + 1), .slice ba (2 + s % 20) bc] (by go_simp) ?_
          refine (an_send mX.out.net HNL.out (i6 (by omega)) (i6 (by omega)) hBx).mono ?_
          rintro e X2 ⟨rfl, hX2, tX2⟩
          rw [hput.out.2] at hX2
          rw [hput.out.1]
          have m2 := hide (mX.out.turn hX2 tX2)
          clear hX2 tX2 hBx
          refine ⟨_, rfl, ?_⟩
          refine hK.out _ _ (m2.out.cells.1) (fun hHeld => ?_)
          clear hK K
          simp only [Act.put, List.getElem_toArray, List.getElem_cons_succ, List.getElem_cons_zero, List.setIfInBounds_toArray, List.set_cons_succ, List.set_cons_zero]
          refine wpAnyH_take (i := 7) (v := (Value.tuple #[.int .i64 ((L : Int) + 1), .int .i64 0])) rfl (by kernel_rfl) (by kernel_rfl) (by kernel_rfl) (fun _ _ _ h => h) (Or.inl ⟨by rfl, ?hy⟩) hHeld ?_
          case hy => (intro V hV; go_simp <;> first | done | rfl | (try simp_all; done))
          simp only [Act.put, List.getElem_toArray, List.getElem_cons_succ, List.getElem_cons_zero, List.setIfInBounds_toArray, List.set_cons_succ, List.set_cons_zero]
          refine wpAnyH_take (i := 8) (v := (Value.int .i64 ((L : Int) + 1))) rfl (by kernel_rfl) (by kernel_rfl) (by kernel_rfl) (fun _ _ _ h => h) (Or.inl ⟨by rfl, ?hy⟩) hHeld ?_
          case hy => (intro V hV; go_simp <;> first | done | rfl | (try simp_all; done))
          simp only [Act.put, List.getElem_toArray, List.getElem_cons_succ, List.getElem_cons_zero, List.setIfInBounds_toArray, List.set_cons_succ, List.set_cons_zero]
          refine wpAnyH_take (i := 9) (v := (Value.int .i64 0)) rfl (by kernel_rfl) (by kernel_rfl) (by kernel_rfl) (fun _ _ _ h => h) (Or.inl ⟨by rfl, ?hy⟩) hHeld ?_
          case hy => (intro V hV; go_simp <;> first | done | rfl | (try simp_all; done))
          simp only [Act.put, List.getElem_toArray, List.getElem_cons_succ, List.getElem_cons_zero, List.setIfInBounds_toArray, List.set_cons_succ, List.set_cons_zero]
          refine wpAnyH_take (i := 10) (v := (Value.int .i64 ((L : Int) + 1))) rfl (by kernel_rfl) (by kernel_rfl) (by kernel_rfl) (fun _ _ _ h => h) (Or.inl ⟨by rfl, ?hy⟩) hHeld ?_
          case hy => (intro V hV; go_simp <;> first | done | rfl | (try simp_all; done))
          simp only [Act.put, List.getElem_toArray, List.getElem_cons_succ, List.getElem_cons_zero, List.setIfInBounds_toArray, List.set_cons_succ, List.set_cons_zero]
          refine wpAnyH_take (i := 11) (v := (Value.int .i64 0)) rfl (by kernel_rfl) (by kernel_rfl) (by kernel_rfl) (fun _ _ _ h => h) (Or.inl ⟨by rfl, ?hy⟩) hHeld ?_
          case hy => (intro V hV; go_simp <;> first | done | rfl | (try simp_all; done))
          simp only [Act.put, List.getElem_toArray, List.getElem_cons_succ, List.getElem_cons_zero, List.setIfInBounds_toArray, List.set_cons_succ, List.set_cons_zero]
          refine wpAnyH_done (by kernel_rfl) ?_ _
          try simp only [Act.put, List.getElem_toArray, List.getElem_cons_succ, List.getElem_cons_zero, List.setIfInBounds_toArray, List.set_cons_succ, List.set_cons_zero]
          obtain ⟨s1, s2, s3, s4, v', Z, r1, mZ⟩ := sent_mem m2.out L (by omega) (by omega)
          obtain ⟨f1, _, f3, _⟩ := m2.out.cells
          have IZ : Hid (Iv (j + 1) (s + 1) (cp ++ [1]) (own.set (L + 1) ((s : Int) + 1)) (n.put (Bp s)) lost dd) := hide (by
            have := hI.out.1.send hj2
            rw [hLn.out, show ((L : Int) + 1).toNat = L + 1 from by omega] at this
            exact this)
          have LZ : Hid ((n.put (Bp s)).last = ((L + 1 : Nat) : Int)) := hide (by simp only [Nt.put, hLn.out]; omega)
          obtain ⟨xa, xc, hxv⟩ := row_val m2.out.cr
          have HZ := hide mZ
          clear mZ m2 mX hput MYd MY hI hLn
          subst hxv
          go_wp2_with (at_builtin; refine wpList_append_run rfl (59 : TypeId) (.tmp 76) (.tmp 77) rfl (.slice xa s xc) (.slice (some ⟨X2.heap.size, 0, none⟩) 1 1) v' (by simp [Act.eval]) (by simp [Act.eval]) (r1 _) ?_)
          go_roundw
          case rel => exact ⟨j + 1, s + 1, lost, dd, L + 1, cp ++ [1], own.set (L + 1) ((s : Int) + 1), n.put (Bp s), by omega, by simp, rfl, by simp, rfl, LZ, hide ⟨IZ.out, HZ.out⟩⟩
          case measure => simp [intOf]; omega
      · have hr2 : ¬ ((r : Int) < 2) := by omega
        have hN0 : ((N : Int) == 0) = false := by simp; omega
        have hN1 : 0 < N := by omega
        have hNI : ¬ ((N : Int) = 0) := by omega
        obtain ⟨d, hd⟩ : ∃ d, Hid (d = p / 5) := ⟨_, hide rfl⟩
        have hd1 : (p : Int).tdiv 5 = (d : Int) := by rw [hd.out, Int.tdiv_eq_ediv_of_nonneg (by omega)]; omega
        have hd2 : (p : Int) / 5 = (d : Int) := by rw [hd.out]; omega
        obtain ⟨ix, hix⟩ : ∃ ix, Hid (ix = d % N) := ⟨_, hide rfl⟩
        have hix1 : ix < N := by rw [hix.out]; exact Nat.mod_lt _ hN1
        have hix2 : Int.tmod (d : Int) (N : Int) = (ix : Int) := by rw [hix.out]; rfl
        have hixm : ix < n.m.length := by rw [← hN.out]; exact hix1
        obtain ⟨g, cap, t, e1, hgb, hgY, _, _, htI, c0, c1, c2, c3⟩ := HT.out.at ix hixm
        simp only [Value.slice.injEq] at e1
        obtain ⟨κ, ν, hκ, hq, hν1, hν2, hown, hlk⟩ := hI.out.1.look (List.getElem_mem hixm) hI.out.2.net.net.ok
        rw [hq] at c0 c1 c2 htI
        have hrg : Hid (Y.rangeAt g (ix * 4) [.int .i64 (ν : Int), .int .i64 (κ : Int), .int .i64 ((κ : Int) + 1), .slice t.a t.ln t.cap]) := hide (fun k v hv => by
          match k, hv with
          | 0, hv => simp only [List.getElem?_cons_zero, Option.some.injEq] at hv; rw [← hv]; exact c0
          | 1, hv => simp only [List.getElem?_cons_succ, List.getElem?_cons_zero, Option.some.injEq] at hv; rw [← hv]; exact c1
          | 2, hv => simp only [List.getElem?_cons_succ, List.getElem?_cons_zero, Option.some.injEq] at hv; rw [← hv]; exact c2
          | 3, hv => simp only [List.getElem?_cons_succ, List.getElem?_cons_zero, Option.some.injEq] at hv; rw [← hv]; exact c3
          | k + 4, hv => simp at hv)
        obtain ⟨e1a, _, e1c⟩ := e1
        subst e1a
        have hνL : ν ≤ L := by rw [hLn.out] at hν2; omega
        have hsm : (lk n.m (ν : Int)).isSome = true := by rw [hlk]; rfl
        have HLK := hide hlk
        have HSM := hide hsm
        have HOW := hide hown
        have hκ1000 : κ ≤ 100 := by omega
        clear hsend c0 c1 c2 c3 htI hq hlk hsm hown hgb hixm e1c HT hν2
        have MV := hide (MY.out.alloc (.cells #[.int .i64 (ν : Int), .int .i64 (κ : Int), .int .i64 ((κ : Int) + 1), .slice t.a t.ln t.cap] (31 : TypeId)))
        obtain ⟨V, hV⟩ : ∃ V, Hid (V = Y.alloc (.cells #[.int .i64 (ν : Int), .int .i64 (κ : Int), .int .i64 ((κ : Int) + 1), .slice t.a t.ln t.cap] (31 : TypeId))) := ⟨_, hide rfl⟩
        have hVc : V.heap[Y.heap.size]? = some (.cells #[.int .i64 (ν : Int), .int .i64 (κ : Int), .int .i64 ((κ : Int) + 1), .slice t.a t.ln t.cap] (31 : TypeId) (0, 0)) := by rw [hV.out]; exact heap_alloc_new Y _
        have hv0 := cell_of_row V Y.heap.size 0 _ (31 : TypeId) (0, 0) hVc
        simp only [List.getElem?_toArray, List.getElem?_cons_zero] at hv0
        rw [← hV.out] at MV
        have hYV : Y.heap.size < V.heap.size := heap_lt hVc
        have HVC := hide hVc
        clear hVc
        have hrr : r = 2 ∨ r = 3 ∨ r = 4 := by omega
        rcases hrr with rfl | rfl | rfl
        · have C := an_deliver MV.out.net (i6 (by omega) : I6 (ν : Int)) HLK.out
          rw [show (Bp κ).fr = (κ : Int) from rfl, show (Bp κ).to = (κ : Int) + 1 from rfl] at C
          go_wp2_with (refine wpList_load_mid rfl (31 : TypeId) (.tmp 85) rfl g (ix * 4) (by simp [Act.eval]) [.int .i64 (ν : Int), .int .i64 (κ : Int), .int .i64 ((κ : Int) + 1), .slice t.a t.ln t.cap] _ hrg.out Try.underlying31 rfl size31 ?_)
          rw [← hV.out]
          refine C.mono ?_
          rintro e X ⟨t2, rfl, ht2, hX, tX⟩
          have mX := hide (MV.out.turn hX tX)
          have CD := deliver_was (κ := κ) (ν := ν) (s := s) (S := S) (O := O) (og := og) (a := t2.a) (ln := t2.ln) (cap := t2.cap) ht2.bd hκ (by omega) (by omega) mX.out.cells.1 mX.out.cells.2.1 (by rw [(mX.out.cells.2.2.2 ν (by omega)).1, HOW.out])
          have IZ : Hid (Iv (j + 1) s cp own (n.drop (ν : Int)) lost (dd + 1)) := hide (hI.out.1.deliver hI.out.2.net.net.ok HSM.out hj2)
          have LZ : Hid ((n.drop (ν : Int)).last = (L : Int)) := hide hLn.out
          clear ht2 hX tX C MV MY hI
          go_wp2_with fail
          refine CD.mono ?_
          rintro e X2 ⟨rfl, hb⟩
          have HZ := hide (mX.out.fresh hb)
          clear hb mX CD
          go_wp2_with fail
          go_roundw
          case rel => exact ⟨j + 1, s, lost, dd + 1, L, cp, own, n.drop (ν : Int), by omega, by simp, rfl, rfl, by simp, LZ, hide ⟨IZ.out, HZ.out⟩⟩
          case measure => simp [intOf]; omega
        · have C := an_drop MV.out.net (i6 (by omega) : I6 (ν : Int))
          rw [show n.findE (ν : Int) = 0 from by simp [Nt.findE, HSM.out], show n.drpN (ν : Int) = n.drop (ν : Int) from by simp [Nt.drpN, HSM.out]] at C
          go_wp2_with (refine wpList_load_mid rfl (31 : TypeId) (.tmp 85) rfl g (ix * 4) (by simp [Act.eval]) [.int .i64 (ν : Int), .int .i64 (κ : Int), .int .i64 ((κ : Int) + 1), .slice t.a t.ln t.cap] _ hrg.out Try.underlying31 rfl size31 ?_)
          rw [← hV.out]
          refine C.mono ?_
          rintro e X ⟨rfl, hX, tX⟩
          have mX := hide (MV.out.turn hX tX)
          obtain ⟨cg, ccap, hcv, hcr, hcz, hcc⟩ := cp_at mX.out.cr hκ
          have hx0 : X.cell? ⟨Y.heap.size, 0, none⟩ = some (.int .i64 (ν : Int)) := tX.cell hv0 (fun e => by
            have h1 := Nw.cells_off MV.out.net.net HVC.out (by decide)
            simp only at e
            omega)
          have ho0 := mX.out.cells.2.1
          have ho1 : X.cell? ⟨og, ν, none⟩ = some (.int .i64 ((κ : Int) + 1)) := by rw [(mX.out.cells.2.2.2 ν (by omega)).1, HOW.out]
          have hcb : -100 ≤ cp.getD κ 0 ∧ cp.getD κ 0 ≤ 100 := by
            have h0 := hI.out.1.cb (cp.getD κ 0) (by have hl := hI.out.1.cl; simp [List.getD, List.getElem?_eq_getElem (show κ < cp.length by omega)])
            omega
          have IZ : Hid (Iv (j + 1) s (cp.set κ (cp.getD κ 0 + -1)) own (n.drop (ν : Int)) (lost + 1) dd) := hide (hI.out.1.drop hI.out.2.net.net.ok HSM.out hj2 hκ)
          have LZ : Hid ((n.drop (ν : Int)).last = (L : Int)) := hide hLn.out
          have HZ : Hid (Ms w R M S O og s (cp.set κ (cp.getD κ 0 + -1)) own (n.drop (ν : Int)) u6 (X.setCell ⟨cg, κ, none⟩ (.int .i64 (cp.getD κ 0 + -1)))) := hide (mX.out.setC (by rw [hcv]; rfl) κ _)
          obtain ⟨cx, hcx⟩ : ∃ cx, Hid (cx = cp.getD κ 0) := ⟨_, hide rfl⟩
          rw [← hcx.out] at hcc hcb HZ IZ
          have hminus : cx + -1 = cx - 1 := rfl
          rw [hminus] at HZ IZ
          obtain ⟨hcb1, hcb2⟩ := hcb
          subst hcv
          clear hX tX C MV MY hI mX hminus
          go_wp2_with fail
          go_roundw
          case rel => exact ⟨j + 1, s, lost + 1, dd, L, cp.set κ (cx - 1), own, n.drop (ν : Int), by omega, by simp, by simp, rfl, rfl, LZ, hide ⟨IZ.out, HZ.out⟩⟩
          case measure => simp [intOf]; omega
        · have C := an_double MV.out.net (show n.last < 9223372036854775807 from by rw [hLn.out]; omega) (i6 (by omega) : I6 (ν : Int))
          have hfew := hI.out.1.few
          rw [show n.dblA (ν : Int) = ((L : Int) + 1, 0) from by unfold Nt.dblA Nt.putA; rw [if_pos HSM.out, if_neg (by omega), hLn.out], show n.dblN (ν : Int) = n.put (Bp κ) from by unfold Nt.dblN Nt.putN Nt.findA; rw [if_pos HSM.out, if_neg (by omega), HLK.out]; rfl] at C
          go_wp2_with (refine wpList_load_mid rfl (31 : TypeId) (.tmp 85) rfl g (ix * 4) (by simp [Act.eval]) [.int .i64 (ν : Int), .int .i64 (κ : Int), .int .i64 ((κ : Int) + 1), .slice t.a t.ln t.cap] _ hrg.out Try.underlying31 rfl size31 ?_)
          rw [← hV.out]
          refine C.mono ?_
          rintro e X ⟨rfl, hX, tX⟩
          have mX := hide ((MV.out.turn hX tX).fresh ((Below.refl _ X).drew))
          have hx0 : X.drew.cell? ⟨Y.heap.size, 0, none⟩ = some (.int .i64 (ν : Int)) := tX.cell hv0 (fun e => by
            have h1 := Nw.cells_off MV.out.net.net HVC.out (by decide)
            simp only at e
            omega)
          obtain ⟨_, ho0, _, hoo⟩ := mX.out.cells
          have ho1 : X.drew.cell? ⟨og, ν, none⟩ = some (.int .i64 ((κ : Int) + 1)) := by rw [(hoo ν (by omega)).1, HOW.out]
          obtain ⟨ho2, ho3⟩ := hoo (L + 1) (by omega)
          have m2 := hide (mX.out.setO (L + 1) ((κ : Int) + 1))
          obtain ⟨cg, ccap, hcv, hcr, hcz, hcc, hcf⟩ := cp_at m2.out.cr hκ
          have hp0 := m2.out.cells.2.1
          have hp1 : (X.drew.setCell ⟨og, L + 1, none⟩ (.int .i64 ((κ : Int) + 1))).cell? ⟨og, L + 1, none⟩ = some (.int .i64 ((κ : Int) + 1)) := by
            rw [(m2.out.cells.2.2.2 (L + 1) (by omega)).1]
            have hl := hI.out.1.ol
            simp [List.getD, show L + 1 < own.length by omega]
          have hcb : -100 ≤ cp.getD κ 0 ∧ cp.getD κ 0 ≤ 100 := by
            have h0 := hI.out.1.cb (cp.getD κ 0) (by have hl := hI.out.1.cl; simp [List.getD, List.getElem?_eq_getElem (show κ < cp.length by omega)])
            omega
          have IZ : Hid (Iv (j + 1) s (cp.set κ (cp.getD κ 0 + 1)) (own.set (L + 1) ((κ : Int) + 1)) (n.put (Bp κ)) lost dd) := hide (by
            have := hI.out.1.double hκ hj2
            rw [hLn.out, show ((L : Int) + 1).toNat = L + 1 from by omega] at this
            exact this)
          have LZ : Hid ((n.put (Bp κ)).last = ((L + 1 : Nat) : Int)) := hide (by simp only [Nt.put, hLn.out]; omega)
          have HZ : Hid (Ms w R M S O og s (cp.set κ (cp.getD κ 0 + 1)) (own.set (L + 1) ((κ : Int) + 1)) (n.put (Bp κ)) u6 ((X.drew.setCell ⟨og, L + 1, none⟩ (.int .i64 ((κ : Int) + 1))).setCell ⟨cg, κ, none⟩ (.int .i64 (cp.getD κ 0 + 1)))) := hide (m2.out.setC (by rw [hcv]; rfl) κ _)
          obtain ⟨cx, hcx⟩ : ∃ cx, Hid (cx = cp.getD κ 0) := ⟨_, hide rfl⟩
          rw [← hcx.out] at hcc hcb HZ IZ
          obtain ⟨hcb1, hcb2⟩ := hcb
          subst hcv
          have q0 : (X.setCell ⟨og, L + 1, none⟩ (.int .i64 ((κ : Int) + 1))).drew.cell? ⟨O, 0, none⟩ = some (.slice (some ⟨og, 0, none⟩) 400 400) := hp0
          have q1 : (X.setCell ⟨og, L + 1, none⟩ (.int .i64 ((κ : Int) + 1))).drew.cell? ⟨og, L + 1, none⟩ = some (.int .i64 ((κ : Int) + 1)) := hp1
          have q2 : (X.setCell ⟨og, L + 1, none⟩ (.int .i64 ((κ : Int) + 1))).drew.cell? ⟨cg, κ, none⟩ = some (.int .i64 cx) := hcc
          have q3 : (X.setCell ⟨og, L + 1, none⟩ (.int .i64 ((κ : Int) + 1))).drew.frozen? ⟨cg, κ, none⟩ = false := hcf
          clear hX tX C MV MY hI mX m2 hoo hfew hp0 hp1 hcc hcf
          go_wp2_with fail
          go_region
          go_wp2_with fail
          go_roundw
          case rel => exact ⟨j + 1, s, lost, dd, L + 1, cp.set κ (cx + 1), own.set (L + 1) ((κ : Int) + 1), n.put (Bp κ), by omega, by simp, rfl, by simp, rfl, LZ, hide ⟨IZ.out, HZ.out⟩⟩
          case measure => simp [intOf]; omega
    · have hends : (¬ ((j : Int) < (n0 : Int))) ∨ ((j : Int) < (n0 : Int) ∧ ¬ ((j : Int) < 100)) := by
        by_cases h : j < n0
        · exact .inr ⟨by omega, by omega⟩
        · exact .inl (by omega)
      clear hjn
      rcases hends with hends | ⟨hends, hends2⟩
      all_goals
        go_wp2_with fail
        refine (an_list hI.out.2.net).mono ?_
        rintro e Y ⟨v, ts, rfl, hT, hYn, bY⟩
        have MY := hI.out.2.fresh bY
        obtain ⟨va, vc, rfl, hv1, hv2⟩ := hT.val
        obtain ⟨N, hN⟩ : ∃ N, Hid (N = n.m.length) := ⟨_, hide rfl⟩
        have hN100 : N ≤ 100 := by rw [hN.out]; exact hI.out.1.few
        rw [← hN.out] at hv1 ⊢
        have HT := hide hT
        have M0 : Hid (Ms w R M S O og s cp own ⟨n.m.drop 0, n.last⟩ u6 Y ∧ (∀ g, va = some ⟨g, 0, none⟩ → Y.heap[g]? = Y.heap[g]?)) := hide ⟨MY, fun _ _ => rfl⟩
        have hoff : Hid (∀ g, va = some ⟨g, 0, none⟩ → g < Y.heap.size ∧ g ≠ R ∧ g ≠ M) := hide (fun g hg => by
          subst hg
          exact ⟨row_lt hT.row rfl, MY.net.net.off hT.row (by decide) rfl⟩)
        clear hT hYn bY MY
        go_wp2_with fail
        go_loopw [10, 20] (fun de i wr => ∃ k : Nat, k ≤ N ∧ i = .int .i64 (k : Int) ∧ de = .int .i64 ((dd : Int) + (k : Int)) ∧ Hid (Ms w R M S O og s cp own ⟨n.m.drop k, n.last⟩ u6 wr ∧ (∀ g, va = some ⟨g, 0, none⟩ → wr.heap[g]? = Y.heap[g]?)))
          (fun _ i _ => N - (intOf i).toNat)
        case atStart => exact ⟨0, Nat.zero_le _, rfl, by simp, hide ⟨M0.out.1, fun _ _ => rfl⟩⟩
        case round =>
          obtain ⟨k, hk, rfl, rfl, hM⟩ := hrel
          clear M0
          by_cases hkN : k < N
          · have hkm : k < n.m.length := by rw [← hN.out]; exact hkN
            obtain ⟨g, cap, t, e1, _, _, _, _, _, c0, _⟩ := HT.out.at k hkm
            simp only [Value.slice.injEq] at e1
            obtain ⟨e1a, e1b, e1c⟩ := e1
            subst e1a
            clear e1b e1c
            obtain ⟨κ, ν, hκ, hq, hν1, hν2, hown, hlk⟩ := hI.out.1.look (List.getElem_mem hkm) hI.out.2.net.net.ok
            have hld := last_drop hI.out.2.net.net.ok.up n.last k hkm
            rw [hq] at c0 hld
            have hd0 : wr.cell? ⟨g, k * 4, none⟩ = some (.int .i64 (ν : Int)) := by
              have hh := hM.out.2 g rfl
              unfold World.cell? at c0 ⊢
              simp only at c0 ⊢
              rw [hh]
              exact c0
            have hνL : ν ≤ L := by rw [hLn.out] at hν2; omega
            have C := an_deliver hM.out.1.net (i6 (by omega) : I6 (ν : Int)) hld.1
            rw [hld.2, show (Bp κ).fr = (κ : Int) from rfl, show (Bp κ).to = (κ : Int) + 1 from rfl] at C
            have HOW := hide hown
            obtain ⟨hg1, hg2⟩ := hoff.out g rfl
            clear c0 hq hld hlk hown hν2
            go_wp2_with fail
            refine C.mono ?_
            rintro e X ⟨t2, rfl, ht2, hX, tX⟩
            have mX := hide (hM.out.1.turn hX tX)
            have hgX : Hid (X.heap[g]? = Y.heap[g]?) := hide ((tX.block g (by rcases Nat.lt_or_ge g wr.heap.size with h | h; exact h; have h0 := hM.out.2 g rfl; rw [Array.getElem?_eq_none h, Array.getElem?_eq_getElem hg1] at h0; cases h0) (fun e => by omega)).trans (hM.out.2 g rfl))
            have CD := deliver_was (κ := κ) (ν := ν) (s := s) (S := S) (O := O) (og := og) (a := t2.a) (ln := t2.ln) (cap := t2.cap) ht2.bd hκ (by omega) (by omega) mX.out.cells.1 mX.out.cells.2.1 (by rw [(mX.out.cells.2.2.2 ν (by omega)).1, HOW.out])
            have hXs := tX.size
            clear ht2 hX C hM tX
            go_wp2_with fail
            refine CD.mono ?_
            rintro e X2 ⟨rfl, hb⟩
            have HZ : Hid (Ms w R M S O og s cp own ⟨n.m.drop (k + 1), n.last⟩ u6 X2 ∧ (∀ g', some (⟨g, 0, none⟩ : Addr) = some ⟨g', 0, none⟩ → X2.heap[g']? = Y.heap[g']?)) := hide ⟨mX.out.fresh hb, fun g' e => by
              cases e
              rcases Nat.lt_or_ge g X.heap.size with h | h
              · exact (hb.block g h).trans hgX.out
              · have h0 := hgX.out
                rw [Array.getElem?_eq_none h, Array.getElem?_eq_getElem hg1] at h0
                cases h0⟩
            clear hb mX CD
            go_wp2_with fail
            go_roundw
            case rel => exact ⟨k + 1, by omega, by simp, by simp; omega, HZ⟩
            case measure => simp [intOf]; omega
          · have hkz : ¬ ((k : Int) < (N : Int)) := by omega
            have ME : Hid (Ms w R M S O og s cp own ⟨[], n.last⟩ u6 wr) := hide (by
              have := hM.out.1
              rw [List.drop_eq_nil_of_le (by rw [← hN.out]; omega)] at this
              exact this)
            have hkN2 : Hid (k = N) := hide (by omega)
            have hcb : Hid (∀ c ∈ cp, -100 ≤ c ∧ c ≤ 100) := hide (fun c hc => by have := hI.out.1.cb c hc; omega)
            have hcl : Hid (cp.length = s) := hide hI.out.1.cl
            have S1 : Hid (sm cp = (dd : Int) + (k : Int)) := hide (by have h0 := hI.out.1.s1; rw [← hN.out] at h0; rw [h0]; have := hkN2.out; omega)
            have S2 : Hid ((L : Int) = sm cp + (lost : Int)) := hide (by have h0 := hI.out.1.s2; rw [hLn.out] at h0; exact h0)
            obtain ⟨ca, cc, hcv⟩ := row_val ME.out.cr
            have hcap : s ≤ cc ∧ cc ≤ 9223372036854775807 := by
              rcases ME.out.cr.2 with ⟨h1, h2⟩ | ⟨g, c, cur, h1, _, _, hn, hc, _⟩
              · rw [hcv] at h1; simp only [Value.slice.injEq] at h1; omega
              · rw [hcv] at h1; simp only [Value.slice.injEq] at h1; unfold maxLen at hc; omega
            obtain ⟨hcap1, hcap2⟩ := hcap
            subst hcv
            clear hM hI hLn HT hoff
            go_wp2_with fail
            go_loopw [21, 22] (fun al i X => ∃ q : Nat, q ≤ s ∧ i = .int .i64 (q : Int) ∧ al = .int .i64 (sm (cp.take q)) ∧ X = wr)
              (fun _ i _ => s - (intOf i).toNat)
            case atStart => exact ⟨0, Nat.zero_le _, rfl, by simp [sm], rfl⟩
            case round =>
              obtain ⟨q, hq, rfl, rfl, hwr⟩ := hrel
              subst hwr
              by_cases hqs : q < s
              · obtain ⟨cg, ccap, hcv, _, _, hcc, _⟩ := cp_at ME.out.cr hqs
                simp only [Value.slice.injEq] at hcv
                obtain ⟨e1, e2, e3⟩ := hcv
                subst e1
                clear e2 e3
                have hb1 := sm_take cp hcb.out q
                have hb2 := sm_take cp hcb.out (q + 1)
                have hnx := sm_next cp q (by rw [hcl.out]; exact hqs)
                obtain ⟨A, hA⟩ : ∃ A, Hid (A = sm (cp.take q)) := ⟨_, hide rfl⟩
                obtain ⟨B, hBq⟩ : ∃ B, Hid (B = cp.getD q 0) := ⟨_, hide rfl⟩
                rw [← hA.out, ← hBq.out] at hnx
                rw [hnx] at hb2
                rw [← hA.out] at hb1
                rw [← hBq.out] at hcc
                have HNX := hide hnx
                clear hnx
                rw [← hA.out]
                obtain ⟨hb1a, hb1b⟩ := hb1
                obtain ⟨hb2a, hb2b⟩ := hb2
                go_wp2_with fail
                go_roundw
                case rel => exact ⟨q + 1, by omega, by simp, by rw [HNX.out], by first | trivial | rfl⟩
                case measure => simp [intOf]; omega
              · have hqz : ¬ ((q : Int) < (s : Int)) := by omega
                have hall : Hid (sm (cp.take q) = sm cp) := hide (by rw [List.take_of_length_le (by rw [hcl.out]; omega)])
                rw [hall.out, S1.out]
                have hLe : (L : Int) = (dd : Int) + (k : Int) + (lost : Int) := by have := S2.out; rw [S1.out] at this; exact this
                have HLE := hide hLe
                clear hLe
                go_wp2_with fail
                refine (an_list ME.out.net).mono ?_
                rintro e Y2 ⟨v2, ts2, rfl, hT2, hY2, _⟩
                obtain ⟨wa, wc, rfl, _, _⟩ := hT2.val
                rw [show (⟨[], n.last⟩ : Nt).m.length = 0 from rfl]
                have HB2 := hide hY2.bel
                clear hT2 hY2
                rw [HLE.out]
                go_wp2_with fail
                refine (awake_any _).mono ?_
                rintro e Y3 ⟨rfl, hb3⟩
                have fin : Hid (Below w.heap.size w Y3) := hide (HB2.out.trans (hb3.mono HB2.out.size))
                clear hb3
                go_wp2_with fail
                go_ret
                exact ⟨rfl, fin.out⟩

end Go.Proofs.Ytgkbjnfkimkmaaa.netSent

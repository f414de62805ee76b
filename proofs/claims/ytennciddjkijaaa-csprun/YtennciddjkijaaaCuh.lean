/-
  The document's world of tasks: Spawn, walked.
-/
import Derived.Test.YtennciddjkijaaaCug
namespace Go.Proofs.Ytennciddjkijaaa
open Go.RowKit QI
set_option maxRecDepth 100000
set_option linter.unusedSimpArgs false

section
variable {w w' : World} {L C : Nat} {pv tv lv ev : Value} {σ σ' : Sg} {D : Nat → Prop}

set_option maxHeartbeats 2000000 in
theorem rspawn_any (h : Rf w L C pv σ D) (hL : L ≤ w.heap.size) (hl : σ.line.length ≤ 1000000) (htl : σ.tk.length ≤ 1000000) (prog : Nat) :
    Calls Try.prog 10 #[.pointer (some ⟨C, 0, none⟩), .int .i64 prog] w fun e w' => e = .returned (.bool (decide (σ.opn ≠ 256))) ∧ ∃ D', Rf w' L C pv (σ.spawn prog) D' ∧ Fx w D w' D' := by
  obtain ⟨tv, lv, ev, m, hd⟩ := h.ex
  have HC : Hid (∀ k, k < σ.tk.length → ∃ g cap, tv = .slice (some ⟨g, 0, none⟩) σ.tk.length cap ∧ w.cell? ⟨g, k * 4 + 2, none⟩ = some (.int .i64 (σ.tk.getD k pt0).st)) := hide (fun k hk => by
    have hi' : σ.tk[k]? = some (σ.tk.getD k pt0) := by simp [List.getD, List.getElem?_eq_getElem hk]
    obtain ⟨g, cap, e, hc, _⟩ := m.tasks hi'
    exact ⟨g, cap, e, (hc 2 (by omega)).1⟩)
  obtain ⟨ta, tc, htv, c1, Y, hY, ta', tc', X, r1, x1, f1, Z, hZ, mZ, tZ, dZ⟩ := m.task hL htl prog
  have zz := tZ.size
  obtain ⟨la, lc, hlv⟩ := row_val mZ.lr
  subst hlv
  have k1 : Z.cell? ⟨C, 2, none⟩ = some (.slice la σ.line.length lc) := cell_of_row Z C 2 _ _ _ mZ.blk
  have bA : Below Z.heap.size Z (Z.drew.alloc (.cells #[.int .i64 (σ.tk.length : Int)] 3)) := (Below.refl _ Z).drew.alloc (by simp) _
  have HO : Hid ((Z.drew.alloc (.cells #[.int .i64 (σ.tk.length : Int)] 3)).ownsRow L 3 1 (.slice la σ.line.length lc) σ.line.length (QI.W σ.line)) := hide (mZ.tb (S := fun _ => False) (Tb.of_fresh bA) (fun _ _ h => h)).lr
  have bB : Below Z.heap.size Z (Z.alloc (.cells #[.int .i64 (σ.tk.length : Int)] 3)) := (Below.refl _ Z).alloc (by simp) _
  have k4 : (Z.alloc (.cells #[.int .i64 (σ.tk.length : Int)] 3)).cell? ⟨C, 2, none⟩ = some (.slice la σ.line.length lc) := (bB.cell (cell_lt k1)).trans k1
  have HLw : Hid (L ≤ Z.heap.size) := hide (by omega)
  have HF : Hid (σ.opn ≠ 256 → ∀ g d w6, w6.ownsRow L 3 1 (.slice (some ⟨g, 0, none⟩) (σ.line.length + 1) d) (σ.line.length + 1) (QI.W σ.line ++ [.int .i64 (σ.tk.length : Int)]) → (Z.drew.alloc (.cells #[.int .i64 (σ.tk.length : Int)] 3)).grownBy w6 (Value.slice la σ.line.length lc).ownBlock → ((Value.slice la σ.line.length lc).ownBlock = some g ∨ g = (Z.drew.alloc (.cells #[.int .i64 (σ.tk.length : Int)] 3)).heap.size) →
      w6.cell? ⟨C, 2, none⟩ = some (.slice la σ.line.length lc) ∧ w6.frozen? ⟨C, 2, none⟩ = false ∧ Hid (∃ D', Rf (w6.setCell ⟨C, 2, none⟩ (.slice (some ⟨g, 0, none⟩) (σ.line.length + 1) d)) L C pv (σ.spawn prog) D' ∧ Fx w D (w6.setCell ⟨C, 2, none⟩ (.slice (some ⟨g, 0, none⟩) (σ.line.length + 1) d)) D')) := hide (fun hn g d w6 r2 r3 r4 => by
    have e : σ.spawn prog = { ({ σ with tk := σ.tk ++ [⟨prog, 0, 1, 0⟩] } : Sg) with line := σ.line ++ [(σ.tk.length : Int)] } := by
      unfold Sg.spawn
      rw [if_neg hn]
      rfl
    obtain ⟨m2, t2, d2, q1, q2⟩ := mZ.ln1 (Z := w6.setCell ⟨C, 2, none⟩ (.slice (some ⟨g, 0, none⟩) (σ.line.length + 1) d)) (σ.tk.length : Int) bA r2 r3 (r4.elim (fun e => .inl e.symm) (fun e => .inr (by rw [e]; rfl))) (hide rfl)
    refine ⟨q1, q2, hide ?_⟩
    rw [e]
    exact ⟨_, ⟨_, _, _, m2, fun k => Iff.rfl⟩, ⟨(tZ.trans t2 (fun k hk e => (dZ k e).elim id (fun h' => by omega))).mono (fun k _ hk => (hd k).2 hk), fun k hk => (d2 k hk).elim (fun h' => (dZ k h').elim (fun h'' => .inl ((hd k).2 h'')) .inr) (fun h' => .inr (by omega))⟩⟩)
  have HN : Hid (σ.opn = 256 → ∃ D', Rf w L C pv (σ.spawn prog) D' ∧ Fx w D w D') := hide (fun hn => ⟨D, by unfold Sg.spawn; rw [if_pos hn]; exact h, Fx.refl _ _⟩)
  have c1Z : Z.cell? ⟨C, 1, none⟩ = some (.slice ta' (σ.tk.length + 1) tc') := cell_of_row Z C 1 _ _ _ mZ.blk
  have HS : Hid (∀ k, k < σ.tk.length → σ.ct (k + 1) = σ.ct k + if (σ.tk.getD k pt0).st = 0 then 0 else 1) := hide (fun k hk => ct_succ hk)
  have HA : Hid (σ.ct σ.tk.length = σ.opn) := hide ct_all
  subst htv
  have c4 : (Z.alloc (.cells #[.int .i64 (σ.tk.length : Int)] 3)).cell? ⟨C, 1, none⟩ = some (.slice ta' (σ.tk.length + 1) tc') := (bB.cell (cell_lt c1Z)).trans c1Z
  obtain ⟨i0, hi, hz0, hz1, hz2⟩ := info_parts infoE
  obtain ⟨T, hT⟩ : ∃ T, Hid (T = σ.tk.length) := ⟨_, hide rfl⟩
  obtain ⟨N, hN⟩ : ∃ N, Hid (N = σ.line.length) := ⟨_, hide rfl⟩
  rw [← hN.out] at k1 k4 HO HF hl
  rw [← hT.out] at c1 htl HC r1 x1 hZ c1Z HS HA k4 c4 HO HF
  obtain ⟨G, hG⟩ : ∃ G, Hid (G = w.heap.size) := ⟨_, hide rfl⟩
  rw [← hG.out] at r1
  have HG : Hid (w.heap.size = G) := hide hG.out.symm
  clear h m hd mZ tZ dZ hL zz bA bB
  go_enter Try.func10, Try.ntmps10
  go_wp2_with fail
  go_loopw [5, 6] (fun v j wr => ∃ k : Nat, k ≤ T ∧ j = .int .i64 k ∧ v = .int .i64 (σ.ct k : Nat) ∧ wr = w) (fun _ j _ => T - (intOf j).toNat)
  case atStart =>
    exact ⟨0, Nat.zero_le _, rfl, rfl, rfl⟩
  case round =>
    obtain ⟨k, hk, rfl, rfl, rfl⟩ := hrel
    have hcl := ct_le (σ := σ) k
    by_cases hlt : k < T
    · obtain ⟨g, cap, e, d2⟩ := HC.out k hlt
      simp only [Value.slice.injEq] at e
      obtain ⟨rfl, _, rfl⟩ := e
      have hii : (k : Int) < (T : Int) := by omega
      have HS' := hide (HS.out k hlt)
      clear HC HS HF HN r1 x1 f1 c1Z k1 k4 c4 HO HLw
      generalize (σ.tk.getD k pt0).st = st at *
      generalize σ.ct k = c at *
      by_cases h3 : st = 0
      · have HS2 := hide (HS'.out.trans (by rw [if_pos h3]; rfl : _ = c))
        subst h3
        go_wp2_with fail
        go_roundw
        case rel => exact ⟨k + 1, by omega, by go_num, by rw [HS2.out], trivial⟩
        case measure => simp [intOf]; omega
      · have HS2 := hide (HS'.out.trans (by rw [if_neg h3] : _ = c + 1))
        have q0 : ((st : Int) != 0) = true := by rw [bne_iff_ne]; omega
        go_wp2_with fail
        go_roundw
        case rel => exact ⟨k + 1, by omega, by go_num, by rw [HS2.out]; go_num, trivial⟩
        case measure => simp [intOf]; omega
    · obtain rfl : k = T := by omega
      rw [HA.out] at hcl ⊢
      clear HC HS
      by_cases ho : σ.opn = 256
      · have H1 := hide (HN.out ho)
        rw [ho]
        clear HF HN r1 x1 f1 c1Z k1 k4 c4 HO HLw
        go_wp2_with fail
        go_ret
        exact ⟨by simp [ho], H1.out⟩
      · have H1 := hide (HF.out ho)
        have H2 : Hid (decide (σ.opn ≠ 256) = true) := hide (decide_eq_true ho)
        obtain ⟨c, hc⟩ : ∃ c, Hid (c = σ.opn) := ⟨_, hide rfl⟩
        rw [← hc.out] at hcl ho ⊢
        have q0 : ((c : Int) == 256) = false := by rw [beq_eq_false_iff_ne]; omega
        have hwk : IntKind.i64.wrap (k : Int) = k := by simp [IntKind.wrap, IntKind.signed, IntKind.bits]; omega
        have hk9 : (k : Int) ≤ 9223372036854775807 := by omega
        clear HF HN
        go_wp2_with (first | (rw [← hY.out, HG.out]) | (rw [← hZ.out]) | (at_builtin; refine wpList_append_run rfl (33 : TypeId) _ _ rfl (.slice ta k tc) (.slice (some ⟨G, 0, none⟩) 1 1) (.slice ta' (k + 1) tc') (by simp [Act.eval]) (by simp [Act.eval]) r1 ?_))
        go_region_law (refine step_append_lies _ (by rfl) (.tmp 44) (.tmp 51) (34 : TypeId) (by rfl) L 3 i0 (.int .i64 0) 1 8 Try.underlying34 hi hz0 hz1 hz2 rfl (by omega) (.slice la N lc) N (QI.W σ.line) (by simp [Act.eval]) HO.out ⟨_, 0, none⟩ 1 1 [.int .i64 (k : Int)] (by simp [Act.eval]) rfl (cell_one_new _ _ _) (by simp [Value.oneCell']) (by omega) (by unfold maxLen; omega) (by omega) (by have := HLw.out; simp; omega) _ rfl ?_; intro g6 d6 w6 hown6 hgrow6 hg6 _; obtain ⟨j1, j2, HP6⟩ := H1.out g6 d6 w6 hown6 hgrow6 hg6)
        all_goals (go_wp2_with fail; go_ret; exact ⟨by rw [H2.out]; rfl, HP6.out⟩)
end

end Go.Proofs.Ytennciddjkijaaa

/-
  The document's world of tasks: wake at any number, pick, Parked.
-/
import Derived.Test.YtennciddjkijaaaCue
import Derived.Test.YtennciddjkijaaaCsp
namespace Go.Proofs.Ytennciddjkijaaa
open Go.RowKit QI
set_option maxRecDepth 100000
set_option linter.unusedSimpArgs false

set_option maxHeartbeats 400000 in
theorem rpick_any (x : Int) (n : Nat) (w : World) (h0 : 0 < n) (hn : n ≤ 1000000) :
    Calls Try.prog 50 #[.int .i64 x, .int .i64 n] w fun e w' => e = .returned (.int .i64 (pck x n : Nat)) ∧ w' = w := by
  have h1 := Int.tmod_lt_of_pos x (b := (n : Int)) (by omega)
  have h2 : -(n : Int) < x.tmod n := by
    have := Int.lt_tmod_of_pos x (b := (n : Int)) (by omega)
    omega
  have hp := pck_tmod x h0
  by_cases h : x.tmod n < 0
  · rw [if_pos h] at hp
    rw [hp]
    clear hp
    go_enter Try.func50, Try.ntmps50
    go_wp2
    go_ret
    exact ⟨rfl, rfl⟩
  · rw [if_neg h] at hp
    rw [hp]
    clear hp
    go_enter Try.func50, Try.ntmps50
    go_wp2
    go_ret
    exact ⟨rfl, rfl⟩

section
variable {w w' : World} {L C : Nat} {pv tv lv ev : Value} {σ σ' : Sg} {D : Nat → Prop}

theorem rwake_any (h : Rf w L C pv σ D) (hL : L ≤ w.heap.size) (hl : σ.line.length ≤ 1000000) (htl : σ.tk.length ≤ 1000000) (k why : Int) :
    Calls Try.prog 49 #[.pointer (some ⟨C, 0, none⟩), .int .i64 k, .int .i64 why] w fun e w' => e = .returned (.int .i64 (if σ.waits k then 0 else 152)) ∧ ∃ D', Rf w' L C pv (σ.wake k why) D' ∧ Fx w D w' D' := by
  have no : σ.waits k = false → ∀ (e : Ending) (w' : World), e = .returned (.int .i64 152) ∧ w' = w → e = .returned (.int .i64 (if σ.waits k then 0 else 152)) ∧ ∃ D', Rf w' L C pv (σ.wake k why) D' ∧ Fx w D w' D' := by
    rintro hw e w' ⟨rfl, rfl⟩
    exact ⟨by simp [hw], D, by simp only [Sg.wake, hw]; exact h, Fx.refl _ _⟩
  by_cases h0 : k < 0
  · refine (rwake_low C why h0).mono (no ?_)
    unfold Sg.waits
    rw [decide_eq_false (by omega : ¬ 0 ≤ k)]
    rfl
  · obtain ⟨i, rfl⟩ : ∃ i : Nat, k = i := ⟨k.toNat, by omega⟩
    by_cases h1 : σ.tk.length ≤ i
    · refine (rwake_high h why h1).mono (no ?_)
      simp [Sg.waits, List.getD, List.getElem?_eq_none h1, pt0]
    · have hi : σ.tk[i]? = some (σ.tk.getD i pt0) := by
        have : i < σ.tk.length := by omega
        simp [List.getD, List.getElem?_eq_getElem this]
      by_cases h3 : (σ.tk.getD i pt0).st = 3
      · have hw : σ.waits (i : Int) = true := by
          unfold Sg.waits
          rw [Int.toNat_natCast, h3]
          simp
        refine (rwake_yes h hL hl why htl hi h3).mono ?_
        rintro e w' ⟨rfl, hx⟩
        refine ⟨by simp [hw], ?_⟩
        simp only [Sg.wake, hw, Int.toNat_natCast]
        exact hx
      · refine (rwake_no h why htl hi h3).mono (no ?_)
        unfold Sg.waits
        rw [Int.toNat_natCast, decide_eq_false h3, Bool.and_false]

def Sg.pkt (σ : Sg) (n : Nat) : List Int := ((List.range n).map Int.ofNat).filter fun k => decide ((σ.tk.getD k.toNat pt0).st = 3)
theorem pkt_yes {n : Nat} (h : (σ.tk.getD n pt0).st = 3) : σ.pkt (n + 1) = σ.pkt n ++ [(n : Int)] := by
  unfold Sg.pkt
  rw [List.range_succ, List.map_append, List.filter_append]
  simp only [List.map_cons, List.map_nil, List.filter_cons, List.filter_nil, Int.toNat_natCast, Int.ofNat_eq_natCast, h, decide_true, if_true]
theorem pkt_no {n : Nat} (h : (σ.tk.getD n pt0).st ≠ 3) : σ.pkt (n + 1) = σ.pkt n := by
  unfold Sg.pkt
  rw [List.range_succ, List.map_append, List.filter_append]
  simp only [List.map_cons, List.map_nil, List.filter_cons, List.filter_nil, Int.toNat_natCast, Int.ofNat_eq_natCast, decide_eq_false h]
  simp
theorem pkt_le (n : Nat) : (σ.pkt n).length ≤ n := by
  unfold Sg.pkt
  refine Nat.le_trans (List.length_filter_le _ _) ?_
  simp

set_option maxHeartbeats 1000000 in
theorem rparked_any (h : Rf w L C pv σ D) (htl : σ.tk.length ≤ 1000000) :
    Calls Try.prog 21 #[.pointer (some ⟨C, 0, none⟩)] w fun e w' => ∃ v, e = .returned v ∧ w'.ownsRow w.heap.size 3 1 v σ.pkd.length (QI.W σ.pkd) ∧ Below w.heap.size w w' := by
  obtain ⟨i0, hi, hz0, hz1, hz2⟩ := info_parts infoE
  obtain ⟨tv, lv, ev, m, hd⟩ := h.ex
  obtain ⟨ta, tc, rfl⟩ := row_val m.tr
  have c1 : w.cell? ⟨C, 1, none⟩ = some (.slice ta σ.tk.length tc) := cell_of_row w C 1 _ _ _ m.blk
  have HC : Hid (∀ k, k < σ.tk.length → ∃ g, ta = some ⟨g, 0, none⟩ ∧ w.cell? ⟨g, k * 4 + 2, none⟩ = some (.int .i64 (σ.tk.getD k pt0).st)) := hide (fun k hk => by
    have hi' : σ.tk[k]? = some (σ.tk.getD k pt0) := by simp [List.getD, List.getElem?_eq_getElem hk]
    obtain ⟨g, cap, e, hc, _⟩ := m.tasks hi'
    simp only [Value.slice.injEq] at e
    exact ⟨g, e.1, (hc 2 (by omega)).1⟩)
  have HP : Hid (σ.pkd = σ.pkt σ.tk.length) := hide rfl
  obtain ⟨T, hT⟩ : ∃ T, Hid (T = σ.tk.length) := ⟨_, hide rfl⟩
  rw [← hT.out] at c1 htl HC HP
  clear h m hd
  go_enter Try.func21, Try.ntmps21
  go_wp2_with fail
  go_loopw [3, 4] (fun v j wr => ∃ k : Nat, k ≤ T ∧ j = .int .i64 k ∧ Hid (wr.ownsRow w.heap.size 3 1 v (σ.pkt k).length (QI.W (σ.pkt k))) ∧ Below w.heap.size w wr) (fun _ j _ => T - (intOf j).toNat)
  case atStart =>
    exact ⟨0, Nat.zero_le _, rfl, hide ⟨rfl, .inl ⟨rfl, rfl⟩⟩, Below.refl _ _⟩
  case round =>
    obtain ⟨k, hk, rfl, hown, hb⟩ := hrel
    have c1r := (hb.cell (cell_lt c1)).trans c1
    by_cases hlt : k < T
    · obtain ⟨g, rfl, d2⟩ := HC.out k hlt
      have d2r := (hb.cell (cell_lt d2)).trans d2
      have hii : (k : Int) < (T : Int) := by omega
      by_cases h3 : (σ.tk.getD k pt0).st = 3
      · have HS := hide (pkt_yes h3)
        rw [h3] at d2r
        have d2r' : wr.cell? ⟨g, k * 4 + 2, none⟩ = some (.int .i64 3) := d2r
        have hml := pkt_le (σ := σ) k
        clear d2 d2r h3 HC
        generalize σ.pkt k = ys at *
        obtain ⟨N, hm⟩ : ∃ N, Hid (N = ys.length) := ⟨_, hide rfl⟩
        rw [← hm.out] at hml hown
        have hwl := hb.size
        have FB : Hid (∀ w6, (wr.alloc (.cells #[.int .i64 k] 3)).grownBy w6 u3.ownBlock → Below w.heap.size w w6) := hide (fun w6 h2 => (hb.alloc hwl _).grown h2 (by simp; omega) (fun y hy => (hown.out.lt y hy).1))
        have HO5 := hide (hown.out.alloc (.cells #[.int .i64 k] 3))
        clear hown
        go_wp2_with (at_builtin; refine wpList_append_own _ rfl _ _ 34 rfl w.heap.size 3 i0 (.int .i64 0) 1 8 Try.underlying34 hi hz0 hz1 hz2 rfl (by omega) _ _ _ rfl HO5.out ⟨_, 0, none⟩ 1 1 [.int .i64 k] rfl rfl (cell_one_new _ _ _) (by simp [Value.oneCell']) (by unfold maxLen; omega) (by omega) (by simp; omega) ?_; intro v6 w6 hown6 hgrow6 _)
        have HO6 := hide hown6
        have HB6 := hide (FB.out w6 hgrow6)
        clear hown6 hgrow6
        go_roundw
        case rel => exact ⟨k + 1, by omega, by go_num, hide (by rw [HS.out, W_append, W_one', List.length_append, ← hm.out]; exact HO6.out), HB6.out⟩
        case measure => simp [intOf]; omega
      · have HO : Hid (wr.ownsRow w.heap.size 3 1 u3 (σ.pkt (k + 1)).length (QI.W (σ.pkt (k + 1)))) := hide (by rw [pkt_no h3]; exact hown.out)
        clear hown d2 HC
        generalize (σ.tk.getD k pt0).st = st at *
        have q0 : ((st : Int) == 3) = false := by rw [beq_eq_false_iff_ne]; omega
        go_wp2_with fail
        go_roundw
        case rel => exact ⟨k + 1, by omega, by go_num, HO, hb⟩
        case measure => simp [intOf]; omega
    · obtain rfl : k = T := by omega
      have HO := hown
      clear hown HC
      go_wp2_with fail
      go_ret
      exact ⟨_, rfl, by rw [HP.out]; exact HO.out, hb⟩
end

end Go.Proofs.Ytennciddjkijaaa

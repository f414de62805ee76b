/-
  What 'ApartBytes' does: lists of bytes that lie in rows of their own are told to lie apart.
-/
import Derived.Test.YthakbelcefogaaaAqc
import Derived.Deep.QuietTactic
import Derived.BigQuiet
import Derived.Maps.AppendAt
namespace Go.Proofs.Ythakbelcefogaaa.Aq
open Go.RowKit Go.Proofs.Ythakbelcefogaaa
set_option maxRecDepth 100000

theorem info23 : (Try.prog.info? 27).map (fun i => (i.zero, i.size, i.bytes)) = some (some (.slice none 0 0), 1, 24) := by kernel_rfl

/-- What is in the rows while list k is marked, i places of it. -/
def Yi (X : Nat → List Value) (ln : Nat → Nat) (k i : Nat) : Nat → List Value := fun j => if j < k then U (MB j (ln j)) else if j = k then U (MB k i) ++ (X k).drop i else X j

theorem Yi_step (X : Nat → List Value) (ln : Nat → Nat) (k i : Nat) (hi : i < (X k).length) (j : Nat) : (if j = k then (Yi X ln k i k).set i (.int .u8 (mb k i)) else Yi X ln k i j) = Yi X ln k (i + 1) j := by
  unfold Yi
  by_cases h : j = k
  · subst h
    simp only [Nat.lt_irrefl, if_true, if_false]
    rw [List.set_append_right _ _ (by rw [U_length, MB_length]; exact Nat.le_refl _), U_length, MB_length, Nat.sub_self, List.drop_eq_getElem_cons hi, List.set_cons_zero, MB_succ, U_append]
    simp [U]
  · simp only [h, if_false]

theorem Yi_full (X : Nat → List Value) (ln : Nat → Nat) (k : Nat) (hi : (X k).length = ln k) (j : Nat) : Yi X ln k (ln k) j = Yi X ln (k + 1) 0 j := by
  unfold Yi
  by_cases h : j < k
  · rw [if_pos h, if_pos (by omega)]
  · by_cases h2 : j = k
    · subst h2
      rw [if_neg h, if_pos rfl, if_pos (by omega), List.drop_eq_nil_of_le (by omega), List.append_nil]
    · rw [if_neg h, if_neg h2, if_neg (by omega)]
      by_cases h3 : j = k + 1
      · subst h3; simp [MB, U]
      · rw [if_neg h3]

theorem own_form {w : World} {base n : Nat} {v : Value} {xs : List Value} (h : Om w base v n xs) : ∃ a cap, v = .slice a n cap := by
  rcases h.2 with ⟨rfl, rfl⟩ | ⟨g, cap, _, _, rfl, _⟩
  · exact ⟨_, _, rfl⟩
  · exact ⟨_, _, rfl⟩

theorem own_shape {w : World} {base n : Nat} {v : Value} {xs : List Value} (h : Om w base v n xs) (hn : 0 < n) : ∃ g cap, v = .slice (some ⟨g, 0, none⟩) n cap := by
  rcases h.2 with ⟨_, h0⟩ | ⟨g, cap, _, _, hv, _⟩
  · omega
  · exact ⟨g, cap, hv⟩

theorem Gr.drewN {w wr : World} {base L n S k gs : Nat} {V : Nat → Value} {ln : Nat → Nat} {Gl : List Value} (h : Gr w base L n S k V ln gs Gl wr) (m : Nat) : Gr w base L n S k V ln gs Gl (wr.drewN m) :=
  ⟨⟨h.st.rows, h.st.grow, h.st.list, below_drewN h.st.bel m, fun b hb hn => ((below_drewN (Below.refl wr.heap.size wr) m).block b (Nat.lt_of_lt_of_le hb h.st.bel.size)).trans (h.st.tw b hb hn), h.st.new⟩, h.got, h.far, h.siz⟩

set_option maxRecDepth 100000 in
set_option maxHeartbeats 4000000 in
theorem apart_tells (base L n : Nat) (V : Nat → Value) (ln : Nat → Nat) (X : Nat → List Value) (w : World) (hn : n ≤ 1000) (hln : ∀ k, k < n → ln k ≤ 140737488355000) (hb : base ≤ w.heap.size) (hLw : L < w.heap.size)
    (hL : ∀ k, k < n → w.cell? ⟨L, k, none⟩ = some (V k)) (hr : ∀ k, k < n → Om w base (V k) (ln k) (X k)) (hVL : ∀ k, k < n → (V k).ownBlock ≠ some L)
    (hd : ∀ j k, j < n → k < n → j ≠ k → (V j).ownBlock = none ∨ (V j).ownBlock ≠ (V k).ownBlock) :
    Calls Try.prog 30 #[.slice (some ⟨L, 0, none⟩) n n] w fun e w' => e = .returned (.bool true) ∧ Below base w w' ∧ ∀ b, b < w.heap.size → (∀ k, k < n → (V k).ownBlock ≠ some b) → w'.heap[b]? = w.heap[b]? := by
  obtain ⟨i0, hi, hz0, hz1, hz2⟩ := info_parts info5
  obtain ⟨i1, hi', hy0, hy1, hy2⟩ := info_parts info23
  have hlow : Hid (∀ k, k < n → ∀ b, (V k).ownBlock = some b → b < w.heap.size) := hide (fun k hk b hb => ((hr k hk).lt b hb).2)
  have HL := hide hL
  have HR := hide hr
  have HVL := hide hVL
  have HD := hide hd
  have HLN := hide hln
  clear hL hr hVL hd hln
  go_enter Try.func30, Try.ntmps30
  go_wp2_with (at_make; refine wpList_make_full _ rfl (.tmp 12) (.tmp 12) 65 rfl base 27 i1 (.slice none 0 0) 1 Try.underlying65 hi' hy0 hy1 .i64 .i64 _ _ n rfl rfl rfl rfl (by rw [hy2]; omega) (by unfold maxLen; omega) hb ?_; intro w1 hown hgrow; have HO := hide hown; have HG := hide hgrow; clear hown hgrow)
  obtain ⟨gs, hgs⟩ : ∃ gs, gs = w.heap.size := ⟨_, rfl⟩
  rw [← hgs] at HO ⊢
  obtain ⟨Gl, hGl⟩ : ∃ Gl, Gl = (madeCells (Value.slice none 0 0).cells (n * 1)).toList := ⟨_, rfl⟩
  rw [← hGl] at HO
  clear hGl
  have hLg : Hid (L ≠ gs) := hide (by omega)
  have HS0 : Hid (St w base L n V ln gs Gl X w1) := by
    refine hide ⟨fun k hk => (HR.out k hk).kept HG.out (by cases (V k).ownBlock <;> simp), HO.out, fun k hk => ?_, (Below.refl _ _).grown HG.out hb (fun b hb => by cases hb), fun b hb _ => HG.out.block b hb (by simp), by omega⟩
    rw [World.cell?_of_block (HG.out.block L hLw (by simp))]
    exact HL.out k hk
  have HG1 : Hid (w.heap.size ≤ w1.heap.size) := hide HG.out.size
  have HX : Hid (∀ k, k < n → (X k).length = ln k) := hide (fun k hk => by have := (HR.out k hk).1; omega)
  clear HO HG HL HR hgs
  go_loopw [4] (fun kv wr => ∃ k : Nat, k ≤ n ∧ kv = .int .i64 k ∧ Hid (St w base L n V ln gs Gl (Yi X ln k 0) wr))
    (fun kv _ => n - (intOf kv).toNat)
  case atStart => exact ⟨0, Nat.zero_le _, rfl, hide (HS0.out.congr (fun j _ => by unfold Yi; by_cases h : j = 0 <;> simp [h, MB, U]))⟩
  case round =>
    obtain ⟨k, hk, rfl, hS⟩ := hrel
    by_cases hlt : k < n
    · obtain ⟨wk, hwk⟩ : ∃ wk : World, wk = wr := ⟨_, rfl⟩
      subst hwk
      have hlk := HLN.out k hlt
      have hxk := HX.out k hlt
      obtain ⟨a, cap, hV⟩ := own_form (hS.out.rows k hlt)
      have HV := hide hV
      clear hV
      go_wp2_with fail
      go_loopw [5] (fun iv wr => ∃ i : Nat, i ≤ ln k ∧ iv = .int .i64 i ∧ Hid (St w base L n V ln gs Gl (Yi X ln k i) wr))
        (fun iv _ => ln k - (intOf iv).toNat)
      case atStart => exact ⟨0, Nat.zero_le _, rfl, hS⟩
      case round =>
        obtain ⟨i, hil, rfl, hT⟩ := hrel
        have hc := hT.out.list k hlt
        rw [HV.out] at hc
        by_cases hii : i < ln k
        · have hrow := hT.out.rows k hlt
          rw [HV.out] at hrow
          obtain ⟨g, cap', he⟩ := own_shape hrow (by omega)
          simp only [Value.slice.injEq, true_and] at he
          obtain ⟨rfl, rfl⟩ := he
          have hcell : ∃ u, wr.cell? ⟨g, i, none⟩ = some u := by
            rw [hrow.cellAt i (by omega)]
            have hl := hrow.1
            exact ⟨_, List.getElem?_eq_getElem (by omega)⟩
          obtain ⟨u, hcu⟩ := hcell
          have hfr : wr.frozen? ⟨g, i, none⟩ = false := hrow.frozenAt i (by omega)
          go_wp2_with fail
          go_region_with (go_at_call 39; refine (mark_any k i (by omega) (by omega) _).mono ?_; rintro e w' ⟨rfl, rfl⟩)
          all_goals
            go_wp2_with fail
            go_roundw
            case rel =>
              exact ⟨i + 1, by omega, by simp, hide ((hT.out.store HVL.out HD.out hlt HV.out (i := i) (.int .u8 (mb k i))).congr (fun j _ => Yi_step X ln k i (by omega) j)).drew⟩
            case measure => simp [intOf]; omega
        · obtain rfl : i = ln k := by omega
          go_wp2_with fail
          go_roundw
          case rel => exact ⟨k + 1, by omega, by simp, hide (hT.out.congr (fun j _ => Yi_full X ln k hxk j))⟩
          case measure => simp [intOf]; omega
    · obtain rfl : n = k := by omega
      have hS' : Hid (St w base L n V ln gs Gl (fun j => U (MB j (ln j))) wr) := hide (hS.out.congr (fun j hj => by unfold Yi; rw [if_pos hj]))
      clear hS HX hlt
      obtain ⟨wp, hwp⟩ : ∃ wp : World, wp = wr := ⟨_, rfl⟩
      subst hwp
      obtain ⟨S, hSz⟩ : ∃ S, S = wp.heap.size := ⟨_, rfl⟩
      have hlowS : Hid (∀ k, k < n → ∀ b, (V k).ownBlock = some b → b < S) := hide (fun k hk b hb => by have := hlow.out k hk b hb; have := hS'.out.bel.size; omega)
      have hG0 : Hid (∃ Gl', Gr w base L n S 0 V ln gs Gl' wp) := hide ⟨Gl, hS'.out, fun j hj => by omega, fun j hj => by omega, by omega⟩
      clear hSz hS' hlow HG1 HS0 hk
      go_wp2_with fail
      go_loopw [6] (fun kv wr => ∃ k : Nat, k ≤ n ∧ kv = .int .i64 k ∧ Hid (∃ Gl', Gr w base L n S k V ln gs Gl' wr))
        (fun kv _ => n - (intOf kv).toNat)
      case atStart => exact ⟨0, Nat.zero_le _, rfl, hG0⟩
      case round =>
        obtain ⟨k, hk, rfl, hG⟩ := hrel
        clear hG0
        by_cases hlt : k < n
        · obtain ⟨wk, hwk⟩ : ∃ wk : World, wk = wr := ⟨_, rfl⟩
          subst hwk
          obtain ⟨Gl', hGr⟩ := hG.out
          have HGr := hide hGr
          clear hGr hG
          have hlk := HLN.out k hlt
          obtain ⟨a, cap, hV⟩ := own_form (HGr.out.st.rows k hlt)
          have HV := hide hV
          clear hV
          have hc := HGr.out.st.list k hlt
          rw [HV.out] at hc
          have hlow : Hid (∀ b, (V k).ownBlock = some b → b < wk.heap.size) := hide (fun b hb => Nat.lt_of_lt_of_le (hlowS.out k hlt b hb) HGr.out.siz)
          have hLwk : L < wk.heap.size := cell_lt hc
          have hI0 : Hid (In wk base k 0 V ln (.slice a (ln k) cap) wk) := by
            rw [← HV.out]
            exact hide ⟨World.grownBy.refl _ _, HGr.out.st.rows k hlt, HGr.out.st.rows k hlt, .inl ⟨rfl, rfl⟩⟩
          go_wp2_with fail
          go_loopw [7, 8] (fun gv jv wr => ∃ j : Nat, j ≤ 40 ∧ jv = .int .i64 j ∧ Hid (In wk base k j V ln gv wr))
            (fun _ jv _ => 40 - (intOf jv).toNat)
          case atStart => exact ⟨0, by omega, rfl, hI0⟩
          case round =>
            obtain ⟨j, hj, rfl, hI⟩ := hrel
            clear hI0
            have hcr : wr.cell? ⟨L, k, none⟩ = some (.slice a (ln k) cap) := by
              rw [World.cell?_of_block (hI.out.frame.block L hLwk (fun e => HVL.out k hlt e.symm))]
              exact hc
            have hsz := hI.out.frame.size
            by_cases hjj : j < 40
            · have MK : Hid (∀ w', Calls Try.prog 39 #[.int .i64 (k : Int), .int .i64 ((ln k : Int) + (j : Int))] w' fun e w'' => e = .returned (.int .u8 (mb k (ln k + j))) ∧ w'' = w') := hide (fun w' => mark_any k (ln k + j) (by omega) (by omega) w')
              have hbw : base ≤ wr.heap.size := by have := (own_lt HGr.out.st.grow); omega
              go_wp2_with (first
                | (go_at_call 39; refine (MK.out _).mono ?_; rintro e w' ⟨rfl, rfl⟩)
                | (at_builtin; refine wpList_append_tells rfl (.tmp 52) (.tmp 62) 27 rfl base i0 (.int .u8 0) Try.underlying27 hi hz0 hz1 hz2 rfl _ (ln k + j) _ rfl (hI.out.grows.alloc _) ⟨_, 0, none⟩ 1 1 [.int .u8 (mb k (ln k + j))] rfl rfl (cell_one_new _ _ _) (by simp [Value.oneCell']) (by omega) (by omega) (by simp; omega) ?_; intro v' w' hown hw; have HW := hide hw; have HO := hide hown; clear hw hown))
              exact ⟨⟨j + 1, by omega, by simp, hide (hI.out.step hlow.out _ HO.out HW.out)⟩, by simp [intOf]; omega⟩
            · obtain rfl : 40 = j := by omega
              obtain ⟨a', cap', hgv⟩ := own_form hI.out.grows
              subst hgv
              have hgrow : wr.ownsRow base 27 1 (.slice (some ⟨gs, 0, none⟩) n n) n Gl' := by
                refine HGr.out.st.grow.kept hI.out.frame (.inr fun e => ?_)
                have hdf := own_differ (HGr.out.st.rows k hlt) HGr.out.st.grow
                rw [e] at hdf
                rcases hdf with h' | h'
                · rw [← e] at h'; cases h'
                · exact h' rfl
              have hcg : ∃ u, wr.cell? ⟨gs, k, none⟩ = some u := by
                rw [hgrow.cellAt k (by omega)]
                have hl := hgrow.1
                exact ⟨_, List.getElem?_eq_getElem (by omega)⟩
              obtain ⟨u, hcu⟩ := hcg
              have hfg : wr.frozen? ⟨gs, k, none⟩ = false := hgrow.frozenAt k
              clear hgrow
              go_wp2_with fail
              exact ⟨⟨k + 1, by omega, by simp, hide ⟨_, HGr.out.next hlt hI.out HVL.out hLg.out HD.out hlowS.out⟩⟩, by simp [intOf]; omega⟩
        · obtain rfl : n = k := by omega
          obtain ⟨Gl', hGr⟩ := hG.out
          have HGr := hide hGr
          clear hGr hG hlt hk
          obtain ⟨wz, hwz⟩ : ∃ wz : World, wz = wr := ⟨_, rfl⟩
          subst hwz
          go_wp2_with fail
          go_loopw [9] (fun kv wr => ∃ k : Nat, k ≤ n ∧ kv = .int .i64 k ∧ Hid (Gr w base L n S n V ln gs Gl' wr))
            (fun kv _ => n - (intOf kv).toNat)
          case atStart => exact ⟨0, Nat.zero_le _, rfl, HGr⟩
          case round =>
            obtain ⟨k, hk, rfl, hG⟩ := hrel
            clear HGr
            by_cases hlt : k < n
            · obtain ⟨wk, hwk⟩ : ∃ wk : World, wk = wr := ⟨_, rfl⟩
              subst hwk
              have hlk := HLN.out k hlt
              obtain ⟨a, cap, hV⟩ := own_form (hG.out.st.rows k hlt)
              obtain ⟨a', cap', hV'⟩ := own_form (hG.out.got k hlt)
              have HV := hide hV
              have HV' := hide hV'
              clear hV hV'
              go_wp2_with fail
              go_loopw [10] (fun iv wr => ∃ i : Nat, i ≤ ln k + 40 ∧ iv = .int .i64 i ∧ Hid (Gr w base L n S n V ln gs Gl' wr))
                (fun iv _ => ln k + 40 - (intOf iv).toNat)
              case atStart => exact ⟨0, Nat.zero_le _, rfl, hG⟩
              case round =>
                obtain ⟨i, hil, rfl, hT⟩ := hrel
                clear hG
                have hcl := hT.out.st.list k hlt
                rw [HV.out] at hcl
                have hcg : wr.cell? ⟨gs, k, none⟩ = some (.slice a' (ln k + 40) cap') := by
                  have hl := hT.out.st.grow.1
                  rw [hT.out.st.grow.cellAt k (by omega), ← HV'.out]
                  simp [List.getD, List.getElem?_eq_getElem (show k < Gl'.length by omega)]
                by_cases hii : i < ln k + 40
                · have hrg := hT.out.got k hlt
                  rw [HV'.out] at hrg
                  obtain ⟨g', c'', he⟩ := own_shape hrg (by omega)
                  simp only [Value.slice.injEq, true_and] at he
                  obtain ⟨rfl, rfl⟩ := he
                  have hcc : wr.cell? ⟨g', i, none⟩ = some (.int .u8 (mb k i)) := by rw [hrg.cellAt i (by omega)]; exact MB_get _ _ _ hii
                  clear hrg
                  by_cases hi2 : i < ln k
                  · have hrl := hT.out.st.rows k hlt
                    rw [HV.out] at hrl
                    obtain ⟨g, c3, he⟩ := own_shape hrl (by omega)
                    simp only [Value.slice.injEq, true_and] at he
                    obtain ⟨rfl, rfl⟩ := he
                    have hcd : wr.cell? ⟨g, i, none⟩ = some (.int .u8 (mb k i)) := by rw [hrl.cellAt i (by omega)]; exact MB_get _ _ _ hi2
                    clear hrl
                    have fd : decide ((i : Int) < (ln k : Int)) = true := decide_eq_true (by omega)
                    go_wp2_with fail
                    go_quiet (first | (go_at_call 39; exact Calls.quiet_of_same (mark_any k i (by omega) (by omega) _)))
                    go_wp2_with fail
                    go_roundw
                    case rel => exact ⟨i + 1, by omega, by simp, hide (hT.out.drewN nq)⟩
                    case measure => simp [intOf]; omega
                  · have fd : decide ((i : Int) < (ln k : Int)) = false := decide_eq_false (by omega)
                    go_wp2_with fail
                    go_quiet (first | (go_at_call 39; exact Calls.quiet_of_same (mark_any k i (by omega) (by omega) _)))
                    go_wp2_with fail
                    go_roundw
                    case rel => exact ⟨i + 1, by omega, by simp, hide (hT.out.drewN nq)⟩
                    case measure => simp [intOf]; omega
                · obtain rfl : i = ln k + 40 := by omega
                  go_wp2_with fail
                  go_roundw
                  case rel => exact ⟨k + 1, by omega, by simp, hT⟩
                  case measure => simp [intOf]; omega
            · go_wp2_with fail
              go_ret
              exact ⟨rfl, hG.out.st.bel, hG.out.st.tw⟩

theorem apart_any (base L n : Nat) (V : Nat → Value) (ln : Nat → Nat) (X : Nat → List Value) (w : World) (hn : n ≤ 1000) (hln : ∀ k, k < n → ln k ≤ 140737488355000) (hb : base ≤ w.heap.size) (hLw : L < w.heap.size)
    (hL : ∀ k, k < n → w.cell? ⟨L, k, none⟩ = some (V k)) (hr : ∀ k, k < n → Om w base (V k) (ln k) (X k)) (hVL : ∀ k, k < n → (V k).ownBlock ≠ some L)
    (hd : ∀ j k, j < n → k < n → j ≠ k → (V j).ownBlock = none ∨ (V j).ownBlock ≠ (V k).ownBlock) :
    Calls Try.prog 30 #[.slice (some ⟨L, 0, none⟩) n n] w fun e w' => e = .returned (.bool true) ∧ Below base w w' :=
  (apart_tells base L n V ln X w hn hln hb hLw hL hr hVL hd).mono fun _ _ h => ⟨h.1, h.2.1⟩

end Go.Proofs.Ythakbelcefogaaa.Aq

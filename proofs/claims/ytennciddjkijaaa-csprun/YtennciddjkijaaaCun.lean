/-
  CspRuns: the walk.
-/
import Derived.Test.YtennciddjkijaaaCum
import Derived.Test.YtennciddjkijaaaCsj
import Derived.Test.YtennciddjkijaaaCop
namespace Go.Proofs.Ytennciddjkijaaa
open Go.RowKit QI
set_option maxRecDepth 100000
set_option linter.unusedSimpArgs false

/-- Tasks of the first programs. -/
def sgs : Nat → Sg
  | 0 => sg0
  | k + 1 => (sgs k).spawn k

theorem Bo.new {W w1 A X : World} {pa : Option Addr} {m pcap B C : Nat} {ps : List (List Dop)} {a : Ad} (hP : Pgs (fun k => k < W.heap.size) W pa m pcap ps) (hm : 0 < m ∧ m ≤ 1000) (rt : Rt w1 a rs0) (hlo : ∀ k, own a rs0 k ∨ k = a.Q → W.heap.size ≤ k) (hb1 : Below W.heap.size W w1) (HB : Hid (w1.heap.size = B)) (hA : Hid (A = w1.alloc (.cells #[.pointer (some ⟨a.R, 0, none⟩), .slice pa m pcap, .slice none 0 0, .slice none 0 0] (31 : TypeId)))) (HC : Hid (A.heap.size = C)) (hX : Hid (X = A.alloc (.cells #[.slice pa m pcap, .slice none 0 0, .slice none 0 0, .slice none 0 0] (36 : TypeId)))) :
    Bo W B a.R C pa m pcap ps sg0 sg0 0 X := by
  obtain rfl := HB.out
  obtain rfl := HC.out
  have z1 := hb1.size
  have bA : Below w1.heap.size w1 A := by rw [hA.out]; exact (Below.refl _ w1).alloc (Nat.le_refl _) _
  have sA : A.heap.size = w1.heap.size + 1 := by rw [hA.out]; simp
  have eA : A.heap[w1.heap.size]? = some (.cells #[.pointer (some ⟨a.R, 0, none⟩), .slice pa m pcap, .slice none 0 0, .slice none 0 0] (31 : TypeId) (0, 0)) := by rw [hA.out]; exact heap_alloc_new w1 _
  have bX : Below A.heap.size A X := by rw [hX.out]; exact (Below.refl _ A).alloc (Nat.le_refl _) _
  have eX : X.heap[A.heap.size]? = some (.cells #[.slice pa m pcap, .slice none 0 0, .slice none 0 0, .slice none 0 0] (36 : TypeId) (0, 0)) := by rw [hX.out]; exact heap_alloc_new A _
  have bAX : Below w1.heap.size w1 X := bA.trans (bX.mono (by omega))
  have hb : Below W.heap.size W X := hb1.trans (bAX.mono z1)
  obtain ⟨F, D, wt, h1, h2⟩ := Wt.new (Pb := fun k => k < W.heap.size) ((bX.block _ (heap_lt eA)).trans eA) (rt.below bAX) hlo z1 hb.size (hP.tb (S := fun _ => False) (Tb.of_fresh hb) (fun _ _ h => h)) (fun k hk => Nat.lt_of_lt_of_le hk hb.size) (fun k hk => ⟨fun ho => by have := hlo k ho; omega, by omega⟩) hm
  have r : Rf X W.heap.size A.heap.size (.slice pa m pcap) sg0 (dom15 A.heap.size (.slice none 0 0) (.slice none 0 0) (.slice none 0 0)) := ⟨_, _, _, ⟨eX, ⟨by simp [sg0], .inl ⟨rfl, rfl⟩⟩, ⟨by simp [sg0, QI.W], .inl ⟨rfl, rfl⟩⟩, ⟨by simp [sg0], .inl ⟨rfl, rfl⟩⟩, by omega⟩, fun k => Iff.rfl⟩
  refine Bo.mk1 hb wt h1 r (fun k hk he => ?_)
  have hlt : k ≤ w1.heap.size := by
    rcases h2 k hk with h3 | h3 | h3
    · exact Nat.le_of_lt (rt.m.own_lt h3)
    · subst h3; exact Nat.le_of_lt rt.m.sd.lt
    · omega
  rcases he with h4 | h4 | h4 | h4
  · omega
  · cases h4
  · cases h4
  · cases h4

theorem Bo.spawned {W X : World} {pa : Option Addr} {m pcap B R C k : Nat} {ps : List (List Dop)} (h : Bo W B R C pa m pcap ps (sgs k) (sgs k) k X) : Sk m k (sgs k) := h.sk

section
variable {P : Program} {ops : Array Oper} {o : Oper} {a : Act} {w w' : World} {K : Act → World → Prop} {Q : Exit → Act → World → Prop} {E : Prop}
theorem neq_same {w : World} (b : Nat) : (binOp .neq (26 : TypeId) (.pointer (some ⟨b, 0, none⟩)) (.pointer (some ⟨b, 0, none⟩))).run Try.prog w = .ok (.bool false) w := by
  obtain ⟨j, hj, _⟩ := infoR
  have h : ∀ d : Nat, (Op.equalIn (d + 1) (26 : TypeId) (.pointer (some ⟨b, 0, none⟩)) (.pointer (some ⟨b, 0, none⟩))).run Try.prog w = .ok true w := fun d => by simp [Op.equalIn, run_underlying Try.underlying26, typeInfo, sizeOf, run_sameAddr_same, hj]
  simp only [binOp]
  simp [Op.equal, Op.maxDepth, h 9999]
theorem step_loadw {v : Value} (hw : Region.wanted o (yielded ops a.tmps) = true) (hrun : (execOp a.eval o).run P w = .ok (.value v) w') (hK : K (a.put o.dst v) w') :
    if Region.wanted o (yielded ops a.tmps) = true then Oper.wp P o a w K Q else E := by
  rw [if_pos hw]
  unfold Oper.wp
  simp [hrun, Result.andThen]
  exact hK
end

set_option maxHeartbeats 4000000 in
theorem cspRuns.walk (pa : Option Addr) (len pcap : Nat) (ps : List (List Dop)) (ua : Option Addr) (ul uc : Nat) (us : List Nat) (W : World) (hP : Pgs (fun k => k < W.heap.size) W pa len pcap ps) (hU : Uls W ua ul uc us) :
    Calls Try.prog 3 #[.slice pa len pcap, .slice ua ul uc] W fun e w' => e = .returned (.bool true) ∧ Below W.heap.size W w' := by
  have hCA := fun V => awake_any V
  have hPle := hP.le
  have hPr := hP.reach
  have hUle := hU.le
  have hUr := hU.reach
  by_cases h0 : len = 0
  · subst h0
    have C := hCA W
    clear hP hU hCA
    go_enter Try.func3, Try.ntmps3
    go_wp2_with fail
    refine C.mono ?_
    rintro e w1 ⟨rfl, hb⟩
    have HB := hide hb
    clear hb
    go_wp2_with fail
    go_ret
    exact ⟨rfl, HB.out⟩
  obtain ⟨m, hm⟩ : ∃ m, Hid (m = min len 6) := ⟨_, hide rfl⟩
  have hm1 : 0 < m ∧ m ≤ 6 ∧ m ≤ len := by have := hm.out; omega
  have hPm : Hid (Pgs (fun k => k < W.heap.size) W pa m pcap (ps.take m)) := hide (hP.front hm1.2.2)
  have hmin : min (len : Int) 6 = (m : Int) := by have := hm.out; omega
  have CN : Hid (∀ V, Calls Try.prog 8 #[] V fun e w' => ∃ a, e = .returned (.pointer (some ⟨a.R, 0, none⟩)) ∧ Rt w' a rs0 ∧ (∀ k, own a rs0 k ∨ k = a.Q → V.heap.size ≤ k) ∧ Below V.heap.size V w') := hide (fun V => new_any V)
  have HU := hide hU
  have HA := hide hCA
  have hlen0 : ((len : Int) == 0) = false := by rw [beq_eq_false_iff_ne]; omega
  have hmc : (m : Int) ≤ (pcap : Int) := by omega
  obtain ⟨hm0, hm6, hml⟩ := hm1
  clear hP hU hCA
  go_enter Try.func3, Try.ntmps3
  go_wp2_with fail
  refine (CN.out _).mono ?_
  rintro e w1 ⟨a, rfl, rt, hlo, hb1⟩
  obtain ⟨B, hB⟩ : ∃ B, Hid (w1.heap.size = B) := ⟨_, hide rfl⟩
  obtain ⟨A, hA⟩ : ∃ A, Hid (A = w1.alloc (.cells #[.pointer (some ⟨a.R, 0, none⟩), .slice pa m pcap, .slice none 0 0, .slice none 0 0] (31 : TypeId))) := ⟨_, hide rfl⟩
  obtain ⟨C, hC⟩ : ∃ C, Hid (A.heap.size = C) := ⟨_, hide rfl⟩
  obtain ⟨X, hX⟩ : ∃ X, Hid (X = A.alloc (.cells #[.slice pa m pcap, .slice none 0 0, .slice none 0 0, .slice none 0 0] (36 : TypeId))) := ⟨_, hide rfl⟩
  have bo := Bo.new hPm.out ⟨hm0, by omega⟩ rt hlo hb1 hB hA hC hX
  obtain ⟨R, hR⟩ : ∃ R, Hid (R = a.R) := ⟨_, hide rfl⟩
  rw [← hR.out] at bo hA ⊢
  have c0 := bo.cB0
  have HB0 := hide bo
  have hpl : Hid ((ps.take m).length = m) := hide hPm.out.len
  clear bo rt hlo hb1 CN hPm h0
  go_wp2_with (first | (rw [← hA.out, hB.out]) | (rw [← hX.out, hC.out]))
  go_loopw [7] (fun i wr => ∃ k : Nat, k ≤ m ∧ i = .int .i64 k ∧ Hid (Bo W B R C pa m pcap (ps.take m) (sgs k) (sgs k) k wr)) (fun i _ => m - (intOf i).toNat)
  case atStart => exact ⟨0, Nat.zero_le _, rfl, HB0⟩
  case round =>
    obtain ⟨k, hk, rfl, hbo⟩ := hrel
    by_cases hlt : k < m
    · by_cases ho : (sgs k).opn = 256
      · have CS : Hid (Calls Try.prog 9 #[.pointer (some ⟨B, 0, none⟩), .int .i64 (k : Int)] wr fun e w' => e = .returned (.int .i64 5) ∧ Bo W B R C pa m pcap (ps.take m) ((sgs k).spawn k) (sgs k) (k + 1) w') := hide (by
          refine (hbo.out.spawn (by omega) hlt).mono ?_
          rintro e w' ⟨rfl, h⟩
          exact ⟨by rw [if_pos ho], h⟩)
        have hsk := hide hbo.out.sk
        have hki : (k : Int) < (m : Int) := by omega
        clear hbo HB0 c0 hA hX hB hC
        go_wp2_with fail
        refine CS.out.mono ?_
        rintro e w5 ⟨rfl, bo5⟩
        have CR : Hid (Calls Try.prog 10 #[.pointer (some ⟨C, 0, none⟩), .int .i64 (k : Int)] w5 fun e w' => e = .returned (.bool false) ∧ Hid (Bo W B R C pa m pcap (ps.take m) (sgs (k + 1)) (sgs (k + 1)) (k + 1) w')) := hide (by
          refine (bo5.rspawn hsk.out (by omega) k).mono ?_
          rintro e w' ⟨rfl, h⟩
          exact ⟨by simp [ho], hide h⟩)
        clear CS bo5
        go_wp2_with fail
        refine CR.out.mono ?_
        rintro e w6 ⟨rfl, HB3⟩
        clear CR
        go_wp2_with fail
        go_roundw
        case rel => exact ⟨k + 1, by omega, by go_num, HB3⟩
        case measure => simp [intOf]; omega
      · have CS : Hid (Calls Try.prog 9 #[.pointer (some ⟨B, 0, none⟩), .int .i64 (k : Int)] wr fun e w' => e = .returned (.int .i64 0) ∧ Bo W B R C pa m pcap (ps.take m) ((sgs k).spawn k) (sgs k) (k + 1) w') := hide (by
          refine (hbo.out.spawn (by omega) hlt).mono ?_
          rintro e w' ⟨rfl, h⟩
          exact ⟨by rw [if_neg ho], h⟩)
        have hsk := hide hbo.out.sk
        have hki : (k : Int) < (m : Int) := by omega
        clear hbo HB0 c0 hA hX hB hC
        go_wp2_with fail
        refine CS.out.mono ?_
        rintro e w5 ⟨rfl, bo5⟩
        have CR : Hid (Calls Try.prog 10 #[.pointer (some ⟨C, 0, none⟩), .int .i64 (k : Int)] w5 fun e w' => e = .returned (.bool true) ∧ Hid (Bo W B R C pa m pcap (ps.take m) (sgs (k + 1)) (sgs (k + 1)) (k + 1) w')) := hide (by
          refine (bo5.rspawn hsk.out (by omega) k).mono ?_
          rintro e w' ⟨rfl, h⟩
          exact ⟨by simp [ho], hide h⟩)
        clear CS bo5
        go_wp2_with fail
        refine CR.out.mono ?_
        rintro e w6 ⟨rfl, HB3⟩
        clear CR
        go_wp2_with fail
        go_roundw
        case rel => exact ⟨k + 1, by omega, by go_num, HB3⟩
        case measure => simp [intOf]; omega
    · obtain rfl : k = m := by omega
      obtain ⟨wl, hwl⟩ : ∃ wl : World, wl = wr := ⟨_, rfl⟩
      subst hwl
      have HBm : Hid (∃ σ, Bo W B R C pa k pcap (ps.take k) σ σ (k + 0) wl) := hide ⟨_, hbo.out⟩
      have hul := HU.out.len
      have hun : Hid (us.length = ul) := hide hul
      clear hbo HB0 c0 hA hX hB hC hul
      go_wp2_with fail
      go_loopw [8] (fun iv wr => ∃ i : Nat, i ≤ ul ∧ i ≤ 300 ∧ iv = .int .i64 i ∧ Hid (∃ σ, Bo W B R C pa k pcap (ps.take k) σ σ (k + i) wr)) (fun iv _ => 300 - (intOf iv).toNat)
      case atStart => exact ⟨0, Nat.zero_le _, by omega, rfl, HBm⟩
      case round =>
        obtain ⟨i, hi, hi2, rfl, hin⟩ := hrel
        obtain ⟨σ, hbo'⟩ := hin.out
        have hbo := hide hbo'
        clear hbo' hin HBm
        by_cases hgo : i < ul ∧ i < 300
        · obtain ⟨hg1, hg2⟩ := hgo
          obtain ⟨ub, uo, hua, hcu⟩ := HU.out.lies (by omega)
          have hpk : us.getD i 0 ≤ 18446744073709551615 := HU.out.few _ (by
            have hl : i < us.length := by rw [hun.out]; exact hg1
            simp [List.getD, List.getElem?_eq_getElem hl])
          have hcell : Hid (∀ V, Below W.heap.size W V → V.cell? ⟨ub, uo + i, none⟩ = some (.int .u64 (us.getD i 0 : Nat))) := hide (fun V hV => (hV.cell (cell_lt (hcu i hg1))).trans (hcu i hg1))
          subst hua
          obtain ⟨pk, hpkk⟩ : ∃ pk, Hid (pk = us.getD i 0) := ⟨_, hide rfl⟩
          rw [← hpkk.out] at hcell hpk
          have hsk := hide hbo.out.sk
          obtain ⟨τ, hτ⟩ : ∃ τ, Hid (τ = σ.step (ps.take k) pk) := ⟨_, hide rfl⟩
          obtain ⟨NL, hNL⟩ : ∃ NL, Hid (NL = τ.line.length) := ⟨_, hide rfl⟩
          have hii : (i : Int) < (ul : Int) := by omega
          have hi300 : (i : Int) < 300 := by omega
          have hulc : (ul : Int) ≤ 9223372036854775807 := by omega
          clear hcu
          by_cases hl : σ.line = []
          · have HS1 : Hid (∀ V, Below wr.heap.size wr V → Calls Try.prog 11 #[.pointer (some ⟨R, 0, none⟩), .int .u64 (pk : Int)] V fun e w' => e = .returned (.bool false) ∧ (w'.cell? ⟨B, 0, none⟩ = some (.pointer (some ⟨R, 0, none⟩)) ∧ w'.cell? ⟨ub, uo + i, none⟩ = some (.int .u64 (pk : Int))) ∧ Hid (Calls Try.prog 12 #[.pointer (some ⟨C, 0, none⟩), .int .u64 (pk : Int)] w' fun e w'' => e = .returned (.bool false) ∧ (w''.cell? ⟨B, 0, none⟩ = some (.pointer (some ⟨R, 0, none⟩)) ∧ w''.cell? ⟨ub, uo + i, none⟩ = some (.int .u64 (pk : Int))) ∧ ∃ la lc, w''.cell? ⟨C, 2, none⟩ = some (.slice la NL lc) ∧ Hid (Ls w'' la NL lc τ.line) ∧ Hid (∀ V, Below w''.heap.size w'' V → Calls Try.prog 14 #[.pointer (some ⟨R, 0, none⟩)] V fun e w3 => ∃ p cap, e = .returned (.slice p NL cap) ∧ (w3.cell? ⟨B, 0, none⟩ = some (.pointer (some ⟨R, 0, none⟩)) ∧ w3.cell? ⟨ub, uo + i, none⟩ = some (.int .u64 (pk : Int))) ∧ w3.cell? ⟨C, 2, none⟩ = some (.slice la NL lc) ∧ Hid (Calls Try.prog 13 #[.slice p NL cap, .slice la NL lc] w3 fun e w4 => e = .returned (.bool true) ∧ (w4.cell? ⟨B, 0, none⟩ = some (.pointer (some ⟨R, 0, none⟩)) ∧ w4.cell? ⟨ub, uo + i, none⟩ = some (.int .u64 (pk : Int))) ∧ Hid (Bo W B R C pa k pcap (ps.take k) τ τ (k + (i + 1)) w4))) ∧ Hid (Bo W B R C pa k pcap (ps.take k) τ τ (k + (i + 1)) w''))) := hide (fun V hV => by
              refine ((hbo.out.below hV).step (by omega) pk hpk).mono ?_
              rintro e w' ⟨rfl, b1⟩
              refine ⟨by simp [hl], ⟨b1.cB0, hcell.out _ b1.bel⟩, hide ?_⟩
              refine (b1.rstep hsk.out (by omega) (by omega) hpl.out pk hpk).mono ?_
              rintro e w'' ⟨rfl, b2⟩
              obtain ⟨la, lc, c2, l2⟩ := b2.line
              rw [← hτ.out, ← hNL.out] at c2 l2
              rw [← hτ.out] at b2
              refine ⟨by simp [hl], ⟨b2.cB0, hcell.out _ b2.bel⟩, la, lc, c2, hide l2, hide (fun V' hV' => ?_), hide b2⟩
              refine (b2.below hV').ready.mono ?_
              rintro e w3 ⟨p, cap, rfl, o3, b3⟩
              rw [← hNL.out] at o3 ⊢
              have b23 := hV'.trans (b3.mono hV'.size)
              have b4 := b2.below b23
              refine ⟨p, cap, rfl, ⟨b4.cB0, hcell.out _ b4.bel⟩, (b23.cell (cell_lt c2)).trans c2, hide ?_⟩
              refine (same_yes p la NL cap lc τ.line w3 (own_ls o3) (l2.keep b23)).mono ?_
              rintro e w4 ⟨rfl, q, hq⟩
              have b5 := b4.below (Y := w4) (by rw [hq]; exact below_drewN (Below.refl _ _) _)
              exact ⟨rfl, ⟨b5.cB0, hcell.out _ b5.bel⟩, hide b5⟩)
            have m1 := hbo.out.cB0
            have m2 := hcell.out wr hbo.out.bel
            clear hbo hsk hl hpk
            go_wp2_with fail
            refine wp_region_held_drew (S := (fun V => V.cell? ⟨B, 0, none⟩ = some (.pointer (some ⟨R, 0, none⟩)) ∧ V.cell? ⟨ub, uo + i, none⟩ = some (.int .u64 (pk : Int)))) (by kernel_rfl) ⟨m1, m2⟩ (fun hHeld => ?_)
            try simp only [List.size_toArray, List.length_cons, List.length_nil, Nat.reduceAdd]
            refine wpAnyH_take (i := 0) (v := (.pointer (some ⟨B, 0, none⟩))) rfl (by kernel_rfl) (by kernel_rfl) (by kernel_rfl) (fun _ _ _ h => h) (Or.inl ⟨by rfl, ?hy⟩) hHeld ?_
            case hy => (intro V hV; obtain ⟨hV1, hV2⟩ := hV; go_simp <;> first | done | rfl | (try simp_all; done) | omega)
            simp only [Act.put, List.getElem_toArray, List.getElem_cons_succ, List.getElem_cons_zero, List.setIfInBounds_toArray, List.set_cons_succ, List.set_cons_zero]
            refine wpAnyH_take (i := 1) (v := (.pointer (some ⟨B, 0, none⟩))) rfl (by kernel_rfl) (by kernel_rfl) (by kernel_rfl) (fun _ _ _ h => h) (Or.inl ⟨by rfl, ?hy⟩) hHeld ?_
            case hy => (intro V hV; obtain ⟨hV1, hV2⟩ := hV; go_simp <;> first | done | rfl | (try simp_all; done) | omega)
            simp only [Act.put, List.getElem_toArray, List.getElem_cons_succ, List.getElem_cons_zero, List.setIfInBounds_toArray, List.set_cons_succ, List.set_cons_zero]
            refine wpAnyH_take (i := 2) (v := (.pointer (some ⟨B, 0, none⟩))) rfl (by kernel_rfl) (by kernel_rfl) (by kernel_rfl) (fun _ _ _ h => h) (Or.inl ⟨by rfl, ?hy⟩) hHeld ?_
            case hy => (intro V hV; obtain ⟨hV1, hV2⟩ := hV; go_simp <;> first | done | rfl | (try simp_all; done) | omega)
            simp only [Act.put, List.getElem_toArray, List.getElem_cons_succ, List.getElem_cons_zero, List.setIfInBounds_toArray, List.set_cons_succ, List.set_cons_zero]
            refine wpAnyH_take (i := 3) (v := (.pointer (some ⟨R, 0, none⟩))) rfl (by kernel_rfl) (by kernel_rfl) (by kernel_rfl) (fun _ _ _ h => h) (Or.inl ⟨by rfl, ?hy⟩) hHeld ?_
            case hy => (intro V hV; obtain ⟨hV1, hV2⟩ := hV; go_simp <;> first | done | rfl | (try simp_all; done) | omega)
            simp only [Act.put, List.getElem_toArray, List.getElem_cons_succ, List.getElem_cons_zero, List.setIfInBounds_toArray, List.set_cons_succ, List.set_cons_zero]
            refine wpAnyH_take (i := 4) (v := (.slice (some ⟨ub, uo, none⟩) ul uc)) rfl (by kernel_rfl) (by kernel_rfl) (by kernel_rfl) (fun _ _ _ h => h) (Or.inl ⟨by rfl, ?hy⟩) hHeld ?_
            case hy => (intro V hV; obtain ⟨hV1, hV2⟩ := hV; go_simp <;> first | done | rfl | (try simp_all; done) | omega)
            simp only [Act.put, List.getElem_toArray, List.getElem_cons_succ, List.getElem_cons_zero, List.setIfInBounds_toArray, List.set_cons_succ, List.set_cons_zero]
            refine wpAnyH_take (i := 5) (v := (.int .i64 (i : Int))) rfl (by kernel_rfl) (by kernel_rfl) (by kernel_rfl) (fun _ _ _ h => h) (Or.inl ⟨by rfl, ?hy⟩) hHeld ?_
            case hy => (intro V hV; obtain ⟨hV1, hV2⟩ := hV; go_simp <;> first | done | rfl | (try simp_all; done) | omega)
            simp only [Act.put, List.getElem_toArray, List.getElem_cons_succ, List.getElem_cons_zero, List.setIfInBounds_toArray, List.set_cons_succ, List.set_cons_zero]
            refine wpAnyH_take (i := 6) (v := (.pointer (some ⟨ub, uo + i, none⟩))) rfl (by kernel_rfl) (by kernel_rfl) (by kernel_rfl) (fun _ _ _ h => h) (Or.inl ⟨by rfl, ?hy⟩) hHeld ?_
            case hy => (intro V hV; obtain ⟨hV1, hV2⟩ := hV; go_simp <;> first | done | rfl | (try simp_all; done) | omega)
            simp only [Act.put, List.getElem_toArray, List.getElem_cons_succ, List.getElem_cons_zero, List.setIfInBounds_toArray, List.set_cons_succ, List.set_cons_zero]
            refine wpAnyH_take (i := 7) (v := (.int .u64 (pk : Int))) rfl (by kernel_rfl) (by kernel_rfl) (by kernel_rfl) (fun _ _ _ h => h) (Or.inl ⟨by rfl, ?hy⟩) hHeld ?_
            case hy => (intro V hV; obtain ⟨hV1, hV2⟩ := hV; go_simp <;> first | done | rfl | (try simp_all; done) | omega)
            simp only [Act.put, List.getElem_toArray, List.getElem_cons_succ, List.getElem_cons_zero, List.setIfInBounds_toArray, List.set_cons_succ, List.set_cons_zero]
            refine wpAnyH_take (i := 9) (v := (.pointer (some ⟨C, 0, none⟩))) rfl (by kernel_rfl) (by kernel_rfl) (by kernel_rfl) (fun _ _ _ h => h) (Or.inl ⟨by rfl, ?hy⟩) hHeld ?_
            case hy => (intro V hV; obtain ⟨hV1, hV2⟩ := hV; go_simp <;> first | done | rfl | (try simp_all; done) | omega)
            simp only [Act.put, List.getElem_toArray, List.getElem_cons_succ, List.getElem_cons_zero, List.setIfInBounds_toArray, List.set_cons_succ, List.set_cons_zero]
            refine wpAnyH_take (i := 10) (v := (.slice (some ⟨ub, uo, none⟩) ul uc)) rfl (by kernel_rfl) (by kernel_rfl) (by kernel_rfl) (fun _ _ _ h => h) (Or.inl ⟨by rfl, ?hy⟩) hHeld ?_
            case hy => (intro V hV; obtain ⟨hV1, hV2⟩ := hV; go_simp <;> first | done | rfl | (try simp_all; done) | omega)
            simp only [Act.put, List.getElem_toArray, List.getElem_cons_succ, List.getElem_cons_zero, List.setIfInBounds_toArray, List.set_cons_succ, List.set_cons_zero]
            refine wpAnyH_take (i := 11) (v := (.int .i64 (i : Int))) rfl (by kernel_rfl) (by kernel_rfl) (by kernel_rfl) (fun _ _ _ h => h) (Or.inl ⟨by rfl, ?hy⟩) hHeld ?_
            case hy => (intro V hV; obtain ⟨hV1, hV2⟩ := hV; go_simp <;> first | done | rfl | (try simp_all; done) | omega)
            simp only [Act.put, List.getElem_toArray, List.getElem_cons_succ, List.getElem_cons_zero, List.setIfInBounds_toArray, List.set_cons_succ, List.set_cons_zero]
            refine wpAnyH_take (i := 12) (v := (.pointer (some ⟨ub, uo + i, none⟩))) rfl (by kernel_rfl) (by kernel_rfl) (by kernel_rfl) (fun _ _ _ h => h) (Or.inl ⟨by rfl, ?hy⟩) hHeld ?_
            case hy => (intro V hV; obtain ⟨hV1, hV2⟩ := hV; go_simp <;> first | done | rfl | (try simp_all; done) | omega)
            simp only [Act.put, List.getElem_toArray, List.getElem_cons_succ, List.getElem_cons_zero, List.setIfInBounds_toArray, List.set_cons_succ, List.set_cons_zero]
            refine wpAnyH_take (i := 13) (v := (.int .u64 (pk : Int))) rfl (by kernel_rfl) (by kernel_rfl) (by kernel_rfl) (fun _ _ _ h => h) (Or.inl ⟨by rfl, ?hy⟩) hHeld ?_
            case hy => (intro V hV; obtain ⟨hV1, hV2⟩ := hV; go_simp <;> first | done | rfl | (try simp_all; done) | omega)
            simp only [Act.put, List.getElem_toArray, List.getElem_cons_succ, List.getElem_cons_zero, List.setIfInBounds_toArray, List.set_cons_succ, List.set_cons_zero]
            refine wpAnyH_ready (rs := [8]) (by kernel_rfl) (by simp) ?_
            refine AllReadyH.cons (by rfl) ?_ AllReadyH.nil
            intro K hK
            refine step_callw (by rfl) 11 #[.pointer (some ⟨R, 0, none⟩), .int .u64 (pk : Int)] (by go_simp) ?_
            refine (HS1.out _ (Below.refl _ _).drew).mono ?_
            rintro e w2 ⟨rfl, s2, HR2⟩
            refine ⟨_, rfl, ?_⟩
            refine hK.out _ _ s2 (fun hHeld => ?_)
            clear hK K
            simp only [Act.put, List.getElem_toArray, List.getElem_cons_succ, List.getElem_cons_zero, List.setIfInBounds_toArray, List.set_cons_succ, List.set_cons_zero]
            refine wpAnyH_ready (rs := [14]) (by kernel_rfl) (by simp) ?_
            refine AllReadyH.cons (by rfl) ?_ AllReadyH.nil
            intro K hK
            refine step_callw (by rfl) 12 #[.pointer (some ⟨C, 0, none⟩), .int .u64 (pk : Int)] (by go_simp) ?_
            refine HR2.out.mono ?_
            rintro e w3 ⟨rfl, s3, la, lc, c3, HL3, HY3, HB3⟩
            refine ⟨_, rfl, ?_⟩
            refine hK.out _ _ s3 (fun hHeld => ?_)
            clear hK K
            simp only [Act.put, List.getElem_toArray, List.getElem_cons_succ, List.getElem_cons_zero, List.setIfInBounds_toArray, List.set_cons_succ, List.set_cons_zero]
            clear HR2 HS1
            refine wpAnyH_take (i := 15) (v := (.bool false)) rfl (by kernel_rfl) (by kernel_rfl) (by kernel_rfl) (fun _ _ _ h => h) (Or.inl ⟨by rfl, ?hy⟩) hHeld ?_
            case hy => (intro V hV; obtain ⟨hV1, hV2⟩ := hV; go_simp <;> first | done | rfl | (try simp_all; done) | omega)
            simp only [Act.put, List.getElem_toArray, List.getElem_cons_succ, List.getElem_cons_zero, List.setIfInBounds_toArray, List.set_cons_succ, List.set_cons_zero]
            refine wpAnyH_take (i := 16) (v := (.bool false)) rfl (by kernel_rfl) (by kernel_rfl) (by kernel_rfl) (fun _ _ _ h => h) (Or.inl ⟨by rfl, ?hy⟩) hHeld ?_
            case hy => (intro V hV; obtain ⟨hV1, hV2⟩ := hV; go_simp <;> first | done | rfl | (try simp_all; done) | omega)
            simp only [Act.put, List.getElem_toArray, List.getElem_cons_succ, List.getElem_cons_zero, List.setIfInBounds_toArray, List.set_cons_succ, List.set_cons_zero]
            refine wpAnyH_take (i := 17) (v := (.pointer (some ⟨B, 0, none⟩))) rfl (by kernel_rfl) (by kernel_rfl) (by kernel_rfl) (fun _ _ _ h => h) (Or.inl ⟨by rfl, ?hy⟩) hHeld ?_
            case hy => (intro V hV; obtain ⟨hV1, hV2⟩ := hV; go_simp <;> first | done | rfl | (try simp_all; done) | omega)
            simp only [Act.put, List.getElem_toArray, List.getElem_cons_succ, List.getElem_cons_zero, List.setIfInBounds_toArray, List.set_cons_succ, List.set_cons_zero]
            refine wpAnyH_take (i := 18) (v := (.pointer (some ⟨B, 0, none⟩))) rfl (by kernel_rfl) (by kernel_rfl) (by kernel_rfl) (fun _ _ _ h => h) (Or.inl ⟨by rfl, ?hy⟩) hHeld ?_
            case hy => (intro V hV; obtain ⟨hV1, hV2⟩ := hV; go_simp <;> first | done | rfl | (try simp_all; done) | omega)
            simp only [Act.put, List.getElem_toArray, List.getElem_cons_succ, List.getElem_cons_zero, List.setIfInBounds_toArray, List.set_cons_succ, List.set_cons_zero]
            refine wpAnyH_take (i := 19) (v := (.pointer (some ⟨B, 0, none⟩))) rfl (by kernel_rfl) (by kernel_rfl) (by kernel_rfl) (fun _ _ _ h => h) (Or.inl ⟨by rfl, ?hy⟩) hHeld ?_
            case hy => (intro V hV; obtain ⟨hV1, hV2⟩ := hV; go_simp <;> first | done | rfl | (try simp_all; done) | omega)
            simp only [Act.put, List.getElem_toArray, List.getElem_cons_succ, List.getElem_cons_zero, List.setIfInBounds_toArray, List.set_cons_succ, List.set_cons_zero]
            refine wpAnyH_take (i := 20) (v := (.pointer (some ⟨R, 0, none⟩))) rfl (by kernel_rfl) (by kernel_rfl) (by kernel_rfl) (fun _ _ _ h => h) (Or.inl ⟨by rfl, ?hy⟩) hHeld ?_
            case hy => (intro V hV; obtain ⟨hV1, hV2⟩ := hV; go_simp <;> first | done | rfl | (try simp_all; done) | omega)
            simp only [Act.put, List.getElem_toArray, List.getElem_cons_succ, List.getElem_cons_zero, List.setIfInBounds_toArray, List.set_cons_succ, List.set_cons_zero]
            refine wpAnyH_take (i := 22) (v := (.pointer (some ⟨C, 0, none⟩))) rfl (by kernel_rfl) (by kernel_rfl) (by kernel_rfl) (fun _ _ _ h => h) (Or.inl ⟨by rfl, ?hy⟩) hHeld ?_
            case hy => (intro V hV; obtain ⟨hV1, hV2⟩ := hV; go_simp <;> first | done | rfl | (try simp_all; done) | omega)
            simp only [Act.put, List.getElem_toArray, List.getElem_cons_succ, List.getElem_cons_zero, List.setIfInBounds_toArray, List.set_cons_succ, List.set_cons_zero]
            refine wpAnyH_take (i := 23) (v := (.pointer (some ⟨C, 0, none⟩))) rfl (by kernel_rfl) (by kernel_rfl) (by kernel_rfl) (fun _ _ _ h => h) (Or.inl ⟨by rfl, ?hy⟩) hHeld ?_
            case hy => (intro V hV; obtain ⟨hV1, hV2⟩ := hV; go_simp <;> first | done | rfl | (try simp_all; done) | omega)
            simp only [Act.put, List.getElem_toArray, List.getElem_cons_succ, List.getElem_cons_zero, List.setIfInBounds_toArray, List.set_cons_succ, List.set_cons_zero]
            refine wpAnyH_take (i := 24) (v := (.pointer (some ⟨C, 2, none⟩))) rfl (by kernel_rfl) (by kernel_rfl) (by kernel_rfl) (fun _ _ _ h => h) (Or.inl ⟨by rfl, ?hy⟩) hHeld ?_
            case hy => (intro V hV; obtain ⟨hV1, hV2⟩ := hV; go_simp <;> first | done | rfl | (try simp_all; done) | omega)
            simp only [Act.put, List.getElem_toArray, List.getElem_cons_succ, List.getElem_cons_zero, List.setIfInBounds_toArray, List.set_cons_succ, List.set_cons_zero]
            refine wpAnyH_ready (rs := [21, 25]) (by kernel_rfl) (by simp) ?_
            refine AllReadyH.cons (by rfl) ?oa (AllReadyH.cons (by rfl) ?ob AllReadyH.nil)
            case oa =>
              intro K hK
              refine step_callw (by rfl) 14 #[.pointer (some ⟨R, 0, none⟩)] (by go_simp) ?_
              refine (HY3.out _ (by first | exact Below.refl _ _ | exact (Below.refl _ _).drew)).mono ?_
              rintro e w4 ⟨p4, cap4, rfl, s4, c4, HM4⟩
              refine ⟨_, rfl, ?_⟩
              refine hK.out _ _ s4 (fun hHeld => ?_)
              clear hK K
              simp only [Act.put, List.getElem_toArray, List.getElem_cons_succ, List.getElem_cons_zero, List.setIfInBounds_toArray, List.set_cons_succ, List.set_cons_zero]
              refine wpAnyH_ready (rs := [25]) (by kernel_rfl) (by simp) ?_
              refine AllReadyH.cons (by rfl) ?_ AllReadyH.nil
              intro K hK
              refine step_loadw (v := .slice la NL lc) (w' := w4) (by rfl) (by have := c4; go_simp) ?_
              refine hK.out _ _ s4 (fun hHeld => ?_)
              clear hK K
              simp only [Act.put, List.getElem_toArray, List.getElem_cons_succ, List.getElem_cons_zero, List.setIfInBounds_toArray, List.set_cons_succ, List.set_cons_zero]
              refine wpAnyH_ready (rs := [26]) (by kernel_rfl) (by simp) ?_
              refine AllReadyH.cons (by rfl) ?_ AllReadyH.nil
              intro K hK
              refine step_callw (by rfl) 13 #[.slice p4 NL cap4, .slice la NL lc] (by go_simp) ?_
              refine (HM4.out).mono ?_
              rintro e w5 ⟨rfl, s5, HB5⟩
              refine ⟨_, rfl, ?_⟩
              refine hK.out _ _ s5 (fun hHeld => ?_)
              clear hK K
              simp only [Act.put, List.getElem_toArray, List.getElem_cons_succ, List.getElem_cons_zero, List.setIfInBounds_toArray, List.set_cons_succ, List.set_cons_zero]
              refine wpAnyH_take (i := 27) (v := (.bool false)) rfl (by kernel_rfl) (by kernel_rfl) (by kernel_rfl) (fun _ _ _ h => h) (Or.inl ⟨by rfl, ?hy⟩) hHeld ?_
              case hy => (intro V hV; obtain ⟨hV1, hV2⟩ := hV; go_simp <;> first | done | rfl | (try simp_all; done) | omega)
              simp only [Act.put, List.getElem_toArray, List.getElem_cons_succ, List.getElem_cons_zero, List.setIfInBounds_toArray, List.set_cons_succ, List.set_cons_zero]
              refine wpAnyH_take (i := 28) (v := (.bool false)) rfl (by kernel_rfl) (by kernel_rfl) (by kernel_rfl) (fun _ _ _ h => h) (Or.inl ⟨by rfl, ?hy⟩) hHeld ?_
              case hy => (intro V hV; obtain ⟨hV1, hV2⟩ := hV; go_simp <;> first | done | rfl | (try simp_all; done) | omega)
              simp only [Act.put, List.getElem_toArray, List.getElem_cons_succ, List.getElem_cons_zero, List.setIfInBounds_toArray, List.set_cons_succ, List.set_cons_zero]
              refine wpAnyH_done (by kernel_rfl) ?_ _
              try simp only [Act.put, List.getElem_toArray, List.getElem_cons_succ, List.getElem_cons_zero, List.setIfInBounds_toArray, List.set_cons_succ, List.set_cons_zero]
              have HBN := hide HB5.out
              clear HB5 HM4 HB3 HY3
              go_wp2_with fail
              go_roundw
              case rel => exact ⟨i + 1, by omega, by omega, by go_num, hide ⟨_, HBN.out⟩⟩
              case measure => simp [intOf]; omega
            case ob =>
              intro K hK
              refine step_loadw (v := .slice la NL lc) (w' := w3) (by rfl) (by have := c3; go_simp) ?_
              refine hK.out _ _ s3 (fun hHeld => ?_)
              clear hK K
              simp only [Act.put, List.getElem_toArray, List.getElem_cons_succ, List.getElem_cons_zero, List.setIfInBounds_toArray, List.set_cons_succ, List.set_cons_zero]
              refine wpAnyH_ready (rs := [21]) (by kernel_rfl) (by simp) ?_
              refine AllReadyH.cons (by rfl) ?_ AllReadyH.nil
              intro K hK
              refine step_callw (by rfl) 14 #[.pointer (some ⟨R, 0, none⟩)] (by go_simp) ?_
              refine (HY3.out _ (by first | exact Below.refl _ _ | exact (Below.refl _ _).drew)).mono ?_
              rintro e w4 ⟨p4, cap4, rfl, s4, c4, HM4⟩
              refine ⟨_, rfl, ?_⟩
              refine hK.out _ _ s4 (fun hHeld => ?_)
              clear hK K
              simp only [Act.put, List.getElem_toArray, List.getElem_cons_succ, List.getElem_cons_zero, List.setIfInBounds_toArray, List.set_cons_succ, List.set_cons_zero]
              refine wpAnyH_ready (rs := [26]) (by kernel_rfl) (by simp) ?_
              refine AllReadyH.cons (by rfl) ?_ AllReadyH.nil
              intro K hK
              refine step_callw (by rfl) 13 #[.slice p4 NL cap4, .slice la NL lc] (by go_simp) ?_
              refine (HM4.out).mono ?_
              rintro e w5 ⟨rfl, s5, HB5⟩
              refine ⟨_, rfl, ?_⟩
              refine hK.out _ _ s5 (fun hHeld => ?_)
              clear hK K
              simp only [Act.put, List.getElem_toArray, List.getElem_cons_succ, List.getElem_cons_zero, List.setIfInBounds_toArray, List.set_cons_succ, List.set_cons_zero]
              refine wpAnyH_take (i := 27) (v := (.bool false)) rfl (by kernel_rfl) (by kernel_rfl) (by kernel_rfl) (fun _ _ _ h => h) (Or.inl ⟨by rfl, ?hy⟩) hHeld ?_
              case hy => (intro V hV; obtain ⟨hV1, hV2⟩ := hV; go_simp <;> first | done | rfl | (try simp_all; done) | omega)
              simp only [Act.put, List.getElem_toArray, List.getElem_cons_succ, List.getElem_cons_zero, List.setIfInBounds_toArray, List.set_cons_succ, List.set_cons_zero]
              refine wpAnyH_take (i := 28) (v := (.bool false)) rfl (by kernel_rfl) (by kernel_rfl) (by kernel_rfl) (fun _ _ _ h => h) (Or.inl ⟨by rfl, ?hy⟩) hHeld ?_
              case hy => (intro V hV; obtain ⟨hV1, hV2⟩ := hV; go_simp <;> first | done | rfl | (try simp_all; done) | omega)
              simp only [Act.put, List.getElem_toArray, List.getElem_cons_succ, List.getElem_cons_zero, List.setIfInBounds_toArray, List.set_cons_succ, List.set_cons_zero]
              refine wpAnyH_done (by kernel_rfl) ?_ _
              try simp only [Act.put, List.getElem_toArray, List.getElem_cons_succ, List.getElem_cons_zero, List.setIfInBounds_toArray, List.set_cons_succ, List.set_cons_zero]
              have HBN := hide HB5.out
              clear HB5 HM4 HB3 HY3
              go_wp2_with fail
              go_roundw
              case rel => exact ⟨i + 1, by omega, by omega, by go_num, hide ⟨_, HBN.out⟩⟩
              case measure => simp [intOf]; omega
          · have HS1 : Hid (∀ V, Below wr.heap.size wr V → Calls Try.prog 11 #[.pointer (some ⟨R, 0, none⟩), .int .u64 (pk : Int)] V fun e w' => e = .returned (.bool true) ∧ (w'.cell? ⟨B, 0, none⟩ = some (.pointer (some ⟨R, 0, none⟩)) ∧ w'.cell? ⟨ub, uo + i, none⟩ = some (.int .u64 (pk : Int))) ∧ Hid (Calls Try.prog 12 #[.pointer (some ⟨C, 0, none⟩), .int .u64 (pk : Int)] w' fun e w'' => e = .returned (.bool true) ∧ (w''.cell? ⟨B, 0, none⟩ = some (.pointer (some ⟨R, 0, none⟩)) ∧ w''.cell? ⟨ub, uo + i, none⟩ = some (.int .u64 (pk : Int))) ∧ ∃ la lc, w''.cell? ⟨C, 2, none⟩ = some (.slice la NL lc) ∧ Hid (Ls w'' la NL lc τ.line) ∧ Hid (∀ V, Below w''.heap.size w'' V → Calls Try.prog 14 #[.pointer (some ⟨R, 0, none⟩)] V fun e w3 => ∃ p cap, e = .returned (.slice p NL cap) ∧ (w3.cell? ⟨B, 0, none⟩ = some (.pointer (some ⟨R, 0, none⟩)) ∧ w3.cell? ⟨ub, uo + i, none⟩ = some (.int .u64 (pk : Int))) ∧ w3.cell? ⟨C, 2, none⟩ = some (.slice la NL lc) ∧ Hid (Calls Try.prog 13 #[.slice p NL cap, .slice la NL lc] w3 fun e w4 => e = .returned (.bool true) ∧ (w4.cell? ⟨B, 0, none⟩ = some (.pointer (some ⟨R, 0, none⟩)) ∧ w4.cell? ⟨ub, uo + i, none⟩ = some (.int .u64 (pk : Int))) ∧ Hid (Bo W B R C pa k pcap (ps.take k) τ τ (k + (i + 1)) w4))) ∧ Hid (Bo W B R C pa k pcap (ps.take k) τ τ (k + (i + 1)) w''))) := hide (fun V hV => by
              refine ((hbo.out.below hV).step (by omega) pk hpk).mono ?_
              rintro e w' ⟨rfl, b1⟩
              refine ⟨by simp [hl], ⟨b1.cB0, hcell.out _ b1.bel⟩, hide ?_⟩
              refine (b1.rstep hsk.out (by omega) (by omega) hpl.out pk hpk).mono ?_
              rintro e w'' ⟨rfl, b2⟩
              obtain ⟨la, lc, c2, l2⟩ := b2.line
              rw [← hτ.out, ← hNL.out] at c2 l2
              rw [← hτ.out] at b2
              refine ⟨by simp [hl], ⟨b2.cB0, hcell.out _ b2.bel⟩, la, lc, c2, hide l2, hide (fun V' hV' => ?_), hide b2⟩
              refine (b2.below hV').ready.mono ?_
              rintro e w3 ⟨p, cap, rfl, o3, b3⟩
              rw [← hNL.out] at o3 ⊢
              have b23 := hV'.trans (b3.mono hV'.size)
              have b4 := b2.below b23
              refine ⟨p, cap, rfl, ⟨b4.cB0, hcell.out _ b4.bel⟩, (b23.cell (cell_lt c2)).trans c2, hide ?_⟩
              refine (same_yes p la NL cap lc τ.line w3 (own_ls o3) (l2.keep b23)).mono ?_
              rintro e w4 ⟨rfl, q, hq⟩
              have b5 := b4.below (Y := w4) (by rw [hq]; exact below_drewN (Below.refl _ _) _)
              exact ⟨rfl, ⟨b5.cB0, hcell.out _ b5.bel⟩, hide b5⟩)
            have m1 := hbo.out.cB0
            have m2 := hcell.out wr hbo.out.bel
            clear hbo hsk hl hpk
            go_wp2_with fail
            refine wp_region_held_drew (S := (fun V => V.cell? ⟨B, 0, none⟩ = some (.pointer (some ⟨R, 0, none⟩)) ∧ V.cell? ⟨ub, uo + i, none⟩ = some (.int .u64 (pk : Int)))) (by kernel_rfl) ⟨m1, m2⟩ (fun hHeld => ?_)
            try simp only [List.size_toArray, List.length_cons, List.length_nil, Nat.reduceAdd]
            refine wpAnyH_take (i := 0) (v := (.pointer (some ⟨B, 0, none⟩))) rfl (by kernel_rfl) (by kernel_rfl) (by kernel_rfl) (fun _ _ _ h => h) (Or.inl ⟨by rfl, ?hy⟩) hHeld ?_
            case hy => (intro V hV; obtain ⟨hV1, hV2⟩ := hV; go_simp <;> first | done | rfl | (try simp_all; done) | omega)
            simp only [Act.put, List.getElem_toArray, List.getElem_cons_succ, List.getElem_cons_zero, List.setIfInBounds_toArray, List.set_cons_succ, List.set_cons_zero]
            refine wpAnyH_take (i := 1) (v := (.pointer (some ⟨B, 0, none⟩))) rfl (by kernel_rfl) (by kernel_rfl) (by kernel_rfl) (fun _ _ _ h => h) (Or.inl ⟨by rfl, ?hy⟩) hHeld ?_
            case hy => (intro V hV; obtain ⟨hV1, hV2⟩ := hV; go_simp <;> first | done | rfl | (try simp_all; done) | omega)
            simp only [Act.put, List.getElem_toArray, List.getElem_cons_succ, List.getElem_cons_zero, List.setIfInBounds_toArray, List.set_cons_succ, List.set_cons_zero]
            refine wpAnyH_take (i := 2) (v := (.pointer (some ⟨B, 0, none⟩))) rfl (by kernel_rfl) (by kernel_rfl) (by kernel_rfl) (fun _ _ _ h => h) (Or.inl ⟨by rfl, ?hy⟩) hHeld ?_
            case hy => (intro V hV; obtain ⟨hV1, hV2⟩ := hV; go_simp <;> first | done | rfl | (try simp_all; done) | omega)
            simp only [Act.put, List.getElem_toArray, List.getElem_cons_succ, List.getElem_cons_zero, List.setIfInBounds_toArray, List.set_cons_succ, List.set_cons_zero]
            refine wpAnyH_take (i := 3) (v := (.pointer (some ⟨R, 0, none⟩))) rfl (by kernel_rfl) (by kernel_rfl) (by kernel_rfl) (fun _ _ _ h => h) (Or.inl ⟨by rfl, ?hy⟩) hHeld ?_
            case hy => (intro V hV; obtain ⟨hV1, hV2⟩ := hV; go_simp <;> first | done | rfl | (try simp_all; done) | omega)
            simp only [Act.put, List.getElem_toArray, List.getElem_cons_succ, List.getElem_cons_zero, List.setIfInBounds_toArray, List.set_cons_succ, List.set_cons_zero]
            refine wpAnyH_take (i := 4) (v := (.slice (some ⟨ub, uo, none⟩) ul uc)) rfl (by kernel_rfl) (by kernel_rfl) (by kernel_rfl) (fun _ _ _ h => h) (Or.inl ⟨by rfl, ?hy⟩) hHeld ?_
            case hy => (intro V hV; obtain ⟨hV1, hV2⟩ := hV; go_simp <;> first | done | rfl | (try simp_all; done) | omega)
            simp only [Act.put, List.getElem_toArray, List.getElem_cons_succ, List.getElem_cons_zero, List.setIfInBounds_toArray, List.set_cons_succ, List.set_cons_zero]
            refine wpAnyH_take (i := 5) (v := (.int .i64 (i : Int))) rfl (by kernel_rfl) (by kernel_rfl) (by kernel_rfl) (fun _ _ _ h => h) (Or.inl ⟨by rfl, ?hy⟩) hHeld ?_
            case hy => (intro V hV; obtain ⟨hV1, hV2⟩ := hV; go_simp <;> first | done | rfl | (try simp_all; done) | omega)
            simp only [Act.put, List.getElem_toArray, List.getElem_cons_succ, List.getElem_cons_zero, List.setIfInBounds_toArray, List.set_cons_succ, List.set_cons_zero]
            refine wpAnyH_take (i := 6) (v := (.pointer (some ⟨ub, uo + i, none⟩))) rfl (by kernel_rfl) (by kernel_rfl) (by kernel_rfl) (fun _ _ _ h => h) (Or.inl ⟨by rfl, ?hy⟩) hHeld ?_
            case hy => (intro V hV; obtain ⟨hV1, hV2⟩ := hV; go_simp <;> first | done | rfl | (try simp_all; done) | omega)
            simp only [Act.put, List.getElem_toArray, List.getElem_cons_succ, List.getElem_cons_zero, List.setIfInBounds_toArray, List.set_cons_succ, List.set_cons_zero]
            refine wpAnyH_take (i := 7) (v := (.int .u64 (pk : Int))) rfl (by kernel_rfl) (by kernel_rfl) (by kernel_rfl) (fun _ _ _ h => h) (Or.inl ⟨by rfl, ?hy⟩) hHeld ?_
            case hy => (intro V hV; obtain ⟨hV1, hV2⟩ := hV; go_simp <;> first | done | rfl | (try simp_all; done) | omega)
            simp only [Act.put, List.getElem_toArray, List.getElem_cons_succ, List.getElem_cons_zero, List.setIfInBounds_toArray, List.set_cons_succ, List.set_cons_zero]
            refine wpAnyH_take (i := 9) (v := (.pointer (some ⟨C, 0, none⟩))) rfl (by kernel_rfl) (by kernel_rfl) (by kernel_rfl) (fun _ _ _ h => h) (Or.inl ⟨by rfl, ?hy⟩) hHeld ?_
            case hy => (intro V hV; obtain ⟨hV1, hV2⟩ := hV; go_simp <;> first | done | rfl | (try simp_all; done) | omega)
            simp only [Act.put, List.getElem_toArray, List.getElem_cons_succ, List.getElem_cons_zero, List.setIfInBounds_toArray, List.set_cons_succ, List.set_cons_zero]
            refine wpAnyH_take (i := 10) (v := (.slice (some ⟨ub, uo, none⟩) ul uc)) rfl (by kernel_rfl) (by kernel_rfl) (by kernel_rfl) (fun _ _ _ h => h) (Or.inl ⟨by rfl, ?hy⟩) hHeld ?_
            case hy => (intro V hV; obtain ⟨hV1, hV2⟩ := hV; go_simp <;> first | done | rfl | (try simp_all; done) | omega)
            simp only [Act.put, List.getElem_toArray, List.getElem_cons_succ, List.getElem_cons_zero, List.setIfInBounds_toArray, List.set_cons_succ, List.set_cons_zero]
            refine wpAnyH_take (i := 11) (v := (.int .i64 (i : Int))) rfl (by kernel_rfl) (by kernel_rfl) (by kernel_rfl) (fun _ _ _ h => h) (Or.inl ⟨by rfl, ?hy⟩) hHeld ?_
            case hy => (intro V hV; obtain ⟨hV1, hV2⟩ := hV; go_simp <;> first | done | rfl | (try simp_all; done) | omega)
            simp only [Act.put, List.getElem_toArray, List.getElem_cons_succ, List.getElem_cons_zero, List.setIfInBounds_toArray, List.set_cons_succ, List.set_cons_zero]
            refine wpAnyH_take (i := 12) (v := (.pointer (some ⟨ub, uo + i, none⟩))) rfl (by kernel_rfl) (by kernel_rfl) (by kernel_rfl) (fun _ _ _ h => h) (Or.inl ⟨by rfl, ?hy⟩) hHeld ?_
            case hy => (intro V hV; obtain ⟨hV1, hV2⟩ := hV; go_simp <;> first | done | rfl | (try simp_all; done) | omega)
            simp only [Act.put, List.getElem_toArray, List.getElem_cons_succ, List.getElem_cons_zero, List.setIfInBounds_toArray, List.set_cons_succ, List.set_cons_zero]
            refine wpAnyH_take (i := 13) (v := (.int .u64 (pk : Int))) rfl (by kernel_rfl) (by kernel_rfl) (by kernel_rfl) (fun _ _ _ h => h) (Or.inl ⟨by rfl, ?hy⟩) hHeld ?_
            case hy => (intro V hV; obtain ⟨hV1, hV2⟩ := hV; go_simp <;> first | done | rfl | (try simp_all; done) | omega)
            simp only [Act.put, List.getElem_toArray, List.getElem_cons_succ, List.getElem_cons_zero, List.setIfInBounds_toArray, List.set_cons_succ, List.set_cons_zero]
            refine wpAnyH_ready (rs := [8]) (by kernel_rfl) (by simp) ?_
            refine AllReadyH.cons (by rfl) ?_ AllReadyH.nil
            intro K hK
            refine step_callw (by rfl) 11 #[.pointer (some ⟨R, 0, none⟩), .int .u64 (pk : Int)] (by go_simp) ?_
            refine (HS1.out _ (Below.refl _ _).drew).mono ?_
            rintro e w2 ⟨rfl, s2, HR2⟩
            refine ⟨_, rfl, ?_⟩
            refine hK.out _ _ s2 (fun hHeld => ?_)
            clear hK K
            simp only [Act.put, List.getElem_toArray, List.getElem_cons_succ, List.getElem_cons_zero, List.setIfInBounds_toArray, List.set_cons_succ, List.set_cons_zero]
            refine wpAnyH_ready (rs := [14]) (by kernel_rfl) (by simp) ?_
            refine AllReadyH.cons (by rfl) ?_ AllReadyH.nil
            intro K hK
            refine step_callw (by rfl) 12 #[.pointer (some ⟨C, 0, none⟩), .int .u64 (pk : Int)] (by go_simp) ?_
            refine HR2.out.mono ?_
            rintro e w3 ⟨rfl, s3, la, lc, c3, HL3, HY3, HB3⟩
            refine ⟨_, rfl, ?_⟩
            refine hK.out _ _ s3 (fun hHeld => ?_)
            clear hK K
            simp only [Act.put, List.getElem_toArray, List.getElem_cons_succ, List.getElem_cons_zero, List.setIfInBounds_toArray, List.set_cons_succ, List.set_cons_zero]
            clear HR2 HS1
            refine wpAnyH_take (i := 15) (v := (.bool false)) rfl (by kernel_rfl) (by kernel_rfl) (by kernel_rfl) (fun _ _ _ h => h) (Or.inl ⟨by rfl, ?hy⟩) hHeld ?_
            case hy => (intro V hV; obtain ⟨hV1, hV2⟩ := hV; go_simp <;> first | done | rfl | (try simp_all; done) | omega)
            simp only [Act.put, List.getElem_toArray, List.getElem_cons_succ, List.getElem_cons_zero, List.setIfInBounds_toArray, List.set_cons_succ, List.set_cons_zero]
            refine wpAnyH_take (i := 16) (v := (.bool false)) rfl (by kernel_rfl) (by kernel_rfl) (by kernel_rfl) (fun _ _ _ h => h) (Or.inl ⟨by rfl, ?hy⟩) hHeld ?_
            case hy => (intro V hV; obtain ⟨hV1, hV2⟩ := hV; go_simp <;> first | done | rfl | (try simp_all; done) | omega)
            simp only [Act.put, List.getElem_toArray, List.getElem_cons_succ, List.getElem_cons_zero, List.setIfInBounds_toArray, List.set_cons_succ, List.set_cons_zero]
            refine wpAnyH_take (i := 17) (v := (.pointer (some ⟨B, 0, none⟩))) rfl (by kernel_rfl) (by kernel_rfl) (by kernel_rfl) (fun _ _ _ h => h) (Or.inl ⟨by rfl, ?hy⟩) hHeld ?_
            case hy => (intro V hV; obtain ⟨hV1, hV2⟩ := hV; go_simp <;> first | done | rfl | (try simp_all; done) | omega)
            simp only [Act.put, List.getElem_toArray, List.getElem_cons_succ, List.getElem_cons_zero, List.setIfInBounds_toArray, List.set_cons_succ, List.set_cons_zero]
            refine wpAnyH_take (i := 18) (v := (.pointer (some ⟨B, 0, none⟩))) rfl (by kernel_rfl) (by kernel_rfl) (by kernel_rfl) (fun _ _ _ h => h) (Or.inl ⟨by rfl, ?hy⟩) hHeld ?_
            case hy => (intro V hV; obtain ⟨hV1, hV2⟩ := hV; go_simp <;> first | done | rfl | (try simp_all; done) | omega)
            simp only [Act.put, List.getElem_toArray, List.getElem_cons_succ, List.getElem_cons_zero, List.setIfInBounds_toArray, List.set_cons_succ, List.set_cons_zero]
            refine wpAnyH_take (i := 19) (v := (.pointer (some ⟨B, 0, none⟩))) rfl (by kernel_rfl) (by kernel_rfl) (by kernel_rfl) (fun _ _ _ h => h) (Or.inl ⟨by rfl, ?hy⟩) hHeld ?_
            case hy => (intro V hV; obtain ⟨hV1, hV2⟩ := hV; go_simp <;> first | done | rfl | (try simp_all; done) | omega)
            simp only [Act.put, List.getElem_toArray, List.getElem_cons_succ, List.getElem_cons_zero, List.setIfInBounds_toArray, List.set_cons_succ, List.set_cons_zero]
            refine wpAnyH_take (i := 20) (v := (.pointer (some ⟨R, 0, none⟩))) rfl (by kernel_rfl) (by kernel_rfl) (by kernel_rfl) (fun _ _ _ h => h) (Or.inl ⟨by rfl, ?hy⟩) hHeld ?_
            case hy => (intro V hV; obtain ⟨hV1, hV2⟩ := hV; go_simp <;> first | done | rfl | (try simp_all; done) | omega)
            simp only [Act.put, List.getElem_toArray, List.getElem_cons_succ, List.getElem_cons_zero, List.setIfInBounds_toArray, List.set_cons_succ, List.set_cons_zero]
            refine wpAnyH_take (i := 22) (v := (.pointer (some ⟨C, 0, none⟩))) rfl (by kernel_rfl) (by kernel_rfl) (by kernel_rfl) (fun _ _ _ h => h) (Or.inl ⟨by rfl, ?hy⟩) hHeld ?_
            case hy => (intro V hV; obtain ⟨hV1, hV2⟩ := hV; go_simp <;> first | done | rfl | (try simp_all; done) | omega)
            simp only [Act.put, List.getElem_toArray, List.getElem_cons_succ, List.getElem_cons_zero, List.setIfInBounds_toArray, List.set_cons_succ, List.set_cons_zero]
            refine wpAnyH_take (i := 23) (v := (.pointer (some ⟨C, 0, none⟩))) rfl (by kernel_rfl) (by kernel_rfl) (by kernel_rfl) (fun _ _ _ h => h) (Or.inl ⟨by rfl, ?hy⟩) hHeld ?_
            case hy => (intro V hV; obtain ⟨hV1, hV2⟩ := hV; go_simp <;> first | done | rfl | (try simp_all; done) | omega)
            simp only [Act.put, List.getElem_toArray, List.getElem_cons_succ, List.getElem_cons_zero, List.setIfInBounds_toArray, List.set_cons_succ, List.set_cons_zero]
            refine wpAnyH_take (i := 24) (v := (.pointer (some ⟨C, 2, none⟩))) rfl (by kernel_rfl) (by kernel_rfl) (by kernel_rfl) (fun _ _ _ h => h) (Or.inl ⟨by rfl, ?hy⟩) hHeld ?_
            case hy => (intro V hV; obtain ⟨hV1, hV2⟩ := hV; go_simp <;> first | done | rfl | (try simp_all; done) | omega)
            simp only [Act.put, List.getElem_toArray, List.getElem_cons_succ, List.getElem_cons_zero, List.setIfInBounds_toArray, List.set_cons_succ, List.set_cons_zero]
            refine wpAnyH_ready (rs := [21, 25]) (by kernel_rfl) (by simp) ?_
            refine AllReadyH.cons (by rfl) ?oa (AllReadyH.cons (by rfl) ?ob AllReadyH.nil)
            case oa =>
              intro K hK
              refine step_callw (by rfl) 14 #[.pointer (some ⟨R, 0, none⟩)] (by go_simp) ?_
              refine (HY3.out _ (by first | exact Below.refl _ _ | exact (Below.refl _ _).drew)).mono ?_
              rintro e w4 ⟨p4, cap4, rfl, s4, c4, HM4⟩
              refine ⟨_, rfl, ?_⟩
              refine hK.out _ _ s4 (fun hHeld => ?_)
              clear hK K
              simp only [Act.put, List.getElem_toArray, List.getElem_cons_succ, List.getElem_cons_zero, List.setIfInBounds_toArray, List.set_cons_succ, List.set_cons_zero]
              refine wpAnyH_ready (rs := [25]) (by kernel_rfl) (by simp) ?_
              refine AllReadyH.cons (by rfl) ?_ AllReadyH.nil
              intro K hK
              refine step_loadw (v := .slice la NL lc) (w' := w4) (by rfl) (by have := c4; go_simp) ?_
              refine hK.out _ _ s4 (fun hHeld => ?_)
              clear hK K
              simp only [Act.put, List.getElem_toArray, List.getElem_cons_succ, List.getElem_cons_zero, List.setIfInBounds_toArray, List.set_cons_succ, List.set_cons_zero]
              refine wpAnyH_ready (rs := [26]) (by kernel_rfl) (by simp) ?_
              refine AllReadyH.cons (by rfl) ?_ AllReadyH.nil
              intro K hK
              refine step_callw (by rfl) 13 #[.slice p4 NL cap4, .slice la NL lc] (by go_simp) ?_
              refine (HM4.out).mono ?_
              rintro e w5 ⟨rfl, s5, HB5⟩
              refine ⟨_, rfl, ?_⟩
              refine hK.out _ _ s5 (fun hHeld => ?_)
              clear hK K
              simp only [Act.put, List.getElem_toArray, List.getElem_cons_succ, List.getElem_cons_zero, List.setIfInBounds_toArray, List.set_cons_succ, List.set_cons_zero]
              refine wpAnyH_take (i := 27) (v := (.bool false)) rfl (by kernel_rfl) (by kernel_rfl) (by kernel_rfl) (fun _ _ _ h => h) (Or.inl ⟨by rfl, ?hy⟩) hHeld ?_
              case hy => (intro V hV; obtain ⟨hV1, hV2⟩ := hV; go_simp <;> first | done | rfl | (try simp_all; done) | omega)
              simp only [Act.put, List.getElem_toArray, List.getElem_cons_succ, List.getElem_cons_zero, List.setIfInBounds_toArray, List.set_cons_succ, List.set_cons_zero]
              refine wpAnyH_take (i := 28) (v := (.bool false)) rfl (by kernel_rfl) (by kernel_rfl) (by kernel_rfl) (fun _ _ _ h => h) (Or.inl ⟨by rfl, ?hy⟩) hHeld ?_
              case hy => (intro V hV; obtain ⟨hV1, hV2⟩ := hV; go_simp <;> first | done | rfl | (try simp_all; done) | omega)
              simp only [Act.put, List.getElem_toArray, List.getElem_cons_succ, List.getElem_cons_zero, List.setIfInBounds_toArray, List.set_cons_succ, List.set_cons_zero]
              refine wpAnyH_done (by kernel_rfl) ?_ _
              try simp only [Act.put, List.getElem_toArray, List.getElem_cons_succ, List.getElem_cons_zero, List.setIfInBounds_toArray, List.set_cons_succ, List.set_cons_zero]
              have HBN := hide HB5.out
              clear HB5 HM4 HB3 HY3
              go_wp2_with fail
              go_roundw
              case rel => exact ⟨i + 1, by omega, by omega, by go_num, hide ⟨_, HBN.out⟩⟩
              case measure => simp [intOf]; omega
            case ob =>
              intro K hK
              refine step_loadw (v := .slice la NL lc) (w' := w3) (by rfl) (by have := c3; go_simp) ?_
              refine hK.out _ _ s3 (fun hHeld => ?_)
              clear hK K
              simp only [Act.put, List.getElem_toArray, List.getElem_cons_succ, List.getElem_cons_zero, List.setIfInBounds_toArray, List.set_cons_succ, List.set_cons_zero]
              refine wpAnyH_ready (rs := [21]) (by kernel_rfl) (by simp) ?_
              refine AllReadyH.cons (by rfl) ?_ AllReadyH.nil
              intro K hK
              refine step_callw (by rfl) 14 #[.pointer (some ⟨R, 0, none⟩)] (by go_simp) ?_
              refine (HY3.out _ (by first | exact Below.refl _ _ | exact (Below.refl _ _).drew)).mono ?_
              rintro e w4 ⟨p4, cap4, rfl, s4, c4, HM4⟩
              refine ⟨_, rfl, ?_⟩
              refine hK.out _ _ s4 (fun hHeld => ?_)
              clear hK K
              simp only [Act.put, List.getElem_toArray, List.getElem_cons_succ, List.getElem_cons_zero, List.setIfInBounds_toArray, List.set_cons_succ, List.set_cons_zero]
              refine wpAnyH_ready (rs := [26]) (by kernel_rfl) (by simp) ?_
              refine AllReadyH.cons (by rfl) ?_ AllReadyH.nil
              intro K hK
              refine step_callw (by rfl) 13 #[.slice p4 NL cap4, .slice la NL lc] (by go_simp) ?_
              refine (HM4.out).mono ?_
              rintro e w5 ⟨rfl, s5, HB5⟩
              refine ⟨_, rfl, ?_⟩
              refine hK.out _ _ s5 (fun hHeld => ?_)
              clear hK K
              simp only [Act.put, List.getElem_toArray, List.getElem_cons_succ, List.getElem_cons_zero, List.setIfInBounds_toArray, List.set_cons_succ, List.set_cons_zero]
              refine wpAnyH_take (i := 27) (v := (.bool false)) rfl (by kernel_rfl) (by kernel_rfl) (by kernel_rfl) (fun _ _ _ h => h) (Or.inl ⟨by rfl, ?hy⟩) hHeld ?_
              case hy => (intro V hV; obtain ⟨hV1, hV2⟩ := hV; go_simp <;> first | done | rfl | (try simp_all; done) | omega)
              simp only [Act.put, List.getElem_toArray, List.getElem_cons_succ, List.getElem_cons_zero, List.setIfInBounds_toArray, List.set_cons_succ, List.set_cons_zero]
              refine wpAnyH_take (i := 28) (v := (.bool false)) rfl (by kernel_rfl) (by kernel_rfl) (by kernel_rfl) (fun _ _ _ h => h) (Or.inl ⟨by rfl, ?hy⟩) hHeld ?_
              case hy => (intro V hV; obtain ⟨hV1, hV2⟩ := hV; go_simp <;> first | done | rfl | (try simp_all; done) | omega)
              simp only [Act.put, List.getElem_toArray, List.getElem_cons_succ, List.getElem_cons_zero, List.setIfInBounds_toArray, List.set_cons_succ, List.set_cons_zero]
              refine wpAnyH_done (by kernel_rfl) ?_ _
              try simp only [Act.put, List.getElem_toArray, List.getElem_cons_succ, List.getElem_cons_zero, List.setIfInBounds_toArray, List.set_cons_succ, List.set_cons_zero]
              have HBN := hide HB5.out
              clear HB5 HM4 HB3 HY3
              go_wp2_with fail
              go_roundw
              case rel => exact ⟨i + 1, by omega, by omega, by go_num, hide ⟨_, HBN.out⟩⟩
              case measure => simp [intOf]; omega
        · have hex : ¬ ((i : Int) < (ul : Int)) ∨ ((i : Int) < (ul : Int) ∧ ¬ ((i : Int) < 300)) := by omega
          have HX : Hid (Bo W B R C pa k pcap (ps.take k) σ σ (k + i) wr) := hbo
          have hki : k + i ≤ 306 := by omega
          clear hbo hgo
          rcases hex with hc | ⟨hc0, hc⟩
          · obtain ⟨wk, hwk⟩ : ∃ wk : World, wk = wr := ⟨_, rfl⟩
            subst hwk
            go_wp2_with fail
            have hbo := HX.out
            obtain ⟨tp, tc, c2, htl, hall⟩ := hbo.tasks (by omega)
            have HAll := hide hall
            have m1 := hbo.cB0
            have bT := hide hbo.bel
            obtain ⟨N, hN⟩ : ∃ N, Hid (N = σ.tk.length) := ⟨_, hide rfl⟩
            rw [← hN.out] at c2 htl
            clear hbo hall
            go_loopw [9] (fun jv wr => ∃ j q : Nat, j ≤ N ∧ jv = .int .i64 j ∧ wr = wk.drewN q) (fun jv _ => N - (intOf jv).toNat)
            case atStart => exact ⟨0, 0, Nat.zero_le _, rfl, rfl⟩
            case round =>
              obtain ⟨j, q, hj, rfl, hwr⟩ := hrel
              have bq : Below wk.heap.size wk wr := by rw [hwr]; exact below_drewN (Below.refl _ wk) q
              have HR := hide hwr
              clear hwr
              have c2r := (bq.cell (cell_lt c2)).trans c2
              have m1r := (bq.cell (cell_lt m1)).trans m1
              by_cases hjl : j < N
              · obtain ⟨p, hp⟩ : ∃ p, σ.tk[j]? = some p := ⟨_, List.getElem?_eq_getElem (by rw [← hN.out]; exact hjl)⟩
                obtain ⟨gt, b, rfl, cb, HId, HOv, HRo, HRt⟩ := HAll.out j p hp
                have cbr := (bq.cell (cell_lt cb)).trans cb
                obtain ⟨ov, hov⟩ : ∃ ov : Bool, Hid (ov = decide (p.st = 0)) := ⟨_, hide rfl⟩
                rw [← hov.out] at HOv HRo
                have CI : Hid (∀ V, Below wr.heap.size wr V → _) := hide (fun V hV => HId.out V (bq.trans (hV.mono bq.size)))
                have CO : Hid (∀ V, Below wr.heap.size wr V → _) := hide (fun V hV => HOv.out V (bq.trans (hV.mono bq.size)))
                have CP : Hid (∀ V, Below wr.heap.size wr V → _) := hide (fun V hV => HRo.out V (bq.trans (hV.mono bq.size)))
                have CT : Hid (∀ V, Below wr.heap.size wr V → _) := hide (fun V hV => HRt.out V (bq.trans (hV.mono bq.size)))
                have hji : (j : Int) < (N : Int) := by omega
                have hN9 : (N : Int) ≤ 9223372036854775807 := by omega
                clear HId HOv HRo HRt HAll hp HX c2 m1 cb
                have qn := fun V => neq_same (w := V) R
                have hb2 : ov = true ∨ ov = false := by cases ov <;> simp
                rcases hb2 with rfl | rfl
                · go_wp2_with fail
                  go_quiet (first | (go_at_call 15; exact Calls.quiet_of_same (CI.out _ (by first | exact Below.refl _ _ | exact (Below.refl _ _).drew | exact below_drewN (Below.refl _ _) _))) | (go_at_call 16; exact Calls.quiet_of_same (CO.out _ (by first | exact Below.refl _ _ | exact (Below.refl _ _).drew | exact below_drewN (Below.refl _ _) _))) | (go_at_call 17; exact Calls.quiet_of_same (CP.out _ (by first | exact Below.refl _ _ | exact (Below.refl _ _).drew | exact below_drewN (Below.refl _ _) _))) | (go_at_call 18; exact Calls.quiet_of_same (CT.out _ (by first | exact Below.refl _ _ | exact (Below.refl _ _).drew | exact below_drewN (Below.refl _ _) _))))
                  go_wp2_with fail
                  go_roundw
                  case rel => exact ⟨j + 1, q + nq, by omega, by go_num, by rw [HR.out, World.drewN_drewN]⟩
                  case measure => simp [intOf]; omega
                · go_wp2_with fail
                  go_quiet (first | (go_at_call 15; exact Calls.quiet_of_same (CI.out _ (by first | exact Below.refl _ _ | exact (Below.refl _ _).drew | exact below_drewN (Below.refl _ _) _))) | (go_at_call 16; exact Calls.quiet_of_same (CO.out _ (by first | exact Below.refl _ _ | exact (Below.refl _ _).drew | exact below_drewN (Below.refl _ _) _))) | (go_at_call 17; exact Calls.quiet_of_same (CP.out _ (by first | exact Below.refl _ _ | exact (Below.refl _ _).drew | exact below_drewN (Below.refl _ _) _))) | (go_at_call 18; exact Calls.quiet_of_same (CT.out _ (by first | exact Below.refl _ _ | exact (Below.refl _ _).drew | exact below_drewN (Below.refl _ _) _))))
                  go_wp2_with fail
                  go_roundw
                  case rel => exact ⟨j + 1, q + nq, by omega, by go_num, by rw [HR.out, World.drewN_drewN]⟩
                  case measure => simp [intOf]; omega
              · obtain rfl : j = N := by omega
                have hbo := HX.out.below bq
                obtain ⟨ea, ec, e1, ev1⟩ := hbo.evs
                obtain ⟨fa, fc, e2, ev2⟩ := hbo.revs
                have e0 := hbo.cB0
                obtain ⟨EL, hEL⟩ : ∃ EL, Hid (EL = σ.ev.length) := ⟨_, hide rfl⟩
                rw [← hEL.out] at e1 e2 ev1 ev2
                obtain ⟨KL, hKL⟩ : ∃ KL, Hid (KL = σ.pkd.length) := ⟨_, hide rfl⟩
                have HK : Hid (∀ V, Below wr.heap.size wr V → (V.cell? ⟨B, 0, none⟩ = some (.pointer (some ⟨R, 0, none⟩)) ∧ V.cell? ⟨B, 3, none⟩ = some (.slice ea EL ec) ∧ V.cell? ⟨C, 3, none⟩ = some (.slice fa EL fc))) := hide (fun V hV => ⟨(hV.cell (cell_lt e0)).trans e0, (hV.cell (cell_lt e1)).trans e1, (hV.cell (cell_lt e2)).trans e2⟩)
                have HE : Hid (∀ V, Below wr.heap.size wr V → Calls Try.prog 19 #[.slice ea EL ec, .slice fa EL fc] V fun e w' => e = .returned (.bool true) ∧ (w'.cell? ⟨B, 0, none⟩ = some (.pointer (some ⟨R, 0, none⟩)) ∧ w'.cell? ⟨B, 3, none⟩ = some (.slice ea EL ec) ∧ w'.cell? ⟨C, 3, none⟩ = some (.slice fa EL fc)) ∧ Hid (Below wr.heap.size wr w')) := hide (fun V hV => by
                  refine (sameEvents_yes ea fa EL ec fc σ.ev V (ev1.keep hV) (ev2.keep hV)).mono ?_
                  rintro e w' ⟨rfl, q, hq⟩
                  have hb : Below wr.heap.size wr w' := by rw [hq]; exact below_drewN hV _
                  exact ⟨rfl, HK.out _ hb, hide hb⟩)
                have HP1 : Hid (∀ V, Below wr.heap.size wr V → Calls Try.prog 20 #[.pointer (some ⟨R, 0, none⟩)] V fun e w' => ∃ p cap, e = .returned (.slice p KL cap) ∧ (w'.cell? ⟨B, 0, none⟩ = some (.pointer (some ⟨R, 0, none⟩)) ∧ w'.cell? ⟨B, 3, none⟩ = some (.slice ea EL ec) ∧ w'.cell? ⟨C, 3, none⟩ = some (.slice fa EL fc)) ∧ Hid (Ls w' p KL cap σ.pkd) ∧ Hid (Below wr.heap.size wr w')) := hide (fun V hV => by
                  refine (hbo.below hV).parked.mono ?_
                  rintro e w' ⟨p, cap, rfl, o, b⟩
                  rw [← hKL.out] at o ⊢
                  have hb := hV.trans (b.mono hV.size)
                  exact ⟨p, cap, rfl, HK.out _ hb, hide (own_ls o), hide hb⟩)
                have HP2 : Hid (∀ V, Below wr.heap.size wr V → Calls Try.prog 21 #[.pointer (some ⟨C, 0, none⟩)] V fun e w' => ∃ p cap, e = .returned (.slice p KL cap) ∧ (w'.cell? ⟨B, 0, none⟩ = some (.pointer (some ⟨R, 0, none⟩)) ∧ w'.cell? ⟨B, 3, none⟩ = some (.slice ea EL ec) ∧ w'.cell? ⟨C, 3, none⟩ = some (.slice fa EL fc)) ∧ Hid (Ls w' p KL cap σ.pkd) ∧ Hid (Below V.heap.size V w') ∧ Hid (Below wr.heap.size wr w')) := hide (fun V hV => by
                  refine ((hbo.below hV).rparked (by rw [← hN.out]; omega)).mono ?_
                  rintro e w' ⟨p, cap, rfl, o, b⟩
                  rw [← hKL.out] at o ⊢
                  have hb := hV.trans (b.mono hV.size)
                  exact ⟨p, cap, rfl, HK.out _ hb, hide (own_ls o), hide b, hide hb⟩)
                have HSM : Hid (∀ p q c d V, Below wr.heap.size wr V → Ls V p KL c σ.pkd → Ls V q KL d σ.pkd → Calls Try.prog 13 #[.slice p KL c, .slice q KL d] V fun e w' => e = .returned (.bool true) ∧ (w'.cell? ⟨B, 0, none⟩ = some (.pointer (some ⟨R, 0, none⟩)) ∧ w'.cell? ⟨B, 3, none⟩ = some (.slice ea EL ec) ∧ w'.cell? ⟨C, 3, none⟩ = some (.slice fa EL fc)) ∧ Hid (Below wr.heap.size wr w')) := hide (fun p q c d V hV h1 h2 => by
                  refine (same_yes p q KL c d σ.pkd V h1 h2).mono ?_
                  rintro e w' ⟨rfl, n, hn⟩
                  have hb : Below wr.heap.size wr w' := by rw [hn]; exact below_drewN hV _
                  exact ⟨rfl, HK.out _ hb, hide hb⟩)
                have HAW : Hid (∀ V, Below wr.heap.size wr V → Calls Try.prog 7 #[] V fun e w' => e = .returned (.bool true) ∧ (w'.cell? ⟨B, 0, none⟩ = some (.pointer (some ⟨R, 0, none⟩)) ∧ w'.cell? ⟨B, 3, none⟩ = some (.slice ea EL ec) ∧ w'.cell? ⟨C, 3, none⟩ = some (.slice fa EL fc)) ∧ Hid (Below wr.heap.size wr w')) := hide (fun V hV => by
                  refine (HA.out V).mono ?_
                  rintro e w' ⟨rfl, b⟩
                  have hb := hV.trans (b.mono hV.size)
                  exact ⟨rfl, HK.out _ hb, hide hb⟩)
                have bW : Hid (∀ V, Below wr.heap.size wr V → Below W.heap.size W V) := hide (fun V hV => bT.out.trans ((bq.trans (hV.mono bq.size)).mono bT.out.size))
                clear hbo ev1 ev2 HX HAll hEL
                go_wp2_with fail
                refine wp_region_held_drew (S := (fun V => V.cell? ⟨B, 0, none⟩ = some (.pointer (some ⟨R, 0, none⟩)) ∧ V.cell? ⟨B, 3, none⟩ = some (.slice ea EL ec) ∧ V.cell? ⟨C, 3, none⟩ = some (.slice fa EL fc))) (by kernel_rfl) ⟨e0, e1, e2⟩ (fun hHeld => ?_)
                try simp only [List.size_toArray, List.length_cons, List.length_nil, Nat.reduceAdd]
                refine wpAnyH_take (i := 0) (v := (.pointer (some ⟨B, 0, none⟩))) rfl (by kernel_rfl) (by kernel_rfl) (by kernel_rfl) (fun _ _ _ h => h) (Or.inl ⟨by rfl, ?hy⟩) hHeld ?_
                case hy => (intro V hV; obtain ⟨hV1, hV2, hV3⟩ := hV; go_simp <;> first | done | rfl | (try simp_all; done) | omega)
                simp only [Act.put, List.getElem_toArray, List.getElem_cons_succ, List.getElem_cons_zero, List.setIfInBounds_toArray, List.set_cons_succ, List.set_cons_zero]
                refine wpAnyH_take (i := 1) (v := (.pointer (some ⟨B, 0, none⟩))) rfl (by kernel_rfl) (by kernel_rfl) (by kernel_rfl) (fun _ _ _ h => h) (Or.inl ⟨by rfl, ?hy⟩) hHeld ?_
                case hy => (intro V hV; obtain ⟨hV1, hV2, hV3⟩ := hV; go_simp <;> first | done | rfl | (try simp_all; done) | omega)
                simp only [Act.put, List.getElem_toArray, List.getElem_cons_succ, List.getElem_cons_zero, List.setIfInBounds_toArray, List.set_cons_succ, List.set_cons_zero]
                refine wpAnyH_take (i := 2) (v := (.pointer (some ⟨B, 3, none⟩))) rfl (by kernel_rfl) (by kernel_rfl) (by kernel_rfl) (fun _ _ _ h => h) (Or.inl ⟨by rfl, ?hy⟩) hHeld ?_
                case hy => (intro V hV; obtain ⟨hV1, hV2, hV3⟩ := hV; go_simp <;> first | done | rfl | (try simp_all; done) | omega)
                simp only [Act.put, List.getElem_toArray, List.getElem_cons_succ, List.getElem_cons_zero, List.setIfInBounds_toArray, List.set_cons_succ, List.set_cons_zero]
                refine wpAnyH_take (i := 3) (v := (.slice ea EL ec)) rfl (by kernel_rfl) (by kernel_rfl) (by kernel_rfl) (fun _ _ _ h => h) (Or.inl ⟨by rfl, ?hy⟩) hHeld ?_
                case hy => (intro V hV; obtain ⟨hV1, hV2, hV3⟩ := hV; go_simp <;> first | done | rfl | (try simp_all; done) | omega)
                simp only [Act.put, List.getElem_toArray, List.getElem_cons_succ, List.getElem_cons_zero, List.setIfInBounds_toArray, List.set_cons_succ, List.set_cons_zero]
                refine wpAnyH_take (i := 4) (v := (.pointer (some ⟨C, 0, none⟩))) rfl (by kernel_rfl) (by kernel_rfl) (by kernel_rfl) (fun _ _ _ h => h) (Or.inl ⟨by rfl, ?hy⟩) hHeld ?_
                case hy => (intro V hV; obtain ⟨hV1, hV2, hV3⟩ := hV; go_simp <;> first | done | rfl | (try simp_all; done) | omega)
                simp only [Act.put, List.getElem_toArray, List.getElem_cons_succ, List.getElem_cons_zero, List.setIfInBounds_toArray, List.set_cons_succ, List.set_cons_zero]
                refine wpAnyH_take (i := 5) (v := (.pointer (some ⟨C, 0, none⟩))) rfl (by kernel_rfl) (by kernel_rfl) (by kernel_rfl) (fun _ _ _ h => h) (Or.inl ⟨by rfl, ?hy⟩) hHeld ?_
                case hy => (intro V hV; obtain ⟨hV1, hV2, hV3⟩ := hV; go_simp <;> first | done | rfl | (try simp_all; done) | omega)
                simp only [Act.put, List.getElem_toArray, List.getElem_cons_succ, List.getElem_cons_zero, List.setIfInBounds_toArray, List.set_cons_succ, List.set_cons_zero]
                refine wpAnyH_take (i := 6) (v := (.pointer (some ⟨C, 3, none⟩))) rfl (by kernel_rfl) (by kernel_rfl) (by kernel_rfl) (fun _ _ _ h => h) (Or.inl ⟨by rfl, ?hy⟩) hHeld ?_
                case hy => (intro V hV; obtain ⟨hV1, hV2, hV3⟩ := hV; go_simp <;> first | done | rfl | (try simp_all; done) | omega)
                simp only [Act.put, List.getElem_toArray, List.getElem_cons_succ, List.getElem_cons_zero, List.setIfInBounds_toArray, List.set_cons_succ, List.set_cons_zero]
                refine wpAnyH_take (i := 7) (v := (.slice fa EL fc)) rfl (by kernel_rfl) (by kernel_rfl) (by kernel_rfl) (fun _ _ _ h => h) (Or.inl ⟨by rfl, ?hy⟩) hHeld ?_
                case hy => (intro V hV; obtain ⟨hV1, hV2, hV3⟩ := hV; go_simp <;> first | done | rfl | (try simp_all; done) | omega)
                simp only [Act.put, List.getElem_toArray, List.getElem_cons_succ, List.getElem_cons_zero, List.setIfInBounds_toArray, List.set_cons_succ, List.set_cons_zero]
                refine wpAnyH_ready (rs := [8]) (by kernel_rfl) (by simp) ?_
                refine AllReadyH.cons (by rfl) ?_ AllReadyH.nil
                intro K hK
                refine step_callw (by rfl) 19 #[.slice ea EL ec, .slice fa EL fc] (by go_simp) ?_
                refine (HE.out _ (Below.refl _ _).drew).mono ?_
                rintro e w2 ⟨rfl, s2, b2⟩
                refine ⟨_, rfl, ?_⟩
                refine hK.out _ _ s2 (fun hHeld => ?_)
                clear hK K
                simp only [Act.put, List.getElem_toArray, List.getElem_cons_succ, List.getElem_cons_zero, List.setIfInBounds_toArray, List.set_cons_succ, List.set_cons_zero]
                refine wpAnyH_take (i := 9) (v := (.bool true)) rfl (by kernel_rfl) (by kernel_rfl) (by kernel_rfl) (fun _ _ _ h => h) (Or.inl ⟨by rfl, ?hy⟩) hHeld ?_
                case hy => (intro V hV; obtain ⟨hV1, hV2, hV3⟩ := hV; go_simp <;> first | done | rfl | (try simp_all; done) | omega)
                simp only [Act.put, List.getElem_toArray, List.getElem_cons_succ, List.getElem_cons_zero, List.setIfInBounds_toArray, List.set_cons_succ, List.set_cons_zero]
                refine wpAnyH_take (i := 10) (v := (.pointer (some ⟨B, 0, none⟩))) rfl (by kernel_rfl) (by kernel_rfl) (by kernel_rfl) (fun _ _ _ h => h) (Or.inl ⟨by rfl, ?hy⟩) hHeld ?_
                case hy => (intro V hV; obtain ⟨hV1, hV2, hV3⟩ := hV; go_simp <;> first | done | rfl | (try simp_all; done) | omega)
                simp only [Act.put, List.getElem_toArray, List.getElem_cons_succ, List.getElem_cons_zero, List.setIfInBounds_toArray, List.set_cons_succ, List.set_cons_zero]
                refine wpAnyH_take (i := 11) (v := (.pointer (some ⟨B, 0, none⟩))) rfl (by kernel_rfl) (by kernel_rfl) (by kernel_rfl) (fun _ _ _ h => h) (Or.inl ⟨by rfl, ?hy⟩) hHeld ?_
                case hy => (intro V hV; obtain ⟨hV1, hV2, hV3⟩ := hV; go_simp <;> first | done | rfl | (try simp_all; done) | omega)
                simp only [Act.put, List.getElem_toArray, List.getElem_cons_succ, List.getElem_cons_zero, List.setIfInBounds_toArray, List.set_cons_succ, List.set_cons_zero]
                refine wpAnyH_take (i := 12) (v := (.pointer (some ⟨B, 0, none⟩))) rfl (by kernel_rfl) (by kernel_rfl) (by kernel_rfl) (fun _ _ _ h => h) (Or.inl ⟨by rfl, ?hy⟩) hHeld ?_
                case hy => (intro V hV; obtain ⟨hV1, hV2, hV3⟩ := hV; go_simp <;> first | done | rfl | (try simp_all; done) | omega)
                simp only [Act.put, List.getElem_toArray, List.getElem_cons_succ, List.getElem_cons_zero, List.setIfInBounds_toArray, List.set_cons_succ, List.set_cons_zero]
                refine wpAnyH_take (i := 13) (v := (.pointer (some ⟨R, 0, none⟩))) rfl (by kernel_rfl) (by kernel_rfl) (by kernel_rfl) (fun _ _ _ h => h) (Or.inl ⟨by rfl, ?hy⟩) hHeld ?_
                case hy => (intro V hV; obtain ⟨hV1, hV2, hV3⟩ := hV; go_simp <;> first | done | rfl | (try simp_all; done) | omega)
                simp only [Act.put, List.getElem_toArray, List.getElem_cons_succ, List.getElem_cons_zero, List.setIfInBounds_toArray, List.set_cons_succ, List.set_cons_zero]
                refine wpAnyH_take (i := 15) (v := (.pointer (some ⟨C, 0, none⟩))) rfl (by kernel_rfl) (by kernel_rfl) (by kernel_rfl) (fun _ _ _ h => h) (Or.inl ⟨by rfl, ?hy⟩) hHeld ?_
                case hy => (intro V hV; obtain ⟨hV1, hV2, hV3⟩ := hV; go_simp <;> first | done | rfl | (try simp_all; done) | omega)
                simp only [Act.put, List.getElem_toArray, List.getElem_cons_succ, List.getElem_cons_zero, List.setIfInBounds_toArray, List.set_cons_succ, List.set_cons_zero]
                refine wpAnyH_ready (rs := [14]) (by kernel_rfl) (by simp) ?_
                refine AllReadyH.cons (by rfl) ?_ AllReadyH.nil
                intro K hK
                refine step_callw (by rfl) 20 #[.pointer (some ⟨R, 0, none⟩)] (by go_simp) ?_
                refine (HP1.out _ b2.out).mono ?_
                rintro e w3 ⟨p3, k3, rfl, s3, l3, b3⟩
                refine ⟨_, rfl, ?_⟩
                refine hK.out _ _ s3 (fun hHeld => ?_)
                clear hK K
                simp only [Act.put, List.getElem_toArray, List.getElem_cons_succ, List.getElem_cons_zero, List.setIfInBounds_toArray, List.set_cons_succ, List.set_cons_zero]
                refine wpAnyH_ready (rs := [16]) (by kernel_rfl) (by simp) ?_
                refine AllReadyH.cons (by rfl) ?_ AllReadyH.nil
                intro K hK
                refine step_callw (by rfl) 21 #[.pointer (some ⟨C, 0, none⟩)] (by go_simp) ?_
                refine (HP2.out _ b3.out).mono ?_
                rintro e w4 ⟨p4, k4, rfl, s4, l4, b34, b4⟩
                refine ⟨_, rfl, ?_⟩
                refine hK.out _ _ s4 (fun hHeld => ?_)
                clear hK K
                simp only [Act.put, List.getElem_toArray, List.getElem_cons_succ, List.getElem_cons_zero, List.setIfInBounds_toArray, List.set_cons_succ, List.set_cons_zero]
                refine wpAnyH_ready (rs := [17]) (by kernel_rfl) (by simp) ?_
                refine AllReadyH.cons (by rfl) ?_ AllReadyH.nil
                intro K hK
                refine step_callw (by rfl) 13 #[.slice p3 KL k3, .slice p4 KL k4] (by go_simp) ?_
                refine (HSM.out _ _ _ _ _ b4.out (l3.out.keep b34.out) l4.out).mono ?_
                rintro e w5 ⟨rfl, s5, b5⟩
                refine ⟨_, rfl, ?_⟩
                refine hK.out _ _ s5 (fun hHeld => ?_)
                clear hK K
                simp only [Act.put, List.getElem_toArray, List.getElem_cons_succ, List.getElem_cons_zero, List.setIfInBounds_toArray, List.set_cons_succ, List.set_cons_zero]
                refine wpAnyH_take (i := 18) (v := (.bool true)) rfl (by kernel_rfl) (by kernel_rfl) (by kernel_rfl) (fun _ _ _ h => h) (Or.inl ⟨by rfl, ?hy⟩) hHeld ?_
                case hy => (intro V hV; obtain ⟨hV1, hV2, hV3⟩ := hV; go_simp <;> first | done | rfl | (try simp_all; done) | omega)
                simp only [Act.put, List.getElem_toArray, List.getElem_cons_succ, List.getElem_cons_zero, List.setIfInBounds_toArray, List.set_cons_succ, List.set_cons_zero]
                refine wpAnyH_take (i := 19) (v := (.bool true)) rfl (by kernel_rfl) (by kernel_rfl) (by kernel_rfl) (fun _ _ _ h => h) (Or.inl ⟨by rfl, ?hy⟩) hHeld ?_
                case hy => (intro V hV; obtain ⟨hV1, hV2, hV3⟩ := hV; go_simp <;> first | done | rfl | (try simp_all; done) | omega)
                simp only [Act.put, List.getElem_toArray, List.getElem_cons_succ, List.getElem_cons_zero, List.setIfInBounds_toArray, List.set_cons_succ, List.set_cons_zero]
                refine wpAnyH_ready (rs := [20]) (by kernel_rfl) (by simp) ?_
                refine AllReadyH.cons (by rfl) ?_ AllReadyH.nil
                intro K hK
                refine step_callw (by rfl) 7 #[] (by go_simp) ?_
                refine (HAW.out _ b5.out).mono ?_
                rintro e w6 ⟨rfl, s6, b6⟩
                refine ⟨_, rfl, ?_⟩
                refine hK.out _ _ s6 (fun hHeld => ?_)
                clear hK K
                simp only [Act.put, List.getElem_toArray, List.getElem_cons_succ, List.getElem_cons_zero, List.setIfInBounds_toArray, List.set_cons_succ, List.set_cons_zero]
                refine wpAnyH_take (i := 21) (v := (.bool true)) rfl (by kernel_rfl) (by kernel_rfl) (by kernel_rfl) (fun _ _ _ h => h) (Or.inl ⟨by rfl, ?hy⟩) hHeld ?_
                case hy => (intro V hV; obtain ⟨hV1, hV2, hV3⟩ := hV; go_simp <;> first | done | rfl | (try simp_all; done) | omega)
                simp only [Act.put, List.getElem_toArray, List.getElem_cons_succ, List.getElem_cons_zero, List.setIfInBounds_toArray, List.set_cons_succ, List.set_cons_zero]
                refine wpAnyH_take (i := 22) (v := (.bool true)) rfl (by kernel_rfl) (by kernel_rfl) (by kernel_rfl) (fun _ _ _ h => h) (Or.inl ⟨by rfl, ?hy⟩) hHeld ?_
                case hy => (intro V hV; obtain ⟨hV1, hV2, hV3⟩ := hV; go_simp <;> first | done | rfl | (try simp_all; done) | omega)
                simp only [Act.put, List.getElem_toArray, List.getElem_cons_succ, List.getElem_cons_zero, List.setIfInBounds_toArray, List.set_cons_succ, List.set_cons_zero]
                refine wpAnyH_done (by kernel_rfl) ?_ _
                try simp only [Act.put, List.getElem_toArray, List.getElem_cons_succ, List.getElem_cons_zero, List.setIfInBounds_toArray, List.set_cons_succ, List.set_cons_zero]
                go_wp2_with fail
                go_ret
                exact ⟨rfl, bW.out _ b6.out⟩
          · obtain ⟨wk, hwk⟩ : ∃ wk : World, wk = wr := ⟨_, rfl⟩
            subst hwk
            go_wp2_with fail
            have hbo := HX.out
            obtain ⟨tp, tc, c2, htl, hall⟩ := hbo.tasks (by omega)
            have HAll := hide hall
            have m1 := hbo.cB0
            have bT := hide hbo.bel
            obtain ⟨N, hN⟩ : ∃ N, Hid (N = σ.tk.length) := ⟨_, hide rfl⟩
            rw [← hN.out] at c2 htl
            clear hbo hall
            go_loopw [9] (fun jv wr => ∃ j q : Nat, j ≤ N ∧ jv = .int .i64 j ∧ wr = wk.drewN q) (fun jv _ => N - (intOf jv).toNat)
            case atStart => exact ⟨0, 0, Nat.zero_le _, rfl, rfl⟩
            case round =>
              obtain ⟨j, q, hj, rfl, hwr⟩ := hrel
              have bq : Below wk.heap.size wk wr := by rw [hwr]; exact below_drewN (Below.refl _ wk) q
              have HR := hide hwr
              clear hwr
              have c2r := (bq.cell (cell_lt c2)).trans c2
              have m1r := (bq.cell (cell_lt m1)).trans m1
              by_cases hjl : j < N
              · obtain ⟨p, hp⟩ : ∃ p, σ.tk[j]? = some p := ⟨_, List.getElem?_eq_getElem (by rw [← hN.out]; exact hjl)⟩
                obtain ⟨gt, b, rfl, cb, HId, HOv, HRo, HRt⟩ := HAll.out j p hp
                have cbr := (bq.cell (cell_lt cb)).trans cb
                obtain ⟨ov, hov⟩ : ∃ ov : Bool, Hid (ov = decide (p.st = 0)) := ⟨_, hide rfl⟩
                rw [← hov.out] at HOv HRo
                have CI : Hid (∀ V, Below wr.heap.size wr V → _) := hide (fun V hV => HId.out V (bq.trans (hV.mono bq.size)))
                have CO : Hid (∀ V, Below wr.heap.size wr V → _) := hide (fun V hV => HOv.out V (bq.trans (hV.mono bq.size)))
                have CP : Hid (∀ V, Below wr.heap.size wr V → _) := hide (fun V hV => HRo.out V (bq.trans (hV.mono bq.size)))
                have CT : Hid (∀ V, Below wr.heap.size wr V → _) := hide (fun V hV => HRt.out V (bq.trans (hV.mono bq.size)))
                have hji : (j : Int) < (N : Int) := by omega
                have hN9 : (N : Int) ≤ 9223372036854775807 := by omega
                clear HId HOv HRo HRt HAll hp HX c2 m1 cb
                have qn := fun V => neq_same (w := V) R
                have hb2 : ov = true ∨ ov = false := by cases ov <;> simp
                rcases hb2 with rfl | rfl
                · go_wp2_with fail
                  go_quiet (first | (go_at_call 15; exact Calls.quiet_of_same (CI.out _ (by first | exact Below.refl _ _ | exact (Below.refl _ _).drew | exact below_drewN (Below.refl _ _) _))) | (go_at_call 16; exact Calls.quiet_of_same (CO.out _ (by first | exact Below.refl _ _ | exact (Below.refl _ _).drew | exact below_drewN (Below.refl _ _) _))) | (go_at_call 17; exact Calls.quiet_of_same (CP.out _ (by first | exact Below.refl _ _ | exact (Below.refl _ _).drew | exact below_drewN (Below.refl _ _) _))) | (go_at_call 18; exact Calls.quiet_of_same (CT.out _ (by first | exact Below.refl _ _ | exact (Below.refl _ _).drew | exact below_drewN (Below.refl _ _) _))))
                  go_wp2_with fail
                  go_roundw
                  case rel => exact ⟨j + 1, q + nq, by omega, by go_num, by rw [HR.out, World.drewN_drewN]⟩
                  case measure => simp [intOf]; omega
                · go_wp2_with fail
                  go_quiet (first | (go_at_call 15; exact Calls.quiet_of_same (CI.out _ (by first | exact Below.refl _ _ | exact (Below.refl _ _).drew | exact below_drewN (Below.refl _ _) _))) | (go_at_call 16; exact Calls.quiet_of_same (CO.out _ (by first | exact Below.refl _ _ | exact (Below.refl _ _).drew | exact below_drewN (Below.refl _ _) _))) | (go_at_call 17; exact Calls.quiet_of_same (CP.out _ (by first | exact Below.refl _ _ | exact (Below.refl _ _).drew | exact below_drewN (Below.refl _ _) _))) | (go_at_call 18; exact Calls.quiet_of_same (CT.out _ (by first | exact Below.refl _ _ | exact (Below.refl _ _).drew | exact below_drewN (Below.refl _ _) _))))
                  go_wp2_with fail
                  go_roundw
                  case rel => exact ⟨j + 1, q + nq, by omega, by go_num, by rw [HR.out, World.drewN_drewN]⟩
                  case measure => simp [intOf]; omega
              · obtain rfl : j = N := by omega
                have hbo := HX.out.below bq
                obtain ⟨ea, ec, e1, ev1⟩ := hbo.evs
                obtain ⟨fa, fc, e2, ev2⟩ := hbo.revs
                have e0 := hbo.cB0
                obtain ⟨EL, hEL⟩ : ∃ EL, Hid (EL = σ.ev.length) := ⟨_, hide rfl⟩
                rw [← hEL.out] at e1 e2 ev1 ev2
                obtain ⟨KL, hKL⟩ : ∃ KL, Hid (KL = σ.pkd.length) := ⟨_, hide rfl⟩
                have HK : Hid (∀ V, Below wr.heap.size wr V → (V.cell? ⟨B, 0, none⟩ = some (.pointer (some ⟨R, 0, none⟩)) ∧ V.cell? ⟨B, 3, none⟩ = some (.slice ea EL ec) ∧ V.cell? ⟨C, 3, none⟩ = some (.slice fa EL fc))) := hide (fun V hV => ⟨(hV.cell (cell_lt e0)).trans e0, (hV.cell (cell_lt e1)).trans e1, (hV.cell (cell_lt e2)).trans e2⟩)
                have HE : Hid (∀ V, Below wr.heap.size wr V → Calls Try.prog 19 #[.slice ea EL ec, .slice fa EL fc] V fun e w' => e = .returned (.bool true) ∧ (w'.cell? ⟨B, 0, none⟩ = some (.pointer (some ⟨R, 0, none⟩)) ∧ w'.cell? ⟨B, 3, none⟩ = some (.slice ea EL ec) ∧ w'.cell? ⟨C, 3, none⟩ = some (.slice fa EL fc)) ∧ Hid (Below wr.heap.size wr w')) := hide (fun V hV => by
                  refine (sameEvents_yes ea fa EL ec fc σ.ev V (ev1.keep hV) (ev2.keep hV)).mono ?_
                  rintro e w' ⟨rfl, q, hq⟩
                  have hb : Below wr.heap.size wr w' := by rw [hq]; exact below_drewN hV _
                  exact ⟨rfl, HK.out _ hb, hide hb⟩)
                have HP1 : Hid (∀ V, Below wr.heap.size wr V → Calls Try.prog 20 #[.pointer (some ⟨R, 0, none⟩)] V fun e w' => ∃ p cap, e = .returned (.slice p KL cap) ∧ (w'.cell? ⟨B, 0, none⟩ = some (.pointer (some ⟨R, 0, none⟩)) ∧ w'.cell? ⟨B, 3, none⟩ = some (.slice ea EL ec) ∧ w'.cell? ⟨C, 3, none⟩ = some (.slice fa EL fc)) ∧ Hid (Ls w' p KL cap σ.pkd) ∧ Hid (Below wr.heap.size wr w')) := hide (fun V hV => by
                  refine (hbo.below hV).parked.mono ?_
                  rintro e w' ⟨p, cap, rfl, o, b⟩
                  rw [← hKL.out] at o ⊢
                  have hb := hV.trans (b.mono hV.size)
                  exact ⟨p, cap, rfl, HK.out _ hb, hide (own_ls o), hide hb⟩)
                have HP2 : Hid (∀ V, Below wr.heap.size wr V → Calls Try.prog 21 #[.pointer (some ⟨C, 0, none⟩)] V fun e w' => ∃ p cap, e = .returned (.slice p KL cap) ∧ (w'.cell? ⟨B, 0, none⟩ = some (.pointer (some ⟨R, 0, none⟩)) ∧ w'.cell? ⟨B, 3, none⟩ = some (.slice ea EL ec) ∧ w'.cell? ⟨C, 3, none⟩ = some (.slice fa EL fc)) ∧ Hid (Ls w' p KL cap σ.pkd) ∧ Hid (Below V.heap.size V w') ∧ Hid (Below wr.heap.size wr w')) := hide (fun V hV => by
                  refine ((hbo.below hV).rparked (by rw [← hN.out]; omega)).mono ?_
                  rintro e w' ⟨p, cap, rfl, o, b⟩
                  rw [← hKL.out] at o ⊢
                  have hb := hV.trans (b.mono hV.size)
                  exact ⟨p, cap, rfl, HK.out _ hb, hide (own_ls o), hide b, hide hb⟩)
                have HSM : Hid (∀ p q c d V, Below wr.heap.size wr V → Ls V p KL c σ.pkd → Ls V q KL d σ.pkd → Calls Try.prog 13 #[.slice p KL c, .slice q KL d] V fun e w' => e = .returned (.bool true) ∧ (w'.cell? ⟨B, 0, none⟩ = some (.pointer (some ⟨R, 0, none⟩)) ∧ w'.cell? ⟨B, 3, none⟩ = some (.slice ea EL ec) ∧ w'.cell? ⟨C, 3, none⟩ = some (.slice fa EL fc)) ∧ Hid (Below wr.heap.size wr w')) := hide (fun p q c d V hV h1 h2 => by
                  refine (same_yes p q KL c d σ.pkd V h1 h2).mono ?_
                  rintro e w' ⟨rfl, n, hn⟩
                  have hb : Below wr.heap.size wr w' := by rw [hn]; exact below_drewN hV _
                  exact ⟨rfl, HK.out _ hb, hide hb⟩)
                have HAW : Hid (∀ V, Below wr.heap.size wr V → Calls Try.prog 7 #[] V fun e w' => e = .returned (.bool true) ∧ (w'.cell? ⟨B, 0, none⟩ = some (.pointer (some ⟨R, 0, none⟩)) ∧ w'.cell? ⟨B, 3, none⟩ = some (.slice ea EL ec) ∧ w'.cell? ⟨C, 3, none⟩ = some (.slice fa EL fc)) ∧ Hid (Below wr.heap.size wr w')) := hide (fun V hV => by
                  refine (HA.out V).mono ?_
                  rintro e w' ⟨rfl, b⟩
                  have hb := hV.trans (b.mono hV.size)
                  exact ⟨rfl, HK.out _ hb, hide hb⟩)
                have bW : Hid (∀ V, Below wr.heap.size wr V → Below W.heap.size W V) := hide (fun V hV => bT.out.trans ((bq.trans (hV.mono bq.size)).mono bT.out.size))
                clear hbo ev1 ev2 HX HAll hEL
                go_wp2_with fail
                refine wp_region_held_drew (S := (fun V => V.cell? ⟨B, 0, none⟩ = some (.pointer (some ⟨R, 0, none⟩)) ∧ V.cell? ⟨B, 3, none⟩ = some (.slice ea EL ec) ∧ V.cell? ⟨C, 3, none⟩ = some (.slice fa EL fc))) (by kernel_rfl) ⟨e0, e1, e2⟩ (fun hHeld => ?_)
                try simp only [List.size_toArray, List.length_cons, List.length_nil, Nat.reduceAdd]
                refine wpAnyH_take (i := 0) (v := (.pointer (some ⟨B, 0, none⟩))) rfl (by kernel_rfl) (by kernel_rfl) (by kernel_rfl) (fun _ _ _ h => h) (Or.inl ⟨by rfl, ?hy⟩) hHeld ?_
                case hy => (intro V hV; obtain ⟨hV1, hV2, hV3⟩ := hV; go_simp <;> first | done | rfl | (try simp_all; done) | omega)
                simp only [Act.put, List.getElem_toArray, List.getElem_cons_succ, List.getElem_cons_zero, List.setIfInBounds_toArray, List.set_cons_succ, List.set_cons_zero]
                refine wpAnyH_take (i := 1) (v := (.pointer (some ⟨B, 0, none⟩))) rfl (by kernel_rfl) (by kernel_rfl) (by kernel_rfl) (fun _ _ _ h => h) (Or.inl ⟨by rfl, ?hy⟩) hHeld ?_
                case hy => (intro V hV; obtain ⟨hV1, hV2, hV3⟩ := hV; go_simp <;> first | done | rfl | (try simp_all; done) | omega)
                simp only [Act.put, List.getElem_toArray, List.getElem_cons_succ, List.getElem_cons_zero, List.setIfInBounds_toArray, List.set_cons_succ, List.set_cons_zero]
                refine wpAnyH_take (i := 2) (v := (.pointer (some ⟨B, 3, none⟩))) rfl (by kernel_rfl) (by kernel_rfl) (by kernel_rfl) (fun _ _ _ h => h) (Or.inl ⟨by rfl, ?hy⟩) hHeld ?_
                case hy => (intro V hV; obtain ⟨hV1, hV2, hV3⟩ := hV; go_simp <;> first | done | rfl | (try simp_all; done) | omega)
                simp only [Act.put, List.getElem_toArray, List.getElem_cons_succ, List.getElem_cons_zero, List.setIfInBounds_toArray, List.set_cons_succ, List.set_cons_zero]
                refine wpAnyH_take (i := 3) (v := (.slice ea EL ec)) rfl (by kernel_rfl) (by kernel_rfl) (by kernel_rfl) (fun _ _ _ h => h) (Or.inl ⟨by rfl, ?hy⟩) hHeld ?_
                case hy => (intro V hV; obtain ⟨hV1, hV2, hV3⟩ := hV; go_simp <;> first | done | rfl | (try simp_all; done) | omega)
                simp only [Act.put, List.getElem_toArray, List.getElem_cons_succ, List.getElem_cons_zero, List.setIfInBounds_toArray, List.set_cons_succ, List.set_cons_zero]
                refine wpAnyH_take (i := 4) (v := (.pointer (some ⟨C, 0, none⟩))) rfl (by kernel_rfl) (by kernel_rfl) (by kernel_rfl) (fun _ _ _ h => h) (Or.inl ⟨by rfl, ?hy⟩) hHeld ?_
                case hy => (intro V hV; obtain ⟨hV1, hV2, hV3⟩ := hV; go_simp <;> first | done | rfl | (try simp_all; done) | omega)
                simp only [Act.put, List.getElem_toArray, List.getElem_cons_succ, List.getElem_cons_zero, List.setIfInBounds_toArray, List.set_cons_succ, List.set_cons_zero]
                refine wpAnyH_take (i := 5) (v := (.pointer (some ⟨C, 0, none⟩))) rfl (by kernel_rfl) (by kernel_rfl) (by kernel_rfl) (fun _ _ _ h => h) (Or.inl ⟨by rfl, ?hy⟩) hHeld ?_
                case hy => (intro V hV; obtain ⟨hV1, hV2, hV3⟩ := hV; go_simp <;> first | done | rfl | (try simp_all; done) | omega)
                simp only [Act.put, List.getElem_toArray, List.getElem_cons_succ, List.getElem_cons_zero, List.setIfInBounds_toArray, List.set_cons_succ, List.set_cons_zero]
                refine wpAnyH_take (i := 6) (v := (.pointer (some ⟨C, 3, none⟩))) rfl (by kernel_rfl) (by kernel_rfl) (by kernel_rfl) (fun _ _ _ h => h) (Or.inl ⟨by rfl, ?hy⟩) hHeld ?_
                case hy => (intro V hV; obtain ⟨hV1, hV2, hV3⟩ := hV; go_simp <;> first | done | rfl | (try simp_all; done) | omega)
                simp only [Act.put, List.getElem_toArray, List.getElem_cons_succ, List.getElem_cons_zero, List.setIfInBounds_toArray, List.set_cons_succ, List.set_cons_zero]
                refine wpAnyH_take (i := 7) (v := (.slice fa EL fc)) rfl (by kernel_rfl) (by kernel_rfl) (by kernel_rfl) (fun _ _ _ h => h) (Or.inl ⟨by rfl, ?hy⟩) hHeld ?_
                case hy => (intro V hV; obtain ⟨hV1, hV2, hV3⟩ := hV; go_simp <;> first | done | rfl | (try simp_all; done) | omega)
                simp only [Act.put, List.getElem_toArray, List.getElem_cons_succ, List.getElem_cons_zero, List.setIfInBounds_toArray, List.set_cons_succ, List.set_cons_zero]
                refine wpAnyH_ready (rs := [8]) (by kernel_rfl) (by simp) ?_
                refine AllReadyH.cons (by rfl) ?_ AllReadyH.nil
                intro K hK
                refine step_callw (by rfl) 19 #[.slice ea EL ec, .slice fa EL fc] (by go_simp) ?_
                refine (HE.out _ (Below.refl _ _).drew).mono ?_
                rintro e w2 ⟨rfl, s2, b2⟩
                refine ⟨_, rfl, ?_⟩
                refine hK.out _ _ s2 (fun hHeld => ?_)
                clear hK K
                simp only [Act.put, List.getElem_toArray, List.getElem_cons_succ, List.getElem_cons_zero, List.setIfInBounds_toArray, List.set_cons_succ, List.set_cons_zero]
                refine wpAnyH_take (i := 9) (v := (.bool true)) rfl (by kernel_rfl) (by kernel_rfl) (by kernel_rfl) (fun _ _ _ h => h) (Or.inl ⟨by rfl, ?hy⟩) hHeld ?_
                case hy => (intro V hV; obtain ⟨hV1, hV2, hV3⟩ := hV; go_simp <;> first | done | rfl | (try simp_all; done) | omega)
                simp only [Act.put, List.getElem_toArray, List.getElem_cons_succ, List.getElem_cons_zero, List.setIfInBounds_toArray, List.set_cons_succ, List.set_cons_zero]
                refine wpAnyH_take (i := 10) (v := (.pointer (some ⟨B, 0, none⟩))) rfl (by kernel_rfl) (by kernel_rfl) (by kernel_rfl) (fun _ _ _ h => h) (Or.inl ⟨by rfl, ?hy⟩) hHeld ?_
                case hy => (intro V hV; obtain ⟨hV1, hV2, hV3⟩ := hV; go_simp <;> first | done | rfl | (try simp_all; done) | omega)
                simp only [Act.put, List.getElem_toArray, List.getElem_cons_succ, List.getElem_cons_zero, List.setIfInBounds_toArray, List.set_cons_succ, List.set_cons_zero]
                refine wpAnyH_take (i := 11) (v := (.pointer (some ⟨B, 0, none⟩))) rfl (by kernel_rfl) (by kernel_rfl) (by kernel_rfl) (fun _ _ _ h => h) (Or.inl ⟨by rfl, ?hy⟩) hHeld ?_
                case hy => (intro V hV; obtain ⟨hV1, hV2, hV3⟩ := hV; go_simp <;> first | done | rfl | (try simp_all; done) | omega)
                simp only [Act.put, List.getElem_toArray, List.getElem_cons_succ, List.getElem_cons_zero, List.setIfInBounds_toArray, List.set_cons_succ, List.set_cons_zero]
                refine wpAnyH_take (i := 12) (v := (.pointer (some ⟨B, 0, none⟩))) rfl (by kernel_rfl) (by kernel_rfl) (by kernel_rfl) (fun _ _ _ h => h) (Or.inl ⟨by rfl, ?hy⟩) hHeld ?_
                case hy => (intro V hV; obtain ⟨hV1, hV2, hV3⟩ := hV; go_simp <;> first | done | rfl | (try simp_all; done) | omega)
                simp only [Act.put, List.getElem_toArray, List.getElem_cons_succ, List.getElem_cons_zero, List.setIfInBounds_toArray, List.set_cons_succ, List.set_cons_zero]
                refine wpAnyH_take (i := 13) (v := (.pointer (some ⟨R, 0, none⟩))) rfl (by kernel_rfl) (by kernel_rfl) (by kernel_rfl) (fun _ _ _ h => h) (Or.inl ⟨by rfl, ?hy⟩) hHeld ?_
                case hy => (intro V hV; obtain ⟨hV1, hV2, hV3⟩ := hV; go_simp <;> first | done | rfl | (try simp_all; done) | omega)
                simp only [Act.put, List.getElem_toArray, List.getElem_cons_succ, List.getElem_cons_zero, List.setIfInBounds_toArray, List.set_cons_succ, List.set_cons_zero]
                refine wpAnyH_take (i := 15) (v := (.pointer (some ⟨C, 0, none⟩))) rfl (by kernel_rfl) (by kernel_rfl) (by kernel_rfl) (fun _ _ _ h => h) (Or.inl ⟨by rfl, ?hy⟩) hHeld ?_
                case hy => (intro V hV; obtain ⟨hV1, hV2, hV3⟩ := hV; go_simp <;> first | done | rfl | (try simp_all; done) | omega)
                simp only [Act.put, List.getElem_toArray, List.getElem_cons_succ, List.getElem_cons_zero, List.setIfInBounds_toArray, List.set_cons_succ, List.set_cons_zero]
                refine wpAnyH_ready (rs := [14]) (by kernel_rfl) (by simp) ?_
                refine AllReadyH.cons (by rfl) ?_ AllReadyH.nil
                intro K hK
                refine step_callw (by rfl) 20 #[.pointer (some ⟨R, 0, none⟩)] (by go_simp) ?_
                refine (HP1.out _ b2.out).mono ?_
                rintro e w3 ⟨p3, k3, rfl, s3, l3, b3⟩
                refine ⟨_, rfl, ?_⟩
                refine hK.out _ _ s3 (fun hHeld => ?_)
                clear hK K
                simp only [Act.put, List.getElem_toArray, List.getElem_cons_succ, List.getElem_cons_zero, List.setIfInBounds_toArray, List.set_cons_succ, List.set_cons_zero]
                refine wpAnyH_ready (rs := [16]) (by kernel_rfl) (by simp) ?_
                refine AllReadyH.cons (by rfl) ?_ AllReadyH.nil
                intro K hK
                refine step_callw (by rfl) 21 #[.pointer (some ⟨C, 0, none⟩)] (by go_simp) ?_
                refine (HP2.out _ b3.out).mono ?_
                rintro e w4 ⟨p4, k4, rfl, s4, l4, b34, b4⟩
                refine ⟨_, rfl, ?_⟩
                refine hK.out _ _ s4 (fun hHeld => ?_)
                clear hK K
                simp only [Act.put, List.getElem_toArray, List.getElem_cons_succ, List.getElem_cons_zero, List.setIfInBounds_toArray, List.set_cons_succ, List.set_cons_zero]
                refine wpAnyH_ready (rs := [17]) (by kernel_rfl) (by simp) ?_
                refine AllReadyH.cons (by rfl) ?_ AllReadyH.nil
                intro K hK
                refine step_callw (by rfl) 13 #[.slice p3 KL k3, .slice p4 KL k4] (by go_simp) ?_
                refine (HSM.out _ _ _ _ _ b4.out (l3.out.keep b34.out) l4.out).mono ?_
                rintro e w5 ⟨rfl, s5, b5⟩
                refine ⟨_, rfl, ?_⟩
                refine hK.out _ _ s5 (fun hHeld => ?_)
                clear hK K
                simp only [Act.put, List.getElem_toArray, List.getElem_cons_succ, List.getElem_cons_zero, List.setIfInBounds_toArray, List.set_cons_succ, List.set_cons_zero]
                refine wpAnyH_take (i := 18) (v := (.bool true)) rfl (by kernel_rfl) (by kernel_rfl) (by kernel_rfl) (fun _ _ _ h => h) (Or.inl ⟨by rfl, ?hy⟩) hHeld ?_
                case hy => (intro V hV; obtain ⟨hV1, hV2, hV3⟩ := hV; go_simp <;> first | done | rfl | (try simp_all; done) | omega)
                simp only [Act.put, List.getElem_toArray, List.getElem_cons_succ, List.getElem_cons_zero, List.setIfInBounds_toArray, List.set_cons_succ, List.set_cons_zero]
                refine wpAnyH_take (i := 19) (v := (.bool true)) rfl (by kernel_rfl) (by kernel_rfl) (by kernel_rfl) (fun _ _ _ h => h) (Or.inl ⟨by rfl, ?hy⟩) hHeld ?_
                case hy => (intro V hV; obtain ⟨hV1, hV2, hV3⟩ := hV; go_simp <;> first | done | rfl | (try simp_all; done) | omega)
                simp only [Act.put, List.getElem_toArray, List.getElem_cons_succ, List.getElem_cons_zero, List.setIfInBounds_toArray, List.set_cons_succ, List.set_cons_zero]
                refine wpAnyH_ready (rs := [20]) (by kernel_rfl) (by simp) ?_
                refine AllReadyH.cons (by rfl) ?_ AllReadyH.nil
                intro K hK
                refine step_callw (by rfl) 7 #[] (by go_simp) ?_
                refine (HAW.out _ b5.out).mono ?_
                rintro e w6 ⟨rfl, s6, b6⟩
                refine ⟨_, rfl, ?_⟩
                refine hK.out _ _ s6 (fun hHeld => ?_)
                clear hK K
                simp only [Act.put, List.getElem_toArray, List.getElem_cons_succ, List.getElem_cons_zero, List.setIfInBounds_toArray, List.set_cons_succ, List.set_cons_zero]
                refine wpAnyH_take (i := 21) (v := (.bool true)) rfl (by kernel_rfl) (by kernel_rfl) (by kernel_rfl) (fun _ _ _ h => h) (Or.inl ⟨by rfl, ?hy⟩) hHeld ?_
                case hy => (intro V hV; obtain ⟨hV1, hV2, hV3⟩ := hV; go_simp <;> first | done | rfl | (try simp_all; done) | omega)
                simp only [Act.put, List.getElem_toArray, List.getElem_cons_succ, List.getElem_cons_zero, List.setIfInBounds_toArray, List.set_cons_succ, List.set_cons_zero]
                refine wpAnyH_take (i := 22) (v := (.bool true)) rfl (by kernel_rfl) (by kernel_rfl) (by kernel_rfl) (fun _ _ _ h => h) (Or.inl ⟨by rfl, ?hy⟩) hHeld ?_
                case hy => (intro V hV; obtain ⟨hV1, hV2, hV3⟩ := hV; go_simp <;> first | done | rfl | (try simp_all; done) | omega)
                simp only [Act.put, List.getElem_toArray, List.getElem_cons_succ, List.getElem_cons_zero, List.setIfInBounds_toArray, List.set_cons_succ, List.set_cons_zero]
                refine wpAnyH_done (by kernel_rfl) ?_ _
                try simp only [Act.put, List.getElem_toArray, List.getElem_cons_succ, List.getElem_cons_zero, List.setIfInBounds_toArray, List.set_cons_succ, List.set_cons_zero]
                go_wp2_with fail
                go_ret
                exact ⟨rfl, bW.out _ b6.out⟩

end Go.Proofs.Ytennciddjkijaaa

/-
  CspTurns: the walk.
-/
import Derived.Test.YtnljgkemplebhaaCsm
import Derived.Deep.RegionWith
import Derived.Deep.DeepCutAuto
import Derived.Deep.Cut
import Derived.Deep.CutRange
namespace Go.Proofs.Ytnljgkemplebhaa
open Go.RowKit QI
set_option maxRecDepth 100000
set_option linter.unusedSimpArgs false

/-- The law's world laid: a variable g that has it. -/
def CutA (W : World) (pa : Option Addr) (m pcap : Nat) (ps : List (List Dop)) (s5 : Value) (X : World) : Prop :=
  ∃ g B R F D, s5 = .pointer (some ⟨g, 0, none⟩) ∧ Hid (X.heap[g]? = some (.cells #[.pointer (some ⟨B, 0, none⟩)] (25 : TypeId) (0, 0)) ∧ W.heap.size ≤ g ∧ Wt X W.heap.size B pa m pcap ps (fun k => k < W.heap.size) R [] sg0 0 F D ∧ (∀ k, D k → W.heap.size ≤ k) ∧ ¬ D g ∧ Below W.heap.size W X)

theorem CutA.mk {W X : World} {pa : Option Addr} {m pcap : Nat} {ps : List (List Dop)} {g B : Nat} {a : Ad} (hP : Pgs (fun k => k < W.heap.size) W pa m pcap ps) (hm : 0 < m ∧ m ≤ 1000) (hb : Below W.heap.size W X) (hB : X.heap[B]? = some (.cells #[.pointer (some ⟨a.R, 0, none⟩), .slice pa m pcap, .slice none 0 0, .slice none 0 0] (31 : TypeId) (0, 0))) (hg : X.heap[g]? = some (.cells #[.pointer (some ⟨B, 0, none⟩)] (25 : TypeId) (0, 0))) (rt : Rt X a rs0) (hlo : ∀ k, own a rs0 k ∨ k = a.Q → W.heap.size ≤ k) (hLB : W.heap.size ≤ B) (hLg : W.heap.size ≤ g) : CutA W pa m pcap ps (.pointer (some ⟨g, 0, none⟩)) X := by
  obtain ⟨F, D, wt, h1, h2⟩ := Wt.new (Pb := fun k => k < W.heap.size) hB rt hlo hLB hb.size (hP.tb (S := fun _ => False) (Tb.of_fresh hb) (fun _ _ h => h)) (fun k hk => Nat.lt_of_lt_of_le hk hb.size) (fun k hk => ⟨fun ho => by have := hlo k ho; omega, by omega⟩) hm
  refine ⟨g, B, a.R, F, D, rfl, hide ⟨hg, hLg, wt, h1, fun hd => ?_, hb⟩⟩
  rcases h2 g hd with h3 | h3 | h3
  · have := rt.m.own_ty h3 hg
    revert this
    decide
  · exact ne_type hg rt.m.sd (by decide) h3
  · exact ne_type hg hB (by decide) h3

theorem fresh (w : World) (o : Obj) : Below w.heap.size w (w.alloc o) := (Below.refl _ w).alloc (Nat.le_refl _) o

theorem CutA.o1 {W V w1 : World} {pa : Option Addr} {m pcap : Nat} {ps : List (List Dop)} {a : Ad} (hP : Pgs (fun k => k < W.heap.size) W pa m pcap ps) (hm : 0 < m ∧ m ≤ 1000) (hV : Below W.heap.size W V) (rt : Rt w1 a rs0) (hlo : ∀ k, own a rs0 k ∨ k = a.Q → V.heap.size ≤ k) (hb1 : Below V.heap.size V w1) :
    CutA W pa m pcap ps (.pointer (some ⟨w1.heap.size + 1, 0, none⟩)) ((w1.alloc (.cells #[.pointer (some ⟨a.R, 0, none⟩), .slice pa m pcap, .slice none 0 0, .slice none 0 0] (31 : TypeId))).alloc (.cells #[.pointer (some ⟨w1.heap.size, 0, none⟩)] (25 : TypeId))) := by
  have z1 := hV.size
  have z2 := hb1.size
  have b1 := fresh w1 (.cells #[.pointer (some ⟨a.R, 0, none⟩), .slice pa m pcap, .slice none 0 0, .slice none 0 0] (31 : TypeId))
  have e1 := heap_alloc_new w1 (.cells #[.pointer (some ⟨a.R, 0, none⟩), .slice pa m pcap, .slice none 0 0, .slice none 0 0] (31 : TypeId))
  have s1 : (w1.alloc (.cells #[.pointer (some ⟨a.R, 0, none⟩), .slice pa m pcap, .slice none 0 0, .slice none 0 0] (31 : TypeId))).heap.size = w1.heap.size + 1 := by simp
  generalize w1.alloc (.cells #[.pointer (some ⟨a.R, 0, none⟩), .slice pa m pcap, .slice none 0 0, .slice none 0 0] (31 : TypeId)) = A at *
  have b2 := fresh A (.cells #[.pointer (some ⟨w1.heap.size, 0, none⟩)] (25 : TypeId))
  have e2 := heap_alloc_new A (.cells #[.pointer (some ⟨w1.heap.size, 0, none⟩)] (25 : TypeId))
  have b12 := b1.trans (b2.mono b1.size)
  rw [s1] at e2
  exact CutA.mk hP hm ((hV.trans (hb1.mono z1)).trans (b12.mono (by omega))) ((b2.block _ (by omega)).trans e1) e2 (rt.below b12) (fun k hk => Nat.le_trans z1 (hlo k hk)) (by omega) (by omega)

theorem CutA.o2 {W V w1 : World} {pa : Option Addr} {m pcap : Nat} {ps : List (List Dop)} {a : Ad} (hP : Pgs (fun k => k < W.heap.size) W pa m pcap ps) (hm : 0 < m ∧ m ≤ 1000) (hV : Below W.heap.size W V) (rt : Rt w1 a rs0) (hlo : ∀ k, own a rs0 k ∨ k = a.Q → V.heap.size ≤ k) (hb1 : Below V.heap.size V w1) :
    CutA W pa m pcap ps (.pointer (some ⟨w1.heap.size, 0, none⟩)) ((w1.alloc (.cells #[.pointer (some ⟨w1.heap.size + 1, 0, none⟩)] (25 : TypeId))).alloc (.cells #[.pointer (some ⟨a.R, 0, none⟩), .slice pa m pcap, .slice none 0 0, .slice none 0 0] (31 : TypeId))) := by
  have z1 := hV.size
  have z2 := hb1.size
  have b1 := fresh w1 (.cells #[.pointer (some ⟨w1.heap.size + 1, 0, none⟩)] (25 : TypeId))
  have e1 := heap_alloc_new w1 (.cells #[.pointer (some ⟨w1.heap.size + 1, 0, none⟩)] (25 : TypeId))
  have s1 : (w1.alloc (.cells #[.pointer (some ⟨w1.heap.size + 1, 0, none⟩)] (25 : TypeId))).heap.size = w1.heap.size + 1 := by simp
  generalize w1.alloc (.cells #[.pointer (some ⟨w1.heap.size + 1, 0, none⟩)] (25 : TypeId)) = A at *
  have b2 := fresh A (.cells #[.pointer (some ⟨a.R, 0, none⟩), .slice pa m pcap, .slice none 0 0, .slice none 0 0] (31 : TypeId))
  have e2 := heap_alloc_new A (.cells #[.pointer (some ⟨a.R, 0, none⟩), .slice pa m pcap, .slice none 0 0, .slice none 0 0] (31 : TypeId))
  have b12 := b1.trans (b2.mono b1.size)
  rw [s1] at e2
  exact CutA.mk hP hm ((hV.trans (hb1.mono z1)).trans (b12.mono (by omega))) e2 ((b2.block _ (by omega)).trans e1) (rt.below b12) (fun k hk => Nat.le_trans z1 (hlo k hk)) (by omega) (by omega)

theorem CutA.o3 {W V w1 : World} {pa : Option Addr} {m pcap : Nat} {ps : List (List Dop)} {a : Ad} (hP : Pgs (fun k => k < W.heap.size) W pa m pcap ps) (hm : 0 < m ∧ m ≤ 1000) (hV : Below W.heap.size W V) (hVs : W.heap.size < V.heap.size) (hz : w1.heap[W.heap.size]? = some (.cells #[.pointer none] (25 : TypeId) (0, 0))) (rt : Rt w1 a rs0) (hlo : ∀ k, own a rs0 k ∨ k = a.Q → V.heap.size ≤ k) (hb1 : Below V.heap.size V w1) :
    CutA W pa m pcap ps (.pointer (some ⟨W.heap.size, 0, none⟩)) ((w1.alloc (.cells #[.pointer (some ⟨a.R, 0, none⟩), .slice pa m pcap, .slice none 0 0, .slice none 0 0] (31 : TypeId))).setCell ⟨W.heap.size, 0, none⟩ (.pointer (some ⟨w1.heap.size, 0, none⟩))) := by
  have z1 := hV.size
  have z2 := hb1.size
  have b1 := fresh w1 (.cells #[.pointer (some ⟨a.R, 0, none⟩), .slice pa m pcap, .slice none 0 0, .slice none 0 0] (31 : TypeId))
  have e1 := heap_alloc_new w1 (.cells #[.pointer (some ⟨a.R, 0, none⟩), .slice pa m pcap, .slice none 0 0, .slice none 0 0] (31 : TypeId))
  generalize w1.alloc (.cells #[.pointer (some ⟨a.R, 0, none⟩), .slice pa m pcap, .slice none 0 0, .slice none 0 0] (31 : TypeId)) = A at *
  have hzA := (b1.block _ (heap_lt hz)).trans hz
  have e2 := heap_setCell_same A W.heap.size 0 _ _ (.pointer (some ⟨w1.heap.size, 0, none⟩)) hzA
  have t2 : Tb (fun k => k = W.heap.size) A (A.setCell ⟨W.heap.size, 0, none⟩ (.pointer (some ⟨w1.heap.size, 0, none⟩))) := Tb.set W.heap.size 0 _ rfl
  have bA : Below W.heap.size W A := (hV.trans (hb1.mono z1)).trans (b1.mono (by omega))
  exact CutA.mk hP hm (bA.trans (t2.below (fun i e => by omega) bA.size)) ((t2.block _ (heap_lt e1) (by omega)).trans e1) e2 ((rt.below b1).tb t2 (fun k hk e => by
    have := hlo k hk
    omega)) (fun k hk => Nat.le_trans z1 (hlo k hk)) (by omega) (Nat.le_refl _)

section
variable {P : Program} {ops : Array Oper} {o : Oper} {a : Act} {w w' : World} {K : Act → World → Prop} {Q : Exit → Act → World → Prop} {E : Prop}
theorem step_appendw (hw : Region.wanted o (yielded ops a.tmps) = true) (t : TypeId) (m x : Operand) (hop : o.op = Op.call { callee := Callee.builtin Builtin.append, args := #[m, x], argTypes := #[t, t] }) (mv key v : Value) (hm : a.eval m = mv) (hx : a.eval x = key) (hrun : (Builtin.append_ #[t, t] o.type #[mv, key]).run P w = .ok v w') (hK : K (a.put o.dst v) w') :
    if Region.wanted o (yielded ops a.tmps) = true then Oper.wp P o a w K Q else E := by
  rw [if_pos hw]
  unfold Oper.wp
  simp [execOp, hop, resolve, invoke, builtin, hm, hx, hrun, Result.andThen]
  exact hK
end

set_option maxHeartbeats 4000000 in
theorem cspTurns.walk (pa : Option Addr) (len pcap : Nat) (ps : List (List Dop)) (ua : Option Addr) (ul uc : Nat) (us : List Nat) (W : World) (hP : Pgs (fun k => k < W.heap.size) W pa len pcap ps) (hU : Uls W ua ul uc us) :
    Calls Try.prog 6 #[.slice pa len pcap, .slice ua ul uc] W fun e w' => e = .returned (.bool true) ∧ Below W.heap.size W w' := by
  have hCA := fun V => awake_any V
  have hPle := hP.le
  have hPr := hP.reach
  have hUle := hU.le
  have hUr := hU.reach
  by_cases h0 : len = 0
  · subst h0
    have C := hCA W
    clear hP hU hCA
    go_enter Try.func6, Try.ntmps6
    go_wp2_with fail
    refine C.mono ?_
    rintro e w1 ⟨rfl, hb⟩
    have HB := hide hb
    clear hb
    go_wp2_with fail
    go_ret
    exact ⟨rfl, HB.out⟩
  obtain ⟨m, hm⟩ : ∃ m, Hid (m = min len 6) := ⟨_, hide rfl⟩
  have hm1 : 0 < m ∧ m ≤ 6 ∧ m ≤ len := by have := hm.out; omega
  have hPm : Hid (Pgs (fun k => k < W.heap.size) W pa m pcap (ps.take m)) := hide (hP.front hm1.2.2)
  have hmin : min (len : Int) 6 = (m : Int) := by have := hm.out; omega
  have CN : Hid (∀ V, Below W.heap.size W V → Calls Try.prog 8 #[] V fun e w' => ∃ a, e = .returned (.pointer (some ⟨a.R, 0, none⟩)) ∧ Rt w' a rs0 ∧ (∀ k, own a rs0 k ∨ k = a.Q → V.heap.size ≤ k) ∧ Below V.heap.size V w') := hide (fun V _ => new_any V)
  have HU := hide hU
  have HA := hide hCA
  have hlen0 : ((len : Int) == 0) = false := by rw [beq_eq_false_iff_ne]; omega
  have hmc : (m : Int) ≤ (pcap : Int) := by omega
  obtain ⟨hm0, hm6, hml⟩ := hm1
  clear hP hU hCA
  go_enter Try.func6, Try.ntmps6
  go_wp2_with fail
  go_cut [5] (fun s5 wx => CutA W pa m pcap (ps.take m) s5 wx)
  case first =>
    go_region_with (go_at_call 8; refine (CN.out _ (by first | exact (Below.refl _ W).drew | exact (fresh W _).drew)).mono ?_; rintro e w1 ⟨a, rfl, rt, hlo, hb1⟩; try (have hz : w1.heap[W.heap.size]? = some (.cells #[.pointer none] (25 : TypeId) (0, 0)) := (hb1.block _ (by simp)).trans (heap_alloc_new W _); have z0 : ∀ o, (w1.alloc o).cell? ⟨W.heap.size, 0, none⟩ = some (.pointer none) := (fun o => cell_of_row _ _ 0 _ _ _ (((fresh w1 o).block _ (heap_lt hz)).trans hz)); have zf : ∀ o, (w1.alloc o).frozen? ⟨W.heap.size, 0, none⟩ = false := (fun o => frozen_of_row _ _ 0 _ _ (((fresh w1 o).block _ (heap_lt hz)).trans hz))))
    all_goals (try go_wp2_with fail)
    all_goals go_meet
    all_goals first
      | exact CutA.o1 hPm.out ⟨hm0, by omega⟩ (Below.refl _ W).drew rt hlo hb1
      | exact CutA.o2 hPm.out ⟨hm0, by omega⟩ (Below.refl _ W).drew rt hlo hb1
      | exact CutA.o3 hPm.out ⟨hm0, by omega⟩ (fresh W _).drew (by simp) hz rt hlo hb1
  case rest =>
    obtain ⟨g, B, R, F0, D0, hs5, hc⟩ := hcut
    obtain ⟨hg0, hLg, wt0, hD0, hnD0, hb0⟩ := hc.out
    have in0 : In W g B R pa m pcap (ps.take m) sg0 0 wc := ⟨hg0, hLg, hb0, F0, D0, [], wt0, hD0, hnD0⟩
    have g0 := in0.g0
    have cB0 := in0.cB0
    have cB1 := in0.cB1
    have HI0 := hide in0
    have hmi : (m : Int) ≤ 6 := by omega
    clear hg0 hLg wt0 hD0 hnD0 hb0 in0 hc hPm CN hmin hlen0 hmc hPle hPr h0
    subst hs5
    go_wp2_with fail
    go_loopw [39] (fun iv wr => ∃ k : Nat, k ≤ m ∧ iv = .int .i64 k ∧ Hid (∃ σ, In W g B R pa m pcap (ps.take m) σ k wr)) (fun iv _ => m - (intOf iv).toNat)
    case atStart => exact ⟨0, Nat.zero_le _, rfl, hide ⟨_, HI0.out⟩⟩
    case round =>
      obtain ⟨k, hk, rfl, hin⟩ := hrel
      obtain ⟨σ, hI⟩ := hin.out
      have r0 := hI.g0
      have rB0 := hI.cB0
      by_cases hlt : k < m
      · have HS : Hid (Calls Try.prog 9 #[.pointer (some ⟨B, 0, none⟩), .int .i64 (k : Int)] wr fun e w' => ∃ x, e = .returned (.int .i64 x) ∧ Hid (∃ σ, In W g B R pa m pcap (ps.take m) σ (k + 1) w')) := hide (by
          refine (hI.spawn (by omega) hlt).mono ?_
          rintro e w' ⟨x, rfl, h⟩
          exact ⟨x, rfl, hide ⟨_, h⟩⟩)
        have hw1 : IntKind.i64.wrap ((k : Int) + 1) = ((k + 1 : Nat) : Int) := by rw [IntKind.wrap_i64]; omega
        have hki : (k : Int) < (m : Int) := by omega
        clear hI hin rB0
        go_wp2_with fail
        refine HS.out.mono ?_
        rintro e w1 ⟨x, rfl, hN⟩
        clear HS
        go_wp2_with fail
        go_roundw
        case rel => exact ⟨k + 1, by omega, by go_num, hN⟩
        case measure => simp [intOf]; omega
      · obtain rfl : k = m := by omega
        have HI := hide (show ∃ σ, In W g B R pa k pcap (ps.take k) σ (k + 0) wr from ⟨σ, hI⟩)
        obtain ⟨wl, hwl⟩ : ∃ wl : World, wl = wr := ⟨_, rfl⟩
        subst hwl
        have hul := HU.out.len
        have hun : Hid (us.length = ul) := hide hul
        clear hI hin rB0 HI0 g0 cB0 cB1 hul
        go_wp2_with fail
        go_loopw [8] (fun iv wr => ∃ i : Nat, i ≤ ul ∧ i ≤ 200 ∧ iv = .int .i64 i ∧ Hid (∃ σ, In W g B R pa k pcap (ps.take k) σ (k + i) wr)) (fun iv _ => 200 - (intOf iv).toNat)
        case atStart => exact ⟨0, Nat.zero_le _, by omega, rfl, HI⟩
        case round =>
          obtain ⟨i, hi, hi2, rfl, hin⟩ := hrel
          obtain ⟨σ, hI⟩ := hin.out
          have r0' := hI.g0
          obtain ⟨wk, hwk⟩ : ∃ wk : World, wk = wr := ⟨_, rfl⟩
          subst hwk
          by_cases hgo : i < ul ∧ i < 200
          · obtain ⟨hg1, hg2⟩ := hgo
            obtain ⟨ub, uo, hua, hcu⟩ := HU.out.lies (by omega)
            have hpk : us.getD i 0 ≤ 18446744073709551615 := HU.out.few _ (by
              have hl : i < us.length := by rw [hun.out]; exact hg1
              simp [List.getD, List.getElem?_eq_getElem hl])
            have hcell : Hid (∀ V, Below W.heap.size W V → V.cell? ⟨ub, uo + i, none⟩ = some (.int .u64 (us.getD i 0 : Nat))) := hide (fun V hV => (hV.cell (cell_lt (hcu i hg1))).trans (hcu i hg1))
            subst hua
            obtain ⟨pk, hpkk⟩ : ∃ pk, Hid (pk = us.getD i 0) := ⟨_, hide rfl⟩
            rw [← hpkk.out] at hcell hpk
            have CT1 := hI.turns (by omega)
            obtain ⟨c1, hc1⟩ : ∃ c1, Hid (c1 = σ.cnt) := ⟨_, hide rfl⟩
            rw [← hc1.out] at CT1
            have hc1b : Hid (c1 ≤ 2000) := hide (by
              obtain ⟨_, _, _, _, _, _, wt, _⟩ := hI
              have h1 := wt.el
              have h2 := List.length_filter_le (fun e : Int × Int × Int => decide (0 ≤ e.2.1)) σ.ev
              rw [hc1.out]
              unfold Sg.cnt
              omega)
            have HI1 := hide hI
            clear hcu hI hin
            have hii : (i : Int) < (ul : Int) := by omega
            have hi200 : (i : Int) < 200 := by omega
            have hulc : (ul : Int) ≤ 9223372036854775807 := by omega
            go_wp2_with fail
            refine CT1.mono ?_
            rintro e w1 ⟨rfl, hb1⟩
            have in1 := HI1.out.below hb1
            have m1 := in1.g0
            have m2 := in1.cB0
            have m3 := hcell.out w1 in1.bel
            obtain ⟨bt, hbt⟩ : ∃ bt : Bool, Hid (bt = decide (σ.line ≠ [])) := ⟨_, hide rfl⟩
            have HSt : Hid (∀ V, Below w1.heap.size w1 V → Calls Try.prog 11 #[.pointer (some ⟨R, 0, none⟩), .int .u64 pk] V fun e w' => e = .returned (.bool bt) ∧ (w'.cell? ⟨g, 0, none⟩ = some (.pointer (some ⟨B, 0, none⟩)) ∧ w'.cell? ⟨B, 0, none⟩ = some (.pointer (some ⟨R, 0, none⟩)) ∧ w'.cell? ⟨ub, uo + i, none⟩ = some (.int .u64 pk)) ∧ Hid (In W g B R pa k pcap (ps.take k) (σ.step (ps.take k) pk) (k + (i + 1)) w')) := hide (fun V hV => by
              rw [hbt.out]
              refine ((in1.below hV).step (by omega) pk hpk).mono ?_
              rintro e w' ⟨rfl, h⟩
              exact ⟨rfl, ⟨h.g0, h.cB0, hcell.out w' h.bel⟩, hide h⟩)
            clear CT1 hb1 in1
            go_wp2_with fail
            go_region_held3 (fun V => V.cell? ⟨g, 0, none⟩ = some (.pointer (some ⟨B, 0, none⟩)) ∧ V.cell? ⟨B, 0, none⟩ = some (.pointer (some ⟨R, 0, none⟩)) ∧ V.cell? ⟨ub, uo + i, none⟩ = some (.int .u64 pk))
              (first | exact ⟨m1, m2, m3⟩ | exact s2)
              (first | (go_at_call 11; refine (HSt.out _ ?_).mono ?_; exact (Below.refl _ w1).drew; rintro e w2 ⟨rfl, s2, HI2⟩))
            have CT2 := HI2.out.turns (by omega)
            have hcs := cnt_step (ps.take k) σ pk
            obtain ⟨c2, hc2⟩ : ∃ c2, Hid (c2 = (σ.step (ps.take k) pk).cnt) := ⟨_, hide rfl⟩
            rw [← hc2.out] at CT2 hcs
            rw [← hc1.out] at hcs
            obtain ⟨τ, hτ⟩ : ∃ τ, Hid (τ = σ.step (ps.take k) pk) := ⟨_, hide rfl⟩
            rw [← hτ.out] at HI2
            have hcb : c2 = c1 + (if bt = true then 1 else 0) := by
              rw [hcs, hbt.out]
              simp
            obtain ⟨t1, t2, t3⟩ := s2
            clear hcs m1 m2 m3 HSt t2 t3
            go_wp2_with fail
            refine CT2.mono ?_
            rintro e w3 ⟨rfl, hb3⟩
            have in3 := HI2.out.below hb3
            obtain ⟨M, hM⟩ : ∃ M, Hid (M = w3.heap.size) := ⟨_, hide rfl⟩
            obtain ⟨X4, hX4⟩ : ∃ X4, Hid (X4 = w3.alloc (.map #[] 0)) := ⟨_, hide rfl⟩
            have b4 : Below w3.heap.size w3 X4 := by rw [hX4.out]; exact fresh w3 _
            have in4 := in3.below b4
            have mi4 : Mi X4 M [] := ⟨.map [], by rw [hX4.out, hM.out]; exact Mp.of (World.ownsMap_made w3 Try.prog 3 hold), rfl, fun k _ => rfl⟩
            have hmk : (Instr.makeMap (65 : TypeId) none).run Try.prog w3 = .ok (.map (some M)) X4 := by rw [hM.out, hX4.out]; exact mkM w3
            have hgn : Hid (g ≠ M ∧ M < X4.heap.size ∧ W.heap.size ≤ M) := hide (by
              have h1 := in3.lt
              have h2 := hM.out
              have h3 := in3.bel.size
              have h4 : X4.heap.size = w3.heap.size + 1 := by rw [hX4.out]; simp
              omega)
            have m1 := in4.g0
            have m2 := in4.cB0
            obtain ⟨hnd, hmem⟩ := in4.ids
            have hfew := ids_few hnd hmem
            obtain ⟨n1, hn1⟩ : ∃ n, Hid (n = τ.line.length) := ⟨_, hide rfl⟩
            obtain ⟨n2, hn2⟩ : ∃ n, Hid (n = τ.pkd.length) := ⟨_, hide rfl⟩
            obtain ⟨n3, hn3⟩ : ∃ n, Hid (n = n1 + n2) := ⟨_, hide rfl⟩
            obtain ⟨ids, hids⟩ : ∃ l, Hid (l = τ.line ++ τ.pkd) := ⟨_, hide rfl⟩
            have hidl : Hid (ids.length = n3) := hide (by rw [hids.out, hn3.out, hn1.out, hn2.out]; simp)
            rw [← hids.out] at hnd hmem hfew
            have HRd : Hid (∀ V, Below X4.heap.size X4 V → Calls Try.prog 14 #[.pointer (some ⟨R, 0, none⟩)] V fun e w6 => ∃ p6 c6, e = .returned (.slice p6 n1 c6) ∧ (w6.cell? ⟨g, 0, none⟩ = some (.pointer (some ⟨B, 0, none⟩)) ∧ w6.cell? ⟨B, 0, none⟩ = some (.pointer (some ⟨R, 0, none⟩))) ∧
                Hid (Calls Try.prog 20 #[.pointer (some ⟨R, 0, none⟩)] w6 fun e w7 => ∃ p7 c7, e = .returned (.slice p7 n2 c7) ∧ (w7.cell? ⟨g, 0, none⟩ = some (.pointer (some ⟨B, 0, none⟩)) ∧ w7.cell? ⟨B, 0, none⟩ = some (.pointer (some ⟨R, 0, none⟩))) ∧
                  Hid (∃ p8 c8 w8, (Builtin.append_ #[(34 : TypeId), (34 : TypeId)] (34 : TypeId) #[.slice p6 n1 c6, .slice p7 n2 c7]).run Try.prog w7 = .ok (.slice p8 n3 c8) w8 ∧ (w8.cell? ⟨g, 0, none⟩ = some (.pointer (some ⟨B, 0, none⟩)) ∧ w8.cell? ⟨B, 0, none⟩ = some (.pointer (some ⟨R, 0, none⟩))) ∧
                    Hid (w8.ownsRow V.heap.size 3 1 (.slice p8 n3 c8) n3 (QI.W ids) ∧ Below V.heap.size V w8)))) := hide (fun V hV => by
              have := (in4.below hV).both (by omega)
              rw [← hn1.out, ← hn2.out, ← hn3.out, ← hids.out] at this
              exact this)
            have HI3 := hide in3
            have HB34 : Hid (Below w3.heap.size w3 X4) := hide b4
            have HM4 := hide mi4
            have Hnd := hide hnd
            have Hmem := hide hmem
            have Hfew := hide hfew
            have hn39 : Hid ((n3 : Int) ≤ 1000) := hide (by
              obtain ⟨_, _, _, htl, _⟩ := in4.tasks
              have := hidl.out
              omega)
            clear hb3 in3 b4 in4 mi4 hnd hmem hfew t1 CT2 HI1 HI2
            have hlc : IntKind.i64.wrap ((c1 : Int) + 1) = ((c1 + 1 : Nat) : Int) := by have := hc1b.out; rw [IntKind.wrap_i64]; omega
            have hb12 : (bt = true ∧ c2 = c1 + 1) ∨ (bt = false ∧ c2 = c1) := by
              cases bt
              · right; simpa using hcb
              · left; simpa using hcb
            clear hcb
            have hgoal : True := trivial
            rcases hb12 with ⟨hbt', rfl⟩ | ⟨hbt', rfl⟩
            · subst hbt'
              go_wp2_with fail
              refine wp_region_held_drew (S := (fun V => V.cell? ⟨g, 0, none⟩ = some (.pointer (some ⟨B, 0, none⟩)) ∧ V.cell? ⟨B, 0, none⟩ = some (.pointer (some ⟨R, 0, none⟩)))) (by kernel_rfl) ⟨m1, m2⟩ (fun hHeld => ?_)
              try simp only [List.size_toArray, List.length_cons, List.length_nil, Nat.reduceAdd]
              refine wpAnyH_take (i := 0) (v := (.pointer (some ⟨B, 0, none⟩))) rfl (by kernel_rfl) (by kernel_rfl) (by kernel_rfl) (fun _ _ _ h => h) (Or.inl ⟨by rfl, ?hy⟩) hHeld ?_
              case hy => (intro V hV; obtain ⟨hV1, hV2⟩ := hV; go_simp <;> first | done | rfl | (try simp_all; done) | omega)
              simp only [Act.put, List.getElem_toArray, List.getElem_cons_succ, List.getElem_cons_zero, List.setIfInBounds_toArray, List.set_cons_succ, List.set_cons_zero]
              refine wpAnyH_take (i := 1) (v := (.pointer (some ⟨B, 0, none⟩))) rfl (by kernel_rfl) (by kernel_rfl) (by kernel_rfl) (fun _ _ _ h => h) (Or.inl ⟨by rfl, ?hy⟩) hHeld ?_
              case hy => (intro V hV; obtain ⟨hV1, hV2⟩ := hV; go_simp <;> first | done | rfl | (try simp_all; done) | omega)
              simp only [Act.put, List.getElem_toArray, List.getElem_cons_succ, List.getElem_cons_zero, List.setIfInBounds_toArray, List.set_cons_succ, List.set_cons_zero]
              refine wpAnyH_take (i := 2) (v := (.pointer (some ⟨B, 0, none⟩))) rfl (by kernel_rfl) (by kernel_rfl) (by kernel_rfl) (fun _ _ _ h => h) (Or.inl ⟨by rfl, ?hy⟩) hHeld ?_
              case hy => (intro V hV; obtain ⟨hV1, hV2⟩ := hV; go_simp <;> first | done | rfl | (try simp_all; done) | omega)
              simp only [Act.put, List.getElem_toArray, List.getElem_cons_succ, List.getElem_cons_zero, List.setIfInBounds_toArray, List.set_cons_succ, List.set_cons_zero]
              refine wpAnyH_take (i := 3) (v := (.pointer (some ⟨R, 0, none⟩))) rfl (by kernel_rfl) (by kernel_rfl) (by kernel_rfl) (fun _ _ _ h => h) (Or.inl ⟨by rfl, ?hy⟩) hHeld ?_
              case hy => (intro V hV; obtain ⟨hV1, hV2⟩ := hV; go_simp <;> first | done | rfl | (try simp_all; done) | omega)
              simp only [Act.put, List.getElem_toArray, List.getElem_cons_succ, List.getElem_cons_zero, List.setIfInBounds_toArray, List.set_cons_succ, List.set_cons_zero]
              refine wpAnyH_take (i := 5) (v := (.pointer (some ⟨B, 0, none⟩))) rfl (by kernel_rfl) (by kernel_rfl) (by kernel_rfl) (fun _ _ _ h => h) (Or.inl ⟨by rfl, ?hy⟩) hHeld ?_
              case hy => (intro V hV; obtain ⟨hV1, hV2⟩ := hV; go_simp <;> first | done | rfl | (try simp_all; done) | omega)
              simp only [Act.put, List.getElem_toArray, List.getElem_cons_succ, List.getElem_cons_zero, List.setIfInBounds_toArray, List.set_cons_succ, List.set_cons_zero]
              refine wpAnyH_take (i := 6) (v := (.pointer (some ⟨B, 0, none⟩))) rfl (by kernel_rfl) (by kernel_rfl) (by kernel_rfl) (fun _ _ _ h => h) (Or.inl ⟨by rfl, ?hy⟩) hHeld ?_
              case hy => (intro V hV; obtain ⟨hV1, hV2⟩ := hV; go_simp <;> first | done | rfl | (try simp_all; done) | omega)
              simp only [Act.put, List.getElem_toArray, List.getElem_cons_succ, List.getElem_cons_zero, List.setIfInBounds_toArray, List.set_cons_succ, List.set_cons_zero]
              refine wpAnyH_take (i := 7) (v := (.pointer (some ⟨B, 0, none⟩))) rfl (by kernel_rfl) (by kernel_rfl) (by kernel_rfl) (fun _ _ _ h => h) (Or.inl ⟨by rfl, ?hy⟩) hHeld ?_
              case hy => (intro V hV; obtain ⟨hV1, hV2⟩ := hV; go_simp <;> first | done | rfl | (try simp_all; done) | omega)
              simp only [Act.put, List.getElem_toArray, List.getElem_cons_succ, List.getElem_cons_zero, List.setIfInBounds_toArray, List.set_cons_succ, List.set_cons_zero]
              refine wpAnyH_take (i := 8) (v := (.pointer (some ⟨R, 0, none⟩))) rfl (by kernel_rfl) (by kernel_rfl) (by kernel_rfl) (fun _ _ _ h => h) (Or.inl ⟨by rfl, ?hy⟩) hHeld ?_
              case hy => (intro V hV; obtain ⟨hV1, hV2⟩ := hV; go_simp <;> first | done | rfl | (try simp_all; done) | omega)
              simp only [Act.put, List.getElem_toArray, List.getElem_cons_succ, List.getElem_cons_zero, List.setIfInBounds_toArray, List.set_cons_succ, List.set_cons_zero]
              refine wpAnyH_take (i := 12) (v := (.int .i64 0)) rfl (by kernel_rfl) (by kernel_rfl) (by kernel_rfl) (fun _ _ _ h => h) (Or.inl ⟨by rfl, ?hy⟩) hHeld ?_
              case hy => (intro V hV; obtain ⟨hV1, hV2⟩ := hV; go_simp <;> first | done | rfl | (try simp_all; done) | omega)
              simp only [Act.put, List.getElem_toArray, List.getElem_cons_succ, List.getElem_cons_zero, List.setIfInBounds_toArray, List.set_cons_succ, List.set_cons_zero]
              refine wpAnyH_ready (rs := [4]) (by kernel_rfl) (by simp) ?_
              refine AllReadyH.cons (by rfl) ?_ AllReadyH.nil
              intro K hK
              refine step_callw (by rfl) 14 #[.pointer (some ⟨R, 0, none⟩)] (by go_simp) ?_
              refine (HRd.out _ (by first | exact below_drewN (Below.refl _ _) _ | exact (Below.refl _ _).drew)).mono ?_
              rintro e w6 ⟨p6, c6, rfl, s6, HR6⟩
              refine ⟨_, rfl, ?_⟩
              refine hK.out _ _ s6 (fun hHeld => ?_)
              clear hK K
              simp only [Act.put, List.getElem_toArray, List.getElem_cons_succ, List.getElem_cons_zero, List.setIfInBounds_toArray, List.set_cons_succ, List.set_cons_zero]
              refine wpAnyH_ready (rs := [9]) (by kernel_rfl) (by simp) ?_
              refine AllReadyH.cons (by rfl) ?_ AllReadyH.nil
              intro K hK
              refine step_callw (by rfl) 20 #[.pointer (some ⟨R, 0, none⟩)] (by go_simp) ?_
              refine HR6.out.mono ?_
              rintro e w7 ⟨p7, c7, rfl, s7, HR7⟩
              obtain ⟨p8, c8, w8, r8, s8, HR8⟩ := HR7.out
              refine ⟨_, rfl, ?_⟩
              refine hK.out _ _ s7 (fun hHeld => ?_)
              clear hK K
              simp only [Act.put, List.getElem_toArray, List.getElem_cons_succ, List.getElem_cons_zero, List.setIfInBounds_toArray, List.set_cons_succ, List.set_cons_zero]
              refine wpAnyH_ready (rs := [10]) (by kernel_rfl) (by simp) ?_
              refine AllReadyH.cons (by rfl) ?_ AllReadyH.nil
              intro K hK
              refine step_appendw (by rfl) (34 : TypeId) (.tmp 91) (.tmp 96) rfl (.slice p6 n1 c6) (.slice p7 n2 c7) (.slice p8 n3 c8) (by simp [Act.eval]) (by simp [Act.eval]) r8 ?_
              refine hK.out _ _ s8 (fun hHeld => ?_)
              clear hK K
              simp only [Act.put, List.getElem_toArray, List.getElem_cons_succ, List.getElem_cons_zero, List.setIfInBounds_toArray, List.set_cons_succ, List.set_cons_zero]
              refine wpAnyH_take (i := 11) (v := (.int .i64 (n3 : Int))) rfl (by kernel_rfl) (by kernel_rfl) (by kernel_rfl) (fun _ _ _ h => h) (Or.inl ⟨by rfl, ?hy⟩) hHeld ?_
              case hy => (intro V hV; obtain ⟨hV1, hV2⟩ := hV; go_simp <;> first | done | rfl | (try simp_all; done) | omega)
              simp only [Act.put, List.getElem_toArray, List.getElem_cons_succ, List.getElem_cons_zero, List.setIfInBounds_toArray, List.set_cons_succ, List.set_cons_zero]
              refine wpAnyH_done (by kernel_rfl) ?_ _
              try simp only [Act.put, List.getElem_toArray, List.getElem_cons_succ, List.getElem_cons_zero, List.setIfInBounds_toArray, List.set_cons_succ, List.set_cons_zero]
              obtain ⟨hrow, hb8⟩ := HR8.out
              have hb8' : Below X4.heap.size X4 w8 := ((Below.refl _ X4).drew).trans hb8
              have hb38 : Below w3.heap.size w3 w8 := HB34.out.trans (hb8'.mono HB34.out.size)
              have HL3 : Hid (Below w3.heap.size w3 w8 ∧ Mi w8 M (ids.take 0) ∧ Ls w8 p8 n3 c8 ids) := hide ⟨hb38, by simpa using HM4.out.below hb8', own_ls hrow⟩
              have hpM : Hid (∀ ad, p8 = some ad → ad.block ≠ M) := hide (fun ad e he => by
                subst e
                have h1 := (hrow.lt ad.block rfl).1
                have h2 := hgn.out.2.1
                have h3 : X4.drew.heap.size = X4.heap.size := rfl
                omega)
              clear hrow hb8 hb8' hb38 HR8 HR7 HR6 r8 s8 s7 s6 HRd HM4 m1 m2
              have hn3i : (n3 : Int) ≤ 1000 := hn39.out
              go_wp2_with fail
              go_loopw [99] (fun iv wr => ∃ q : Nat, q ≤ n3 ∧ iv = .int .i64 q ∧ Hid (Below w3.heap.size w3 wr ∧ Mi wr M (ids.take q) ∧ Ls wr p8 n3 c8 ids)) (fun iv _ => n3 - (intOf iv).toNat)
              case atStart => exact ⟨0, Nat.zero_le _, rfl, HL3⟩
              case round =>
                obtain ⟨q, hq, rfl, hl3⟩ := hrel
                obtain ⟨b5, mi5, ls5⟩ := hl3.out
                have in5 := HI3.out.below b5
                obtain ⟨tp, tc, ct, htl, hall⟩ := in5.tasks
                have r0 := in5.g0
                by_cases hq3 : q < n3
                · have hql : q < ids.length := by rw [hidl.out]; exact hq3
                  have hx : ids[q]? = some ids[q] := List.getElem?_eq_getElem hql
                  obtain ⟨i', p, hxi, hp, hst⟩ := (Hmem.out ids[q]).1 (List.getElem_mem hql)
                  obtain ⟨gt, b, hgt, cgt, CO⟩ := hall i' p hp
                  have hiT : i' < τ.tk.length := (List.getElem?_eq_some_iff.1 hp).1
                  rw [show decide (p.st = 0) = false by simpa using hst] at CO
                  obtain ⟨T, hT⟩ : ∃ T, Hid (T = τ.tk.length) := ⟨_, hide rfl⟩
                  rw [← hT.out] at ct hiT htl
                  obtain ⟨bb, bo, hp8, hcb⟩ := ls5.lies (by omega)
                  have cid := hcb q hq3
                  rw [show ids.getD q 0 = (i' : Int) by simp [List.getD, hx, hxi]] at cid
                  have hI6 : I6 (i' : Int) := by unfold I6; omega
                  have hnin : (i' : Int) ∉ ids.take q := fun hm => by
                    obtain ⟨y, hy, hye⟩ := List.mem_iff_getElem.1 hm
                    rw [List.getElem_take] at hye
                    have hyq : y < q := by
                      have := hy
                      simp only [List.length_take] at this
                      omega
                    have := (List.getElem_inj Hnd.out (h₀ := by omega) (h₁ := hql)).1 (hye.trans hxi.symm)
                    omega
                  have hlk := mi5.look hI6
                  rw [show decide ((i' : Int) ∈ ids.take q) = false by simpa using hnin] at hlk
                  obtain ⟨X6, hrun6, mi6, t6⟩ := mi5.put (ys := ids.take (q + 1)) hI6 (by simp only [List.length_take]; omega) (by rw [if_neg hnin]; simp only [List.length_take]; omega) (fun x => by
                    rw [List.take_succ_eq_append_getElem hql, List.mem_append, List.mem_singleton, hxi])
                  have HN : Hid (Below w3.heap.size w3 X6 ∧ Mi X6 M (ids.take (q + 1)) ∧ Ls X6 p8 n3 c8 ids) := hide ⟨b5.trans (t6.below (fun x e => by have := hM.out; omega) b5.size), mi6, ls5.tb t6 (fun ad e => hpM.out ad e)⟩
                  have hw1 : IntKind.i64.wrap ((q : Int) + 1) = ((q + 1 : Nat) : Int) := by rw [IntKind.wrap_i64]; omega
                  have hqi : (q : Int) < (n3 : Int) := by omega
                  have hTi : ¬ (T : Int) ≤ (i' : Int) := by omega
                  have hT9 : (T : Int) ≤ 9223372036854775807 := by omega
                  subst hgt hp8
                  clear hall hcb mi5 ls5 b5 in5 hl3 mi6 t6 hnin hI6 hx hxi
                  go_wp2_with fail
                  refine CO.mono ?_
                  rintro e w10 ⟨rfl, hw10⟩
                  subst w10
                  clear CO
                  go_wp2_with fail
                  go_roundw
                  case rel => exact ⟨q + 1, by omega, by go_num, HN⟩
                  case measure => simp [intOf]; omega
                · obtain rfl : q = n3 := by omega
                  obtain ⟨w9, hw9⟩ : ∃ w9 : World, w9 = wr := ⟨_, rfl⟩
                  subst hw9
                  have hmi9 : Mi w9 M ids := by rw [List.take_of_length_le (by rw [hidl.out]; exact Nat.le_refl _)] at mi5; exact mi5
                  obtain ⟨T, hT⟩ : ∃ T, Hid (T = τ.tk.length) := ⟨_, hide rfl⟩
                  rw [← hT.out] at ct htl
                  have Hall := hide hall
                  have HF9 : Hid (∃ σ, In W g B R pa k pcap (ps.take k) σ (k + (i + 1)) w9) := hide ⟨τ, in5⟩
                  have HM9 := hide hmi9
                  have hTi : (T : Int) ≤ 1000 := by omega
                  clear hall mi5 ls5 b5 in5 hl3 hmi9
                  go_wp2_with fail
                  go_loopw [137] (fun iv wr => ∃ q : Nat, q ≤ T ∧ iv = .int .i64 q ∧ wr = w9) (fun iv _ => T - (intOf iv).toNat)
                  case atStart => exact ⟨0, Nat.zero_le _, rfl, rfl⟩
                  case round =>
                    obtain ⟨q4, hq4, rfl, hwr⟩ := hrel
                    subst hwr
                    by_cases hlt4 : q4 < T
                    · have hqt : q4 < τ.tk.length := by rw [← hT.out]; exact hlt4
                      have hp : τ.tk[q4]? = some τ.tk[q4] := List.getElem?_eq_getElem hqt
                      obtain ⟨gt, b, hgt, cgt, CO⟩ := Hall.out q4 _ hp
                      have hI6 : I6 (q4 : Int) := by unfold I6; omega
                      have hlk := HM9.out.look hI6
                      have hw1 : IntKind.i64.wrap ((q4 : Int) + 1) = ((q4 + 1 : Nat) : Int) := by rw [IntKind.wrap_i64]; omega
                      have hqi : (q4 : Int) < (T : Int) := by omega
                      subst hgt
                      by_cases hst : τ.tk[q4].st = 0
                      · rw [show decide (τ.tk[q4].st = 0) = true by simpa using hst] at CO
                        clear hlk hI6
                        go_wp2_with fail
                        refine CO.mono ?_
                        rintro e w10 ⟨rfl, hw10⟩
                        subst w10
                        clear CO
                        go_wp2_with fail
                        go_roundw
                        case rel => exact ⟨q4 + 1, by omega, by go_num, (by first | rfl | trivial)⟩
                        case measure => simp [intOf]; omega
                      · rw [show decide (τ.tk[q4].st = 0) = false by simpa using hst] at CO
                        rw [show decide ((q4 : Int) ∈ ids) = true by simpa using (Hmem.out (q4 : Int)).2 ⟨q4, _, rfl, hp, hst⟩] at hlk
                        clear hI6
                        go_wp2_with fail
                        refine CO.mono ?_
                        rintro e w10 ⟨rfl, hw10⟩
                        subst w10
                        clear CO
                        go_wp2_with fail
                        go_roundw
                        case rel => exact ⟨q4 + 1, by omega, by go_num, (by first | rfl | trivial)⟩
                        case measure => simp [intOf]; omega
                    · obtain rfl : q4 = T := by omega
                      have hw1 : IntKind.i64.wrap ((i : Int) + 1) = ((i + 1 : Nat) : Int) := by rw [IntKind.wrap_i64]; omega
                      go_wp2_with fail
                      go_roundw
                      case rel => exact ⟨i + 1, by omega, by omega, by go_num, HF9⟩
                      case measure => simp [intOf]; omega
            · subst hbt'
              go_wp2_with fail
              refine wp_region_held_drew (S := (fun V => V.cell? ⟨g, 0, none⟩ = some (.pointer (some ⟨B, 0, none⟩)) ∧ V.cell? ⟨B, 0, none⟩ = some (.pointer (some ⟨R, 0, none⟩)))) (by kernel_rfl) ⟨m1, m2⟩ (fun hHeld => ?_)
              try simp only [List.size_toArray, List.length_cons, List.length_nil, Nat.reduceAdd]
              refine wpAnyH_take (i := 0) (v := (.pointer (some ⟨B, 0, none⟩))) rfl (by kernel_rfl) (by kernel_rfl) (by kernel_rfl) (fun _ _ _ h => h) (Or.inl ⟨by rfl, ?hy⟩) hHeld ?_
              case hy => (intro V hV; obtain ⟨hV1, hV2⟩ := hV; go_simp <;> first | done | rfl | (try simp_all; done) | omega)
              simp only [Act.put, List.getElem_toArray, List.getElem_cons_succ, List.getElem_cons_zero, List.setIfInBounds_toArray, List.set_cons_succ, List.set_cons_zero]
              refine wpAnyH_take (i := 1) (v := (.pointer (some ⟨B, 0, none⟩))) rfl (by kernel_rfl) (by kernel_rfl) (by kernel_rfl) (fun _ _ _ h => h) (Or.inl ⟨by rfl, ?hy⟩) hHeld ?_
              case hy => (intro V hV; obtain ⟨hV1, hV2⟩ := hV; go_simp <;> first | done | rfl | (try simp_all; done) | omega)
              simp only [Act.put, List.getElem_toArray, List.getElem_cons_succ, List.getElem_cons_zero, List.setIfInBounds_toArray, List.set_cons_succ, List.set_cons_zero]
              refine wpAnyH_take (i := 2) (v := (.pointer (some ⟨B, 0, none⟩))) rfl (by kernel_rfl) (by kernel_rfl) (by kernel_rfl) (fun _ _ _ h => h) (Or.inl ⟨by rfl, ?hy⟩) hHeld ?_
              case hy => (intro V hV; obtain ⟨hV1, hV2⟩ := hV; go_simp <;> first | done | rfl | (try simp_all; done) | omega)
              simp only [Act.put, List.getElem_toArray, List.getElem_cons_succ, List.getElem_cons_zero, List.setIfInBounds_toArray, List.set_cons_succ, List.set_cons_zero]
              refine wpAnyH_take (i := 3) (v := (.pointer (some ⟨R, 0, none⟩))) rfl (by kernel_rfl) (by kernel_rfl) (by kernel_rfl) (fun _ _ _ h => h) (Or.inl ⟨by rfl, ?hy⟩) hHeld ?_
              case hy => (intro V hV; obtain ⟨hV1, hV2⟩ := hV; go_simp <;> first | done | rfl | (try simp_all; done) | omega)
              simp only [Act.put, List.getElem_toArray, List.getElem_cons_succ, List.getElem_cons_zero, List.setIfInBounds_toArray, List.set_cons_succ, List.set_cons_zero]
              refine wpAnyH_take (i := 5) (v := (.pointer (some ⟨B, 0, none⟩))) rfl (by kernel_rfl) (by kernel_rfl) (by kernel_rfl) (fun _ _ _ h => h) (Or.inl ⟨by rfl, ?hy⟩) hHeld ?_
              case hy => (intro V hV; obtain ⟨hV1, hV2⟩ := hV; go_simp <;> first | done | rfl | (try simp_all; done) | omega)
              simp only [Act.put, List.getElem_toArray, List.getElem_cons_succ, List.getElem_cons_zero, List.setIfInBounds_toArray, List.set_cons_succ, List.set_cons_zero]
              refine wpAnyH_take (i := 6) (v := (.pointer (some ⟨B, 0, none⟩))) rfl (by kernel_rfl) (by kernel_rfl) (by kernel_rfl) (fun _ _ _ h => h) (Or.inl ⟨by rfl, ?hy⟩) hHeld ?_
              case hy => (intro V hV; obtain ⟨hV1, hV2⟩ := hV; go_simp <;> first | done | rfl | (try simp_all; done) | omega)
              simp only [Act.put, List.getElem_toArray, List.getElem_cons_succ, List.getElem_cons_zero, List.setIfInBounds_toArray, List.set_cons_succ, List.set_cons_zero]
              refine wpAnyH_take (i := 7) (v := (.pointer (some ⟨B, 0, none⟩))) rfl (by kernel_rfl) (by kernel_rfl) (by kernel_rfl) (fun _ _ _ h => h) (Or.inl ⟨by rfl, ?hy⟩) hHeld ?_
              case hy => (intro V hV; obtain ⟨hV1, hV2⟩ := hV; go_simp <;> first | done | rfl | (try simp_all; done) | omega)
              simp only [Act.put, List.getElem_toArray, List.getElem_cons_succ, List.getElem_cons_zero, List.setIfInBounds_toArray, List.set_cons_succ, List.set_cons_zero]
              refine wpAnyH_take (i := 8) (v := (.pointer (some ⟨R, 0, none⟩))) rfl (by kernel_rfl) (by kernel_rfl) (by kernel_rfl) (fun _ _ _ h => h) (Or.inl ⟨by rfl, ?hy⟩) hHeld ?_
              case hy => (intro V hV; obtain ⟨hV1, hV2⟩ := hV; go_simp <;> first | done | rfl | (try simp_all; done) | omega)
              simp only [Act.put, List.getElem_toArray, List.getElem_cons_succ, List.getElem_cons_zero, List.setIfInBounds_toArray, List.set_cons_succ, List.set_cons_zero]
              refine wpAnyH_take (i := 12) (v := (.int .i64 0)) rfl (by kernel_rfl) (by kernel_rfl) (by kernel_rfl) (fun _ _ _ h => h) (Or.inl ⟨by rfl, ?hy⟩) hHeld ?_
              case hy => (intro V hV; obtain ⟨hV1, hV2⟩ := hV; go_simp <;> first | done | rfl | (try simp_all; done) | omega)
              simp only [Act.put, List.getElem_toArray, List.getElem_cons_succ, List.getElem_cons_zero, List.setIfInBounds_toArray, List.set_cons_succ, List.set_cons_zero]
              refine wpAnyH_ready (rs := [4]) (by kernel_rfl) (by simp) ?_
              refine AllReadyH.cons (by rfl) ?_ AllReadyH.nil
              intro K hK
              refine step_callw (by rfl) 14 #[.pointer (some ⟨R, 0, none⟩)] (by go_simp) ?_
              refine (HRd.out _ (by first | exact below_drewN (Below.refl _ _) _ | exact (Below.refl _ _).drew)).mono ?_
              rintro e w6 ⟨p6, c6, rfl, s6, HR6⟩
              refine ⟨_, rfl, ?_⟩
              refine hK.out _ _ s6 (fun hHeld => ?_)
              clear hK K
              simp only [Act.put, List.getElem_toArray, List.getElem_cons_succ, List.getElem_cons_zero, List.setIfInBounds_toArray, List.set_cons_succ, List.set_cons_zero]
              refine wpAnyH_ready (rs := [9]) (by kernel_rfl) (by simp) ?_
              refine AllReadyH.cons (by rfl) ?_ AllReadyH.nil
              intro K hK
              refine step_callw (by rfl) 20 #[.pointer (some ⟨R, 0, none⟩)] (by go_simp) ?_
              refine HR6.out.mono ?_
              rintro e w7 ⟨p7, c7, rfl, s7, HR7⟩
              obtain ⟨p8, c8, w8, r8, s8, HR8⟩ := HR7.out
              refine ⟨_, rfl, ?_⟩
              refine hK.out _ _ s7 (fun hHeld => ?_)
              clear hK K
              simp only [Act.put, List.getElem_toArray, List.getElem_cons_succ, List.getElem_cons_zero, List.setIfInBounds_toArray, List.set_cons_succ, List.set_cons_zero]
              refine wpAnyH_ready (rs := [10]) (by kernel_rfl) (by simp) ?_
              refine AllReadyH.cons (by rfl) ?_ AllReadyH.nil
              intro K hK
              refine step_appendw (by rfl) (34 : TypeId) (.tmp 91) (.tmp 96) rfl (.slice p6 n1 c6) (.slice p7 n2 c7) (.slice p8 n3 c8) (by simp [Act.eval]) (by simp [Act.eval]) r8 ?_
              refine hK.out _ _ s8 (fun hHeld => ?_)
              clear hK K
              simp only [Act.put, List.getElem_toArray, List.getElem_cons_succ, List.getElem_cons_zero, List.setIfInBounds_toArray, List.set_cons_succ, List.set_cons_zero]
              refine wpAnyH_take (i := 11) (v := (.int .i64 (n3 : Int))) rfl (by kernel_rfl) (by kernel_rfl) (by kernel_rfl) (fun _ _ _ h => h) (Or.inl ⟨by rfl, ?hy⟩) hHeld ?_
              case hy => (intro V hV; obtain ⟨hV1, hV2⟩ := hV; go_simp <;> first | done | rfl | (try simp_all; done) | omega)
              simp only [Act.put, List.getElem_toArray, List.getElem_cons_succ, List.getElem_cons_zero, List.setIfInBounds_toArray, List.set_cons_succ, List.set_cons_zero]
              refine wpAnyH_done (by kernel_rfl) ?_ _
              try simp only [Act.put, List.getElem_toArray, List.getElem_cons_succ, List.getElem_cons_zero, List.setIfInBounds_toArray, List.set_cons_succ, List.set_cons_zero]
              obtain ⟨hrow, hb8⟩ := HR8.out
              have hb8' : Below X4.heap.size X4 w8 := ((Below.refl _ X4).drew).trans hb8
              have hb38 : Below w3.heap.size w3 w8 := HB34.out.trans (hb8'.mono HB34.out.size)
              have HL3 : Hid (Below w3.heap.size w3 w8 ∧ Mi w8 M (ids.take 0) ∧ Ls w8 p8 n3 c8 ids) := hide ⟨hb38, by simpa using HM4.out.below hb8', own_ls hrow⟩
              have hpM : Hid (∀ ad, p8 = some ad → ad.block ≠ M) := hide (fun ad e he => by
                subst e
                have h1 := (hrow.lt ad.block rfl).1
                have h2 := hgn.out.2.1
                have h3 : X4.drew.heap.size = X4.heap.size := rfl
                omega)
              clear hrow hb8 hb8' hb38 HR8 HR7 HR6 r8 s8 s7 s6 HRd HM4 m1 m2
              have hn3i : (n3 : Int) ≤ 1000 := hn39.out
              go_wp2_with fail
              go_loopw [99] (fun iv wr => ∃ q : Nat, q ≤ n3 ∧ iv = .int .i64 q ∧ Hid (Below w3.heap.size w3 wr ∧ Mi wr M (ids.take q) ∧ Ls wr p8 n3 c8 ids)) (fun iv _ => n3 - (intOf iv).toNat)
              case atStart => exact ⟨0, Nat.zero_le _, rfl, HL3⟩
              case round =>
                obtain ⟨q, hq, rfl, hl3⟩ := hrel
                obtain ⟨b5, mi5, ls5⟩ := hl3.out
                have in5 := HI3.out.below b5
                obtain ⟨tp, tc, ct, htl, hall⟩ := in5.tasks
                have r0 := in5.g0
                by_cases hq3 : q < n3
                · have hql : q < ids.length := by rw [hidl.out]; exact hq3
                  have hx : ids[q]? = some ids[q] := List.getElem?_eq_getElem hql
                  obtain ⟨i', p, hxi, hp, hst⟩ := (Hmem.out ids[q]).1 (List.getElem_mem hql)
                  obtain ⟨gt, b, hgt, cgt, CO⟩ := hall i' p hp
                  have hiT : i' < τ.tk.length := (List.getElem?_eq_some_iff.1 hp).1
                  rw [show decide (p.st = 0) = false by simpa using hst] at CO
                  obtain ⟨T, hT⟩ : ∃ T, Hid (T = τ.tk.length) := ⟨_, hide rfl⟩
                  rw [← hT.out] at ct hiT htl
                  obtain ⟨bb, bo, hp8, hcb⟩ := ls5.lies (by omega)
                  have cid := hcb q hq3
                  rw [show ids.getD q 0 = (i' : Int) by simp [List.getD, hx, hxi]] at cid
                  have hI6 : I6 (i' : Int) := by unfold I6; omega
                  have hnin : (i' : Int) ∉ ids.take q := fun hm => by
                    obtain ⟨y, hy, hye⟩ := List.mem_iff_getElem.1 hm
                    rw [List.getElem_take] at hye
                    have hyq : y < q := by
                      have := hy
                      simp only [List.length_take] at this
                      omega
                    have := (List.getElem_inj Hnd.out (h₀ := by omega) (h₁ := hql)).1 (hye.trans hxi.symm)
                    omega
                  have hlk := mi5.look hI6
                  rw [show decide ((i' : Int) ∈ ids.take q) = false by simpa using hnin] at hlk
                  obtain ⟨X6, hrun6, mi6, t6⟩ := mi5.put (ys := ids.take (q + 1)) hI6 (by simp only [List.length_take]; omega) (by rw [if_neg hnin]; simp only [List.length_take]; omega) (fun x => by
                    rw [List.take_succ_eq_append_getElem hql, List.mem_append, List.mem_singleton, hxi])
                  have HN : Hid (Below w3.heap.size w3 X6 ∧ Mi X6 M (ids.take (q + 1)) ∧ Ls X6 p8 n3 c8 ids) := hide ⟨b5.trans (t6.below (fun x e => by have := hM.out; omega) b5.size), mi6, ls5.tb t6 (fun ad e => hpM.out ad e)⟩
                  have hw1 : IntKind.i64.wrap ((q : Int) + 1) = ((q + 1 : Nat) : Int) := by rw [IntKind.wrap_i64]; omega
                  have hqi : (q : Int) < (n3 : Int) := by omega
                  have hTi : ¬ (T : Int) ≤ (i' : Int) := by omega
                  have hT9 : (T : Int) ≤ 9223372036854775807 := by omega
                  subst hgt hp8
                  clear hall hcb mi5 ls5 b5 in5 hl3 mi6 t6 hnin hI6 hx hxi
                  go_wp2_with fail
                  refine CO.mono ?_
                  rintro e w10 ⟨rfl, hw10⟩
                  subst w10
                  clear CO
                  go_wp2_with fail
                  go_roundw
                  case rel => exact ⟨q + 1, by omega, by go_num, HN⟩
                  case measure => simp [intOf]; omega
                · obtain rfl : q = n3 := by omega
                  obtain ⟨w9, hw9⟩ : ∃ w9 : World, w9 = wr := ⟨_, rfl⟩
                  subst hw9
                  have hmi9 : Mi w9 M ids := by rw [List.take_of_length_le (by rw [hidl.out]; exact Nat.le_refl _)] at mi5; exact mi5
                  obtain ⟨T, hT⟩ : ∃ T, Hid (T = τ.tk.length) := ⟨_, hide rfl⟩
                  rw [← hT.out] at ct htl
                  have Hall := hide hall
                  have HF9 : Hid (∃ σ, In W g B R pa k pcap (ps.take k) σ (k + (i + 1)) w9) := hide ⟨τ, in5⟩
                  have HM9 := hide hmi9
                  have hTi : (T : Int) ≤ 1000 := by omega
                  clear hall mi5 ls5 b5 in5 hl3 hmi9
                  go_wp2_with fail
                  go_loopw [137] (fun iv wr => ∃ q : Nat, q ≤ T ∧ iv = .int .i64 q ∧ wr = w9) (fun iv _ => T - (intOf iv).toNat)
                  case atStart => exact ⟨0, Nat.zero_le _, rfl, rfl⟩
                  case round =>
                    obtain ⟨q4, hq4, rfl, hwr⟩ := hrel
                    subst hwr
                    by_cases hlt4 : q4 < T
                    · have hqt : q4 < τ.tk.length := by rw [← hT.out]; exact hlt4
                      have hp : τ.tk[q4]? = some τ.tk[q4] := List.getElem?_eq_getElem hqt
                      obtain ⟨gt, b, hgt, cgt, CO⟩ := Hall.out q4 _ hp
                      have hI6 : I6 (q4 : Int) := by unfold I6; omega
                      have hlk := HM9.out.look hI6
                      have hw1 : IntKind.i64.wrap ((q4 : Int) + 1) = ((q4 + 1 : Nat) : Int) := by rw [IntKind.wrap_i64]; omega
                      have hqi : (q4 : Int) < (T : Int) := by omega
                      subst hgt
                      by_cases hst : τ.tk[q4].st = 0
                      · rw [show decide (τ.tk[q4].st = 0) = true by simpa using hst] at CO
                        clear hlk hI6
                        go_wp2_with fail
                        refine CO.mono ?_
                        rintro e w10 ⟨rfl, hw10⟩
                        subst w10
                        clear CO
                        go_wp2_with fail
                        go_roundw
                        case rel => exact ⟨q4 + 1, by omega, by go_num, (by first | rfl | trivial)⟩
                        case measure => simp [intOf]; omega
                      · rw [show decide (τ.tk[q4].st = 0) = false by simpa using hst] at CO
                        rw [show decide ((q4 : Int) ∈ ids) = true by simpa using (Hmem.out (q4 : Int)).2 ⟨q4, _, rfl, hp, hst⟩] at hlk
                        clear hI6
                        go_wp2_with fail
                        refine CO.mono ?_
                        rintro e w10 ⟨rfl, hw10⟩
                        subst w10
                        clear CO
                        go_wp2_with fail
                        go_roundw
                        case rel => exact ⟨q4 + 1, by omega, by go_num, (by first | rfl | trivial)⟩
                        case measure => simp [intOf]; omega
                    · obtain rfl : q4 = T := by omega
                      have hw1 : IntKind.i64.wrap ((i : Int) + 1) = ((i + 1 : Nat) : Int) := by rw [IntKind.wrap_i64]; omega
                      go_wp2_with fail
                      go_roundw
                      case rel => exact ⟨i + 1, by omega, by omega, by go_num, HF9⟩
                      case measure => simp [intOf]; omega
          · have CA := HA.out wk
            have hbw := hide hI.bel
            have hno : ¬ ((i : Int) < (ul : Int)) ∨ ¬ ((i : Int) < 200) := by omega
            clear hI hin
            rcases hno with hno | hno
            · go_wp2_with fail
              refine CA.mono ?_
              rintro e w1 ⟨rfl, hb⟩
              have HB : Hid (Below W.heap.size W w1) := hide (hbw.out.trans (hb.mono hbw.out.size))
              clear hb
              go_wp2_with fail
              go_ret
              exact ⟨rfl, HB.out⟩
            · by_cases hy : (i : Int) < (ul : Int)
              · go_wp2_with fail
                refine CA.mono ?_
                rintro e w1 ⟨rfl, hb⟩
                have HB : Hid (Below W.heap.size W w1) := hide (hbw.out.trans (hb.mono hbw.out.size))
                clear hb
                go_wp2_with fail
                go_ret
                exact ⟨rfl, HB.out⟩
              · go_wp2_with fail
                refine CA.mono ?_
                rintro e w1 ⟨rfl, hb⟩
                have HB : Hid (Below W.heap.size W w1) := hide (hbw.out.trans (hb.mono hbw.out.size))
                clear hb
                go_wp2_with fail
                go_ret
                exact ⟨rfl, HB.out⟩

end Go.Proofs.Ytnljgkemplebhaa

/-
  Steps are taken off: those of a file's sectors.
-/
import Derived.Test.YtkdolabhcbjipaaGreatQkfff6ed01
namespace Go.Proofs.YtkdolabhcbjipaaGreat
open Go.RowKit
set_option maxRecDepth 100000

/-- Without the steps of a file's sectors. -/
def offS (l : List Stp) (f : Int) : List Stp := l.filter fun t => !(t.sec && decide (t.file = f))

theorem nms_offS (l : List Stp) (f : Int) : nms (offS l f) = nms l := by
  unfold nms offS
  rw [List.filter_filter]
  congr 1
  funext t
  cases t.sec <;> simp
theorem scs_offS_same (l : List Stp) (f : Int) : scs (offS l f) f = [] := by
  unfold scs offS
  rw [List.filter_filter, List.filter_eq_nil_iff]
  intro t _
  cases t.sec <;> simp
theorem scs_offS_other (l : List Stp) {f f' : Int} (h : f' ≠ f) : scs (offS l f) f' = scs l f' := by
  unfold scs offS
  rw [List.filter_filter]
  congr 1
  funext t
  cases t.sec
  · simp
  · by_cases e : t.file = f'
    · have : t.file ≠ f := fun e2 => h (e.symm.trans e2)
      simp [e]
      exact fun e2 => h e2
    · simp [e]

set_option maxHeartbeats 1000000 in
theorem takeSectors_any {w : World} {L : Lb} {R : Nat} {o : Ob} {dur std : Shp} {l : List Stp} {f : Int} (h : Di w L R o dur std l) (hf : I6 f) :
    Calls Tryz.prog 61 #[.pointer (some ⟨R, 5, none⟩), .int .i64 f] w fun e w' => ∃ v, e = .returned v ∧ w'.ownsRow 0 (87 : TypeId) 70 v (scs l f).length ((scs l f).flatMap Stp.cells) ∧ (∀ g, v.ownBlock = some g → L g = (16, f)) ∧ Di w' L R o dur std (offS l f) ∧ Tl L TB w w' := by
  obtain ⟨sec, hS1, hS2, hS3⟩ := h.bk.map
  obtain ⟨v, hlook, hown, hlab⟩ := hS1.find Tryz.underlying57 zero47 hf
  rw [hS2] at hown
  have hrun := (hlook w rfl).1
  obtain ⟨w1, hr1, hR1, ht1⟩ := hS1.drop Tryz.underlying57 hf 0
  have hb1 : Tb (fun k => k = o.us) w w1 := Tb.turned ht1 rfl
  have c7 : w.cell? ⟨R, 7, none⟩ = some (.map (some o.us)) := h.oj.c 7
  have hTB : TB (L o.us) := by rw [h.bk.mlb]; exact .inl rfl
  have hown1 : w1.ownsRow 0 (87 : TypeId) 70 v (scs l f).length ((scs l f).flatMap Stp.cells) := row_tb hown hb1 (fun g hg e => by
    have := hlab g hg
    rw [e, h.bk.mlb] at this
    simp at this)
  have hd1 : Di w1 L R o dur std (offS l f) := by
    refine ⟨h.oj.tb hb1 (fun e => h.nR.1 (e ▸ hTB)), h.lb, h.dur.tb hb1 (Lx.refl _ _) (fun g hg e => TA_B hg (.inl rfl) (e ▸ hTB)), h.std.tb hb1 (Lx.refl _ _) (fun g hg e => TA_B hg (.inr rfl) (e ▸ hTB)), ?_⟩
    refine ⟨?_, h.bk.rlb, ⟨_, hR1, fun f' => ?_, ?_⟩, h.bk.mlb, fun t ht => h.bk.ok t (List.mem_filter.1 ht).1, h.bk.up.filter _, fun t ht => h.bk.no t (List.mem_filter.1 ht).1, h.bk.last⟩
    · rw [nms_offS]
      exact row_tb h.bk.row hb1 (fun g hg e => by
        have := h.bk.rlb g hg
        rw [e, h.bk.mlb] at this
        simp at this)
    · by_cases e : f' = f
      · subst e
        rw [lk_dl_same, scs_offS_same]
        rfl
      · rw [lk_dl_other e, hS2, scs_offS_other l e]
    · have := dl_le sec f
      omega
  have fin : Hid (w1.ownsRow 0 (87 : TypeId) 70 v (scs l f).length ((scs l f).flatMap Stp.cells) ∧ (∀ g, v.ownBlock = some g → L g = (16, f)) ∧ Di w1 L R o dur std (offS l f) ∧ Tl L TB w w1) := hide ⟨hown1, hlab, hd1, hb1.mono (fun k _ e => by subst e; exact hTB)⟩
  clear h hS1 hS2 hS3 hlook hown hlab hR1 ht1 hb1 hTB hown1 hd1
  go_enter Tryz.func61, Tryz.ntmps61
  go_wp2_with fail
  go_ret
  exact ⟨v, rfl, fin⟩

/-- Is it the step by which a file is made? -/
def Stp.makes (f : Int) (t : Stp) : Bool := decide (t.kind = 0) && decide (t.file = f)

set_option maxHeartbeats 1000000 in
theorem makes_any {w : World} {B : Nat} {f : Int} {t : Stp} (hB : w.cell? ⟨B, 0, none⟩ = some (.int .i64 f)) :
    Calls Tryz.prog 82 #[.agg t.cells.toArray, .pointer (some ⟨B, 0, none⟩)] w fun e w' => e = .returned (.bool (t.makes f)) ∧ Tb (fun _ => False) w w' := by
  obtain ⟨cs, hcs⟩ : ∃ cs, Hid (cs = t.cells.toArray) := ⟨_, hide rfl⟩
  have h1 : cs[1]? = some (.int .u8 t.kind) := by rw [hcs.out]; rfl
  have h2 : cs[2]? = some (.int .i64 t.file) := by rw [hcs.out]; rfl
  rw [← hcs.out]
  have a1 : ∀ x, (w.alloc x).cell? ⟨B, 0, none⟩ = some (.int .i64 f) := fun x => ((Tb.refl (fun _ => False) w).alloc x).cell hB (fun h => h)
  unfold Stp.makes
  by_cases e : t.kind = 0
  · rw [e] at h1
    go_enter Tryz.func82, Tryz.ntmps82
    go_wp2_with fail
    go_ret
    refine ⟨?_, (Tb.refl _ _).alloc _⟩
    by_cases e2 : t.file = f <;> simp [e, e2]
  · have e1 : (t.kind == 0) = false := by simpa using e
    go_enter Tryz.func82, Tryz.ntmps82
    go_wp2_with fail
    go_ret
    refine ⟨?_, (Tb.refl _ _).alloc _⟩
    simp [e]

/-- Where a file's making is among steps, counted from 1; 0: nowhere. -/
def toMake (f : Int) (ts : List Stp) : Nat := match ts.findIdx? (·.makes f) with
  | some i => i + 1
  | none => 0

theorem toMake_le (f : Int) (ts : List Stp) : toMake f ts ≤ ts.length := by
  unfold toMake
  cases h : ts.findIdx? (·.makes f) with
  | none => simp
  | some i =>
    have := (List.findIdx?_eq_some_iff_getElem.1 h).1
    simp only
    omega

set_option maxHeartbeats 2000000 in
theorem index_any {w : World} {B : Nat} {f : Int} {ts : List Stp} {x : Value} (hB : w.cell? ⟨B, 0, none⟩ = some (.int .i64 f)) (hx : w.ownsRow 0 (87 : TypeId) 70 x ts.length (ts.flatMap Stp.cells)) (hok : ∀ t ∈ ts, t.Ok) (hlen : ts.length < 1000000000000) :
    Calls Tryz.prog 81 #[x, .func (.func 82) #[] #[.pointer (some ⟨B, 0, none⟩)]] w fun e w' => e = .returned (.int .i64 ((toMake f ts : Nat) - 1 : Int)) ∧ Tb (fun _ => False) w w' := by
  obtain ⟨N, hN⟩ : ∃ N, Hid (N = ts.length) := ⟨_, hide rfl⟩
  rw [← hN.out] at hx hlen
  obtain ⟨ad, cap, rfl⟩ := row_val hx
  have hcap : N ≤ cap ∧ cap ≤ 9223372036854775807 := by
    rcases hx.2 with ⟨h1, h2⟩ | ⟨g, c, cur, h1, _, _, hn, hc, _⟩
    · simp only [Value.slice.injEq] at h1; omega
    · simp only [Value.slice.injEq] at h1; unfold maxLen at hc; omega
  obtain ⟨hcap1, hcap2⟩ := hcap
  obtain ⟨i, z, hi, hz, q1, q2, q3⟩ := info81
  have HX := hide hx
  have HK : Hid (∀ t ∈ ts, t.Ok) := hide hok
  have HB := hide hB
  clear hx hok hB
  go_enter Tryz.func81, Tryz.ntmps81
  go_wp2_with fail
  go_loopw [8] (fun iv wr => ∃ k : Nat, k ≤ N ∧ iv = .int .i64 k ∧ Hid (∀ (i : Nat) (h : i < ts.length), i < k → ts[i].makes f = false) ∧ Hid (Tb (fun _ => False) w wr)) (fun iv _ => N - (intOf iv).toNat)
  case atStart => exact ⟨0, Nat.zero_le _, rfl, hide (fun _ _ h => by omega), hide (Tb.refl _ _)⟩
  case round =>
    obtain ⟨k, hk, rfl, hno, ht⟩ := hrel
    by_cases hlt : k < N
    · obtain ⟨g, hg⟩ : ∃ g, ad = some ⟨g, 0, none⟩ := by
        rcases HX.out.2 with ⟨h1, h2⟩ | ⟨g, c, cur, h1, _⟩
        · omega
        · simp only [Value.slice.injEq] at h1
          exact ⟨g, h1.1⟩
      subst hg
      have hkr : k < ts.length := by rw [← hN.out]; exact hlt
      obtain ⟨t, htk⟩ : ∃ t, Hid (t = ts[k]) := ⟨_, hide rfl⟩
      have hkok : t.Ok := by rw [htk.out]; exact HK.out ts[k] (List.getElem_mem _)
      have hrg : Hid (wr.rangeAt g (k * 70) t.cells) := hide (by
        rw [htk.out]
        exact own_range (row_tb HX.out ht.out (fun _ _ h => h)) hN.out.symm HK.out hkr)
      have hs81 : (Tryz.prog.info? (87 : TypeId)).map (·.size) = some t.cells.length := by rw [hi]; simp [q1, hkok.len]
      have hBr : wr.cell? ⟨B, 0, none⟩ = some (.int .i64 f) := ht.out.cell HB.out (fun h => h)
      have HC := hide (makes_any (t := t) hBr)
      clear hBr
      by_cases hh : t.makes f = true
      · rw [hh] at HC
        go_wp2_with (first
          | (refine wpList_load_mid rfl (87 : TypeId) (.tmp 14) rfl g (k * 70) (by simp [Act.eval]) t.cells _ hrg.out Tryz.underlying87 rfl hs81 ?_)
          | (go_at_call 82; refine HC.out.mono ?_; rintro e w1 ⟨rfl, t1⟩))
        go_ret
        refine ⟨?_, ht.out.trans t1 (fun _ _ h => h)⟩
        have hfi : ts.findIdx? (·.makes f) = some k := List.findIdx?_eq_some_iff_getElem.2 ⟨hkr, by rw [← htk.out]; exact hh, fun j hj => by simp [hno.out j (by omega) hj]⟩
        unfold toMake
        rw [hfi]
        simp
      · have hh' : t.makes f = false := by simpa using hh
        rw [hh'] at HC
        go_wp2_with (first
          | (refine wpList_load_mid rfl (87 : TypeId) (.tmp 14) rfl g (k * 70) (by simp [Act.eval]) t.cells _ hrg.out Tryz.underlying87 rfl hs81 ?_)
          | (go_at_call 82; refine HC.out.mono ?_; rintro e w1 ⟨rfl, t1⟩))
        go_roundw
        case rel =>
          refine ⟨k + 1, by omega, by simp, hide (fun i h hik => ?_), hide (ht.out.trans t1 (fun _ _ h => h))⟩
          rcases Nat.lt_or_ge i k with h' | h'
          · exact hno.out i h h'
          · have : i = k := by omega
            subst this
            rw [← htk.out]
            exact hh'
        case measure => simp [intOf]; omega
    · obtain rfl : k = N := by omega
      go_wp2_with fail
      go_ret
      refine ⟨?_, ht.out⟩
      have hfi : ts.findIdx? (·.makes f) = none := List.findIdx?_eq_none_iff.2 (fun t htm => by
        obtain ⟨i, hi, rfl⟩ := List.getElem_of_mem htm
        exact hno.out i hi (by rw [hN.out]; exact hi))
      unfold toMake
      rw [hfi]
      simp

set_option maxHeartbeats 1000000 in
theorem toMaking_any {w : World} {L : Lb} {R : Nat} {o : Ob} {dur std : Shp} {l : List Stp} {f : Int} (h : Di w L R o dur std l) (hlast : o.last < 1000000000) :
    Calls Tryz.prog 60 #[.pointer (some ⟨R, 5, none⟩), .int .i64 f] w fun e w' => e = .returned (.int .i64 (toMake f (nms l) : Nat)) ∧ Tb (fun _ => False) w w' := by
  have hl := h.bk.length
  have hnl : (nms l).length ≤ l.length := List.length_filter_le _ _
  have c6 : w.cell? ⟨R, 6, none⟩ = some o.ns := h.oj.c 6
  have a6 : ∀ x, (w.alloc x).cell? ⟨R, 6, none⟩ = some o.ns := fun x => ((Tb.refl (fun _ => False) w).alloc x).cell c6 (fun h => h)
  obtain ⟨W, HW⟩ : ∃ W, W = w.alloc (.cells #[.int .i64 f] 3) := ⟨_, rfl⟩
  have b0 : Tb (fun _ => False) w W := by rw [HW]; exact (Tb.refl _ _).alloc _
  have hB : W.cell? ⟨w.heap.size, 0, none⟩ = some (.int .i64 f) := by rw [HW, cell_of_row _ _ 0 _ 3 (0, 0) (heap_alloc_new w _)]; rfl
  have hI := index_any (ts := nms l) hB (row_tb h.bk.row b0 (fun _ _ h => h)) (fun t ht => h.bk.ok t (List.mem_filter.1 ht).1) (by omega)
  have hle := toMake_le f (nms l)
  obtain ⟨T, hT⟩ : ∃ T, T = toMake f (nms l) := ⟨_, rfl⟩
  rw [← hT] at hI hle ⊢
  have hT2 : T ≤ 1000000000 := by omega
  have HI := hide hI
  have hb0 := hide b0
  clear h hI hB hT hle b0
  have HW' := hide HW
  clear HW
  have hmf : ∀ (W : World) (p : Value), (Instr.makeFunc (.func (82 : FuncId)) #[] #[p]).run Tryz.prog W = .ok (.func (.func 82) #[] #[p]) W := fun W p => by go_simp
  go_enter Tryz.func60, Tryz.ntmps60
  go_wp2_with (go_at_call 81; rw [← HW'.out]; refine HI.out.mono ?_; rintro e w1 ⟨rfl, t1⟩)
  go_ret
  refine ⟨by simp; omega, hb0.out.trans t1 (fun _ _ h => h)⟩

end Go.Proofs.YtkdolabhcbjipaaGreat

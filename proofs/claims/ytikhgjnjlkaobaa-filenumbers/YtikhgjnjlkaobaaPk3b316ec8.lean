/-
  Texts put into one.
-/
import Derived.Test.YtikhgjnjlkaobaaPk415491ff
import Derived.Test.YtikhgjnjlkaobaaPk892c5e5c
import Derived.Test.YtikhgjnjlkaobaaPk128c7ab3
import Derived.Test.YtikhgjnjlkaobaaPk5cc59062

/-
  FileCrashes, walked: a crash that keeps all leaves the disk as it stood; so does any behind a sync of all files and names.
-/
namespace Go.Proofs.Ytikhgjnjlkaobaa
open Go.RowKit Go.Sort
set_option maxRecDepth 100000
set_option maxRecDepth 100000
set_option linter.unusedVariables false

/-- Files are synced, one name behind the other. -/
def Dsk.syncs (d : Dsk) : List (List UInt8) → Dsk
  | [] => d
  | x :: l => (d.settled (d.find ⟨x.toArray⟩)).syncs l

section
variable {d : Dsk} {K : Nat}

theorem syncs_snoc (l : List (List UInt8)) (x : List UInt8) : ∀ d : Dsk, d.syncs (l ++ [x]) = (d.syncs l).settled ((d.syncs l).find ⟨x.toArray⟩) := by
  induction l with
  | nil => exact fun _ => rfl
  | cons y l ih => exact fun d => ih _

theorem syncs_std (l : List (List UInt8)) : ∀ d : Dsk, (d.syncs l).std = d.std := by
  induction l with
  | nil => exact fun _ => rfl
  | cons y l ih => exact fun d => (ih _).trans rfl

theorem syncs_find (d : Dsk) (l : List (List UInt8)) (s : ByteArray) : (d.syncs l).find s = d.find s := by
  unfold Dsk.find
  rw [syncs_std]

theorem Bl.syncs (l : List (List UInt8)) : ∀ {d : Dsk}, Bl d K → Bl (d.syncs l) K := by
  induction l with
  | nil => exact fun h => h
  | cons y l ih => exact fun h => ih (h.settled _)

theorem settled_sub (d : Dsk) (f : Int) : ∀ t ∈ (d.settled f).l, t ∈ d.l ∧ ¬ (t.sec = true ∧ t.file = f) := fun t ht => by
  obtain ⟨h1, h2⟩ := List.mem_filter.1 ht
  refine ⟨(offN_sub _ _).subset h1, fun e => ?_⟩
  simp [e.1, e.2] at h2

theorem syncs_l (l : List (List UInt8)) : ∀ (d : Dsk) (t : Stp), t ∈ (d.syncs l).l → t ∈ d.l ∧ ∀ x ∈ l, ¬ (t.sec = true ∧ t.file = d.find ⟨x.toArray⟩) := by
  induction l with
  | nil => exact fun d t ht => ⟨ht, fun x hx => by cases hx⟩
  | cons y l ih =>
    intro d t ht
    obtain ⟨h1, h2⟩ := ih _ t ht
    obtain ⟨h3, h4⟩ := settled_sub d _ t h1
    refine ⟨h3, fun x hx => ?_⟩
    rcases List.mem_cons.1 hx with rfl | hx
    · exact h4
    · exact h2 x hx

theorem quiet_all (hb : Bl d K) : Quiet (d.syncs d.sorted).named := by
  have hn : nms (d.syncs d.sorted).named.l = [] := by
    show nms (offN (nms (d.syncs d.sorted).l).length (d.syncs d.sorted).l) = []
    rw [nms_offN]
    simp
  intro t ht
  have hsec := nms_sec hn t ht
  refine ⟨hsec, fun k e => ?_⟩
  have ht' : t ∈ (d.syncs d.sorted).l := (offN_sub _ _).subset ht
  have e' : lk d.std.nm k = some t.file := by
    have : lk (d.syncs d.sorted).std.nm k = some t.file := e
    rwa [syncs_std] at this
  have hk : k ∈ d.sorted := by
    unfold Dsk.sorted
    rw [List.mem_mergeSort, mem_key, e']
    simp
  refine (syncs_l _ d t ht').2 k hk ⟨hsec, ?_⟩
  have hkl : (⟨k.toArray⟩ : ByteArray).data.toList = k := by simp
  unfold Dsk.find
  rw [hkl, e']
  rfl

theorem named_std (d : Dsk) : d.named.std = d.std := rfl
end

/-- A disk behind some calls and syncs. -/
def Wv (w : World) (R K m : Nat) (W : World) : Prop := ∃ d, Ax w [] R d W ∧ Bl d K ∧ d.std.nm.length ≤ m ∧ Short d.std

section
variable {w W V : World} {R K m : Nat}

theorem Wv.below (h : Wv w R K m W) : Below w.heap.size w W := by
  obtain ⟨d, a1, _⟩ := h
  exact a1.below
theorem Wv.kept (h : Wv w R K m W) (hb : Tb (fun _ => False) W V) : Wv w R K m V := by
  obtain ⟨d, a1, a2, a3, a4⟩ := h
  exact ⟨d, a1.kept hb, a2, a3, a4⟩
theorem Bl.wide {d : Dsk} {K' : Nat} (h : Bl d K) (hk : K ≤ K') : Bl d K' := by
  obtain ⟨D, h1, h2⟩ := h.ex
  exact ⟨h.bd.wide hk, ⟨D, h1, by omega⟩, h.even⟩
theorem Wv.wide {K' m' : Nat} (h : Wv w R K m W) (hk : K ≤ K') (hm : m ≤ m') : Wv w R K' m' W := by
  obtain ⟨d, a1, a2, a3, a4⟩ := h
  exact ⟨d, a1, a2.wide hk, by omega, a4⟩

theorem wv_new (h : Aw w R newDsk V) : Wv w R 10 0 V := ⟨newDsk, h.ax, bl_new, by simp [newDsk], by intro p hp; simp [newDsk] at hp⟩

theorem wv_call {K' m' : Nat} (h : Wv w R K m W) (hK : K < 700) (hm : m < 256) (hK' : K + 3 = K') (hm' : m + 2 = m') (n : Nat) (hn : n < 1000003) :
    Calls Try.prog 25 #[.pointer (some ⟨R, 0, none⟩), .int .i64 (n : Int)] W fun e w' => e = .returned (.tuple #[]) ∧ Wv w R K' m' w' := by
  subst hK' hm'
  obtain ⟨d, h1, h2, h3, h4⟩ := h
  refine (call_any n hn h1 h2.bd (by omega) (by omega)).mono ?_
  rintro e w' ⟨rfl, d', hd, ha, _⟩
  exact ⟨rfl, d', ha, hd.bl h2 (by omega), by have := hd.len; omega, hd.short h4⟩

theorem wv_sync (h : Wv w R K m W) (hK : K < 700) (i : Nat) :
    Calls Try.prog 15 #[.pointer (some ⟨R, 0, none⟩), .string (nmS i)] W fun e w' => (∃ x, e = .returned (.int .i64 x)) ∧ Wv w R K m w' := by
  obtain ⟨d, h1, h2, h3, h4⟩ := h
  by_cases h0 : d.find (nmS i) = 0
  · refine (ax_sync_no h1 (by rw [nmS_size]; omega) h0).mono ?_
    rintro e w' ⟨rfl, rfl⟩
    exact ⟨⟨_, rfl⟩, d, h1, h2, h3, h4⟩
  · refine (ax_sync h1 (h2.bd.few (by omega)) (by rw [nmS_size]; omega) h0).mono ?_
    rintro e w' ⟨rfl, ha, _⟩
    exact ⟨⟨_, rfl⟩, _, ha, h2.sync _, by rw [sync_std]; exact h3, by rw [sync_std]; exact h4⟩

theorem wv_names (h : Wv w R K m W) (hK : K < 700) :
    Calls Try.prog 21 #[.pointer (some ⟨R, 0, none⟩)] W fun e w' => (∃ x, e = .returned (.int .i64 x)) ∧ Wv w R K m w' := by
  obtain ⟨d, h1, h2, h3, h4⟩ := h
  have C := ax_syncNames h1 (h2.bd.few (by omega))
  rw [h2.bd.syncNames] at C
  refine C.mono ?_
  rintro e w' ⟨rfl, ha, _⟩
  exact ⟨⟨_, rfl⟩, _, ha, h2.named, h3, h4⟩
end

theorem kp_row {W : World} {b g n cap : Nat} (h : W.ownsRow b 4 1 (.slice (some ⟨g, 0, none⟩) n cap) n (List.replicate n (.bool true))) : Kp W (some ⟨g, 0, none⟩) (List.replicate n true) := fun i x hx => by
  rw [List.getElem?_replicate] at hx
  split at hx
  · cases hx
    rename_i hi
    obtain ⟨g', e, _, _, _, hc⟩ := row_at h (by omega)
    simp only [Option.some.injEq, Addr.mk.injEq, and_true] at e
    subst e
    exact ⟨g, 0, rfl, by rw [Nat.zero_add]; exact hc i (.bool true) (by rw [List.getElem?_replicate, if_pos hi])⟩
  · cases hx

end Go.Proofs.Ytikhgjnjlkaobaa

/-
  FileCrashes, walked.
-/
namespace Go.Proofs.Ytikhgjnjlkaobaa
open Go.RowKit Go.Sort
set_option maxRecDepth 100000
set_option maxRecDepth 100000
set_option linter.unusedVariables false

namespace fileCrashes

set_option maxHeartbeats 8000000 in
theorem walk (a : Option Addr) (n cap : Nat) (zs : List Int) (p : Option Addr) (q pcap : Nat) (ks : List Bool) (w : World)
    (hA : Is w a n cap zs) (hks : ks.length = q) (hcap : q ≤ pcap ∧ pcap ≤ 9223372036854775807) (hp : Kp w p ks) :
    Calls Try.prog 6 #[.slice a n cap, .slice p q pcap] w fun e w' => e = .returned (.bool true) ∧ Below w.heap.size w w' := by
  have hea := hA.le
  have hra := hA.reach
  have HKS := hide (And.intro hks (And.intro hcap hp))
  clear hks hp
  obtain ⟨hcap1, hcap2⟩ := hcap
  go_enter Try.func6, Try.ntmps6
  go_wp2_with fail
  refine aw_new.mono ?_
  rintro e w1 ⟨R, rfl, hR, a1⟩
  have A1 := hide (wv_new a1)
  clear a1
  go_wp2_with fail
  go_loopw [6, 7] (fun i _ wr => ∃ k : Nat, k ≤ n ∧ k ≤ 40 ∧ i = .int .i64 k ∧ Hid (Wv w R (10 + 3 * k) (2 * k) wr)) (fun i _ _ => n - (intOf i).toNat)
  case atStart => exact ⟨0, Nat.zero_le _, by omega, rfl, A1⟩
  case round =>
    obtain ⟨k, hk, hk40, rfl, hwv⟩ := hrel
    by_cases hlt : k < n ∧ k < 40
    · obtain ⟨hlt, hlt40⟩ := hlt
      obtain ⟨bl, ol, rfl, hc1⟩ := (hA.keep hwv.out.below).lies (by omega)
      have hk1 := hc1 k hlt
      clear hc1
      generalize zs.getD k 0 = z at *
      go_wp2_with fail
      refine (pick3 z wr).mono ?_
      rintro e w2 ⟨pp, hpp, rfl, rfl⟩
      clear hk1
      by_cases k0 : pp % 13 = 0
      · have d0 : ((pp : Int) % 13 == 0) = true := by simp; omega
        have CN := hide (name_any pp (by omega) w2)
        go_wp2_with fail
        refine CN.out.mono ?_
        rintro e w3 ⟨rfl, t3⟩
        have C := hide (wv_sync (hwv.out.kept t3) (by omega) (pp % 3))
        clear t3 CN hwv
        go_wp2_with fail
        refine C.out.mono ?_
        rintro e w4 ⟨⟨x4, rfl⟩, h4⟩
        have H4 := hide (h4.wide (K' := 10 + 3 * (k + 1)) (m' := 2 * (k + 1)) (by omega) (by omega))
        clear h4 C
        go_wp2_with fail
        go_roundw
        case rel => exact ⟨k + 1, by omega, by omega, by go_num, H4⟩
        case measure => simp [intOf]; omega
      · have d0 : ((pp : Int) % 13 == 0) = false := by simp; omega
        by_cases k1 : pp % 13 = 1
        · have d1 : ((pp : Int) % 13 == 1) = true := by simp; omega
          have C := hide (wv_names hwv.out (by omega))
          clear hwv
          go_wp2_with fail
          refine C.out.mono ?_
          rintro e w4 ⟨⟨x4, rfl⟩, h4⟩
          have H4 := hide (h4.wide (K' := 10 + 3 * (k + 1)) (m' := 2 * (k + 1)) (by omega) (by omega))
          clear h4 C
          go_wp2_with fail
          go_roundw
          case rel => exact ⟨k + 1, by omega, by omega, by go_num, H4⟩
          case measure => simp [intOf]; omega
        · have d1 : ((pp : Int) % 13 == 1) = false := by simp; omega
          have C := hide (wv_call (K' := 10 + 3 * (k + 1)) (m' := 2 * (k + 1)) hwv.out (by omega) (by omega) (by omega) (by omega) (pp / 13) (by omega))
          clear hwv
          go_wp2_with fail
          rw [show ((pp : Int) / 13) = ((pp / 13 : Nat) : Int) by omega]
          refine C.out.mono ?_
          rintro e w4 ⟨rfl, h4⟩
          have H4 := hide h4
          clear h4 C
          go_wp2_with fail
          go_roundw
          case rel => exact ⟨k + 1, by omega, by omega, by go_num, H4⟩
          case measure => simp [intOf]; omega
    · have hend : (k < n ∧ 40 ≤ k) ∨ ¬ k < n := by omega
      clear hlt A1
      obtain ⟨d, ha, hb, hnm, hsh⟩ := hwv.out
      have hb := hb.wide (K' := 130) (by omega)
      have HB := hide hb
      have HSH := hide hsh
      have HA := hide ha
      have C1 := hide (all_any ha hb.bd (by omega) hsh)
      obtain ⟨N, hN⟩ : ∃ N, Hid (N = d.sorted.length) := ⟨_, hide rfl⟩
      have hNb : N ≤ 130 := by rw [hN.out, sorted_len]; exact hb.bd.std.nm
      obtain ⟨P, hP⟩ : ∃ P, Hid (P = d.l.length) := ⟨_, hide rfl⟩
      have hPb : P ≤ 130 := by
        have h1 := hb.bd.len
        have h2 := hb.bd.last
        rw [hP.out]
        omega
      clear hwv ha hb hnm hsh
      rcases hend with ⟨he1, he2⟩ | he1
      all_goals
        go_wp2_with fail
        refine C1.out.mono ?_
        rintro e w2 ⟨a8, n8, c8, rfl, hn8, r8, t8⟩
        have HN8 := hide hn8
        have R8 := hide (r8.mono (Nat.zero_le _))
        have C2 := hide (ax_copy (HA.out.with t8 r8) HB.out.bd (by omega))
        clear hn8 r8 t8 C1
        go_wp2_with fail
        refine C2.out.mono ?_
        rintro e w3 ⟨R2, rfl, h3, k3⟩
        have R3' := hide (k3 _ (by simp) _ _ _ _ _ R8.out)
        have C3 := hide (two_copy h3 HB.out.bd (by omega))
        clear h3 k3 C2
        go_wp2_with fail
        refine C3.out.mono ?_
        rintro e w4 ⟨R3, rfl, h4, k4⟩
        have R4 := hide (k4 _ (by simp) _ _ _ _ _ R3'.out)
        have H4 := hide h4
        have C4 := hide (ax_sorted h4.rot.rot.first HB.out.bd (by omega))
        rw [← hN.out] at C4
        clear h4 k4 C3 R3' R8
        go_wp2_with fail
        refine C4.out.mono ?_
        rintro e w5 ⟨a11, c11, rfl, r11, t11⟩
        obtain ⟨hq1, hq2⟩ := row_cap r11
        have H5 := hide (H4.out.with t11 r11).rot.rot
        have R5 := hide (And.intro r11 (row_tb R4.out t11 (fun _ _ h => h)))
        clear r11 t11 C4 H4 R4
        go_wp2_with fail
        go_loopw [12] (fun i wr => ∃ j : Nat, j ≤ N ∧ i = .int .i64 j ∧ Hid (Thr w [.slice a11 N c11, .slice a8 n8 c8] R3 (d.syncs (d.sorted.take j)) R d R2 d wr) ∧ Hid (wr.ownsRow w4.heap.size 9 1 (.slice a11 N c11) N ((d.sorted.map (fun x => (⟨x.toArray⟩ : ByteArray))).map .string) ∧ wr.ownsRow 0 9 1 (.slice a8 n8 c8) n8 (d.all.map .string))) (fun i _ => N - (intOf i).toNat)
        case atStart => exact ⟨0, Nat.zero_le _, rfl, H5, R5⟩
        case round =>
          obtain ⟨j, hj, rfl, hth, hrw⟩ := hrel
          clear H5 R5
          by_cases hlt : j < N
          · obtain ⟨x, hx⟩ : ∃ x, Hid (d.sorted[j]? = some x) := ⟨_, hide (List.getElem?_eq_getElem (show j < d.sorted.length by rw [← hN.out]; exact hlt))⟩
            obtain ⟨f, hf⟩ := sorted_mem (d := d) (x := x) (List.mem_of_getElem? hx.out)
            have hfp := (HB.out.bd.file _ (lk_mem hf)).1
            have hxs := HSH.out _ (lk_mem hf)
            have hxl : (⟨x.toArray⟩ : ByteArray).data.toList = x := by simp
            have hfind : d.find ⟨x.toArray⟩ = f := by unfold Dsk.find; rw [hxl, hf]; rfl
            have hsz : (⟨x.toArray⟩ : ByteArray).size = 1 := hxs
            obtain ⟨s, hs⟩ : ∃ s : ByteArray, Hid (s = ⟨x.toArray⟩) := ⟨_, hide rfl⟩
            rw [← hs.out] at hfind hsz
            obtain ⟨g1, hg0, hg2, hg1, hg3, hc1⟩ := row_at hrw.out.1 (by omega)
            subst hg0
            have p1 := hc1 j (.string s) (by rw [List.getElem?_map, List.getElem?_map, hx.out, hs.out]; rfl)
            have C5 := hide (thr_sync (s := s) hth.out (HB.out.syncs _) (by omega) (by omega) (by rw [syncs_find, hfind]; simp only at hfp; omega))
            have HNX : Hid ((d.syncs (d.sorted.take j)).settled ((d.syncs (d.sorted.take j)).find s) = d.syncs (d.sorted.take (j + 1))) := hide (by
              have e : d.sorted.take (j + 1) = d.sorted.take j ++ [x] := by
                rw [List.take_add_one, hx.out]
                rfl
              rw [e, syncs_snoc, hs.out])
            have HRW := hide hrw.out
            clear hc1 hf hfp hxl hfind hg1 hg2 hg3 hxs hsz hth hrw
            go_wp2_with fail
            refine C5.out.mono ?_
            rintro e w6 ⟨rfl, h6, k6⟩
            rw [HNX.out] at h6
            have H6 := hide h6
            have R6 := hide (And.intro (k6 _ (by simp) _ _ _ _ _ HRW.out.1) (k6 _ (by simp) _ _ _ _ _ HRW.out.2))
            clear h6 k6 C5 HRW p1
            go_wp2_with fail
            go_roundw
            case rel => exact ⟨j + 1, by omega, by go_num, H6, R6⟩
            case measure => simp [intOf]; omega
          · obtain rfl : j = N := by omega
            have etake : d.sorted.take j = d.sorted := List.take_of_length_le (by rw [← hN.out]; exact Nat.le_refl _)
            rw [etake] at hth
            clear etake
            have HY := hide (HB.out.syncs d.sorted)
            have CP := thr_pending hth.out.rot.rot HB.out (by omega)
            rw [← hP.out] at CP
            have HCP := hide CP
            clear CP
            go_wp2_with fail
            refine HCP.out.mono ?_
            rintro e w6 ⟨rfl, t6⟩
            have H6 := hide (hth.out.rot.rot.kept t6)
            have R6 := hide (row_tb hrw.out.2 t6 (fun _ _ h => h))
            clear t6 hth hrw HCP
            go_wp2_with fail
            refine (truths_any P (by omega) w6).mono ?_
            rintro e w7 ⟨g7, c7, rfl, hg7, r7, t7⟩
            have h7 := H6.out.with t7 r7
            have hcap7 := row_cap r7
            have C7 := hide (thr_crash (p := some ⟨g7, 0, none⟩) (m := P) (cap := c7) (ks := List.replicate P true) h7 HB.out (by omega) (by simp) hcap7 (kp_row r7) (fun ad _ e => .inr ⟨.slice (some ⟨g7, 0, none⟩) P c7, List.mem_cons_self, by cases e; rfl⟩))
            have R7 := hide (row_tb R6.out t7 (fun _ _ h => h))
            clear h7 r7 t7 H6 R6 hg7 hcap7
            go_wp2_with fail
            refine C7.out.mono ?_
            rintro e w8 ⟨rfl, h8, k8⟩
            have R8' := hide (k8 _ (by simp) _ _ _ _ _ R7.out)
            have C8 := hide (thr_syncNames h8.rot HY.out (by omega))
            clear h8 k8 C7 R7
            go_wp2_with fail
            refine C8.out.mono ?_
            rintro e w9 ⟨rfl, h9, k9⟩
            have R9 := hide (k9 _ (by simp) _ _ _ _ _ R8'.out)
            have C9 := hide (thr_crash h9 HY.out.named (by omega) HKS.out.1 HKS.out.2.1 (fun i b hb => by
              obtain ⟨g, off, e, hc⟩ := HKS.out.2.2 i b hb
              exact ⟨g, off, e, h9.tb.cell hc (fun h => h)⟩) (fun ad hne e => .inl (by
                cases hk : ks with
                | nil => exact absurd hk hne
                | cons b ks' =>
                  obtain ⟨g, off, e2, hc⟩ := HKS.out.2.2 0 b (by rw [hk]; rfl)
                  rw [e] at e2
                  cases e2
                  exact cell_lt hc)))
            clear h9 k9 C8 R8'
            go_wp2_with fail
            refine C9.out.mono ?_
            rintro e w10 ⟨rfl, h10, k10⟩
            have R10 := hide (k10 _ (by simp) _ _ _ _ _ R9.out)
            have H10 := hide h10
            have HX : Hid (Eqv (d.crash (List.replicate P true)).std d.std) := hide (HB.out.even.crash_all P (by rw [hP.out]; exact Nat.le_refl _))
            have HYE : Hid (Eqv ((d.syncs d.sorted).named.crash ks).std d.std) := hide (by
              have h1 := HY.out.named.even.crash_any (quiet_all HB.out) ks
              rw [named_std, syncs_std] at h1
              exact h1)
            have hud := h10.rot.first.un
            have hux := h10.rot.rot.first.un
            have huy := h10.first.un
            have HAX := hide (HX.out.all hux hud)
            have HAY := hide (HYE.out.all huy hud)
            have C10 := hide (all_any h10.rot.rot.first (HB.out.bd.crash (List.replicate P true)) (by omega) (HX.out.symm.short HSH.out))
            clear h10 k10 C9 R9 hud hux huy
            go_wp2_with fail
            refine C10.out.mono ?_
            rintro e w11 ⟨a12, n12, c12, rfl, hn12, r12, t12⟩
            rw [HAX.out] at hn12 r12
            obtain rfl : n12 = n8 := hn12.symm.trans HN8.out
            have H11 := hide (H10.out.kept t12)
            have R11 := hide (row_tb R10.out t12 (fun _ _ h => h))
            have S11 := hide (texts_same HN8.out r12 R11.out)
            clear hn12 r12 t12 C10 H10 R10
            go_wp2_with fail
            refine S11.out.mono ?_
            rintro e w12 ⟨rfl, t13⟩
            have H12 := hide (H11.out.kept t13)
            have R12 := hide (row_tb R11.out t13 (fun _ _ h => h))
            have C12 := hide (all_any H12.out.first (HY.out.named.bd.crash ks) (by omega) (HYE.out.symm.short HSH.out))
            clear t13 S11 H11 R11
            go_wp2_with fail
            refine C12.out.mono ?_
            rintro e w13 ⟨a14, n14, c14, rfl, hn14, r14, t14⟩
            rw [HAY.out] at hn14 r14
            obtain rfl : n14 = n12 := hn14.symm.trans HN8.out
            have H13 := hide (H12.out.kept t14)
            have R13 := hide (row_tb R12.out t14 (fun _ _ h => h))
            have S13 := hide (texts_same HN8.out r14 R13.out)
            clear hn14 r14 t14 C12 H12 R12
            go_wp2_with fail
            refine S13.out.mono ?_
            rintro e w14 ⟨rfl, t15⟩
            have H14 := hide (H13.out.kept t15)
            have R14 := hide (row_tb R13.out t15 (fun _ _ h => h))
            have C14 := hide (all_any H14.out.rot.first HB.out.bd (by omega) HSH.out)
            clear t15 S13 H13 R13
            go_wp2_with fail
            refine C14.out.mono ?_
            rintro e w15 ⟨a16, n16, c16, rfl, hn16, r16, t16⟩
            obtain rfl : n16 = n14 := hn16.symm.trans HN8.out
            have HB15 := hide (H14.out.kept t16).first.below
            have S15 := hide (texts_same HN8.out r16 (row_tb R14.out t16 (fun _ _ h => h)))
            clear hn16 r16 t16 C14 H14 R14
            go_wp2_with fail
            refine S15.out.mono ?_
            rintro e w16 ⟨rfl, t17⟩
            have HB16 : Hid (Below w.heap.size w w16) := hide (HB15.out.trans ((t17.below (fun _ h => h.elim) (Nat.le_refl _)).mono HB15.out.size))
            clear t17 S15 HB15
            go_wp2_with fail
            refine (awake_any _).mono ?_
            rintro e w17 ⟨rfl, t18⟩
            go_wp2_with fail
            go_ret
            exact ⟨rfl, HB16.out.trans ((t18.below (fun _ h => h.elim) (Nat.le_refl _)).mono HB16.out.size)⟩

end fileCrashes
end Go.Proofs.Ytikhgjnjlkaobaa

/-
  FileCrashes returns true for all calls and whatever a crash keeps, and changes nothing that was there: a crash that keeps all leaves the disk as it stood; so does any behind a sync of all files and names; a copy turns nothing of the disk itself. No conditions.
-/
namespace Go.Proofs.Ytikhgjnjlkaobaa.fileCrashes
open Go.ChangeShapes Go.WideShapes Go.ChangeAt Go.RowKit
open Go.ChangeMaps (open_string shut_string)
set_option maxRecDepth 100000
set_option linter.unusedVariables false

theorem own : ownKnob Try.prog.godebug = none := by kernel_rfl
theorem laidOut : laidOutB Try.prog = true := by kernel_rfl
theorem bytes5 : Try.prog.bytesOf 5 = 1 := by kernel_rfl


set_option maxRecDepth 100000 in
theorem lifted (os : Os) (started : os.Started) (H : Type) (enc : TypeId × Value → H) :
    ReturnsInHanded {} Try.checked os 6 .any (Rows.fileCrashesSpec.pre6 enc Try.prog Try.f6 Rows.fileCrashesRow.domain false) (Rows.fileCrashesSpec.post enc Try.prog Try.f6 false true false false) := by
  refine returnsInHanded_of_change_sized (C := Try.checked) own started (by kernel_rfl) Try.func6
    (ChangeSpec.witness6 (enc := enc) (C := Try.checked) false ⟨#[], #[.slice none 0 0, .slice none 0 0], []⟩ 8 (by kernel_rfl) (by kernel_rfl) (by kernel_rfl) (by kernel_rfl)) ?_
  intro W base args ds gs before hval0 hW _ hsz0 _
  have hsz : (DataW.weightsEach Try.prog (Try.f6.params.toList ++ Rows.fileCrashesSpec.plain.varTypes Try.prog) (ds ++ gs)).all (· ≤ reachBytes) = true := hsz0
  clear hsz0
  have hval : ∀ (j : Nat) t v, Try.f6.params[j]? = some t → args[j]? = some v → Value.okWide Try.prog W .any base t v := hval0
  have hW' := hW
  obtain ⟨p, q, hA0, hV, rfl, hfz, hnd⟩ := hW
  have hA : DataW.TrodAll enc Try.prog W 0 (fun _ => true) true Try.f6.params.toList args.toList ds p := hA0
  rw [Try.params6] at hA hval hsz
  obtain ⟨v0, vs0, d0, ds0, p0, q0, hargs, rfl, rfl, h0, r0⟩ := trodAll_cons hA
  obtain ⟨v1, vs1, d1, ds1, p1, q1, rfl, rfl, rfl, h1, r1⟩ := trodAll_cons r0
  obtain ⟨rfl, rfl, rfl⟩ := trodAll_nil r1
  obtain rfl : args = #[v0, v1] := by cases args; simp_all
  obtain ⟨rfl, rfl⟩ := trodVars_none hV
  obtain ⟨a0, len0, cap0, rfl⟩ := okWide_slice Try.underlying60 (hval 0 60 v0 rfl rfl)
  have k0 := h0
  have lt0 : ∀ x ∈ p0, x.block < W.heap.size := by obtain ⟨m, hm⟩ := k0; exact DataW.trod_lt m _ _ _ hm
  obtain ⟨zs0, hB0, hd0⟩ := open_iz h0
  obtain ⟨a1, len1, cap1, rfl⟩ := okWide_slice Try.underlying22 (hval 1 22 v1 rfl rfl)
  have k1 := h1
  have lt1 : ∀ x ∈ p1, x.block < W.heap.size := by obtain ⟨m, hm⟩ := k1; exact DataW.trod_lt m _ _ _ hm
  obtain ⟨ks1, hk1, hc1, hp1⟩ := open_bls h1
  clear hA0 hval0
  have hn0 : len0 * 8 ≤ 140737488351232 := by
    rcases hd0 with ⟨_, hc⟩ | ⟨es, rs, hc, rfl⟩
    · omega
    · have h := sized_slice hsz (j := 0) (t := 60) (e := 3) rfl rfl Try.underlying60
      rw [show Try.prog.bytesOf 3 = 8 by kernel_rfl, hc, show reachBytes = 140737488351232 by decide, Nat.add_mul] at h
      omega
  refine (walk a0 len0 cap0 zs0 a1 len1 cap1 ks1 W hB0 hk1 hc1 hp1).mono fun e W' ⟨he, bel⟩ => ?_
  subst he
  exact ⟨_, rfl, _, _, _, [], _, [], hW', trodAll_mk1 (shut_bool Try.underlying4 _), (trodAll_cons_mk (Below.trod laidOut (by kernel_rfl) (of_decide_eq_true (by kernel_rfl)) k0 bel lt0) (trodAll_cons_mk (Below.trod laidOut (by kernel_rfl) (of_decide_eq_true (by kernel_rfl)) k1 bel lt1) trodAll_mk0)), rfl, bel.frame _, fun h => by cases h⟩


theorem over : Rows.fileCrashesRow.holds Try.pinned (OpenSpec.ofChange Rows.fileCrashesSpec) :=
  OpenClaim.holds_of_wide 6 Try.f6 rfl rfl rfl rfl rfl rfl rfl ⟨rfl, rfl, rfl, rfl, rfl⟩ rfl rfl rfl rfl rfl (by kernel_rfl) Try.func6 (by kernel_rfl)
    (of_decide_eq_true (by kernel_rfl)) (by unfold Func.isWrapper; first | (rw [if_pos (by decide +kernel)]; kernel_rfl) | (rw [if_neg (by decide +kernel)]; exact ⟨rfl, rfl⟩))
    (fun os started H enc _ => lifted os started H enc)

end Go.Proofs.Ytikhgjnjlkaobaa.fileCrashes
namespace Go.Proofs.Ytikhgjnjlkaobaa
theorem fileCrashes_holds : Rows.FileCrashesSaid := fileCrashes.over
#print axioms fileCrashes_holds
end Go.Proofs.Ytikhgjnjlkaobaa

/-
  A crash.
-/
import Derived.Test.YtgbboaedhpaocaaGreatDcy
namespace Go.Proofs.YtgbboaedhpaocaaGreat
open Go.RowKit
set_option maxRecDepth 100000
set_option maxRecDepth 100000

/-- The steps that are kept. -/
def kep : List Stp → List Bool → List Stp
  | t :: ts, b :: bs => (if b then [t] else []) ++ kep ts bs
  | _, _ => []

theorem kep_nil (ts : List Stp) : kep ts [] = [] := by cases ts <;> rfl

theorem kep_take : ∀ (i : Nat) (ts : List Stp) (ks : List Bool), kep ts ks = kep (ts.take i) ks ++ kep (ts.drop i) (ks.drop i)
  | 0, ts, ks => by simp [kep]
  | i + 1, [], ks => by simp [kep]
  | i + 1, t :: ts, [] => by simp [kep_nil]
  | i + 1, t :: ts, b :: bs => by
    simp only [kep, List.take_succ_cons, List.drop_succ_cons, List.append_assoc]
    rw [kep_take i ts bs]

theorem kep_sub : ∀ (ts : List Stp) (ks : List Bool), (kep ts ks).Sublist ts
  | [], ks => by cases ks <;> simp [kep]
  | t :: ts, [] => by simp [kep_nil]
  | t :: ts, b :: bs => by
    cases b
    · simpa [kep] using (kep_sub ts bs).cons t
    · simpa [kep] using (kep_sub ts bs).cons_cons t

theorem kep_next {ts : List Stp} {ks : List Bool} {i : Nat} (hi : i < ts.length) : kep (ts.take (i + 1)) ks = kep (ts.take i) ks ++ (if ks[i]? = some true then [ts[i]] else []) := by
  rw [kep_take i (ts.take (i + 1)) ks, List.take_take, Nat.min_eq_left (Nat.le_succ i)]
  congr 1
  rw [List.drop_take, Nat.add_sub_cancel_left, List.drop_eq_getElem_cons hi, List.take_succ_cons, List.take_zero]
  cases e : ks.drop i with
  | nil =>
    have : ks[i]? = none := by rw [List.getElem?_eq_none_iff]; exact List.drop_eq_nil_iff.1 e
    simp [this, kep_nil]
  | cons b bs =>
    have : ks[i]? = some b := by
      have := congrArg (·[0]?) e
      simpa using this
    cases b <;> simp [this, kep]

theorem Sx.kept {w : World} {L : Lb} {R : Nat} {o : Ob} {dur std : Shp} {l ts : List Stp} {k : Nat} {wr X : World} (h : Sx w L R o dur std l ts k wr) (hX : Tb (fun _ => False) wr X) : Sx w L R o dur std l ts k X := by
  obtain ⟨L1, x1, d1, t1⟩ := h
  exact ⟨L1, x1, d1.tb hX (Lx.refl _ _) (fun _ _ h => h), Tb.trans (T := fun _ => False) t1 hX (fun _ _ h => h.elim)⟩

theorem kep_at {ts : List Stp} {ks : List Bool} {i : Nat} (hi : i < ts.length) (hk : ks[i]? = some true) : (kep ts ks)[(kep (ts.take i) ks).length]? = some ts[i] ∧ (kep (ts.take (i + 1)) ks).length = (kep (ts.take i) ks).length + 1 := by
  have e := kep_next (ks := ks) hi
  rw [if_pos hk] at e
  refine ⟨?_, by rw [e]; simp⟩
  rw [kep_take (i + 1) ts ks, e]
  simp

theorem kep_off {ts : List Stp} {ks : List Bool} {i : Nat} (hi : i < ts.length) (hk : ¬ ks[i]? = some true) : (kep (ts.take (i + 1)) ks).length = (kep (ts.take i) ks).length := by
  rw [kep_next hi, if_neg hk]
  simp

/-- Which are kept, as it lies in memory. -/
def Kp (w : World) (p : Option Addr) (ks : List Bool) : Prop := ∀ i b, ks[i]? = some b → ∃ g off, p = some ⟨g, off, none⟩ ∧ w.cell? ⟨g, off + i, none⟩ = some (.bool b)

set_option maxHeartbeats 2000000 in
theorem crash_any {w : World} {L : Lb} {R : Nat} {o : Ob} {dur std : Shp} {l : List Stp} {K : Nat} {p : Option Addr} {m cap : Nat} {ks : List Bool} (h : Di w L R o dur std l) (hlast : o.last < 1000000000) (hm : Sm dur K) (hK : K < 1000000000000)
    (hks : ks.length = m) (hcap : m ≤ cap ∧ cap ≤ 9223372036854775807) (hp : Kp w p ks) (hpl : ∀ a, ks ≠ [] → p = some a → ¬ TA 2 (L a.block)) (hpb : ∀ a, ks ≠ [] → p = some a → a.block < w.heap.size) :
    Calls Tryz.prog 14 #[.pointer (some ⟨R, 0, none⟩), .slice p m cap] w fun e w' => e = .returned (.int .i64 0) ∧ ∃ L' sn sr us, Lx w L L' ∧ Di w' L' R { o with sn := sn, sr := sr, last := 0, ns := .slice none 0 0, us := us, down := false, armed := -1, failing := -1 } ((kep l ks).foldl Shp.does dur) ((kep l ks).foldl Shp.does dur) [] ∧ Tl L TD w w' := by
  have hr := right_yes h.oj
  have hio := inOrder_any h hlast
  obtain ⟨M, hM⟩ : ∃ M, M = onlyL w L := ⟨_, rfl⟩
  have hLM : Lx w L M := by rw [hM]; exact onlyL_lx w L
  have hMn : ∀ g, w.heap.size ≤ g → M g = (0, 0) := fun g hg => by rw [hM, onlyL_new hg]
  have hN := h.bk.length
  obtain ⟨N, hN'⟩ : ∃ N, Hid (N = l.length) := ⟨_, hide rfl⟩
  rw [← hN'.out] at hio hN
  obtain ⟨i81, z81, hi, hz, q1, q2, q3⟩ := info81
  have HD := hide h
  have HK : Hid (∀ t ∈ l, t.Ok) := hide h.bk.ok
  have HM := hide hm
  have HP := hide hp
  have HPL := hide hpl
  have HPB := hide hpb
  have HKS := hide hks
  obtain ⟨hcap1, hcap2⟩ := hcap
  have HNN : Hid ((N : Int) < 1000000000) := hide (by omega)
  have HLM := hide hLM
  have HMN := hide hMn
  clear h hm hp hpl hpb hks hLM hMn hM hN hlast
  obtain ⟨dur', hdur⟩ : ∃ dur', Hid (dur' = (kep l ks).foldl Shp.does dur) := ⟨_, hide rfl⟩
  rw [← hdur.out]
  go_enter Tryz.func14, Tryz.ntmps14
  go_wp2_with (first | (go_at_call 54; refine hr.mono ?_; rintro e w1 ⟨rfl, hw1⟩; subst w1) | (go_at_call 55; refine hio.mono ?_; rintro e w1 ⟨x, rfl, r1, t1⟩; obtain ⟨ad, cp, hx⟩ := row_val r1; subst hx))
  have h0 : Hid (Sx w1 M R o dur std l (kep l ks) (kep (l.take 0) ks).length w1) := hide ⟨M, Lx.refl _ _, by
    have := HD.out.tb t1 HLM.out (fun _ _ h => h)
    cases ks <;> simpa [kep] using this, Tb.refl _ _⟩
  have hcp : N ≤ cp ∧ cp ≤ 9223372036854775807 := by
    rcases r1.2 with ⟨h1, h2⟩ | ⟨g, c, cur, h1, _, _, hn, hc, _⟩
    · simp only [Value.slice.injEq] at h1; omega
    · simp only [Value.slice.injEq] at h1; unfold maxLen at hc; omega
  obtain ⟨hcp1, hcp2⟩ := hcp
  have HX := hide r1
  have HT := hide t1
  have hrb := r1.lt
  have HXB : Hid (∀ g, (Value.slice ad N cp).ownBlock = some g → M g = (0, 0)) := hide (fun g hg => HMN.out g (hrb g hg).1)
  clear r1 t1 hrb hr hio
  go_loopw [15] (fun iv wr => ∃ k : Nat, k ≤ N ∧ iv = .int .i64 k ∧ Hid (Sx w1 M R o dur std l (kep l ks) (kep (l.take k) ks).length wr)) (fun iv _ => N - (intOf iv).toNat)
  case atStart => exact ⟨0, Nat.zero_le _, rfl, h0⟩
  case round =>
    obtain ⟨k, hk, rfl, hs⟩ := hrel
    have hNN := HNN.out
    by_cases hlt : k < N
    · obtain ⟨g, hg⟩ : ∃ g, ad = some ⟨g, 0, none⟩ := by
        rcases HX.out.2 with ⟨h1, h2⟩ | ⟨g, c, cur, h1, _⟩
        · omega
        · simp only [Value.slice.injEq] at h1
          exact ⟨g, h1.1⟩
      subst hg
      have hkr : k < l.length := by rw [← hN'.out]; exact hlt
      obtain ⟨cs, hcs⟩ : ∃ cs, Hid (cs = l[k].cells.toArray) := ⟨_, hide rfl⟩
      have hkok := HK.out l[k] (List.getElem_mem _)
      have hsz : cs.size = 70 := by rw [hcs.out, List.size_toArray]; exact hkok.len
      have hone : cs.all (·.oneCell') = true := by rw [hcs.out]; exact all_oneCell_toArray (Stp.one _)
      have hrg : Hid (wr.rangeAt g (k * 70) l[k].cells) := hide (by
        obtain ⟨L1, x1, d1, t1⟩ := hs.out
        have hxr := row_tb (HX.out.mono (Nat.zero_le _)) t1 (fun g' hg' => by rw [HXB.out g' hg']; unfold TA; simp)
        exact own_range hxr hN'.out.symm HK.out hkr)
      have hs81 : (Tryz.prog.info? (115 : TypeId)).map (·.size) = some l[k].cells.length := by rw [hi]; simp [q1, hkok.len]
      obtain ⟨X, hX⟩ : ∃ X, Hid (X = (wr.alloc (.cells Tryz.zeroCells115 (115 : TypeId))).setRow wr.heap.size cs) := ⟨_, hide rfl⟩
      have hXB : X.heap[wr.heap.size]? = some (.cells cs (115 : TypeId) (0, 0)) := by rw [hX.out]; exact setRow_heap _ _ _ _ (115 : TypeId) (0, 0) (heap_alloc_new wr _)
      have tX : Tb (fun _ => False) wr X := by
        rw [hX.out]
        exact Tb.trans ((Tb.refl _ _).alloc _) (T := fun k => k = wr.heap.size) ⟨rfl, rfl, rfl, by simp, fun k _ hne => setRow_other _ _ _ _ hne⟩ (fun k hk e => by omega)
      have hcell : Hid (∀ b, ks[k]? = some b → ∃ g' off, p = some ⟨g', off, none⟩ ∧ X.cell? ⟨g', off + k, none⟩ = some (.bool b)) := hide (fun b hb => by
        obtain ⟨L1, x1, d1, t1⟩ := hs.out
        obtain ⟨g', off, e1, e2⟩ := HP.out k b hb
        refine ⟨g', off, e1, tX.cell (ad := ⟨g', off + k, none⟩) (t1.cell (ad := ⟨g', off + k, none⟩) (HT.out.cell e2 (fun h => h)) ?_) (fun h => h)⟩
        have hne : ks ≠ [] := fun e => by rw [e] at hb; simp at hb
        have h1 := HPB.out _ hne e1
        have h2 := HPL.out _ hne e1
        simp only at h1 h2
        rw [HLM.out g' h1]
        exact h2)
      by_cases hkp : ks[k]? = some true
      · obtain ⟨ha1, ha2⟩ := kep_at hkr hkp
        obtain ⟨hc1, hc2⟩ := List.getElem?_eq_some_iff.1 ha1
        obtain ⟨g', off, hp, hc⟩ := hcell.out true hkp
        subst hp
        have hkm : k < m := by rw [← HKS.out]; exact (List.getElem?_eq_some_iff.1 hkp).1
        have hkd : (k : Int) < (m : Int) := by omega
        have hcl : X.cell? ⟨R, 1, none⟩ = some (.map (some o.dn)) ∧ X.cell? ⟨R, 2, none⟩ = some (.map (some o.dr)) := by
          obtain ⟨L1, x1, d1, t1⟩ := hs.out
          have hO := d1.oj.tb tX (fun h => h)
          exact ⟨hO.c 1, hO.c 2⟩
        obtain ⟨c1, c2⟩ := hcl
        have hkl : (kep l ks).length ≤ l.length := (kep_sub l ks).length_le
        have CC := hide (Sx.more (X := X.drew) (cs := cs) hs.out hc1 (fun t ht => HK.out t ((kep_sub l ks).subset ht)) HM.out (by rw [← hN'.out] at hkl; omega) (by rw [hc2]; exact hcs.out) tX.drew hXB)
        rw [← ha2] at CC
        clear hs tX ha1 ha2 hc1 hc2 hkl hkp hcell hN' hK hNN HNN
        go_wp2_with (first
          | (refine wpList_load_mid rfl (115 : TypeId) (.tmp 18) rfl g (k * 70) (by simp [Act.eval]) l[k].cells _ hrg.out Tryz.underlying115 rfl hs81 ?_; rw [← hcs.out])
          | (refine wpList_store_rowTo rfl (115 : TypeId) (.tmp 6) (.tmp 19) rfl rfl wr.heap.size cs (by simp [Act.eval]) (by simp [Act.eval]) (115 : TypeId) Tryz.zeroCells115 (heap_alloc_new wr _) (by rw [hi]; simp [q1, hsz]) (by rw [hsz]; kernel_rfl) hone ?_; rw [← hX.out]))
        refine wp_region_held_drew (S := fun V => V.heap[wr.heap.size]? = some (.cells cs (115 : TypeId) (0, 0)) ∧ V.cell? ⟨R, 1, none⟩ = some (.map (some o.dn)) ∧ V.cell? ⟨R, 2, none⟩ = some (.map (some o.dr))) (by kernel_rfl) ⟨hXB, c1, c2⟩ (fun hHeld => ?_)
        try simp only [List.size_toArray, List.length_cons, List.length_nil, Nat.reduceAdd]
        refine wpAnyH_take (i := 4) (v := (.agg cs)) rfl (by kernel_rfl) (by kernel_rfl) (by kernel_rfl) (fun _ _ _ h => h) (Or.inl ⟨by rfl, ?hy⟩) hHeld ?_
        case hy => (intro V hV; obtain ⟨hV1, hV2, hV3⟩ := hV; exact exec_load (.pointer (some ⟨wr.heap.size, 0, none⟩)) rfl (by simp [Act.eval]) (run_loadStep hV1 hsz))
        refine wpAnyH_take (i := 0) (v := (.pointer (some ⟨R, 0, none⟩))) rfl (by kernel_rfl) (by kernel_rfl) (by kernel_rfl) (fun _ _ _ h => h) (Or.inl ⟨by rfl, ?hy⟩) hHeld ?_
        case hy => (intro V hV; obtain ⟨hV1, hV2, hV3⟩ := hV; go_simp)
        refine wpAnyH_take (i := 1) (v := (.pointer (some ⟨R, 0, none⟩))) rfl (by kernel_rfl) (by kernel_rfl) (by kernel_rfl) (fun _ _ _ h => h) (Or.inl ⟨by rfl, ?hy⟩) hHeld ?_
        case hy => (intro V hV; obtain ⟨hV1, hV2, hV3⟩ := hV; go_simp)
        refine wpAnyH_take (i := 2) (v := (.pointer (some ⟨R, 1, none⟩))) rfl (by kernel_rfl) (by kernel_rfl) (by kernel_rfl) (fun _ _ _ h => h) (Or.inl ⟨by rfl, ?hy⟩) hHeld ?_
        case hy => (intro V hV; obtain ⟨hV1, hV2, hV3⟩ := hV; go_simp)
        refine wpAnyH_take (i := 3) (v := (.agg #[.map (some o.dn), .map (some o.dr)])) rfl (by kernel_rfl) (by kernel_rfl) (by kernel_rfl) (fun _ _ _ h => h) (Or.inl ⟨by rfl, ?hy⟩) hHeld ?_
        case hy => (intro V hV; obtain ⟨hV1, hV2, hV3⟩ := hV; go_simp)
        refine wpAnyH_ready (rs := [5]) (by kernel_rfl) (by simp) ?_
        refine AllReadyH.cons rfl (fun K hK => ?_) AllReadyH.nil
        refine step_call rfl 56 #[.agg #[.map (some o.dn), .map (some o.dr)], .agg cs] (by go_simp) ?_
        refine CC.out.mono ?_
        rintro e w2 ⟨rfl, hs2, k1, k2, k3⟩
        refine ⟨_, rfl, ?_⟩
        refine hK.out _ _ ⟨k1, k2, k3⟩ (fun hHeld => ?_)
        clear hK K
        refine wpAnyH_done (by kernel_rfl) ?_ _
        simp only [Act.put, List.getElem_toArray, List.getElem_cons_succ, List.getElem_cons_zero, List.setIfInBounds_toArray, List.set_cons_succ, List.set_cons_zero]
        have HS2 := hide hs2
        clear hs2 CC hHeld
        go_wp2_with fail
        go_roundw
        case rel => exact ⟨k + 1, by omega, by simp, HS2⟩
        case measure => simp [intOf]; omega
      · have hsk := kep_off hkr hkp
        have HS2 : Hid (Sx w1 M R o dur std l (kep l ks) (kep (l.take (k + 1)) ks).length X) := hide (by rw [hsk]; exact hs.out.kept tX)
        clear hsk hs tX hXB
        cases hkk : ks[k]? with
        | none =>
          have hkm : m ≤ k := by rw [← HKS.out]; exact List.getElem?_eq_none_iff.1 hkk
          clear hkk hkp
          have hkd : ¬ ((k : Int) < (m : Int)) := by omega
          have hkd2 : ¬ (k < m) := by omega
          clear hkm hN' hcap1 hcap2 hK hNN HNN
          go_wp2_with (first
            | (refine wpList_load_mid rfl (115 : TypeId) (.tmp 18) rfl g (k * 70) (by simp [Act.eval]) l[k].cells _ hrg.out Tryz.underlying115 rfl hs81 ?_; rw [← hcs.out])
            | (refine wpList_store_rowTo rfl (115 : TypeId) (.tmp 6) (.tmp 19) rfl rfl wr.heap.size cs (by simp [Act.eval]) (by simp [Act.eval]) (115 : TypeId) Tryz.zeroCells115 (heap_alloc_new wr _) (by rw [hi]; simp [q1, hsz]) (by rw [hsz]; kernel_rfl) hone ?_; rw [← hX.out]))
          go_roundw
          case rel => exact ⟨k + 1, by omega, by simp, HS2⟩
          case measure => simp [intOf]; omega
        | some b =>
          have hb : b = false := by
            cases b with
            | false => rfl
            | true => exact absurd hkk hkp
          subst hb
          obtain ⟨g', off, hp, hc⟩ := hcell.out false hkk
          subst hp
          have hkm : k < m := by rw [← HKS.out]; exact (List.getElem?_eq_some_iff.1 hkk).1
          clear hkk hkp
          have hkd : (k : Int) < (m : Int) := by omega
          clear hN' hK hNN HNN
          go_wp2_with (first
            | (refine wpList_load_mid rfl (115 : TypeId) (.tmp 18) rfl g (k * 70) (by simp [Act.eval]) l[k].cells _ hrg.out Tryz.underlying115 rfl hs81 ?_; rw [← hcs.out])
            | (refine wpList_store_rowTo rfl (115 : TypeId) (.tmp 6) (.tmp 19) rfl rfl wr.heap.size cs (by simp [Act.eval]) (by simp [Act.eval]) (115 : TypeId) Tryz.zeroCells115 (heap_alloc_new wr _) (by rw [hi]; simp [q1, hsz]) (by rw [hsz]; kernel_rfl) hone ?_; rw [← hX.out]))
          go_roundw
          case rel => exact ⟨k + 1, by omega, by simp, HS2⟩
          case measure => simp [intOf]; omega
    · obtain rfl : k = N := by omega
      have hfin := hs.out
      rw [show l.take k = l from List.take_of_length_le (by rw [← hN'.out]; exact Nat.le_refl _)] at hfin
      unfold Sx at hfin
      rw [List.take_length] at hfin
      obtain ⟨L2, x2, d2, t2⟩ := hfin
      have hkl : (kep l ks).length ≤ l.length := (kep_sub l ks).length_le
      have hsm := fold_sm HM.out (kep l ks) (fun t ht => HK.out t ((kep_sub l ks).subset ht))
      have hcp := copied_any 4 d2.dur.nm d2.dur.rw hsm (by rw [← hN'.out] at hkl; omega) (by decide) (by decide)
      have c1 : wr.cell? ⟨R, 1, none⟩ = some (.map (some o.dn)) := d2.oj.c 1
      have c2 : wr.cell? ⟨R, 2, none⟩ = some (.map (some o.dr)) := d2.oj.c 2
      rw [← hdur.out] at hcp d2
      have H2 := hide d2
      have X2 := hide x2
      have T2 := hide t2
      clear d2 x2 t2 hkl hsm hs
      go_wp2_with fail
      refine hcp.mono ?_
      rintro e w3 ⟨sn, sr, L3, rfl, b1, b2, x3, s3, t3⟩
      go_wp2_with fail
      refine (newBacklog_any w3).mono ?_
      rintro e w4 ⟨us, rfl, u1, u2, u3, t4⟩
      have O2 := H2.out.oj
      have t24 : Tb (fun _ => False) wr w4 := t3.trans t4 (fun _ _ h => h)
      have O4 := O2.tb t24 (fun h => h)
      have d3 : w4.cell? ⟨R, 3, none⟩ = some (.map (some o.sn)) := O4.c 3
      have d4 : w4.cell? ⟨R, 4, none⟩ = some (.map (some o.sr)) := O4.c 4
      have d5 : w4.cell? ⟨R, 5, none⟩ = some (.int .i64 o.last) := O4.c 5
      have d6 : w4.cell? ⟨R, 6, none⟩ = some o.ns := O4.c 6
      have d7 : w4.cell? ⟨R, 7, none⟩ = some (.map (some o.us)) := O4.c 7
      have d9 : w4.cell? ⟨R, 9, none⟩ = some (.bool o.down) := O4.c 9
      have f3 := O4.free 3
      have f4 := O4.free 4
      have f5 := O4.free 5
      have f6 := O4.free 6
      have f7 := O4.free 7
      have f9 := O4.free 9
      have O10 := ((((((O4.set 3 (.map (some sn)) { o with sn := sn } rfl O4.armed O4.failing).set 4 (.map (some sr)) { o with sn := sn, sr := sr } rfl O4.armed O4.failing).set 5 (.int .i64 0) { o with sn := sn, sr := sr, last := 0 } rfl O4.armed O4.failing).set 6 (.slice none 0 0) { o with sn := sn, sr := sr, last := 0, ns := .slice none 0 0 } rfl O4.armed O4.failing).set 7 (.map (some us)) { o with sn := sn, sr := sr, last := 0, ns := .slice none 0 0, us := us } rfl O4.armed O4.failing).set 9 (.bool false) { o with sn := sn, sr := sr, last := 0, ns := .slice none 0 0, us := us, down := false } rfl O4.armed O4.failing)
      have tS : ∀ {a b : World}, Tb (fun k => k = R) a b → ∀ j v, Tb (fun k => k = R) a (b.setCell ⟨R, j, none⟩ v) := fun h j v => h.trans (T := fun k => k = R) (Tb.set R j v rfl) (fun _ _ h => h)
      have T10 := tS (tS (tS (tS (tS (tS (Tb.refl (fun k => k = R) w4) 3 (.map (some sn))) 4 (.map (some sr))) 5 (.int .i64 0)) 6 (.slice none 0 0)) 7 (.map (some us))) 9 (.bool false)
      have OO := hide O10
      have TT := hide T10
      have XX := hide x3
      have SS := hide s3
      have UU := hide u3
      have T3' := hide t3
      have T4' := hide t4
      clear O2 t24 O4 O10 tS T10 x3 s3 u3 t3 t4 hcp
      go_wp2_with fail
      refine (disarm_any OO.out).mono ?_
      rintro e w5 ⟨rfl, O5, t5⟩
      have FIN : Hid (∃ L' sn sr us, Lx w L L' ∧ Di w5 L' R { o with sn := sn, sr := sr, last := 0, ns := .slice none 0 0, us := us, down := false, armed := -1, failing := -1 } dur' dur' [] ∧ Tl L TD w w5) := hide (by
        have hlb := HD.out.lb
        have hRl := HD.out.oj.lt
        have s1 := HT.out.size
        have s2 : w1.heap.size ≤ wr.heap.size := Tb.size T2.out
        have s3 := T3'.out.size
        have T45 : Tb (fun k => k = R) w4 w5 := TT.out.trans t5 (fun _ _ h => h)
        have T35 : Tb (fun k => k = R) w3 w5 := (T4'.out.mono (fun _ _ h => h.elim)).trans T45 (fun _ _ h => h)
        have Tr5 : Tb (fun k => k = R) wr w5 := (T3'.out.mono (fun _ _ h => h.elim)).trans T35 (fun _ _ h => h)
        have y3 : Lx w3 L3 (lab L3 us (6, 0)) := fun b hb => lab_old (by omega)
        have yr : Lx wr L2 (lab L3 us (6, 0)) := XX.out.trans (w' := w3) y3 s3
        have y0 : Lx w L (lab L3 us (6, 0)) := (HLM.out.trans (w' := w1) X2.out s1).trans (w' := wr) yr (by omega)
        have l5 : lab L3 us (6, 0) R = (1, 0) := by rw [y0 R hRl]; exact hlb
        have l3 : L3 R = (1, 0) := by rw [← y3 R (by omega)]; exact l5
        refine ⟨lab L3 us (6, 0), sn, sr, us, y0, ⟨O5, l5, H2.out.dur.tb Tr5 yr (fun g hg e => by rw [e, H2.out.lb] at hg; revert hg; unfold TA; simp), SS.out.tb T35 y3 (fun g hg e => by rw [e, l3] at hg; revert hg; unfold TA; simp), ⟨World.ownsRow_nil _ _ _ _, fun g hg => (by cases hg), ⟨[], (UU.out _ _).tb T45 (Lx.refl _ _) (by omega) (fun g f e h => by rw [h, l5] at e; simp at e), fun _ => rfl, by simp⟩, lab_new _ _ _, by simp, by simp, by simp, by simp⟩⟩, ?_⟩
        have a1 : Tl L TD w w1 := HT.out.mono (fun _ _ h => h.elim)
        have a2 : Tl L TD w wr := Tl.trans a1 T2.out HLM.out (fun _ h => .inr (.inl h))
        exact Tb.trans a2 Tr5 (fun i hi e => by rw [e]; exact .inl (by rw [hlb])))
      clear O5 t5 OO TT XX SS UU T3' T4' H2 X2 T2
      go_wp2_with fail
      go_ret
      exact ⟨rfl, FIN.out⟩

end Go.Proofs.YtgbboaedhpaocaaGreat

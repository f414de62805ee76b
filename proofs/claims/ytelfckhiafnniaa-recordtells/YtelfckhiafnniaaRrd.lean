/-
  What the document's own Decode of this layer does: the walk.
-/
import Derived.Test.YtelfckhiafnniaaRrp
namespace Go.Proofs.Ytelfckhiafnniaa
open Go.RowKit

theorem zero_any {w : World} {n : Nat} {W : World} {zs : List Int} (hb : Below w.heap.size w W) (hz : zs.length = n) (h : ∀ base b, I64 base → Right b → Bd b → n ≤ 60000 → zs ≠ enc base b) :
    DecP w zs (.returned (.tuple #[.int .i64 0, .agg #[.int .i64 0, .int .i64 0, .int .i64 0, .slice none 0 0], .int .i64 50])) W :=
  ⟨hb, 0, ⟨0, 0, 0, []⟩, 50, .slice none 0 0, [], rfl, .inr ⟨rfl, rfl, rfl, by rw [hz]; exact h⟩, LL.nil _ _, rfl⟩

theorem wrap_base {base : Int} (h : I64 base) : IntKind.i64.wrap ((ub base : Nat) : Int) = base := by
  have h1 := wrap_back (ub base) (ub_lt base)
  exact ub_inj h1.1 h h1.2

set_option maxRecDepth 100000 in
set_option maxHeartbeats 8000000 in
theorem rdecode_any (a : Option Addr) (n cap : Nat) (zs : List Int) (w : World) (hB : Bs w a n cap zs) :
    Calls Try.prog 19 #[.slice a n cap] w (DecP w zs) := by
  obtain ⟨i1, hi', hy0, hy1, hy2⟩ := info_parts info22
  have hlen := hB.len
  have hle := hB.le
  have hre := hB.reach
  by_cases hshort : n < 12
  · have hno : ∀ base b, I64 base → Right b → Bd b → n ≤ 60000 → zs ≠ enc base b := by
      intro base b _ hr hd _ e
      have := congrArg List.length e
      rw [enc_length] at this
      have := body_length hr hd
      omega
    have HZ := hide (zero_any (fresh w (.cells #[.int .i64 0, .int .i64 0, .int .i64 0, .slice none 0 0] 28)) hlen hno)
    clear hno
    go_enter Try.func19, Try.ntmps19
    go_wp2_with fail
    refine bodyPost_ret (v := .tuple #[.int .i64 0, .agg #[.int .i64 0, .int .i64 0, .int .i64 0, .slice none 0 0], .int .i64 50]) (by simp [results, Try.results19, go_sem]) rfl ?_
    exact HZ.out
  by_cases hlong : 60000 < n
  · have HZ := hide (zero_any (fresh w (.cells #[.int .i64 0, .int .i64 0, .int .i64 0, .slice none 0 0] 28)) hlen (fun _ _ _ _ _ h => by omega))
    go_enter Try.func19, Try.ntmps19
    go_wp2_with fail
    refine bodyPost_ret (v := .tuple #[.int .i64 0, .agg #[.int .i64 0, .int .i64 0, .int .i64 0, .slice none 0 0], .int .i64 50]) (by simp [results, Try.results19, go_sem]) rfl ?_
    exact HZ.out
  obtain ⟨B, O, rfl, _⟩ := hB.lies (by omega)
  obtain ⟨W, hW, hbW, hsW, _⟩ := box_new w 0 0 0 (.slice none 0 0)
  have hres : W.heap[w.heap.size]? = some (.cells #[.int .i64 0, .int .i64 0, .int .i64 0, .slice none 0 0] 28 (0, 0)) := by rw [hW]; exact heap_alloc_new w _
  obtain ⟨V, hV, hbV, hsV, _⟩ := box_new W 0 0 0 (.slice none 0 0)
  have hbat : V.heap[w.heap.size + 1]? = some (.cells #[.int .i64 0, .int .i64 0, .int .i64 0, .slice none 0 0] 28 (0, 0)) := by
    rw [hV]
    have := heap_alloc_new W (.cells #[.int .i64 0, .int .i64 0, .int .i64 0, .slice none 0 0] 28)
    rw [hsW] at this
    exact this
  have hR0 : Rf w 0 0 0 (.slice none 0 0) [] V := ⟨hbW.trans (hbV.mono (by omega)), (hbV.block _ (some_lt hres)).trans hres, hbat, LL.nil _ _⟩
  have C1 := rnum_any _ n cap zs 0 8 W (hB.keep hbW) (by omega) (by omega)
  have HX : Hid (onum zs 0 8 = un (zs.take 8)) := hide (by have := onum_yes (zs := zs) (p := 0) (k := 8) (by omega); simpa using this)
  have hXl := onum_lt hB.byte 0 8
  generalize wit n 0 8 = t0 at C1
  generalize onum zs 0 8 = X0 at C1 HX hXl
  have hby := hB.byte
  have HW := hide hW
  have HV := hide hV
  have hBV := (hB.keep hbW).keep hbV
  have G1 := fun V' (h : Below V.heap.size V V') => refGetInt_val _ n cap zs 12 V' (hBV.keep h)
  have G2 := fun V' (h : Below V.heap.size V V') => refGetInt_val _ n cap zs (gE zs 12 : Nat) V' (hBV.keep h)
  have G3 := fun V' (h : Below V.heap.size V V') => refGetInt_val _ n cap zs (gE zs (gE zs 12 : Nat) : Nat) V' (hBV.keep h)
  have G4 := fun V' (h : Below V.heap.size V V') => refGet_val _ n cap zs (gE zs (gE zs (gE zs 12 : Nat) : Nat) : Nat) V' (hBV.keep h)
  have FH := fun base c (_ : I64 base) (hr : Right c) (hd : Bd c) (h : zs = enc base c) => fit_head hby hr hd (show zs.drop 12 = body c by rw [h, enc_drop])
  have l1 := gN_lt hby 12
  have l2 := gN_lt hby (gE zs 12 : Nat)
  have l3 := gN_lt hby (gE zs (gE zs 12 : Nat) : Nat)
  have l4 := gN_lt hby (gE zs (gE zs (gE zs 12 : Nat) : Nat) : Nat)
  have le4 := gE_le hby (x := gE zs (gE zs (gE zs 12 : Nat) : Nat))
  generalize gN zs (gE zs (gE zs (gE zs 12 : Nat) : Nat) : Nat) = N4 at G4 FH l4
  generalize gB zs (gE zs (gE zs (gE zs 12 : Nat) : Nat) : Nat) = B4 at G4 FH le4
  generalize gE zs (gE zs (gE zs (gE zs 12 : Nat) : Nat) : Nat) = E4 at G4 FH le4
  generalize gN zs (gE zs (gE zs 12 : Nat) : Nat) = N3 at G3 FH l3
  generalize gB zs (gE zs (gE zs 12 : Nat) : Nat) = B3 at G3 FH
  generalize gE zs (gE zs (gE zs 12 : Nat) : Nat) = E3 at G3 G4
  generalize gN zs (gE zs 12 : Nat) = N2 at G2 FH l2
  generalize gB zs (gE zs 12 : Nat) = B2 at G2 FH
  generalize gE zs (gE zs 12 : Nat) = E2 at G2 G3
  generalize gN zs 12 = N1 at G1 FH l1
  generalize gB zs 12 = B1 at G1 FH
  generalize gE zs 12 = E1 at G1 G2
  have HG1 := hide G1
  have HG2 := hide G2
  have HG3 := hide G3
  have HG4 := hide G4
  have HFH := hide FH
  have HLE := hide le4
  have i1' := unfo_i64 l1
  have i2' := unfo_i64 l2
  have i3' := unfo_i64 l3
  have HU : Hid (∀ base c, I64 base → Right c → Bd c → zs = enc base c → unfo N1 = c.pid ∧ unfo N2 = c.ep ∧ unfo N3 = c.first ∧ N4 = c.recs.length) := hide (fun base c h1 h2 h3 h4 => by
    obtain ⟨_, a, b', c', d, _⟩ := FH base c h1 h2 h3 h4
    rw [a, b', c', unfo_fo, unfo_fo, unfo_fo]
    exact ⟨rfl, rfl, rfl, d⟩)
  generalize unfo N1 = p at HG1 HU i1'
  generalize unfo N2 = e at HG2 HU i2'
  generalize unfo N3 = f at HG3 HU i3'
  obtain ⟨BASE, hBASE⟩ : ∃ BASE, BASE = IntKind.i64.wrap (X0 : Int) := ⟨_, rfl⟩
  have hw1 : IntKind.i64.wrap (X0 : Int) = BASE := hBASE.symm
  have hw2 : RowKit.wrap64 (X0 : Int) = BASE := by rw [← IntWalk.i64_left]; exact hw1
  have HBA : Hid (I64 BASE ∧ ∀ base c, I64 base → zs = enc base c → BASE = base) := hide (by
    refine ⟨by rw [hBASE]; exact (wrap_back X0 (by omega)).1, fun base c h1 h4 => ?_⟩
    rw [hBASE, HX.out, h4, enc_base, un_be, Nat.mod_eq_of_lt (by have := ub_lt base; omega)]
    exact wrap_base h1)
  have HB1 := hide hbV
  clear hW hV G1 G2 G3 G4 FH le4 l1 l2 l3 hres hbat hBASE HX hXl
  go_enter Try.func19, Try.ntmps19
  go_wp2_with fail
  rw [← HW.out]
  refine C1.mono ?_
  rintro e' w0 ⟨rfl, hw0⟩
  subst hw0
  go_wp2_with fail
  rw [← HV.out]
  refine (HG1.out V (Below.refl _ _)).mono ?_
  rintro e' w1 ⟨rfl, hb1⟩
  go_wp2_with fail
  refine (HG2.out w1 hb1).mono ?_
  rintro e' w2 ⟨rfl, hbx⟩
  have hb2 := hb1.trans (hbx.mono hb1.size)
  clear hbx
  go_wp2_with fail
  refine (HG3.out w2 hb2).mono ?_
  rintro e' w3 ⟨rfl, hbx⟩
  have hb3 := hb2.trans (hbx.mono hb2.size)
  clear hbx
  go_wp2_with fail
  refine (HG4.out w3 hb3).mono ?_
  rintro e' w4 ⟨rfl, hbx⟩
  have hb4 := hb3.trans (hbx.mono hb3.size)
  have hR4 := hR0.keep hb4
  clear hbx HG1 HG2 HG3 HG4 hb1 hb2 hb3 C1
  by_cases hall : (B1 = true ∧ B2 = true ∧ B3 = true ∧ B4 = true) ∧ N4 ≤ 256
  · obtain ⟨⟨rfl, rfl, rfl, rfl⟩, hN4⟩ := hall
    obtain ⟨a0, a1, a2, a3, f0, f1, f2, f3⟩ := row4 hR4.bat
    have hE4 := HLE.out rfl
    have hRs : Hid (Rf w p e f (.slice none 0 0) [] (((w4.setCell ⟨w.heap.size + 1, 0, none⟩ (.int .i64 p)).setCell ⟨w.heap.size + 1, 2, none⟩ (.int .i64 f)).setCell ⟨w.heap.size + 1, 1, none⟩ (.int .i64 e))) := hide (by
      have hs1 := heap_setCell_same w4 (w.heap.size + 1) 0 _ 28 (.int .i64 p) hR4.bat
      have hs2 := heap_setCell_same (w4.setCell ⟨w.heap.size + 1, 0, none⟩ (.int .i64 p)) (w.heap.size + 1) 2 _ 28 (.int .i64 f) hs1
      have hs3 := heap_setCell_same ((w4.setCell ⟨w.heap.size + 1, 0, none⟩ (.int .i64 p)).setCell ⟨w.heap.size + 1, 2, none⟩ (.int .i64 f)) (w.heap.size + 1) 1 _ 28 (.int .i64 e) hs2
      refine ⟨((hR4.bel.setCell (p := ⟨w.heap.size + 1, 0, none⟩) (by simp) _).setCell (p := ⟨w.heap.size + 1, 2, none⟩) (by simp) _).setCell (p := ⟨w.heap.size + 1, 1, none⟩) (by simp) _, ?_, hs3, LL.nil _ _⟩
      have st : ∀ (W : World) (i : Nat) (x : Value), W.heap[w.heap.size]? = some (.cells #[.int .i64 0, .int .i64 0, .int .i64 0, .slice none 0 0] 28 (0, 0)) → (W.setCell ⟨w.heap.size + 1, i, none⟩ x).heap[w.heap.size]? = some (.cells #[.int .i64 0, .int .i64 0, .int .i64 0, .slice none 0 0] 28 (0, 0)) := fun W i x h => (Below.heap_setCell W ⟨w.heap.size + 1, i, none⟩ x _ (by simp)).trans h
      exact st _ 1 _ (st _ 2 _ (st _ 0 _ hR4.res)))
    have hF0 : Hid (Fit zs 0 E4 []) := hide (fun base c h1 h2 h3 h4 => ⟨Nat.zero_le _, by simp, by simpa using (HFH.out base c h1 h2 h3 h4).2.2.2.2.2⟩)
    have HN : Hid (∀ base c, I64 base → Right c → Bd c → zs = enc base c → N4 = c.recs.length) := hide (fun base c h1 h2 h3 h4 => (HU.out base c h1 h2 h3 h4).2.2.2)
    have HBB : Hid (∀ V', Below w.heap.size w V' → Bs V' (some ⟨B, O, none⟩) n cap zs) := hide (fun V' h => hB.keep h)
    clear hR0 hR4 hBV HLE hb4 HFH
    go_wp2_with fail
    go_loopw [9, 19] (fun at' i wr => ∃ (k x : Nat) (u : Value) (rs : List (Value × List Int)), k ≤ N4 ∧ i = .int .i64 k ∧ at' = .int .i64 x ∧ x ≤ n ∧ rs.length = k ∧ Hid (Rf w p e f u rs wr) ∧ Hid (Fit zs k x rs) ∧ Hid (∀ r ∈ rs, r.2.length ≤ 1024))
      (fun _ i _ => N4 - (intOf i).toNat)
    case atStart => exact ⟨0, E4, _, [], Nat.zero_le _, rfl, rfl, by omega, rfl, hRs, hF0, hide (by simp)⟩
    case round =>
      obtain ⟨k, x, u, rs, hk, rfl, rfl, hx, hrl, hR, hF, hS⟩ := hrel
      clear hRs hF0 a0 a1 a2 a3 f0 f1 f2 f3
      obtain ⟨wq, hwq⟩ : ∃ wq : World, wq = wr := ⟨_, rfl⟩
      subst hwq
      have hbq := hR.out.bel
      by_cases hlt : k < N4
      · have G := refGet_val _ n cap zs (x : Int) wq (HBB.out wq hbq)
        have NX := hF.out.next hby HN.out hlt
        have ST := fun v5 => hF.out.step (v5 := v5) hby HN.out hlt
        have hSl := gN_lt hby (x : Int)
        have hXn : gE zs (x : Int) ≤ n := by
          cases hq : gB zs (x : Int) with
          | true => have := gE_le hby hq; omega
          | false => rw [(gN_none hq).2]; omega
        generalize gN zs (x : Int) = Sz at G NX ST hSl
        generalize gE zs (x : Int) = X at G NX ST hXn
        generalize gB zs (x : Int) = Bq at G NX
        have HNX := hide NX
        have HST := hide ST
        clear NX ST
        go_wp2_with fail
        refine G.mono ?_
        rintro e' w5 ⟨rfl, hb5⟩
        have hR5 := hR.out.keep hb5
        have hs5 := hb5.size
        by_cases hok : Bq = true ∧ Sz ≤ 1024 ∧ X + Sz ≤ n
        · obtain ⟨rfl, hS1, hS2⟩ := hok
          have hc3 := hR5.c3
          have hlv : ((zs.drop X).take Sz).length = Sz := by simp; omega
          have hP : ∃ O', (∀ V', Below w5.heap.size w5 V' → Bs V' (some ⟨B, O', none⟩) Sz (cap - X) ((zs.drop X).take Sz)) ∧ (if cap = X then O' = O else O' = O + X) := by
            by_cases cX : cap = X
            · have hz : Sz = 0 := by omega
              subst hz
              exact ⟨O, fun V' _ => by simpa using Bs.zero V' _ _ (by omega), by rw [if_pos cX]⟩
            · exact ⟨O + X, fun V' h => ((HBB.out w5 hR5.bel).keep h).mid X Sz (by omega), by rw [if_neg cX]⟩
          obtain ⟨O', hP, hif⟩ := hP
          have hcall : ∀ V', Below w5.heap.size w5 V' → Calls Try.prog 14 #[.slice (some ⟨B, O', none⟩) Sz (cap - X)] V' fun e'' w6 =>
              ∃ c6 d6 xs, e'' = .returned (.slice c6 Sz d6) ∧ w6.cell? ⟨w.heap.size + 1, 3, none⟩ = some u ∧ (w6.alloc (.cells #[.slice c6 Sz d6] 22)).cell? ⟨w.heap.size + 1, 3, none⟩ = some u ∧ Hid ((w6.alloc (.cells #[.slice c6 Sz d6] 22)).ownsRow (w.heap.size + 2) 22 1 u k xs) ∧ w.heap.size + 2 ≤ w6.heap.size + 1 ∧
                Hid (∀ (v7 : Value) (w7 : World), w7.ownsRow (w.heap.size + 2) 22 1 v7 (k + 1) (xs ++ [.slice c6 Sz d6]) → (w6.alloc (.cells #[.slice c6 Sz d6] 22)).grownBy w7 u.ownBlock →
                  w7.cell? ⟨w.heap.size + 1, 3, none⟩ = some u ∧ w7.frozen? ⟨w.heap.size + 1, 3, none⟩ = false ∧ Rf w p e f v7 (rs ++ [(.slice c6 Sz d6, (zs.drop X).take Sz)]) (w7.setCell ⟨w.heap.size + 1, 3, none⟩ v7)) := by
            intro V' hb
            have hRV := hR5.keep hb
            refine (copy_any _ _ _ _ V' (hP V' hb) (by omega)).mono ?_
            rintro e'' w6 ⟨c6, d6, rfl, hown6, hb6⟩
            obtain ⟨t1, t2, t3, t4, t5⟩ := hRV.turn (l5 := (zs.drop X).take Sz) (by rw [hlv]; exact hown6) (take_byte (drop_byte hby _) _) hb6
            rw [hrl] at t3 t5
            exact ⟨c6, d6, _, rfl, t1, t2, hide t3, t4, hide t5⟩
          have HC := hide hcall
          have j1 : (0 : Int) ≤ (X : Int) := by omega
          have j2 : (X : Int) ≤ (X : Int) + (Sz : Int) := by omega
          have j3 : (X : Int) + (Sz : Int) ≤ (n : Int) := by omega
          have j4 : (X : Int) + (Sz : Int) ≤ (cap : Int) := by omega
          have j5 : IntKind.i64.wrap ((X : Int) + (Sz : Int)) = (X : Int) + (Sz : Int) := by rw [IntKind.wrap_i64]; omega
          have j6 : IntKind.i64.wrap (Sz : Int) = (Sz : Int) := by rw [IntKind.wrap_i64]; omega
          have j7 : X + Sz - X = Sz := by omega
          have j8 : ((X : Int) + (Sz : Int)).toNat - X = Sz := by omega
          have j9 : ((X : Int) + (Sz : Int)).toNat = X + Sz := by omega
          have HSN : Hid (∀ (c6 : Option Addr) (d6 : Nat), ∀ r ∈ rs ++ [(Value.slice c6 Sz d6, (zs.drop X).take Sz)], r.2.length ≤ 1024) := hide (fun c6 d6 r hr => by
            rcases List.mem_append.1 hr with hr | hr
            · exact hS.out r hr
            · simp only [List.mem_singleton] at hr
              subst hr
              simp only [hlv]
              exact hS1)
          clear hcall hP G hb5 hR5 HNX
          by_cases cX : cap = X
          · rw [if_pos cX] at hif
            subst hif
            subst cX
            have hz : Sz = 0 := by omega
            subst hz
            rw [Nat.sub_self] at HC
            clear j1 j2 j3 j4 j5 j6 j7 j8 j9
            have z1 : IntKind.i64.wrap (0 : Int) = 0 := by decide
            have z2 : IntKind.i64.wrap (cap : Int) = (cap : Int) := by rw [IntKind.wrap_i64]; omega
            have z3 : ((cap : Int) + 0).toNat = cap := by omega
            go_wp2_with fail
            go_region_law (first
              | (refine step_append_lies _ (by rfl) (.tmp 121) (.tmp 130) 26 (by rfl) (w.heap.size + 2) 22 i1 (.slice none 0 0) 1 24 Try.underlying26 hi' hy0 hy1 hy2 rfl (by omega) u k xs6 (by simp [Act.eval]) ho6.out ⟨_, 0, none⟩ 1 1 [.slice c6 0 d6] (by simp [Act.eval]) rfl (cell_one_new _ _ _) (by simp [Value.oneCell']) (by omega) (by unfold maxLen; omega) (by omega) (by simp; omega) _ rfl ?_; intro g7 d7 w7 hown7 hgrow7 _ _; obtain ⟨c7, f7, hR7⟩ := ht6.out _ w7 hown7 hgrow7; have HR7 := hide hR7; clear hR7 hown7 hgrow7)
              | (go_simp; refine (HC.out _ ?_).mono ?_; exact (Below.refl _ w5).drew; rintro e' w6 ⟨c6, d6, xs6, rfl, cc6, cd6, ho6, hs6, ht6⟩))
            all_goals
              go_wp2_with fail
              go_roundw
              case rel => exact ⟨k + 1, cap + 0, _, _, by omega, by go_num, by go_num, by omega, by simp [hrl], HR7, hide (HST.out _), hide (HSN.out _ _)⟩
              case measure => simp [intOf]; omega
          · rw [if_neg cX] at hif
            subst hif
            go_wp2_with fail
            go_region_law (first
              | (refine step_append_lies _ (by rfl) (.tmp 121) (.tmp 130) 26 (by rfl) (w.heap.size + 2) 22 i1 (.slice none 0 0) 1 24 Try.underlying26 hi' hy0 hy1 hy2 rfl (by omega) u k xs6 (by simp [Act.eval]) ho6.out ⟨_, 0, none⟩ 1 1 [.slice c6 Sz d6] (by simp [Act.eval]) rfl (cell_one_new _ _ _) (by simp [Value.oneCell']) (by omega) (by unfold maxLen; omega) (by omega) (by simp; omega) _ rfl ?_; intro g7 d7 w7 hown7 hgrow7 _ _; obtain ⟨c7, f7, hR7⟩ := ht6.out _ w7 hown7 hgrow7; have HR7 := hide hR7; clear hR7 hown7 hgrow7)
              | (go_simp; refine (HC.out _ ?_).mono ?_; exact (Below.refl _ w5).drew; rintro e' w6 ⟨c6, d6, xs6, rfl, cc6, cd6, ho6, hs6, ht6⟩))
            all_goals
              go_wp2_with fail
              go_roundw
              case rel => exact ⟨k + 1, X + Sz, _, _, by omega, by go_num, by go_num, by omega, by simp [hrl], HR7, hide (HST.out _), hide (HSN.out _ _)⟩
              case measure => simp [intOf]; omega
        · have hno : ∀ base c, I64 base → Right c → Bd c → n ≤ 60000 → zs ≠ enc base c := fun base c h1 h2 h3 _ h4 => by
            obtain ⟨q1, q2, q3, _⟩ := HNX.out base c h1 h2 h3 h4
            exact hok ⟨q1, q2, by omega⟩
          obtain ⟨r0, r1, r2, r3, g0, g1, g2, g3⟩ := row4 hR5.res
          have HZ := hide (zero_dec hR5.bel hlen hno)
          clear hno HNX G hR5
          cases Bq with
          | false =>
            go_wp2_with fail
            refine bodyPost_ret (v := .tuple #[.int .i64 0, .agg #[.int .i64 0, .int .i64 0, .int .i64 0, .slice none 0 0], .int .i64 50]) (by simp [results, Try.results19, go_sem, r0, r1, r2, r3]) rfl ?_
            exact HZ.out
          | true =>
            by_cases hS1 : 1024 < Sz
            · go_wp2_with fail
              refine bodyPost_ret (v := .tuple #[.int .i64 0, .agg #[.int .i64 0, .int .i64 0, .int .i64 0, .slice none 0 0], .int .i64 50]) (by simp [results, Try.results19, go_sem, r0, r1, r2, r3]) rfl ?_
              exact HZ.out
            · have hS2 : n < X + Sz := by
                rcases Nat.lt_or_ge n (X + Sz) with h | h
                · exact h
                · exact absurd ⟨rfl, by omega, h⟩ hok
              by_cases hbig : X + Sz ≤ 9000000000000000000
              · go_wp2_with fail
                refine bodyPost_ret (v := .tuple #[.int .i64 0, .agg #[.int .i64 0, .int .i64 0, .int .i64 0, .slice none 0 0], .int .i64 50]) (by simp [results, Try.results19, go_sem, r0, r1, r2, r3]) rfl ?_
                exact HZ.out
              · exact absurd hXn (by omega)
      · obtain rfl : k = N4 := by omega
        obtain ⟨ua, uc, hu⟩ := own_val hR.out.ll.own
        rw [hrl] at hu
        subst hu
        have hRl := hR.out.ll.rl
        have bd : Bd ⟨p, e, f, rs.map (·.2)⟩ := hRl.bd i1' i2' i3'
        have CE := rencode_any BASE p e f ua k uc (rs.map (·.2)) wq hRl bd
        obtain ⟨a0, a1, a2, a3, _⟩ := row4 hR.out.bat
        have HID : Hid (∀ base c, I64 base → Right c → Bd c → zs = enc base c → (⟨p, e, f, rs.map (·.2)⟩ : Bt) = c ∧ BASE = base) := hide (fun base c h1 h2 h3 h4 => by
          obtain ⟨q1, q2, q3, q4⟩ := HU.out base c h1 h2 h3 h4
          obtain ⟨_, q5, _⟩ := hF.out base c h1 h2 h3 h4
          rw [q4, List.take_length] at q5
          refine ⟨?_, HBA.out.2 base c h1 h4⟩
          cases c
          simp only at q1 q2 q3 q5 ⊢
          rw [q1, q2, q3, q5])
        have HRK : Hid (∀ V', Below wq.heap.size wq V' → Rf w p e f (.slice ua k uc) rs V') := hide (fun V' h => hR.out.keep h)
        clear hRl hF hS HU HN
        generalize hlb : rs.map (·.2) = lb at CE HID bd
        rcases encD_cases BASE ⟨p, e, f, lb⟩ with ⟨hright, hl60, hE⟩ | hE | hE
        · rw [hE] at CE
          go_wp2_with fail
          refine CE.mono ?_
          rintro e' w6 ⟨v6, rfl, hown6, hb6⟩
          replace hown6 : w6.ownsRow wq.heap.size 5 1 v6 (enc BASE ⟨p, e, f, lb⟩).length (U (enc BASE ⟨p, e, f, lb⟩)) := hown6
          obtain ⟨N6, hN6⟩ : ∃ N, N = (enc BASE ⟨p, e, f, lb⟩).length := ⟨_, rfl⟩
          have hN6' : 12 ≤ N6 := by rw [hN6, enc_length]; omega
          rw [← hN6] at hown6
          have HN6 := hide hN6
          obtain ⟨g6, d6, hv6⟩ := own_shape hown6 (by omega)
          subst hv6
          have hB6 := own_bs hown6 (enc_byte bd.byte)
          have hR6 := HRK.out w6 hb6
          have CS := same_any _ _ _ _ _ _ _ _ w6 hB6 (HBB.out w6 hR6.bel)
          obtain ⟨r0, r1, r2, r3, g0, g1, g2, g3⟩ := row4 hR6.res
          obtain ⟨s0, s1, s2, s3, _⟩ := row4 hR6.bat
          clear hown6 hN6 CE a0 a1 a2 a3
          by_cases heq : enc BASE ⟨p, e, f, lb⟩ = zs
          · rw [decide_eq_true heq] at CS
            have HF : Hid (DecP w zs (.returned (.tuple #[.int .i64 BASE, .agg #[.int .i64 p, .int .i64 e, .int .i64 f, .slice ua k uc], .int .i64 0])) ((put4 w6 w.heap.size (.int .i64 p) (.int .i64 e) (.int .i64 f) (.slice ua k uc)).drew)) := hide
              ⟨(below_put4 hR6.bel (Nat.le_refl _) _ _ _ _).drew, BASE, ⟨p, e, f, lb⟩, 0, .slice ua k uc, rs, rfl, .inl ⟨rfl, by omega, HBA.out.1, hright, bd, heq.symm⟩, (((hR6.ll.put4 (by omega) _ _ _ _).keep ((Below.refl _ _).drew)).less (by omega)), hlb⟩
            clear hR6 HRK HID hB6 heq hright
            go_wp2_with fail
            refine CS.mono ?_
            rintro e' w7 ⟨rfl, hw7⟩
            subst hw7
            go_wp2_with fail
            go_region
            all_goals
              go_wp2_with fail
              refine bodyPost_ret (v := .tuple #[.int .i64 BASE, .agg #[.int .i64 p, .int .i64 e, .int .i64 f, .slice ua k uc], .int .i64 0]) (by simp [results, Try.results19, go_sem, r0, r1, r2, r3]) rfl ?_
              exact HF.out
          · rw [decide_eq_false heq] at CS
            have HZ := hide (zero_dec hR6.bel hlen (fun base c h1 h2 h3 _ h4 => by
              obtain ⟨q1, q2⟩ := HID.out base c h1 h2 h3 h4
              rw [q1, q2] at heq
              exact heq h4.symm))
            clear hR6 HRK HID hB6 heq hright
            go_wp2_with fail
            refine CS.mono ?_
            rintro e' w7 ⟨rfl, hw7⟩
            subst hw7
            go_wp2_with fail
            refine bodyPost_ret (v := .tuple #[.int .i64 0, .agg #[.int .i64 0, .int .i64 0, .int .i64 0, .slice none 0 0], .int .i64 50]) (by simp [results, Try.results19, go_sem, r0, r1, r2, r3]) rfl ?_
            exact HZ.out
        · rw [hE] at CE
          have HIDN : Hid (∀ base c, I64 base → Right c → Bd c → n ≤ 60000 → zs ≠ enc base c) := hide (fun base c h1 h2 h3 _ h4 => by
            obtain ⟨q1, q2⟩ := HID.out base c h1 h2 h3 h4
            rw [q1, q2] at hE
            have hh := congrArg List.length h4
            rw [enc_length] at hh
            rw [encD_of h2 (by omega)] at hE
            cases hE)
          clear HID
          go_wp2_with fail
          refine CE.mono ?_
          rintro e' w6 ⟨v6, rfl, _, hb6⟩
          have hR6 := HRK.out w6 hb6
          obtain ⟨r0, r1, r2, r3, g0, g1, g2, g3⟩ := row4 hR6.res
          have HZ := hide (zero_dec hR6.bel hlen HIDN.out)
          clear hR6 HRK HIDN CE
          go_wp2_with fail
          refine bodyPost_ret (v := .tuple #[.int .i64 0, .agg #[.int .i64 0, .int .i64 0, .int .i64 0, .slice none 0 0], .int .i64 50]) (by simp [results, Try.results19, go_sem, r0, r1, r2, r3]) rfl ?_
          exact HZ.out
        · rw [hE] at CE
          have HIDN : Hid (∀ base c, I64 base → Right c → Bd c → n ≤ 60000 → zs ≠ enc base c) := hide (fun base c h1 h2 h3 _ h4 => by
            obtain ⟨q1, q2⟩ := HID.out base c h1 h2 h3 h4
            rw [q1, q2] at hE
            have hh := congrArg List.length h4
            rw [enc_length] at hh
            rw [encD_of h2 (by omega)] at hE
            cases hE)
          clear HID
          go_wp2_with fail
          refine CE.mono ?_
          rintro e' w6 ⟨v6, rfl, _, hb6⟩
          have hR6 := HRK.out w6 hb6
          obtain ⟨r0, r1, r2, r3, g0, g1, g2, g3⟩ := row4 hR6.res
          have HZ := hide (zero_dec hR6.bel hlen HIDN.out)
          clear hR6 HRK HIDN CE
          go_wp2_with fail
          refine bodyPost_ret (v := .tuple #[.int .i64 0, .agg #[.int .i64 0, .int .i64 0, .int .i64 0, .slice none 0 0], .int .i64 50]) (by simp [results, Try.results19, go_sem, r0, r1, r2, r3]) rfl ?_
          exact HZ.out
  · have hno : ∀ base c, I64 base → Right c → Bd c → n ≤ 60000 → zs ≠ enc base c := fun base c h1 h2 h3 _ h4 => by
      have hh := HFH.out base c h1 h2 h3 h4
      have hc := h2.count
      exact hall ⟨hh.1, by rw [hh.2.2.2.2.1]; exact hc⟩
    obtain ⟨r0, r1, r2, r3, g0, g1, g2, g3⟩ := row4 hR4.res
    have HZ := hide (zero_dec hR4.bel hlen hno)
    clear hno HFH hR0 hR4 hBV HLE
    cases B1 with
    | false =>
            go_wp2_with fail
            refine bodyPost_ret (v := .tuple #[.int .i64 0, .agg #[.int .i64 0, .int .i64 0, .int .i64 0, .slice none 0 0], .int .i64 50]) (by simp [results, Try.results19, go_sem, r0, r1, r2, r3]) rfl ?_
            exact HZ.out
    | true =>
      cases B2 with
      | false =>
            go_wp2_with fail
            refine bodyPost_ret (v := .tuple #[.int .i64 0, .agg #[.int .i64 0, .int .i64 0, .int .i64 0, .slice none 0 0], .int .i64 50]) (by simp [results, Try.results19, go_sem, r0, r1, r2, r3]) rfl ?_
            exact HZ.out
      | true =>
        cases B3 with
        | false =>
            go_wp2_with fail
            refine bodyPost_ret (v := .tuple #[.int .i64 0, .agg #[.int .i64 0, .int .i64 0, .int .i64 0, .slice none 0 0], .int .i64 50]) (by simp [results, Try.results19, go_sem, r0, r1, r2, r3]) rfl ?_
            exact HZ.out
        | true =>
          cases B4 with
          | false =>
            go_wp2_with fail
            refine bodyPost_ret (v := .tuple #[.int .i64 0, .agg #[.int .i64 0, .int .i64 0, .int .i64 0, .slice none 0 0], .int .i64 50]) (by simp [results, Try.results19, go_sem, r0, r1, r2, r3]) rfl ?_
            exact HZ.out
          | true =>
            have hN4 : 256 < N4 := by
              rcases Nat.lt_or_ge 256 N4 with h | h
              · exact h
              · exact absurd ⟨⟨rfl, rfl, rfl, rfl⟩, h⟩ hall
            clear hall
            go_wp2_with fail
            refine bodyPost_ret (v := .tuple #[.int .i64 0, .agg #[.int .i64 0, .int .i64 0, .int .i64 0, .slice none 0 0], .int .i64 50]) (by simp [results, Try.results19, go_sem, r0, r1, r2, r3]) rfl ?_
            exact HZ.out

end Go.Proofs.Ytelfckhiafnniaa

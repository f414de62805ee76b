/-
  A world begun: the walk.
-/
import Derived.Test.YtgjpbekmkhanhaaGreatMxc557ecb9
namespace Go.Proofs.YtgjpbekmkhanhaaGreat.CH
open Go.RowKit QW
set_option maxRecDepth 100000
set_option linter.unusedSimpArgs false
set_option linter.unusedVariables false

section
variable {w0 w : World} {sz : List Nat} {pa : Option Addr} {np pcap nc scap sb so : Nat}

theorem suff {G P : Prop} (h : G → P) (g : G) : P := h g

set_option maxHeartbeats 8000000 in
theorem begun_any (hnp : np ≤ 200) (hsz : sz.length = nc) (h64 : ∀ n ∈ sz, n ≤ 64) (hnc : nc ≤ 1000) (hS : ∀ (i n : Nat), sz[i]? = some n → w0.cell? ⟨sb, so + i, none⟩ = some (.int .i64 n)) (hcap : nc ≤ scap) (hcap2 : scap ≤ 9223372036854775807) :
    Calls Tryz.prog 11 #[.slice pa np pcap, .slice (some ⟨sb, so, none⟩) nc scap] w0 fun e w' => ∃ B E R, e = .returned (.tuple #[.pointer (some ⟨B, 0, none⟩), .pointer (some ⟨E, 0, none⟩)]) ∧ Hid (Bgn w0 sz np (.slice pa np pcap) B E R w') := by
  have CN := new_any w0
  have HBG := hide (fun (w1 W : World) (a : Ad) (hr : Rt w1 a rs0) (hlo : ∀ k, own a rs0 k ∨ k = a.Q → w0.heap.size ≤ k) (hb : Below w0.heap.size w0 w1) (hW : W = _) => Bg.start (sz := sz) (pv := .slice pa np pcap) (W := W) hr hlo hb hW)
  have HS : Hid (∀ B E R H ci ri ti w, Bgx w0 sz (.slice pa np pcap) B E R H ci ri ti w → ∀ (i n : Nat), sz[i]? = some n → w.cell? ⟨sb, so + i, none⟩ = some (.int .i64 n) ∧ n ≤ 64) := hide (fun B E R H ci ri ti w hx i n hi => by
    obtain ⟨cv, tvv, left, zs, bs, lab, vs, rl, d⟩ := hx
    have h1 := hS i n hi
    exact ⟨(d.bl.cell (cell_lt h1)).trans h1, h64 n (List.mem_of_getElem? hi)⟩)
  clear hS h64
  go_enter Tryz.func11, Tryz.ntmps11
  go_wp2_with fail
  refine CN.mono ?_
  rintro e w1 ⟨a, rfl, hr, hlo, hb⟩
  obtain ⟨W, hW⟩ : ∃ W, Hid (W = (((w1.alloc (.cells #[.pointer (some ⟨a.R, 0, none⟩), .slice pa np pcap, .slice none 0 0, .slice none 0 0, .slice none 0 0, .bool false] (36 : TypeId))).alloc (.cells #[.pointer (some ⟨w1.heap.size, 0, none⟩)] (27 : TypeId))).alloc (.cells (vz (.slice pa np pcap)).toArray (46 : TypeId)))) := ⟨_, hide rfl⟩
  have HX := hide (HBG.out w1 W a hr hlo hb hW.out)
  clear CN hr hlo hb HBG
  generalize a.R = R at *
  obtain ⟨B, hB⟩ : ∃ B, Hid (w1.heap.size = B) := ⟨_, hide rfl⟩
  unfold vz at hW
  go_wp2_with (rw [← hW.out])
  obtain ⟨H, hH⟩ : ∃ H, Hid (B + 1 = H) := ⟨_, hide rfl⟩
  obtain ⟨E, hE⟩ : ∃ E, Hid (H + 1 = E) := ⟨_, hide rfl⟩
  have hE2 : B + 2 = E := by have := hH.out; have := hE.out; omega
  rw [hB.out, hH.out, hE2] at HX
  rw [hB.out]
  simp only [hH.out, hE.out]
  clear hW hB
  go_loopw [8] (fun i wr => ∃ k : Nat, k ≤ nc ∧ i = .int .i64 k ∧ Hid (Bgx w0 sz (.slice pa np pcap) B E R H k k 0 wr)) (fun i _ => nc - (intOf i).toNat)
  case atStart => exact ⟨0, Nat.zero_le _, rfl, HX⟩
  case round =>
    obtain ⟨k, hk, rfl, hd⟩ := hrel
    by_cases hlt : k < nc
    · have hii : decide ((k : Int) < (nc : Int)) = true := by simp; omega
      obtain ⟨n, hn⟩ : ∃ n, sz[k]? = some n := ⟨_, List.getElem?_eq_getElem (by omega)⟩
      obtain ⟨cS, h64⟩ := HS.out _ _ _ _ _ _ _ _ hd.out k n hn
      obtain ⟨cv, tvv, left, zs, bs, lab, vs, rl, d⟩ := hd.out
      have cH := d.cH
      have cB : wr.cell? ⟨B, 0, none⟩ = some (.pointer (some ⟨R, 0, none⟩)) := by obtain ⟨ev, hb⟩ := d.blk; exact cell_of_row _ _ 0 _ _ _ hb
      have hin : k < nc := hlt
      have HM : Hid (∀ V, Below wr.heap.size wr V → Calls Tryz.prog 19 #[.pointer (some ⟨R, 0, none⟩), .int .i64 n] V fun e w1 => ∃ C, e = .returned (.tuple #[.pointer (some ⟨C, 0, none⟩), .int .i64 0]) ∧ (w1.cell? ⟨H, 0, none⟩ = some (.pointer (some ⟨B, 0, none⟩)) ∧ w1.cell? ⟨B, 0, none⟩ = some (.pointer (some ⟨R, 0, none⟩)) ∧ w1.cell? ⟨sb, so + k, none⟩ = some (.int .i64 n)) ∧ Hid (Bgm w0 sz (.slice pa np pcap) B E R H k C n w1)) := hide (fun V hV => by
        refine (d.make h64 hV).mono ?_
        rintro e w2 ⟨C, rfl, hm⟩
        obtain ⟨cv, tvv, left, zs, bs, lab, vs, rl, z, D, ev, a, s, A, K, d2, h2, q⟩ := id hm
        refine ⟨C, rfl, ⟨d2.cH, ?_, (HS.out _ _ _ _ _ _ _ _ ⟨_, _, _, _, _, _, _, _, d2⟩ k n hn).1⟩, hide hm⟩
        obtain ⟨ev, hb⟩ := d2.blk
        exact cell_of_row _ _ 0 _ _ _ hb)
      have HN := hide hn
      have H64 := hide h64
      clear d hd hn h64 HX
      go_wp2_with fail
      go_region_held3 (fun V => V.cell? ⟨H, 0, none⟩ = some (.pointer (some ⟨B, 0, none⟩)) ∧ V.cell? ⟨B, 0, none⟩ = some (.pointer (some ⟨R, 0, none⟩)) ∧ V.cell? ⟨sb, so + k, none⟩ = some (.int .i64 n))
        (first | exact ⟨cH, cB, cS⟩ | exact e1)
        ((go_at_call 19; refine (HM.out _ (Below.refl _ _).drew).mono ?_; rintro e w2 ⟨C, rfl, e1, hm⟩))
      all_goals
        go_wp2_with fail
        obtain ⟨ca, cc, p, c, X, c1, c2, c3, c4, run, x1, x2, x3, HX1⟩ := (hm.out.below (Below.refl _ w2).drew).app H64.out HN.out (by omega)
        have c1' : w2.cell? ⟨H, 0, none⟩ = some (.pointer (some ⟨B, 0, none⟩)) := c1
        have c2' : w2.cell? ⟨B, 2, none⟩ = some (.slice ca k cc) := c2
        have c3' : (w2.alloc (.cells #[.pointer (some ⟨C, 0, none⟩)] (48 : TypeId))).cell? ⟨H, 0, none⟩ = some (.pointer (some ⟨B, 0, none⟩)) := c3
        have c4' : (w2.alloc (.cells #[.pointer (some ⟨C, 0, none⟩)] (48 : TypeId))).cell? ⟨B, 2, none⟩ = some (.slice ca k cc) := c4
        clear HM hm e1 cH cB cS c1 c2 c3 c4
        refine suff (G := ?G) (fun HC => ?h) ?g
        case h =>
          go_region_law (refine step_appendx (by rfl) (32 : TypeId) (.tmp 45) (.tmp 47) rfl (.slice ca k cc) (.slice (some ⟨w2.heap.size, 0, none⟩) 1 1) (.slice p (k + 1) c) (by simp [Act.eval]) (by simp [Act.eval]) run ?_)
          all_goals exact HC
        obtain ⟨Z, hZ⟩ : ∃ Z, Hid (Z = X.setCell ⟨B, 2, none⟩ (.slice p (k + 1) c)) := ⟨_, hide rfl⟩
        rw [← hZ.out] at HX1 ⊢
        obtain ⟨cv1, tvv1, left1, zs1, bs1, lab1, vs1, rl1, d1⟩ := HX1.out
        have cS1 := (HS.out _ _ _ _ _ _ _ _ HX1.out k n HN.out).1
        have b1 := (Below.refl _ Z).alloc (Nat.le_refl _) (.cells #[.int .i64 n, .slice none 0 0, .slice none 0 0, .slice none 0 0, .bool false] (51 : TypeId))
        have cS2 : (Z.alloc (.cells #[.int .i64 n, .slice none 0 0, .slice none 0 0, .slice none 0 0, .bool false] (51 : TypeId))).cell? ⟨sb, so + k, none⟩ = some (.int .i64 n) := (b1.cell (cell_lt cS1)).trans cS1
        obtain ⟨ra, rc, p2, c2, X2, k1, k2, run2, k3, k4, HX2⟩ := (d1.below (Below.refl _ Z).drew).rapp HN.out (by omega)
        have k1' : Z.cell? ⟨E, 1, none⟩ = some (.slice ra k rc) := k1
        have k2' : (Z.alloc (.cells #[.int .i64 n, .slice none 0 0, .slice none 0 0, .slice none 0 0, .bool false] (51 : TypeId))).cell? ⟨E, 1, none⟩ = some (.slice ra k rc) := k2
        clear run x1 x2 x3 c1' c2' c3' c4' d1 HX1 hZ k1 k2 b1
        go_wp2_with fail
        refine suff (G := ?G2) (fun HC => ?h2) ?g2
        case h2 =>
          go_region_law (refine step_appendx (by rfl) (41 : TypeId) (.tmp 55) (.tmp 61) rfl (.slice ra k rc) (.slice (some ⟨Z.heap.size, 0, none⟩) 1 1) (.slice p2 (k + 1) c2) (by simp [Act.eval]) (by simp [Act.eval]) run2 ?_)
          all_goals exact HC
        go_wp2_with fail
        go_roundw
        case rel => exact ⟨k + 1, by omega, by go_num, HX2⟩
        case measure => simp [intOf]; omega
    · have hii : decide ((k : Int) < (nc : Int)) = false := by simp; omega
      obtain rfl : k = nc := by omega
      have HD := hide hd.out
      clear hd HX
      go_wp2_with fail
      go_loopw [67] (fun i wr => ∃ j : Nat, j ≤ np ∧ i = .int .i64 j ∧ Hid (Bgx w0 sz (.slice pa np pcap) B E R H k k j wr)) (fun i _ => np - (intOf i).toNat)
      case atStart => exact ⟨0, Nat.zero_le _, rfl, HD⟩
      case round =>
        clear HD
        obtain ⟨j, hj, rfl, hd⟩ := hrel
        by_cases hlt : j < np
        · have hii : decide ((j : Int) < (np : Int)) = true := by simp; omega
          obtain ⟨cv, tvv, left, zs, bs, lab, vs, rl, d⟩ := hd.out
          have cH := d.cH
          have cB : wr.cell? ⟨B, 0, none⟩ = some (.pointer (some ⟨R, 0, none⟩)) := by obtain ⟨ev, hb⟩ := d.blk; exact cell_of_row _ _ 0 _ _ _ hb
          have bV := (Below.refl _ wr).alloc (Nat.le_refl _) (.cells #[.int .i64 j] 3)
          have cH' : (wr.alloc (.cells #[.int .i64 j] 3)).cell? ⟨H, 0, none⟩ = some (.pointer (some ⟨B, 0, none⟩)) := (bV.cell (cell_lt cH)).trans cH
          have cB' : (wr.alloc (.cells #[.int .i64 j] 3)).cell? ⟨B, 0, none⟩ = some (.pointer (some ⟨R, 0, none⟩)) := (bV.cell (cell_lt cB)).trans cB
          have HM := hide (d.spawn (by omega) bV (Nat.le_refl _) (heap_alloc_new wr _))
          clear d hd
          go_wp2_with fail
          refine HM.out.mono ?_
          rintro e w2 ⟨b, rfl, hs⟩
          have hm := hide hs
          obtain ⟨ca, cc, p, c, X, c1, c2, c3, c4, run, x1, x2, x3, HX1⟩ := (hs.below (Below.refl _ w2).drew).app (by omega)
          have c1' : w2.cell? ⟨H, 0, none⟩ = some (.pointer (some ⟨B, 0, none⟩)) := c1
          have c2' : w2.cell? ⟨B, 3, none⟩ = some (.slice ca j cc) := c2
          have c3' : (w2.alloc (.cells #[.pointer (some ⟨b, 0, none⟩)] (60 : TypeId))).cell? ⟨H, 0, none⟩ = some (.pointer (some ⟨B, 0, none⟩)) := c3
          have c4' : (w2.alloc (.cells #[.pointer (some ⟨b, 0, none⟩)] (60 : TypeId))).cell? ⟨B, 3, none⟩ = some (.slice ca j cc) := c4
          clear HM hm hs cH cB cH' cB' bV c1 c2 c3 c4
          go_wp2_with fail
          refine suff (G := ?G3) (fun HC => ?h3) ?g3
          case h3 =>
            go_region_law (refine step_appendx (by rfl) (33 : TypeId) (.tmp 85) (.tmp 87) rfl (.slice ca j cc) (.slice (some ⟨w2.heap.size, 0, none⟩) 1 1) (.slice p (j + 1) c) (by simp [Act.eval]) (by simp [Act.eval]) run ?_)
            all_goals exact HC
          obtain ⟨Z, hZ⟩ : ∃ Z, Hid (Z = X.setCell ⟨B, 3, none⟩ (.slice p (j + 1) c)) := ⟨_, hide rfl⟩
          rw [← hZ.out] at HX1 ⊢
          clear run x1 x2 x3 c1' c2' c3' c4' hZ
          go_wp2_with fail
          go_roundw
          case rel => exact ⟨j + 1, by omega, by go_num, HX1⟩
          case measure => simp [intOf]; omega
        · have hii : decide ((j : Int) < (np : Int)) = false := by simp; omega
          obtain rfl : j = np := by omega
          obtain ⟨cv, tvv, left, zs, bs, lab, vs, rl, d⟩ := hd.out
          subst hsz
          have HM := hide (d.spawned (by omega))
          clear d hd
          go_wp2_with fail
          refine HM.out.mono ?_
          rintro e w2 ⟨rfl, cH, hF⟩
          have HF := hide hF
          clear HM hF
          go_wp2_with fail
          go_ret2
          exact ⟨B, E, R, rfl, HF⟩
end

end Go.Proofs.YtgjpbekmkhanhaaGreat.CH

/-
  FrameTells, walked: for any pieces every call answers as the document defines.
-/
import Derived.Test.YtalknfbhnhpdhaaFst
import Derived.Test.YtalknfbhnhpdhaaLno
import Derived.Test.YtalknfbhnhpdhaaLnd
import Derived.Deep.RegionWith
import Derived.BigRegion
import Derived.Deep.DeepCutAuto
import Derived.Deep.Cut
import Derived.Deep.CutRange
namespace Go.Proofs.Ytalknfbhnhpdhaa
open Go.RowKit

/-- What stands behind 'then, m, f := w.Feed(..)', wherever 'then' was made. -/
def Aft (w w2 : World) (bs : List (List Int)) (r : List Int) (en' : Bool) (er : Int) (lv2 : Value) (s10 s11 s12 : Value) (wx : World) : Prop :=
  ∃ (B : Nat) (c3 c4 : Option Addr) (d3 d4 : Nat) (rs3 : List (Value × List Int)), s10 = .pointer (some ⟨B, 0, none⟩) ∧ s11 = .slice c3 bs.length d3 ∧ s12 = .int .i64 er ∧
    Hid (wx.heap[B]? = some (.cells #[.slice c4 r.length d4, .bool en'] 37 (0, 0))) ∧ w2.heap.size ≤ B ∧ Hid (rs3.map (·.2) = bs) ∧ Hid (LL wx w2.heap.size (.slice c3 bs.length d3) rs3) ∧ Hid (wx.ownsRow w.heap.size 5 1 (.slice c4 r.length d4) r.length (U r)) ∧
    Hid (∀ b, (Value.slice c4 r.length d4).ownBlock = some b → lv2.ownBlock = some b ∨ w2.heap.size ≤ b) ∧ Below w2.heap.size w2 wx

section
variable {w w2 w3 W' : World} {bs : List (List Int)} {r : List Int} {en' : Bool} {er : Int} {lv2 : Value} {c3 c4 : Option Addr} {d3 d4 : Nat} {rs3 : List (Value × List Int)}

theorem Aft.late (hW : Below w2.heap.size w2 W') (h1 : rs3.map (·.2) = bs) (h2 : LL w3 W'.heap.size (.slice c3 bs.length d3) rs3) (h3 : w3.ownsRow w.heap.size 5 1 (.slice c4 r.length d4) r.length (U r))
    (h4 : ∀ b, (Value.slice c4 r.length d4).ownBlock = some b → lv2.ownBlock = some b ∨ W'.heap.size ≤ b) (h5 : Below W'.heap.size W' w3) :
    Aft w w2 bs r en' er lv2 (.pointer (some ⟨w3.heap.size, 0, none⟩)) (.slice c3 bs.length d3) (.int .i64 er) (w3.alloc (.cells #[.slice c4 r.length d4, .bool en'] 37)) := by
  have hs := hW.size
  have hs5 := h5.size
  exact ⟨w3.heap.size, c3, c4, d3, d4, rs3, rfl, rfl, rfl, hide (heap_alloc_new w3 _), by omega, hide h1, hide ((h2.less hs).keep (fresh w3 _)), hide (keep_own h3 (fresh w3 _)), hide (fun b hb => (h4 b hb).imp id (fun h => by omega)),
    (hW.trans (h5.mono hs)).alloc (by omega) _⟩

theorem Aft.early (hW : Below w2.heap.size w2 W') (hWs : w2.heap.size < W'.heap.size) (hz : w3.heap[w2.heap.size]? = some (.cells #[.slice none 0 0, .bool false] 37 (0, 0))) (h1 : rs3.map (·.2) = bs) (h2 : LL w3 W'.heap.size (.slice c3 bs.length d3) rs3) (h3 : w3.ownsRow w.heap.size 5 1 (.slice c4 r.length d4) r.length (U r))
    (h4 : ∀ b, (Value.slice c4 r.length d4).ownBlock = some b → lv2.ownBlock = some b ∨ W'.heap.size ≤ b) (h5 : Below W'.heap.size W' w3) :
    Aft w w2 bs r en' er lv2 (.pointer (some ⟨w2.heap.size, 0, none⟩)) (.slice c3 bs.length d3) (.int .i64 er) ((w3.setCell ⟨w2.heap.size, 0, none⟩ (.slice c4 r.length d4)).setCell ⟨w2.heap.size, 1, none⟩ (.bool en')) := by
  have hs := hW.size
  have hz1 := heap_setCell_same w3 w2.heap.size 0 _ 37 (.slice c4 r.length d4) hz
  refine ⟨w2.heap.size, c3, c4, d3, d4, rs3, rfl, rfl, rfl, hide (heap_setCell_same _ w2.heap.size 1 _ 37 _ hz1), Nat.le_refl _, hide h1, hide ?_, hide ?_, hide (fun b hb => (h4 b hb).imp id (fun h => by omega)), ?_⟩
  · refine (((h2.bar (Bar.set w3 w2.heap.size 0 _) (fun b hv e => ?_) (fun q hq b hv e => ?_)).bar (Bar.set _ w2.heap.size 1 _) (fun b hv e => ?_) (fun q hq b hv e => ?_)).less hs)
    · have := own_from h2.own hv
      omega
    · have := own_from (h2.row q hq) hv
      omega
    · have := own_from h2.own hv
      omega
    · have := own_from (h2.row q hq) hv
      omega
  · exact ownsRow_setCell_other (ownsRow_setCell_other h3 (fun e => own_not h3 hz (by decide) e rfl) _) (fun e => own_not h3 hz (by decide) e rfl) _
  · exact (((hW.trans (h5.mono hs)).setCell (p := ⟨w2.heap.size, 0, none⟩) (Nat.le_refl _) _).setCell (p := ⟨w2.heap.size, 1, none⟩) (Nat.le_refl _) _)
end

namespace frameTells

set_option maxRecDepth 100000 in
set_option maxHeartbeats 8000000 in
theorem walk (a : Option Addr) (n cap : Nat) (bss : List (List Int)) (w : World) (hA : Rl w a n cap bss) (hn : ∀ b ∈ bss, b.length ≤ 140737488351232) :
    Calls Try.prog 4 #[.slice a n cap] w fun e w' => e = .returned (.bool true) ∧ Below w.heap.size w w' := by
  have hla := hA.len
  have hea := hA.le
  have hra := hA.reach
  go_enter Try.func4, Try.ntmps4
  go_wp2_with fail
  refine (new_any w).mono ?_
  rintro e w0 ⟨rfl, hR0, hb0⟩
  have hs0 := hb0.size
  have hR00 := hR0.keep (fresh w0 (.cells #[.slice none 0 0, .bool false] 37))
  have hV00 : Rv (w0.alloc (.cells #[.slice none 0 0, .bool false] 37)) w.heap.size w0.heap.size (.slice none 0 0) [] false := ⟨heap_alloc_new w0 _, World.ownsRow_nil _ _ _ _⟩
  have hb00 : Below w.heap.size w (w0.alloc (.cells #[.slice none 0 0, .bool false] 37)) := hb0.alloc hs0 _
  have hVs : w.heap.size ≤ w0.heap.size := hs0
  clear hR0 hb0
  generalize hVe : w0.heap.size = V at hV00 hVs
  go_wp2_with fail
  clear hVe
  go_loopw [5, 6] (fun tv i wr => ∃ (k tot : Nat) (lv lv2 : Value) (l : List Int) (en : Bool), k ≤ n ∧ k ≤ 40 ∧ i = .int .i64 k ∧ tv = .int .i64 tot ∧ tot ≤ 100000 ∧ l.length ≤ tot ∧ Hid (Rd wr w.heap.size w.heap.size lv l en) ∧ Hid (Rv wr w.heap.size V lv2 l en) ∧
      Hid (∀ b, lv2.ownBlock = some b → lv.ownBlock ≠ some b) ∧ Below w.heap.size w wr)
    (fun _ i _ => n - (intOf i).toNat)
  case atStart => exact ⟨0, 0, _, _, [], false, Nat.zero_le _, by omega, rfl, rfl, by omega, by simp, hide hR00, hide hV00, hide (by intro b hb; cases hb), hb00⟩
  case round =>
    obtain ⟨k, tot, lv, lv2, l, en, hk, hk40, rfl, rfl, htot, hlt, hR, hV, hap, hb⟩ := hrel
    have hbs := hb.size
    clear hR00 hV00 hb00
    by_cases hlt2 : k < n ∧ k < 40
    · obtain ⟨hltn, hlt40⟩ := hlt2
      obtain ⟨b2, o2, rfl, hc2⟩ := hA.lies (by omega)
      obtain ⟨p2, m2, d2, hk2, hB2⟩ := hc2 k hltn
      have hkw := hide (fun (w' : World) (h : Below w.heap.size w w') => (h.cell (cell_lt hk2)).trans hk2)
      have hk1 := hkw.out wr hb
      have hm2 : m2 ≤ 140737488351232 := by
        rw [← hB2.len]
        refine hn _ ?_
        rw [List.getD, List.getElem?_eq_getElem (by omega)]
        exact List.getElem_mem _
      clear hc2 hk2
      generalize bss.getD k [] = zs at hB2
      have hl2 := hB2.len
      by_cases hbig : 100000 < tot + m2
      · go_wp2_with fail
        refine (awake_any _).mono ?_
        rintro e w2 ⟨rfl, hb2⟩
        go_wp2_with fail
        go_ret
        exact ⟨rfl, hb.trans (hb2.mono hbs)⟩
      · go_wp2_with fail
        refine (lent_own _ _ _ zs _ (hB2.keep hb) (by omega)).mono ?_
        rintro e w1 ⟨g, d, rfl, hown1, hb1⟩
        have hs1 := hb1.size
        have hR1 := hR.out.keep hb1
        have hV1 := hV.out.keep hb1
        have hg1 := own_lt hown1
        have hRl := hR.out.lt
        have hVl := hV.out.lt
        have hb1' := hb.trans (hb1.mono hbs)
        have hby3 : ∀ z ∈ zs ++ [77, 78, 79], 0 ≤ z ∧ z ≤ 255 := by
          intro z hz
          rcases List.mem_append.1 hz with h | h
          · exact hB2.byte z h
          · simp only [List.mem_cons, List.not_mem_nil, or_false] at h
            omega
        have hBi : Bs w1 (some ⟨g, 0, none⟩) m2 d zs := by
          have := (own_bs hown1 hby3).head m2 (by omega)
          rwa [List.take_left' hl2] at this
        obtain ⟨bs, r, en', er, hst⟩ : ∃ bs r en' er, step l en zs = (bs, r, en', er) := ⟨_, _, _, _, rfl⟩
        have hrl := step_len hst
        have HST := hide hst
        clear hst
        go_wp2_with fail
        refine (feed_all hR1 (by omega) hBi (by omega) HST.out).mono ?_
        rintro e w2 ⟨c2, d2', lv', rs, rfl, hrs, hR2, hL2, htell, hsep, hbar2, hb2⟩
        have hs2 := hb2.size
        have hown2 := own_bar hown1 hbar2 (fun b hb h => by
          simp only [Value.ownBlock, Option.some.injEq] at hb
          subst hb
          rcases h with e | e
          · omega
          · have := hR.out.own.lt _ e
            omega)
        have hV2 : Rv w2 w.heap.size V lv2 l en := hV1.bar hbar2 (fun h => by
          rcases h with e | e
          · have h1 := hV1.obj
            rw [e, hR1.obj] at h1
            simp at h1
          · exact own_not hR1.own hV1.obj (by decide) e rfl) (fun b hb h => by
          rcases h with e | e
          · exact own_not hV1.own hR1.obj (by decide) hb e
          · exact hap.out b hb e)
        have hb2' : Below w.heap.size w w2 := hb1'.trans hb2
        have hk2 := hkw.out w2 hb2'
        have hc0 : w2.cell? ⟨V, 0, none⟩ = some lv2 := by rw [cell_of_row w2 V 0 _ 37 (0, 0) hV2.obj]; rfl
        have hc1 : w2.cell? ⟨V, 1, none⟩ = some (.bool en) := by rw [cell_of_row w2 V 1 _ 37 (0, 0) hV2.obj]; rfl
        obtain ⟨la2, lc2, rfl⟩ := own_val hV2.own
        have hltr : ∀ q ∈ rs, ∀ b, q.1.ownBlock = some b → w1.heap.size ≤ b ∧ b < w2.heap.size := fun q hq b hb => (hL2.row q hq).lt b hb
        clear hown1 hBi hbar2 hb2 hV1 hR1 hb1
        have hB2w := hB2.keep hb2'
        have hk2a : ∀ o, (w2.alloc o).cell? ⟨b2, o2 + k, none⟩ = some (.slice p2 m2 d2) := fun o => ((fresh w2 o).cell (cell_lt hk2)).trans hk2
        have hc0a : ∀ o, (w2.alloc o).cell? ⟨V, 0, none⟩ = some (.slice la2 l.length lc2) := fun o => ((fresh w2 o).cell (cell_lt hc0)).trans hc0
        have hc1a : ∀ o, (w2.alloc o).cell? ⟨V, 1, none⟩ = some (.bool en) := fun o => ((fresh w2 o).cell (cell_lt hc1)).trans hc1
        have CR := fun (W' : World) (h : Below w2.heap.size w2 W') => rfeed_all (w := W') (keep_own hV2.own h) hR.out.byte (Nat.le_trans hb2'.size h.size) (hB2w.keep h) (by omega) HST.out
        go_wp2_with fail
        go_cut [10, 11, 12] (fun s10 s11 s12 wx => Aft w w2 bs r en' er (.slice la2 l.length lc2) s10 s11 s12 wx)
        case first =>
          go_region_with (go_at_call 14; refine (CR _ (by first | exact (Below.refl _ w2).drew | exact (fresh w2 _).drew)).mono ?_; rintro e w3 ⟨c3, d3, c4, d4, rs3, rfl, hrs3, hL3, ho3, ht3, hb3⟩; try (have hz : w3.heap[w2.heap.size]? = some (.cells #[.slice none 0 0, .bool false] 37 (0, 0)) := (hb3.block _ (by simp)).trans (heap_alloc_new w2 _); have z0 : w3.cell? ⟨w2.heap.size, 0, none⟩ = some (.slice none 0 0) := (by rw [cell_of_row w3 _ 0 _ 37 (0, 0) hz]; rfl); have z1 : w3.cell? ⟨w2.heap.size, 1, none⟩ = some (.bool false) := (by rw [cell_of_row w3 _ 1 _ 37 (0, 0) hz]; rfl); have y0 := frozen_of_row w3 _ 0 _ 37 hz; have y1 := frozen_of_row w3 _ 1 _ 37 hz; have HZ := hide hz; clear hz))
          all_goals (try go_wp2_with fail)
          all_goals go_meet
          all_goals first
            | exact Aft.late (Below.refl _ w2).drew hrs3 hL3 ho3 ht3 hb3
            | exact Aft.early (fresh w2 _).drew (by simp) HZ.out hrs3 hL3 ho3 ht3 hb3
        case rest =>
          obtain ⟨B, c3, c4, d3, d4, rs3, rfl, rfl, rfl, hobj, hBB, hrs3, hL3, ho3, ht3, hb3⟩ := hcut
          have hs3 := hb3.size
          have hV3 := hV2.keep hb3
          have hR3 := hR2.keep hb3
          have hl3 := hL2.keep hb3
          have hi3 := keep_own hown2 hb3
          have hb3' : Below w.heap.size w wc := hb2'.trans (hb3.mono hb2'.size)
          have q0 : wc.cell? ⟨B, 0, none⟩ = some (.slice c4 r.length d4) := by rw [cell_of_row wc B 0 _ 37 (0, 0) hobj.out]; rfl
          have q1 : wc.cell? ⟨B, 1, none⟩ = some (.bool en') := by rw [cell_of_row wc B 1 _ 37 (0, 0) hobj.out]; rfl
          have q2 : wc.cell? ⟨V, 0, none⟩ = some (.slice la2 l.length lc2) := by rw [cell_of_row wc V 0 _ 37 (0, 0) hV3.obj]; rfl
          have q3 : wc.cell? ⟨V, 1, none⟩ = some (.bool en) := by rw [cell_of_row wc V 1 _ 37 (0, 0) hV3.obj]; rfl
          have q4 := frozen_of_row wc V 0 _ 37 hV3.obj
          have q5 := frozen_of_row wc V 1 _ 37 hV3.obj
          obtain ⟨w4, hw4⟩ : ∃ w4, w4 = (wc.setCell ⟨V, 0, none⟩ (.slice c4 r.length d4)).setCell ⟨V, 1, none⟩ (.bool en') := ⟨_, rfl⟩
          have hbar4 : Bar (fun k => k = V) wc w4 := by
            rw [hw4]
            exact (Bar.set wc V 0 _).trans (Bar.set _ V 1 _) (fun i hi => .inl hi)
          have hV4 : Rv w4 w.heap.size V (.slice c4 r.length d4) r en' := by
            refine ⟨?_, own_bar ho3.out hbar4 (fun b hb e => own_not ho3.out hV3.obj (by decide) hb e)⟩
            rw [hw4]
            exact heap_setCell_same _ V 1 _ 37 _ (heap_setCell_same wc V 0 _ 37 _ hV3.obj)
          have hR4 := hR3.bar hbar4 (fun e => by
            have h1 := hV3.obj
            rw [← e, hR3.obj] at h1
            simp at h1) (fun b hb e => own_not hR3.own hV3.obj (by decide) hb e)
          have hl4 := hl3.bar hbar4 (fun b hb e => own_not hl3.own hV3.obj (by decide) hb e) (fun q hq b hb e => own_not (hl3.row q hq) hV3.obj (by decide) hb e)
          have hm4 := hL3.out.bar hbar4 (fun b hb e => own_not hL3.out.own hV3.obj (by decide) hb e) (fun q hq b hb e => own_not (hL3.out.row q hq) hV3.obj (by decide) hb e)
          have hi4 := own_bar hi3 hbar4 (fun b hb e => own_not hi3 hV3.obj (by decide) hb e)
          have hb4 : Below w.heap.size w w4 := hb3'.trans (hbar4.below (fun i hi => by omega) hb3'.size)
          have hs4 := hbar4.size
          have hk4 := hkw.out w4 hb4
          have hkB := hB2.keep hb4
          have hiB := own_bs hi4 hby3
          have hap' : ∀ b, (Value.slice c4 r.length d4).ownBlock = some b → lv'.ownBlock ≠ some b := by
            intro b hb e
            have h1 := hR2.own.lt b e
            rcases ht3.out b hb with h | h
            · have h2 := hV.out.own.lt b h
              rcases htell b e with h3 | h3
              · exact hap.out b h h3
              · omega
            · omega
          have HAP := hide hap'
          have hk4e := hk4
          rw [hw4] at hk4e
          have HW4 := hide hw4
          clear hV3 hR3 hl3 hi3 hb3 hap' hV2 hR2 hL2 hown2 hbar4 hobj hw4
          go_wp2_with fail
          rw [← HW4.out]
          clear q0 q1 q2 q3 q4 q5 hk4e HW4
          refine (kept_any g m2 d p2 d2 zs w4 hiB hkB).mono ?_
          rintro e w4' ⟨rfl, hw4'⟩
          subst hw4'
          go_wp2_with fail
          refine (over_any _ g m2 d _ _ hi4 (by omega)).mono ?_
          rintro e w5 ⟨rfl, hbar5⟩
          have hV5 := hV4.bar hbar5 (fun e => by omega) (fun b hb e => by
            rcases ht3.out b hb with h | h
            · have := hV.out.own.lt b h
              omega
            · omega)
          have hR5 := hR4.bar hbar5 (fun e => by omega) (fun b hb e => by
            rcases htell b hb with h | h
            · have := hR.out.own.lt b h
              omega
            · omega)
          have hl5 := (hl4.bar hbar5 (fun b hb e => by have := own_from hl4.own hb; omega) (fun q hq b hb e => by have := own_from (hl4.row q hq) hb; omega)).rl
          have hm5 := (hm4.bar hbar5 (fun b hb e => by have := own_from hm4.own hb; omega) (fun q hq b hb e => by have := own_from (hm4.row q hq) hb; omega)).rl
          rw [hrs] at hl5
          rw [hrs3.out] at hm5
          have hb5 : Below w.heap.size w w5 := hb4.trans (hbar5.below (fun i hi => by omega) hb4.size)
          have hs5 := hb5.size
          have hk5 := hkw.out w5 hb5
          have v5 : w5.cell? ⟨V, 0, none⟩ = some (.slice c4 r.length d4) := by rw [cell_of_row w5 V 0 _ 37 (0, 0) hV5.obj]; rfl
          have CS : ∀ q, Calls Try.prog 17 #[.slice c2 bs.length d2', .slice c3 bs.length d3] (w5.drewN q) fun e w' => e = .returned (.bool true) ∧ ∃ m, w' = (w5.drewN q).drewN m := by
            intro q
            have := lists_any _ _ _ _ _ _ _ _ _ (hl5.drewN q) (hm5.drewN q)
            rwa [decide_eq_true rfl] at this
          have CL : ∀ q, Calls Try.prog 11 #[.pointer (some ⟨w.heap.size, 0, none⟩)] (w5.drewN q) fun e w' => e = .returned (.int .i64 r.length) ∧ w' = w5.drewN q := fun q => left_any (hR5.keep (below_drewN (Below.refl _ w5) q))
          clear hk2 hc0 hc1 hltr hB2w hk2a hc0a hc1a hl4 hm4 hi4 hk4 hkB hiB hbar5 hV4 hR4 CR hrs hrs3 hL3 ho3 hl5 hm5 hk1
          go_wp2_with fail
          go_quiet (first | (go_at_call 17; exact Calls.quiet_of (CS _)) | (go_at_call 11; exact Calls.quiet_of_same (CL _)))
          go_wp2_with fail
          obtain ⟨w6, hw6⟩ : ∃ w6, w6 = w5.drewN nq := ⟨_, rfl⟩
          have hR6 := hR5.keep (below_drewN (Below.refl _ w5) nq)
          have hV6 := hV5.keep (below_drewN (Below.refl _ w5) nq)
          have hb6 : Below w.heap.size w (w5.drewN nq) := below_drewN hb5 nq
          rw [← hw6] at hR6 hV6 hb6 ⊢
          clear hw6 hR5 hV5 CS CL v5 hk5
          have hs6 := hb6.size
          have hk6 := hkw.out w6 hb6
          have hB6 := hB2.keep hb6
          have hr6 := hB6.reach
          have hle6 := hB6.le
          by_cases hlong : 65536 < m2
          · refine (put_no _ _ _ _ hlong (by omega)).mono ?_
            rintro e w7 ⟨rfl, hw7⟩
            subst hw7
            go_wp2_with fail
            refine (rput_no _ _ _ _ hlong (by omega)).mono ?_
            rintro e w8 ⟨rfl, hw8⟩
            subst hw8
            go_wp2_with fail
            refine (same_true rfl (Bs.nil _) (Bs.nil _)).mono ?_
            rintro e w9 ⟨rfl, hw9⟩
            subst hw9
            go_wp2_with fail
            go_roundw
            case rel => exact ⟨k + 1, tot + m2, lv', _, r, en', by omega, by omega, by go_num, by go_num, by omega, by omega, hide hR6, hide hV6, HAP, hb6⟩
            case measure => simp [intOf]; omega
          · refine (put_yes _ _ _ zs _ hB6 (by omega)).mono ?_
            rintro e w7 ⟨g7, e7, rfl, hown7, hb7⟩
            have hk7 := hkw.out w7 (hb6.trans (hb7.mono hs6))
            have hB7 := own_bs hown7 (fun z hz => (List.mem_append.1 hz).elim (be_byte _ _ z) (hB2.byte z))
            have hs7 := hb7.size
            go_wp2_with fail
            refine (rput_yes _ _ _ zs _ (hB6.keep hb7) (by omega)).mono ?_
            rintro e w8 ⟨g8, e8, rfl, hB8, hb8⟩
            go_wp2_with fail
            refine (same_true rfl (hB7.keep hb8) hB8).mono ?_
            rintro e w9 ⟨rfl, hw9⟩
            subst hw9
            have KB : Below w6.heap.size w6 w9 := hb7.trans (hb8.mono hs7)
            clear hown7 hB7 hB8 hb7 hb8 hk7 hk6
            go_wp2_with fail
            go_roundw
            case rel => exact ⟨k + 1, tot + m2, lv', _, r, en', by omega, by omega, by go_num, by go_num, by omega, by omega, hide (hR6.keep KB), hide (hV6.keep KB), HAP, hb6.trans (KB.mono hs6)⟩
            case measure => simp [intOf]; omega
    · have hend : (k < n ∧ 40 ≤ k) ∨ ¬ k < n := by omega
      rcases hend with ⟨j1, j2⟩ | j1
      all_goals
        go_wp2_with fail
        refine (awake_any _).mono ?_
        rintro e w2 ⟨rfl, hb2⟩
        go_wp2_with fail
        go_ret
        exact ⟨rfl, hb.trans (hb2.mono hbs)⟩

end frameTells
end Go.Proofs.Ytalknfbhnhpdhaa

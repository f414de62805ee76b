/-
  SyncNames.
-/
import Derived.Test.YtiijfgidfcfjoaaDrn
namespace Go.Proofs.Ytiijfgidfcfjoaa
open Go.RowKit
set_option maxRecDepth 100000
set_option maxRecDepth 100000

def Dsk.named (d : Dsk) : Dsk := { d with dur := (nms d.l).foldl Shp.does d.dur, l := offN (nms d.l).length d.l }
def Dsk.syncNames (d : Dsk) : Int × Dsk := if d.begin.1 ≠ 0 then d.begin else (0, d.begin.2.named)

set_option maxHeartbeats 2000000 in
theorem syncNames_go {w : World} {L : Lb} {R : Nat} {o : Ob} {d : Dsk} {K : Nat} (h : Di w L R o d.dur d.std d.l) (hsy : Says o d) (hmd : Sm d.dur K) (hK : K < 8000000000000000000) (hlast : d.last < 900000000) :
    Calls Try.prog 21 #[.pointer (some ⟨R, 0, none⟩)] w fun e w' => e = .returned (.int .i64 d.syncNames.1) ∧ ∃ L', Lx w L L' ∧ Dk w' L' R d.syncNames.2 ∧ Tl L TD w w' := by
  have hr := right_yes h.oj
  have hbg := begin_dk h hsy
  obtain ⟨p1, p2, p3, p4, p5⟩ := begin_parts d
  have hlb := h.lb
  have HBG := hide hbg
  have HMD := hide hmd
  clear h hsy hmd hbg
  go_enter Try.func21, Try.ntmps21
  go_wp2_with (go_at_call 35; refine hr.mono ?_; rintro e w1 ⟨rfl, hw1⟩; subst w1)
  refine HBG.out.mono ?_
  rintro e w1 ⟨rfl, o1, hd1, hs1, q1, q2, q3, q4, t1⟩
  have tl1 : Hid (Tl L TD w w1) := hide (Tl.own hlb t1)
  by_cases hb : d.begin.1 = 0
  · rw [hb]
    have hpe : Hid (d.syncNames = (0, d.begin.2.named)) := hide (by unfold Dsk.syncNames; rw [if_neg (by rw [hb]; simp)])
    have ho1 : o1.last < 1000000000 := by rw [hs1.last, p4]; omega
    have hd1d : Di w1.drew L R o1 d.dur d.std d.l := hd1.tb ((Tb.refl (fun _ => False) w1).drew) (Lx.refl _ _) (fun _ _ h => h)
    obtain ⟨T, hT⟩ : ∃ T, Hid (T = (nms d.l).length) := ⟨_, hide rfl⟩
    have hrow := hd1.bk.row
    rw [← hT.out] at hrow
    obtain ⟨ns, hns⟩ : ∃ ns, Hid (ns = o1.ns) := ⟨_, hide rfl⟩
    have c6 : w1.cell? ⟨R, 6, none⟩ = some ns := by rw [hns.out]; exact hd1.oj.c 6
    rw [← hns.out] at hrow
    obtain ⟨ad, cp, hx⟩ := row_val hrow
    have hlen := hd1.bk.length
    have hnl : (nms d.l).length ≤ d.l.length := List.length_filter_le _ _
    have hll : (d.l.length : Int) < 900000000 := by rw [hs1.last, p4] at hlen; omega
    have HD := hide hd1d
    have HS1 := hide hs1
    have hok : Hid (∀ t ∈ d.l, t.Ok) := hide hd1.bk.ok
    have TE : Hid (Tl L TD w w1.drew) := hide (Tb.drew tl1.out)
    subst hx
    clear hd1 hd1d hs1 q1 q2 q3 q4 t1 HBG hr hrow hlen
    go_wp2_with fail
    have c6' : w1.drew.cell? ⟨R, 6, none⟩ = some (.slice ad T cp) := c6
    refine wp_region_held_drew (S := fun _ => True) (by kernel_rfl) trivial (fun _ => ?_)
    try simp only [List.size_toArray, List.length_cons, List.length_nil, Nat.reduceAdd]
    refine wpAnyH_take (i := 0) (v := (.pointer (some ⟨R, 0, none⟩))) rfl (by kernel_rfl) (by kernel_rfl) (by kernel_rfl) (fun _ _ _ h => h) (Or.inl ⟨by rfl, ?hy⟩) trivial ?_
    case hy => (intro V _; go_simp)
    refine wpAnyH_take (i := 1) (v := (.pointer (some ⟨R, 0, none⟩))) rfl (by kernel_rfl) (by kernel_rfl) (by kernel_rfl) (fun _ _ _ h => h) (Or.inl ⟨by rfl, ?hy⟩) trivial ?_
    case hy => (intro V _; go_simp)
    refine wpAnyH_take (i := 2) (v := (.pointer (some ⟨R, 0, none⟩))) rfl (by kernel_rfl) (by kernel_rfl) (by kernel_rfl) (fun _ _ _ h => h) (Or.inl ⟨by rfl, ?hy⟩) trivial ?_
    case hy => (intro V _; go_simp)
    refine wpAnyH_take (i := 3) (v := (.pointer (some ⟨R, 5, none⟩))) rfl (by kernel_rfl) (by kernel_rfl) (by kernel_rfl) (fun _ _ _ h => h) (Or.inl ⟨by rfl, ?hy⟩) trivial ?_
    case hy => (intro V _; go_simp)
    refine wpAnyH_take (i := 4) (v := (.pointer (some ⟨R, 0, none⟩))) rfl (by kernel_rfl) (by kernel_rfl) (by kernel_rfl) (fun _ _ _ h => h) (Or.inl ⟨by rfl, ?hy⟩) trivial ?_
    case hy => (intro V _; go_simp)
    refine wpAnyH_take (i := 5) (v := (.pointer (some ⟨R, 0, none⟩))) rfl (by kernel_rfl) (by kernel_rfl) (by kernel_rfl) (fun _ _ _ h => h) (Or.inl ⟨by rfl, ?hy⟩) trivial ?_
    case hy => (intro V _; go_simp)
    refine wpAnyH_take (i := 6) (v := (.pointer (some ⟨R, 5, none⟩))) rfl (by kernel_rfl) (by kernel_rfl) (by kernel_rfl) (fun _ _ _ h => h) (Or.inl ⟨by rfl, ?hy⟩) trivial ?_
    case hy => (intro V _; go_simp)
    refine wpAnyH_take (i := 7) (v := (.pointer (some ⟨R, 6, none⟩))) rfl (by kernel_rfl) (by kernel_rfl) (by kernel_rfl) (fun _ _ _ h => h) (Or.inl ⟨by rfl, ?hy⟩) trivial ?_
    case hy => (intro V _; go_simp)
    refine wpAnyH_ready (rs := [8]) (by kernel_rfl) (by simp) ?_
    refine AllReadyH.cons (by rfl) ?_ AllReadyH.nil
    intro K hK
    go_simp
    refine hK.out _ _ trivial (fun _ => ?_)
    clear hK K
    refine wpAnyH_take (i := 9) (v := (.int .i64 (T : Nat))) rfl (by kernel_rfl) (by kernel_rfl) (by kernel_rfl) (fun _ _ _ h => h) (Or.inl ⟨by rfl, ?hy⟩) trivial ?_
    case hy => (intro V _; go_simp)
    refine wpAnyH_ready (rs := [10]) (by kernel_rfl) (by simp) ?_
    refine AllReadyH.cons rfl (fun K hK => ?_) AllReadyH.nil
    refine step_call rfl 49 #[.pointer (some ⟨R, 5, none⟩), .int .i64 (T : Nat)] (by go_simp) ?_
    refine (takeNames_any HD.out (n := T) (by rw [hT.out]; exact Nat.le_refl _) ho1).mono ?_
    rintro e w3 ⟨v3, L3, ns3, rfl, r3, b3, x3, d3, t3⟩
    refine ⟨_, rfl, ?_⟩
    refine hK.out _ _ trivial (fun _ => ?_)
    clear hK K
    refine wpAnyH_ready (rs := [11]) (by kernel_rfl) (by simp) ?_
    refine AllReadyH.cons rfl (fun K hK => ?_) AllReadyH.nil
    refine step_call rfl 48 #[.pointer (some ⟨R, 0, none⟩), v3] (by go_simp) ?_
    have htk : (nms d.l).take T = nms d.l := by rw [hT.out]; exact List.take_length
    rw [htk] at r3
    refine (settle_any d3 r3 (fun g hg => by rw [(b3 g hg).2]; unfold TA; simp) (fun t ht => hok.out t (List.mem_filter.1 ht).1) HMD.out (by omega) (by omega)).mono ?_
    rintro e w4 ⟨rfl, L4, x4, d4, t4⟩
    refine ⟨_, rfl, ?_⟩
    refine hK.out _ _ trivial (fun _ => ?_)
    clear hK K
    refine wpAnyH_done (by kernel_rfl) ?_ _
    simp only [Act.put, List.getElem_toArray, List.getElem_cons_succ, List.getElem_cons_zero, List.setIfInBounds_toArray, List.set_cons_succ, List.set_cons_zero]
    have FIN : Hid (∃ L', Lx w L L' ∧ Dk w4 L' R d.begin.2.named ∧ Tl L TD w w4) := hide (by
      have a3 : Tl L TD w w3 := Tl.trans TE.out t3 (Lx.refl _ _) (fun _ h => h)
      have y3 : Lx w L L3 := fun g hg => x3 g (Nat.lt_of_lt_of_le hg (Tb.size TE.out))
      refine ⟨L4, y3.trans (w' := w3) x4 (Tb.size a3), ⟨_, ?_, HS1.out.bl ns3 rfl rfl rfl rfl rfl rfl⟩, Tl.trans a3 t4 y3 (fun _ h => .inr (.inl h))⟩
      unfold Dsk.named
      simp only
      rw [p1, p2, p3, ← hT.out]
      exact d4)
    clear d3 d4 t3 t4 x3 x4 r3 b3
    go_wp2_with fail
    go_ret
    rw [hpe.out]
    exact ⟨rfl, FIN.out⟩
  · have e9 : (d.begin.1 == 0) = false := by simpa using hb
    have hpe : Hid (d.syncNames = d.begin) := hide (by unfold Dsk.syncNames; rw [if_pos hb])
    have HD1 : Hid (Dk w1 L R d.begin.2) := hide ⟨o1, by rw [p1, p2, p3]; exact hd1, hs1⟩
    obtain ⟨E, hE⟩ : ∃ E, E = d.begin.1 := ⟨_, rfl⟩
    rw [← hE] at hb e9
    rw [← hE]
    have hE2 := hide hE.symm
    clear hd1 hs1 HBG hE hr
    go_wp2_with fail
    go_ret
    rw [hpe.out]
    exact ⟨by rw [hE2.out]; rfl, L, Lx.refl _ _, HD1.out, tl1.out⟩

end Go.Proofs.Ytiijfgidfcfjoaa

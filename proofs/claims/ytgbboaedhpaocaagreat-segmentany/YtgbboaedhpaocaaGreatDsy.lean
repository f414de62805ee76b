/-
  Sync of a disk.
-/
import Derived.Test.YtgbboaedhpaocaaGreatDdl
namespace Go.Proofs.YtgbboaedhpaocaaGreat
open Go.RowKit
set_option maxRecDepth 100000
set_option maxRecDepth 100000

/-- The steps of a file, and of names up to its making, are carried out on what is durable. -/
def Dsk.settled (d : Dsk) (f : Int) : Dsk :=
  { d with
    dur := (scs (offN (toMake f (nms d.l)) d.l) f).foldl Shp.does (((nms d.l).take (toMake f (nms d.l))).foldl Shp.does d.dur)
    l := offS (offN (toMake f (nms d.l)) d.l) f }

def Dsk.sync (d : Dsk) (s : ByteArray) : Int × Dsk :=
  if d.find s = 0 then (70, d) else if d.begin.1 ≠ 0 then d.begin else (0, d.begin.2.settled (d.find s))

theorem Says.bl {o : Ob} {d d' : Dsk} (h : Says o d) (ns : Value) (h1 : d'.last = d.last) (h2 : d'.made = d.made) (h3 : d'.down = d.down) (h4 : d'.armed = d.armed) (h5 : d'.failing = d.failing) (h6 : d'.failure = d.failure) : Says (o.bl o.last ns) d' :=
  ⟨by rw [h1]; exact h.last, by rw [h2]; exact h.made, by rw [h3]; exact h.down, by rw [h4]; exact h.armed, by rw [h5]; exact h.failing, by rw [h6]; exact h.failure⟩

set_option maxHeartbeats 2000000 in
theorem sync_no {w : World} {L : Lb} {R : Nat} {o : Ob} {d : Dsk} {s : ByteArray} (h : Di w L R o d.dur d.std d.l) (hs : s.size ≤ 9223372036854775807) (h0 : d.find s = 0) :
    Calls Tryz.prog 53 #[.pointer (some ⟨R, 0, none⟩), .string s] w fun e w' => e = .returned (.int .i64 70) ∧ w' = w := by
  have hf := find_any h hs
  rw [show (lk d.std.nm s.data.toList).getD 0 = 0 from h0] at hf
  clear h
  go_enter Tryz.func53, Tryz.ntmps53
  go_wp2_with (go_at_call 58; refine hf.mono ?_; rintro e w1 ⟨rfl, hw1⟩; subst w1)
  go_ret
  exact ⟨rfl, rfl⟩

set_option maxHeartbeats 2000000 in
theorem sync_go {w : World} {L : Lb} {R : Nat} {o : Ob} {d : Dsk} {K : Nat} {s : ByteArray} (h : Di w L R o d.dur d.std d.l) (hsy : Says o d) (hm : Sm d.std K) (hmd : Sm d.dur K) (hK : K < 8000000000000000000) (hlast : d.last < 900000000) (hs : s.size ≤ 9223372036854775807) (h0 : d.find s ≠ 0) :
    Calls Tryz.prog 53 #[.pointer (some ⟨R, 0, none⟩), .string s] w fun e w' => e = .returned (.int .i64 (d.sync s).1) ∧ ∃ L', Lx w L L' ∧ Dk w' L' R (d.sync s).2 ∧ Tl L TD w w' := by
  have hf := find_any h hs
  obtain ⟨F, hF⟩ : ∃ F, F = d.find s := ⟨_, rfl⟩
  have hf6 := hm.fileOf s.data.toList
  rw [show (lk d.std.nm s.data.toList).getD 0 = F from hF.symm] at hf hf6
  have hp : d.sync s = if d.begin.1 ≠ 0 then d.begin else (0, d.begin.2.settled F) := by unfold Dsk.sync; rw [if_neg h0, hF]
  rw [← hF] at h0
  rw [if_neg h0] at hf
  have hbg := begin_dk h hsy
  obtain ⟨p1, p2, p3, p4, p5⟩ := begin_parts d
  have hlb := h.lb
  have HBG := hide hbg
  have HP := hide hp
  have HMD := hide hmd
  have HI := hide hf6
  clear h hsy hm hmd hbg hp hF hf6
  go_enter Tryz.func53, Tryz.ntmps53
  go_wp2_with (go_at_call 58; refine hf.mono ?_; rintro e w1 ⟨rfl, hw1⟩; subst w1)
  refine HBG.out.mono ?_
  rintro e w1 ⟨rfl, o1, hd1, hs1, q1, q2, q3, q4, t1⟩
  have tl1 : Hid (Tl L TD w w1) := hide (Tl.own hlb t1)
  by_cases hb : d.begin.1 = 0
  · rw [hb]
    have hpe : Hid (d.sync s = (0, d.begin.2.settled F)) := hide (by rw [HP.out, if_neg (by rw [hb]; simp)])
    have ho1 : o1.last < 1000000000 := by rw [hs1.last, p4]; omega
    obtain ⟨T, hT⟩ : ∃ T, T = toMake F (nms d.l) := ⟨_, rfl⟩
    have hTle : T ≤ (nms d.l).length := by rw [hT]; exact toMake_le _ _
    have hTI := toMaking_any (f := F) hd1 ho1
    rw [← hT] at hTI
    have hd1d : Di w1.drew L R o1 d.dur d.std d.l := hd1.tb ((Tb.refl (fun _ => False) w1).drew) (Lx.refl _ _) (fun _ _ h => h)
    have hTId := toMaking_any (f := F) hd1d ho1
    rw [← hT] at hTId
    have hlen := hd1.bk.length
    have hnl : (nms d.l).length ≤ d.l.length := List.length_filter_le _ _
    have hll : (d.l.length : Int) < 900000000 := by rw [hs1.last, p4] at hlen; omega
    have HD := hide hd1d
    have HT := hide hTId
    have HTL := hide hTle
    have HHT := hide hT
    have HS1 := hide hs1
    have hok : Hid (∀ t ∈ d.l, t.Ok) := hide hd1.bk.ok
    have TE : Hid (Tl L TD w w1.drew) := hide (Tb.drew tl1.out)
    clear hd1 hd1d hTI hTId hs1 hT q1 q2 q3 q4 t1 HBG hf hlen
    go_wp2_with fail
    refine wp_region_held_drew (S := fun _ => True) (by kernel_rfl) trivial (fun _ => ?_)
    try simp only [List.size_toArray, List.length_cons, List.length_nil, Nat.reduceAdd]
    refine wpAnyH_take (i := 0) (v := (.pointer (some ⟨R, 0, none⟩))) rfl (by kernel_rfl) (by kernel_rfl) (by kernel_rfl) (fun _ _ _ h => h) (Or.inl ⟨by rfl, ?hy⟩) trivial ?_
    case hy => (intro V _; go_simp)
    refine wpAnyH_take (i := 1) (v := (.pointer (some ⟨R, 0, none⟩))) rfl (by kernel_rfl) (by kernel_rfl) (by kernel_rfl) (fun _ _ _ h => h) (Or.inl ⟨by rfl, ?hy⟩) trivial ?_
    case hy => (intro V _; go_simp)
    refine wpAnyH_take (i := 2) (v := (.pointer (some ⟨R, 0, none⟩))) rfl (by kernel_rfl) (by kernel_rfl) (by kernel_rfl) (fun _ _ _ h => h) (Or.inl ⟨by rfl, ?hy⟩) trivial ?_
    case hy => (intro V _; go_simp)
    refine wpAnyH_take (i := 3) (v := (.pointer (some ⟨R, 5, none⟩))) rfl (by kernel_rfl) (by kernel_rfl) (by kernel_rfl) (fun _ _ _ h => h) (Or.inl ⟨by rfl, ?hy⟩) trivial ?_
    case hy => (intro V _; go_simp)
    refine wpAnyH_take (i := 4) (v := (.pointer (some ⟨R, 0, none⟩))) rfl (by kernel_rfl) (by kernel_rfl) (by kernel_rfl) (fun _ _ _ h => h) (Or.inl ⟨by rfl, ?hy⟩) trivial ?_
    case hy => (intro V _; go_simp)
    refine wpAnyH_take (i := 5) (v := (.pointer (some ⟨R, 0, none⟩))) rfl (by kernel_rfl) (by kernel_rfl) (by kernel_rfl) (fun _ _ _ h => h) (Or.inl ⟨by rfl, ?hy⟩) trivial ?_
    case hy => (intro V _; go_simp)
    refine wpAnyH_take (i := 6) (v := (.pointer (some ⟨R, 5, none⟩))) rfl (by kernel_rfl) (by kernel_rfl) (by kernel_rfl) (fun _ _ _ h => h) (Or.inl ⟨by rfl, ?hy⟩) trivial ?_
    case hy => (intro V _; go_simp)
    refine wpAnyH_take (i := 7) (v := (.int .i64 F)) rfl (by kernel_rfl) (by kernel_rfl) (by kernel_rfl) (fun _ _ _ h => h) (Or.inl ⟨by rfl, ?hy⟩) trivial ?_
    case hy => (intro V _; go_simp)
    refine wpAnyH_ready (rs := [8]) (by kernel_rfl) (by simp) ?_
    refine AllReadyH.cons rfl (fun K hK => ?_) AllReadyH.nil
    refine step_call rfl 97 #[.pointer (some ⟨R, 5, none⟩), .int .i64 F] (by go_simp) ?_
    refine HT.out.mono ?_
    rintro e w2 ⟨rfl, t2⟩
    refine ⟨_, rfl, ?_⟩
    refine hK.out _ _ trivial (fun _ => ?_)
    clear hK K
    refine wpAnyH_ready (rs := [9]) (by kernel_rfl) (by simp) ?_
    refine AllReadyH.cons rfl (fun K hK => ?_) AllReadyH.nil
    refine step_call rfl 96 #[.pointer (some ⟨R, 5, none⟩), .int .i64 (T : Nat)] (by go_simp) ?_
    have hd2 := HD.out.tb t2 (Lx.refl _ _) (fun _ _ h => h)
    refine (takeNames_any hd2 HTL.out ho1).mono ?_
    rintro e w3 ⟨v3, L3, ns3, rfl, r3, b3, x3, d3, t3⟩
    refine ⟨_, rfl, ?_⟩
    refine hK.out _ _ trivial (fun _ => ?_)
    clear hK K
    refine wpAnyH_ready (rs := [10]) (by kernel_rfl) (by simp) ?_
    refine AllReadyH.cons rfl (fun K hK => ?_) AllReadyH.nil
    refine step_call rfl 95 #[.pointer (some ⟨R, 0, none⟩), v3] (by go_simp) ?_
    have hl3 : ((nms d.l).take T).length ≤ (nms d.l).length := by rw [List.length_take]; omega
    refine (settle_any d3 r3 (fun g hg => by rw [(b3 g hg).2]; unfold TA; simp) (fun t ht => hok.out t (List.mem_filter.1 (List.mem_of_mem_take ht)).1) HMD.out (by omega) (by omega)).mono ?_
    rintro e w4 ⟨rfl, L4, x4, d4, t4⟩
    refine ⟨_, rfl, ?_⟩
    refine hK.out _ _ trivial (fun _ => ?_)
    clear hK K
    refine wpAnyH_done (by kernel_rfl) ?_ _
    simp only [Act.put, List.getElem_toArray, List.getElem_cons_succ, List.getElem_cons_zero, List.setIfInBounds_toArray, List.set_cons_succ, List.set_cons_zero]
    have T3 : Hid (Lx w L L4 ∧ Tl L TD w w4) := hide (by
      have a2 : Tl L TD w w2 := Tb.trans (T := fun _ => False) TE.out t2 (fun _ _ h => h.elim)
      have a3 : Tl L TD w w3 := Tl.trans a2 t3 (Lx.refl _ _) (fun _ h => h)
      have y3 : Lx w L L3 := fun g hg => x3 g (Nat.lt_of_lt_of_le hg (Tb.size a2))
      exact ⟨y3.trans (w' := w3) x4 (Tb.size a3), Tl.trans a3 t4 y3 (fun _ h => .inr (.inl h))⟩)
    have HD4 := hide d4
    clear d3 d4 hd2 t2 t3 t4 x3 x4 r3 b3
    have HI4 := HI
    go_wp2_with (go_at_call 98; refine (takeSectors_any HD4.out HI4.out).mono ?_; rintro e w5 ⟨v5, rfl, r5, b5, d5, t5⟩)
    have hl5 : (scs (offN T d.l) F).length ≤ d.l.length := Nat.le_trans (List.length_filter_le _ _) (offN_sub T d.l).length_le
    have hmd5 : Sm (((nms d.l).take T).foldl Shp.does d.dur) (K + 1000000000) := (fold_sm HMD.out ((nms d.l).take T) (fun t ht => hok.out t (List.mem_filter.1 (List.mem_of_mem_take ht)).1)).mono (by omega)
    refine (settle_any d5 r5 (fun g hg => by rw [b5 g hg]; unfold TA; simp) (fun t ht => hok.out t ((offN_sub T d.l).subset (List.mem_filter.1 ht).1)) hmd5 (by omega) (by omega)).mono ?_
    rintro e w6 ⟨rfl, L6, x6, d6, t6⟩
    have FIN : Hid (∃ L', Lx w L L' ∧ Dk w6 L' R (d.begin.2.settled F) ∧ Tl L TD w w6) := hide (by
      obtain ⟨y4, a4⟩ := T3.out
      have a5 : Tl L TD w w5 := Tl.trans a4 t5 y4 (fun _ h => .inr (.inr (.inr h)))
      have y6 : Lx w L L6 := y4.trans (w' := w5) x6 (Tb.size a5)
      refine ⟨L6, y6, ⟨_, ?_, HS1.out.bl ns3 rfl rfl rfl rfl rfl rfl⟩, Tl.trans a5 t6 y4 (fun _ h => .inr (.inl h))⟩
      unfold Dsk.settled
      simp only
      rw [p1, p2, p3, ← HHT.out]
      exact d6)
    clear d5 d6 r5 b5 t5 t6 x6
    go_wp2_with fail
    go_ret
    rw [hpe.out]
    exact ⟨rfl, FIN.out⟩
  · have e9 : (d.begin.1 == 0) = false := by simpa using hb
    have hpe : Hid (d.sync s = d.begin) := hide (by rw [HP.out, if_pos hb])
    have HD1 : Hid (Dk w1 L R d.begin.2) := hide ⟨o1, by rw [p1, p2, p3]; exact hd1, hs1⟩
    obtain ⟨E, hE⟩ : ∃ E, E = d.begin.1 := ⟨_, rfl⟩
    rw [← hE] at hb e9
    rw [← hE]
    have hE2 := hide hE.symm
    clear hd1 hs1 HBG hf hE
    go_wp2_with fail
    go_ret
    rw [hpe.out]
    exact ⟨by rw [hE2.out]; rfl, L, Lx.refl _ _, HD1.out, tl1.out⟩

end Go.Proofs.YtgbboaedhpaocaaGreat

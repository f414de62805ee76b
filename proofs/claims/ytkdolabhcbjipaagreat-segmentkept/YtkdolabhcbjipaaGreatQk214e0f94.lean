/-
  Put, told besides: the disk's maps stay where they are.
-/
import Derived.Test.YtkdolabhcbjipaaGreatQk4631174f
namespace Go.Proofs.YtkdolabhcbjipaaGreat
open Go.RowKit
set_option maxRecDepth 100000

/-- The same maps. -/
structure Sa (o o' : Ob) : Prop where
  dn : o'.dn = o.dn
  dr : o'.dr = o.dr
  sn : o'.sn = o.sn
  sr : o'.sr = o.sr
  us : o'.us = o.us

theorem Sa.refl (o : Ob) : Sa o o := ⟨rfl, rfl, rfl, rfl, rfl⟩
theorem Sa.trans {a b c : Ob} (h : Sa a b) (k : Sa b c) : Sa a c := ⟨k.dn.trans h.dn, k.dr.trans h.dr, k.sn.trans h.sn, k.sr.trans h.sr, k.us.trans h.us⟩
theorem Sa.made {a b : Ob} (h : Sa a b) (m : Int) : Sa a { b with made := m } := ⟨h.dn, h.dr, h.sn, h.sr, h.us⟩

section
variable {w : World} {L : Lb} {R : Nat} {o : Ob} {d : Dsk}

theorem begin_dkm (h : Di w L R o d.dur d.std d.l) (hs : Says o d) :
    Calls Tryz.prog 57 #[.pointer (some ⟨R, 0, none⟩)] w fun e w' => e = .returned (.int .i64 d.begin.1) ∧ ∃ o', Di w' L R o' d.dur d.std d.l ∧ Says o' d.begin.2 ∧ o'.last = o.last ∧ o'.made = o.made ∧ Sa o o' ∧ Tb (fun k => k = R) w w' := by
  refine (begin_any h.oj).mono ?_
  rintro e w1 ⟨rfl, h1, b1⟩
  obtain ⟨s1, s2⟩ := hs.begun
  obtain ⟨q1, q2, q3, q4, q5, q6, q7⟩ := begun_same o
  have qm : (begun o).2.made = o.made := by rw [s2.made, (begin_parts d).2.2.2.2, hs.made]
  exact ⟨by rw [s1], _, h.set h1 b1 q1 q2 q3 q4 q5 q6 q7, s2, q7, qm, ⟨q1, q2, q3, q4, q5⟩, b1⟩

theorem do_dkm {t : Stp} {K : Nat} (h : Di w L R o d.dur d.std d.l) (hs : Says o d) (ht : t.Ok) (hl : d.last < 1000000000) (hm : Sm d.std K) (hK : K < 9000000000000000000) :
    Calls Tryz.prog 71 #[.pointer (some ⟨R, 0, none⟩), .agg t.cells.toArray] w fun e w' => e = .returned (.tuple #[]) ∧ ∃ L' o', Lx w L L' ∧ Di w' L' R o' (d.do t).dur (d.do t).std (d.do t).l ∧ Says o' (d.do t) ∧ Sa o o' ∧ Tl L TD w w' := by
  refine (do_any h ht (by rw [hs.last]; exact hl) hm hK).mono ?_
  rintro e w1 ⟨rfl, L', ns', hx, hd, hT⟩
  rw [hs.last] at hd
  exact ⟨rfl, L', _, hx, hd, ⟨rfl, hs.made, hs.down, hs.armed, hs.failing, hs.failure⟩, ⟨rfl, rfl, rfl, rfl, rfl⟩, hT⟩
end

set_option maxHeartbeats 2000000 in
theorem put_gom {w : World} {L : Lb} {R : Nat} {o : Ob} {d : Dsk} {K : Nat} {s : ByteArray} {at' : Int} {b off cap : Nat} {data : List Int} (h : Di w L R o d.dur d.std d.l) (hsy : Says o d) (hm : Sm d.std K) (hK : K < 8000000000000000000) (hlast : d.last < 900000000) (hmade : 0 ≤ d.made ∧ d.made < 900000000) (hfl : ∀ p ∈ d.std.nm, 0 ≤ p.2) (hs : 1 ≤ s.size ∧ s.size ≤ 64)
    (hB : Bs w (some ⟨b, off, none⟩) 64 cap data) (hbl : ¬ TD (L b)) (h1 : 0 ≤ at') (h2 : at' ≤ ((lk d.std.rw (d.find s)).getD []).length) (hfull : ¬ (at' = 4096 ∨ (d.find s = 0 ∧ 256 ≤ d.std.nm.length))) :
    Calls Tryz.prog 46 #[.pointer (some ⟨R, 0, none⟩), .string s, .int .i64 at', .slice (some ⟨b, off, none⟩) 64 cap] w fun e w' => e = .returned (.int .i64 (d.put s at' 64 data).1) ∧ ∃ L' o', Lx w L L' ∧ Di w' L' R o' (d.put s at' 64 data).2.dur (d.put s at' 64 data).2.std (d.put s at' 64 data).2.l ∧ Says o' (d.put s at' 64 data).2 ∧ Sa o o' ∧ Tl L TD w w' := by
  obtain ⟨F, hF⟩ : ∃ F, F = d.find s := ⟨_, rfl⟩
  have hF0 : 0 ≤ F := by
    rw [hF]
    unfold Dsk.find
    cases e : lk d.std.nm s.data.toList with
    | none => simp
    | some f => exact hfl _ (lk_mem e)
  have hp : d.put s at' 64 data = if d.begin.1 ≠ 0 then d.begin else if F = 0 then (0, (({ d.begin.2 with made := d.begin.2.made + 1 } : Dsk).do (madeStp (d.begin.2.made + 1) s)).do (putStp (d.begin.2.made + 1) at' data)) else (0, d.begin.2.do (putStp F at' data)) := by
    unfold Dsk.put
    rw [if_neg (by
      rintro (h | h | h | h)
      · exact h hs
      · exact h rfl
      · omega
      · omega), if_neg hfull, hF]
  have hfind := h.std.nm.find (s := s) Tryz.underlying51 zero3 (by omega)
  have hf6 := hm.fileOf s.data.toList
  rw [show (lk d.std.nm s.data.toList).getD 0 = F from hF.symm] at hfind hf6
  rw [← hF] at hfull h2
  have c3 : w.cell? ⟨R, 3, none⟩ = some (.map (some o.sn)) := h.oj.c 3
  have c4 : w.cell? ⟨R, 4, none⟩ = some (.map (some o.sr)) := h.oj.c 4
  have hr := right_yes h.oj
  have hlen := h.std.nm.len Tryz.underlying51
  have hnl := hm.nm
  obtain ⟨NL, hNL⟩ : ∃ NL, NL = d.std.nm.length := ⟨_, rfl⟩
  rw [← hNL] at hfull hlen hnl
  obtain ⟨v, hlook, hown, _⟩ := h.std.rw.find Tryz.underlying52 zero74 hf6
  have hrun := (hlook w rfl).1
  have hN2 := (hm.at F).1
  obtain ⟨N, hN⟩ : ∃ N, N = ((lk d.std.rw F).getD []).length := ⟨_, rfl⟩
  rw [← hN] at h2 hown hN2
  obtain ⟨ad, c', rfl⟩ := row_val hown
  have h4 : ¬ at' = 4096 := fun e => hfull (.inl e)
  have e4 : (at' == 4096) = false := by simpa using h4
  have hbg := begin_dkm h hsy
  obtain ⟨p1, p2, p3, p4, p5⟩ := begin_parts d
  have HBG := hide hbg
  have HP := hide hp
  have hlb := h.lb
  have HB := hide hB
  have HBL := hide hbl
  have HM := hide hm
  have hbb := hide (hB.byte)
  have hdl := hide (hB.len)
  have hin : b < w.heap.size := by
    obtain ⟨b', off', e, hc⟩ := hB.lies (by omega)
    simp only [Option.some.injEq, Addr.mk.injEq, and_true] at e
    obtain ⟨rfl, rfl⟩ := e
    exact cell_lt (hc 0 (by omega))
  have hbR : b ≠ R := fun e => hbl (.inl (by rw [e, hlb]))
  have hHI := hide hin
  clear h hm hlook hown hN hNL hbg hp hfl hsy hB hbl hF hin
  -- what the last call does
  have LAST : Hid (∀ (X : World) (L1 : Lb) (o1 : Ob) (d1 : Dsk) (f : Int) (K1 : Nat), Di X L1 R o1 d1.dur d1.std d1.l → Says o1 d1 → 1 ≤ f ∧ f ≤ 9223372036854775807 → d1.last < 1000000000 → Sm d1.std K1 → K1 < 9000000000000000000 →
      Calls Tryz.prog 71 #[.pointer (some ⟨R, 0, none⟩), .agg (putStp f at' data).cells.toArray] X fun e w' => e = .returned (.tuple #[]) ∧ ∃ L' o', Lx X L1 L' ∧ Di w' L' R o' (d1.do (putStp f at' data)).dur (d1.do (putStp f at' data)).std (d1.do (putStp f at' data)).l ∧ Says o' (d1.do (putStp f at' data)) ∧ Sa o1 o' ∧ Tl L1 TD X w') := hide (by
    intro X L1 o1 d1 f K1 hd hsy hf hl hm hK
    exact do_dkm hd hsy (putStp_ok hf ⟨h1, by omega⟩ hdl.out hbb.out) hl hm hK)
  by_cases h5 : F = 0
  · have h6 : ¬ 256 ≤ NL := fun h => hfull (.inr ⟨h5, h⟩)
    subst h5
    go_enter Tryz.func46, Tryz.ntmps46
    go_wp2_with (first | (go_at_call 38; refine hr.mono ?_; rintro e w1 ⟨rfl, hw1⟩; subst w1) | (go_at_call 70; refine (isName_yes hs _).mono ?_; rintro e w1 ⟨rfl, hw1⟩; subst w1))
    refine HBG.out.mono ?_
    rintro e w1 ⟨rfl, o1, hd1, hs1, q1, q2, sa1, t1⟩
    have tl1 : Hid (Tl L TD w w1) := hide (Tl.own hlb t1)
    by_cases hb : d.begin.1 = 0
    · rw [hb]
      have c8 : w1.cell? ⟨R, 8, none⟩ = some (.int .i64 o1.made) := hd1.oj.c 8
      have f8 := hd1.oj.free 8
      have hm1 : o1.made = d.made := by rw [hs1.made, p5]
      obtain ⟨M, hM⟩ : ∃ M, M = o1.made := ⟨_, rfl⟩
      have hM2 : 0 ≤ M ∧ M < 900000000 := by rw [hM, hm1]; exact hmade
      rw [← hM] at c8
      obtain ⟨hMa, hMb⟩ := hM2
      obtain ⟨w2, hw2⟩ : ∃ w2, w2 = w1.setCell ⟨R, 8, none⟩ (.int .i64 (M + 1)) := ⟨_, rfl⟩
      have t2 : Tb (fun k => k = R) w1 w2 := by rw [hw2]; exact Tb.set (S := fun k => k = R) R 8 _ rfl
      have hO2 : Oj w2 R { o1 with made := M + 1 } := by rw [hw2]; exact hd1.oj.set 8 _ { o1 with made := M + 1 } rfl hd1.oj.armed hd1.oj.failing
      have hd2 : Di w2 L R { o1 with made := M + 1 } d.dur d.std d.l := hd1.set hO2 t2 rfl rfl rfl rfl rfl rfl rfl
      obtain ⟨d2, hd2e⟩ : ∃ d2 : Dsk, d2 = { d.begin.2 with made := d.begin.2.made + 1 } := ⟨_, rfl⟩
      have hMd : M = d.begin.2.made := by rw [hM, hs1.made]
      have hsy2 : Says { o1 with made := M + 1 } d2 := by rw [hd2e]; exact ⟨hs1.last, by rw [hMd], hs1.down, hs1.armed, hs1.failing, hs1.failure⟩
      have hd2' : Di w2 L R { o1 with made := M + 1 } d2.dur d2.std d2.l := by rw [hd2e]; simp only; rw [p1, p2, p3]; exact hd2
      have hl2 : d2.last < 900000000 := by rw [hd2e]; simp only; rw [p4]; exact hlast
      have hsm2 : Sm d2.std K := by rw [hd2e]; simp only; rw [p2]; exact HM.out
      have w2c8 : w2.cell? ⟨R, 8, none⟩ = some (.int .i64 (M + 1)) := hO2.c 8
      rw [hw2] at w2c8
      have HD2 := hide hd2'
      have HS2 := hide hsy2
      have HSM := hide hsm2
      have HW2 := hide hw2
      have T2 : Hid (Tl L TD w w2) := hide (Tl.trans tl1.out (Tl.own hlb t2) (Lx.refl _ _) (fun _ h => h))
      have hbm := built81m (M + 1) s
      have hpe : Hid ((d.put s at' 64 data) = (0, (d2.do (madeStp (M + 1) s)).do (putStp (M + 1) at' data))) := hide (by rw [HP.out, if_neg (by rw [hb]; simp)]; simp [hd2e, hMd])
      have hok : Hid ((madeStp (M + 1) s).Ok) := hide (madeStp_ok (by omega) hs.2)
      clear hd1 hs1 q1 q2 t1 t2 hO2 hd2 hd2' hsy2 hsm2 hw2 hm1 hM hMd hd2e HBG hfind hrun hlen c3 c4 hr p1 p2 p3 p4 p5
      go_wp2_with (first
        | (go_at_call 32; rw [← HW2.out]; refine (clone_any (by omega) w2).mono ?_; rintro e w3 ⟨rfl, t3⟩)
        | (refine wpList_buildTo rfl (87 : TypeId) #[(1, .const (.int .u8 0)), (2, .tmp 79), (3, .tmp 81)] rfl (some 82) rfl (madeStp (M + 1) s).cells.toArray (by simpa [Act.eval, Act.put] using hbm) ?_))
      have hd3 := HD2.out.tb t3 (Lx.refl _ _) (fun _ _ h => h)
      refine (do_dkm hd3 HS2.out hok.out (by omega) HSM.out (by omega)).mono ?_
      rintro e w4 ⟨rfl, L4, o4, x4, hd4, hs4, sa4, t4⟩
      have hB4 : Bs w4 (some ⟨b, off, none⟩) 64 cap data := ((HB.out.tb T2.out HBL.out).tb t3 (fun h => h)).tb t4 HBL.out
      have T4 : Hid (Tl L TD w w4) := hide (Tl.trans (Tl.trans T2.out (t3.mono (fun _ _ h => h.elim)) (Lx.refl _ _) (fun _ h => h)) t4 (Lx.refl _ _) (fun _ h => h))
      have hl4 : (d2.do (madeStp (M + 1) s)).last < 1000000000 := by simp only [Dsk.do]; omega
      have hsm4 : Hid (Sm (d2.do (madeStp (M + 1) s)).std (K + 1)) := hide (HSM.out.does hok.out)
      have HD4 := hide hd4
      have HS4 := hide hs4
      have HX4 : Hid (Lx w L L4) := hide (fun g hg => x4 g (Nat.lt_of_lt_of_le hg (Nat.le_trans (Tb.size T2.out) t3.size)))
      have HB4 := hide hB4
      clear hd3 hd4 hs4 x4 t4 t3 hB4 hbm w2c8
      go_wp2_with (go_at_call 72; refine (putOf_any HB4.out).mono ?_; rintro e w5 ⟨rfl, t5⟩)
      refine (LAST.out w5 L4 o4 _ (M + 1) (K + 1) (HD4.out.tb t5 (Lx.refl _ _) (fun _ _ h => h)) HS4.out (by omega) hl4 hsm4.out (by omega)).mono ?_
      rintro e w6 ⟨rfl, L6, o6, x6, hd6, hs6, sa6, t6⟩
      have FIN : Hid (∃ L' o', Lx w L L' ∧ Di w6 L' R o' ((d2.do (madeStp (M + 1) s)).do (putStp (M + 1) at' data)).dur ((d2.do (madeStp (M + 1) s)).do (putStp (M + 1) at' data)).std ((d2.do (madeStp (M + 1) s)).do (putStp (M + 1) at' data)).l ∧ Says o' ((d2.do (madeStp (M + 1) s)).do (putStp (M + 1) at' data)) ∧ Sa o o' ∧ Tl L TD w w6) := by
        have T5 : Tl L TD w w5 := Tb.trans (T := fun _ => False) T4.out t5 (fun _ _ h => h.elim)
        have s5 : w.heap.size ≤ w5.heap.size := Tb.size T5
        exact hide ⟨L6, o6, HX4.out.trans (w' := w5) x6 s5, hd6, hs6, (sa1.made _).trans (sa4.trans sa6), Tl.trans T5 t6 HX4.out (fun _ h => h)⟩
      clear hd6 hs6 x6 t6 t5
      go_wp2_with fail
      go_ret
      rw [hpe.out]
      exact ⟨rfl, FIN.out⟩
    · have e9 : (d.begin.1 == 0) = false := by simpa using hb
      have hpe : Hid ((d.put s at' 64 data) = d.begin) := hide (by rw [HP.out, if_pos hb])
      have HD1 : Hid (Di w1 L R o1 d.begin.2.dur d.begin.2.std d.begin.2.l) := hide (by rw [p1, p2, p3]; exact hd1)
      have HS1 := hide hs1
      obtain ⟨E, hE⟩ : ∃ E, E = d.begin.1 := ⟨_, rfl⟩
      rw [← hE] at hb e9
      rw [← hE]
      have hE2 := hide hE.symm
      clear hd1 hs1 HBG hfind hrun hlen c3 c4 hr hE
      go_wp2_with fail
      go_ret
      rw [hpe.out]
      exact ⟨by rw [hE2.out]; rfl, L, o1, Lx.refl _ _, HD1.out, HS1.out, sa1, tl1.out⟩
  · have e5 : (F == 0) = false := by simpa using h5
    have hFI : 1 ≤ F ∧ F ≤ 9223372036854775807 := ⟨by omega, hf6.2⟩
    go_enter Tryz.func46, Tryz.ntmps46
    go_wp2_with (first | (go_at_call 38; refine hr.mono ?_; rintro e w1 ⟨rfl, hw1⟩; subst w1) | (go_at_call 70; refine (isName_yes hs _).mono ?_; rintro e w1 ⟨rfl, hw1⟩; subst w1))
    refine HBG.out.mono ?_
    rintro e w1 ⟨rfl, o1, hd1, hs1, q1, q2, sa1, t1⟩
    have tl1 : Hid (Tl L TD w w1) := hide (Tl.own hlb t1)
    by_cases hb : d.begin.1 = 0
    · rw [hb]
      have HD1 : Hid (Di w1 L R o1 d.begin.2.dur d.begin.2.std d.begin.2.l) := hide (by rw [p1, p2, p3]; exact hd1)
      have HS1 := hide hs1
      have hl1 : d.begin.2.last < 1000000000 := by rw [p4]; omega
      have hsm1 : Hid (Sm d.begin.2.std K) := hide (by rw [p2]; exact HM.out)
      have hpe : Hid ((d.put s at' 64 data) = (0, d.begin.2.do (putStp F at' data))) := hide (by rw [HP.out, if_neg (by rw [hb]; simp), if_neg h5])
      have HB1 : Hid (Bs w1 (some ⟨b, off, none⟩) 64 cap data) := hide (HB.out.tb t1 hbR)
      clear hd1 hs1 q1 q2 t1 HBG hfind hrun hlen c3 c4 hr p1 p2 p3 p4 p5
      go_wp2_with (go_at_call 72; refine (putOf_any HB1.out).mono ?_; rintro e w5 ⟨rfl, t5⟩)
      refine (LAST.out w5 L o1 _ F K (HD1.out.tb t5 (Lx.refl _ _) (fun _ _ h => h)) HS1.out hFI hl1 hsm1.out (by omega)).mono ?_
      rintro e w6 ⟨rfl, L6, o6, x6, hd6, hs6, sa6, t6⟩
      have FIN : Hid (∃ L' o', Lx w L L' ∧ Di w6 L' R o' (d.begin.2.do (putStp F at' data)).dur (d.begin.2.do (putStp F at' data)).std (d.begin.2.do (putStp F at' data)).l ∧ Says o' (d.begin.2.do (putStp F at' data)) ∧ Sa o o' ∧ Tl L TD w w6) := by
        have T5 : Tl L TD w w5 := Tb.trans (T := fun _ => False) tl1.out t5 (fun _ _ h => h.elim)
        have s5 : w.heap.size ≤ w5.heap.size := Tb.size T5
        exact hide ⟨L6, o6, (Lx.refl w L).trans (w' := w5) x6 s5, hd6, hs6, sa1.trans sa6, Tl.trans T5 t6 (Lx.refl _ _) (fun _ h => h)⟩
      clear hd6 hs6 x6 t6 t5
      go_wp2_with fail
      go_ret
      rw [hpe.out]
      exact ⟨rfl, FIN.out⟩
    · have e9 : (d.begin.1 == 0) = false := by simpa using hb
      have hpe : Hid ((d.put s at' 64 data) = d.begin) := hide (by rw [HP.out, if_pos hb])
      have HD1 : Hid (Di w1 L R o1 d.begin.2.dur d.begin.2.std d.begin.2.l) := hide (by rw [p1, p2, p3]; exact hd1)
      have HS1 := hide hs1
      obtain ⟨E, hE⟩ : ∃ E, E = d.begin.1 := ⟨_, rfl⟩
      rw [← hE] at hb e9
      rw [← hE]
      have hE2 := hide hE.symm
      clear hd1 hs1 HBG hfind hrun hlen c3 c4 hr hE
      go_wp2_with fail
      go_ret
      rw [hpe.out]
      exact ⟨by rw [hE2.out]; rfl, L, o1, Lx.refl _ _, HD1.out, HS1.out, sa1, tl1.out⟩

end Go.Proofs.YtkdolabhcbjipaaGreat

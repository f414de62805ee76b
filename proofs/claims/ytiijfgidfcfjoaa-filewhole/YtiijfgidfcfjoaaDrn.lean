/-
  Rename, Remove.
-/
import Derived.Test.YtiijfgidfcfjoaaDax
namespace Go.Proofs.Ytiijfgidfcfjoaa
open Go.RowKit
set_option maxRecDepth 100000
set_option maxRecDepth 100000

def renStp (f : Int) (s t : ByteArray) : Stp := ⟨0, 3, f, s, t, 0, List.replicate 64 0⟩
def remStp (f : Int) (s : ByteArray) : Stp := ⟨0, 4, f, s, ByteArray.empty, 0, List.replicate 64 0⟩
theorem renStp_ok {f : Int} {s t : ByteArray} (hf : 1 ≤ f ∧ f ≤ 9223372036854775807) (hs : s.size ≤ 64) (ht : t.size ≤ 64) : (renStp f s t).Ok :=
  ⟨by simp [renStp], by simp [renStp], hf, hs, ht, by simp [renStp], fun h => by simp [renStp] at h, by simp [renStp], fun z hz => by rw [(List.mem_replicate.1 hz).2]; omega⟩
theorem remStp_ok {f : Int} {s : ByteArray} (hf : 1 ≤ f ∧ f ≤ 9223372036854775807) (hs : s.size ≤ 64) : (remStp f s).Ok :=
  ⟨by simp [remStp], by simp [remStp], hf, hs, by simp [remStp], by simp [remStp], fun h => by simp [remStp] at h, by simp [remStp], fun z hz => by rw [(List.mem_replicate.1 hz).2]; omega⟩
theorem built81r (f : Int) (s t : ByteArray) : Try.prog.built (81 : TypeId) [(1, .int .u8 3), (2, .int .i64 f), (3, .string s), (4, .string t)] = some (renStp f s t).cells.toArray := by kernel_rfl
theorem built81x (f : Int) (s : ByteArray) : Try.prog.built (81 : TypeId) [(1, .int .u8 4), (2, .int .i64 f), (3, .string s)] = some (remStp f s).cells.toArray := by kernel_rfl

def Dsk.remove (d : Dsk) (s : ByteArray) : Int × Dsk :=
  if d.find s = 0 then (70, d) else if d.begin.1 ≠ 0 then d.begin else (0, d.begin.2.do (remStp (d.find s) s))

set_option maxHeartbeats 2000000 in
theorem remove_no {w : World} {L : Lb} {R : Nat} {o : Ob} {d : Dsk} {s : ByteArray} (h : Di w L R o d.dur d.std d.l) (hs : s.size ≤ 9223372036854775807) (h0 : d.find s = 0) :
    Calls Try.prog 19 #[.pointer (some ⟨R, 0, none⟩), .string s] w fun e w' => e = .returned (.int .i64 70) ∧ w' = w := by
  have hf := find_any h hs
  rw [show (lk d.std.nm s.data.toList).getD 0 = 0 from h0] at hf
  clear h
  go_enter Try.func19, Try.ntmps19
  go_wp2_with (go_at_call 45; refine hf.mono ?_; rintro e w1 ⟨rfl, hw1⟩; subst w1)
  go_ret
  exact ⟨rfl, rfl⟩

set_option maxHeartbeats 2000000 in
theorem remove_go {w : World} {L : Lb} {R : Nat} {o : Ob} {d : Dsk} {K : Nat} {s : ByteArray} (h : Di w L R o d.dur d.std d.l) (hsy : Says o d) (hm : Sm d.std K) (hK : K < 8000000000000000000) (hlast : d.last < 900000000) (hs : s.size ≤ 64) (h0 : 1 ≤ d.find s) :
    Calls Try.prog 19 #[.pointer (some ⟨R, 0, none⟩), .string s] w fun e w' => e = .returned (.int .i64 (d.remove s).1) ∧ ∃ L', Lx w L L' ∧ Dk w' L' R (d.remove s).2 ∧ Tl L TD w w' := by
  have hf := find_any h (s := s) (by omega)
  obtain ⟨F, hF⟩ : ∃ F, F = d.find s := ⟨_, rfl⟩
  have hf6 := hm.fileOf s.data.toList
  rw [show (lk d.std.nm s.data.toList).getD 0 = F from hF.symm] at hf hf6
  have h0' : ¬ F = 0 := by omega
  have hp : d.remove s = if d.begin.1 ≠ 0 then d.begin else (0, d.begin.2.do (remStp F s)) := by unfold Dsk.remove; rw [if_neg (by omega), hF]
  rw [if_neg h0'] at hf
  have hFI : 1 ≤ F ∧ F ≤ 9223372036854775807 := ⟨by omega, hf6.2⟩
  have hbg := begin_dk h hsy
  obtain ⟨p1, p2, p3, p4, p5⟩ := begin_parts d
  have hlb := h.lb
  have HBG := hide hbg
  have HP := hide hp
  have HM := hide hm
  have hbm := built81x F s
  have hok : Hid ((remStp F s).Ok) := hide (remStp_ok hFI hs)
  clear h hsy hm hbg hp hF hf6 h0
  go_enter Try.func19, Try.ntmps19
  go_wp2_with (go_at_call 45; refine hf.mono ?_; rintro e w1 ⟨rfl, hw1⟩; subst w1)
  refine HBG.out.mono ?_
  rintro e w1 ⟨rfl, o1, hd1, hs1, q1, q2, q3, q4, t1⟩
  have tl1 : Hid (Tl L TD w w1) := hide (Tl.own hlb t1)
  by_cases hb : d.begin.1 = 0
  · rw [hb]
    have hpe : Hid (d.remove s = (0, d.begin.2.do (remStp F s))) := hide (by rw [HP.out, if_neg (by rw [hb]; simp)])
    have HD1 : Hid (Di w1 L R o1 d.begin.2.dur d.begin.2.std d.begin.2.l) := hide (by rw [p1, p2, p3]; exact hd1)
    have HS1 := hide hs1
    have hl1 : d.begin.2.last < 1000000000 := by rw [p4]; omega
    have hm1 : Hid (Sm d.begin.2.std K) := hide (by rw [p2]; exact HM.out)
    clear hd1 hs1 q1 q2 q3 q4 t1 HBG hf
    go_wp2_with (first
      | (go_at_call 39; refine (clone_any (by omega) w1).mono ?_; rintro e w3 ⟨rfl, t3⟩)
      | (refine wpList_buildTo rfl (81 : TypeId) #[(1, .const (.int .u8 4)), (2, .tmp 23), (3, .tmp 25)] rfl (some 26) rfl (remStp F s).cells.toArray (by simpa [Act.eval, Act.put] using hbm) ?_))
    refine (do_dk (HD1.out.tb t3 (Lx.refl _ _) (fun _ _ h => h)) HS1.out hok.out hl1 hm1.out (by omega)).mono ?_
    rintro e w4 ⟨rfl, L4, o4, x4, hd4, hs4, t4⟩
    have FIN : Hid (∃ L', Lx w L L' ∧ Dk w4 L' R (d.begin.2.do (remStp F s)) ∧ Tl L TD w w4) := by
      have T3 : Tl L TD w w3 := Tb.trans (T := fun _ => False) tl1.out t3 (fun _ _ h => h.elim)
      have s3 : w.heap.size ≤ w3.heap.size := Tb.size T3
      exact hide ⟨L4, fun g hg => x4 g (Nat.lt_of_lt_of_le hg s3), ⟨o4, hd4, hs4⟩, Tl.trans T3 t4 (Lx.refl _ _) (fun _ h => h)⟩
    clear hd4 hs4 x4 t4 t3
    go_wp2_with fail
    go_ret
    rw [hpe.out]
    exact ⟨rfl, FIN.out⟩
  · have e9 : (d.begin.1 == 0) = false := by simpa using hb
    have hpe : Hid (d.remove s = d.begin) := hide (by rw [HP.out, if_pos hb])
    have HD1 : Hid (Dk w1 L R d.begin.2) := hide ⟨o1, by rw [p1, p2, p3]; exact hd1, hs1⟩
    obtain ⟨E, hE⟩ : ∃ E, E = d.begin.1 := ⟨_, rfl⟩
    rw [← hE] at hb e9
    rw [← hE]
    have hE2 := hide hE.symm
    clear hd1 hs1 HBG hf hE
    go_wp2_with fail
    go_ret
    rw [hpe.out]
    exact ⟨by rw [hE2.out]; rfl, L, Lx.refl _ _, HD1.out, tl1.out⟩

def Dsk.rename (d : Dsk) (s t : ByteArray) : Int × Dsk :=
  if ¬ (1 ≤ t.size ∧ t.size ≤ 64) then (2, d) else if d.find s = 0 then (70, d) else if d.begin.1 ≠ 0 then d.begin else if t = s then (0, d.begin.2) else (0, d.begin.2.do (renStp (d.find s) s t))

set_option maxHeartbeats 2000000 in
theorem rename_arg {w : World} {R : Nat} {o : Ob} {s t : ByteArray} (h : Oj w R o) (ht : t.size ≤ 9223372036854775807) (h0 : ¬ (1 ≤ t.size ∧ t.size ≤ 64)) :
    Calls Try.prog 16 #[.pointer (some ⟨R, 0, none⟩), .string s, .string t] w fun e w' => e = .returned (.int .i64 2) ∧ w' = w := by
  have hr := right_yes h
  clear h
  go_enter Try.func16, Try.ntmps16
  go_wp2_with (first | (go_at_call 35; refine hr.mono ?_; rintro e w1 ⟨rfl, hw1⟩; subst w1) | (go_at_call 36; refine (isName_no ht h0 _).mono ?_; rintro e w1 ⟨rfl, hw1⟩; subst w1))
  go_ret
  exact ⟨rfl, rfl⟩

set_option maxHeartbeats 2000000 in
theorem rename_no {w : World} {L : Lb} {R : Nat} {o : Ob} {d : Dsk} {s t : ByteArray} (h : Di w L R o d.dur d.std d.l) (hs : s.size ≤ 9223372036854775807) (ht : 1 ≤ t.size ∧ t.size ≤ 64) (h0 : d.find s = 0) :
    Calls Try.prog 16 #[.pointer (some ⟨R, 0, none⟩), .string s, .string t] w fun e w' => e = .returned (.int .i64 70) ∧ w' = w := by
  have hf := find_any h hs
  have hr := right_yes h.oj
  rw [show (lk d.std.nm s.data.toList).getD 0 = 0 from h0] at hf
  clear h
  go_enter Try.func16, Try.ntmps16
  go_wp2_with (first | (go_at_call 45; refine hf.mono ?_; rintro e w1 ⟨rfl, hw1⟩; subst w1) | (go_at_call 35; refine hr.mono ?_; rintro e w1 ⟨rfl, hw1⟩; subst w1) | (go_at_call 36; refine (isName_yes ht _).mono ?_; rintro e w1 ⟨rfl, hw1⟩; subst w1))
  go_ret
  exact ⟨rfl, rfl⟩

set_option maxHeartbeats 400000 in
theorem rename_go {w : World} {L : Lb} {R : Nat} {o : Ob} {d : Dsk} {K : Nat} {s t : ByteArray} (h : Di w L R o d.dur d.std d.l) (hsy : Says o d) (hm : Sm d.std K) (hK : K < 8000000000000000000) (hlast : d.last < 900000000) (hs : s.size ≤ 64) (ht : 1 ≤ t.size ∧ t.size ≤ 64) (h0 : 1 ≤ d.find s) :
    Calls Try.prog 16 #[.pointer (some ⟨R, 0, none⟩), .string s, .string t] w fun e w' => e = .returned (.int .i64 (d.rename s t).1) ∧ ∃ L', Lx w L L' ∧ Dk w' L' R (d.rename s t).2 ∧ Tl L TD w w' := by
  have hf := find_any h (s := s) (by omega)
  have hr := right_yes h.oj
  obtain ⟨F, hF⟩ : ∃ F, F = d.find s := ⟨_, rfl⟩
  have hf6 := hm.fileOf s.data.toList
  rw [show (lk d.std.nm s.data.toList).getD 0 = F from hF.symm] at hf hf6
  have h0' : ¬ F = 0 := by omega
  have hp : d.rename s t = if d.begin.1 ≠ 0 then d.begin else if t = s then (0, d.begin.2) else (0, d.begin.2.do (renStp F s t)) := by unfold Dsk.rename; rw [if_neg (by simp; omega), if_neg (by omega), hF]
  rw [if_neg h0'] at hf
  have hFI : 1 ≤ F ∧ F ≤ 9223372036854775807 := ⟨by omega, hf6.2⟩
  have hbg := begin_dk h hsy
  obtain ⟨p1, p2, p3, p4, p5⟩ := begin_parts d
  have hlb := h.lb
  have HBG := hide hbg
  have HP := hide hp
  have HM := hide hm
  have hbm := built81r F s t
  have hok : Hid ((renStp F s t).Ok) := hide (renStp_ok hFI hs ht.2)
  clear h hsy hm hbg hp hF hf6 h0
  go_enter Try.func16, Try.ntmps16
  go_wp2_with (first | (go_at_call 45; refine hf.mono ?_; rintro e w1 ⟨rfl, hw1⟩; subst w1) | (go_at_call 35; refine hr.mono ?_; rintro e w1 ⟨rfl, hw1⟩; subst w1) | (go_at_call 36; refine (isName_yes ht _).mono ?_; rintro e w1 ⟨rfl, hw1⟩; subst w1))
  refine HBG.out.mono ?_
  rintro e w1 ⟨rfl, o1, hd1, hs1, q1, q2, q3, q4, t1⟩
  have tl1 : Hid (Tl L TD w w1) := hide (Tl.own hlb t1)
  by_cases hb : d.begin.1 = 0
  · rw [hb]
    have HD1 : Hid (Di w1 L R o1 d.begin.2.dur d.begin.2.std d.begin.2.l) := hide (by rw [p1, p2, p3]; exact hd1)
    have HS1 := hide hs1
    have hl1 : d.begin.2.last < 1000000000 := by rw [p4]; omega
    have hm1 : Hid (Sm d.begin.2.std K) := hide (by rw [p2]; exact HM.out)
    clear hd1 hs1 q1 q2 q3 q4 t1 HBG hf hr
    by_cases hts : t = s
    · have hpe : Hid (d.rename s t = (0, d.begin.2)) := hide (by rw [HP.out, if_neg (by rw [hb]; simp), if_pos hts])
      subst hts
      go_wp2_with fail
      go_ret
      rw [hpe.out]
      exact ⟨rfl, L, Lx.refl _ _, ⟨o1, HD1.out, HS1.out⟩, tl1.out⟩
    · have hpe : Hid (d.rename s t = (0, d.begin.2.do (renStp F s t))) := hide (by rw [HP.out, if_neg (by rw [hb]; simp), if_neg hts])
      have hts2 : (t.toList == s.toList) = false := by
        apply Bool.eq_false_iff.2
        intro e
        have e2 := eq_of_beq e
        rw [ByteArray.toList_eq, ByteArray.toList_eq, Array.toList_inj] at e2
        exact hts (ByteArray.ext e2)
      have HB := hide hbm
      clear hbm
      go_wp2_with fail
      refine (clone_any (by omega) w1).mono ?_
      rintro e w2 ⟨rfl, t2⟩
      go_wp2_with fail
      refine (clone_any (by omega) w2).mono ?_
      rintro e w3 ⟨rfl, t3⟩
      go_wp2_with (refine wpList_buildTo rfl (81 : TypeId) #[(1, .const (.int .u8 3)), (2, .tmp 35), (3, .tmp 37), (4, .tmp 39)] rfl (some 40) rfl (renStp F s t).cells.toArray (by simpa [Act.eval, Act.put] using HB.out) ?_)
      have t13 : Tb (fun _ => False) w1 w3 := t2.trans t3 (fun _ _ h => h)
      refine (do_dk (HD1.out.tb t13 (Lx.refl _ _) (fun _ _ h => h)) HS1.out hok.out hl1 hm1.out (by omega)).mono ?_
      rintro e w4 ⟨rfl, L4, o4, x4, hd4, hs4, t4⟩
      have FIN : Hid (∃ L', Lx w L L' ∧ Dk w4 L' R (d.begin.2.do (renStp F s t)) ∧ Tl L TD w w4) := by
        have T3 : Tl L TD w w3 := Tb.trans (T := fun _ => False) tl1.out t13 (fun _ _ h => h.elim)
        have s3 : w.heap.size ≤ w3.heap.size := Tb.size T3
        exact hide ⟨L4, fun g hg => x4 g (Nat.lt_of_lt_of_le hg s3), ⟨o4, hd4, hs4⟩, Tl.trans T3 t4 (Lx.refl _ _) (fun _ h => h)⟩
      clear hd4 hs4 x4 t4 t3 t2 t13
      go_wp2_with fail
      go_ret
      rw [hpe.out]
      exact ⟨rfl, FIN.out⟩
  · have e9 : (d.begin.1 == 0) = false := by simpa using hb
    have hpe : Hid (d.rename s t = d.begin) := hide (by rw [HP.out, if_pos hb])
    have HD1 : Hid (Dk w1 L R d.begin.2) := hide ⟨o1, by rw [p1, p2, p3]; exact hd1, hs1⟩
    obtain ⟨E, hE⟩ : ∃ E, E = d.begin.1 := ⟨_, rfl⟩
    rw [← hE] at hb e9
    rw [← hE]
    have hE2 := hide hE.symm
    clear hd1 hs1 HBG hf hE hr
    go_wp2_with fail
    go_ret
    rw [hpe.out]
    exact ⟨by rw [hE2.out]; rfl, L, Lx.refl _ _, HD1.out, tl1.out⟩

end Go.Proofs.Ytiijfgidfcfjoaa

/-
  Texts put into one.
-/
import Derived.Test.YtkdolabhcbjipaaGreatQka1f78936

/-
  Arm, Fail.
-/
namespace Go.Proofs.YtkdolabhcbjipaaGreat
open Go.RowKit
set_option maxRecDepth 100000
set_option maxRecDepth 100000

def Dsk.arm (d : Dsk) (n : Int) : Int × Dsk := if n < 0 then (2, d) else (0, { d with armed := n })
def Dsk.fail (d : Dsk) (n e : Int) : Int × Dsk := if n < 0 ∨ (e ≠ 4 ∧ e ≠ 5) then (2, d) else (0, { d with failing := n, failure := e })

set_option maxHeartbeats 1000000 in
theorem arm_any {w : World} {L : Lb} {R : Nat} {o : Ob} {d : Dsk} {n : Int} (h : Di w L R o d.dur d.std d.l) (hsy : Says o d) (hn : n ≤ 9223372036854775807) :
    Calls Tryz.prog 16 #[.pointer (some ⟨R, 0, none⟩), .int .i64 n] w fun e w' => e = .returned (.int .i64 (d.arm n).1) ∧ Dk w' L R (d.arm n).2 ∧ Tl L TD w w' := by
  have hr := right_yes h.oj
  have hlb := h.lb
  by_cases h0 : n < 0
  · have hp : Hid (d.arm n = (2, d)) := hide (by unfold Dsk.arm; rw [if_pos h0])
    have HD : Hid (Dk w L R d) := hide ⟨o, h, hsy⟩
    clear h hsy
    go_enter Tryz.func16, Tryz.ntmps16
    go_wp2_with (go_at_call 38; refine hr.mono ?_; rintro e w1 ⟨rfl, hw1⟩; subst w1)
    go_ret
    rw [hp.out]
    exact ⟨rfl, HD.out, Tb.refl _ _⟩
  · have hp : Hid (d.arm n = (0, { d with armed := n })) := hide (by unfold Dsk.arm; rw [if_neg h0])
    have HD := hide h
    have HS := hide hsy
    have hst := astore_armed (x := n) h.oj (by omega)
    clear h hsy
    go_enter Tryz.func16, Tryz.ntmps16
    go_wp2_with (first | (go_at_call 38; refine hr.mono ?_; rintro e w1 ⟨rfl, hw1⟩; subst w1) | (go_at_call 44; refine hst.mono ?_; rintro e w1 ⟨rfl, o1, t1⟩))
    have FIN : Hid (Dk w1 L R { d with armed := n } ∧ Tl L TD w w1) := hide ⟨⟨_, HD.out.set o1 t1 rfl rfl rfl rfl rfl rfl rfl, ⟨HS.out.last, HS.out.made, HS.out.down, rfl, HS.out.failing, HS.out.failure⟩⟩, Tl.own hlb t1⟩
    clear o1 t1
    go_ret
    rw [hp.out]
    exact ⟨rfl, FIN.out⟩

end Go.Proofs.YtkdolabhcbjipaaGreat

/-
  Cut.
-/
namespace Go.Proofs.YtkdolabhcbjipaaGreat
open Go.RowKit
set_option maxRecDepth 100000

def cutStp (f n : Int) : Stp := ⟨0, 2, f, ByteArray.empty, ByteArray.empty, n, List.replicate 64 0⟩
theorem cutStp_ok {f n : Int} (hf : 1 ≤ f ∧ f ≤ 9223372036854775807) (hn : 0 ≤ n ∧ n ≤ 4096) : (cutStp f n).Ok :=
  ⟨by simp [cutStp], by simp [cutStp], hf, by simp [cutStp], by simp [cutStp], hn, fun h => by simp [cutStp] at h, by simp [cutStp], fun z hz => by rw [(List.mem_replicate.1 hz).2]; omega⟩
theorem built81c (f n : Int) : Tryz.prog.built (87 : TypeId) [(1, .int .u8 2), (2, .int .i64 f), (5, .int .i64 n)] = some (cutStp f n).cells.toArray := by kernel_rfl

def Dsk.cut (d : Dsk) (s : ByteArray) (n : Int) : Int × Dsk :=
  if d.find s = 0 then (70, d) else if n < 0 ∨ ((lk d.std.rw (d.find s)).getD []).length < n then (2, d) else if d.begin.1 ≠ 0 then d.begin else (0, d.begin.2.do (cutStp (d.find s) n))

set_option maxHeartbeats 1000000 in
theorem cut_no {w : World} {L : Lb} {R : Nat} {o : Ob} {d : Dsk} {s : ByteArray} {n : Int} (h : Di w L R o d.dur d.std d.l) (hs : s.size ≤ 9223372036854775807) (h0 : d.find s = 0) :
    Calls Tryz.prog 54 #[.pointer (some ⟨R, 0, none⟩), .string s, .int .i64 n] w fun e w' => e = .returned (.int .i64 70) ∧ w' = w := by
  have hf := find_any h hs
  rw [show (lk d.std.nm s.data.toList).getD 0 = 0 from h0] at hf
  clear h
  go_enter Tryz.func54, Tryz.ntmps54
  go_wp2_with (go_at_call 42; refine hf.mono ?_; rintro e w1 ⟨rfl, hw1⟩; subst w1)
  go_ret
  exact ⟨rfl, rfl⟩

set_option maxHeartbeats 1000000 in
theorem cut_arg {w : World} {L : Lb} {R : Nat} {o : Ob} {d : Dsk} {K : Nat} {s : ByteArray} {n : Int} (h : Di w L R o d.dur d.std d.l) (hm : Sm d.std K) (hs : s.size ≤ 9223372036854775807) (h0 : d.find s ≠ 0) (hn : n < 0 ∨ ((lk d.std.rw (d.find s)).getD []).length < n) :
    Calls Tryz.prog 54 #[.pointer (some ⟨R, 0, none⟩), .string s, .int .i64 n] w fun e w' => e = .returned (.int .i64 2) ∧ w' = w := by
  have hf := find_any h hs
  obtain ⟨F, hF⟩ : ∃ F, F = d.find s := ⟨_, rfl⟩
  have hf6 := hm.fileOf s.data.toList
  rw [show (lk d.std.nm s.data.toList).getD 0 = F from hF.symm] at hf hf6
  rw [← hF] at hn h0
  rw [if_neg h0] at hf
  have c4 : w.cell? ⟨R, 4, none⟩ = some (.map (some o.sr)) := h.oj.c 4
  obtain ⟨v, hlook, hown, _⟩ := h.std.rw.find Tryz.underlying52 zero74 hf6
  have hrun := (hlook w rfl).1
  obtain ⟨N, hN⟩ : ∃ N, N = ((lk d.std.rw F).getD []).length := ⟨_, rfl⟩
  rw [← hN] at hn hown
  obtain ⟨ad, c', rfl⟩ := row_val hown
  clear h hlook hown hN hm hF
  by_cases h1 : n < 0
  · clear hn
    go_enter Tryz.func54, Tryz.ntmps54
    go_wp2_with (go_at_call 42; refine hf.mono ?_; rintro e w1 ⟨rfl, hw1⟩; subst w1)
    go_ret
    exact ⟨rfl, rfl⟩
  · have h2 := hn.resolve_left h1
    have hd : decide (n < 0) = false := by simpa using h1
    clear hn
    go_enter Tryz.func54, Tryz.ntmps54
    go_wp2_with (go_at_call 42; refine hf.mono ?_; rintro e w1 ⟨rfl, hw1⟩; subst w1)
    go_ret
    exact ⟨rfl, rfl⟩

set_option maxHeartbeats 1000000 in
theorem cut_go {w : World} {L : Lb} {R : Nat} {o : Ob} {d : Dsk} {K : Nat} {s : ByteArray} {n : Int} (h : Di w L R o d.dur d.std d.l) (hsy : Says o d) (hm : Sm d.std K) (hK : K < 8000000000000000000) (hlast : d.last < 900000000) (hs : s.size ≤ 64) (h0 : 1 ≤ d.find s) (hn0 : 0 ≤ n) (hn : n ≤ ((lk d.std.rw (d.find s)).getD []).length) :
    Calls Tryz.prog 54 #[.pointer (some ⟨R, 0, none⟩), .string s, .int .i64 n] w fun e w' => e = .returned (.int .i64 (d.cut s n).1) ∧ ∃ L', Lx w L L' ∧ Dk w' L' R (d.cut s n).2 ∧ Tl L TD w w' := by
  have hf := find_any h (s := s) (by omega)
  obtain ⟨F, hF⟩ : ∃ F, F = d.find s := ⟨_, rfl⟩
  have hf6 := hm.fileOf s.data.toList
  rw [show (lk d.std.nm s.data.toList).getD 0 = F from hF.symm] at hf hf6
  have hp : d.cut s n = if d.begin.1 ≠ 0 then d.begin else (0, d.begin.2.do (cutStp F n)) := by unfold Dsk.cut; rw [if_neg (by omega), if_neg (by omega), hF]
  rw [← hF] at hn h0
  have h0' : ¬ F = 0 := by omega
  rw [if_neg h0'] at hf
  have hFI : 1 ≤ F ∧ F ≤ 9223372036854775807 := ⟨by omega, hf6.2⟩
  have c4 : w.cell? ⟨R, 4, none⟩ = some (.map (some o.sr)) := h.oj.c 4
  obtain ⟨v, hlook, hown, _⟩ := h.std.rw.find Tryz.underlying52 zero74 hf6
  have hrun := (hlook w rfl).1
  have hN2 := (hm.at F).1
  obtain ⟨N, hN⟩ : ∃ N, N = ((lk d.std.rw F).getD []).length := ⟨_, rfl⟩
  rw [← hN] at hn hown hN2
  obtain ⟨ad, c', rfl⟩ := row_val hown
  have hd : decide (n < 0) = false := by simp; omega
  have hd2 : ¬ n < 0 := by omega
  have hbg := begin_dk h hsy
  obtain ⟨p1, p2, p3, p4, p5⟩ := begin_parts d
  have hlb := h.lb
  have HBG := hide hbg
  have HP := hide hp
  have HM := hide hm
  have HB := hide (built81c F n)
  have hok : Hid ((cutStp F n).Ok) := hide (cutStp_ok hFI (by omega))
  clear h hsy hm hbg hp hF hf6 h0 hlook hown hN
  go_enter Tryz.func54, Tryz.ntmps54
  go_wp2_with (go_at_call 42; refine hf.mono ?_; rintro e w1 ⟨rfl, hw1⟩; subst w1)
  refine HBG.out.mono ?_
  rintro e w1 ⟨rfl, o1, hd1, hs1, q1, q2, q3, q4, t1⟩
  have tl1 : Hid (Tl L TD w w1) := hide (Tl.own hlb t1)
  by_cases hb : d.begin.1 = 0
  · rw [hb]
    have hpe : Hid (d.cut s n = (0, d.begin.2.do (cutStp F n))) := hide (by rw [HP.out, if_neg (by rw [hb]; simp)])
    have HD1 : Hid (Di w1 L R o1 d.begin.2.dur d.begin.2.std d.begin.2.l) := hide (by rw [p1, p2, p3]; exact hd1)
    have HS1 := hide hs1
    have hl1 : d.begin.2.last < 1000000000 := by rw [p4]; omega
    have hm1 : Hid (Sm d.begin.2.std K) := hide (by rw [p2]; exact HM.out)
    clear hd1 hs1 q1 q2 q3 q4 t1 HBG hf hrun c4
    go_wp2_with (refine wpList_buildTo rfl (87 : TypeId) #[(1, .const (.int .u8 2)), (2, .tmp 39), (5, .tmp 40)] rfl (some 41) rfl (cutStp F n).cells.toArray (by simpa [Act.eval, Act.put] using HB.out) ?_)
    refine (do_dk HD1.out HS1.out hok.out hl1 hm1.out (by omega)).mono ?_
    rintro e w4 ⟨rfl, L4, o4, x4, hd4, hs4, t4⟩
    have FIN : Hid (∃ L', Lx w L L' ∧ Dk w4 L' R (d.begin.2.do (cutStp F n)) ∧ Tl L TD w w4) :=
      hide ⟨L4, fun g hg => x4 g (Nat.lt_of_lt_of_le hg (Tb.size tl1.out)), ⟨o4, hd4, hs4⟩, Tl.trans tl1.out t4 (Lx.refl _ _) (fun _ h => h)⟩
    clear hd4 hs4 x4 t4
    go_wp2_with fail
    go_ret
    rw [hpe.out]
    exact ⟨rfl, FIN.out⟩
  · have e9 : (d.begin.1 == 0) = false := by simpa using hb
    have hpe : Hid (d.cut s n = d.begin) := hide (by rw [HP.out, if_pos hb])
    have HD1 : Hid (Dk w1 L R d.begin.2) := hide ⟨o1, by rw [p1, p2, p3]; exact hd1, hs1⟩
    obtain ⟨E, hE⟩ : ∃ E, E = d.begin.1 := ⟨_, rfl⟩
    rw [← hE] at hb e9
    rw [← hE]
    have hE2 := hide hE.symm
    clear hd1 hs1 HBG hf hE hrun c4
    go_wp2_with fail
    go_ret
    rw [hpe.out]
    exact ⟨by rw [hE2.out]; rfl, L, Lx.refl _ _, HD1.out, tl1.out⟩

end Go.Proofs.YtkdolabhcbjipaaGreat

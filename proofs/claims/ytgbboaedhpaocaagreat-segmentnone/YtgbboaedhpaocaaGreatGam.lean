/-
  Arm, Fail.
-/
import Derived.Test.YtgbboaedhpaocaaGreatSgb
namespace Go.Proofs.YtgbboaedhpaocaaGreat
open Go.RowKit
set_option maxRecDepth 100000
set_option maxRecDepth 100000

def Dsk.arm (d : Dsk) (n : Int) : Int × Dsk := if n < 0 then (2, d) else (0, { d with armed := n })
def Dsk.fail (d : Dsk) (n e : Int) : Int × Dsk := if n < 0 ∨ (e ≠ 4 ∧ e ≠ 5) then (2, d) else (0, { d with failing := n, failure := e })

set_option maxHeartbeats 1000000 in
theorem arm_any {w : World} {L : Lb} {R : Nat} {o : Ob} {d : Dsk} {n : Int} (h : Di w L R o d.dur d.std d.l) (hsy : Says o d) (hn : n ≤ 9223372036854775807) :
    Calls Tryz.prog 20 #[.pointer (some ⟨R, 0, none⟩), .int .i64 n] w fun e w' => e = .returned (.int .i64 (d.arm n).1) ∧ Dk w' L R (d.arm n).2 ∧ Tl L TD w w' := by
  have hr := right_yes h.oj
  have hlb := h.lb
  by_cases h0 : n < 0
  · have hp : Hid (d.arm n = (2, d)) := hide (by unfold Dsk.arm; rw [if_pos h0])
    have HD : Hid (Dk w L R d) := hide ⟨o, h, hsy⟩
    clear h hsy
    go_enter Tryz.func20, Tryz.ntmps20
    go_wp2_with (go_at_call 54; refine hr.mono ?_; rintro e w1 ⟨rfl, hw1⟩; subst w1)
    go_ret
    rw [hp.out]
    exact ⟨rfl, HD.out, Tb.refl _ _⟩
  · have hp : Hid (d.arm n = (0, { d with armed := n })) := hide (by unfold Dsk.arm; rw [if_neg h0])
    have HD := hide h
    have HS := hide hsy
    have hst := astore_armed (x := n) h.oj (by omega)
    clear h hsy
    go_enter Tryz.func20, Tryz.ntmps20
    go_wp2_with (first | (go_at_call 54; refine hr.mono ?_; rintro e w1 ⟨rfl, hw1⟩; subst w1) | (go_at_call 60; refine hst.mono ?_; rintro e w1 ⟨rfl, o1, t1⟩))
    have FIN : Hid (Dk w1 L R { d with armed := n } ∧ Tl L TD w w1) := hide ⟨⟨_, HD.out.set o1 t1 rfl rfl rfl rfl rfl rfl rfl, ⟨HS.out.last, HS.out.made, HS.out.down, rfl, HS.out.failing, HS.out.failure⟩⟩, Tl.own hlb t1⟩
    clear o1 t1
    go_ret
    rw [hp.out]
    exact ⟨rfl, FIN.out⟩

set_option maxHeartbeats 1000000 in
theorem fail_no {w : World} {R : Nat} {o : Ob} {n e : Int} (h : Oj w R o) (h0 : n < 0 ∨ (e ≠ 4 ∧ e ≠ 5)) :
    Calls Tryz.prog 81 #[.pointer (some ⟨R, 0, none⟩), .int .i64 n, .int .i64 e] w fun x w' => x = .returned (.int .i64 2) ∧ w' = w := by
  have hr := right_yes h
  clear h
  by_cases hn : n < 0
  · clear h0
    go_enter Tryz.func81, Tryz.ntmps81
    go_wp2_with (go_at_call 54; refine hr.mono ?_; rintro e w1 ⟨rfl, hw1⟩; subst w1)
    go_ret
    exact ⟨rfl, rfl⟩
  · obtain ⟨h4, h5⟩ := h0.resolve_left hn
    have e4 : (e != 4) = true := by simpa using h4
    have e5 : (e != 5) = true := by simpa using h5
    have hd : decide (n < 0) = false := by simpa using hn
    clear h0
    go_enter Tryz.func81, Tryz.ntmps81
    go_wp2_with (go_at_call 54; refine hr.mono ?_; rintro e w1 ⟨rfl, hw1⟩; subst w1)
    go_ret
    exact ⟨rfl, rfl⟩

set_option maxHeartbeats 1000000 in
theorem fail_go {w : World} {L : Lb} {R : Nat} {o : Ob} {d : Dsk} {n e : Int} (h : Di w L R o d.dur d.std d.l) (hsy : Says o d) (h0 : 0 ≤ n ∧ n ≤ 9223372036854775807) (he : e = 4 ∨ e = 5) :
    Calls Tryz.prog 81 #[.pointer (some ⟨R, 0, none⟩), .int .i64 n, .int .i64 e] w fun x w' => x = .returned (.int .i64 0) ∧ Dk w' L R { d with failing := n, failure := e } ∧ Tl L TD w w' := by
  have hr := right_yes h.oj
  have hlb := h.lb
  have HD := hide h
  have HS := hide hsy
  have hst := astore_failing (x := n) h.oj (by omega)
  have hn : ¬ n < 0 := by omega
  have hd : decide (n < 0) = false := by simpa using hn
  clear h hsy
  have END : Hid (∀ w1 : World, Oj w1 R { o with failing := n } → Tb (fun k => k = R) w w1 → Dk (w1.setCell ⟨R, 12, none⟩ (.int .i64 e)) L R { d with failing := n, failure := e } ∧ Tl L TD w (w1.setCell ⟨R, 12, none⟩ (.int .i64 e))) := hide (fun w1 o1 t1 => by
    have o2 : Oj (w1.setCell ⟨R, 12, none⟩ (.int .i64 e)) R { o with failing := n, failure := e } := o1.set 12 _ { o with failing := n, failure := e } rfl o1.armed o1.failing
    have t2 : Tb (fun k => k = R) w (w1.setCell ⟨R, 12, none⟩ (.int .i64 e)) := t1.trans (T := fun k => k = R) (Tb.set (S := fun k => k = R) R 12 _ rfl) (fun _ _ h => h)
    exact ⟨⟨_, HD.out.set o2 t2 rfl rfl rfl rfl rfl rfl rfl, ⟨HS.out.last, HS.out.made, HS.out.down, HS.out.armed, rfl, rfl⟩⟩, Tl.own hlb t2⟩)
  rcases he with rfl | rfl
  · go_enter Tryz.func81, Tryz.ntmps81
    go_wp2_with (first | (go_at_call 54; refine hr.mono ?_; rintro e w1 ⟨rfl, hw1⟩; subst w1) | (go_at_call 60; refine hst.mono ?_; rintro e w1 ⟨rfl, o1, t1⟩; have c12 : w1.cell? ⟨R, 12, none⟩ = some (.int .i64 o.failure) := o1.c 12; have f12 := o1.free 12))
    go_ret
    exact ⟨rfl, END.out w1 o1 t1⟩
  · go_enter Tryz.func81, Tryz.ntmps81
    go_wp2_with (first | (go_at_call 54; refine hr.mono ?_; rintro e w1 ⟨rfl, hw1⟩; subst w1) | (go_at_call 60; refine hst.mono ?_; rintro e w1 ⟨rfl, o1, t1⟩; have c12 : w1.cell? ⟨R, 12, none⟩ = some (.int .i64 o.failure) := o1.c 12; have f12 := o1.free 12))
    go_ret
    exact ⟨rfl, END.out w1 o1 t1⟩

end Go.Proofs.YtgbboaedhpaocaaGreat

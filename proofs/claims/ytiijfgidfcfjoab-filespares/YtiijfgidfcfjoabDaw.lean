/-
  'awake': true.
-/
import Derived.Test.YtiijfgidfcfjoabDax
namespace Go.Proofs.Ytiijfgidfcfjoab
open Go.RowKit
set_option maxRecDepth 100000
set_option maxRecDepth 100000

/-- The name and the two sectors. -/
def aS : ByteArray := ⟨#[97]⟩
def aA : List Int := List.replicate 64 65
def aB : List Int := List.replicate 64 66

def dk1 : Dsk := (newDsk.put aS 0 64 aA).2
def dk2 : Dsk := (dk1.sync aS).2
def dk3 : Dsk := (dk2.put aS 0 64 aB).2
def dk4 : Dsk := (dk3.put aS 1 64 aB).2
def dk5 : Dsk := dk4.crash [false, true]

theorem dk1e : (newDsk.put aS 0 64 aA).1 = 0 := by kernel_rfl
theorem dk2e : (dk1.sync aS).1 = 0 := by kernel_rfl
theorem dk3e : (dk2.put aS 0 64 aB).1 = 0 := by kernel_rfl
theorem dk4e : (dk3.put aS 1 64 aB).1 = 0 := by kernel_rfl
theorem dk1s : dk1.std = ⟨[([97], 1)], [(1, [aA])]⟩ := by kernel_rfl
theorem dk2s : dk2.std = ⟨[([97], 1)], [(1, [aA])]⟩ := by kernel_rfl
theorem dk3s : dk3.std = ⟨[([97], 1)], [(1, [aB])]⟩ := by kernel_rfl
theorem dk4s : dk4.std = ⟨[([97], 1)], [(1, [aB, aB])]⟩ := by kernel_rfl
theorem dk5s : dk5.std = ⟨[([97], 1)], [(1, [aA, aB])]⟩ := by kernel_rfl
theorem dk1u : dk1.dur = ⟨[], []⟩ := by kernel_rfl
theorem dk2u : dk2.dur = ⟨[([97], 1)], [(1, [aA])]⟩ := by kernel_rfl
theorem dk3u : dk3.dur = ⟨[([97], 1)], [(1, [aA])]⟩ := by kernel_rfl
theorem dk4u : dk4.dur = ⟨[([97], 1)], [(1, [aA])]⟩ := by kernel_rfl
theorem dk5u : dk5.dur = ⟨[([97], 1)], [(1, [aA, aB])]⟩ := by kernel_rfl
theorem dk4l : dk4.l.length = 2 := by kernel_rfl
theorem dk5l : dk5.l.length = 0 := by kernel_rfl
theorem dk1n : dk1.last = 2 ∧ dk1.made = 1 := by constructor <;> kernel_rfl
theorem dk2n : dk2.last = 2 ∧ dk2.made = 1 := by constructor <;> kernel_rfl
theorem dk3n : dk3.last = 3 ∧ dk3.made = 1 := by constructor <;> kernel_rfl
theorem dk4n : dk4.last = 4 ∧ dk4.made = 1 := by constructor <;> kernel_rfl
theorem dk5n : dk5.last = 0 ∧ dk5.made = 1 := by constructor <;> kernel_rfl

theorem Sm.empty : Sm ⟨[], []⟩ 10 := ⟨by simp, by simp, by simp, by simp⟩
theorem Sm.one {r : List (List Int)} (h : ∀ x ∈ r, x = aA ∨ x = aB) (hl : r.length ≤ 2) : Sm ⟨[([97], 1)], [(1, r)]⟩ 10 := by
  refine ⟨by simp, by simp, by simp [I6], ?_⟩
  intro p hp
  simp only [List.mem_singleton] at hp
  subst hp
  refine ⟨by simp only; omega, fun x hx => ?_⟩
  rcases h x hx with rfl | rfl
  · exact ⟨by simp [aA], fun z hz => by rw [(List.mem_replicate.1 hz).2]; omega⟩
  · exact ⟨by simp [aB], fun z hz => by rw [(List.mem_replicate.1 hz).2]; omega⟩

theorem few0 : Few newDsk 10 := ⟨Sm.empty, Sm.empty, by decide, by decide, by decide, by simp [newDsk]⟩
theorem few1 : Few dk1 10 := ⟨by rw [dk1s]; exact Sm.one (by simp) (by simp), by rw [dk1u]; exact Sm.empty, by decide, by rw [dk1n.1]; decide, by rw [dk1n.2]; decide, by rw [dk1s]; simp⟩
theorem few2 : Few dk2 10 := ⟨by rw [dk2s]; exact Sm.one (by simp) (by simp), by rw [dk2u]; exact Sm.one (by simp) (by simp), by decide, by rw [dk2n.1]; decide, by rw [dk2n.2]; decide, by rw [dk2s]; simp⟩
theorem few3 : Few dk3 10 := ⟨by rw [dk3s]; exact Sm.one (by simp) (by simp), by rw [dk3u]; exact Sm.one (by simp) (by simp), by decide, by rw [dk3n.1]; decide, by rw [dk3n.2]; decide, by rw [dk3s]; simp⟩
theorem few4 : Few dk4 10 := ⟨by rw [dk4s]; exact Sm.one (by simp) (by simp), by rw [dk4u]; exact Sm.one (by simp) (by simp), by decide, by rw [dk4n.1]; decide, by rw [dk4n.2]; decide, by rw [dk4s]; simp⟩
theorem few5 : Few dk5 10 := ⟨by rw [dk5s]; exact Sm.one (by simp) (by simp), by rw [dk5u]; exact Sm.one (by simp) (by simp), by decide, by rw [dk5n.1]; decide, by rw [dk5n.2]; decide, by rw [dk5s]; simp⟩

theorem dk1f : dk1.find aS = 1 := by kernel_rfl
theorem dk5f : dk5.find aS = 1 := by kernel_rfl
theorem dk5b : dk5.bytes aS = aA ++ aB := by kernel_rfl
theorem fz0 : fz 0 = 64 := by kernel_rfl
theorem aA_by : ∀ z ∈ aA, 0 ≤ z ∧ z ≤ 255 := fun z hz => by rw [(List.mem_replicate.1 hz).2]; omega
theorem aB_by : ∀ z ∈ aB, 0 ≤ z ∧ z ≤ 255 := fun z hz => by rw [(List.mem_replicate.1 hz).2]; omega

theorem fillA (w : World) : Calls Try.prog 5 #[.int .u8 65, .int .i64 0] w fun e w' => ∃ v, e = .returned v ∧ w'.ownsRow w.heap.size 5 1 v 64 (U aA) ∧ Below w.heap.size w w' := by
  have h := filled_any 65 0 (by omega) w
  rw [fz0] at h
  exact h
theorem fillB (w : World) : Calls Try.prog 5 #[.int .u8 66, .int .i64 0] w fun e w' => ∃ v, e = .returned v ∧ w'.ownsRow w.heap.size 5 1 v 64 (U aB) ∧ Below w.heap.size w w' := by
  have h := filled_any 66 0 (by omega) w
  rw [fz0] at h
  exact h

theorem wpList_append_runw {P : Program} {w w' : World} {ops : Array Oper} {rest : List Oper} {o : Oper} {a : Act} {Q : Exit → Act → World → Prop} (hgd : Region.wanted o (yielded ops a.tmps) = true) (t : TypeId) (m x : Operand) (hop : o.op = Op.call { callee := Callee.builtin Builtin.append, args := #[m, x], argTypes := #[t, t] }) (mv key v : Value) (hm : a.eval m = mv) (hx : a.eval x = key) (hrun : (Builtin.append_ #[t, t] o.type #[mv, key]).run P w = .ok v w')
    (hK : wpList P ops Q rest (a.put o.dst v) w') : wpList P ops Q (o :: rest) a w := by
  refine wpList_step fun K hK' => ?_
  rw [if_pos hgd]
  unfold Oper.wp
  simp [execOp, hop, resolve, invoke, builtin, hm, hx, hrun, Result.andThen]
  exact hK' _ _ hK

set_option maxHeartbeats 2000000 in
theorem awake_any (w : World) : Calls Try.prog 11 #[] w fun e w' => e = .returned (.bool true) ∧ Tb (fun _ => False) w w' := by
  go_enter Try.func11, Try.ntmps11
  go_wp2_with fail
  refine aw_new.mono ?_
  rintro e w1 ⟨R, rfl, hR, a1⟩
  go_wp2_with fail
  refine (fillA w1).mono ?_
  rintro e w2 ⟨v2, rfl, r2, b2⟩
  have P1 := hide (aw_put (s := aS) (at' := 0) a1 (Tb.of_fresh b2) r2 aA_by few0 (by decide) (by decide) (by decide) (by decide))
  rw [dk1e] at P1
  clear r2 b2 a1
  go_wp2_with fail
  refine P1.out.mono ?_
  rintro e w3 ⟨rfl, a3⟩
  clear P1
  have P2 := hide (aw_sync (s := aS) a3 few1 (by decide) (by rw [show (newDsk.put aS 0 64 aA).2 = dk1 from rfl, dk1f]; decide))
  rw [show (newDsk.put aS 0 64 aA).2 = dk1 from rfl, dk2e] at P2
  clear a3
  go_wp2_with fail
  refine P2.out.mono ?_
  rintro e w4 ⟨rfl, a4⟩
  clear P2
  have A4 : Hid (Aw w R dk2 w4) := hide a4
  clear a4
  go_wp2_with fail
  refine (fillB w4).mono ?_
  rintro e w5 ⟨v5, rfl, r5, b5⟩
  have P3 := hide (aw_put (s := aS) (at' := 0) A4.out (Tb.of_fresh b5) r5 aB_by few2 (by decide) (by decide) (by decide) (by decide))
  rw [dk3e] at P3
  clear r5 b5 A4
  go_wp2_with fail
  refine P3.out.mono ?_
  rintro e w6 ⟨rfl, a6⟩
  clear P3
  have A6 : Hid (Aw w R dk3 w6) := hide a6
  clear a6
  go_wp2_with fail
  refine (fillB w6).mono ?_
  rintro e w7 ⟨v7, rfl, r7, b7⟩
  have P4 := hide (aw_put (s := aS) (at' := 1) A6.out (Tb.of_fresh b7) r7 aB_by few3 (by decide) (by decide) (by decide) (by decide))
  rw [dk4e] at P4
  clear r7 b7 A6
  go_wp2_with fail
  refine P4.out.mono ?_
  rintro e w8 ⟨rfl, a8⟩
  clear P4
  have A8 : Hid (Aw w R dk4 w8) := hide a8
  have P5 := hide (aw_pending A8.out (by have := few4.last; omega))
  rw [dk4l] at P5
  clear a8
  go_wp2_with fail
  refine P5.out.mono ?_
  rintro e w9 ⟨rfl, t9⟩
  clear P5
  have A9 : Hid (Aw w R dk4 w9) := hide (A8.out.kept t9)
  clear t9 A8
  go_wp2_with fail
  have hk : Hid (Kp (w9.alloc (.cells #[.bool false, .bool true] 4)) (some ⟨w9.heap.size, 0, none⟩) [false, true]) := hide (fun i b hb => by
    have hh := heap_alloc_new w9 (.cells #[.bool false, .bool true] 4)
    refine ⟨_, _, rfl, ?_⟩
    rw [Nat.zero_add, cell_of_row _ _ _ _ _ _ hh]
    match i, hb with
    | 0, hb => cases hb; rfl
    | 1, hb => cases hb; rfl)
  refine (aw_crash A9.out ((Tb.refl _ _).alloc _) few4 rfl (by decide) hk.out (fun a ha => by cases ha; exact ⟨.inl (Nat.le_refl _), by simp⟩)).mono ?_
  rintro e w10 ⟨rfl, a10⟩
  have A10 : Hid (Aw w R dk5 w10) := hide a10
  have P6 := hide (aw_read (s := aS) A10.out few5 (by decide) (by rw [dk5f]; decide) rfl)
  rw [dk5b] at P6
  clear a10 hk A9
  go_wp2_with fail
  refine P6.out.mono ?_
  rintro e w11 ⟨v11, rfl, r11, b11⟩
  clear P6
  have A11 : Hid (Aw w R dk5 w11) := hide (A10.out.kept (Tb.of_fresh b11))
  have R11 := hide r11
  clear r11 b11 A10
  go_wp2_with fail
  refine (fillA w11).mono ?_
  rintro e w12 ⟨v12, rfl, r12, b12⟩
  have T12 : Hid (Tb (fun _ => False) w11 w12) := hide (Tb.of_fresh b12)
  have R12 := hide r12
  clear r12 b12
  go_wp2_with fail
  refine (fillB w12).mono ?_
  rintro e w13 ⟨v13, rfl, r13, b13⟩
  have T13 : Hid (Tb (fun _ => False) w11 w13) := hide (T12.out.trans (Tb.of_fresh (S := fun _ => False) b13) (fun _ _ h => h))
  have R12' := hide (row_tb R12.out (Tb.of_fresh (S := fun _ => False) b13) (fun _ _ h => h))
  have R13 := hide r13
  clear r13 b13 R12 T12
  obtain ⟨i0, hi, hz⟩ := Option.map_eq_some_iff.1 info5
  simp only [Prod.mk.injEq] at hz
  obtain ⟨hz0, hz1, hz2⟩ := hz
  obtain ⟨v14, w14, hr14, o14, g14, c14⟩ := run_append_rows (P := Try.prog) (w := w13) w11.heap.size (24 : TypeId) (24 : TypeId) 5 i0 (.int .u8 0) 1 1 Try.underlying24 hi hz0 hz1 hz2 rfl (by decide) v12 64 _ R12'.out v13 64 _ _ R13.out (U_one _) (by unfold maxLen; omega) (by omega) T13.out.size
  have hlt := R12'.out.lt
  have T14 : Tb (fun _ => False) w11 w14 := T13.out.trans (Tb.of_grown g14 (S := fun k => v12.ownBlock = some k) (fun _ e => e)) (fun i hi e => by have := hlt i e; omega)
  have A14 : Hid (Aw w R dk5 w14) := hide (A11.out.kept T14)
  rw [← U_append] at o14
  have hby : ∀ z ∈ aA ++ aB, 0 ≤ z ∧ z ≤ 255 := fun z hz => (List.mem_append.1 hz).elim (aA_by z) (aB_by z)
  have r14 := row_tb R11.out T14 (fun _ _ h => h)
  obtain ⟨x1, y1, rfl⟩ := row_val r14
  obtain ⟨x2, y2, rfl⟩ := row_val o14
  have SB := hide (same_true rfl (own_bs r14 hby) (own_bs o14 hby))
  have P7 := hide (aw_pending A14.out (by have := few5.last; omega))
  rw [dk5l] at P7
  have HR := hide hr14
  clear hi hz0 hz1 hz2 hr14 o14 r14 hby T14 hlt g14 c14 R11 R12' R13 A11
  go_wp2_with (at_builtin; refine wpList_append_runw (by kernel_rfl) (24 : TypeId) _ _ rfl v12 v13 _ (by simp [Act.eval]) (by simp [Act.eval]) HR.out ?_)
  refine SB.out.mono ?_
  rintro e w15 ⟨rfl, hw⟩
  subst hw
  clear SB
  go_wp2_with fail
  refine P7.out.mono ?_
  rintro e w16 ⟨rfl, t16⟩
  have HF : Hid (Tb (fun _ => False) w w16) := hide (by
    obtain ⟨_, _, _, h⟩ := A14.out.kept t16
    exact h)
  clear P7 t16
  go_wp2_with fail
  go_ret
  exact ⟨rfl, HF.out⟩

end Go.Proofs.Ytiijfgidfcfjoab

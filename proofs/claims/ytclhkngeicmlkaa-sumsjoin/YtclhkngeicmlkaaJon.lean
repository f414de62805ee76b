/-
  SumsJoin returns true: the law by steps.
-/
import Derived.Test.YtclhkngeicmlkaaSum
import Derived.Test.YtclhkngeicmlkaaCpy
import Derived.Deep.QuietTactic
import Derived.BigQuiet
import Derived.Deep.RegionLaw
namespace Go.Proofs.Ytclhkngeicmlkaa.sumsJoin
open Go.RowKit

theorem run_min4 {P : Program} {w : World} (ts : Array TypeId) (t : TypeId) (x y z u m : Nat) (hm : m = min (min (min x y) z) u) :
    (Builtin.min_ ts t #[.int .i64 x, .int .i64 y, .int .i64 z, .int .i64 u]).run P w = .ok (.int .i64 m) w := by
  subst hm
  simp [Builtin.min_, Builtin.min2]
  omega

/-- Bytes appended to a row that the call owns, as one step of a region that draws its order. -/
theorem step_append_bs {P : Program} {ops : Array Oper} {o : Oper} {a : Act} {w : World} {K : Act → World → Prop} {Q : Exit → Act → World → Prop} {E : Prop}
    (hg : o.guard = none) (s x : Operand) (t : TypeId) (hop : o.op = Op.call { callee := Callee.builtin Builtin.append, args := #[s, x], argTypes := #[t, t] })
    (base : Nat) (e : TypeId) (i : TypeInfo) (h1 : P.underlying t = some (.slice e)) (h2 : P.info? e = some i) (h3 : i.zero = some (.int .u8 0)) (h4 : i.size = 1) (h5 : i.bytes = 1)
    (v : Value) (m : Nat) (xs : List Value) (hs : a.eval s = v) (hown : w.ownsRow base e 1 v m xs) (g n cap : Nat) (zs : List Int) (hx : a.eval x = .slice (some ⟨g, 0, none⟩) n cap) (hB : Bs w (some ⟨g, 0, none⟩) n cap zs)
    (hpos : 0 < n) (hroom : m + n ≤ 140737488355328) (hbase : base ≤ w.heap.size)
    (hK : ∀ v' w', w'.ownsRow base e 1 v' (m + n) (xs ++ U zs) → w.grownBy w' v.ownBlock → K (a.put o.dst v') w') :
    if Region.wanted o (yielded ops a.tmps) = true then Oper.wp P o a w K Q else E := by
  have hw : Region.wanted o (yielded ops a.tmps) = true := by simp [Region.wanted, hg]
  rw [if_pos hw]
  obtain ⟨ad, had, hc⟩ := hB.src hpos
  cases had
  obtain ⟨v', w', hrun, r1, r2, _⟩ := run_append_own (P := P) w base t o.type e i (.int .u8 0) 1 1 h1 h2 h3 h4 h5 rfl (by omega) v m xs hown ⟨g, 0, none⟩ n cap (U zs) (by rw [U_length, hB.len]; omega) hc (U_one zs) (by unfold maxLen; omega) (by omega) hbase
  unfold Oper.wp
  simp [execOp, hop, resolve, invoke, builtin, hs, hx, hrun, Result.andThen]
  exact hK v' w' r1 r2

theorem own_form {w : World} {base n : Nat} {e : TypeId} {v : Value} {xs : List Value} (h : w.ownsRow base e 1 v n xs) : ∃ a cap, v = .slice a n cap := by
  rcases h.2 with ⟨h1, h0⟩ | ⟨g, cap, _, hv, _⟩
  · exact ⟨none, 0, by rw [h1, h0]⟩
  · exact ⟨_, cap, hv⟩

set_option maxRecDepth 100000 in
set_option maxHeartbeats 2000000 in
theorem walk (a b c : Option Addr) (n1 c1 n2 c2 n3 c3 : Nat) (xa xb xc : List Int) (w : World) (hA : Bs w a n1 c1 xa) (hB : Bs w b n2 c2 xb) (hC : Bs w c n3 c3 xc) :
    Calls Try.prog 6 #[.slice a n1 c1, .slice b n2 c2, .slice c n3 c3] w fun e w' => e = .returned (.bool true) ∧ Below w.heap.size w w' := by
  obtain ⟨i0, hi, hz0, hz1, hz2⟩ := info_parts info5
  have hr1 := hA.reach
  have hr2 := hB.reach
  have hr3 := hC.reach
  have hl1 := hA.le
  have hl2 := hB.le
  have hl3 := hC.le
  obtain ⟨m, hm⟩ : ∃ m, m = min (min (min n1 n2) n3) 20000 := ⟨_, rfl⟩
  have kmin : ∀ w', (Builtin.min_ #[3, 3, 3, 3] 3 #[.int .i64 n1, .int .i64 n2, .int .i64 n3, .int .i64 20000]).run Try.prog w' = .ok (.int .i64 m) w' := fun w' => run_min4 _ _ n1 n2 n3 20000 m hm
  have m1 : m ≤ n1 := by omega
  have m2 : m ≤ n2 := by omega
  have m3 : m ≤ n3 := by omega
  have m4 : m ≤ 20000 := by omega
  clear hm
  have f1 : (m : Int) ≤ (c1 : Int) := by omega
  have f2 : (m : Int) ≤ (c2 : Int) := by omega
  have f3 : (m : Int) ≤ (c3 : Int) := by omega
  go_enter Try.func6, Try.ntmps6
  go_wp2_with fail
  go_quiet (fail)
  have b0 : Below w.heap.size w (w.drewN nq) := below_drewN (Below.refl _ _) nq
  generalize w.drewN nq = w0 at b0 ⊢
  have A0 := (hA.keep b0).head m m1
  have B0 := (hB.keep b0).head m m2
  have C0 := (hC.keep b0).head m m3
  clear hA hB hC
  generalize xa.take m = ya at A0
  generalize xb.take m = yb at B0
  generalize xc.take m = yc at C0
  go_wp2_with fail
  refine (copy_any a m c1 ya w0 A0 (by omega)).mono ?_
  rintro e w1 ⟨c', d, rfl, hown, b1⟩
  have s1 := b1.size
  go_wp2_with (at_builtin; refine wpList_append_val rfl (.tmp 28) (.tmp 29) 25 rfl w0.heap.size 5 i0 Try.underlying25 hi hz0 hz1 hz2 _ m _ rfl hown _ _ _ yb rfl (B0.keep b1) (by omega) s1 ?_; intro v1 w2 hown1 hgrow1)
  obtain ⟨ba, bc, rfl⟩ := own_form hown1
  have byte2 : ∀ z ∈ ya ++ yb, 0 ≤ z ∧ z ≤ 255 := fun z hz => (List.mem_append.1 hz).elim (A0.byte z) (B0.byte z)
  rw [← U_append] at hown1
  have D2 := own_bs hown1 byte2
  have b2 : Below w0.heap.size w0 w2 := b1.grown hgrow1 (by omega) (fun k hk => (hown.lt k hk).1)
  clear hown hown1 hgrow1 byte2
  refine (crc_any _ _ _ ya w2 (A0.keep b2)).mono ?_
  rintro e w3 ⟨rfl, t3⟩
  have D3 := D2.keep t3
  have b3 := b2.trans (t3.mono b2.size)
  clear D2 t3 b2
  go_wp2_with fail
  have hM := more_any (more 0 ya) _ _ _ yb w3 (more_lt _ _) (B0.keep b3)
  rw [more_join] at hM
  refine hM.mono ?_
  rintro e w4 ⟨rfl, t4⟩
  have D4 := D3.keep t4
  have b4 := b3.trans (t4.mono b3.size)
  clear hM D3 t4 b3
  go_wp2_with fail
  refine (crc_any _ _ _ _ w4 D4).mono ?_
  rintro e w5 ⟨rfl, t5⟩
  have b5 := b4.trans (t5.mono b4.size)
  clear D4 t5 b4
  generalize more 0 (ya ++ yb) = X
  have hne : ((X : Int) != (X : Int)) = false := by simp
  go_wp2_with fail
  refine (more_any 0 _ _ _ ya w5 (by decide) (A0.keep b5)).mono ?_
  rintro e w6 ⟨rfl, t6⟩
  have b6 := b5.trans (t6.mono b5.size)
  clear t6 b5
  go_wp2_with fail
  refine (crc_any _ _ _ ya w6 (A0.keep b6)).mono ?_
  rintro e w7 ⟨rfl, t7⟩
  have b7 := b6.trans (t7.mono b6.size)
  clear t7 b6
  have hne2 : ((more 0 ya : Int) != (more 0 ya : Int)) = false := by simp
  go_wp2_with fail
  go_loopw [9, 10] (fun x i wr => ∃ k : Nat, k ≤ m ∧ i = .int .i64 k ∧ wr.ownsRow w0.heap.size 5 1 x k (U (xor3 (ya.take k) (yb.take k) (yc.take k))) ∧ Below w0.heap.size w0 wr)
    (fun _ i _ => m - (intOf i).toNat)
  case atStart => exact ⟨0, Nat.zero_le _, rfl, by simpa [xor3, U] using World.ownsRow_nil _ _ _ _, b7⟩
  case round =>
    obtain ⟨k, hk, rfl, hown, hb⟩ := hrel
    by_cases hlt : k < m
    · obtain ⟨ga, oa, rfl, ca⟩ := (A0.keep hb).lies (by omega)
      obtain ⟨gb, ob, rfl, cb⟩ := (B0.keep hb).lies (by omega)
      obtain ⟨gc, oc, rfl, cc⟩ := (C0.keep hb).lies (by omega)
      have ka := ca k hlt
      have kb := cb k hlt
      have kc := cc k hlt
      have HX := hide (xor3_take_succ ya yb yc k (by rw [A0.len]; exact hlt) (by rw [A0.len, B0.len]) (by rw [B0.len, C0.len]))
      have za := getD_byte A0.byte k
      have zb := getD_byte B0.byte k
      have zc := getD_byte C0.byte k
      rw [List.getD, List.getD, List.getD] at HX
      rw [List.getD] at ka kb kc
      generalize ya[k]?.getD 0 = ua at ka HX za
      generalize yb[k]?.getD 0 = ub at kb HX zb
      generalize yc[k]?.getD 0 = uc at kc HX zc
      obtain ⟨ua, rfl⟩ := Int.eq_ofNat_of_zero_le za.1
      obtain ⟨ub, rfl⟩ := Int.eq_ofNat_of_zero_le zb.1
      obtain ⟨uc, rfl⟩ := Int.eq_ofNat_of_zero_le zc.1
      clear ca cb cc
      have l1 : ua < 256 := by omega
      have l2 : ub < 256 := by omega
      have l3 : uc < 256 := by omega
      have l4 := xor_lt256 l1 l2
      have hx1 := u8_xor_nat ua ub l1 l2
      have hx2 := u8_xor_nat (ua ^^^ ub) uc l4 l3
      have l5 := xor_lt256 l4 l3
      have hV : ∀ z ∈ [((ua ^^^ ub ^^^ uc : Nat) : Int)], 0 ≤ z ∧ z ≤ 255 := by
        intro z hz
        simp only [List.mem_singleton] at hz
        subst hz
        omega
      simp only [Int.toNat_natCast] at HX
      generalize ua ^^^ ub ^^^ uc = V at hx2 HX hV
      have hbs := hb.size
      have HV := hide hV
      have HO := hide hown
      clear hV hown za zb zc l1 l2 l3 l4 l5
      go_wp2_with fail
      go_region_law (refine step_append_bs rfl (.tmp 50) (.tmp 65) 25 rfl w0.heap.size 5 i0 Try.underlying25 hi hz0 hz1 hz2 u9 k _ (by simp [Act.eval]) (HO.out.drew.alloc _) wr.heap.size 1 1 [(V : Int)] (by simp [Act.eval]) (row_lit wr.drew _ rfl [(V : Int)] 1 rfl (by decide) HV.out) (by decide) (by omega) (by simp; omega) ?_; intro v2 w8 hown8 hgrow8)
      all_goals
        go_wp2_with fail
        go_roundw
        case rel =>
          refine ⟨k + 1, by omega, by go_num, ?_, (hb.drew.alloc hbs _).grown hgrow8 (by simp; omega) (fun q hq => (HO.out.lt q hq).1)⟩
          rw [HX.out, U_append]
          exact hown8
        case measure => simp [intOf]; omega
    · obtain rfl : k = m := by omega
      obtain ⟨ax, cx, rfl⟩ := own_form hown
      rw [List.take_of_length_le (by rw [A0.len]; exact Nat.le_refl _), List.take_of_length_le (by rw [B0.len]; exact Nat.le_refl _), List.take_of_length_le (by rw [C0.len]; exact Nat.le_refl _)] at hown
      have DX := own_bs hown (xor3_byte ya yb yc A0.byte B0.byte C0.byte)
      have hlin := more_lin ya yb yc A0.byte B0.byte C0.byte (by rw [A0.len, B0.len]) (by rw [B0.len, C0.len])
      have hX := crc_any _ _ _ _ wr DX
      rw [hlin] at hX
      have y1 := more_lt 0 ya
      have y2 := more_lt 0 yb
      have y3 := more_lt 0 yc
      have hx1 := u32_xor_nat (more 0 ya) (more 0 yb) y1 y2
      have hx2 := u32_xor_nat (more 0 ya ^^^ more 0 yb) (more 0 yc) (Nat.xor_lt_two_pow (n := 32) y1 y2) y3
      clear hown DX hlin
      obtain ⟨wl, hwl⟩ : ∃ wl : World, wl = wr := ⟨_, rfl⟩
      subst hwl
      go_wp2_with fail
      refine hX.mono ?_
      rintro e u1 ⟨rfl, t1⟩
      have e1 := hb.trans (t1.mono hb.size)
      go_wp2_with fail
      refine (crc_any _ _ _ ya u1 (A0.keep e1)).mono ?_
      rintro e u2 ⟨rfl, t2⟩
      have e2 := e1.trans (t2.mono e1.size)
      go_wp2_with fail
      refine (crc_any _ _ _ yb u2 (B0.keep e2)).mono ?_
      rintro e u3 ⟨rfl, t3⟩
      have e3 := e2.trans (t3.mono e2.size)
      go_wp2_with fail
      refine (crc_any _ _ _ yc u3 (C0.keep e3)).mono ?_
      rintro e u4 ⟨rfl, t4⟩
      have e4 := e3.trans (t4.mono e3.size)
      go_wp2_with fail
      refine (awake_any _).mono ?_
      rintro e u5 ⟨rfl, t5⟩
      have e5 := e4.trans (t5.mono e4.size)
      go_wp2_with fail
      go_ret
      exact ⟨rfl, b0.trans (e5.mono b0.size)⟩

end Go.Proofs.Ytclhkngeicmlkaa.sumsJoin

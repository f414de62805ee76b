/-
  What the walk up to a last group does.
-/
import Derived.Test.YtelfckhiafnniaaBas
import Derived.Test.YtelfckhiafnniaaVin
import Derived.Test.YtelfckhiafnniaaFen
namespace Go.Proofs.Ytelfckhiafnniaa
open Go.RowKit Go.Shelf

attribute [local go_sem] Oper.semAt_some

abbrev Byt := { z : Int // 0 ≤ z ∧ z ≤ 255 }

theorem run_min10 {P : Program} {w : World} (ts : Array TypeId) (t : TypeId) (x m : Nat) (hm : m = min x 10) :
    (Builtin.min_ ts t #[.int .i64 x, .int .i64 10]).run P w = .ok (.int .i64 m) w := by
  subst hm
  simp [Builtin.min_, Builtin.min2]
  omega

theorem upto_split (zs : List Int) : ∀ (k K : Nat), (∀ z ∈ zs.take k, 128 ≤ z) → k ≤ K → k ≤ zs.length → upto K zs = zs.take k ++ upto (K - k) (zs.drop k) := by
  intro k
  induction k generalizing zs with
  | zero => intro K _ _ _; simp
  | succ k ih =>
    intro K h hk hl
    cases zs with
    | nil => simp at hl
    | cons z zs =>
      cases K with
      | zero => omega
      | succ K =>
        have hz := h z (by simp)
        rw [upto, if_neg (by omega), ih zs K (fun y hy => h y (by simp [hy])) (by omega) (by simpa using hl)]
        simp

theorem take_next (zs : List Int) (k : Nat) (h : k < zs.length) : zs.take (k + 1) = zs.take k ++ [zs[k]?.getD 0] := by
  rw [List.take_succ_eq_append_getElem h]; simp [List.getElem?_eq_getElem h]

theorem drop_here (zs : List Int) (k : Nat) (h : k < zs.length) : zs.drop k = (zs[k]?.getD 0) :: zs.drop (k + 1) := by
  rw [List.drop_eq_getElem_cons h]; simp [List.getElem?_eq_getElem h]

set_option maxRecDepth 100000 in
set_option maxHeartbeats 2000000 in
theorem upl1_in (F : Fence) (n : Nat) (h6 : F.fn 70) (hro : F.round = none) (_hn : 1 ≤ n) (l Bx n₀ b off len cap : Nat) (zs : List Int) (hz : ∀ z ∈ zs, 0 ≤ z ∧ z ≤ 255) (hl : zs.length = len) (hc : len ≤ cap) (_hr : cap ≤ 9223372036854775807) (hb : b < n₀)
    (J Jx : List Byt → World → Prop)
    (hY : ∀ pre x W, J pre W → pre.length < 10 → YieldAt F (n - 1) Try.prog l #[.int .u8 x.1] W fun e W' =>
      (e = .returned (.bool true) ∧ J (pre ++ [x]) W' ∧ Below n₀ W W') ∨ (e = .returned (.bool false) ∧ Jx (pre ++ [x]) W'))
    (W : World) (hBx : W.cell? ⟨Bx, 0, none⟩ = some (.slice (some ⟨b, off, none⟩) len cap)) (hcs : ∀ i, i < len → W.cell? ⟨b, off + i, none⟩ = some (.int .u8 (zs[i]?.getD 0))) (h0 : J [] W) :
    CallsIn F n Try.prog 70 #[.func (.yield l) #[] #[], .pointer (some ⟨Bx, 0, none⟩)] W fun e W' => (∃ v, e = .returned v) ∧
      ((∃ ys, ys.map (·.1) = upto 10 zs ∧ J ys W') ∨ (∃ pre, True ∧ Jx pre W')) := by
  obtain ⟨m, hm⟩ : ∃ m, m = min len 10 := ⟨_, rfl⟩
  have kmin : ∀ w', (Builtin.min_ #[3, 3] 3 #[.int .i64 len, .int .i64 10]).run Try.prog w' = .ok (.int .i64 m) w' := fun w' => run_min10 _ _ len m hm
  have m1 : m ≤ len := by omega
  have m2 : m ≤ 10 := by omega
  have m3 : m = len ∨ m = 10 := by omega
  clear hm
  refine callsIn_of_wp Try.func70 rfl h6 ?_ hro
  simp only [Try.ntmps70, List.size_toArray, List.length_cons, List.length_nil, Nat.reduceAdd, Nat.reduceSub, Array.replicate_succ, Array.replicate_zero, List.push_toArray, List.append_toArray, List.nil_append, List.cons_append]
  gi_wp2
  gi_loopw [11] (fun i wr => ∃ (k : Nat) (pre : List Byt), k ≤ m ∧ i = .int .i64 k ∧ pre.map (·.1) = zs.take k ∧ Hid (∀ z ∈ zs.take k, 128 ≤ z) ∧ J pre wr ∧ Below n₀ W wr)
    (fun i _ => m - (intOf i).toNat)
  case atStart => exact ⟨0, [], Nat.zero_le _, rfl, rfl, hide (by simp), h0, Below.refl _ _⟩
  case round =>
    obtain ⟨k, pre, hk, rfl, hpre, hall, hJs, hnx⟩ := hrel
    have hpl : pre.length = k := by have := congrArg List.length hpre; simp at this; omega
    by_cases hlt : k < m
    · have hcx : wr.cell? ⟨b, off + k, none⟩ = some (.int .u8 (zs[k]?.getD 0)) := (hnx.cell (p := ⟨b, off + k, none⟩) hb).trans (hcs k (by omega))
      obtain ⟨fn, tmps, assign, body, hy, hR⟩ := hY pre ⟨zs[k]?.getD 0, getD_byte hz k⟩ wr hJs (by omega)
      dsimp only at hy
      have htk := take_next zs k (by omega)
      obtain ⟨z, hzd⟩ : ∃ z, z = zs[k]?.getD 0 := ⟨_, rfl⟩
      rw [← hzd] at hcx hy htk
      replace hzd := hide hzd
      gi_wp2
      refine hR.mono ?_
      rintro e W3 (⟨rfl, hJ3, hk3⟩ | ⟨rfl, hJx3⟩)
      · by_cases hz8 : z < 128
        · gi_wp2
          refine bodyPost_ret (results_none rfl _ _ _) rfl ?_
          refine ⟨⟨_, rfl⟩, .inl ⟨_, ?_, hJ3⟩⟩
          rw [List.map_append, hpre, upto_split zs k 10 hall.out (by omega) (by omega), drop_here zs k (by omega)]
          obtain ⟨d, hd⟩ : ∃ d, 10 - k = d + 1 := ⟨9 - k, by omega⟩
          rw [hd, upto, if_pos (by rw [← hzd.out]; exact hz8)]
          simp
        · gi_wp2
          go_roundw
          case rel =>
            refine ⟨k + 1, _, by omega, by simp, ?_, hide ?_, hJ3, hnx.trans hk3⟩
            · rw [List.map_append, hpre, htk]; simp [hzd.out]
            · rw [htk]
              intro y hy'
              rcases List.mem_append.1 hy' with h | h
              · exact hall.out y h
              · simp at h; omega
          case measure => simp [intOf]; omega
      · gi_wp2
        refine bodyPost_ret (results_none rfl _ _ _) rfl ?_
        exact ⟨⟨_, rfl⟩, .inr ⟨_, trivial, hJx3⟩⟩
    · obtain rfl : k = m := by omega
      gi_wp2
      go_end0
      refine ⟨⟨_, rfl⟩, .inl ⟨pre, ?_, hJs⟩⟩
      rw [hpre, upto_split zs k 10 hall.out (by omega) (by omega)]
      rcases m3 with rfl | rfl
      · rw [List.drop_eq_nil_of_le (by omega)]
        cases h : 10 - k <;> simp [upto]
      · simp [upto]

set_option maxHeartbeats 1000000 in
theorem upl_in (F : Fence) (n : Nat) (h5 : F.fn 67) (hro : F.round = none) (a : Option Addr) (len cap : Nat) (w : World) :
    CallsIn F n Try.prog 67 #[.slice a len cap] w fun e w' => e = .returned (.func (.func 70) #[] #[.pointer (some ⟨w.heap.size, 0, none⟩)]) ∧ w' = w.alloc (.cells #[.slice a len cap] 22) := by
  refine callsIn_of_wp Try.func67 rfl h5 ?_ hro
  simp only [Try.ntmps67, List.size_toArray, List.length_cons, List.length_nil, Nat.reduceAdd, Nat.reduceSub, Array.replicate_succ, Array.replicate_zero, List.push_toArray, List.append_toArray, List.nil_append, List.cons_append]
  gi_wp2
  go_ret
  exact ⟨rfl, rfl⟩

theorem upl_stops (F : Fence) (n : Nat) (h6 : F.fn 70) (hro : F.round = none) (hn : 1 ≤ n) (Bx n₀ b off len cap : Nat) (zs : List Int) (hz : ∀ z ∈ zs, 0 ≤ z ∧ z ≤ 255) (hl : zs.length = len) (hc : len ≤ cap) (hr : cap ≤ 9223372036854775807) (hb : b < n₀)
    (w : World) (hBx : Bx < w.heap.size) (hn₀ : n₀ ≤ w.heap.size) (hbx : w.cell? ⟨Bx, 0, none⟩ = some (.slice (some ⟨b, off, none⟩) len cap)) (hcs : ∀ i, i < len → w.cell? ⟨b, off + i, none⟩ = some (.int .u8 (zs[i]?.getD 0))) :
    SeqStopsK F n Try.prog 70 #[.pointer (some ⟨Bx, 0, none⟩)] (fun x : Byt => #[Value.int .u8 x.1]) (Below n₀) (fun ys => ys.map (·.1) = upto 10 zs) (fun _ => True) 10 w := fun l J Jx W hW _ _ hY h0 =>
  upl1_in F n h6 hro hn l Bx n₀ b off len cap zs hz hl hc hr hb J Jx hY W ((hW.cell (p := ⟨Bx, 0, none⟩) hBx).trans hbx) (fun i hi => ((hW.mono hn₀).cell (p := ⟨b, off + i, none⟩) hb).trans (hcs i hi)) h0

end Go.Proofs.Ytelfckhiafnniaa

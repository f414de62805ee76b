/-
  A queue of int: Drop.
-/
import Derived.Test.YtnnmlndjcaeegaaQveI
namespace Go.Proofs.Ytnnmlndjcaeegaa.QI
open Go.RowKit

/-- Things that a function asks of each. -/
structure Asks (w0 : World) (fn : Nat) (c : Value) (p : Int → Bool) : Prop where
  enter : ∀ (args : Array Value) (w : World), (callFunc fn args).run Try.prog w = .ok (.enter fn args) w
  call : ∀ (x : Int) (w : World), Below w0.heap.size w0 w → Calls Try.prog fn #[(Value.int .i64) x, c] w fun e w' => e = .returned (.bool (p x)) ∧ w' = w

theorem drop_nil {w : World} {R G N h : Nat} {xs : List Int} (q : Qu w R G N h xs) :
    Calls Try.prog 24 #[.pointer (some ⟨R, 0, none⟩), .nilFunc] w fun e w' => e = .returned (.int .i64 0) ∧ w' = w := by
  have C := made_yes q
  have he := eql_func_nil (P := Try.prog) (w := w) Try.underlying38
  clear q
  go_enter Try.func24, Try.ntmps24
  go_wp2_with fail
  refine C.mono ?_
  rintro e w1 ⟨rfl, rfl⟩
  go_wp2_with fail
  go_ret
  exact ⟨rfl, rfl⟩

theorem drop_none {w : World} {p : Option Addr} (C : Calls Try.prog 29 #[.pointer p] w fun e w' => e = .returned (.bool false) ∧ w' = w) (g : Value) :
    Calls Try.prog 24 #[.pointer p, g] w fun e w' => e = .returned (.int .i64 0) ∧ w' = w := by
  go_enter Try.func24, Try.ntmps24
  go_wp2_with fail
  refine C.mono ?_
  rintro e w1 ⟨rfl, rfl⟩
  go_wp2_with fail
  go_ret
  exact ⟨rfl, rfl⟩

theorem W_one' (x : Int) : W [x] = [(Value.int .i64) x] := rfl

set_option maxHeartbeats 2000000 in
theorem drop_any {w : World} {R G N h : Nat} {xs : List Int} (q : Qu w R G N h xs) {fn : Nat} {c : Value} {p : Int → Bool} (hp : Asks w fn c p) :
    Calls Try.prog 24 #[.pointer (some ⟨R, 0, none⟩), .func (.func fn) #[] #[c]] w fun e w' => e = .returned (.int .i64 ((xs.length : Int) - ((xs.filter fun x => !p x).length : Int))) ∧ Qt w w' R G (xs.filter fun x => !p x) := by
  obtain ⟨i0, hi, hz0, hz1, hz2⟩ := info_parts infoE
  have C := made_yes q
  have CL := list_yes q
  have hfew := q.few
  unfold Mx at hfew
  have hfl : (xs.filter fun x => !p x).length ≤ xs.length := List.length_filter_le _ _
  obtain ⟨fs, hfs⟩ : ∃ fs, Hid (fs = xs.filter fun x => !p x) := ⟨_, hide rfl⟩
  rw [← hfs.out] at hfl ⊢
  have hf := hp.enter
  have he := eql_func_no (P := Try.prog) (w := w) (.func fn) #[] #[c] Try.underlying38
  have HP := hide hp.call
  have HQ := hide q
  clear q hp
  go_enter Try.func24, Try.ntmps24
  go_wp2_with fail
  refine C.mono ?_
  rintro e w1 ⟨rfl, hw1⟩
  subst w1
  go_wp2_with fail
  refine CL.mono ?_
  rintro e w2 ⟨a, cap, rfl, ho, hb⟩
  have hA := own_ls ho
  have hA2 := hA.le
  have hA3 := hA.reach
  obtain ⟨n, hn⟩ : ∃ n, Hid (n = xs.length) := ⟨_, hide rfl⟩
  have hba : ∀ y, (Value.slice a xs.length cap).ownBlock = some y → w.heap.size ≤ y ∧ y < w2.heap.size := fun y hy => ho.lt y hy
  rw [← hn.out] at hA2 hfew ⊢
  have HA := hide hA
  have HB2 := hide hb
  clear C CL ho hA hb
  go_wp2_with fail
  go_loopw [5, 20] (fun v i wr => ∃ k : Nat, k ≤ n ∧ i = .int .i64 k ∧ Hid (wr.ownsRow w2.heap.size 3 1 v ((xs.take k).filter fun x => !p x).length (W ((xs.take k).filter fun x => !p x))) ∧ Below w2.heap.size w2 wr) (fun _ i _ => n - (intOf i).toNat)
  case atStart => exact ⟨0, Nat.zero_le _, rfl, hide ⟨rfl, .inl ⟨rfl, rfl⟩⟩, Below.refl _ _⟩
  case round =>
    obtain ⟨k, hk, rfl, hown, hbr⟩ := hrel
    by_cases hlt : k < n
    · have hkx : k < xs.length := by rw [← hn.out]; exact hlt
      obtain ⟨b1, o1, rfl, hc1⟩ := (HA.out.keep hbr).lies (by omega)
      have hk1 := hc1 k hkx
      clear hc1
      have hCk := HP.out (xs.getD k 0) wr (HB2.out.trans (hbr.mono HB2.out.size))
      have hsn : (xs.take (k + 1)).filter (fun x => !p x) = (xs.take k).filter (fun x => !p x) ++ if p (xs.getD k 0) then [] else [xs.getD k 0] := by
        rw [List.take_succ_eq_append_getElem hkx, List.filter_append]
        simp only [List.getD, List.getElem?_eq_getElem hkx, Option.getD_some]
        by_cases hh : p xs[k] = true
        · simp [hh]
        · simp only [Bool.not_eq_true] at hh
          simp [hh]
      have hml : ((xs.take k).filter fun x => !p x).length ≤ k := Nat.le_trans (List.length_filter_le _ _) (List.length_take_le _ _)
      have HS := hide hsn
      have HK := hide hkx
      clear hsn hkx
      generalize xs.getD k 0 = x at *
      generalize ((xs.take k).filter fun x => !p x) = ys at *
      obtain ⟨m, hm⟩ : ∃ m, Hid (m = ys.length) := ⟨_, hide rfl⟩
      rw [← hm.out] at hml hown
      cases hpx : p x with
      | true =>
        rw [hpx] at hCk
        have HS' : Hid ((xs.take (k + 1)).filter (fun x => !p x) = ys) := hide (by rw [HS.out, hpx]; simp)
        have HO := hown
        clear HS hpx hown
        go_wp2_with fail
        refine hCk.mono ?_
        rintro e w3 ⟨rfl, hw3⟩
        subst w3
        go_wp2_with fail
        go_roundw
        case rel => exact ⟨k + 1, by omega, by go_num, hide (by rw [HS'.out, ← hm.out]; exact HO.out), hbr⟩
        case measure => simp [intOf]; omega
      | false =>
        rw [hpx] at hCk
        have HS' : Hid ((xs.take (k + 1)).filter (fun x => !p x) = ys ++ [x]) := hide (by rw [HS.out, hpx]; simp)
        have ho5 := hown.out.alloc (.cells #[(Value.int .i64) x] 3)
        have hwl := hbr.size
        have FB : Hid (∀ w6, (wr.alloc (.cells #[(Value.int .i64) x] 3)).grownBy w6 u5.ownBlock → Below w2.heap.size w2 w6) := hide (fun w6 h2 => (hbr.alloc hwl _).grown h2 (by simp; omega) (fun y hy => (hown.out.lt y hy).1))
        have HO5 := hide ho5
        clear HS hpx hown ho5
        go_wp2_with fail
        refine hCk.mono ?_
        rintro e w3 ⟨rfl, hw3⟩
        subst w3
        go_wp2_with (at_builtin; refine wpList_append_own _ rfl _ _ 25 rfl w2.heap.size 3 i0 ((Value.int .i64) 0) 1 8 Try.underlying25 hi hz0 hz1 hz2 rfl (by omega) _ _ _ rfl HO5.out ⟨_, 0, none⟩ 1 1 [(Value.int .i64) x] rfl rfl (cell_one_new _ _ _) (by simp [Value.oneCell']) (by unfold maxLen; omega) (by omega) (by simp; omega) ?_; intro v6 w6 hown6 hgrow6 _)
        have HO6 := hide hown6
        have HB6 := hide (FB.out w6 hgrow6)
        clear hown6 hgrow6
        go_roundw
        case rel => exact ⟨k + 1, by omega, by go_num, hide (by rw [HS'.out, W_append, W_one', List.length_append, ← hm.out]; exact HO6.out), HB6.out⟩
        case measure => simp [intOf]; omega
    · obtain rfl : k = n := by omega
      have hall : xs.take k = xs := List.take_of_length_le (by rw [hn.out]; exact Nat.le_refl _)
      rw [hall, ← hfs.out] at hown
      obtain ⟨va, vc, rfl⟩ := row_val hown.out
      have hb := HB2.out.trans (hbr.mono HB2.out.size)
      have hR := (hb.block R HQ.out.lt).trans HQ.out.obj
      have hCl := lay_any hR (own_ls hown.out) (fun ad h e => by
        subst h
        have h1 := (hown.out.lt ad.block (by
          rcases hown.out.2 with ⟨h1, _⟩ | ⟨g, c, cur, h1, _⟩
          · cases h1
          · simp only [Value.slice.injEq, Option.some.injEq] at h1
            rw [h1.1]
            rfl)).1
        have h2 := HQ.out.lt
        have h3 := HB2.out.size
        omega) (by unfold Mx; have := hn.out; omega)
      have HCl : Hid (Calls Try.prog 27 #[.pointer (some ⟨R, 0, none⟩), .slice va fs.length vc] wr fun e w' => e = .returned (.tuple #[]) ∧ Qt w w' R G fs) := hide (hCl.mono (by
        rintro e w' ⟨rfl, q', t⟩
        exact ⟨rfl, _, _, _, q', .inr hb.size, (Tb.of_fresh hb).trans t (fun _ _ h => .inl h)⟩))
      have hre := (own_ls hown.out).le
      have hre2 := (own_ls hown.out).reach
      have hlen : (xs.length : Int) = (k : Int) := by rw [hn.out]
      have HLN := hide hlen
      have hfk : fs.length ≤ k := by rw [hn.out]; exact hfl
      clear hCl hR hb hown hall hlen hfl
      go_wp2_with fail
      refine HCl.out.mono ?_
      rintro e w' ⟨rfl, hq⟩
      go_wp2_with fail
      go_ret
      rw [HLN.out]
      exact ⟨by go_num, hq⟩

end Go.Proofs.Ytnnmlndjcaeegaa.QI

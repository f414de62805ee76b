/-
  The closure that takes off a number up to a limit, and the one that takes off a record.
-/
import Derived.Test.YtelfckhiafnniaaRcl
namespace Go.Proofs.Ytelfckhiafnniaa
open Go.RowKit
section
variable {w0 w w1 : World} {a : Option Addr} {n cap : Nat} {zs : List Int} {k : Nat} {s : Option (List Int)}

set_option maxHeartbeats 1000000 in
theorem upto_any (h0 : Bs w0 a n cap zs) (h : Ps w0 w a n cap zs k s) (most : Nat) (hm : most ≤ 100000) :
    Calls Try.prog 54 #[.int .u64 (most : Int), .pointer (some ⟨w0.heap.size, 0, none⟩), .pointer (some ⟨w0.heap.size + 2, 0, none⟩), .pointer (some ⟨w0.heap.size + 3, 0, none⟩)] w fun e w' => e = .returned (.int .i64 ((tku most s).1 : Nat)) ∧ (∃ k', Ps w0 w' a n cap zs k' (tku most s).2) ∧ Bar (Two w0.heap.size) w w' := by
  have c0 := h.c0
  have c2 := h.c2
  have C := get_val a n cap zs k w (h0.keep h.bel)
  cases s with
  | none =>
    have ht : tku most none = (0, none) := by simp [tku, tk]
    rw [ht]
    go_enter Try.func54, Try.ntmps54
    go_wp2_with fail
    refine C.mono ?_
    rintro e w1 ⟨rfl, hb1⟩
    have h1 := h.keep hb1
    have c3 := h1.c3
    have f3 := h1.f3
    have F := hide (And.intro (h1.mark none true rfl (fun _ h => by cases h)) ((Bar.of_fresh hb1).trans (Two.set3 w0.heap.size w1 (.bool true)) (fun _ h => .inl h)))
    clear h h1
    go_wp2_with fail
    go_ret
    exact ⟨rfl, ⟨k, F.out.1⟩, F.out.2⟩
  | some l =>
    have hl : l = zs.drop k := h.is l rfl
    subst hl
    cases hg : getv (zs.drop k) with
    | none =>
      have ht : tku most (some (zs.drop k)) = (0, none) := by simp [tku, tk, hg]
      rw [ht]
      unfold gN gE gB at C
      rw [gv_nat, hg] at C
      go_enter Try.func54, Try.ntmps54
      go_wp2_with fail
      refine C.mono ?_
      rintro e w1 ⟨rfl, hb1⟩
      have h1 := h.keep hb1
      have c3 := h1.c3
      have f3 := h1.f3
      have F := hide (And.intro (h1.mark none true rfl (fun _ h => by cases h)) ((Bar.of_fresh hb1).trans (Two.set3 w0.heap.size w1 (.bool true)) (fun _ h => .inl h)))
      clear h h1
      go_wp2_with fail
      go_ret
      exact ⟨rfl, ⟨k, F.out.1⟩, F.out.2⟩
    | some v =>
      have ht0 : tk (some (zs.drop k)) = (v, some (zs.drop (k + (vb v).length))) := by simp [tk, hg, List.drop_drop]
      obtain ⟨hvl, hv⟩ := getv_le (drop_byte h0.byte _) hg
      rw [List.length_drop, h0.len] at hvl
      have hle := h.le
      have hn1 := h0.le
      have hn2 := h0.reach
      unfold gN gE gB at C
      rw [gv_nat, hg] at C
      simp only [Option.getD_some, Option.isSome_some, Int.toNat_natCast] at C
      by_cases hgt : most < v
      · have ht : tku most (some (zs.drop k)) = (0, none) := by simp only [tku, ht0]; rw [if_neg (by omega)]
        rw [ht]
        go_enter Try.func54, Try.ntmps54
        go_wp2_with fail
        refine C.mono ?_
        rintro e w1 ⟨rfl, hb1⟩
        have h1 := h.keep hb1
        have c3 := h1.c3
        have f3 := h1.f3
        have F := hide (And.intro (h1.mark none true rfl (fun _ h => by cases h)) ((Bar.of_fresh hb1).trans (Two.set3 w0.heap.size w1 (.bool true)) (fun _ h => .inl h)))
        clear h h1
        go_wp2_with fail
        go_ret
        exact ⟨rfl, ⟨k, F.out.1⟩, F.out.2⟩
      · have ht : tku most (some (zs.drop k)) = (v, some (zs.drop (k + (vb v).length))) := by simp only [tku, ht0]; rw [if_pos (by omega)]
        rw [ht]
        go_enter Try.func54, Try.ntmps54
        go_wp2_with fail
        refine C.mono ?_
        rintro e w1 ⟨rfl, hb1⟩
        have h1 := h.keep hb1
        have c3 := h1.c3
        have f3 := h1.f3
        have h2 := h1.mark (some (zs.drop k)) false rfl (fun _ h => by cases h; rfl)
        have f2 := h2.f2
        have c22 := h2.c2
        have h3 := h2.move (k + (vb v).length) (by omega) _ rfl
        have F := hide (And.intro h3 (((Bar.of_fresh hb1).trans (Two.set3 w0.heap.size w1 (.bool false)) (fun _ h => .inl h)).also (Two.set2 w0.heap.size _ (.int .i64 ((k + (vb v).length : Nat) : Int)))))
        clear h h1 h2 h3
        go_wp2_with fail
        go_ret
        exact ⟨by go_num, ⟨_, F.out.1⟩, F.out.2⟩

theorem empty_own (w : World) (base : Nat) (hb : base ≤ w.heap.size) : (w.alloc (.cells #[] 5)).ownsRow base 5 1 (.slice (some ⟨w.heap.size, 0, none⟩) 0 0) 0 [] :=
  ⟨rfl, .inr ⟨w.heap.size, 0, #[], rfl, hb, heap_alloc_new w _, Nat.le_refl _, by unfold maxLen; omega, rfl, rfl⟩⟩

/-- What a record that is there leaves, ahead of its copy. -/
theorem rec_fin {B O : Nat} (h0 : Bs w0 (some ⟨B, O, none⟩) n cap zs) {k1 v : Nat} (h1 : Ps w0 w1 (some ⟨B, O, none⟩) n cap zs k1 (some (zs.drop k1))) (hb1 : Bar (Two w0.heap.size) w w1) (hfit : k1 + v ≤ n) (d : Bool) (hd : d = false) (x : Int) (hx : x = ((k1 + v : Nat) : Int)) (W3 : World)
    (hW3 : W3 = ((w1.setCell ⟨w0.heap.size + 3, 0, none⟩ (.bool d)).setCell ⟨w0.heap.size + 2, 0, none⟩ (.int .i64 x)).alloc (.cells #[] 5)) :
    (w1.setCell ⟨w0.heap.size + 3, 0, none⟩ (.bool d)).frozen? ⟨w0.heap.size + 2, 0, none⟩ = false ∧ (w1.setCell ⟨w0.heap.size + 3, 0, none⟩ (.bool d)).cell? ⟨w0.heap.size + 2, 0, none⟩ = some (.int .i64 k1) ∧
    W3.cell? ⟨w0.heap.size, 0, none⟩ = some (.slice (some ⟨B, O, none⟩) n cap) ∧ W3.cell? ⟨w0.heap.size + 2, 0, none⟩ = some (.int .i64 x) ∧
    W3.ownsRow w.heap.size 5 1 (.slice (some ⟨w1.heap.size, 0, none⟩) 0 0) 0 [] ∧ Bs W3 (some ⟨B, O, none⟩) n cap zs ∧ w.heap.size ≤ W3.heap.size ∧
    (∀ (v5 : Value) (w5 : World), w5.ownsRow w.heap.size 5 1 v5 v (U ((zs.drop k1).take v)) → W3.grownBy w5 (some w1.heap.size) →
      w5.ownsRow w.heap.size 5 1 v5 ((zs.drop k1).take v).length (U ((zs.drop k1).take v)) ∧ (∃ k', Ps w0 w5 (some ⟨B, O, none⟩) n cap zs k' (some ((zs.drop k1).drop v))) ∧ Bar (Two w0.heap.size) w w5) := by
  have hlen := h0.len
  have h2 := h1.mark (some (zs.drop k1)) d (by rw [hd]; rfl) (fun _ h => by cases h; rfl)
  have h3 := h2.move (k1 + v) hfit x hx
  have hb3 : Bar (Two w0.heap.size) w _ := (hb1.also (Two.set3 w0.heap.size w1 (.bool d))).also (Two.set2 w0.heap.size _ (.int .i64 x))
  have hsz : ((w1.setCell ⟨w0.heap.size + 3, 0, none⟩ (.bool d)).setCell ⟨w0.heap.size + 2, 0, none⟩ (.int .i64 x)).heap.size = w1.heap.size := by simp
  have f2 := h2.f2
  have c22 := h2.c2
  have hfn := some_lt h3.fn
  generalize (w1.setCell ⟨w0.heap.size + 3, 0, none⟩ (.bool d)).setCell ⟨w0.heap.size + 2, 0, none⟩ (.int .i64 x) = W2 at hW3 h3 hb3 hsz hfn
  subst hW3
  have hs3 := hb3.size
  have hlv : ((zs.drop k1).take v).length = v := by simp; omega
  have cB := (h3.keep (fresh W2 (.cells #[] 5))).c2
  rw [← hx] at cB
  have hE := empty_own W2 w.heap.size hs3
  rw [hsz] at hE
  refine ⟨f2, c22, (h3.keep (fresh W2 (.cells #[] 5))).c0, cB, hE, (h0.keep h3.bel).alloc _, by simp; omega, fun v5 w5 h5 h6 => ?_⟩
  have hbb : Bar (fun i => i = w1.heap.size) (W2.alloc (.cells #[] 5)) w5 := (Bar.of_grown h6).mono (fun i h _ => by simp only [Option.some.injEq] at h; exact h.symm)
  have hbc : Bar (fun i => i = w1.heap.size) W2 w5 := (Bar.of_fresh (fresh W2 (.cells #[] 5))).trans hbb (fun i h => .inl h)
  refine ⟨by rw [hlv]; exact h5, ⟨k1 + v, ?_⟩, ?_⟩
  · rw [List.drop_drop]
    exact h3.bar hbc (fun i hi => by omega)
  · exact hb3.trans hbc (fun i hi => .inr (by omega))

set_option maxHeartbeats 1000000 in
theorem rec_any {B O : Nat} (h0 : Bs w0 (some ⟨B, O, none⟩) n cap zs) (h : Ps w0 w (some ⟨B, O, none⟩) n cap zs k s) (hn : n ≤ 100000000000) :
    Calls Try.prog 56 #[.pointer (some ⟨w0.heap.size + 4, 0, none⟩), .pointer (some ⟨w0.heap.size + 3, 0, none⟩), .pointer (some ⟨w0.heap.size, 0, none⟩), .pointer (some ⟨w0.heap.size + 2, 0, none⟩)] w fun e w' => ∃ v, e = .returned v ∧ w'.ownsRow w.heap.size 5 1 v (tkr s).1.length (U (tkr s).1) ∧ (∃ k', Ps w0 w' (some ⟨B, O, none⟩) n cap zs k' (tkr s).2) ∧ Bar (Two w0.heap.size) w w' := by
  obtain ⟨i0, hi, hz0, hz1, hz2⟩ := info_parts info5
  have c4 := h.c4
  have C := upto_any h0 h 1024 (by omega)
  have hs0 := h.bel.size
  have hs4 := some_lt h.fn
  cases ht : (tku 1024 s).2 with
  | none =>
    have hr : tkr s = ([], none) := by simp [tkr, ht]
    rw [hr]
    go_enter Try.func56, Try.ntmps56
    go_wp2_with fail
    refine C.mono ?_
    rintro e w1 ⟨rfl, ⟨k1, h1⟩, hb1⟩
    rw [ht] at h1
    have c3 := h1.c3
    have f3 := h1.f3
    have F := hide (And.intro (h1.mark none true rfl (fun _ h => by cases h)) (hb1.also (Two.set3 w0.heap.size w1 (.bool true))))
    clear h h1
    go_wp2_with fail
    go_ret
    exact ⟨_, rfl, World.ownsRow_nil _ _ _ _, ⟨k1, F.out.1⟩, F.out.2⟩
  | some l =>
    obtain ⟨v, hv⟩ : ∃ v, v = (tku 1024 s).1 := ⟨_, rfl⟩
    have hv4 : v ≤ 1024 := by
      rw [hv]
      unfold tku
      split
      · assumption
      · simp
    have hr : tkr s = if v ≤ l.length then (l.take v, some (l.drop v)) else ([], none) := by simp [tkr, ht, hv]
    rw [← hv, ht] at C
    rw [hr]
    clear hr hv ht
    by_cases hfit : v ≤ l.length
    · rw [if_pos hfit]
      go_enter Try.func56, Try.ntmps56
      go_wp2_with fail
      refine C.mono ?_
      rintro e w1 ⟨rfl, ⟨k1, h1⟩, hb1⟩
      have hl : l = zs.drop k1 := h1.is l rfl
      subst hl
      rw [List.length_drop, h0.len] at hfit
      have hk1 := h1.le
      have c3 := h1.c3
      have f3 := h1.f3
      have c0 := h1.c0
      have c2 := h1.c2
      have hle := h0.le
      have hre := h0.reach
      have hlen := h0.len
      by_cases hc : cap = k1
      · have hv0 : v = 0 := by omega
        subst hv0
        subst hc
        obtain ⟨f2, c22, cA, cB, hE, hBW, hsW, fin⟩ := rec_fin h0 h1 hb1 (v := 0) (by omega) (decide ((n : Int) - (cap : Int) < 0)) (decide_eq_false (by omega)) (cap : Int) (by simp) _ rfl
        have HE := hide hE
        have HF := hide fin
        clear h h1 fin hb1 hE hBW
        go_wp2_with (at_builtin; refine wpList_append_val rfl (.tmp 23) (.tmp 27) 22 rfl w.heap.size 5 i0 Try.underlying22 hi hz0 hz1 hz2 _ _ _ rfl HE.out _ _ _ _ rfl (Bs.zero _ _ _ (by omega)) (by omega) hsW ?_; intro v5 w5 hown5 hgrow5)
        go_ret
        obtain ⟨r1, r2, r3⟩ := HF.out v5 w5 (by simpa [U] using hown5) hgrow5
        exact ⟨_, rfl, r1, r2, r3⟩
      · obtain ⟨f2, c22, cA, cB, hE, hBW, hsW, fin⟩ := rec_fin h0 h1 hb1 (v := v) (by omega) (decide ((n : Int) - (k1 : Int) < (v : Int))) (decide_eq_false (by omega)) ((k1 : Int) + (v : Int)) (by omega) _ rfl
        have HE := hide hE
        have HF := hide fin
        have hM := hBW.mid k1 v (by omega)
        clear h h1 fin hb1 hE hBW
        go_wp2_with (at_builtin; rw [Nat.add_sub_cancel_left]; refine wpList_append_val rfl (.tmp 23) (.tmp 27) 22 rfl w.heap.size 5 i0 Try.underlying22 hi hz0 hz1 hz2 _ _ _ rfl HE.out _ _ _ _ rfl hM (by omega) hsW ?_; intro v5 w5 hown5 hgrow5)
        go_ret
        obtain ⟨r1, r2, r3⟩ := HF.out v5 w5 (by simpa using hown5) hgrow5
        exact ⟨_, rfl, r1, r2, r3⟩
    · rw [if_neg hfit]
      go_enter Try.func56, Try.ntmps56
      go_wp2_with fail
      refine C.mono ?_
      rintro e w1 ⟨rfl, ⟨k1, h1⟩, hb1⟩
      have hl : l = zs.drop k1 := h1.is l rfl
      subst hl
      rw [List.length_drop, h0.len] at hfit
      have hk1 := h1.le
      have hn1 := h0.le
      have c3 := h1.c3
      have f3 := h1.f3
      have c0 := h1.c0
      have c2 := h1.c2
      have F := hide (And.intro (h1.mark none (decide ((n : Int) - (k1 : Int) < (v : Int))) (by rw [decide_eq_true (by omega)]; rfl) (fun _ h => by cases h)) (hb1.also (Two.set3 w0.heap.size w1 (.bool (decide ((n : Int) - (k1 : Int) < (v : Int)))))))
      clear h h1
      go_wp2_with fail
      go_ret
      exact ⟨_, rfl, World.ownsRow_nil _ _ _ _, ⟨k1, F.out.1⟩, F.out.2⟩

end
end Go.Proofs.Ytelfckhiafnniaa

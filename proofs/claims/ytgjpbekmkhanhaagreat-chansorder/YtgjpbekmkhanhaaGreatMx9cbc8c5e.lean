/-
  Texts put into one.
-/
import Derived.Test.YtgjpbekmkhanhaaGreatMx131b1434

/-
  A sched in memory: whether it was made, New, Len, List, who is ready.
-/
namespace Go.Proofs.YtgjpbekmkhanhaaGreat.QI
open Go.RowKit
set_option maxRecDepth 100000

/-- A sched's own block. -/
def Sd (w : World) (Q R : Nat) : Prop := w.heap[Q]? = some (.cells #[.pointer (some ⟨Q, 0, none⟩), .pointer (some ⟨R, 0, none⟩)] (151 : TypeId) (0, 0))

section
variable {w w' : World} {Q R G N h : Nat} {xs ys : List Int}
theorem Sd.lt (s : Sd w Q R) : Q < w.heap.size := heap_lt s
theorem Sd.below (s : Sd w Q R) (hb : Below w.heap.size w w') : Sd w' Q R := (hb.block Q s.lt).trans s
theorem Sd.tb {S : Nat → Prop} (s : Sd w Q R) (hb : Tb S w w') (h : ¬ S Q) : Sd w' Q R := (hb.block Q s.lt h).trans s
theorem Sd.c (s : Sd w Q R) (i : Nat) : w.cell? ⟨Q, i, none⟩ = #[Value.pointer (some ⟨Q, 0, none⟩), Value.pointer (some ⟨R, 0, none⟩)][i]? := cell_of_row w Q i _ _ (0, 0) s
theorem Sd.neR (s : Sd w Q R) {R' : Nat} (q : Qu w R' G N h xs) : Q ≠ R' := by
  rintro rfl
  have := q.obj
  unfold Sd at s
  rw [s] at this
  simp at this
theorem Sd.neG (s : Sd w Q R) {R' : Nat} (q : Qu w R' G N h xs) : Q ≠ G := by
  rintro rfl
  obtain ⟨cur, hc, _⟩ := q.ring
  unfold Sd at s
  rw [s] at hc
  simp at hc
theorem Sd.turn (s : Sd w Q R) {R' : Nat} (q : Qu w R' G N h xs) (k : Qt w w' R' G ys) : Sd w' Q R := by
  obtain ⟨_, _, _, _, _, t⟩ := k
  exact s.tb t (fun h => h.elim (s.neR q) (s.neG q))
end

theorem infoS : ∃ j, Tryz.prog.info? (151 : TypeId) = some j := by
  have h : (Tryz.prog.info? (151 : TypeId)).isSome = true := by kernel_rfl
  exact Option.isSome_iff_exists.1 h

theorem smade_yes {w : World} {Q R : Nat} (s : Sd w Q R) :
    Calls Tryz.prog 116 #[.pointer (some ⟨Q, 0, none⟩)] w fun e w' => e = .returned (.bool true) ∧ w' = w := by
  have c0 : w.cell? ⟨Q, 0, none⟩ = some (.pointer (some ⟨Q, 0, none⟩)) := s.c 0
  clear s
  obtain ⟨j, hj⟩ := infoS
  have he := eql_self (P := Tryz.prog) (w := w) (tp := (58 : TypeId)) (te := (151 : TypeId)) ⟨Q, 0, none⟩ Tryz.underlying58 hj
  go_enter Tryz.func116, Tryz.ntmps116
  go_wp2_with fail
  go_ret
  exact ⟨rfl, rfl⟩

theorem smade_nil (w : World) : Calls Tryz.prog 116 #[.pointer none] w fun e w' => e = .returned (.bool false) ∧ w' = w := by
  go_enter Tryz.func116, Tryz.ntmps116
  go_wp2_with fail
  go_ret
  exact ⟨rfl, rfl⟩

theorem smade_zero {w : World} {Q : Nat} (c0 : w.cell? ⟨Q, 0, none⟩ = some (.pointer none)) : Calls Tryz.prog 116 #[.pointer (some ⟨Q, 0, none⟩)] w fun e w' => e = .returned (.bool false) ∧ w' = w := by
  have he := eql_nil (P := Tryz.prog) (w := w) (tp := (58 : TypeId)) (te := (151 : TypeId)) ⟨Q, 0, none⟩ Tryz.underlying58
  go_enter Tryz.func116, Tryz.ntmps116
  go_wp2_with fail
  go_ret
  exact ⟨rfl, rfl⟩

theorem slen_yes {w : World} {Q R G N h : Nat} {xs : List Int} (s : Sd w Q R) (q : Qu w R G N h xs) :
    Calls Tryz.prog 104 #[.pointer (some ⟨Q, 0, none⟩)] w fun e w' => e = .returned (.int .i64 xs.length) ∧ w' = w := by
  have c1 : w.cell? ⟨Q, 1, none⟩ = some (.pointer (some ⟨R, 0, none⟩)) := s.c 1
  have C := smade_yes s
  have CL := len_yes q
  clear s q
  go_enter Tryz.func104, Tryz.ntmps104
  go_wp2_with fail
  refine C.mono ?_
  rintro e w1 ⟨rfl, rfl⟩
  go_wp2_with fail
  refine CL.mono ?_
  rintro e w2 ⟨rfl, rfl⟩
  go_wp2_with fail
  go_ret
  exact ⟨rfl, rfl⟩

theorem slen_none {w : World} {p : Option Addr} (C : Calls Tryz.prog 116 #[.pointer p] w fun e w' => e = .returned (.bool false) ∧ w' = w) :
    Calls Tryz.prog 104 #[.pointer p] w fun e w' => e = .returned (.int .i64 0) ∧ w' = w := by
  go_enter Tryz.func104, Tryz.ntmps104
  go_wp2_with fail
  refine C.mono ?_
  rintro e w1 ⟨rfl, rfl⟩
  go_wp2_with fail
  go_ret
  exact ⟨rfl, rfl⟩

theorem slist_yes {w : World} {Q R G N h : Nat} {xs : List Int} (s : Sd w Q R) (q : Qu w R G N h xs) :
    Calls Tryz.prog 63 #[.pointer (some ⟨Q, 0, none⟩)] w fun e w' => ∃ a cap, e = .returned (.slice a xs.length cap) ∧ w'.ownsRow w.heap.size 3 1 (.slice a xs.length cap) xs.length (W xs) ∧ Below w.heap.size w w' := by
  have c1 : w.cell? ⟨Q, 1, none⟩ = some (.pointer (some ⟨R, 0, none⟩)) := s.c 1
  have C := smade_yes s
  have CL := list_yes q
  clear s q
  obtain ⟨n, hn⟩ : ∃ n, Hid (n = xs.length) := ⟨_, hide rfl⟩
  rw [← hn.out] at CL ⊢
  go_enter Tryz.func63, Tryz.ntmps63
  go_wp2_with fail
  refine C.mono ?_
  rintro e w1 ⟨rfl, hw1⟩
  subst w1
  go_wp2_with fail
  refine CL.mono ?_
  rintro e w2 ⟨a, cap, rfl, ho, hb⟩
  have HO := hide ho
  have HB := hide hb
  clear ho hb
  go_wp2_with fail
  go_ret
  exact ⟨a, cap, rfl, HO.out, HB.out⟩

theorem slist_none {w : World} {p : Option Addr} (C : Calls Tryz.prog 116 #[.pointer p] w fun e w' => e = .returned (.bool false) ∧ w' = w) :
    Calls Tryz.prog 63 #[.pointer p] w fun e w' => e = .returned (.slice none 0 0) ∧ w' = w := by
  go_enter Tryz.func63, Tryz.ntmps63
  go_wp2_with fail
  refine C.mono ?_
  rintro e w1 ⟨rfl, rfl⟩
  go_wp2_with fail
  go_ret
  exact ⟨rfl, rfl⟩

set_option maxHeartbeats 1000000 in
theorem snew_any (w : World) :
    Calls Tryz.prog 64 #[] w fun e w' => ∃ Q R G N h, e = .returned (.pointer (some ⟨Q, 0, none⟩)) ∧ Sd w' Q R ∧ Qu w' R G N h [] ∧ w.heap.size ≤ Q ∧ w.heap.size ≤ R ∧ w.heap.size ≤ G ∧ Below w.heap.size w w' := by
  have hnil : Ls w none 0 0 [] := ⟨rfl, Nat.le_refl _, by omega, fun h => by omega⟩
  have CO := of_any hnil (fun ad h => by cases h) (by decide)
  clear hnil
  go_enter Tryz.func64, Tryz.ntmps64
  go_wp2_with fail
  refine CO.mono ?_
  rintro e w1 ⟨rfl, q, hb⟩
  obtain ⟨R, hR⟩ : ∃ R, Hid (R = w.heap.size) := ⟨_, hide rfl⟩
  rw [← hR.out] at q ⊢
  obtain ⟨Q, hQ⟩ : ∃ Q, Hid (Q = w1.heap.size) := ⟨_, hide rfl⟩
  obtain ⟨X, hX⟩ : ∃ X, Hid (X = w1.alloc (.cells #[.pointer none, .pointer (some ⟨R, 0, none⟩)] (151 : TypeId))) := ⟨_, hide rfl⟩
  have hXR : X.heap[Q]? = some (.cells #[.pointer none, .pointer (some ⟨R, 0, none⟩)] (151 : TypeId) (0, 0)) := by rw [hX.out, hQ.out]; exact heap_alloc_new w1 _
  have x0 : X.cell? ⟨Q, 0, none⟩ = some (.pointer none) := cell_of_row X Q 0 _ _ _ hXR
  have f0 := frozen_of_row X Q 0 _ _ hXR
  obtain ⟨Y, hY⟩ : ∃ Y, Hid (Y = X.setCell ⟨Q, 0, none⟩ (.pointer (some ⟨Q, 0, none⟩))) := ⟨_, hide rfl⟩
  have hYR : Sd Y Q R := by
    unfold Sd
    rw [hY.out, heap_setCell_same X Q 0 _ (151 : TypeId) _ hXR]
    rfl
  have bX : Below w1.heap.size w1 X := by rw [hX.out]; exact (Below.refl _ w1).alloc (Nat.le_refl _) _
  have bY : Below w1.heap.size w1 Y := by rw [hY.out]; exact bX.setCell (by simp [hQ.out]) _
  have HF : Hid (∃ G N h, Sd Y Q R ∧ Qu Y R G N h [] ∧ w.heap.size ≤ Q ∧ w.heap.size ≤ R ∧ w.heap.size ≤ G ∧ Below w.heap.size w Y) :=
    hide ⟨_, _, _, hYR, q.below bY, by rw [hQ.out]; exact hb.size, by rw [hR.out]; exact Nat.le_refl _, by have := hR.out; omega, hb.trans (bY.mono hb.size)⟩
  have HQ1 : Hid (w1.heap.size = Q) := hide hQ.out.symm
  clear hXR hYR bX bY q hb
  go_wp2_with (first | (rw [← hX.out, HQ1.out]))
  rw [← hY.out]
  go_ret
  obtain ⟨G, N, h, hF⟩ := HF.out
  exact ⟨Q, R, G, N, h, rfl, hF⟩

end Go.Proofs.YtgjpbekmkhanhaaGreat.QI

/-
  A sched: Ready, Pick, Gone.
-/
namespace Go.Proofs.YtgjpbekmkhanhaaGreat.QI
open Go.RowKit
set_option maxRecDepth 100000
set_option maxRecDepth 20000
set_option linter.unusedSimpArgs false

section
variable {P : Program} {ops : Array Oper} {o : Oper} {a : Act} {w w' : World} {K : Act → World → Prop} {Q : Exit → Act → World → Prop} {E : Prop}
theorem step_runw {v : Value} (hw : Region.wanted o (yielded ops a.tmps) = true) (hrun : (execOp a.eval o).run P w = .ok (.value v) w') (hK : K (a.put o.dst v) w') :
    if Region.wanted o (yielded ops a.tmps) = true then Oper.wp P o a w K Q else E := by
  rw [if_pos hw]
  unfold Oper.wp
  rw [hrun]
  exact hK
theorem step_callw (hw : Region.wanted o (yielded ops a.tmps) = true) (f : FuncId) (args : Array Value) (hrun : (execOp a.eval o).run P w = .ok (.enter f args) w)
    (hc : Calls P f args w fun e w' => ∃ v, e = .returned v ∧ K (a.put o.dst v) w') : if Region.wanted o (yielded ops a.tmps) = true then Oper.wp P o a w K Q else E := by
  rw [if_pos hw]
  unfold Oper.wp
  rw [hrun, Oper.upon_enter]
  refine hc.mono fun e w' hh => ?_
  obtain ⟨v, rfl, hk⟩ := hh
  exact hk
end

set_option maxHeartbeats 1000000 in
theorem has_any {w : World} {R G N h : Nat} {xs : List Int} (q : Qu w R G N h xs) (id : Int) :
    Calls Tryz.prog 153 #[.agg #[.pointer (some ⟨R, 0, none⟩)], .int .i64 id] w fun e w' => e = .returned (.bool (decide (id ∈ xs))) ∧ Below w.heap.size w w' := by
  obtain ⟨X, hX⟩ : ∃ X, Hid (X = w.alloc (.cells #[.pointer (some ⟨R, 0, none⟩)] (149 : TypeId))) := ⟨_, hide rfl⟩
  have bX : Below w.heap.size w X := by rw [hX.out]; exact (Below.refl _ w).alloc (Nat.le_refl _) _
  have hXL : X.heap[w.heap.size]? = some (.cells #[.pointer (some ⟨R, 0, none⟩)] (149 : TypeId) (0, 0)) := by rw [hX.out]; exact heap_alloc_new w _
  have qX := q.below bX
  have x0 : X.cell? ⟨w.heap.size, 0, none⟩ = some (.pointer (some ⟨R, 0, none⟩)) := cell_of_row X _ 0 _ _ _ hXL
  have CL := len_yes qX
  have hfew := q.few
  unfold Mx at hfew
  obtain ⟨n, hn⟩ : ∃ n, Hid (n = xs.length) := ⟨_, hide rfl⟩
  rw [← hn.out] at CL hfew
  obtain ⟨L, hL⟩ : ∃ L, Hid (L = w.heap.size) := ⟨_, hide rfl⟩
  rw [← hL.out] at x0
  have HQ := hide qX
  have HB := hide bX
  have HWL : Hid (w.heap.size = L) := hide hL.out.symm
  clear q qX bX hXL
  go_enter Tryz.func153, Tryz.ntmps153
  go_wp2_with (first | (rw [← hX.out, HWL.out]))
  refine CL.mono ?_
  rintro e w1 ⟨rfl, hw1⟩
  subst w1
  go_wp2_with fail
  go_loopw [11] (fun i wr => ∃ k m : Nat, k ≤ n ∧ i = .int .i64 k ∧ wr = X.drewN m ∧ Hid (id ∉ xs.take k)) (fun i _ => n - (intOf i).toNat)
  case atStart => exact ⟨0, 0, Nat.zero_le _, rfl, rfl, hide (by simp)⟩
  case round =>
    obtain ⟨k, m, hk, rfl, hwr, hno⟩ := hrel
    have qr := HQ.out.drewN m
    have cr : wr.cell? ⟨L, 0, none⟩ = some (.pointer (some ⟨R, 0, none⟩)) := by rw [hwr]; exact x0
    have HBr : Hid (Below w.heap.size w wr) := hide (by rw [hwr]; exact below_drewN HB.out m)
    rw [← hwr] at qr
    have HWR := hide hwr
    clear hwr
    by_cases hlt : k < n
    · have hkx : k < xs.length := by rw [← hn.out]; exact hlt
      have CA := at_any qr (k : Int)
      rw [show atV xs (k : Int) = (xs.getD k 0, true) from if_pos (by omega)] at CA
      have hsn : Hid (id ∈ xs.take (k + 1) ↔ id ∈ xs.take k ∨ id = xs.getD k 0) := hide (by
        rw [List.take_succ_eq_append_getElem hkx, List.mem_append]
        simp only [List.mem_singleton, List.getD, List.getElem?_eq_getElem hkx, Option.getD_some])
      have hin : Hid (xs.getD k 0 ∈ xs) := hide (by
        simp [List.getD, List.getElem?_eq_getElem hkx])
      simp only at CA
      generalize xs.getD k 0 = x at *
      clear qr hkx
      go_wp2_with fail
      refine CA.mono ?_
      rintro e w2 ⟨rfl, m2, rfl⟩
      have HB2 : Hid (Below w.heap.size w (wr.drewN m2)) := hide (below_drewN HBr.out m2)
      by_cases hx : x = id
      · subst hx
        clear CA
        go_wp2_with fail
        go_ret
        refine ⟨?_, HB2.out⟩
        have := hin.out
        simp [this]
      · clear CA
        go_wp2_with fail
        go_roundw
        case rel => exact ⟨k + 1, m + m2, by omega, by go_num, by rw [HWR.out, World.drewN_drewN], hide (fun h => by
          rcases hsn.out.1 h with h | h
          · exact hno.out h
          · exact hx h.symm)⟩
        case measure => simp [intOf]; omega
    · obtain rfl : k = n := by omega
      clear qr cr
      go_wp2_with fail
      go_ret
      have := hno.out
      rw [List.take_of_length_le (by rw [hn.out]; exact Nat.le_refl _)] at this
      exact ⟨by simp [this], HBr.out⟩

/-- What Ready answers, and leaves. -/
def rdE (xs : List Int) (id : Int) : Int := if id < 0 then 2 else if id ∈ xs then 151 else if 256 ≤ xs.length then 5 else 0
def rdL (xs : List Int) (id : Int) : List Int := if rdE xs id = 0 then xs ++ [id] else xs

theorem Qt.refl {w : World} {R G N h : Nat} {xs : List Int} (q : Qu w R G N h xs) {w' : World} (hb : Below w.heap.size w w') : Qt w w' R G xs :=
  ⟨G, N, h, q.below hb, .inl rfl, Tb.of_fresh hb⟩

theorem Qt.drew {w w' : World} {R G : Nat} {xs : List Int} (k : Qt w w' R G xs) (m : Nat) : Qt w (w'.drewN m) R G xs := by
  obtain ⟨G', N, h, q, hg, t⟩ := k
  exact ⟨G', N, h, q.drewN m, hg, t.drewN m⟩

set_option maxHeartbeats 1000000 in
theorem ready_any {w : World} {Q R G N h : Nat} {xs : List Int} (s : Sd w Q R) (q : Qu w R G N h xs) (id : Int) :
    Calls Tryz.prog 120 #[.pointer (some ⟨Q, 0, none⟩), .int .i64 id] w fun e w' => e = .returned (.int .i64 (rdE xs id)) ∧ Qt w w' R G (rdL xs id) := by
  have c1 : w.cell? ⟨Q, 1, none⟩ = some (.pointer (some ⟨R, 0, none⟩)) := s.c 1
  have C := smade_yes s
  have CH := has_any q id
  have HQ := hide q
  have HS := hide s
  clear s q
  by_cases h0 : id < 0
  · have e1 : rdE xs id = 2 := if_pos h0
    have e2 : rdL xs id = xs := if_neg (by rw [e1]; decide)
    rw [e1, e2]
    clear e1 e2 CH
    go_enter Tryz.func120, Tryz.ntmps120
    go_wp2_with fail
    refine C.mono ?_
    rintro e w1 ⟨rfl, hw1⟩
    subst w1
    go_wp2_with fail
    go_ret
    exact ⟨rfl, Qt.refl HQ.out (Below.refl _ _)⟩
  · by_cases h1 : id ∈ xs
    · have e1 : rdE xs id = 151 := by unfold rdE; rw [if_neg h0, if_pos h1]
      have e2 : rdL xs id = xs := if_neg (by rw [e1]; decide)
      rw [e1, e2]
      simp only [h1, decide_true] at CH
      clear e1 e2 h1
      go_enter Tryz.func120, Tryz.ntmps120
      go_wp2_with fail
      refine C.mono ?_
      rintro e w1 ⟨rfl, hw1⟩
      subst w1
      go_wp2_with fail
      refine CH.mono ?_
      rintro e w2 ⟨rfl, hb⟩
      have HB := hide hb
      clear hb
      go_wp2_with fail
      go_ret
      exact ⟨rfl, Qt.refl HQ.out HB.out⟩
    · simp only [h1, decide_false] at CH
      by_cases h2 : 256 ≤ xs.length
      · have e1 : rdE xs id = 5 := by unfold rdE; rw [if_neg h0, if_neg h1, if_pos h2]
        have e2 : rdL xs id = xs := if_neg (by rw [e1]; decide)
        rw [e1, e2]
        have CLn : ∀ w', Below w.heap.size w w' → Calls Tryz.prog 83 #[.pointer (some ⟨R, 0, none⟩)] w' fun e w'' => e = .returned (.int .i64 xs.length) ∧ w'' = w' := fun w' hb => len_yes (HQ.out.below hb)
        have CC : ∀ w', Below w.heap.size w w' → w'.cell? ⟨Q, 1, none⟩ = some (.pointer (some ⟨R, 0, none⟩)) := fun w' hb => (HS.out.below hb).c 1
        have HL := hide CLn
        have HC := hide CC
        obtain ⟨n, hn⟩ : ∃ n, Hid (n = xs.length) := ⟨_, hide rfl⟩
        rw [← hn.out] at HL h2
        have h2i : (256 : Int) ≤ (n : Int) := by omega
        clear e1 e2 h1 CLn CC h2
        go_enter Tryz.func120, Tryz.ntmps120
        go_wp2_with fail
        refine C.mono ?_
        rintro e w1 ⟨rfl, hw1⟩
        subst w1
        go_wp2_with fail
        refine CH.mono ?_
        rintro e w2 ⟨rfl, hb⟩
        have d1 := HC.out w2 hb
        have CL2 := HL.out w2 hb
        have HB := hide hb
        clear hb
        go_wp2_with fail
        refine CL2.mono ?_
        rintro e w3 ⟨rfl, hw3⟩
        subst w3
        go_wp2_with fail
        go_ret
        exact ⟨rfl, Qt.refl HQ.out HB.out⟩
      · have e1 : rdE xs id = 0 := by unfold rdE; rw [if_neg h0, if_neg h1, if_neg h2]
        have e2 : rdL xs id = xs ++ [id] := if_pos e1
        rw [e1, e2]
        have HL : Hid (∀ w', Below w.heap.size w w' → Calls Tryz.prog 83 #[.pointer (some ⟨R, 0, none⟩)] w' fun e w'' => e = .returned (.int .i64 xs.length) ∧ w'' = w') := hide (fun w' hb => len_yes (HQ.out.below hb))
        have HC : Hid (∀ w', Below w.heap.size w w' → w'.cell? ⟨Q, 1, none⟩ = some (.pointer (some ⟨R, 0, none⟩))) := hide (fun w' hb => (HS.out.below hb).c 1)
        have HP : Hid (∀ w', Below w.heap.size w w' → Calls Tryz.prog 126 #[.pointer (some ⟨R, 0, none⟩), .int .i64 id] w' fun e w'' => e = .returned (.tuple #[]) ∧ Qt w w'' R G (xs ++ [id])) := hide (fun w' hb => (push_any (HQ.out.below hb) (by unfold Mx; omega) id).mono (by
          rintro e w'' ⟨rfl, k⟩
          exact ⟨rfl, Qt.then (HQ.out.below hb) (.inl rfl) (Tb.of_fresh hb) k⟩))
        obtain ⟨n, hn⟩ : ∃ n, Hid (n = xs.length) := ⟨_, hide rfl⟩
        rw [← hn.out] at HL h2
        have h2i : ¬ (256 : Int) ≤ (n : Int) := by omega
        clear e1 e2 h1 h2
        go_enter Tryz.func120, Tryz.ntmps120
        go_wp2_with fail
        refine C.mono ?_
        rintro e w1 ⟨rfl, hw1⟩
        subst w1
        go_wp2_with fail
        refine CH.mono ?_
        rintro e w2 ⟨rfl, hb⟩
        have d1 := HC.out w2 hb
        have CL2 := HL.out w2 hb
        have CP2 := HP.out w2 hb
        clear hb HL HC HP
        go_wp2_with fail
        refine CL2.mono ?_
        rintro e w3 ⟨rfl, hw3⟩
        subst w3
        go_wp2_with fail
        refine CP2.mono ?_
        rintro e w4 ⟨rfl, k⟩
        have HK := hide k
        clear k
        go_wp2_with fail
        go_ret
        exact ⟨rfl, HK.out⟩

theorem ready_none {w : World} {p : Option Addr} (C : Calls Tryz.prog 116 #[.pointer p] w fun e w' => e = .returned (.bool false) ∧ w' = w) (id : Int) :
    Calls Tryz.prog 120 #[.pointer p, .int .i64 id] w fun e w' => e = .returned (.int .i64 1) ∧ w' = w := by
  go_enter Tryz.func120, Tryz.ntmps120
  go_wp2_with fail
  refine C.mono ?_
  rintro e w1 ⟨rfl, rfl⟩
  go_wp2_with fail
  go_ret
  exact ⟨rfl, rfl⟩

set_option maxHeartbeats 1000000 in
theorem pick_yes {w : World} {Q R G N h : Nat} {xs : List Int} (s : Sd w Q R) (q : Qu w R G N h xs) (hn0 : 0 < xs.length) (p : Nat) (hp : p ≤ 18446744073709551615) :
    Calls Tryz.prog 59 #[.pointer (some ⟨Q, 0, none⟩), .int .u64 p] w fun e w' => e = .returned (.tuple #[.int .i64 (xs.getD (p % xs.length) 0), .int .u64 (p / xs.length : Nat), .bool true]) ∧ Qt w w' R G (xs.eraseIdx (p % xs.length)) := by
  have c1 : w.cell? ⟨Q, 1, none⟩ = some (.pointer (some ⟨R, 0, none⟩)) := s.c 1
  have C := slen_yes s q
  have hfew := q.few
  unfold Mx at hfew
  have hlt : p % xs.length < xs.length := Nat.mod_lt _ hn0
  have CT := take_any q ((p % xs.length : Nat) : Int)
  rw [show atV xs ((p % xs.length : Nat) : Int) = (xs.getD (p % xs.length) 0, true) from by
    unfold atV
    rw [if_pos (by omega), Int.toNat_natCast], show wo xs ((p % xs.length : Nat) : Int) = xs.eraseIdx (p % xs.length) from by
    unfold wo
    rw [if_pos (by omega), Int.toNat_natCast]] at CT
  have HT : Hid (∀ m, Calls Tryz.prog 105 #[.pointer (some ⟨R, 0, none⟩), .int .i64 ((p % xs.length : Nat) : Int)] (w.drewN m) fun e w' => e = .returned (.tuple #[.int .i64 (xs.getD (p % xs.length) 0), .bool true]) ∧ Qt w w' R G (xs.eraseIdx (p % xs.length)) ∧ w'.cell? ⟨Q, 1, none⟩ = some (.pointer (some ⟨R, 0, none⟩))) := hide (fun m => by
    have CT := take_any (q.drewN m) ((p % xs.length : Nat) : Int)
    rw [show atV xs ((p % xs.length : Nat) : Int) = (xs.getD (p % xs.length) 0, true) from by
      unfold atV
      rw [if_pos (by omega), Int.toNat_natCast], show wo xs ((p % xs.length : Nat) : Int) = xs.eraseIdx (p % xs.length) from by
      unfold wo
      rw [if_pos (by omega), Int.toNat_natCast]] at CT
    refine CT.mono ?_
    rintro e w' ⟨rfl, k⟩
    have k' := Qt.then (q.drewN m) (.inl rfl) (Tb.of_fresh (below_drewN (Below.refl _ w) m)) k
    exact ⟨rfl, k', (s.turn q k').c 1⟩)
  have hdl : p / xs.length ≤ p := Nat.div_le_self _ _
  have ht : (p : Int).tmod (xs.length : Int) = ((p % xs.length : Nat) : Int) := by
    rw [Int.tmod_eq_emod_of_nonneg (by omega)]
    simp
  have hd : (p : Int).tdiv (xs.length : Int) = ((p / xs.length : Nat) : Int) := by
    rw [Int.tdiv_eq_ediv_of_nonneg (by omega)]
    simp
  have h00 : ((xs.length : Int) == 0) = false := by rw [beq_eq_false_iff_ne]; omega
  generalize xs.eraseIdx (p % xs.length) = ys at *
  generalize xs.getD (p % xs.length) 0 = x at *
  obtain ⟨n, hn⟩ : ∃ n, Hid (n = xs.length) := ⟨_, hide rfl⟩
  rw [← hn.out] at C CT HT hdl ht hd h00 hfew hlt hn0 ⊢
  obtain ⟨KK, hKK⟩ : ∃ KK, Hid (KK = p % n) := ⟨_, hide rfl⟩
  rw [← hKK.out] at HT ht hlt
  obtain ⟨D, hD⟩ : ∃ D, Hid (D = p / n) := ⟨_, hide rfl⟩
  rw [← hD.out] at hd hdl ⊢
  have hrem : ∀ V : World, (Op.intDiv .rem .u64 (p : Int) (n : Int)).run Tryz.prog V = .ok (.int .u64 (KK : Int)) V := fun V => by
    simp [Op.intDiv, ht, show n ≠ 0 by omega]
  have hquo : ∀ V : World, (Op.intDiv .quo .u64 (p : Int) (n : Int)).run Tryz.prog V = .ok (.int .u64 (D : Int)) V := fun V => by
    have : IntKind.u64.wrap (D : Int) = D := by simp [IntKind.wrap, IntKind.signed, IntKind.bits]; omega
    simp [Op.intDiv, hd, this, show n ≠ 0 by omega]
  clear CT s q
  go_enter Tryz.func59, Tryz.ntmps59
  go_wp2_with fail
  refine C.mono ?_
  rintro e w1 ⟨rfl, hw1⟩
  subst w1
  go_wp2_with fail
  refine wp_region_held_drew (S := fun V => V.cell? ⟨Q, 1, none⟩ = some (.pointer (some ⟨R, 0, none⟩))) (by kernel_rfl) c1 (fun hHeld => ?_)
  try simp only [List.size_toArray, List.length_cons, List.length_nil, Nat.reduceAdd]
  refine wpAnyH_take (i := 0) (v := (.pointer (some ⟨Q, 0, none⟩))) rfl (by kernel_rfl) (by kernel_rfl) (by kernel_rfl) (fun _ _ _ h => h) (Or.inl ⟨by rfl, ?hy⟩) hHeld ?_
  case hy => (intro V hV; go_simp <;> first | done | rfl | (try simp_all; done) | omega)
  simp only [Act.put, List.getElem_toArray, List.getElem_cons_succ, List.getElem_cons_zero, List.setIfInBounds_toArray, List.set_cons_succ, List.set_cons_zero]
  refine wpAnyH_take (i := 1) (v := (.pointer (some ⟨Q, 0, none⟩))) rfl (by kernel_rfl) (by kernel_rfl) (by kernel_rfl) (fun _ _ _ h => h) (Or.inl ⟨by rfl, ?hy⟩) hHeld ?_
  case hy => (intro V hV; go_simp <;> first | done | rfl | (try simp_all; done) | omega)
  simp only [Act.put, List.getElem_toArray, List.getElem_cons_succ, List.getElem_cons_zero, List.setIfInBounds_toArray, List.set_cons_succ, List.set_cons_zero]
  refine wpAnyH_take (i := 2) (v := (.pointer (some ⟨Q, 1, none⟩))) rfl (by kernel_rfl) (by kernel_rfl) (by kernel_rfl) (fun _ _ _ h => h) (Or.inl ⟨by rfl, ?hy⟩) hHeld ?_
  case hy => (intro V hV; go_simp <;> first | done | rfl | (try simp_all; done) | omega)
  simp only [Act.put, List.getElem_toArray, List.getElem_cons_succ, List.getElem_cons_zero, List.setIfInBounds_toArray, List.set_cons_succ, List.set_cons_zero]
  refine wpAnyH_take (i := 3) (v := (.pointer (some ⟨Q, 1, none⟩))) rfl (by kernel_rfl) (by kernel_rfl) (by kernel_rfl) (fun _ _ _ h => h) (Or.inl ⟨by rfl, ?hy⟩) hHeld ?_
  case hy => (intro V hV; go_simp <;> first | done | rfl | (try simp_all; done) | omega)
  simp only [Act.put, List.getElem_toArray, List.getElem_cons_succ, List.getElem_cons_zero, List.setIfInBounds_toArray, List.set_cons_succ, List.set_cons_zero]
  refine wpAnyH_take (i := 4) (v := (.pointer (some ⟨R, 0, none⟩))) rfl (by kernel_rfl) (by kernel_rfl) (by kernel_rfl) (fun _ _ _ h => h) (Or.inl ⟨by rfl, ?hy⟩) hHeld ?_
  case hy => (intro V hV; go_simp <;> first | done | rfl | (try simp_all; done) | omega)
  simp only [Act.put, List.getElem_toArray, List.getElem_cons_succ, List.getElem_cons_zero, List.setIfInBounds_toArray, List.set_cons_succ, List.set_cons_zero]
  refine wpAnyH_take (i := 5) (v := (.int .u64 (p : Int))) rfl (by kernel_rfl) (by kernel_rfl) (by kernel_rfl) (fun _ _ _ h => h) (Or.inl ⟨by rfl, ?hy⟩) hHeld ?_
  case hy => (intro V hV; go_simp <;> first | done | rfl | (try simp_all; done) | omega)
  simp only [Act.put, List.getElem_toArray, List.getElem_cons_succ, List.getElem_cons_zero, List.setIfInBounds_toArray, List.set_cons_succ, List.set_cons_zero]
  refine wpAnyH_take (i := 6) (v := (.int .u64 (n : Int))) rfl (by kernel_rfl) (by kernel_rfl) (by kernel_rfl) (fun _ _ _ h => h) (Or.inl ⟨by rfl, ?hy⟩) hHeld ?_
  case hy => (intro V hV; go_simp <;> first | done | rfl | (try simp_all; done) | omega)
  simp only [Act.put, List.getElem_toArray, List.getElem_cons_succ, List.getElem_cons_zero, List.setIfInBounds_toArray, List.set_cons_succ, List.set_cons_zero]
  refine wpAnyH_take (i := 7) (v := (.int .u64 (KK : Int))) rfl (by kernel_rfl) (by kernel_rfl) (by kernel_rfl) (fun _ _ _ h => h) (Or.inl ⟨by rfl, ?hy⟩) hHeld ?_
  case hy => (intro V hV; go_simp <;> first | done | rfl | (try simp_all; done) | omega)
  simp only [Act.put, List.getElem_toArray, List.getElem_cons_succ, List.getElem_cons_zero, List.setIfInBounds_toArray, List.set_cons_succ, List.set_cons_zero]
  refine wpAnyH_take (i := 8) (v := (.int .i64 (KK : Int))) rfl (by kernel_rfl) (by kernel_rfl) (by kernel_rfl) (fun _ _ _ h => h) (Or.inl ⟨by rfl, ?hy⟩) hHeld ?_
  case hy => (intro V hV; go_simp; rw [IntKind.wrap_i64]; omega)
  simp only [Act.put, List.getElem_toArray, List.getElem_cons_succ, List.getElem_cons_zero, List.setIfInBounds_toArray, List.set_cons_succ, List.set_cons_zero]
  refine wpAnyH_ready (rs := [9]) (by kernel_rfl) (by simp) ?_
  refine AllReadyH.cons (by rfl) ?_ AllReadyH.nil
  intro K hK
  refine step_callw (by rfl) 105 #[.pointer (some ⟨R, 0, none⟩), .int .i64 (KK : Int)] (by go_simp) ?_
  refine (HT.out 1).mono ?_
  rintro e w2 ⟨rfl, k2, d1⟩
  have HK := hide k2
  clear k2
  refine ⟨_, rfl, ?_⟩
  refine hK.out _ _ d1 (fun hHeld => ?_)
  clear hK K
  simp only [Act.put, List.getElem_toArray, List.getElem_cons_succ, List.getElem_cons_zero, List.setIfInBounds_toArray, List.set_cons_succ, List.set_cons_zero]
  refine wpAnyH_take (i := 10) (v := (.tuple #[.int .i64 x, .bool true])) rfl (by kernel_rfl) (by kernel_rfl) (by kernel_rfl) (fun _ _ _ h => h) (Or.inl ⟨by rfl, ?hy⟩) hHeld ?_
  case hy => (intro V hV; go_simp <;> first | done | rfl | (try simp_all; done) | omega)
  simp only [Act.put, List.getElem_toArray, List.getElem_cons_succ, List.getElem_cons_zero, List.setIfInBounds_toArray, List.set_cons_succ, List.set_cons_zero]
  refine wpAnyH_take (i := 11) (v := (.int .i64 x)) rfl (by kernel_rfl) (by kernel_rfl) (by kernel_rfl) (fun _ _ _ h => h) (Or.inl ⟨by rfl, ?hy⟩) hHeld ?_
  case hy => (intro V hV; go_simp <;> first | done | rfl | (try simp_all; done) | omega)
  simp only [Act.put, List.getElem_toArray, List.getElem_cons_succ, List.getElem_cons_zero, List.setIfInBounds_toArray, List.set_cons_succ, List.set_cons_zero]
  refine wpAnyH_take (i := 12) (v := (.bool true)) rfl (by kernel_rfl) (by kernel_rfl) (by kernel_rfl) (fun _ _ _ h => h) (Or.inl ⟨by rfl, ?hy⟩) hHeld ?_
  case hy => (intro V hV; go_simp <;> first | done | rfl | (try simp_all; done) | omega)
  simp only [Act.put, List.getElem_toArray, List.getElem_cons_succ, List.getElem_cons_zero, List.setIfInBounds_toArray, List.set_cons_succ, List.set_cons_zero]
  refine wpAnyH_take (i := 13) (v := (.int .i64 x)) rfl (by kernel_rfl) (by kernel_rfl) (by kernel_rfl) (fun _ _ _ h => h) (Or.inl ⟨by rfl, ?hy⟩) hHeld ?_
  case hy => (intro V hV; go_simp <;> first | done | rfl | (try simp_all; done) | omega)
  simp only [Act.put, List.getElem_toArray, List.getElem_cons_succ, List.getElem_cons_zero, List.setIfInBounds_toArray, List.set_cons_succ, List.set_cons_zero]
  refine wpAnyH_take (i := 14) (v := (.bool true)) rfl (by kernel_rfl) (by kernel_rfl) (by kernel_rfl) (fun _ _ _ h => h) (Or.inl ⟨by rfl, ?hy⟩) hHeld ?_
  case hy => (intro V hV; go_simp <;> first | done | rfl | (try simp_all; done) | omega)
  simp only [Act.put, List.getElem_toArray, List.getElem_cons_succ, List.getElem_cons_zero, List.setIfInBounds_toArray, List.set_cons_succ, List.set_cons_zero]
  refine wpAnyH_done (by kernel_rfl) ?_ _
  try simp only [Act.put, List.getElem_toArray, List.getElem_cons_succ, List.getElem_cons_zero, List.setIfInBounds_toArray, List.set_cons_succ, List.set_cons_zero]
  go_wp2_with fail
  go_quiet (fail)
  go_wp2_with fail
  go_ret3
  exact ⟨rfl, HK.out.drew _⟩

theorem pick_no {w : World} {p : Option Addr} (C : Calls Tryz.prog 104 #[.pointer p] w fun e w' => e = .returned (.int .i64 0) ∧ w' = w) (z : Int) :
    Calls Tryz.prog 59 #[.pointer p, .int .u64 z] w fun e w' => e = .returned (.tuple #[.int .i64 0, .int .u64 0, .bool false]) ∧ w' = w := by
  go_enter Tryz.func59, Tryz.ntmps59
  go_wp2_with fail
  refine C.mono ?_
  rintro e w1 ⟨rfl, rfl⟩
  go_wp2_with fail
  go_ret3
  exact ⟨rfl, rfl⟩

/-- A list without a number. -/
def rid (xs : List Int) (id : Int) : List Int := xs.filter fun x => !decide (x = id)

theorem rid_length (xs : List Int) (id : Int) : (rid xs id).length ≤ xs.length := List.length_filter_le _ _

end Go.Proofs.YtgjpbekmkhanhaaGreat.QI

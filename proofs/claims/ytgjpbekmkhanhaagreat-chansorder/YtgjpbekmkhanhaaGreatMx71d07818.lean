/-
  Texts put into one.
-/
import Derived.Test.YtgjpbekmkhanhaaGreatMxbde91bdd

/-
  A line of waiters: made, joined, forgotten, left.
-/
namespace Go.Proofs.YtgjpbekmkhanhaaGreat.QW
open Go.RowKit
set_option maxRecDepth 100000

theorem eqlt_other {P : Program} {w : World} {tp te : TypeId} {j : TypeInfo} {a b : Addr} {ca cb : Array Value} {ta tb : TypeId} (hp : P.underlying tp = some (.pointer te)) (hte : P.info? te = some j) (hsz : j.size ≠ 0) (hne : a ≠ b) (ha : w.heap[a.block]? = some (.cells ca ta (0, 0))) (hb : w.heap[b.block]? = some (.cells cb tb (0, 0))) :
    (binOp .eql tp (.pointer (some a)) (.pointer (some b))).run P w = .ok (.bool false) w := by
  have h : ∀ d : Nat, (Op.equalIn (d + 1) tp (.pointer (some a)) (.pointer (some b))).run P w = .ok false w := fun d => by simp [Op.equalIn, run_underlying hp, typeInfo, sizeOf, hsz, run_sameAddr_other w hne ha hb, hte]
  simp only [binOp]
  simp [Op.equal, Op.maxDepth, h 9999]
theorem neqt_other {P : Program} {w : World} {tp te : TypeId} {j : TypeInfo} {a b : Addr} {ca cb : Array Value} {ta tb : TypeId} (hp : P.underlying tp = some (.pointer te)) (hte : P.info? te = some j) (hsz : j.size ≠ 0) (hne : a ≠ b) (ha : w.heap[a.block]? = some (.cells ca ta (0, 0))) (hb : w.heap[b.block]? = some (.cells cb tb (0, 0))) :
    (binOp .neq tp (.pointer (some a)) (.pointer (some b))).run P w = .ok (.bool true) w := by
  have h : ∀ d : Nat, (Op.equalIn (d + 1) tp (.pointer (some a)) (.pointer (some b))).run P w = .ok false w := fun d => by simp [Op.equalIn, run_underlying hp, typeInfo, sizeOf, hsz, run_sameAddr_other w hne ha hb, hte]
  simp only [binOp]
  simp [Op.equal, Op.maxDepth, h 9999]
theorem neqt_self {P : Program} {w : World} {tp te : TypeId} {j : TypeInfo} (a : Addr) (hp : P.underlying tp = some (.pointer te)) (hte : P.info? te = some j) : (binOp .neq tp (.pointer (some a)) (.pointer (some a))).run P w = .ok (.bool false) w := by
  have h : ∀ d : Nat, (Op.equalIn (d + 1) tp (.pointer (some a)) (.pointer (some a))).run P w = .ok true w := fun d => by simp [Op.equalIn, run_underlying hp, typeInfo, sizeOf, run_sameAddr_same, hte]
  simp only [binOp]
  simp [Op.equal, Op.maxDepth, h 9999]
theorem neqt_nil {P : Program} {w : World} {tp te : TypeId} (a : Addr) (hp : P.underlying tp = some (.pointer te)) : (binOp .neq tp (.pointer (some a)) (.pointer none)).run P w = .ok (.bool true) w := by
  have h : ∀ d : Nat, (Op.equalIn (d + 1) tp (.pointer (some a)) (.pointer none)).run P w = .ok false w := fun d => by simp [Op.equalIn, run_underlying hp]
  simp only [binOp]
  simp [Op.equal, Op.maxDepth, h 9999]

theorem infoT2 : ∃ j, Tryz.prog.info? (127 : TypeId) = some j ∧ j.size ≠ 0 := by
  have h : (Tryz.prog.info? (127 : TypeId)).map (·.size) = some 2 := by kernel_rfl
  obtain ⟨j, hj, hs⟩ := Option.map_eq_some_iff.1 h
  exact ⟨j, hj, by omega⟩

theorem tk_eql {w : World} {j k : Nat} {f g : Value} (hj : Tkt w j f) (hk : Tkt w k g) : (binOp .eql (69 : TypeId) (.pointer (some ⟨j, 0, none⟩)) (.pointer (some ⟨k, 0, none⟩))).run Tryz.prog w = .ok (.bool (decide (j = k))) w := by
  obtain ⟨i, hi, hs⟩ := infoT2
  by_cases e : j = k
  · subst e
    simpa using eql_self (P := Tryz.prog) (w := w) (tp := (69 : TypeId)) (te := (127 : TypeId)) ⟨j, 0, none⟩ Tryz.underlying69 hi
  · have := eqlt_other (P := Tryz.prog) (w := w) (tp := (69 : TypeId)) (te := (127 : TypeId)) (a := ⟨j, 0, none⟩) (b := ⟨k, 0, none⟩) Tryz.underlying69 hi hs (fun h => e (congrArg Addr.block h)) hj hk
    simpa [e] using this
theorem tk_neq {w : World} {j : Nat} {f : Value} {kp : Option Addr} (hj : Tkt w j f) (hk : kp = none ∨ ∃ k g, kp = some ⟨k, 0, none⟩ ∧ Tkt w k g) : (binOp .neq (69 : TypeId) (.pointer (some ⟨j, 0, none⟩)) (.pointer kp)).run Tryz.prog w = .ok (.bool (decide ((some ⟨j, 0, none⟩ : Option Addr) ≠ kp))) w := by
  obtain ⟨i, hi, hs⟩ := infoT2
  rcases hk with rfl | ⟨k, g, rfl, hk⟩
  · simpa using neqt_nil (P := Tryz.prog) (w := w) (tp := (69 : TypeId)) (te := (127 : TypeId)) ⟨j, 0, none⟩ Tryz.underlying69
  · by_cases e : j = k
    · subst e
      simpa using neqt_self (P := Tryz.prog) (w := w) (tp := (69 : TypeId)) (te := (127 : TypeId)) ⟨j, 0, none⟩ Tryz.underlying69 hi
    · have := neqt_other (P := Tryz.prog) (w := w) (tp := (69 : TypeId)) (te := (127 : TypeId)) (a := ⟨j, 0, none⟩) (b := ⟨k, 0, none⟩) Tryz.underlying69 hi hs (fun h => e (congrArg Addr.block h)) hj hk
      simpa [e] using this

theorem ask_same {w : World} {x : Wv} {j k C : Nat} {f g : Value} (hx : x.tk = some ⟨j, 0, none⟩) (hj : Tkt w j f) (hk : Tkt w k g) (hc : w.cell? ⟨C, 0, none⟩ = some (.pointer (some ⟨k, 0, none⟩))) :
    Calls Tryz.prog 140 #[.agg #[.pointer x.tk, .int .i64 x.val, x.told], .pointer (some ⟨C, 0, none⟩)] w fun e w' => e = .returned (.bool (decide (x.tk = some ⟨k, 0, none⟩))) ∧ Below w.heap.size w w' := by
  obtain ⟨A, B, hA, hB, bA, a0, a1, a2⟩ := box_laid w x
  have he := tk_eql (hj.below bA.out) (hk.below bA.out)
  have hc2 := (bA.out.cell (cell_lt hc)).trans hc
  rw [hx] at a0 hA ⊢
  rw [show decide ((some ⟨j, 0, none⟩ : Option Addr) = some ⟨k, 0, none⟩) = decide (j = k) by simp]
  clear hj hk hc
  go_enter Tryz.func140, Tryz.ntmps140
  go_wp2_with (rw [← hA.out, hB.out])
  go_ret
  exact ⟨rfl, hB.out ▸ bA.out⟩

theorem forget_any {w : World} {A : Nat → Bool} {L R m k : Nat} {f : Value} {ys : List Wv} {D : Nat → Prop} (h : Ln w A L R m ys D) (hk : Tkt w k f) :
    Calls Tryz.prog 85 #[.pointer (some ⟨L, 0, none⟩), .pointer (some ⟨k, 0, none⟩)] w fun e w' => ∃ n : Nat, e = .returned (.int .i64 n) ∧ n ≤ m ∧ (A k = true → n = ys.countP fun x => decide (x.tk = some ⟨k, 0, none⟩)) ∧ ∃ D', Ln w' A L R m (ys.filter fun x => decide (x.tk ≠ some ⟨k, 0, none⟩)) D' ∧ Lx w D w' D' := by
  obtain ⟨G, N, hd, c, xs, l, e, hl, hD⟩ := h
  obtain ⟨X, hX⟩ : ∃ X, Hid (X = w.alloc (.cells #[.pointer (some ⟨k, 0, none⟩)] (69 : TypeId))) := ⟨_, hide rfl⟩
  obtain ⟨B, hB⟩ : ∃ B, Hid (w.heap.size = B) := ⟨_, hide rfl⟩
  have bX : Below w.heap.size w X := by rw [hX.out]; exact (Below.refl _ w).alloc (Nat.le_refl _) _
  have hXB : X.heap[B]? = some (.cells #[.pointer (some ⟨k, 0, none⟩)] (69 : TypeId) (0, 0)) := by rw [hX.out, ← hB.out]; exact heap_alloc_new w _
  have hkX := hk.below bX
  have lX := l.below bX
  have CA : Asks1 X xs 140 (.pointer (some ⟨B, 0, none⟩)) (fun x => decide (x.tk = some ⟨k, 0, none⟩)) := by
    refine ⟨fun _ _ => by go_simp, fun x hx V hV => ?_⟩
    obtain ⟨j, g, h1, h2, _⟩ := (lX.tk x hx).below hV
    exact ask_same h1 h2 (hkX.below hV) (cell_of_row V B 0 _ _ _ ((hV.block B (heap_lt hXB)).trans hXB))
  have CD := drop_any1 lX.q CA
  have hlen := l.q.few
  unfold Mx at hlen
  obtain ⟨n, hn⟩ : ∃ n : Nat, n + (xs.filter fun x => !decide (x.tk = some ⟨k, 0, none⟩)).length = xs.length := ⟨xs.length - (xs.filter fun x => !decide (x.tk = some ⟨k, 0, none⟩)).length, Nat.sub_add_cancel (List.length_filter_le _ _)⟩
  rw [show ((xs.length : Int) - ((xs.filter fun x => !decide (x.tk = some ⟨k, 0, none⟩)).length : Int)) = (n : Int) by omega] at CD
  have hcnt : n = xs.countP fun x => decide (x.tk = some ⟨k, 0, none⟩) := by
    have h1 := List.length_eq_countP_add_countP (fun x : Wv => decide (x.tk = some ⟨k, 0, none⟩)) (l := xs)
    have h2 : (xs.countP fun x => !decide (x.tk = some ⟨k, 0, none⟩)) = xs.countP fun x => decide ¬(decide (x.tk = some ⟨k, 0, none⟩)) = true := List.countP_congr (fun x _ => by simp)
    rw [← List.countP_eq_length_filter] at hn
    omega
  have FIN : Hid (∀ w1, Qt X w1 R G (xs.filter fun x => !decide (x.tk = some ⟨k, 0, none⟩)) → n ≤ m ∧ (A k = true → n = ys.countP fun x => decide (x.tk = some ⟨k, 0, none⟩)) ∧ ∃ D', Ln w1 A L R m (ys.filter fun x => decide (x.tk ≠ some ⟨k, 0, none⟩)) D' ∧ Lx w D w1 D') := hide (fun w1 hq => by
    obtain ⟨G', N', h', l', x'⟩ := lX.turn hq (fun y hy => (List.mem_filter.1 hy).1)
    refine ⟨by omega, fun ha => ?_, Ld L R G', ⟨G', N', h', c, _, l', ?_, Nat.le_trans (List.length_filter_le _ _) hl, fun _ => Iff.rfl⟩, (Lx.fresh D bX).trans ⟨x'.tb.mono (fun k _ hk => (hD k).2 hk), fun k hk => (x'.dom k hk).elim (fun h => .inl ((hD k).2 h)) .inr⟩⟩
    · rw [hcnt, ← e, List.countP_filter]
      refine List.countP_congr (fun x hx => ?_)
      simp only [decide_eq_true_eq, Bool.and_eq_true, iff_self_and]
      intro hxk
      unfold al
      rw [hxk]
      exact ha
    · rw [← e, List.filter_filter, List.filter_filter]
      refine List.filter_congr (fun x _ => ?_)
      by_cases hxk : x.tk = some ⟨k, 0, none⟩ <;> simp [hxk])
  have c0 := lX.l0
  clear l lX e hl hD hk hkX CA hcnt hn hXB bX
  go_enter Tryz.func85, Tryz.ntmps85
  go_wp2_with (rw [← hX.out, hB.out])
  refine CD.mono ?_
  rintro e w1 ⟨rfl, hq⟩
  have HF := hide (FIN.out w1 hq)
  clear hq CD FIN
  go_wp2_with fail
  go_ret
  obtain ⟨h1, h2, h3⟩ := HF.out
  exact ⟨n, rfl, h1, h2, h3⟩

/-- The tickets of a line's row that was told. -/
theorem leave_any {w : World} {A : Nat → Bool} {L R m : Nat} {ys : List Wv} {D : Nat → Prop} (h : Ln w A L R m ys D) :
    Calls Tryz.prog 81 #[.pointer (some ⟨L, 0, none⟩)] w fun e w' => ∃ a cap xs, e = .returned (.slice a xs.length cap) ∧ w'.ownsRow w.heap.size (141 : TypeId) 3 (.slice a xs.length cap) xs.length (W xs) ∧ xs.length ≤ m ∧ xs.length < Mx ∧ xs.filter (al A) = ys ∧ (∀ x ∈ xs, Tkv w' A x) ∧ ∃ D', Ln w' A L R m [] D' ∧ Lx w D w' D' ∧ ∀ k, (Value.slice a xs.length cap).ownBlock = some k → ¬ D' k := by
  obtain ⟨G, N, hd, c, xs, l, e, hl, hD⟩ := h
  have CL := list_yes l.q
  have c0 := l.l0
  have FIN : Hid (∀ a cap w1, w1.ownsRow w.heap.size (141 : TypeId) 3 (.slice a xs.length cap) xs.length (W xs) → Below w.heap.size w w1 → w1.cell? ⟨L, 0, none⟩ = some (.pointer (some ⟨R, 0, none⟩)) ∧ Calls Tryz.prog 137 #[.pointer (some ⟨R, 0, none⟩), .func (.func 138) #[] #[]] w1 fun e w' => e = .returned (.int .i64 xs.length) ∧ w'.ownsRow w.heap.size (141 : TypeId) 3 (.slice a xs.length cap) xs.length (W xs) ∧ (∀ x ∈ xs, Tkv w' A x) ∧ ∃ D', Ln w' A L R m [] D' ∧ Lx w D w' D' ∧ ∀ k, (Value.slice a xs.length cap).ownBlock = some k → ¬ D' k) := hide (fun a cap w1 ho hb => by
    have l1 := l.below hb
    refine ⟨l1.l0, ?_⟩
    have CD := drop_any0 l1.q (asks_all (xs := xs))
    rw [show (xs.filter fun _ => !true) = [] from List.filter_eq_nil_iff.2 (by simp)] at CD
    refine CD.mono ?_
    rintro e' w2 ⟨rfl, hq⟩
    obtain ⟨G', N', h', q', hg, t⟩ := hq
    obtain ⟨G2, N2, h2, l2, x2⟩ := l1.turn (ys := []) ⟨G', N', h', q', hg, t⟩ (fun y hy => by cases hy)
    have hsz := hb.size
    have hnb : ∀ k, (Value.slice a xs.length cap).ownBlock = some k → ¬ Ld L R G k := fun k hk hk2 => by
      have h1 := ho.lt k hk
      have h3 := l.ld_lt hk2
      omega
    refine ⟨by simp, row_tb ho t (fun g hg' e => hnb g hg' (e.elim (fun e => .inr (.inl e)) (fun e => .inr (.inr e)))), fun x hx => (Kv.tb A t (fun k f ht e => l1.notk ht (e.elim (fun e => .inr (.inl e)) (fun e => .inr (.inr e)))) x (l1.tk x hx)).1, Ld L R G2, ⟨G2, N2, h2, c, [], l2, rfl, by simp, fun _ => Iff.rfl⟩, (Lx.fresh D hb).trans ⟨x2.tb.mono (fun k _ hk => (hD k).2 hk), fun k hk => (x2.dom k hk).elim (fun h => .inl ((hD k).2 h)) .inr⟩, fun k hk hk2 => ?_⟩
    rcases x2.dom k hk2 with h3 | h3
    · exact hnb k hk h3
    · have := (ho.lt k hk).2
      omega)
  have hfew := l.q.few
  clear l hD
  go_enter Tryz.func81, Tryz.ntmps81
  go_wp2_with fail
  refine CL.mono ?_
  rintro e1 w1 ⟨a, cap, rfl, ho, hb⟩
  obtain ⟨d0, CD⟩ := FIN.out a cap w1 ho hb
  clear FIN CL ho hb
  go_wp2_with fail
  refine CD.mono ?_
  rintro e2 w2 ⟨rfl, HF⟩
  have HF := hide HF
  clear CD
  go_wp2_with fail
  go_ret
  exact ⟨a, cap, xs, rfl, HF.out.1, hl, hfew, e, HF.out.2.1, HF.out.2.2⟩

theorem newline_any (w : World) (A : Nat → Bool) :
    Calls Tryz.prog 66 #[] w fun e w' => ∃ L, e = .returned (.pointer (some ⟨L, 0, none⟩)) ∧ Below w.heap.size w w' ∧ ∃ D, Ln w' A L w.heap.size 0 [] D ∧ ∀ k, D k → w.heap.size ≤ k := by
  have CO := of_any (w := w) (a := none) (n := 0) (cap := 0) (xs := []) ⟨rfl, Nat.le_refl _, by omega, fun h => by omega⟩ (fun _ h => by cases h) (by unfold Mx; omega)
  have FIN : Hid (∀ w1, Qu w1 w.heap.size (w.heap.size + 1) (2 * 0 + 1) 0 [] → Below w.heap.size w w1 → Below w.heap.size w (w1.alloc (.cells #[.pointer (some ⟨w.heap.size, 0, none⟩), .int .i64 0] (165 : TypeId))) ∧ ∃ D, Ln (w1.alloc (.cells #[.pointer (some ⟨w.heap.size, 0, none⟩), .int .i64 0] (165 : TypeId))) A w1.heap.size w.heap.size 0 [] D ∧ ∀ k, D k → w.heap.size ≤ k) := hide (fun w1 q hb => by
    have b1 : Below w1.heap.size w1 (w1.alloc (.cells #[.pointer (some ⟨w.heap.size, 0, none⟩), .int .i64 0] (165 : TypeId))) := (Below.refl _ w1).alloc (Nat.le_refl _) _
    have hz := hb.size
    refine ⟨hb.trans (b1.mono hz), Ld w1.heap.size w.heap.size (w.heap.size + 1), ⟨_, _, _, 0, [], ⟨heap_alloc_new w1 _, q.below b1, Int.le_refl _, by omega, fun x hx => by cases hx⟩, rfl, Nat.le_refl _, fun _ => Iff.rfl⟩, fun k hk => ?_⟩
    rcases hk with rfl | rfl | rfl <;> omega)
  go_enter Tryz.func66, Tryz.ntmps66
  go_wp2_with fail
  refine CO.mono ?_
  rintro e1 w1 ⟨rfl, hq, hb⟩
  have HF := hide (FIN.out w1 hq hb)
  clear FIN CO hq hb
  go_wp2_with fail
  go_ret
  exact ⟨_, rfl, HF.out⟩

end Go.Proofs.YtgjpbekmkhanhaaGreat.QW

/-
  A line of waiters: those are passed over who wait no more; the next one; somebody who joins; somebody else.
-/
namespace Go.Proofs.YtgjpbekmkhanhaaGreat.QW
open Go.RowKit
set_option maxRecDepth 100000

/-- A waiter that lies in a row of its own. -/
def Bx3 (w : World) (B : Nat) (x : Wv) : Prop := w.heap[B]? = some (.cells #[.pointer x.tk, .int .i64 x.val, x.told] (141 : TypeId) (0, 0))

section
variable {w w' : World} {B : Nat} {x y : Wv} {S : Nat → Prop}
theorem Bx3.lt (h : Bx3 w B x) : B < w.heap.size := heap_lt h
theorem Bx3.tb (h : Bx3 w B x) (t : Tb S w w') (hs : ¬ S B) : Bx3 w' B x := (t.block B h.lt hs).trans h
theorem Bx3.below (h : Bx3 w B x) (hb : Below w.heap.size w w') : Bx3 w' B x := (hb.block B h.lt).trans h
theorem Bx3.cs (h : Bx3 w B x) : w.cell? ⟨B, 0, none⟩ = some (.pointer x.tk) ∧ w.cell? ⟨B, 1, none⟩ = some (.int .i64 x.val) ∧ w.cell? ⟨B, 2, none⟩ = some x.told := ⟨cell_of_row _ _ 0 _ _ _ h, cell_of_row _ _ 1 _ _ _ h, cell_of_row _ _ 2 _ _ _ h⟩
theorem Bx3.fs (h : Bx3 w B x) : w.frozen? ⟨B, 0, none⟩ = false ∧ w.frozen? ⟨B, 1, none⟩ = false ∧ w.frozen? ⟨B, 2, none⟩ = false := ⟨frozen_of_row _ _ 0 _ _ h, frozen_of_row _ _ 1 _ _ h, frozen_of_row _ _ 2 _ _ h⟩
def p3 (w : World) (B : Nat) (y : Wv) : World := ((w.setCell ⟨B, 0, none⟩ (.pointer y.tk)).setCell ⟨B, 1, none⟩ (.int .i64 y.val)).setCell ⟨B, 2, none⟩ y.told
theorem Bx3.put (h : Bx3 w B x) (y : Wv) : Bx3 (p3 w B y) B y := laid_row y h
theorem p3_tb (w : World) (B : Nat) (y : Wv) : Tb (fun k => k = B) w (p3 w B y) := st3_tb (k := 0) w y rfl
theorem box_zero (w : World) : ∃ A, Hid (A = w.alloc (.cells #[.pointer none, .int .i64 0, .nilFunc] (141 : TypeId))) ∧ Bx3 A w.heap.size wz ∧ Below w.heap.size w A := by
  obtain ⟨A, hA, bA, rA, _⟩ := zero_laid w
  exact ⟨A, hA, rA.out, bA.out⟩
end

/-- Before a round of passOver's loop: the line, its first one in a row of its own. -/
structure Po (w : World) (A : Nat → Bool) (L R : Nat) (D : Nat → Prop) (c : Int) (xs : List Wv) (wr : World) (b o : Value) (zs : List Wv) : Prop where
  ex : ∃ G N h B, b = .pointer (some ⟨B, 0, none⟩) ∧ o = .bool (atV zs 0).2 ∧ Bx3 wr B (atV zs 0).1 ∧ Lm wr A L R G N h c zs ∧ zs.filter (al A) = xs.filter (al A) ∧ zs.length ≤ xs.length ∧ Lx w D wr (Ld L R G) ∧ ¬ Ld L R G B

theorem measR {w : World} {A : Nat → Bool} {L R G N h : Nat} {c : Int} {xs : List Wv} (l : Lm w A L R G N h c xs) : ((w.cell? ⟨R, 3, none⟩).map fun v => (intOf v).toNat).getD 0 = xs.length := by
  have h3 : w.cell? ⟨R, 3, none⟩ = some (.int .i64 xs.length) := l.q.c 3
  rw [h3]
  simp [intOf]

/-- Behind At: its answer lies in a new row. -/
theorem po_laid {w w1 : World} {A : Nat → Bool} {L R G N h : Nat} {c : Int} {zs xs : List Wv} {D : Nat → Prop} {w0 : World} (l : Lm w1 A L R G N h c zs) (hf : zs.filter (al A) = xs.filter (al A)) (hl : zs.length ≤ xs.length) (hx : Lx w0 D w1 (Ld L R G)) (b1 : Below w1.heap.size w1 w) {B : Nat} {y : Wv} (hB : Bx3 w B y) (hn : w1.heap.size ≤ B) {u : World} (hu : u = p3 w B (atV zs 0).1) :
    Po w0 A L R D c xs u (.pointer (some ⟨B, 0, none⟩)) (.bool (atV zs 0).2) zs := by
  subst hu
  have t := p3_tb w B (atV zs 0).1
  have lw := l.below b1
  have hnl : ¬ Ld L R G B := fun e => by have := l.ld_lt e; omega
  have hkv : Kv w A (p3 w B (atV zs 0).1) A := Kv.tb A t (fun k f ht e => by
    subst e
    unfold Tkt at ht
    unfold Bx3 at hB
    rw [ht] at hB
    simp only [Option.some.injEq, Obj.cells.injEq] at hB
    exact absurd hB.2.1 (by decide))
  refine ⟨G, N, h, B, rfl, rfl, hB.put _, lw.keep t (fun k hk e => hnl (e ▸ hk)) hkv, hf, hl, ?_, hnl⟩
  have hz := hx.tb.size
  exact ⟨hx.tb.trans ((Tb.of_fresh (S := fun k => k = B) b1).trans t (fun _ _ h => h)) (fun i hi e => by omega), hx.dom⟩

set_option maxHeartbeats 2000000 in
theorem passover_any {w : World} {A : Nat → Bool} {L R G N h : Nat} {c : Int} {xs : List Wv} (l : Lm w A L R G N h c xs) :
    Calls Tryz.prog 155 #[.pointer (some ⟨L, 0, none⟩)] w fun e w' => e = .returned (.tuple #[]) ∧ ∃ G' N' h' zs, Lm w' A L R G' N' h' c zs ∧ zs.filter (al A) = xs.filter (al A) ∧ zs.length ≤ xs.length ∧ (∀ z r, zs = z :: r → al A z = true) ∧ Lx w (Ld L R G) w' (Ld L R G') := by
  have C0 := at_any l.q 0
  have c0 := l.l0
  obtain ⟨x0, hx0⟩ : ∃ x, x = (atV xs 0).1 := ⟨_, rfl⟩
  rw [← hx0] at C0
  have C0 : Calls Tryz.prog 156 #[.pointer (some ⟨R, 0, none⟩), .int .i64 0] w fun e w' => e = .returned (.tuple #[.agg #[.pointer x0.tk, .int .i64 x0.val, x0.told], .bool (atV xs 0).2]) ∧ Below w.heap.size w w' := C0
  have HST0 : ∀ (W : World) (a : Addr) (m : Mode), (store a x0.told m).run Tryz.prog W = stored Tryz.prog W a x0.told m := fun W a m => run_store Tryz.prog W a _ m x0.one
  have LAID : Hid (∀ w1, Below w.heap.size w w1 → ∃ A6 B6, Hid (A6 = w1.alloc (.cells #[.pointer none, .int .i64 0, .nilFunc] (141 : TypeId))) ∧ Hid (w1.heap.size = B6) ∧ ((A6.cell? ⟨B6, 0, none⟩ = some (.pointer none) ∧ A6.cell? ⟨B6, 1, none⟩ = some (.int .i64 0) ∧ A6.cell? ⟨B6, 2, none⟩ = some .nilFunc) ∧ A6.frozen? ⟨B6, 0, none⟩ = false ∧ A6.frozen? ⟨B6, 1, none⟩ = false ∧ A6.frozen? ⟨B6, 2, none⟩ = false) ∧ Hid (Po w A L R (Ld L R G) c xs (p3 A6 B6 x0) (.pointer (some ⟨B6, 0, none⟩)) (.bool (atV xs 0).2) xs)) := hide (fun w1 h1 => by
    obtain ⟨A6, hA6, hB6, b6⟩ := box_zero w1
    exact ⟨A6, _, hA6, hide rfl, ⟨hB6.cs, hB6.fs⟩, hide (po_laid (l.below h1) rfl (Nat.le_refl _) (Lx.fresh _ h1) b6 hB6 (Nat.le_refl _) (by rw [hx0]))⟩)
  obtain ⟨ok0, hok0⟩ : ∃ o, o = (atV xs 0).2 := ⟨_, rfl⟩
  rw [← hok0] at C0 LAID
  clear l hx0 hok0
  go_enter Tryz.func155, Tryz.ntmps155
  go_wp2_with fail
  refine C0.mono ?_
  rintro e w1 ⟨rfl, h1⟩
  obtain ⟨A6, B6, hA6, hB6, ⟨⟨a0, a1, a2⟩, f0, f1, f2⟩, HP⟩ := LAID.out w1 h1
  unfold p3 at HP
  clear LAID C0 h1
  go_wp2_with (rw [← hA6.out, hB6.out])
  go_loopw [2, 3] (fun b o wr => ∃ zs, Po w A L R (Ld L R G) c xs wr b o zs) (fun _ _ wr => ((wr.cell? ⟨R, 3, none⟩).map fun v => (intOf v).toNat).getD 0)
  case atStart => exact ⟨xs, HP.out⟩
  case round =>
    obtain ⟨zs, G1, N1, h1, B, rfl, rfl, hB, l1, hf, hl, hx, hn⟩ := hrel
    have d0 := l1.l0
    have hm := measR l1
    cases zs with
    | nil =>
      have e : atV [] 0 = (wz, false) := rfl
      rw [e] at hB ⊢
      have FIN := hide (⟨G1, N1, h1, [], l1, hf, hl, (fun z r h => by cases h), hx⟩ : ∃ G' N' h' zs, Lm wr A L R G' N' h' c zs ∧ zs.filter (al A) = xs.filter (al A) ∧ zs.length ≤ xs.length ∧ (∀ z r, zs = z :: r → al A z = true) ∧ Lx w (Ld L R G) wr (Ld L R G'))
      clear hB l1 hf hl hx hn HP
      go_wp2_with fail
      go_end0
      exact ⟨rfl, FIN.out⟩
    | cons z r =>
      have e : atV (z :: r) 0 = (z, true) := by simp [atV]
      rw [e] at hB ⊢
      obtain ⟨k, f, hz, hk, hfv⟩ := l1.tk z (by simp)
      have b0 : wr.cell? ⟨B, 0, none⟩ = some (.pointer (some ⟨k, 0, none⟩)) := by rw [← hz]; exact hB.cs.1
      have hal : al A z = A k := by unfold al; rw [hz]
      rcases hfv with ⟨hA, fn, rr, cc, rfl⟩ | ⟨hA, rfl⟩
      · have CF := fired_no hk
        have FIN := hide (⟨G1, N1, h1, z :: r, l1, hf, hl, (fun z' r' h => by cases h; rw [hal]; exact hA), hx⟩ : ∃ G' N' h' zs, Lm wr A L R G' N' h' c zs ∧ zs.filter (al A) = xs.filter (al A) ∧ zs.length ≤ xs.length ∧ (∀ z r, zs = z :: r → al A z = true) ∧ Lx w (Ld L R G) wr (Ld L R G'))
        clear hB l1 hf hl hx hn HP hk hz
        go_wp2_with fail
        refine CF.mono ?_
        rintro e w2 ⟨rfl, hw2⟩
        subst w2
        go_wp2_with fail
        go_end0
        exact ⟨rfl, FIN.out⟩
      · have CF := fired_yes hk
        have CP := pop_any l1.q
        rw [show wo (z :: r) 0 = r by simp [wo]] at CP
        have hf2 : r.filter (al A) = xs.filter (al A) := by rw [← hf]; simp [hal, hA]
        have STEP : Hid (∀ w2, Qt wr w2 R G1 r → Bx3 w2 B z ∧ ∃ A7 B7, Hid (A7 = w2.alloc (.cells #[.pointer none, .int .i64 0, .nilFunc] (141 : TypeId))) ∧ Hid (w2.heap.size = B7) ∧ ((A7.cell? ⟨B7, 0, none⟩ = some (.pointer none) ∧ A7.cell? ⟨B7, 1, none⟩ = some (.int .i64 0) ∧ A7.cell? ⟨B7, 2, none⟩ = some .nilFunc) ∧ A7.frozen? ⟨B7, 0, none⟩ = false ∧ A7.frozen? ⟨B7, 1, none⟩ = false ∧ A7.frozen? ⟨B7, 2, none⟩ = false) ∧ (p3 A7 B7 z).cell? ⟨L, 0, none⟩ = some (.pointer (some ⟨R, 0, none⟩)) ∧ Calls Tryz.prog 156 #[.pointer (some ⟨R, 0, none⟩), .int .i64 0] (p3 A7 B7 z) fun e w3 => e = .returned (.tuple #[.agg #[.pointer (atV r 0).1.tk, .int .i64 (atV r 0).1.val, (atV r 0).1.told], .bool (atV r 0).2]) ∧ ((w3.cell? ⟨B7, 0, none⟩ = some (.pointer z.tk) ∧ w3.cell? ⟨B7, 1, none⟩ = some (.int .i64 z.val) ∧ w3.cell? ⟨B7, 2, none⟩ = some z.told) ∧ w3.frozen? ⟨B7, 0, none⟩ = false ∧ w3.frozen? ⟨B7, 1, none⟩ = false ∧ w3.frozen? ⟨B7, 2, none⟩ = false) ∧ Hid (Po w A L R (Ld L R G) c xs (p3 w3 B7 (atV r 0).1) (.pointer (some ⟨B7, 0, none⟩)) (.bool (atV r 0).2) r) ∧ Hid (((((p3 w3 B7 (atV r 0).1).cell? ⟨R, 3, none⟩).map fun v => (intOf v).toNat).getD 0) = r.length)) := hide (fun w2 hq => by
          obtain ⟨G2, N2, h2, l2, x2⟩ := l1.turn hq (fun y hy => List.mem_cons_of_mem _ hy)
          obtain ⟨G3, N3, h3, q3, hg3, t3⟩ := hq
          have hB2 : Bx3 w2 B z := hB.tb t3 (fun e => hn (e.elim (fun e => .inr (.inl e)) (fun e => .inr (.inr e))))
          obtain ⟨A7, hA7, hB7, b7⟩ := box_zero w2
          have t7 := p3_tb A7 w2.heap.size z
          have bb : Below w2.heap.size w2 (p3 A7 w2.heap.size z) := ((b7.setCell (Nat.le_refl _) _).setCell (Nat.le_refl _) _).setCell (Nat.le_refl _) _
          have l4 := l2.below bb
          have hB4 := hB7.put z
          refine ⟨hB2, A7, _, hA7, hide rfl, ⟨hB7.cs, hB7.fs⟩, l4.l0, (at_any l4.q 0).mono ?_⟩
          rintro e w3 ⟨rfl, hb3⟩
          have l5 := l4.below hb3
          have hB5 := hB4.below hb3
          have hz3 := bb.size
          have bw : Below w2.heap.size w2 w3 := bb.trans (hb3.mono hz3)
          have P := po_laid (w := w3) (l := l2) hf2 (by simp at hl; omega) (hx.trans x2) bw hB5 (Nat.le_refl _) rfl
          refine ⟨rfl, ⟨hB5.cs, hB5.fs⟩, hide P, hide ?_⟩
          obtain ⟨G9, N9, h9, B9, _, _, _, l9, _⟩ := P.ex
          exact measR l9)
        have HST1 : ∀ (W : World) (a : Addr) (m : Mode), (store a z.told m).run Tryz.prog W = stored Tryz.prog W a z.told m := fun W a m => run_store Tryz.prog W a _ m z.one
        have HST2 : ∀ (W : World) (a : Addr) (m : Mode), (store a (atV r 0).1.told m).run Tryz.prog W = stored Tryz.prog W a (atV r 0).1.told m := fun W a m => run_store Tryz.prog W a _ m (atV r 0).1.one
        have hm2 := hide hm
        clear hB l1 hf hf2 hl hx hn HP hk hz hm
        unfold p3 at STEP
        generalize (atV r 0).1 = y at *
        generalize (atV r 0).2 = oy at *
        go_wp2_with fail
        refine CF.mono ?_
        rintro e w2 ⟨rfl, hw2⟩
        subst w2
        clear CF
        go_wp2_with fail
        refine CP.mono ?_
        rintro e w2 ⟨rfl, hq⟩
        obtain ⟨hB2, A7, B7, hA7, hB7, ⟨⟨a0, a1, a2⟩, f0, f1, f2⟩, g0, CA⟩ := STEP.out w2 hq
        obtain ⟨k0, k1, k2⟩ := hB2.cs
        clear STEP CP hq hB2
        go_wp2_with (rw [← hA7.out, hB7.out])
        refine CA.mono ?_
        rintro e w3 ⟨rfl, ⟨⟨m0, m1, m2⟩, n0, n1, n2⟩, HP2, HM⟩
        clear CA a0 a1 a2 f0 f1 f2 k0 k1 k2
        go_wp2_with fail
        go_roundw
        case rel => exact ⟨r, HP2.out⟩
        case measure => rw [HM.out, hm2.out]; simp

end Go.Proofs.YtgjpbekmkhanhaaGreat.QW

/-
  A line of waiters: the next one; somebody else; somebody joins.
-/
namespace Go.Proofs.YtgjpbekmkhanhaaGreat.QW
open Go.RowKit
set_option maxRecDepth 100000

section
variable {w : World} {A : Nat → Bool} {L R m : Nat} {ys : List Wv} {D : Nat → Prop}

/-- Behind passOver, of a line. -/
theorem passed (h : Ln w A L R m ys D) : Calls Tryz.prog 155 #[.pointer (some ⟨L, 0, none⟩)] w fun e w' => e = .returned (.tuple #[]) ∧ ∃ G N h c zs, Lm w' A L R G N h c zs ∧ zs.filter (al A) = ys ∧ zs.length ≤ m ∧ (∀ z r, zs = z :: r → al A z = true) ∧ Lx w D w' (Ld L R G) := by
  obtain ⟨G, N, hd, c, xs, l, e, hl, hD⟩ := h
  refine (passover_any l).mono ?_
  rintro e' w' ⟨rfl, G', N', h', zs, l', hf, hl', hz, hx⟩
  exact ⟨rfl, G', N', h', c, zs, l', hf.trans e, Nat.le_trans hl' hl, hz, ⟨hx.tb.mono (fun k _ hk => (hD k).2 hk), fun k hk => (hx.dom k hk).elim (fun h => .inl ((hD k).2 h)) .inr⟩⟩

/-- Who is next, if somebody waits. -/
def nx1 (ys : List Wv) : Wv := ys.headD wz

theorem next_any (h : Ln w A L R m ys D) :
    Calls Tryz.prog 125 #[.pointer (some ⟨L, 0, none⟩)] w fun e w' => e = .returned (.tuple #[.agg #[.pointer (nx1 ys).tk, .int .i64 (nx1 ys).val, (nx1 ys).told], .bool (!ys.isEmpty)]) ∧ ∃ D', Ln w' A L R m ys.tail D' ∧ Lx w D w' D' := by
  obtain ⟨A1, hA1, hB1, b1⟩ := box_zero w
  obtain ⟨B, hB⟩ : ∃ B, Hid (w.heap.size = B) := ⟨_, hide rfl⟩
  have hh := h.below b1
  have C := passed hh
  have hDl : ∀ k, D k → k < B := fun k hk => by rw [← hB.out]; exact h.lt hk
  rw [hB.out] at hB1
  have STEP : Hid (∀ w2 G N h' c zs, Lm w2 A L R G N h' c zs → zs.filter (al A) = ys → zs.length ≤ m → (∀ z r, zs = z :: r → al A z = true) → Lx A1 D w2 (Ld L R G) →
      w2.cell? ⟨L, 0, none⟩ = some (.pointer (some ⟨R, 0, none⟩)) ∧ Calls Tryz.prog 157 #[.pointer (some ⟨R, 0, none⟩)] w2 fun e w3 => e = .returned (.tuple #[.agg #[.pointer (nx1 ys).tk, .int .i64 (nx1 ys).val, (nx1 ys).told], .bool (!ys.isEmpty)]) ∧ ((w3.cell? ⟨B, 0, none⟩ = some (.pointer none) ∧ w3.cell? ⟨B, 1, none⟩ = some (.int .i64 0) ∧ w3.cell? ⟨B, 2, none⟩ = some .nilFunc) ∧ w3.frozen? ⟨B, 0, none⟩ = false ∧ w3.frozen? ⟨B, 1, none⟩ = false ∧ w3.frozen? ⟨B, 2, none⟩ = false) ∧ Hid ((p3 w3 B (nx1 ys)).heap[B]? = some (.cells #[.pointer (nx1 ys).tk, .int .i64 (nx1 ys).val, (nx1 ys).told] (141 : TypeId) (0, 0)) ∧ ∃ D', Ln (p3 w3 B (nx1 ys)) A L R m ys.tail D' ∧ Lx w D (p3 w3 B (nx1 ys)) D')) := hide (fun w2 G N h' c zs l2 hf hl hz hx => by
    refine ⟨l2.l0, ?_⟩
    have hv : wv (atV zs 0).1 = .agg #[.pointer (nx1 ys).tk, .int .i64 (nx1 ys).val, (nx1 ys).told] ∧ (atV zs 0).2 = (!ys.isEmpty) ∧ (wo zs 0).filter (al A) = ys.tail ∧ (wo zs 0).length ≤ m ∧ ∀ y ∈ wo zs 0, y ∈ zs := by
      cases zs with
      | nil =>
        subst hf
        exact ⟨rfl, rfl, rfl, by simp [wo], fun y hy => by simp [wo] at hy⟩
      | cons z r =>
        have ha := hz z r rfl
        simp only [List.filter_cons, ha, if_true] at hf
        subst hf
        refine ⟨by simp [atV, nx1, wv], by simp [atV], by simp [wo], by simp [wo] at hl ⊢; omega, fun y hy => ?_⟩
        simp only [wo, List.length_cons] at hy
        rw [if_pos ⟨Int.le_refl _, by omega⟩] at hy
        exact List.mem_cons_of_mem _ (by simpa using hy)
    obtain ⟨v1, v2, v3, v4, v5⟩ := hv
    have CP := pop_any l2.q
    rw [v1, v2] at CP
    refine CP.mono ?_
    rintro e w3 ⟨rfl, hq⟩
    obtain ⟨G3, N3, h3, l3, x3⟩ := l2.turn hq v5
    obtain ⟨G4, N4, h4, q4, hg4, t4⟩ := hq
    have hsz : B < A1.heap.size := hB1.lt
    have hs2 := hx.tb.size
    have hBn : ¬ Ld L R G B := fun e => by
      rcases hx.dom B e with h1 | h1
      · have := hDl B h1
        omega
      · omega
    have hB2 : Bx3 w2 B wz := hB1.tb hx.tb (fun e => by have := hDl B e; omega)
    have hB3 : Bx3 w3 B wz := hB2.tb x3.tb hBn
    have t := p3_tb w3 B (nx1 ys)
    have hBn3 : ¬ Ld L R G3 B := fun e => by
      rcases x3.dom B e with h1 | h1
      · exact hBn h1
      · omega
    have hkv : Kv w3 A (p3 w3 B (nx1 ys)) A := Kv.tb A t (fun k f ht e => by
      subst e
      unfold Tkt at ht
      unfold Bx3 at hB3
      rw [ht] at hB3
      simp only [Option.some.injEq, Obj.cells.injEq] at hB3
      exact absurd hB3.2.1 (by decide))
    refine ⟨rfl, ⟨hB3.cs, hB3.fs⟩, hide ⟨hB3.put _, Ld L R G3, ⟨G3, N3, h3, c, _, l3.keep t (fun k hk e => hBn3 (e ▸ hk)) hkv, v3, v4, fun _ => Iff.rfl⟩, ?_⟩⟩
    have X : Lx w D w3 (Ld L R G3) := ((Lx.fresh D b1).trans hx).trans x3
    exact ⟨X.tb.trans t (fun i hi e => by rw [hB.out] at hi; omega), X.dom⟩)
  have HST : ∀ (W : World) (a : Addr) (m : Mode), (store a (nx1 ys).told m).run Tryz.prog W = stored Tryz.prog W a (nx1 ys).told m := fun W a m => run_store Tryz.prog W a _ m (nx1 ys).one
  unfold p3 at STEP
  generalize nx1 ys = y at *
  generalize (!ys.isEmpty) = ob at *
  clear h hh b1 hB1 hDl
  go_enter Tryz.func125, Tryz.ntmps125
  go_wp2_with (rw [← hA1.out, hB.out])
  refine C.mono ?_
  rintro e w2 ⟨rfl, G, N, h', c, zs, l2, hf, hl, hz, hx⟩
  obtain ⟨d0, CP⟩ := STEP.out w2 G N h' c zs l2 hf hl hz hx
  clear STEP C l2 hf hl hz hx
  go_wp2_with fail
  refine CP.mono ?_
  rintro e w3 ⟨rfl, ⟨⟨b0, b1, b2⟩, g0, g1, g2⟩, FIN⟩
  clear CP
  go_wp2_with fail
  refine bodyPost_ret (v := .tuple #[.agg #[.pointer y.tk, .int .i64 y.val, y.told], .bool ob]) (results_cell_tmp Tryz.results125 _ _ B (141 : TypeId) _ (0, 0) _ _ rfl rfl FIN.out.1 Tryz.underlying141 rfl sizeE) rfl ?_
  exact ⟨rfl, FIN.out.2⟩

/-- Whether somebody waits, but for those with a ticket. -/
def oth (ys : List Wv) (kp : Option Addr) : Bool := ys.any fun y => decide (y.tk ≠ kp)

set_option maxHeartbeats 2000000 in
theorem other_any (h : Ln w A L R m ys D) {kp : Option Addr} (hkp : kp = none ∨ ∃ k g, kp = some ⟨k, 0, none⟩ ∧ Tkt w k g) :
    Calls Tryz.prog 124 #[.pointer (some ⟨L, 0, none⟩), .pointer kp] w fun e w' => e = .returned (.bool (oth ys kp)) ∧ ∃ D', Ln w' A L R m ys D' ∧ Lx w D w' D' := by
  have C := passed h
  have HK : Hid (∀ w2 G, Lx w D w2 (Ld L R G) → kp = none ∨ ∃ k g, kp = some ⟨k, 0, none⟩ ∧ Tkt w2 k g) := hide (fun w2 G hx => hkp.imp id (fun ⟨k, g, h1, h2⟩ => ⟨k, g, h1, h2.tb hx.tb (h.notk h2)⟩))
  clear h hkp
  go_enter Tryz.func124, Tryz.ntmps124
  go_wp2_with fail
  refine C.mono ?_
  rintro e w2 ⟨rfl, G, N, h', c, zs, l2, hf, hl, hz, hx⟩
  have d0 := l2.l0
  have CL := len_yes l2.q
  have hfew := l2.q.few
  unfold Mx at hfew
  have hK2 := HK.out w2 G hx
  obtain ⟨n, hn⟩ : ∃ n, Hid (n = zs.length) := ⟨_, hide rfl⟩
  rw [← hn.out] at CL hfew
  have FIN : Hid (∀ wr, Below w2.heap.size w2 wr → ∃ D', Ln wr A L R m ys D' ∧ Lx w D wr D') := hide (fun wr hb => ⟨Ld L R G, ⟨G, N, h', c, zs, l2.below hb, hf, hl, fun _ => Iff.rfl⟩, hx.trans (Lx.fresh _ hb)⟩)
  have HF := hide hf
  have HL2 := hide l2
  have HK2 := hide hK2
  clear C HK l2 hf hl hz hx hK2
  go_wp2_with fail
  refine CL.mono ?_
  rintro e w3 ⟨rfl, hw3⟩
  subst w3
  clear CL
  go_wp2_with fail
  go_loopw [15] (fun i wr => ∃ k : Nat, k ≤ n ∧ i = .int .i64 k ∧ Hid (oth ((zs.take k).filter (al A)) kp = false) ∧ Below w2.heap.size w2 wr) (fun i _ => n - (intOf i).toNat)
  case atStart => exact ⟨0, Nat.zero_le _, rfl, hide rfl, Below.refl _ _⟩
  case round =>
    obtain ⟨k, hk, rfl, ho, hb⟩ := hrel
    by_cases hlt : k < n
    · have lr := HL2.out.below hb
      have d1 := lr.l0
      have CA := at_any lr.q (k : Int)
      have hkz : k < zs.length := by rw [← hn.out]; exact hlt
      have hmem : zs[k] ∈ zs := List.getElem_mem hkz
      rw [show atV zs (k : Int) = (zs[k], true) by simp [atV, hkz, List.getD]] at CA
      have htk := lr.tk zs[k] hmem
      have hsn : (zs.take (k + 1)).filter (al A) = (zs.take k).filter (al A) ++ if al A zs[k] then [zs[k]] else [] := by
        rw [List.take_succ_eq_append_getElem hkz, List.filter_append]
        cases hh : al A zs[k] <;> simp [hh]
      have hin : al A zs[k] = true → zs[k] ∈ ys := fun ha => by rw [← HF.out]; exact List.mem_filter.2 ⟨hmem, ha⟩
      generalize zs[k] = z at *
      have CA : Calls Tryz.prog 156 #[.pointer (some ⟨R, 0, none⟩), .int .i64 k] wr fun e w' => e = .returned (.tuple #[.agg #[.pointer z.tk, .int .i64 z.val, z.told], .bool true]) ∧ Below wr.heap.size wr w' := CA
      have HST : ∀ (W : World) (a : Addr) (m : Mode), (store a z.told m).run Tryz.prog W = stored Tryz.prog W a z.told m := fun W a m => run_store Tryz.prog W a _ m z.one
      obtain ⟨j, f, hzt, hj, hfv⟩ := htk
      have hal : al A z = A j := by unfold al; rw [hzt]
      have LAID : Hid (∀ w4, Below wr.heap.size wr w4 → ∃ A6 B6, Hid (A6 = w4.alloc (.cells #[.pointer none, .int .i64 0, .nilFunc] (141 : TypeId))) ∧ Hid (w4.heap.size = B6) ∧ ((A6.cell? ⟨B6, 0, none⟩ = some (.pointer none) ∧ A6.cell? ⟨B6, 1, none⟩ = some (.int .i64 0) ∧ A6.cell? ⟨B6, 2, none⟩ = some .nilFunc) ∧ A6.frozen? ⟨B6, 0, none⟩ = false ∧ A6.frozen? ⟨B6, 1, none⟩ = false ∧ A6.frozen? ⟨B6, 2, none⟩ = false) ∧ (p3 A6 B6 z).cell? ⟨B6, 0, none⟩ = some (.pointer (some ⟨j, 0, none⟩)) ∧ Hid (Below w2.heap.size w2 (p3 A6 B6 z)) ∧ (binOp .neq (69 : TypeId) (.pointer (some ⟨j, 0, none⟩)) (.pointer kp)).run Tryz.prog (p3 A6 B6 z) = .ok (.bool (decide ((some ⟨j, 0, none⟩ : Option Addr) ≠ kp))) (p3 A6 B6 z) ∧ Tkt (p3 A6 B6 z) j f) := hide (fun w4 h4 => by
        obtain ⟨A6, hA6, hB6, b6⟩ := box_zero w4
        have b7 : Below w4.heap.size w4 (p3 A6 w4.heap.size z) := ((b6.setCell (Nat.le_refl _) _).setCell (Nat.le_refl _) _).setCell (Nat.le_refl _) _
        have b8 := hb.trans ((h4.trans (b7.mono h4.size)).mono hb.size)
        have hjj : Tkt (p3 A6 w4.heap.size z) j f := (hj.below h4).below b7
        have hkk : kp = none ∨ ∃ k g, kp = some ⟨k, 0, none⟩ ∧ Tkt (p3 A6 w4.heap.size z) k g := HK2.out.imp id (fun ⟨k, g, h1, h2⟩ => ⟨k, g, h1, h2.below b8⟩)
        exact ⟨A6, _, hA6, hide rfl, ⟨hB6.cs, hB6.fs⟩, by rw [(hB6.put z).cs.1, hzt], hide b8, tk_neq hjj hkk, hjj⟩)
      have HB := hide hb
      unfold p3 at LAID
      by_cases hne : (some ⟨j, 0, none⟩ : Option Addr) ≠ kp
      · rw [show decide ((some ⟨j, 0, none⟩ : Option Addr) ≠ kp) = true by simpa using hne] at LAID
        rcases hfv with ⟨hA, fn, rr, cc, rfl⟩ | ⟨hA, rfl⟩
        · have HO : oth ys kp = true := by
            unfold oth
            rw [List.any_eq_true]
            exact ⟨z, hin (by rw [hal]; exact hA), by rw [hzt]; simpa using hne⟩
          have HO := hide HO
          clear lr hmem hsn hin hj ho hb hkz hzt hal
          go_wp2_with fail
          refine CA.mono ?_
          rintro e w4 ⟨rfl, h4⟩
          obtain ⟨A6, B6, hA6, hB6, ⟨⟨a0, a1, a2⟩, f0, f1, f2⟩, e0, hb8, he, hT⟩ := LAID.out w4 h4
          have CF := fired_no hT
          clear LAID CA h4 hT
          go_wp2_with (rw [← hA6.out, hB6.out])
          refine CF.mono ?_
          rintro e w5 ⟨rfl, hw5⟩
          subst w5
          go_wp2_with fail
          go_ret
          exact ⟨by rw [HO.out]; rfl, FIN.out _ hb8.out⟩
        · have HN : Hid (oth ((zs.take (k + 1)).filter (al A)) kp = false) := hide (by rw [hsn, hal, hA]; simpa using ho.out)
          clear lr hmem hsn hin hj ho hb hkz hzt hal
          go_wp2_with fail
          refine CA.mono ?_
          rintro e w4 ⟨rfl, h4⟩
          obtain ⟨A6, B6, hA6, hB6, ⟨⟨a0, a1, a2⟩, f0, f1, f2⟩, e0, hb8, he, hT⟩ := LAID.out w4 h4
          have CF := fired_yes hT
          clear LAID CA h4 hT
          go_wp2_with (rw [← hA6.out, hB6.out])
          refine CF.mono ?_
          rintro e w5 ⟨rfl, hw5⟩
          subst w5
          go_wp2_with fail
          go_roundw
          case rel => exact ⟨k + 1, by omega, by go_num, HN, hb8.out⟩
          case measure => simp [intOf]; omega
      · rw [show decide ((some ⟨j, 0, none⟩ : Option Addr) ≠ kp) = false by simpa using hne] at LAID
        have HN : Hid (oth ((zs.take (k + 1)).filter (al A)) kp = false) := hide (by
          rw [hsn]
          have h1 := ho.out
          unfold oth at h1 ⊢
          rw [List.any_append, h1]
          have hq : z.tk = kp := by rw [hzt]; exact Classical.not_not.1 hne
          cases al A z <;> simp [hq])
        clear lr hmem hsn hin hj ho hb hkz hzt hal
        go_wp2_with fail
        refine CA.mono ?_
        rintro e w4 ⟨rfl, h4⟩
        obtain ⟨A6, B6, hA6, hB6, ⟨⟨a0, a1, a2⟩, f0, f1, f2⟩, e0, hb8, he, hT⟩ := LAID.out w4 h4
        clear LAID CA h4 hT
        go_wp2_with (rw [← hA6.out, hB6.out])
        go_roundw
        case rel => exact ⟨k + 1, by omega, by go_num, HN, hb8.out⟩
        case measure => simp [intOf]; omega
    · obtain rfl : k = n := by omega
      have HO : oth ys kp = false := by
        rw [← HF.out, ← ho.out, List.take_of_length_le (by rw [hn.out]; exact Nat.le_refl _)]
      have HO := hide HO
      have HB := hide hb
      clear ho hb
      go_wp2_with fail
      go_ret
      exact ⟨by rw [HO.out]; rfl, FIN.out _ HB.out⟩
end

end Go.Proofs.YtgjpbekmkhanhaaGreat.QW

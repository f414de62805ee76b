/-
  Who waits with a ticket: WaitRecv, Forget; what is tried.
-/
import Derived.Test.YtgjpbekmkhanhaaGreatMx2fdd7107
import Derived.Test.YtgjpbekmkhanhaaGreatMx60dabd00
namespace Go.Proofs.YtgjpbekmkhanhaaGreat.CH
open Go.RowKit QW
set_option maxRecDepth 100000
set_option linter.unusedSimpArgs false
set_option linter.unusedVariables false

section
variable {w : World} {A : Nat → Bool} {z : Zc} {m : Nat} {s : Cs} {D : Nat → Prop} {k : Nat}

theorem Ch.rjoin (h : Ch w A z m s D) (hm : m + 1 < Mx) (x : Wv) (hx : Tkv w A x) (ha : al A x = true) :
    Calls Tryz.prog 87 #[.pointer (some ⟨z.RL, 0, none⟩), .agg #[.pointer x.tk, .int .i64 x.val, x.told]] w fun e w' => e = .returned (.tuple #[]) ∧ ∃ D', Ch w' A z (m + 1) { s with rcv := s.rcv ++ [x] } D' ∧ Lx w D w' D' := by
  obtain ⟨BG, DS, DR, c, hd⟩ := h
  refine (join_any c.rl hm x hx ha).mono ?_
  rintro e w' ⟨rfl, DR', l, x'⟩
  exact ⟨rfl, _, (c.rline (Nat.le_succ m) l x').ch, lx_of hd x'.rof⟩
theorem Ch.sjoin (h : Ch w A z m s D) (hm : m + 1 < Mx) (x : Wv) (hx : Tkv w A x) (ha : al A x = true) :
    Calls Tryz.prog 87 #[.pointer (some ⟨z.SL, 0, none⟩), .agg #[.pointer x.tk, .int .i64 x.val, x.told]] w fun e w' => e = .returned (.tuple #[]) ∧ ∃ D', Ch w' A z (m + 1) { s with snd := s.snd ++ [x] } D' ∧ Lx w D w' D' := by
  obtain ⟨BG, DS, DR, c, hd⟩ := h
  refine (join_any c.sl hm x hx ha).mono ?_
  rintro e w' ⟨rfl, DS', l, x'⟩
  exact ⟨rfl, _, (c.sline (Nat.le_succ m) l x').ch, lx_of hd x'.sof⟩

/-- Without a ticket's. -/
def wo (k : Nat) (ys : List Wv) : List Wv := ys.filter fun x => decide (x.tk ≠ some ⟨k, 0, none⟩)
def cnt (k : Nat) (ys : List Wv) : Nat := ys.countP fun x => decide (x.tk = some ⟨k, 0, none⟩)
theorem Ch.rforget (h : Ch w A z m s D) {f : Value} (hk : Tkt w k f) :
    Calls Tryz.prog 85 #[.pointer (some ⟨z.RL, 0, none⟩), .pointer (some ⟨k, 0, none⟩)] w fun e w' => ∃ n : Nat, e = .returned (.int .i64 n) ∧ n ≤ m ∧ (A k = true → n = cnt k s.rcv) ∧ ∃ D', Ch w' A z m { s with rcv := wo k s.rcv } D' ∧ Lx w D w' D' := by
  obtain ⟨BG, DS, DR, c, hd⟩ := h
  refine (forget_any c.rl hk).mono ?_
  rintro e w' ⟨n, rfl, hn, hc, DR', l, x'⟩
  exact ⟨n, rfl, hn, hc, _, (c.rline (Nat.le_refl m) l x').ch, lx_of hd x'.rof⟩
theorem Ch.sforget (h : Ch w A z m s D) {f : Value} (hk : Tkt w k f) :
    Calls Tryz.prog 85 #[.pointer (some ⟨z.SL, 0, none⟩), .pointer (some ⟨k, 0, none⟩)] w fun e w' => ∃ n : Nat, e = .returned (.int .i64 n) ∧ n ≤ m ∧ (A k = true → n = cnt k s.snd) ∧ ∃ D', Ch w' A z m { s with snd := wo k s.snd } D' ∧ Lx w D w' D' := by
  obtain ⟨BG, DS, DR, c, hd⟩ := h
  refine (forget_any c.sl hk).mono ?_
  rintro e w' ⟨n, rfl, hn, hc, DS', l, x'⟩
  exact ⟨n, rfl, hn, hc, _, (c.sline (Nat.le_refl m) l x').ch, lx_of hd x'.sof⟩

/-- A channel's blocks are not a ticket's. -/
theorem Lx.tkt {w' : World} {D' : Nat → Prop} {f : Value} (x : Lx w D w' D') (hk : Tkt w k f) (h : Ch w A z m s D) : Tkt w' k f := hk.tb x.tb (h.notk hk)

/-- A tried send: whether it can be, is asked first. -/
theorem trySend_gen {C : Nat} {v : Int} (b ok : Bool) (I Ψ : World → Prop) (CM : Calls Tryz.prog 79 #[.pointer (some ⟨C, 0, none⟩)] w fun e w' => e = .returned (.bool true) ∧ w' = w)
    (CS : Calls Tryz.prog 70 #[.pointer (some ⟨C, 0, none⟩), .pointer none] w fun e V => e = .returned (.bool b) ∧ I V)
    (CN : b = true → ∀ V, I V → Calls Tryz.prog 71 #[.pointer (some ⟨C, 0, none⟩), .int .i64 v] V fun e w' => e = .returned (.bool ok) ∧ Ψ w') (CF : b = false → ∀ V, I V → Ψ V) :
    Calls Tryz.prog 29 #[.pointer (some ⟨C, 0, none⟩), .int .i64 v] w fun e w' => e = .returned (.tuple #[.bool (if b then ok else false), .bool b]) ∧ Ψ w' := by
  have HN := hide CN
  have HF := hide CF
  clear CN CF
  cases b with
  | true =>
    simp only [if_true]
    go_enter Tryz.func29, Tryz.ntmps29
    go_wp2_with fail
    refine CM.mono ?_
    rintro e w1 ⟨rfl, hw1⟩
    subst w1
    go_wp2_with fail
    refine CS.mono ?_
    rintro e V ⟨rfl, hI⟩
    have CN' := HN.out (by first | rfl | trivial) V hI
    clear HN HF CS CM hI
    go_wp2_with fail
    refine CN'.mono ?_
    rintro e w2 ⟨rfl, FIN⟩
    have FIN' := hide FIN
    clear FIN
    go_wp2_with fail
    go_ret2
    exact ⟨rfl, FIN'.out⟩
  | false =>
    simp only [Bool.false_eq_true, if_false]
    go_enter Tryz.func29, Tryz.ntmps29
    go_wp2_with fail
    refine CM.mono ?_
    rintro e w1 ⟨rfl, hw1⟩
    subst w1
    go_wp2_with fail
    refine CS.mono ?_
    rintro e V ⟨rfl, hI⟩
    have FIN' := hide (HF.out (by first | rfl | trivial) V hI)
    clear HN HF CS CM hI
    go_wp2_with fail
    go_ret2
    exact ⟨rfl, FIN'.out⟩

/-- Somebody waits to receive. -/
theorem waitRecv_ok {fn g : Fn} {r1 c1 r2 c2 : Array Value} (h : Ch w A z m s D) (hm : m + 1 < Mx) (hk : Tkt w k (.func fn r1 c1)) (ha : A k = true) (hcan : canR s (some ⟨k, 0, none⟩) = false) :
    Calls Tryz.prog 38 #[.pointer (some ⟨z.C, 0, none⟩), .pointer (some ⟨k, 0, none⟩), .func g r2 c2] w fun e w' => e = .returned (.int .i64 0) ∧ ∃ D', Ch w' A z (m + 1) { s with rcv := s.rcv ++ [⟨some ⟨k, 0, none⟩, 0, .func g r2 c2, rfl⟩] } D' ∧ Lx w D w' D' := by
  have CM := cmade_yes h
  have CT := tmade_yes hk
  have CF := fired_no hk
  have CC := canRecv_any h (kp := some ⟨k, 0, none⟩) (.inr ⟨k, _, rfl, hk⟩)
  rw [hcan] at CC
  have HJ : Hid (∀ V D', Ch V A z m s D' → Lx w D V D' → V.cell? ⟨z.C, 6, none⟩ = some (.pointer (some ⟨z.RL, 0, none⟩)) ∧ Calls Tryz.prog 87 #[.pointer (some ⟨z.RL, 0, none⟩), .agg #[.pointer (some ⟨k, 0, none⟩), .int .i64 0, .func g r2 c2]] V fun e w' => e = .returned (.tuple #[]) ∧ Hid (∃ D', Ch w' A z (m + 1) { s with rcv := s.rcv ++ [⟨some ⟨k, 0, none⟩, 0, .func g r2 c2, rfl⟩] } D' ∧ Lx w D w' D')) := hide (fun V D' hV x => by
    have hkV := Lx.tkt x hk h
    refine ⟨hV.cs.2.2.2.2.2, (hV.rjoin hm ⟨some ⟨k, 0, none⟩, 0, .func g r2 c2, rfl⟩ ⟨k, _, rfl, hkV, .inl ⟨ha, _, _, _, rfl⟩⟩ ha).mono ?_⟩
    rintro e w' ⟨rfl, D2, h2, x2⟩
    exact ⟨rfl, hide ⟨D2, h2, x.trans x2⟩⟩)
  have he : (binOp .eql (68 : TypeId) (.func g r2 c2) .nilFunc).run Tryz.prog w = .ok (.bool false) w := eql_func_no g r2 c2 Tryz.underlying68
  clear h hk hcan
  go_enter Tryz.func38, Tryz.ntmps38
  go_wp2_with fail
  refine CM.mono ?_
  rintro e w1 ⟨rfl, hw1⟩
  subst w1
  go_wp2_with fail
  refine CT.mono ?_
  rintro e w1 ⟨rfl, hw1⟩
  subst w1
  go_wp2_with fail
  refine CF.mono ?_
  rintro e w1 ⟨rfl, hw1⟩
  subst w1
  go_wp2_with fail
  refine CC.mono ?_
  rintro e V ⟨rfl, D1, h1, x1⟩
  obtain ⟨c6, CJ⟩ := HJ.out V D1 h1 x1
  clear HJ CM CT CF CC h1 x1 he
  go_wp2_with fail
  refine CJ.mono ?_
  rintro e w2 ⟨rfl, FIN⟩
  go_wp2_with fail
  go_ret
  exact ⟨rfl, FIN.out⟩

/-- Somebody waits to send: told by a function that hands on. -/
theorem waitSend_ok {v : Int} {fn g : Fn} {r1 c1 r2 c2 : Array Value} (h : Ch w A z m s D) (hm : m + 1 < Mx) (hk : Tkt w k (.func fn r1 c1)) (ha : A k = true) (hcan : canS z s (some ⟨k, 0, none⟩) = false) :
    Calls Tryz.prog 39 #[.pointer (some ⟨z.C, 0, none⟩), .int .i64 v, .pointer (some ⟨k, 0, none⟩), .func g r2 c2] w fun e w' => e = .returned (.int .i64 0) ∧ w'.heap[w.heap.size]? = some (.cells #[.func g r2 c2] (67 : TypeId) (0, 0)) ∧ ∃ D', Ch w' A z (m + 1) { s with snd := s.snd ++ [⟨some ⟨k, 0, none⟩, v, .func (.func 88) #[] #[.pointer (some ⟨w.heap.size, 0, none⟩)], rfl⟩] } D' ∧ Lx w D w' D' ∧ ¬ D' w.heap.size := by
  obtain ⟨W, hW⟩ : ∃ W, Hid (W = w.alloc (.cells #[.func g r2 c2] (67 : TypeId))) := ⟨_, hide rfl⟩
  have bW : Below w.heap.size w W := by rw [hW.out]; exact (Below.refl _ w).alloc (Nat.le_refl _) _
  have hB : W.heap[w.heap.size]? = some (.cells #[.func g r2 c2] (67 : TypeId) (0, 0)) := by rw [hW.out]; exact heap_alloc_new w _
  obtain ⟨B, hBB⟩ : ∃ B, Hid (w.heap.size = B) := ⟨_, hide rfl⟩
  rw [hBB.out] at hB
  have hW1 := h.below bW
  have hnD : ¬ D B := fun e => by have := h.lt e; have := hBB.out; omega
  have hkW := hk.below bW
  have CM := cmade_yes hW1
  have CT := tmade_yes hkW
  have CF := fired_no hkW
  have CC := canSend_any hW1 (kp := some ⟨k, 0, none⟩) (.inr ⟨k, _, rfl, hkW⟩)
  rw [hcan] at CC
  have hxW : Lx w D W D := Lx.fresh D bW
  have key : ∀ {V : World} {E : Nat → Prop}, Lx W D V E → V.heap[B]? = some (.cells #[.func g r2 c2] (67 : TypeId) (0, 0)) ∧ ¬ E B := fun x => ⟨(x.tb.block B (heap_lt hB) hnD).trans hB, fun e => (x.dom B e).elim hnD (fun h' => by have := heap_lt hB; omega)⟩
  have HJ : Hid (∀ V D', Ch V A z m s D' → Lx W D V D' → V.cell? ⟨z.C, 5, none⟩ = some (.pointer (some ⟨z.SL, 0, none⟩)) ∧ Calls Tryz.prog 87 #[.pointer (some ⟨z.SL, 0, none⟩), .agg #[.pointer (some ⟨k, 0, none⟩), .int .i64 v, .func (.func 88) #[] #[.pointer (some ⟨B, 0, none⟩)]]] V fun e w' => e = .returned (.tuple #[]) ∧ Hid (w'.heap[w.heap.size]? = some (.cells #[.func g r2 c2] (67 : TypeId) (0, 0)) ∧ ∃ D', Ch w' A z (m + 1) { s with snd := s.snd ++ [⟨some ⟨k, 0, none⟩, v, .func (.func 88) #[] #[.pointer (some ⟨w.heap.size, 0, none⟩)], rfl⟩] } D' ∧ Lx w D w' D' ∧ ¬ D' w.heap.size)) := hide (fun V D' hV x => by
    have hkV := Lx.tkt x hkW hW1
    refine ⟨hV.cs.2.2.2.2.1, (hV.sjoin hm ⟨some ⟨k, 0, none⟩, v, .func (.func 88) #[] #[.pointer (some ⟨B, 0, none⟩)], rfl⟩ ⟨k, _, rfl, hkV, .inl ⟨ha, _, _, _, rfl⟩⟩ ha).mono ?_⟩
    rintro e w' ⟨rfl, D2, h2, x2⟩
    obtain ⟨k1, k2⟩ := key (x.trans x2)
    rw [hBB.out]
    exact ⟨rfl, hide ⟨k1, D2, h2, hxW.trans (x.trans x2), k2⟩⟩)
  have he : (binOp .eql (67 : TypeId) (.func g r2 c2) .nilFunc).run Tryz.prog W = .ok (.bool false) W := eql_func_no g r2 c2 Tryz.underlying67
  have cB := cell_of_row _ _ 0 _ _ _ hB
  clear h hk hcan hW1 hkW key hxW hnD hB bW
  go_enter Tryz.func39, Tryz.ntmps39
  go_wp2_with (rw [← hW.out, hBB.out])
  refine CM.mono ?_
  rintro e w1 ⟨rfl, hw1⟩
  subst w1
  go_wp2_with fail
  refine CT.mono ?_
  rintro e w1 ⟨rfl, hw1⟩
  subst w1
  go_wp2_with fail
  refine CF.mono ?_
  rintro e w1 ⟨rfl, hw1⟩
  subst w1
  go_wp2_with fail
  refine CC.mono ?_
  rintro e V ⟨rfl, D1, h1, x1⟩
  obtain ⟨c6, CJ⟩ := HJ.out V D1 h1 x1
  clear HJ CM CT CF CC h1 x1 he
  go_wp2_with fail
  refine CJ.mono ?_
  rintro e w2 ⟨rfl, FIN⟩
  go_wp2_with fail
  go_ret
  exact ⟨rfl, FIN.out⟩

/-- In the midst of Forget: which sides have been looked through. -/
def Cf (w : World) (A : Nat → Bool) (z : Zc) (m k : Nat) (s : Cs) (D : Nat → Prop) (f : Value) (a b : Bool) (V : World) : Prop :=
  ∃ D', Ch V A z m { s with snd := if a then wo k s.snd else s.snd, rcv := if b then wo k s.rcv else s.rcv } D' ∧ Lx w D V D' ∧ Tkt V k f

theorem Cf.cs {f : Value} {a b : Bool} {V : World} (h : Cf w A z m k s D f a b V) : V.cell? ⟨z.C, 5, none⟩ = some (.pointer (some ⟨z.SL, 0, none⟩)) ∧ V.cell? ⟨z.C, 6, none⟩ = some (.pointer (some ⟨z.RL, 0, none⟩)) := by
  obtain ⟨D', h1, _, _⟩ := h
  exact ⟨h1.cs.2.2.2.2.1, h1.cs.2.2.2.2.2⟩
theorem Cf.below {f : Value} {a b : Bool} {V V' : World} (h : Cf w A z m k s D f a b V) (hb : Below V.heap.size V V') : Cf w A z m k s D f a b V' := by
  obtain ⟨D', h1, h2, h3⟩ := h
  exact ⟨D', h1.below hb, h2.trans (Lx.fresh D' hb), h3.below hb⟩
theorem Cf.sn {f : Value} {b : Bool} {V : World} (h : Cf w A z m k s D f false b V) :
    Calls Tryz.prog 85 #[.pointer (some ⟨z.SL, 0, none⟩), .pointer (some ⟨k, 0, none⟩)] V fun e w' => ∃ n : Nat, e = .returned (.int .i64 n) ∧ n ≤ m ∧ (A k = true → n = cnt k s.snd) ∧ Cf w A z m k s D f true b w' := by
  obtain ⟨D', h1, h2, h3⟩ := h
  refine (h1.sforget h3).mono ?_
  rintro e w' ⟨n, rfl, hn, hc, D2, h4, x⟩
  exact ⟨n, rfl, hn, hc, D2, h4, h2.trans x, h3.tb x.tb (h1.notk h3)⟩
theorem Cf.rc {f : Value} {a : Bool} {V : World} (h : Cf w A z m k s D f a false V) :
    Calls Tryz.prog 85 #[.pointer (some ⟨z.RL, 0, none⟩), .pointer (some ⟨k, 0, none⟩)] V fun e w' => ∃ n : Nat, e = .returned (.int .i64 n) ∧ n ≤ m ∧ (A k = true → n = cnt k s.rcv) ∧ Cf w A z m k s D f a true w' := by
  obtain ⟨D', h1, h2, h3⟩ := h
  refine (h1.rforget h3).mono ?_
  rintro e w' ⟨n, rfl, hn, hc, D2, h4, x⟩
  exact ⟨n, rfl, hn, hc, D2, h4, h2.trans x, h3.tb x.tb (h1.notk h3)⟩

/-- Who waits with a ticket is forgotten. -/
theorem forget_ch {f : Value} (h : Ch w A z m s D) (hm : m ≤ 1000000) (hk : Tkt w k f) (hf : (A k = true ∧ ∃ fn r c, f = .func fn r c) ∨ (A k = false ∧ f = .nilFunc)) :
    Calls Tryz.prog 37 #[.pointer (some ⟨z.C, 0, none⟩), .pointer (some ⟨k, 0, none⟩)] w fun e w' => e = .returned (.int .i64 (if A k then (cnt k s.snd : Int) + (cnt k s.rcv : Int) else 0)) ∧ ∃ D', Ch w' A z m { s with snd := wo k s.snd, rcv := wo k s.rcv } D' ∧ Lx w D w' D' := by
  have CM := cmade_yes h
  have CT := tmade_yes hk
  have h0 : Cf w A z m k s D f false false w := ⟨D, h, Lx.refl w D, hk⟩
  have hc0 := h0.cs
  have hd0 := h0.below (Below.refl _ w).drew
  have FIN : Hid (∀ V n1 n2, Cf w A z m k s D f true true V → (A k = true → n1 = cnt k s.snd) → (A k = true → n2 = cnt k s.rcv) → ∃ b : Bool, b = !A k ∧ Calls Tryz.prog 86 #[.pointer (some ⟨k, 0, none⟩)] V fun e w' => e = .returned (.bool b) ∧ w' = V ∧ Hid ((if A k then ((n1 : Nat) : Int) + ((n2 : Nat) : Int) else 0) = (if A k then (cnt k s.snd : Int) + (cnt k s.rcv : Int) else 0) ∧ ∃ D', Ch w' A z m { s with snd := wo k s.snd, rcv := wo k s.rcv } D' ∧ Lx w D w' D')) := hide (fun V n1 n2 hV e1 e2 => by
    obtain ⟨D', q1, q2, q3⟩ := hV
    refine ⟨!A k, rfl, ?_⟩
    rcases hf with ⟨ha, fn, r, c, rfl⟩ | ⟨ha, rfl⟩
    · rw [ha]
      refine (fired_no q3).mono ?_
      rintro e w' ⟨rfl, rfl⟩
      exact ⟨rfl, rfl, hide ⟨by rw [e1 ha, e2 ha], D', q1, q2⟩⟩
    · rw [ha]
      refine (fired_yes q3).mono ?_
      rintro e w' ⟨rfl, rfl⟩
      exact ⟨rfl, rfl, hide ⟨rfl, D', q1, q2⟩⟩)
  clear h hk hf h0
  go_enter Tryz.func37, Tryz.ntmps37
  go_wp2_with fail
  refine CM.mono ?_
  rintro e w1 ⟨rfl, hw1⟩
  subst w1
  go_wp2_with fail
  refine CT.mono ?_
  rintro e w1 ⟨rfl, hw1⟩
  subst w1
  clear CM CT
  go_wp2_with fail
  go_region_held3 (fun V => V.cell? ⟨z.C, 5, none⟩ = some (.pointer (some ⟨z.SL, 0, none⟩)) ∧ V.cell? ⟨z.C, 6, none⟩ = some (.pointer (some ⟨z.RL, 0, none⟩)))
    (first | exact hc0 | exact hq.cs)
    (first
      | (go_at_call_of 85 (Value.pointer (some (Addr.mk z.SL 0 none))); refine (Cf.sn (by assumption)).mono ?_; rintro e W ⟨n1, rfl, hn1, hs1, hq⟩)
      | (go_at_call_of 85 (Value.pointer (some (Addr.mk z.RL 0 none))); refine (Cf.rc (by assumption)).mono ?_; rintro e W ⟨n2, rfl, hn2, hs2, hq⟩))
  all_goals
    obtain ⟨b, hb, CF⟩ := FIN.out _ n1 n2 hq hs1 hs2
    have hw : IntKind.i64.wrap ((n1 : Int) + (n2 : Int)) = (n1 : Int) + (n2 : Int) := by rw [IntKind.wrap_i64]; omega
    rw [hw]
    clear FIN hq hs1 hs2 hd0 hc0
    cases hAk : A k with
    | true =>
      rw [hAk] at hb
      subst hb
      simp only [hAk, if_true, Bool.not_true] at CF ⊢
      go_wp2_with fail
      refine CF.mono ?_
      rintro e w1 ⟨rfl, rfl, HF⟩
      go_wp2_with fail
      go_ret
      obtain ⟨h1, h2⟩ := HF.out
      rw [← h1]
      exact ⟨rfl, h2⟩
    | false =>
      rw [hAk] at hb
      subst hb
      simp only [hAk, Bool.false_eq_true, if_false, Bool.not_false] at CF ⊢
      go_wp2_with fail
      refine CF.mono ?_
      rintro e w1 ⟨rfl, rfl, HF⟩
      go_wp2_with fail
      all_goals
        go_ret
        exact ⟨rfl, HF.out.2⟩

/-- Who may not wait: his ticket has fired, or there is nothing to wait for. -/
theorem waitRecv_arg {f : Value} {g : Fn} {r2 c2 : Array Value} (h : Ch w A z m s D) (hk : Tkt w k f) (hf : f = .nilFunc ∨ (∃ fn r c, f = .func fn r c) ∧ canR s (some ⟨k, 0, none⟩) = true) :
    Calls Tryz.prog 38 #[.pointer (some ⟨z.C, 0, none⟩), .pointer (some ⟨k, 0, none⟩), .func g r2 c2] w fun e w' => e = .returned (.int .i64 2) ∧ ∃ D', Ch w' A z m s D' ∧ Lx w D w' D' := by
  have CM := cmade_yes h
  have CT := tmade_yes hk
  have he : (binOp .eql (68 : TypeId) (.func g r2 c2) .nilFunc).run Tryz.prog w = .ok (.bool false) w := eql_func_no g r2 c2 Tryz.underlying68
  have h0 : Hid (∃ D', Ch w A z m s D' ∧ Lx w D w D') := hide ⟨D, h, Lx.refl w D⟩
  rcases hf with rfl | ⟨⟨fn, r, cc, rfl⟩, hcan⟩
  · have CF := fired_yes hk
    clear h hk
    go_enter Tryz.func38, Tryz.ntmps38
    go_wp2_with fail
    refine CM.mono ?_
    rintro e w1 ⟨rfl, hw1⟩
    subst w1
    go_wp2_with fail
    refine CT.mono ?_
    rintro e w1 ⟨rfl, hw1⟩
    subst w1
    go_wp2_with fail
    refine CF.mono ?_
    rintro e w1 ⟨rfl, hw1⟩
    subst w1
    go_wp2_with fail
    go_ret
    exact ⟨rfl, h0.out⟩
  · have CF := fired_no hk
    have CC := canRecv_any h (kp := some ⟨k, 0, none⟩) (.inr ⟨k, _, rfl, hk⟩)
    rw [hcan] at CC
    clear h hk hcan h0
    go_enter Tryz.func38, Tryz.ntmps38
    go_wp2_with fail
    refine CM.mono ?_
    rintro e w1 ⟨rfl, hw1⟩
    subst w1
    go_wp2_with fail
    refine CT.mono ?_
    rintro e w1 ⟨rfl, hw1⟩
    subst w1
    go_wp2_with fail
    refine CF.mono ?_
    rintro e w1 ⟨rfl, hw1⟩
    subst w1
    go_wp2_with fail
    refine CC.mono ?_
    rintro e V ⟨rfl, hq⟩
    have HQ := hide hq
    clear hq CM CT CF CC he
    go_wp2_with fail
    go_ret
    exact ⟨rfl, HQ.out⟩
theorem waitSend_arg {f : Value} {v : Int} {g : Fn} {r2 c2 : Array Value} (h : Ch w A z m s D) (hk : Tkt w k f) (hf : f = .nilFunc ∨ (∃ fn r c, f = .func fn r c) ∧ canS z s (some ⟨k, 0, none⟩) = true) :
    Calls Tryz.prog 39 #[.pointer (some ⟨z.C, 0, none⟩), .int .i64 v, .pointer (some ⟨k, 0, none⟩), .func g r2 c2] w fun e w' => e = .returned (.int .i64 2) ∧ ∃ D', Ch w' A z m s D' ∧ Lx w D w' D' := by
  obtain ⟨W, hW⟩ : ∃ W, Hid (W = w.alloc (.cells #[.func g r2 c2] (67 : TypeId))) := ⟨_, hide rfl⟩
  have bW : Below w.heap.size w W := by rw [hW.out]; exact (Below.refl _ w).alloc (Nat.le_refl _) _
  have hB : W.heap[w.heap.size]? = some (.cells #[.func g r2 c2] (67 : TypeId) (0, 0)) := by rw [hW.out]; exact heap_alloc_new w _
  obtain ⟨B, hBB⟩ : ∃ B, Hid (w.heap.size = B) := ⟨_, hide rfl⟩
  rw [hBB.out] at hB
  have hW1 := h.below bW
  have hkW := hk.below bW
  have CM := cmade_yes hW1
  have CT := tmade_yes hkW
  have hxW : Lx w D W D := Lx.fresh D bW
  have he : (binOp .eql (67 : TypeId) (.func g r2 c2) .nilFunc).run Tryz.prog W = .ok (.bool false) W := eql_func_no g r2 c2 Tryz.underlying67
  have cB := cell_of_row _ _ 0 _ _ _ hB
  have h0 : Hid (∃ D', Ch W A z m s D' ∧ Lx w D W D') := hide ⟨D, hW1, hxW⟩
  rcases hf with rfl | ⟨⟨fn, r, cc, rfl⟩, hcan⟩
  · have CF := fired_yes hkW
    clear h hk hW1 hkW hxW hB bW
    go_enter Tryz.func39, Tryz.ntmps39
    go_wp2_with (rw [← hW.out, hBB.out])
    refine CM.mono ?_
    rintro e w1 ⟨rfl, hw1⟩
    subst w1
    go_wp2_with fail
    refine CT.mono ?_
    rintro e w1 ⟨rfl, hw1⟩
    subst w1
    go_wp2_with fail
    refine CF.mono ?_
    rintro e w1 ⟨rfl, hw1⟩
    subst w1
    go_wp2_with fail
    go_ret
    exact ⟨rfl, h0.out⟩
  · have CF := fired_no hkW
    have CC := canSend_any hW1 (kp := some ⟨k, 0, none⟩) (.inr ⟨k, _, rfl, hkW⟩)
    rw [hcan] at CC
    have HX := hide hxW
    clear h hk hcan h0 hW1 hkW hxW hB bW
    go_enter Tryz.func39, Tryz.ntmps39
    go_wp2_with (rw [← hW.out, hBB.out])
    refine CM.mono ?_
    rintro e w1 ⟨rfl, hw1⟩
    subst w1
    go_wp2_with fail
    refine CT.mono ?_
    rintro e w1 ⟨rfl, hw1⟩
    subst w1
    go_wp2_with fail
    refine CF.mono ?_
    rintro e w1 ⟨rfl, hw1⟩
    subst w1
    go_wp2_with fail
    refine CC.mono ?_
    rintro e V ⟨rfl, D1, h1, x1⟩
    have HQ : Hid (∃ D', Ch V A z m s D' ∧ Lx w D V D') := hide ⟨D1, h1, HX.out.trans x1⟩
    clear h1 x1 CM CT CF CC he cB
    go_wp2_with fail
    go_ret
    exact ⟨rfl, HQ.out⟩
end

end Go.Proofs.YtgjpbekmkhanhaaGreat.CH

/-
  A runtime's and a task's small calls.
-/
import Derived.Test.YtgjpbekmkhanhaaGreatMx078c698d
import Derived.Laws.EntriesVeiled
namespace Go.Proofs.YtgjpbekmkhanhaaGreat
open Go.RowKit QI
set_option maxRecDepth 100000
set_option linter.unusedSimpArgs false

theorem eql_other {P : Program} {w : World} {tp te : TypeId} {j : TypeInfo} {a b : Addr} {ca cb : Array Value} {ta tb : TypeId} (hp : P.underlying tp = some (.pointer te)) (hte : P.info? te = some j) (hsz : j.size ≠ 0) (hne : a ≠ b) (ha : w.heap[a.block]? = some (.cells ca ta (0, 0))) (hb : w.heap[b.block]? = some (.cells cb tb (0, 0))) :
    (binOp .eql tp (.pointer (some a)) (.pointer (some b))).run P w = .ok (.bool false) w := by
  have h : ∀ d : Nat, (Op.equalIn (d + 1) tp (.pointer (some a)) (.pointer (some b))).run P w = .ok false w := fun d => by simp [Op.equalIn, run_underlying hp, typeInfo, sizeOf, hsz, run_sameAddr_other w hne ha hb, hte]
  simp only [binOp]
  simp [Op.equal, Op.maxDepth, h 9999]

theorem neq_func {P : Program} {w : World} {tp : TypeId} {ps rs : Array TypeId} {b : Bool} {v : Value} (hv : Fv v) (hp : P.underlying tp = some (.func ps rs b)) : (binOp .neq tp v .nilFunc).run P w = .ok (.bool (on v)) w := by
  have h : ∀ d : Nat, (Op.equalIn (d + 1) tp v .nilFunc).run P w = .ok (!on v) w := fun d => by
    rcases hv with rfl | ⟨f, xs, ys, rfl⟩ <;> simp [Op.equalIn, run_underlying hp, on]
  simp only [binOp]
  simp [Op.equal, Op.maxDepth, h 9999]

theorem eql_func {P : Program} {w : World} {tp : TypeId} {ps rs : Array TypeId} {b : Bool} {v : Value} (hv : Fv v) (hp : P.underlying tp = some (.func ps rs b)) : (binOp .eql tp v .nilFunc).run P w = .ok (.bool (!on v)) w := by
  have h : ∀ d : Nat, (Op.equalIn (d + 1) tp v .nilFunc).run P w = .ok (!on v) w := fun d => by
    rcases hv with rfl | ⟨f, xs, ys, rfl⟩ <;> simp [Op.equalIn, run_underlying hp, on]
  simp only [binOp]
  simp [Op.equal, Op.maxDepth, h 9999]

theorem infoT : ∃ j, Tryz.prog.info? (130 : TypeId) = some j ∧ j.size ≠ 0 := by
  have h : (Tryz.prog.info? (130 : TypeId)).map (·.size) = some 5 := by kernel_rfl
  obtain ⟨j, h1, h2⟩ := Option.map_eq_some_iff.1 h
  exact ⟨j, h1, by omega⟩
theorem infoR : ∃ j, Tryz.prog.info? (62 : TypeId) = some j ∧ j.size ≠ 0 := by
  have h : (Tryz.prog.info? (62 : TypeId)).map (·.size) = some 6 := by kernel_rfl
  obtain ⟨j, h1, h2⟩ := Option.map_eq_some_iff.1 h
  exact ⟨j, h1, by omega⟩

theorem rmade_yes {w : World} {b : Nat} (c0 : w.cell? ⟨b, 0, none⟩ = some (.pointer (some ⟨b, 0, none⟩))) :
    Calls Tryz.prog 58 #[.pointer (some ⟨b, 0, none⟩)] w fun e w' => e = .returned (.bool true) ∧ w' = w := by
  obtain ⟨j, hj, _⟩ := infoR
  have he := eql_self (P := Tryz.prog) (w := w) (tp := (31 : TypeId)) (te := (62 : TypeId)) ⟨b, 0, none⟩ Tryz.underlying31 hj
  go_enter Tryz.func58, Tryz.ntmps58
  go_wp2_with fail
  go_ret
  exact ⟨rfl, rfl⟩

theorem rmade_nil (w : World) : Calls Tryz.prog 58 #[.pointer none] w fun e w' => e = .returned (.bool false) ∧ w' = w := by
  go_enter Tryz.func58, Tryz.ntmps58
  go_wp2_with fail
  go_ret
  exact ⟨rfl, rfl⟩

theorem rmade_zero {w : World} {b : Nat} (c0 : w.cell? ⟨b, 0, none⟩ = some (.pointer none)) : Calls Tryz.prog 58 #[.pointer (some ⟨b, 0, none⟩)] w fun e w' => e = .returned (.bool false) ∧ w' = w := by
  have he := eql_nil (P := Tryz.prog) (w := w) (tp := (31 : TypeId)) (te := (62 : TypeId)) ⟨b, 0, none⟩ Tryz.underlying31
  go_enter Tryz.func58, Tryz.ntmps58
  go_wp2_with fail
  go_ret
  exact ⟨rfl, rfl⟩

theorem tmade_yes {w : World} {b : Nat} (c0 : w.cell? ⟨b, 0, none⟩ = some (.pointer (some ⟨b, 0, none⟩))) :
    Calls Tryz.prog 92 #[.pointer (some ⟨b, 0, none⟩)] w fun e w' => e = .returned (.bool true) ∧ w' = w := by
  obtain ⟨j, hj, _⟩ := infoT
  have he := eql_self (P := Tryz.prog) (w := w) (tp := (60 : TypeId)) (te := (130 : TypeId)) ⟨b, 0, none⟩ Tryz.underlying60 hj
  go_enter Tryz.func92, Tryz.ntmps92
  go_wp2_with fail
  go_ret
  exact ⟨rfl, rfl⟩

theorem tmade_nil (w : World) : Calls Tryz.prog 92 #[.pointer none] w fun e w' => e = .returned (.bool false) ∧ w' = w := by
  go_enter Tryz.func92, Tryz.ntmps92
  go_wp2_with fail
  go_ret
  exact ⟨rfl, rfl⟩

theorem tmade_zero {w : World} {b : Nat} (c0 : w.cell? ⟨b, 0, none⟩ = some (.pointer none)) : Calls Tryz.prog 92 #[.pointer (some ⟨b, 0, none⟩)] w fun e w' => e = .returned (.bool false) ∧ w' = w := by
  have he := eql_nil (P := Tryz.prog) (w := w) (tp := (60 : TypeId)) (te := (130 : TypeId)) ⟨b, 0, none⟩ Tryz.underlying60
  go_enter Tryz.func92, Tryz.ntmps92
  go_wp2_with fail
  go_ret
  exact ⟨rfl, rfl⟩

section
variable {w : World} {a : Ad} {s : Rs} {ks : List Int} {i : Nat} {t : Tc}

theorem Rm.same_run (h : Rm w a s ks) (hr : ∀ k, s.run = some k → k < s.ts.length) (hi : s.ts[i]? = some t) : (binOp .eql (60 : TypeId) (.pointer s.rp) (.pointer (some ⟨t.b, 0, none⟩))).run Tryz.prog w = .ok (.bool (decide (s.run = some i))) w := by
  obtain ⟨j, hj, hz⟩ := infoT
  cases e : s.run with
  | none => simpa [Rs.rp, e] using eql_nil (P := Tryz.prog) (w := w) (tp := (60 : TypeId)) (te := (130 : TypeId)) ⟨t.b, 0, none⟩ Tryz.underlying60
  | some k =>
    have hk := hr k e
    have hu : s.ts[k]? = some s.ts[k] := List.getElem?_eq_getElem hk
    by_cases e2 : k = i
    · subst e2
      rw [hi] at hu
      simp only [Rs.rp, e, Option.map_some, adr_of hi, decide_true]
      exact eql_self (P := Tryz.prog) (w := w) (tp := (60 : TypeId)) (te := (130 : TypeId)) ⟨t.b, 0, none⟩ Tryz.underlying60 hj
    · simp only [Rs.rp, e, Option.map_some, adr_of hu, Option.some.injEq, e2, decide_false]
      exact eql_other Tryz.underlying60 hj hz (fun h' => e2 (h.inj hu hi (by simpa using h'))) (h.tk k _ hu) (h.tk i t hi)

theorem isrun_any (h : Rm w a s ks) (hr : ∀ k, s.run = some k → k < s.ts.length) (hi : s.ts[i]? = some t) :
    Calls Tryz.prog 93 #[.pointer (some ⟨t.b, 0, none⟩)] w fun e w' => e = .returned (.bool (decide (s.run = some i))) ∧ w' = w := by
  have c1 : w.cell? ⟨t.b, 1, none⟩ = some (.pointer (some ⟨a.R, 0, none⟩)) := h.cT hi 1
  have c4 : w.cell? ⟨a.R, 4, none⟩ = some (.pointer s.rp) := h.cR 4
  have he := h.same_run hr hi
  generalize decide (s.run = some i) = d at *
  generalize s.rp = p at *
  generalize t.b = b at *
  generalize a.R = r at *
  clear h hr hi
  go_enter Tryz.func93, Tryz.ntmps93
  go_wp2_with fail
  go_ret
  exact ⟨rfl, rfl⟩

theorem goes_any (h : Rm w a s ks) (hf : Fv t.nx ∧ Fv t.wk) (hi : s.ts[i]? = some t) :
    Calls Tryz.prog 94 #[.pointer (some ⟨t.b, 0, none⟩)] w fun e w' => e = .returned (.bool t.goes) ∧ w' = w := by
  have c3 : w.cell? ⟨t.b, 3, none⟩ = some t.nx := h.cT hi 3
  have c4 : w.cell? ⟨t.b, 4, none⟩ = some t.wk := h.cT hi 4
  have e1 := neq_func (P := Tryz.prog) (w := w) hf.1 Tryz.underlying1
  have e2 := neq_func (P := Tryz.prog) (w := w) hf.2 Tryz.underlying128
  unfold Tc.goes
  obtain ⟨b, nx, wk⟩ := t
  simp only at *
  obtain ⟨h1, h2⟩ := hf
  clear h hi
  rcases h1 with rfl | ⟨f1, x1, y1, rfl⟩ <;> rcases h2 with rfl | ⟨f2, x2, y2, rfl⟩ <;> simp only [on] at e1 e2 <;>
  · go_enter Tryz.func94, Tryz.ntmps94
    go_wp2_with fail
    go_ret
    exact ⟨rfl, rfl⟩

/-- Why a task may not say now how it goes on. -/
def rfE (s : Rs) (i : Nat) (t : Tc) (nothing : Bool) : Int := if nothing then 1 else if s.run = some i then (if t.goes then 151 else 0) else 152

theorem refused_any (h : Rt w a s) (hi : s.ts[i]? = some t) (no : Bool) :
    Calls Tryz.prog 127 #[.pointer (some ⟨t.b, 0, none⟩), .bool no] w fun e w' => e = .returned (.int .i64 (rfE s i t no)) ∧ w' = w := by
  have C := tmade_yes (b := t.b) (h.m.cT hi 0)
  have CR := isrun_any h.m h.ok.runs hi
  have CG := goes_any h.m (h.ok.fv t (List.mem_of_getElem? hi)) hi
  unfold rfE
  generalize t.b = b at *
  generalize t.goes = g at *
  clear h hi
  cases no
  · by_cases hr : s.run = some i
    · simp only [hr, decide_true] at CR
      cases g
      · go_enter Tryz.func127, Tryz.ntmps127
        go_wp2_with fail
        refine C.mono ?_
        rintro e w1 ⟨rfl, hw1⟩
        subst w1
        go_wp2_with fail
        refine CR.mono ?_
        rintro e w1 ⟨rfl, hw1⟩
        subst w1
        go_wp2_with fail
        refine CG.mono ?_
        rintro e w1 ⟨rfl, hw1⟩
        subst w1
        go_wp2_with fail
        go_ret
        exact ⟨by simp [hr], rfl⟩
      · go_enter Tryz.func127, Tryz.ntmps127
        go_wp2_with fail
        refine C.mono ?_
        rintro e w1 ⟨rfl, hw1⟩
        subst w1
        go_wp2_with fail
        refine CR.mono ?_
        rintro e w1 ⟨rfl, hw1⟩
        subst w1
        go_wp2_with fail
        refine CG.mono ?_
        rintro e w1 ⟨rfl, hw1⟩
        subst w1
        go_wp2_with fail
        go_ret
        exact ⟨by simp [hr], rfl⟩
    · simp only [hr, decide_false] at CR
      go_enter Tryz.func127, Tryz.ntmps127
      go_wp2_with fail
      refine C.mono ?_
      rintro e w1 ⟨rfl, hw1⟩
      subst w1
      go_wp2_with fail
      refine CR.mono ?_
      rintro e w1 ⟨rfl, hw1⟩
      subst w1
      go_wp2_with fail
      go_ret
      exact ⟨by simp [hr], rfl⟩
  · go_enter Tryz.func127, Tryz.ntmps127
    go_wp2_with fail
    refine C.mono ?_
    rintro e w1 ⟨rfl, hw1⟩
    subst w1
    go_wp2_with fail
    go_ret
    exact ⟨by simp, rfl⟩

theorem refused_none {p : Option Addr} (C : Calls Tryz.prog 92 #[.pointer p] w fun e w' => e = .returned (.bool false) ∧ w' = w) (no : Bool) :
    Calls Tryz.prog 127 #[.pointer p, .bool no] w fun e w' => e = .returned (.int .i64 1) ∧ w' = w := by
  go_enter Tryz.func127, Tryz.ntmps127
  go_wp2_with fail
  refine C.mono ?_
  rintro e w1 ⟨rfl, hw1⟩
  subst w1
  go_wp2_with fail
  go_ret
  exact ⟨rfl, rfl⟩

/-- A task gets ready with what its next turn will call. -/
theorem getReady_any (h : Rm w a s ks) (hi : s.ts[i]? = some t) (hl : s.line.length < 256) (hn : (i : Int) ∉ s.line) (hm : (i : Int) ≤ 9223372036854775807) (f : Fn) (xs ys : Array Value) :
    Calls Tryz.prog 67 #[.pointer (some ⟨t.b, 0, none⟩), .func f xs ys] w fun e w' => e = .returned (.tuple #[]) ∧ ∃ a', Rm w' a' (s.gets i { t with nx := .func f xs ys }) ks ∧ Rx w a s w' a' (s.gets i { t with nx := .func f xs ys }) := by
  have f3 := h.fT hi 3
  obtain ⟨c3, hc3⟩ : ∃ x, w.cell? ⟨t.b, 3, none⟩ = some x := ⟨_, h.cT hi 3⟩
  obtain ⟨X, hX⟩ : ∃ X, Hid (X = w.setCell ⟨t.b, 3, none⟩ (.func f xs ys)) := ⟨_, hide rfl⟩
  have tX : Tb (fun k => k = t.b) w X := by rw [hX.out]; exact Tb.set t.b 3 _ rfl
  have hX1 : Rm X a (s.put i { t with nx := .func f xs ys }) ks := h.tobj hi rfl tX (by
    rw [hX.out, heap_setCell_same w t.b 3 _ _ _ (h.tk i t hi)]
    rfl)
  have hiX : (s.put i { t with nx := .func f xs ys }).ts[i]? = some { t with nx := .func f xs ys } := by simp [Rs.put, get_set hi]
  have c1 : X.cell? ⟨t.b, 1, none⟩ = some (.pointer (some ⟨a.R, 0, none⟩)) := hX1.cT hiX 1
  have c2 : X.cell? ⟨t.b, 2, none⟩ = some (.int .i64 i) := hX1.cT hiX 2
  have r1 : X.cell? ⟨a.R, 1, none⟩ = some (.pointer (some ⟨a.Q, 0, none⟩)) := hX1.cR 1
  obtain ⟨N, hd, q⟩ := hX1.qu
  have CR : ∀ V, Below X.heap.size X V → Calls Tryz.prog 120 #[.pointer (some ⟨a.Q, 0, none⟩), .int .i64 (i : Int)] V fun e w' => ∃ x, e = .returned (.int .i64 x) ∧ (w'.cell? ⟨t.b, 1, none⟩ = some (.pointer (some ⟨a.R, 0, none⟩)) ∧ w'.cell? ⟨t.b, 2, none⟩ = some (.int .i64 i) ∧ w'.cell? ⟨a.R, 1, none⟩ = some (.pointer (some ⟨a.Q, 0, none⟩))) ∧ Hid (∃ a', Rm w' a' (s.gets i { t with nx := .func f xs ys }) ks ∧ Rx w a s w' a' (s.gets i { t with nx := .func f xs ys })) := fun V hV => by
    refine (ready_any (hX1.sd.below hV) (q.below hV) (i : Int)).mono ?_
    rintro e w' ⟨rfl, k⟩
    have e2 : rdL s.line (i : Int) = s.line ++ [(i : Int)] := by
      have e0 : rdE s.line (i : Int) = 0 := by
        unfold rdE
        rw [if_neg (by omega), if_neg hn, if_neg (by omega)]
      unfold rdL
      rw [if_pos e0]
    rw [show rdL (s.put i { t with nx := .func f xs ys }).line (i : Int) = s.line ++ [(i : Int)] from e2] at k
    have k' := Qt.then (q.below hV) (.inl rfl) (Tb.of_fresh hV) k
    obtain ⟨G', hg, hm1, ht⟩ := hX1.turn k'
    refine ⟨_, rfl, ⟨hm1.cT hiX 1, hm1.cT hiX 2, hm1.cR 1⟩, hide ⟨_, hm1, rfl, rfl, rfl, rfl, ?_, ⟨[], by simp [Rs.gets, map_set hi], by simp⟩, ?_⟩⟩
    · rcases hg with e | e
      · exact .inl e
      · exact .inr (Nat.le_trans tX.size e)
    · have tX' : Tb (own a s) w X := tX.mono (fun k _ e => by subst e; exact own_task hi)
      have x1 : Rx w a s X a (s.put i { t with nx := .func f xs ys }) := Rx.turn tX' (map_set hi rfl)
      exact tX'.trans ht (fun k hk e => (x1.own e).elim id (fun h' => by omega))
  have HC := hide CR
  clear CR q hX1 hiX tX h hi hn hl
  obtain ⟨b, hb⟩ : ∃ b, Hid (b = t.b) := ⟨_, hide rfl⟩
  obtain ⟨r, hr⟩ : ∃ r, Hid (r = a.R) := ⟨_, hide rfl⟩
  obtain ⟨q, hq⟩ : ∃ q, Hid (q = a.Q) := ⟨_, hide rfl⟩
  rw [← hb.out] at f3 hc3 hX c1 c2 HC ⊢
  rw [← hr.out] at c1 r1 HC
  rw [← hq.out] at r1 HC
  go_enter Tryz.func67, Tryz.ntmps67
  go_wp2_with fail
  rw [← hX.out]
  go_region_held3 (fun V => V.cell? ⟨b, 1, none⟩ = some (.pointer (some ⟨r, 0, none⟩)) ∧ V.cell? ⟨b, 2, none⟩ = some (.int .i64 i) ∧ V.cell? ⟨r, 1, none⟩ = some (.pointer (some ⟨q, 0, none⟩)))
    (first | exact ⟨c1, c2, r1⟩ | exact h3)
    (first | (go_at_call 120; refine (HC.out _ ?_).mono ?_; exact (Below.refl _ X).drew; rintro e w1 ⟨x, rfl, h3, h4⟩))
  go_end0
  exact ⟨rfl, h4.out⟩
end

end Go.Proofs.YtgjpbekmkhanhaaGreat

/-
  ChansOrder: what lies beside its tasks and its channel; what a turn does; how its functions go on.
-/
import Derived.Test.YtgjpbekmkhanhaaGreatMx08bbe3a7
namespace Go.Proofs.YtgjpbekmkhanhaaGreat.CG
open Go.RowKit QW CH
set_option maxRecDepth 100000
set_option linter.unusedSimpArgs false
set_option linter.unusedVariables false

/-- Where the law's variables lie. -/
structure Ow where
  CB : Nat
  TB : Nat
  BB : Nat
  GB : Nat
  SB : Nat
  RB : Nat
  C : Nat
  nS : Nat

/-- How many senders were told that it is done; what receivers were told. -/
def toldN (nS : Nat) (ev : List (Nat × Nat × Tld)) : Nat := (ev.filter fun e => decide (e.1 < nS) && e.2.2.2.2).length
def gotL (nS : Nat) (ev : List (Nat × Nat × Tld)) : List Int := (ev.filter fun e => !decide (e.1 < nS) && e.2.2.2.2).map fun e => e.2.2.2.1

abbrev capS (o : Ow) : Array Value := #[.pointer (some ⟨o.BB, 0, none⟩), .pointer (some ⟨o.CB, 0, none⟩), .pointer (some ⟨o.TB, 0, none⟩), .pointer (some ⟨o.SB, 0, none⟩)]
abbrev capR (o : Ow) : Array Value := #[.pointer (some ⟨o.BB, 0, none⟩), .pointer (some ⟨o.CB, 0, none⟩), .pointer (some ⟨o.GB, 0, none⟩), .pointer (some ⟨o.RB, 0, none⟩)]

/-- The law's variables. -/
structure OE (o : Ow) (L : Nat) (w : World) (lab : Lb) (ev : List (Nat × Nat × Tld)) : Prop where
  cb : w.heap[o.CB]? = some (.cells #[.pointer (some ⟨o.C, 0, none⟩)] (48 : TypeId) (0, 0)) ∧ lab o.CB = some .fz
  sb : w.heap[o.SB]? = some (.cells #[.func (.func 41) #[] (capS o)] (91 : TypeId) (0, 0)) ∧ lab o.SB = some .fz
  rb : w.heap[o.RB]? = some (.cells #[.func (.func 43) #[] (capR o)] (76 : TypeId) (0, 0)) ∧ lab o.RB = some .fz
  tb : w.heap[o.TB]? = some (.cells #[.int .i64 (toldN o.nS ev)] 3 (0, 0)) ∧ lab o.TB = some .b
  bb : w.heap[o.BB]? = some (.cells #[.bool false] 4 (0, 0)) ∧ lab o.BB = some .b
  gb : ∃ gv, w.heap[o.GB]? = some (.cells #[gv] (23 : TypeId) (0, 0)) ∧ lab o.GB = some .b ∧ w.ownsRow L 3 1 gv (gotL o.nS ev).length ((gotL o.nS ev).map (Value.int .i64)) ∧ ∀ k, gv.ownBlock = some k → lab k = some .ev
  low : L ≤ w.heap.size

/-- What a turn does. -/
def oQT (o : Ow) (b i at' : Nat) (td : Tld) (V : World) (Ψ : World → Prop) : Prop :=
  ∀ V' : World, Below V.heap.size V V' →
    (i < o.nS → ∃ t : Nat, t ≤ 1000000 ∧ V'.heap[o.TB]? = some (.cells #[.int .i64 t] 3 (0, 0)) ∧ Calls Tryz.prog 41 #[.pointer (some ⟨b, 0, none⟩), .int .i64 i, .int .i64 at', .pointer (some ⟨o.BB, 0, none⟩), .pointer (some ⟨o.CB, 0, none⟩), .pointer (some ⟨o.TB, 0, none⟩), .pointer (some ⟨o.SB, 0, none⟩)] (if td.2.2 then V'.setCell ⟨o.TB, 0, none⟩ (.int .i64 ((t : Int) + 1)) else V') fun e w' => e = .returned (.tuple #[]) ∧ Ψ w') ∧
    (¬ i < o.nS → ∃ ga gn gc pa pn pc Y, V'.heap[o.GB]? = some (.cells #[.slice ga gn gc] (23 : TypeId) (0, 0)) ∧ (∀ k, (Value.slice ga gn gc).ownBlock = some k → ∃ cs, V'.heap[k]? = some (.cells cs 3 (0, 0))) ∧ (td.2.2 = true → (Builtin.append_ #[(23 : TypeId), (23 : TypeId)] (23 : TypeId) #[.slice ga gn gc, .slice (some ⟨V'.heap.size, 0, none⟩) 1 1]).run Tryz.prog (V'.alloc (.cells #[.int .i64 td.2.1] 3)) = .ok (.slice pa pn pc) Y) ∧ Tb (fun k => (Value.slice ga gn gc).ownBlock = some k) V' Y ∧ Calls Tryz.prog 43 #[.pointer (some ⟨b, 0, none⟩), .pointer (some ⟨o.BB, 0, none⟩), .pointer (some ⟨o.CB, 0, none⟩), .pointer (some ⟨o.GB, 0, none⟩), .pointer (some ⟨o.RB, 0, none⟩)] (if td.2.2 then Y.setCell ⟨o.GB, 0, none⟩ (.slice pa pn pc) else V') fun e w' => e = .returned (.tuple #[]) ∧ Ψ w')

theorem OE.keep {o : Ow} {L : Nat} {w w' : World} {lab lab' : Lb} {ev : List (Nat × Nat × Tld)} (h : OE o L w lab ev) (hk : ∀ k l, own5 l → lab k = some l → lab' k = some l ∧ w'.heap[k]? = w.heap[k]?) (hz : w.heap.size ≤ w'.heap.size) : OE o L w' lab' ev := by
  have key : ∀ {k : Nat} {l : Lab} {ob : Obj}, own5 l → w.heap[k]? = some ob → lab k = some l → w'.heap[k]? = some ob ∧ lab' k = some l := fun hl h1 h2 => ⟨(hk _ _ hl h2).2.trans h1, (hk _ _ hl h2).1⟩
  have f5 : own5 .fz := .inr (.inr (.inr (.inr rfl)))
  have b5 : own5 .b := .inl rfl
  have e5 : own5 .ev := .inr (.inl rfl)
  obtain ⟨gv, g1, g2, g3, g4⟩ := h.gb
  refine ⟨key f5 h.cb.1 h.cb.2, key f5 h.sb.1 h.sb.2, key f5 h.rb.1 h.rb.2, key b5 h.tb.1 h.tb.2, key b5 h.bb.1 h.bb.2, ⟨gv, (key b5 g1 g2).1, (key b5 g1 g2).2, row_heap g3 (fun g hg => (hk _ _ e5 (g4 g hg)).2), fun k hk' => (hk _ _ e5 (g4 k hk')).1⟩, Nat.le_trans h.low hz⟩

def oX (o : Ow) (L : Nat) : Xw where
  QT := oQT o
  E := fun w lab _ _ ev => OE o L w lab ev
  keep := fun h hk hz => h.keep hk hz

theorem entO1 : Ent 41 := fun _ _ => by go_simp
theorem entO1a : Ent 42 := fun _ _ => by go_simp
theorem entO2 : Ent 43 := fun _ _ => by go_simp
theorem entO2a : Ent 44 := fun _ _ => by go_simp
theorem entO3 : Ent 45 := fun _ _ => by go_simp
theorem entOs : Ent 68 := fun _ _ => by go_simp

section
variable {o : Ow} {F : Nat → Prop} {w : World} {tB iB nB b i n : Nat}

theorem setv_other {W : World} {g k : Nat} {y : Value} {ob : Obj} (hk : W.heap[k]? = some ob) (hg : k ≠ g) : (W.setCell ⟨g, 0, none⟩ y).heap[k]? = some ob :=
  ((Tb.set (w := W) g 0 y (S := fun j => j = g) rfl).block k (heap_lt hk) hg).trans hk

set_option maxHeartbeats 1000000 in
/-- How a sender goes on. -/
theorem go_o1 (hi : i < o.nS) (hn : n ≤ 1000) (fS : F o.SB) (ft : F tB) (fi : F iB) (fn : F nB) (fT : ¬ F o.TB)
    (eS : w.heap[o.SB]? = some (.cells #[.func (.func 41) #[] (capS o)] (91 : TypeId) (0, 0))) (et : w.heap[tB]? = some (.cells #[.pointer (some ⟨b, 0, none⟩)] (60 : TypeId) (0, 0))) (ei : w.heap[iB]? = some (.cells #[.int .i64 i] 3 (0, 0))) (en : w.heap[nB]? = some (.cells #[.int .i64 n] 3 (0, 0))) :
    Go1 F w (.func (.func 42) #[] #[.pointer (some ⟨o.TB, 0, none⟩), .pointer (some ⟨o.SB, 0, none⟩), .pointer (some ⟨tB, 0, none⟩), .pointer (some ⟨iB, 0, none⟩), .pointer (some ⟨nB, 0, none⟩)]) (fun ok => oQT o b i (n + 1) (0, 0, ok)) := by
  refine ⟨_, _, rfl, entO1a, fun V ok Ψ hV hQ => ?_⟩
  have hen := entO1
  unfold Ent at hen
  obtain ⟨t, ht, hT, hC⟩ := (hQ V (Below.refl _ _)).1 hi
  have vS := (hV _ fS).trans eS
  have vt := (hV _ ft).trans et
  have vi := (hV _ fi).trans ei
  have vn := (hV _ fn).trans en
  have nS : o.SB ≠ o.TB := fun e => fT (e ▸ fS)
  have nt : tB ≠ o.TB := fun e => fT (e ▸ ft)
  have ni : iB ≠ o.TB := fun e => fT (e ▸ fi)
  have nn : nB ≠ o.TB := fun e => fT (e ▸ fn)
  simp only [List.append_toArray, List.cons_append, List.nil_append]
  have hc1 : ((n + 1 : Nat) : Int) = (n : Int) + 1 := by omega
  rw [hc1] at hC
  have hw1 : IntKind.i64.wrap ((n : Int) + 1) = (n : Int) + 1 := by rw [IntKind.wrap_i64]; omega
  cases ok with
  | false =>
    have HC := hide (show Calls Tryz.prog _ _ V _ from hC)
    have cS := cell_of_row V _ 0 _ _ _ vS
    have ct := cell_of_row V _ 0 _ _ _ vt
    have ci := cell_of_row V _ 0 _ _ _ vi
    have cn := cell_of_row V _ 0 _ _ _ vn
    clear hC hQ hV fS ft fi fn fT eS et ei en vS vt vi vn nS nt ni nn hT
    go_enter Tryz.func42, Tryz.ntmps42
    go_wp2_with fail
    refine HC.out.mono ?_
    rintro e w1 ⟨rfl, hΨ⟩
    go_wp2_with fail
    go_end0
    exact ⟨rfl, hΨ⟩
  | true =>
    have HC := hide (show Calls Tryz.prog _ _ (V.setCell ⟨o.TB, 0, none⟩ (.int .i64 ((t : Int) + 1))) _ from hC)
    have cT := cell_of_row V _ 0 _ _ _ hT
    have fT' := frozen_of_row V o.TB 0 _ _ hT
    have hw2 : IntKind.i64.wrap ((t : Int) + 1) = (t : Int) + 1 := by rw [IntKind.wrap_i64]; omega
    have cS := cell_of_row (V.setCell ⟨o.TB, 0, none⟩ (.int .i64 ((t : Int) + 1))) _ 0 _ _ _ (setv_other vS nS)
    have ct := cell_of_row (V.setCell ⟨o.TB, 0, none⟩ (.int .i64 ((t : Int) + 1))) _ 0 _ _ _ (setv_other vt nt)
    have ci := cell_of_row (V.setCell ⟨o.TB, 0, none⟩ (.int .i64 ((t : Int) + 1))) _ 0 _ _ _ (setv_other vi ni)
    have cn := cell_of_row (V.setCell ⟨o.TB, 0, none⟩ (.int .i64 ((t : Int) + 1))) _ 0 _ _ _ (setv_other vn nn)
    clear hC hQ hV fS ft fi fn fT eS et ei en vS vt vi vn nS nt ni nn hT
    go_enter Tryz.func42, Tryz.ntmps42
    go_wp2_with (rw [hw2])
    refine HC.out.mono ?_
    rintro e w1 ⟨rfl, hΨ⟩
    go_wp2_with fail
    go_end0
    exact ⟨rfl, hΨ⟩

set_option maxHeartbeats 1000000 in
/-- How a receiver goes on. -/
theorem go_o2 {at' : Nat} (hi : ¬ i < o.nS) (fR : F o.RB) (ft : F tB) 
    (eR : w.heap[o.RB]? = some (.cells #[.func (.func 43) #[] (capR o)] (76 : TypeId) (0, 0))) (et : w.heap[tB]? = some (.cells #[.pointer (some ⟨b, 0, none⟩)] (60 : TypeId) (0, 0))) :
    Go2 F w (.func (.func 44) #[] #[.pointer (some ⟨o.GB, 0, none⟩), .pointer (some ⟨o.RB, 0, none⟩), .pointer (some ⟨tB, 0, none⟩)]) (fun v ok => oQT o b i at' (0, v, ok)) := by
  refine ⟨_, _, rfl, entO2a, fun V x ok Ψ hV hQ => ?_⟩
  have hen := entO2
  unfold Ent at hen
  obtain ⟨ga, gn, gc, pa, pn, pc, Y, hG, hty, hrun, hTb, hC⟩ := (hQ V (Below.refl _ _)).2 hi
  have vR := (hV _ fR).trans eR
  have vt := (hV _ ft).trans et
  simp only [List.append_toArray, List.cons_append, List.nil_append]
  cases ok with
  | false =>
    have HC := hide (show Calls Tryz.prog _ _ V _ from hC)
    have cR := cell_of_row V _ 0 _ _ _ vR
    have ct := cell_of_row V _ 0 _ _ _ vt
    clear hC hQ hV fR ft eR et vR vt hG hty hrun hTb
    go_enter Tryz.func44, Tryz.ntmps44
    go_wp2_with fail
    refine HC.out.mono ?_
    rintro e w1 ⟨rfl, hΨ⟩
    go_wp2_with fail
    go_end0
    exact ⟨rfl, hΨ⟩
  | true =>
    have hrun := hrun rfl
    have HC := hide (show Calls Tryz.prog _ _ (Y.setCell ⟨o.GB, 0, none⟩ (.slice pa pn pc)) _ from hC)
    have bA : Below V.heap.size V (V.alloc (.cells #[.int .i64 x] 3)) := (Below.refl _ V).alloc (Nat.le_refl _) _
    have cG := cell_of_row V _ 0 _ _ _ hG
    have nown : ∀ {k : Nat} {cs : Array Value} {u : TypeId}, V.heap[k]? = some (.cells cs u (0, 0)) → u ≠ 3 → ¬ (Value.slice ga gn gc).ownBlock = some k := fun hk hu e => by
      obtain ⟨cs', h'⟩ := hty _ e
      rw [hk] at h'
      simp only [Option.some.injEq, Obj.cells.injEq] at h'
      exact hu h'.2.1
    have yk : ∀ {k : Nat} {cs : Array Value} {u : TypeId}, V.heap[k]? = some (.cells cs u (0, 0)) → u ≠ 3 → Y.heap[k]? = some (.cells cs u (0, 0)) := fun hk hu => (hTb.block _ (heap_lt hk) (nown hk hu)).trans hk
    have yG := yk hG (by decide)
    have cYG := cell_of_row Y _ 0 _ _ _ yG
    have fYG := frozen_of_row Y o.GB 0 _ _ yG
    have cR := cell_of_row (Y.setCell ⟨o.GB, 0, none⟩ (.slice pa pn pc)) _ 0 _ _ _ (setv_other (yk vR (by decide)) (ty_ne (yk vR (by decide)) yG (by decide)))
    have ct := cell_of_row (Y.setCell ⟨o.GB, 0, none⟩ (.slice pa pn pc)) _ 0 _ _ _ (setv_other (yk vt (by decide)) (ty_ne (yk vt (by decide)) yG (by decide)))
    clear hC hQ hV fR ft eR et vR vt hG hty hTb bA nown yk yG
    go_enter Tryz.func44, Tryz.ntmps44
    go_wp2_with (refine wpList_append_run2 rfl _ _ _ _ rfl _ _ _ (by simp [Act.eval]) (by simp [Act.eval]) hrun ?_)
    refine HC.out.mono ?_
    rintro e w1 ⟨rfl, hΨ⟩
    go_wp2_with fail
    go_end0
    exact ⟨rfl, hΨ⟩
end

end Go.Proofs.YtgjpbekmkhanhaaGreat.CG

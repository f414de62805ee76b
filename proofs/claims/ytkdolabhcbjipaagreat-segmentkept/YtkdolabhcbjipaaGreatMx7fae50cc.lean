/-
  Texts put into one.
-/
import Derived.Test.YtkdolabhcbjipaaGreatGwh
import Derived.OneCell
import Derived.LaidEql

/-
  The program's reader in memory; what New, made, Left and Feed do.
-/
namespace Go.Proofs.YtkdolabhcbjipaaGreat
open Go.RowKit
set_option maxRecDepth 100000

/-- A reader that New answered: what is left, and whether it has ended. -/
structure Rd (w : World) (base R : Nat) (lv : Value) (l : List Int) (ended : Bool) : Prop where
  obj : w.heap[R]? = some (.cells #[.pointer (some ⟨R, 0, none⟩), lv, .bool ended] 124 (0, 0))
  own : w.ownsRow base 5 1 lv l.length (U l)
  byte : ∀ z ∈ l, 0 ≤ z ∧ z ≤ 255
  from' : base ≤ R

theorem Rd.c0 {w : World} {base R : Nat} {lv : Value} {l : List Int} {ended : Bool} (h : Rd w base R lv l ended) : w.cell? ⟨R, 0, none⟩ = some (.pointer (some ⟨R, 0, none⟩)) := by rw [cell_of_row w R 0 _ 124 (0, 0) h.obj]; rfl
theorem Rd.c1 {w : World} {base R : Nat} {lv : Value} {l : List Int} {ended : Bool} (h : Rd w base R lv l ended) : w.cell? ⟨R, 1, none⟩ = some lv := by rw [cell_of_row w R 1 _ 124 (0, 0) h.obj]; rfl
theorem Rd.c2 {w : World} {base R : Nat} {lv : Value} {l : List Int} {ended : Bool} (h : Rd w base R lv l ended) : w.cell? ⟨R, 2, none⟩ = some (.bool ended) := by rw [cell_of_row w R 2 _ 124 (0, 0) h.obj]; rfl

theorem Rd.lt {w : World} {base R : Nat} {lv : Value} {l : List Int} {ended : Bool} (h : Rd w base R lv l ended) : R < w.heap.size := (Array.getElem?_eq_some_iff.1 h.obj).1

theorem Rd.apart {w : World} {base R : Nat} {lv : Value} {l : List Int} {ended : Bool} (h : Rd w base R lv l ended) : lv.ownBlock ≠ some R := by
  intro e
  rcases h.own.2 with ⟨h1, _⟩ | ⟨g, cap, cur, h1, _, hg, _⟩
  · rw [h1] at e
    cases e
  · rw [h1] at e
    simp only [Value.ownBlock, Option.some.injEq] at e
    subst e
    rw [h.obj] at hg
    simp at hg

theorem Rd.bar {S : Nat → Prop} {w w' : World} {base R : Nat} {lv : Value} {l : List Int} {ended : Bool} (h : Rd w base R lv l ended) (hb : Bar S w w') (h1 : ¬ S R) (h2 : ∀ b, lv.ownBlock = some b → ¬ S b) : Rd w' base R lv l ended :=
  ⟨by rw [hb.block R h.lt h1]; exact h.obj, own_bar h.own hb h2, h.byte, h.from'⟩

theorem Rd.keep {w w' : World} {base R : Nat} {lv : Value} {l : List Int} {ended : Bool} (h : Rd w base R lv l ended) (hb : Below w.heap.size w w') : Rd w' base R lv l ended :=
  h.bar (S := fun _ => False) (Bar.of_fresh hb) (fun h => h) (fun _ _ h => h)

theorem eql_same {P : Program} {w : World} {tp te : TypeId} {j : TypeInfo} (a : Addr) (hp : P.underlying tp = some (.pointer te)) (hte : P.info? te = some j) : (binOp .eql tp (.pointer (some a)) (.pointer (some a))).run P w = .ok (.bool true) w := by
  have h : ∀ d : Nat, (Op.equalIn (d + 1) tp (.pointer (some a)) (.pointer (some a))).run P w = .ok true w := fun d => by simp [Op.equalIn, run_underlying hp, typeInfo, sizeOf, run_sameAddr_same, hte]
  simp only [binOp]
  simp [Op.equal, Op.maxDepth, h 9999]

theorem eql_none {P : Program} {w : World} {tp te : TypeId} (a : Addr) (hp : P.underlying tp = some (.pointer te)) : (binOp .eql tp (.pointer none) (.pointer (some a))).run P w = .ok (.bool false) w := by
  have h : ∀ d : Nat, (Op.equalIn (d + 1) tp (.pointer none) (.pointer (some a))).run P w = .ok false w := fun d => by simp [Op.equalIn, run_underlying hp]
  simp only [binOp]
  simp [Op.equal, Op.maxDepth, h 9999]

theorem info32 : ∃ j, Tryz.prog.info? 124 = some j := by
  have h : (Tryz.prog.info? 124).isSome = true := by kernel_rfl
  exact Option.isSome_iff_exists.1 h

set_option maxHeartbeats 400000 in
theorem rmade_yes {base R : Nat} {lv : Value} {l : List Int} {ended : Bool} {w : World} (h : Rd w base R lv l ended) :
    Calls Tryz.prog 74 #[.pointer (some ⟨R, 0, none⟩)] w fun e w' => e = .returned (.bool true) ∧ w' = w := by
  have h0 := h.c0
  clear h
  obtain ⟨j, hj⟩ := info32
  have he := eql_same (P := Tryz.prog) (w := w) (tp := 98) (te := 124) ⟨R, 0, none⟩ Tryz.underlying98 hj
  go_enter Tryz.func74, Tryz.ntmps74
  go_wp2_with fail
  go_ret
  exact ⟨rfl, rfl⟩

set_option maxHeartbeats 400000 in
theorem rmade_nil (w : World) :
    Calls Tryz.prog 74 #[.pointer none] w fun e w' => e = .returned (.bool false) ∧ w' = w := by
  go_enter Tryz.func74, Tryz.ntmps74
  go_wp2_with fail
  go_ret
  exact ⟨rfl, rfl⟩

set_option maxHeartbeats 400000 in
theorem rmade_zero {R : Nat} {w : World} (h0 : w.cell? ⟨R, 0, none⟩ = some (.pointer none)) :
    Calls Tryz.prog 74 #[.pointer (some ⟨R, 0, none⟩)] w fun e w' => e = .returned (.bool false) ∧ w' = w := by
  have he := eql_none (P := Tryz.prog) (w := w) (tp := 98) (te := 124) ⟨R, 0, none⟩ Tryz.underlying98
  go_enter Tryz.func74, Tryz.ntmps74
  go_wp2_with fail
  go_ret
  exact ⟨rfl, rfl⟩

set_option maxHeartbeats 400000 in
theorem rnew_any (w : World) :
    Calls Tryz.prog 50 #[] w fun e w' => e = .returned (.pointer (some ⟨w.heap.size, 0, none⟩)) ∧ Rd w' w.heap.size w.heap.size (.slice none 0 0) [] false ∧ Below w.heap.size w w' := by
  go_enter Tryz.func50, Tryz.ntmps50
  go_wp2_with fail
  go_ret
  exact ⟨rfl, ⟨heap_alloc_new w _, World.ownsRow_nil _ _ _ _, by simp, Nat.le_refl _⟩, (Below.refl _ w).alloc (Nat.le_refl _) _⟩

end Go.Proofs.YtkdolabhcbjipaaGreat

/-
  What Left and Feed of the program's reader do.
-/
namespace Go.Proofs.YtkdolabhcbjipaaGreat
open Go.RowKit
set_option maxRecDepth 100000

set_option maxHeartbeats 400000 in
theorem feed_nil (x : Value) (w : World) :
    Calls Tryz.prog 51 #[.pointer none, x] w fun e w' => e = .returned (.tuple #[.slice none 0 0, .int .i64 1]) ∧ w' = w := by
  go_enter Tryz.func51, Tryz.ntmps51
  go_wp2_with (go_at_call 74; refine (rmade_nil w).mono ?_; rintro e w1 ⟨rfl, rfl⟩)
  go_ret2
  exact ⟨rfl, rfl⟩

set_option maxHeartbeats 400000 in
theorem feed_zero {R : Nat} (x : Value) {w : World} (h0 : w.cell? ⟨R, 0, none⟩ = some (.pointer none)) :
    Calls Tryz.prog 51 #[.pointer (some ⟨R, 0, none⟩), x] w fun e w' => e = .returned (.tuple #[.slice none 0 0, .int .i64 1]) ∧ w' = w := by
  go_enter Tryz.func51, Tryz.ntmps51
  go_wp2_with (go_at_call 74; refine (rmade_zero h0).mono ?_; rintro e w1 ⟨rfl, rfl⟩)
  go_ret2
  exact ⟨rfl, rfl⟩

set_option maxHeartbeats 400000 in
theorem feed_ended {base R : Nat} {lv : Value} {l : List Int} {w : World} (h : Rd w base R lv l true) (x : Value) :
    Calls Tryz.prog 51 #[.pointer (some ⟨R, 0, none⟩), x] w fun e w' => e = .returned (.tuple #[.slice none 0 0, .int .i64 30]) ∧ w' = w := by
  have h2 := h.c2
  go_enter Tryz.func51, Tryz.ntmps51
  go_wp2_with (go_at_call 74; refine (rmade_yes h).mono ?_; rintro e w1 ⟨rfl, rfl⟩)
  go_ret2
  exact ⟨rfl, rfl⟩

theorem Bar.set (w : World) (R i : Nat) (v : Value) : Bar (fun k => k = R) w (w.setCell ⟨R, i, none⟩ v) :=
  ⟨rfl, rfl, rfl, by simp, fun k _ hk => Below.heap_setCell w ⟨R, i, none⟩ v k hk⟩

/-- The blocks that a feed may turn. -/
def Fd (R : Nat) (lv : Value) (k : Nat) : Prop := k = R ∨ lv.ownBlock = some k

set_option maxHeartbeats 1000000 in
theorem feed_any {base R : Nat} {lv : Value} {l : List Int} {w : World} (h : Rd w base R lv l false) (hbase : base ≤ w.heap.size) (a : Option Addr) (n cap : Nat) (zs : List Int) (hB : Bs w a n cap zs) (hn : l.length + n ≤ 10000000000000) :
    Calls Tryz.prog 51 #[.pointer (some ⟨R, 0, none⟩), .slice a n cap] w fun e w' => Bar (Fd R lv) w w' ∧
      ((parse (l ++ zs) = none ∧ e = .returned (.tuple #[.slice none 0 0, .int .i64 30]) ∧ Rd w' base R (.slice none 0 0) [] true) ∨
      ∃ v lv' r rs, parse (l ++ zs) = some (rs.map (·.2), r) ∧ e = .returned (.tuple #[v, .int .i64 0]) ∧ Rd w' base R lv' r false ∧ LL w' w.heap.size v rs ∧
        (∀ b, lv'.ownBlock = some b → lv.ownBlock = some b ∨ w.heap.size ≤ b) ∧ (∀ q ∈ rs, ∀ b, q.1.ownBlock = some b → lv'.ownBlock ≠ some b)) := by
  obtain ⟨i0, hi, hz0, hz1, hz2⟩ := info_parts info5
  have h0 := h.c0
  have h1 := h.c1
  have h2 := h.c2
  have hl := h.lt
  go_enter Tryz.func51, Tryz.ntmps51
  go_wp2_with (first
    | (go_at_call 74; refine (rmade_yes h).mono ?_; rintro e w1 ⟨rfl, rfl⟩)
    | (at_builtin; refine wpList_append_went rfl (.tmp 20) (.tmp 21) 30 rfl base 5 i0 Tryz.underlying30 hi hz0 hz1 hz2 _ l.length _ rfl h.own _ _ _ zs rfl hB (by omega) hbase ?_; intro v1 w2 hown2 hgrow2 hwent2; obtain ⟨a1, c1, rfl⟩ := own_val hown2; have ho2 := (hgrow2.block R hl h.apart.symm).trans h.obj; have HO2 := hide ho2; have f2 := frozen_of_row w2 R 1 _ 124 ho2; have k2 : w2.cell? ⟨R, 1, none⟩ = some lv := (by rw [cell_of_row w2 R 1 _ 124 (0, 0) ho2]; rfl); clear ho2))
  rw [← U_append] at hown2
  have hap : (Value.slice a1 (l.length + n) c1).ownBlock ≠ some R := fun e => by
    rcases Went.cases hwent2 e with e | e
    · exact h.apart e
    · omega
  have hby : ∀ z ∈ l ++ zs, 0 ≤ z ∧ z ≤ 255 := fun z hz => (List.mem_append.1 hz).elim (h.byte z) (hB.byte z)
  have hR3 : Rd (w2.setCell ⟨R, 1, none⟩ (.slice a1 (l.length + n) c1)) base R (.slice a1 (l.length + n) c1) (l ++ zs) false := by
    refine ⟨heap_setCell_same w2 R 1 _ 124 _ HO2.out, ?_, hby, h.from'⟩
    rw [List.length_append, hB.len]
    exact ownsRow_setCell_other hown2 hap _
  have hb3 : Bar (Fd R lv) w1 (w2.setCell ⟨R, 1, none⟩ (.slice a1 (l.length + n) c1)) :=
    ((Bar.of_grown hgrow2).mono (fun i hi _ => .inr hi) : Bar (Fd R lv) w1 w2).trans (Bar.set w2 R 1 _) (fun i hi => .inl (.inl hi))
  have hW : Hid (∀ b, (Value.slice a1 (l.length + n) c1).ownBlock = some b → lv.ownBlock = some b ∨ w1.heap.size ≤ b) := hide (fun b hb => by
    rcases Went.cases hwent2 hb with e | e
    · exact .inl e
    · exact .inr (by omega))
  have C := fun w (h : Rd w base R (.slice a1 (l.length + n) c1) (l ++ zs) false) => whole_any a1 (l.length + n) c1 (l ++ zs) w (own_bs (by have := h.own; rwa [List.length_append, hB.len] at this) hby) (by omega)
  clear hown2 hgrow2 hwent2 HO2 f2 k2 h0 h1 h2
  generalize w2.setCell ⟨R, 1, none⟩ (.slice a1 (l.length + n) c1) = w3 at hR3 hb3
  refine (C w3 hR3).mono ?_
  clear C
  rintro e w4 ⟨hb4, hcase⟩
  have hR4 := hR3.keep hb4
  have hb4' : Bar (Fd R lv) w1 w4 := hb3.trans (Bar.of_fresh hb4 : Bar (fun _ => False) w3 w4) (fun i hi => hi.elim)
  have h1 := hR4.c1
  have h2 := hR4.c2
  have f1 := frozen_of_row w4 R 1 _ 124 hR4.obj
  have f2 := frozen_of_row w4 R 2 _ 124 hR4.obj
  rcases hcase with ⟨hp, rfl⟩ | ⟨v, p, rs, hp, hpn, rfl, hll⟩
  · go_wp2_with fail
    go_ret2
    refine ⟨(hb4'.trans (Bar.set w4 R 1 (.slice none 0 0)) (fun i hi => .inl (.inl hi))).trans (Bar.set (w4.setCell ⟨R, 1, none⟩ (.slice none 0 0)) R 2 (.bool true)) (fun i hi => .inl (.inl hi)), .inl ⟨hp, rfl, ?_⟩⟩
    exact ⟨heap_setCell_same _ R 2 _ 124 _ (heap_setCell_same w4 R 1 _ 124 _ hR4.obj), World.ownsRow_nil _ _ _ _, by simp, hR4.from'⟩
  · have hrow : ∀ q ∈ rs, ∀ b, q.1.ownBlock = some b → w3.heap.size ≤ b ∧ b < w4.heap.size := fun q hq b hb => (hll.row q hq).lt b hb
    by_cases hp0 : p = 0
    · subst hp0
      go_wp2_with fail
      go_ret2
      refine ⟨hb4', .inr ⟨v, _, _, rs, hp, rfl, hR4, hll.less hb3.size, hW.out, fun q hq b hb e => ?_⟩⟩
      have := hrow q hq b hb
      have := hR3.own.lt b e
      omega
    · obtain ⟨g, hg⟩ : ∃ g, a1 = some ⟨g, 0, none⟩ := by
        obtain ⟨g, c, e⟩ := own_shape hR3.own (by rw [List.length_append, hB.len]; omega)
        simp only [Value.slice.injEq] at e
        exact ⟨g, e.1⟩
      subst hg
      have hB4 : Bs w4 (some ⟨g, 0, none⟩) (l.length + n) c1 (l ++ zs) := own_bs (by have := hR4.own; rwa [List.length_append, hB.len] at this) hby
      have hc1 := hB4.le
      have hc2 := hB4.reach
      have hfin : ∀ (w5 : World) (g5 d5 : Nat), w5.ownsRow w4.heap.size 5 1 (.slice (some ⟨g5, 0, none⟩) (l.length + n - p) d5) (l.length + n - p) (U ((l ++ zs).drop p)) → Below w4.heap.size w4 w5 →
          Bar (Fd R lv) w1 (w5.setCell ⟨R, 1, none⟩ (.slice (some ⟨g5, 0, none⟩) (l.length + n - p) d5)) ∧ Rd (w5.setCell ⟨R, 1, none⟩ (.slice (some ⟨g5, 0, none⟩) (l.length + n - p) d5)) base R (.slice (some ⟨g5, 0, none⟩) (l.length + n - p) d5) ((l ++ zs).drop p) false ∧
          LL (w5.setCell ⟨R, 1, none⟩ (.slice (some ⟨g5, 0, none⟩) (l.length + n - p) d5)) w1.heap.size v rs ∧ w1.heap.size ≤ g5 ∧ (∀ q ∈ rs, ∀ b, q.1.ownBlock = some b → b ≠ g5) := by
        intro w5 g5 d5 k1 k2
        have hg5 := own_lt k1
        have s3 := hb3.size
        have s4 := hb4.size
        have hR5 := hR4.keep k2
        have hlR := hR3.lt
        have hl5 := hll.keep k2
        refine ⟨(hb4'.trans (Bar.of_fresh k2 : Bar (fun _ => False) w4 w5) (fun i hi => hi.elim)).trans (Bar.set w5 R 1 _) (fun i hi => .inl (.inl hi)), ?_, ?_, by omega, ?_⟩
        · refine ⟨heap_setCell_same w5 R 1 _ 124 _ hR5.obj, ?_, drop_byte hby p, hR5.from'⟩
          rw [List.length_drop, List.length_append, hB.len]
          exact ownsRow_setCell_other (own_less k1 (by omega)) (by simp only [Value.ownBlock, ne_eq, Option.some.injEq]; omega) _
        · refine (hl5.less s3).bar (Bar.set w5 R 1 _) (fun b hb e => ?_) (fun q hq b hb e => ?_)
          · have := hl5.own.lt b hb
            omega
          · have := (hl5.row q hq).lt b hb
            omega
        · intro q hq b hb
          have := hrow q hq b hb
          omega
      have HF := hide hfin
      clear hfin
      have f5 : ∀ w5, Below w4.heap.size w4 w5 → w5.frozen? ⟨R, 1, none⟩ = false ∧ w5.cell? ⟨R, 1, none⟩ = some (.slice (some ⟨g, 0, none⟩) (l.length + n) c1) := fun w5 k => ⟨frozen_of_row w5 R 1 _ 124 (hR4.keep k).obj, (hR4.keep k).c1⟩
      have F5 := hide f5
      clear f5
      by_cases c4 : c1 = p
      · subst c4
        have e0 : l.length + n - c1 = 0 := by omega
        rw [e0] at HF
        clear e0
        go_wp2_with fail
        refine (fcopied_any _ _ _ ((l ++ zs).drop c1) _ (by rw [List.drop_eq_nil_of_le (by rw [List.length_append, hB.len]; omega)]; exact Bs.zero _ _ _ (by omega)) (by omega)).mono ?_
        rintro e w5 ⟨g5, d5, rfl, hown5, hb5⟩
        obtain ⟨f5, k5⟩ := F5.out w5 hb5
        have hf := HF.out w5 g5 d5 hown5 hb5
        clear HF F5 hown5
        go_wp2_with fail
        go_ret2
        exact ⟨hf.1, .inr ⟨v, _, _, rs, hp, rfl, hf.2.1, hf.2.2.1, fun b hb => .inr (by have := hf.2.2.2.1; simp only [Value.ownBlock, Option.some.injEq] at hb; omega), fun q hq b hb e => hf.2.2.2.2 q hq b hb (by simp only [Value.ownBlock, Option.some.injEq] at e; omega)⟩⟩
      · have hP := hB4.mid p (l.length + n - p) (by omega)
        rw [List.take_of_length_le (by simp [hB.len]), Nat.zero_add] at hP
        go_wp2_with fail
        refine (fcopied_any _ _ _ ((l ++ zs).drop p) _ hP (by omega)).mono ?_
        rintro e w5 ⟨g5, d5, rfl, hown5, hb5⟩
        obtain ⟨f5, k5⟩ := F5.out w5 hb5
        have hf := HF.out w5 g5 d5 hown5 hb5
        clear HF F5 hown5
        go_wp2_with fail
        go_ret2
        exact ⟨hf.1, .inr ⟨v, _, _, rs, hp, rfl, hf.2.1, hf.2.2.1, fun b hb => .inr (by have := hf.2.2.2.1; simp only [Value.ownBlock, Option.some.injEq] at hb; omega), fun q hq b hb e => hf.2.2.2.2 q hq b hb (by simp only [Value.ownBlock, Option.some.injEq] at e; omega)⟩⟩

end Go.Proofs.YtkdolabhcbjipaaGreat

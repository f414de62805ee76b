/-
  Texts put into one.
-/
import Derived.Test.YtnimfkcnkkjlkaaPkd164c265
import Derived.BigRegion
import Derived.Test.YtnimfkcnkkjlkaaPk2aed2bb5
import Derived.Deep.RegionHeld3

/-
  The program's writer: what has been put, as long as it fits.
-/
namespace Go.Proofs.Ytnimfkcnkkjlkaa
open Go.RowKit
set_option maxRecDepth 100000

/-- Of what was there nothing has turned but rows of bytes and writers. -/
structure Kp (w w' : World) : Prop where
  size : w.heap.size ≤ w'.heap.size
  block : ∀ (k : Nat) (c : Array Value) (t : TypeId) (f : Nat × Nat), w.heap[k]? = some (.cells c t f) → t ≠ 5 → t ≠ 117 → w'.heap[k]? = some (.cells c t f)

section
variable {w w1 w' : World}

theorem heap_lt {k : Nat} {o : Obj} (h : w.heap[k]? = some o) : k < w.heap.size := (Array.getElem?_eq_some_iff.1 h).1

theorem Kp.refl (w : World) : Kp w w := ⟨Nat.le_refl _, fun _ _ _ _ h _ _ => h⟩
theorem Kp.trans (h : Kp w w1) (k : Kp w1 w') : Kp w w' := ⟨Nat.le_trans h.size k.size, fun i c t f hi h1 h2 => k.block i c t f (h.block i c t f hi h1 h2) h1 h2⟩
theorem Kp.of_below (h : Below w.heap.size w w') : Kp w w' := ⟨h.size, fun i _ _ _ hi _ _ => (h.block i (heap_lt hi)).trans hi⟩
theorem Kp.grown {base n : Nat} {v : Value} {xs : List Value} (ho : w.ownsRow base 5 1 v n xs) (h : w.grownBy w' v.ownBlock) : Kp w w' := by
  refine ⟨h.size, fun i c t f hi h1 _ => (h.block i (heap_lt hi) fun e => ?_).trans hi⟩
  rcases ho.2 with ⟨rfl, _⟩ | ⟨g, cap, cur, rfl, _, hg, _⟩
  · cases e
  · simp only [Value.ownBlock, Option.some.injEq] at e
    subst e
    rw [hg] at hi
    simp only [Option.some.injEq, Obj.cells.injEq] at hi
    exact h1 hi.2.1.symm
theorem Kp.set {R i : Nat} {c : Array Value} {f : Nat × Nat} (hR : w.heap[R]? = some (.cells c 117 f)) (x : Value) : Kp w (w.setCell ⟨R, i, none⟩ x) := by
  refine ⟨by simp [World.setCell], fun k c' t f' hk _ h2 => (Below.heap_setCell w ⟨R, i, none⟩ x k fun e => ?_).trans hk⟩
  simp only at e
  subst e
  rw [hR] at hk
  simp only [Option.some.injEq, Obj.cells.injEq] at hk
  exact h2 hk.2.1.symm

theorem Kp.cell (h : Kp w w') {k i : Nat} {c : Array Value} {t : TypeId} (hk : w.heap[k]? = some (.cells c t (0, 0))) (h1 : t ≠ 5) (h2 : t ≠ 117) {x : Value} (hx : c[i]? = some x) : w'.cell? ⟨k, i, none⟩ = some x := by
  rw [cell_of_row w' k i c t (0, 0) (h.block _ _ _ _ hk h1 h2)]
  exact hx

theorem own_ne {base n R : Nat} {v : Value} {xs : List Value} {c : Array Value} {t : TypeId} {f : Nat × Nat} (ho : w.ownsRow base 5 1 v n xs) (hR : w.heap[R]? = some (.cells c t f)) (ht : t ≠ 5) : v.ownBlock ≠ some R := by
  intro e
  rcases ho.2 with ⟨rfl, _⟩ | ⟨g, cap, cur, rfl, _, hg, _⟩
  · cases e
  · simp only [Value.ownBlock, Option.some.injEq] at e
    subst e
    rw [hg] at hR
    simp only [Option.some.injEq, Obj.cells.injEq] at hR
    exact ht hR.2.1.symm
end

theorem Bar.set (w : World) (g i : Nat) (v : Value) : Bar (fun k => k = g) w (w.setCell ⟨g, i, none⟩ v) :=
  ⟨rfl, rfl, rfl, by simp [World.setCell], fun k _ hk => Below.heap_setCell w ⟨g, i, none⟩ v k hk⟩

/-- The writer at R, which is new behind Wb: zs is what was put to it; what it holds is just that as long as it fits. -/
structure Ws (Wb : World) (R most : Nat) (zs : List Int) (w : World) : Prop where
  low : Below Wb.heap.size Wb w
  ge : Wb.heap.size ≤ R
  lim : most ≤ 100000
  is : ∃ v ys, w.heap[R]? = some (.cells #[v, .int .i64 (most : Int), .bool (decide (most < zs.length))] 117 (0, 0)) ∧ w.ownsRow Wb.heap.size 5 1 v ys.length (U ys) ∧ ys.length ≤ most ∧ (zs.length ≤ most → ys = zs)

/-- What a method of its does: it puts so much. -/
def Pw (Wb : World) (R most : Nat) (zs : List Int) (w : World) (e : Ending) (w' : World) : Prop := e = .returned (.tuple #[]) ∧ Ws Wb R most zs w' ∧ Kp w w'

section
variable {Wb w w' : World} {R most : Nat} {zs : List Int}

theorem Ws.keep (h : Ws Wb R most zs w) (hb : Below w.heap.size w w') : Ws Wb R most zs w' := by
  obtain ⟨v, ys, h1, h2, h3, h4⟩ := h.is
  exact ⟨h.low.trans (hb.mono h.low.size), h.ge, h.lim, v, ys, (hb.block _ (heap_lt h1)).trans h1, keep_own h2 hb, h3, h4⟩

theorem Ws.drew (h : Ws Wb R most zs w) : Ws Wb R most zs w.drew := h.keep (Below.refl _ _).drew
theorem Ws.alloc (h : Ws Wb R most zs w) (o : Obj) : Ws Wb R most zs (w.alloc o) := h.keep (fresh w o)

/-- Once too long, always. -/
theorem Ws.over (h : Ws Wb R most zs w) (hl : most < zs.length) (ys : List Int) (hy : most < ys.length) : Ws Wb R most ys w := by
  obtain ⟨v, xs, h1, h2, h3, h4⟩ := h.is
  refine ⟨h.low, h.ge, h.lim, v, xs, ?_, h2, h3, fun k => absurd k (by omega)⟩
  rw [h1]
  simp [hl, hy]

theorem Ws.long (h : Ws Wb R most zs w) : w.cell? ⟨R, 2, none⟩ = some (.bool (decide (most < zs.length))) := by
  obtain ⟨v, ys, h1, _⟩ := h.is
  rw [cell_of_row w R 2 _ _ (0, 0) h1]
  rfl

/-- What stands behind fits: whether so many bytes more are not too many. -/
structure Wf (Wb : World) (R most : Nat) (zs : List Int) (size : Nat) (v : Value) (ys : List Int) (w : World) : Prop where
  low : Below Wb.heap.size Wb w
  box : w.heap[R]? = some (.cells #[v, .int .i64 (most : Int), .bool (decide (most < zs.length + size))] 117 (0, 0))
  own : w.ownsRow Wb.heap.size 5 1 v ys.length (U ys)
  le : ys.length ≤ most
  eq : zs.length ≤ most → ys = zs

theorem Wf.mk' {v : Value} {ys : List Int} (size : Nat) (b : Bool) (hb : b = decide (most < zs.length + size)) (hl : Below Wb.heap.size Wb w) (hg : Wb.heap.size ≤ R) (h1 : w.heap[R]? = some (.cells #[v, .int .i64 (most : Int), .bool (decide (most < zs.length))] 117 (0, 0)))
    (h2 : w.ownsRow Wb.heap.size 5 1 v ys.length (U ys)) (h3 : ys.length ≤ most) (h4 : zs.length ≤ most → ys = zs) : Wf Wb R most zs size v ys (w.setCell ⟨R, 2, none⟩ (.bool b)) := by
  refine ⟨hl.setCell hg _, ?_, own_bar h2 (Bar.set w R 2 _) (fun k hk e => own_ne h2 h1 (by decide) (by rw [hk, e])), h3, h4⟩
  rw [heap_setCell_same w R 2 _ _ _ h1, hb]
  rfl

theorem Wf.drew {v : Value} {ys : List Int} {n : Nat} (h : Wf Wb R most zs n v ys w) : Wf Wb R most zs n v ys w.drew := ⟨h.low.drew, h.box, h.own, h.le, h.eq⟩

set_option maxHeartbeats 1000000 in
theorem fits_any (n : Nat) (hn : n ≤ 9223372036854775807) (h : Ws Wb R most zs w) :
    Calls Try.prog 93 #[.pointer (some ⟨R, 0, none⟩), .int .i64 (n : Int)] w fun e w' => e = .returned (.bool (decide (zs.length + n ≤ most))) ∧ Bar (fun k => k = R) w w' ∧ ∃ v ys, Wf Wb R most zs n v ys w' := by
  obtain ⟨v, ys, h1, h2, h3, h4⟩ := h.is
  have hm := h.lim
  obtain ⟨va, vc, rfl⟩ := own_val h2
  have c0 : w.cell? ⟨R, 0, none⟩ = some (.slice va ys.length vc) := by rw [cell_of_row w R 0 _ _ (0, 0) h1]; rfl
  have c1 : w.cell? ⟨R, 1, none⟩ = some (.int .i64 (most : Int)) := by rw [cell_of_row w R 1 _ _ (0, 0) h1]; rfl
  have c2 := h.long
  have f2 : w.frozen? ⟨R, 2, none⟩ = false := frozen_of_row w R 2 _ _ h1
  have HW : ∀ b : Bool, b = decide (most < zs.length + n) → Hid (Bar (fun k => k = R) w (w.setCell ⟨R, 2, none⟩ (.bool b)) ∧ Wf Wb R most zs n (.slice va ys.length vc) ys (w.setCell ⟨R, 2, none⟩ (.bool b))) :=
    fun b hb => hide ⟨Bar.set w R 2 _, Wf.mk' n b hb h.low h.ge h1 h2 h3 h4⟩
  by_cases hl : most < zs.length
  · have d1 : decide (most < zs.length) = true := by simpa using hl
    have d2 : decide (zs.length + n ≤ most) = false := by simp; omega
    have H := HW true (by simp; omega)
    rw [d1] at c2
    rw [d2]
    clear HW h h1 h2
    go_enter Try.func93, Try.ntmps93
    go_wp2_with fail
    go_region
    all_goals
      go_wp2_with fail
      go_ret
      exact ⟨rfl, H.out.1.trans (Bar.of_fresh (S := fun k => k = R) (Below.refl _ _).drew) (fun _ h => .inl h), _, _, H.out.2.drew⟩
  · have hl' : zs.length ≤ most := by omega
    obtain rfl := h4 hl'
    have d1 : decide (most < ys.length) = false := by simpa using hl
    rw [d1] at c2
    by_cases hf : ys.length + n ≤ most
    · have d2 : decide (ys.length + n ≤ most) = true := by simpa using hf
      have H := HW false (by simp; omega)
      rw [d2]
      have q : decide ((most : Int) - (ys.length : Int) < (n : Int)) = false := by simp; omega
      clear HW h h1 h2
      go_enter Try.func93, Try.ntmps93
      go_wp2_with fail
      go_region
      all_goals
        go_wp2_with fail
        go_ret
        exact ⟨rfl, H.out.1.trans (Bar.of_fresh (S := fun k => k = R) (Below.refl _ _).drew) (fun _ h => .inl h), _, _, H.out.2.drew⟩
    · have d2 : decide (ys.length + n ≤ most) = false := by simpa using hf
      have H := HW true (by simp; omega)
      rw [d2]
      have q : (most : Int) - (ys.length : Int) < (n : Int) := by omega
      clear HW h h1 h2
      go_enter Try.func93, Try.ntmps93
      go_wp2_with fail
      go_region
      all_goals
        go_wp2_with fail
        go_ret
        exact ⟨rfl, H.out.1.trans (Bar.of_fresh (S := fun k => k = R) (Below.refl _ _).drew) (fun _ h => .inl h), _, _, H.out.2.drew⟩

/-- Behind fits nothing more is put. -/
theorem Wf.no {v : Value} {ys : List Int} {n : Nat} (h : Wf Wb R most zs n v ys w) (hg : Wb.heap.size ≤ R) (hm : most ≤ 100000) (xs : List Int) (hx : xs.length = n) (hf : ¬ zs.length + n ≤ most) : Ws Wb R most (zs ++ xs) w := by
  refine ⟨h.low, hg, hm, v, ys, ?_, h.own, h.le, fun k => ?_⟩
  · rw [h.box, List.length_append, hx]
  · rw [List.length_append] at k
    omega

/-- Or so much. -/
theorem Wf.yes {v v' : Value} {ys : List Int} {n : Nat} (h : Wf Wb R most zs n v ys w) (hg : Wb.heap.size ≤ R) (hm : most ≤ 100000) (xs : List Int) (hx : xs.length = n) (hf : zs.length + n ≤ most) (ho : w'.ownsRow Wb.heap.size 5 1 v' (zs ++ xs).length (U (zs ++ xs))) (hgr : w.grownBy w' v.ownBlock) :
    w'.cell? ⟨R, 0, none⟩ = some v ∧ w'.frozen? ⟨R, 0, none⟩ = false ∧ Ws Wb R most (zs ++ xs) (w'.setCell ⟨R, 0, none⟩ v') ∧ Kp w (w'.setCell ⟨R, 0, none⟩ v') := by
  have hb : w'.heap[R]? = _ := (hgr.block R (heap_lt h.box) (fun e => own_ne h.own h.box (by decide) e.symm)).trans h.box
  refine ⟨by rw [cell_of_row w' R 0 _ _ (0, 0) hb]; rfl, frozen_of_row w' R 0 _ _ hb, ⟨?_, hg, hm, v', zs ++ xs, ?_, ?_, by rw [List.length_append, hx]; exact hf, fun _ => rfl⟩, (Kp.grown h.own hgr).trans (Kp.set hb _)⟩
  · exact (h.low.grown hgr h.low.size (fun k hk => own_from h.own hk)).setCell hg _
  · rw [heap_setCell_same w' R 0 _ _ _ hb, List.length_append, hx]
    rfl
  · exact own_bar ho (Bar.set w' R 0 _) (fun k hk e => own_ne ho hb (by decide) (by rw [hk, e]))

theorem Kp.bar {c : Array Value} {f : Nat × Nat} (hR : w.heap[R]? = some (.cells c 117 f)) (h : Bar (fun k => k = R) w w') : Kp w w' := by
  refine ⟨h.size, fun k c' t f' hk _ h2 => (h.block k (heap_lt hk) fun e => ?_).trans hk⟩
  subst e
  rw [hR] at hk
  simp only [Option.some.injEq, Obj.cells.injEq] at hk
  exact h2 hk.2.1.symm

/-- Bytes do not lie in the writer. -/
theorem Bs.aside {c : Option Addr} {m d : Nat} {xs : List Int} (hB : Bs w c m d xs) (h : Ws Wb R most zs w) (hb : Bar (fun k => k = R) w w') : Bs w' c m d xs := by
  obtain ⟨v, ys, h1, h2, _⟩ := h.is
  obtain ⟨va, vc, rfl⟩ := own_val h2
  refine ⟨hB.len, hB.le, hB.reach, hB.byte, hB.bare, fun hn => ?_⟩
  obtain ⟨b, off, ha, hc⟩ := hB.lies hn
  refine ⟨b, off, ha, fun i hi => ?_⟩
  have hci := hc i hi
  refine (World.cell?_of_block (hb.block b (cell_lt hci) fun e => ?_)).trans hci
  subst e
  rw [cell_of_row w b (off + i) _ _ (0, 0) h1] at hci
  rcases Nat.lt_or_ge (off + i) 3 with hlt | hge
  · have : off + i = 0 ∨ off + i = 1 ∨ off + i = 2 := by omega
    rcases this with e | e | e <;> rw [e] at hci <;> simp at hci
  · rw [Array.getElem?_eq_none (by simpa using hge)] at hci
    cases hci

set_option maxHeartbeats 1000000 in
theorem raw_any (c : Option Addr) (m d : Nat) (xs : List Int) (hB : Bs w c m d xs) (h : Ws Wb R most zs w) :
    Calls Try.prog 94 #[.pointer (some ⟨R, 0, none⟩), .slice c m d] w (Pw Wb R most (zs ++ xs) w) := by
  obtain ⟨i0, hi, hz0, hz1, hz2⟩ := info_parts info5
  have hl := hB.len
  have hle := hB.le
  have hre := hB.reach
  have hg := h.ge
  have hm := h.lim
  go_enter Try.func94, Try.ntmps94
  go_wp2_with fail
  refine (fits_any m (by omega) h).mono ?_
  rintro e w1 ⟨rfl, hbar, v, ys, hf⟩
  have HB := hB.aside h hbar
  have hk : Kp w w1 := by
    obtain ⟨v, ys, h1, _⟩ := h.is
    exact Kp.bar h1 hbar
  by_cases hfit : zs.length + m ≤ most
  · have d2 : decide (zs.length + m ≤ most) = true := by simpa using hfit
    have hyz := (hf.eq (by omega)).symm
    subst hyz
    obtain ⟨va, vc, rfl⟩ := own_val hf.own
    have c0 : w1.cell? ⟨R, 0, none⟩ = some (.slice va zs.length vc) := by rw [cell_of_row w1 R 0 _ _ (0, 0) hf.box]; rfl
    have hs1 := hf.low.size
    have HF := hide hf
    have HO := hide hf.own
    have HK := hide hk
    clear hf hk h
    rw [d2]
    go_wp2_with (at_builtin; refine wpList_append_two rfl (.tmp 12) (.tmp 13) 22 22 rfl Wb.heap.size 5 5 i0 Try.underlying22 Try.underlying22 hi hz0 hz1 hz2 _ zs.length zs rfl HO.out _ _ _ _ rfl HB (by omega) (by omega) ?_; intro v3 w3 ho3 hgr3 hgo3; clear hgo3; obtain ⟨v3a, v3c, rfl⟩ := own_val ho3; have HY := hide (HF.out.yes hg hm xs hl hfit (by rw [List.length_append, hl]; exact ho3) hgr3); have q0 := HY.out.1; have q1 := HY.out.2.1; clear ho3 hgr3)
    go_end0
    exact ⟨rfl, HY.out.2.2.1, HK.out.trans HY.out.2.2.2⟩
  · have d2 : decide (zs.length + m ≤ most) = false := by simpa using hfit
    have HS := hide (hf.no hg hm xs hl hfit)
    have HK := hide hk
    clear hf hk h
    rw [d2]
    go_wp2_with fail
    go_end0
    exact ⟨rfl, HS.out, HK.out⟩
end

end Go.Proofs.Ytnimfkcnkkjlkaa

/-
  The program's writer: sizes, bytes, texts, numbers, flags.
-/
namespace Go.Proofs.Ytnimfkcnkkjlkaa
open Go.RowKit
set_option maxRecDepth 100000

section
variable {Wb w : World} {R most : Nat} {zs : List Int}

theorem Pw.after {w1 w' : World} {e : Ending} (hb : Below w.heap.size w w1) (h : Pw Wb R most zs w1 e w') : Pw Wb R most zs w e w' := ⟨h.1, h.2.1, (Kp.of_below hb).trans h.2.2⟩

set_option maxHeartbeats 1000000 in
theorem wsize_any (n : Nat) (hn : n ≤ 9223372036854775807) (h : Ws Wb R most zs w) :
    Calls Try.prog 92 #[.pointer (some ⟨R, 0, none⟩), .int .i64 (n : Int)] w (Pw Wb R most (zs ++ vb n) w) := by
  have HP := hide (put_bs none 0 0 [] n (by omega) w (Bs.nil _) (by omega))
  rw [List.nil_append, Nat.zero_add] at HP
  have H := hide h
  clear h
  go_enter Try.func92, Try.ntmps92
  go_wp2_with fail
  refine HP.out.mono ?_
  rintro e w1 ⟨g, rfl, hB, _, hb⟩
  go_wp2_with fail
  refine (raw_any _ _ _ _ hB (H.out.keep hb)).mono ?_
  rintro e w2 ⟨rfl, h2, k2⟩
  have HE := hide (And.intro h2 ((Kp.of_below hb).trans k2))
  clear h2 k2
  go_wp2_with fail
  go_end0
  exact ⟨rfl, HE.out⟩

set_option maxHeartbeats 1000000 in
theorem wnum_any (n : Int) (hn : I64 n) (h : Ws Wb R most zs w) : Calls Try.prog 95 #[.slice none 0 0, .int .i64 n] w fun e w1 => ∃ c m d, e = .returned (.slice c m d) ∧ Bs w1 c m d (vb (fo n)) ∧ Below w.heap.size w w1 ∧ Ws Wb R most zs w1 := by
  have HP := putInt_bs none 0 0 [] n hn.1 hn.2 w (Bs.nil _) (by omega)
  rw [List.nil_append, Nat.zero_add] at HP
  refine HP.mono ?_
  rintro e w1 ⟨g, rfl, hB, _, hb⟩
  exact ⟨_, _, _, rfl, hB, hb, h.keep hb⟩

set_option maxHeartbeats 1000000 in
theorem wbytes_any (c : Option Addr) (m d : Nat) (xs : List Int) (hB : Bs Wb c m d xs) (h : Ws Wb R most zs w) :
    Calls Try.prog 67 #[.pointer (some ⟨R, 0, none⟩), .slice c m d] w (Pw Wb R most (zs ++ Cod.data.put xs) w) := by
  have hl := hB.len
  have hle := hB.le
  have hre := hB.reach
  have ez : zs ++ Cod.data.put xs = zs ++ vb m ++ xs := by simp [Cod.data, hl]
  rw [ez]
  clear ez
  go_enter Try.func67, Try.ntmps67
  go_wp2_with fail
  refine (wsize_any m (by omega) h).mono ?_
  rintro e w1 ⟨rfl, h1, k1⟩
  go_wp2_with fail
  refine (raw_any _ _ _ _ (hB.keep h1.low) h1).mono ?_
  rintro e w2 ⟨rfl, h2, k2⟩
  have HE := hide (And.intro h2 (k1.trans k2))
  clear h1 h2 k1 k2 h
  go_wp2_with fail
  go_end0
  exact ⟨rfl, HE.out⟩

set_option maxHeartbeats 1000000 in
theorem wtext_any (s : ByteArray) (hs : s.size ≤ 9223372036854775807) (h : Ws Wb R most zs w) :
    Calls Try.prog 62 #[.pointer (some ⟨R, 0, none⟩), .string s] w (Pw Wb R most (zs ++ Cod.data.put (sb s)) w) := by
  obtain ⟨i0, hi, hz0, hz1, hz2⟩ := info_parts info5
  have hl := sb_length s
  have ez : zs ++ Cod.data.put (sb s) = zs ++ vb s.size ++ sb s := by simp [Cod.data, hl]
  rw [ez]
  clear ez
  have hg := h.ge
  have hm := h.lim
  go_enter Try.func62, Try.ntmps62
  go_wp2_with fail
  refine (wsize_any s.size hs h).mono ?_
  rintro e w1 ⟨rfl, h1, k1⟩
  have hp : 0 < (zs ++ vb s.size).length := by
    have := vb_pos s.size
    rw [List.length_append]
    omega
  generalize zs ++ vb s.size = ys at *
  go_wp2_with fail
  refine (fits_any s.size hs h1).mono ?_
  rintro e w2 ⟨rfl, hbar, v, xs, hf⟩
  have hk : Kp w w2 := by
    obtain ⟨v, ys, h1', _⟩ := h1.is
    exact k1.trans (Kp.bar h1' hbar)
  by_cases hfit : ys.length + s.size ≤ most
  · have d2 : decide (ys.length + s.size ≤ most) = true := by simpa using hfit
    have hyz := (hf.eq (by omega)).symm
    subst hyz
    obtain ⟨va, vc, rfl⟩ := own_val hf.own
    have c0 : w2.cell? ⟨R, 0, none⟩ = some (.slice va ys.length vc) := by rw [cell_of_row w2 R 0 _ _ (0, 0) hf.box]; rfl
    have hs1 := hf.low.size
    have HF := hide hf
    have HO := hide hf.own
    have HK := hide hk
    clear hf hk h h1 k1 hbar
    rw [d2]
    go_wp2_with (at_builtin; refine wpList_append_text rfl (.tmp 16) (.tmp 17) 22 9 rfl Wb.heap.size 5 i0 Try.underlying22 Try.underlying9 hi hz0 hz1 hz2 _ ys.length ys rfl HO.out hp s rfl (by omega) (by omega) ?_; intro v3 w3 ho3 hgr3 hgo3; clear hgo3; obtain ⟨v3a, v3c, rfl⟩ := own_val ho3; have HY := hide (HF.out.yes hg hm (sb s) hl hfit (by rw [List.length_append, hl]; exact ho3) hgr3); have q0 := HY.out.1; have q1 := HY.out.2.1; clear ho3 hgr3)
    go_end0
    exact ⟨rfl, HY.out.2.2.1, HK.out.trans HY.out.2.2.2⟩
  · have d2 : decide (ys.length + s.size ≤ most) = false := by simpa using hfit
    have HS := hide (hf.no hg hm (sb s) hl hfit)
    have HK := hide hk
    clear hf hk h h1 k1 hbar
    rw [d2]
    go_wp2_with fail
    go_end0
    exact ⟨rfl, HS.out, HK.out⟩

set_option maxHeartbeats 1000000 in
theorem wflag_any (b : Bool) (h : Ws Wb R most zs w) :
    Calls Try.prog 64 #[.pointer (some ⟨R, 0, none⟩), .bool b] w (Pw Wb R most (zs ++ Cod.bool.put b) w) := by
  have hB : ∀ k : Int, 0 ≤ k ∧ k ≤ 255 → Bs (w.alloc (.cells #[.int .u8 k] 5)) (some ⟨w.heap.size, 0, none⟩) 1 1 [k] := fun k hk => Bs.lit w [k] 1 rfl (by omega) (by simpa using hk)
  cases b with
  | true =>
    have hB1 := hB 1 (by omega)
    clear hB
    go_enter Try.func64, Try.ntmps64
    go_wp2_with fail
    refine (raw_any _ _ _ _ hB1 (h.alloc _)).mono ?_
    rintro e w2 ⟨rfl, h2, k2⟩
    have HE := hide (And.intro h2 ((Kp.of_below (fresh w _)).trans k2))
    clear h2 k2 h hB1
    go_wp2_with fail
    go_end0
    exact ⟨rfl, HE.out⟩
  | false =>
    have hB1 := hB 0 (by omega)
    clear hB
    go_enter Try.func64, Try.ntmps64
    go_wp2_with fail
    refine (raw_any _ _ _ _ hB1 (h.alloc _)).mono ?_
    rintro e w2 ⟨rfl, h2, k2⟩
    have HE := hide (And.intro h2 ((Kp.of_below (fresh w _)).trans k2))
    clear h2 k2 h hB1
    go_wp2_with fail
    go_end0
    exact ⟨rfl, HE.out⟩

/-- Numbers, one behind the other. -/
def vbs : List Int → List Int
  | [] => []
  | n :: l => vb (fo n) ++ vbs l

theorem vbs_append (l m : List Int) : vbs (l ++ m) = vbs l ++ vbs m := by
  induction l with
  | nil => rfl
  | cons n l ih => simp [vbs, ih]

theorem vbs_take (l : List Int) (k : Nat) (h : k < l.length) : vbs (l.take (k + 1)) = vbs (l.take k) ++ vb (fo l[k]) := by
  rw [List.take_succ_eq_append_getElem h, vbs_append]
  simp [vbs]

set_option maxHeartbeats 1000000 in
theorem wnums_any (g : Nat) (ns : List Int) (hI : ∀ n ∈ ns, I64 n) (m : Nat) (hm : ns.length = m) (hm2 : m ≤ 100) (hg : w.heap[g]? = some (.cells (ns.map (Value.int .i64)).toArray 2 (0, 0))) (h : Ws Wb R most zs w) :
    Calls Try.prog 63 #[.pointer (some ⟨R, 0, none⟩), .slice (some ⟨g, 0, none⟩) m m] w (Pw Wb R most (zs ++ vbs ns) w) := by
  have HG := hide hg
  have H0 := hide h
  clear hg h
  go_enter Try.func63, Try.ntmps63
  go_wp2_with fail
  go_loopw [5, 8] (fun _ i wr => ∃ k : Nat, k ≤ m ∧ i = .int .i64 k ∧ Hid (Ws Wb R most (zs ++ vbs (ns.take k)) wr ∧ Kp w wr)) (fun _ i _ => m - (intOf i).toNat)
  case atStart => exact ⟨0, Nat.zero_le _, rfl, hide ⟨by simpa [vbs] using H0.out, Kp.refl _⟩⟩
  case round =>
    obtain ⟨k, hk, rfl, hS⟩ := hrel
    by_cases hlt : k < m
    · have hk1 : wr.cell? ⟨g, 0 + k, none⟩ = some (.int .i64 ns[k]) := hS.out.2.cell HG.out (by decide) (by decide) (by simp [show k < ns.length by omega])
      rw [Nat.zero_add] at hk1
      have hn : I64 ns[k] := hI _ (List.getElem_mem _)
      have et := hide (vbs_take ns k (by omega))
      generalize ns[k] = x at hk1 hn et
      go_wp2_with fail
      refine (wnum_any x hn hS.out.1).mono ?_
      rintro e w1 ⟨c1, m1, d1, rfl, hB, hb, h1⟩
      go_wp2_with fail
      refine (raw_any _ _ _ _ hB h1).mono ?_
      rintro e w2 ⟨rfl, h2, k2⟩
      have HE := hide (And.intro h2 ((hS.out.2.trans (Kp.of_below hb)).trans k2))
      clear h2 k2 h1 hb hB
      go_wp2_with fail
      go_roundw
      case rel => exact ⟨k + 1, by omega, by go_num, hide (by rw [et.out, ← List.append_assoc]; exact HE.out)⟩
      case measure => simp [intOf]; omega
    · obtain rfl : k = m := by omega
      have hS' := hS.out
      rw [List.take_of_length_le (by omega)] at hS'
      have HS := hide hS'
      clear hS'
      go_wp2_with fail
      go_end0
      exact ⟨rfl, HS.out⟩

/-- So many, laid for the call. -/
theorem wnums (g : Nat) (hg : w.heap.size = g) (ns : List Int) (hI : ∀ n ∈ ns, I64 n) (hm : ns.length ≤ 100) (h : Ws Wb R most zs w) :
    Calls Try.prog 63 #[.pointer (some ⟨R, 0, none⟩), .slice (some ⟨g, 0, none⟩) ns.length ns.length] (w.alloc (.cells (ns.map (Value.int .i64)).toArray 2)) (Pw Wb R most (zs ++ vbs ns) w) := by
  subst hg
  exact (wnums_any w.heap.size ns hI _ rfl hm (heap_alloc_new w _) (h.alloc _)).mono fun _ _ hp => hp.after (fresh w _)

theorem wnums1 (g : Nat) (hg : w.heap.size = g) (a : Int) (ha : I64 a) (h : Ws Wb R most zs w) :
    Calls Try.prog 63 #[.pointer (some ⟨R, 0, none⟩), .slice (some ⟨g, 0, none⟩) 1 1] (w.alloc (.cells #[.int .i64 a] 2)) (Pw Wb R most (zs ++ vb (fo a)) w) := by
  have := wnums g hg [a] (by simpa using ha) (by simp) h
  simpa [vbs] using this

theorem wnums2 (g : Nat) (hg : w.heap.size = g) (a b : Int) (ha : I64 a) (hb : I64 b) (h : Ws Wb R most zs w) :
    Calls Try.prog 63 #[.pointer (some ⟨R, 0, none⟩), .slice (some ⟨g, 0, none⟩) 2 2] (w.alloc (.cells #[.int .i64 a, .int .i64 b] 2)) (Pw Wb R most (zs ++ vb (fo a) ++ vb (fo b)) w) := by
  have := wnums g hg [a, b] (by simpa using ⟨ha, hb⟩) (by simp) h
  simpa [vbs, List.append_assoc] using this

theorem wnums3 (g : Nat) (hg : w.heap.size = g) (a b c : Int) (ha : I64 a) (hb : I64 b) (hc : I64 c) (h : Ws Wb R most zs w) :
    Calls Try.prog 63 #[.pointer (some ⟨R, 0, none⟩), .slice (some ⟨g, 0, none⟩) 3 3] (w.alloc (.cells #[.int .i64 a, .int .i64 b, .int .i64 c] 2)) (Pw Wb R most (zs ++ vb (fo a) ++ vb (fo b) ++ vb (fo c)) w) := by
  have := wnums g hg [a, b, c] (by simpa using ⟨ha, hb, hc⟩) (by simp) h
  simpa [vbs, List.append_assoc] using this

theorem wnums4 (g : Nat) (hg : w.heap.size = g) (a b c d : Int) (ha : I64 a) (hb : I64 b) (hc : I64 c) (hd : I64 d) (h : Ws Wb R most zs w) :
    Calls Try.prog 63 #[.pointer (some ⟨R, 0, none⟩), .slice (some ⟨g, 0, none⟩) 4 4] (w.alloc (.cells #[.int .i64 a, .int .i64 b, .int .i64 c, .int .i64 d] 2)) (Pw Wb R most (zs ++ vb (fo a) ++ vb (fo b) ++ vb (fo c) ++ vb (fo d)) w) := by
  have := wnums g hg [a, b, c, d] (by simpa using ⟨ha, hb, hc, hd⟩) (by simp) h
  simpa [vbs, List.append_assoc] using this

theorem wnums5 (g : Nat) (hg : w.heap.size = g) (a b c d e : Int) (ha : I64 a) (hb : I64 b) (hc : I64 c) (hd : I64 d) (he : I64 e) (h : Ws Wb R most zs w) :
    Calls Try.prog 63 #[.pointer (some ⟨R, 0, none⟩), .slice (some ⟨g, 0, none⟩) 5 5] (w.alloc (.cells #[.int .i64 a, .int .i64 b, .int .i64 c, .int .i64 d, .int .i64 e] 2)) (Pw Wb R most (zs ++ vb (fo a) ++ vb (fo b) ++ vb (fo c) ++ vb (fo d) ++ vb (fo e)) w) := by
  have := wnums g hg [a, b, c, d, e] (by simpa using ⟨ha, hb, hc, hd, he⟩) (by simp) h
  simpa [vbs, List.append_assoc] using this
end

end Go.Proofs.Ytnimfkcnkkjlkaa

/-
  The program's writer: the variable that holds it.
-/
namespace Go.Proofs.Ytnimfkcnkkjlkaa
open Go.RowKit
set_option maxRecDepth 100000

section
variable {Wb w : World} {R most : Nat} {zs : List Int}

/-- The variable that holds the writer, as a closure has it. -/
def Wv (w : World) (B R : Nat) : Prop := w.heap[B]? = some (.cells #[.pointer (some ⟨R, 0, none⟩)] (85 : TypeId) (0, 0))
theorem Wv.cell {B : Nat} (h : Wv w B R) : w.cell? ⟨B, 0, none⟩ = some (.pointer (some ⟨R, 0, none⟩)) := by rw [cell_of_row w B 0 _ _ (0, 0) h]; rfl
theorem Wv.keep {w' : World} {B : Nat} (h : Wv w B R) (k : Kp w w') : Wv w' B R := k.block _ _ _ _ h (by decide) (by decide)
theorem Wv.alloc {B : Nat} (h : Wv w B R) (o : Obj) : Wv (w.alloc o) B R := h.keep (Kp.of_below (fresh w o))

theorem boxes2 (w : World) (o o' : Obj) : ((w.alloc o).alloc o').heap[w.heap.size]? = some o ∧ ((w.alloc o).alloc o').heap[w.heap.size + 1]? = some o' := by
  refine ⟨(Below.heap_alloc _ _ _ (by simp)).trans (heap_alloc_new w o), ?_⟩
  have := heap_alloc_new (w.alloc o) o'
  simpa using this
end

end Go.Proofs.Ytnimfkcnkkjlkaa

/-
  The program's writer: records, texts, places, batches.
-/
namespace Go.Proofs.Ytnimfkcnkkjlkaa
open Go.RowKit
set_option maxRecDepth 100000
set_option linter.unusedVariables false

section
variable {Wb w : World} {R most : Nat} {zs : List Int}

set_option maxHeartbeats 4000000 in
theorem wrecord_any (xa : Option Addr) (xn xc : Nat) (x : List Int) (hx : Bs Wb xa xn xc x) (B : Nat) (hv : Wv w B R) (h : Ws Wb R most zs w) :
    Calls Try.prog 98 #[.slice xa xn xc, .pointer (some ⟨B, 0, none⟩)] w (Pw Wb R most (zs ++ Cod.data.put (x)) w) := by
  have HV : Hid (∀ V, Kp w V → Wv V B R) := hide fun V k => hv.keep k
  have HB : Hid (∀ V, Kp w V → V.cell? ⟨B, 0, none⟩ = some (.pointer (some ⟨R, 0, none⟩))) := hide fun V k => (hv.keep k).cell
  have K0 : Hid (Kp w w) := hide (Kp.refl w)
  have h0 : Ws Wb R most zs w := h
  have k0 := Kp.refl w
  obtain c0 := HB.out _ k0
  clear h hv
  go_enter Try.func98, Try.ntmps98
  go_wp2_with fail
  refine (wbytes_any _ _ _ _ hx h0).mono ?_
  rintro e w1 ⟨rfl, h1, k⟩
  have k1 := k0.trans k
  clear k k0 h0 c0
  obtain c0 := HB.out _ k1
  have HE := hide (And.intro h1 (K0.out.trans k1))
  clear h1 k1 HB K0 c0
  go_wp2_with fail
  go_end0
  first
    | exact ⟨rfl, HE.out⟩
    | exact ⟨rfl, by simpa only [List.append_assoc] using HE.out⟩

set_option maxHeartbeats 1000000 in
theorem wlbytes_any (a : Option Addr) (n cap : Nat) (ll : List (List Int)) (hR : Sq RBytes 1 Wb a n cap ll) (B : Nat) (hv : Wv w B R) (h : Ws Wb R most zs w) :
    Calls Try.prog 97 #[.pointer (some ⟨R, 0, none⟩), .slice a n cap, .func (.func 98) #[] #[.pointer (some ⟨B, 0, none⟩)]] w (Pw Wb R most (zs ++ (Cod.list Cod.data).put ll) w) := by
  have hl := hR.len
  have hle := hR.le
  have hre := hR.reach
  have ez : zs ++ (Cod.list Cod.data).put ll = zs ++ vb n ++ Cod.puts Cod.data ll := by rw [list_put _ _ n hl, List.append_assoc]
  rw [ez]
  clear ez
  have HV := hide hv
  clear hv
  go_enter Try.func97, Try.ntmps97
  go_wp2_with fail
  refine (wsize_any n (by omega) h).mono ?_
  rintro e w1 ⟨rfl, h1, k1⟩
  have H1 := hide h1
  have K1 := hide k1
  clear h1 k1 h
  go_wp2_with fail
  go_loopw [7, 14] (fun _ i wr => ∃ k : Nat, k ≤ n ∧ i = .int .i64 k ∧ Hid (Ws Wb R most (zs ++ vb n ++ Cod.puts Cod.data (ll.take k)) wr ∧ Kp w wr)) (fun _ i _ => n - (intOf i).toNat)
  case atStart => exact ⟨0, Nat.zero_le _, rfl, hide ⟨by simpa [Cod.puts] using H1.out, K1.out⟩⟩
  case round =>
    obtain ⟨i, hk, rfl, hS⟩ := hrel
    by_cases hlt : i < n
    · obtain ⟨b1, o1, rfl, hc1⟩ := hR.lies (by omega)
      have hrd := hc1 i (by omega)
      have et := puts_take Cod.data ll i (by omega)
      have ET := hide et
      clear et hc1
      generalize ll[i] = x at hrd ET
      obtain ⟨xa, xn, xc, qx, hx⟩ := hrd
      rw [Nat.mul_one] at qx
      have qx := cell_keep qx hS.out.1.low
      have i1 : (i : Int) < (n : Int) := by omega
      have i2 : (0 : Int) ≤ (i : Int) := by omega
      have hA := hS.out.1
      have hKA := hide hS.out.2
      have cl := hA.long
      by_cases hlong : most < (zs ++ vb n ++ Cod.puts Cod.data (ll.take i)).length
      · rw [decide_eq_true hlong] at cl
        have HE := hide (And.intro (hA.over hlong (zs ++ vb n ++ Cod.puts Cod.data ll) (by
          have := puts_len Cod.data ll i
          simp only [List.length_append] at *
          omega)) hKA.out)
        clear hA hKA ET
        go_wp2_with fail
        go_end0
        first
          | exact ⟨rfl, HE.out⟩
          | exact ⟨rfl, by simpa only [List.append_assoc] using HE.out⟩
      · rw [decide_eq_false hlong] at cl
        have hv := HV.out.keep hKA.out
        have HA := hide hA
        clear hA
        go_wp2_with fail
        refine (wrecord_any xa xn xc x hx B hv HA.out).mono ?_
        rintro e w2 ⟨rfl, h2, k2⟩
        have HE := hide (And.intro h2 (hKA.out.trans k2))
        clear h2 k2
        go_wp2_with fail
        go_roundw
        case rel => exact ⟨i + 1, by omega, by go_num, hide (by first | (rw [ET.out, ← List.append_assoc]; exact HE.out) | simpa only [ET.out, List.append_assoc] using HE.out)⟩
        case measure => simp [intOf]; omega
    · obtain rfl : i = n := by omega
      have hS' := hS.out
      rw [List.take_of_length_le (by omega)] at hS'
      have HS := hide hS'
      clear hS'
      go_wp2_with fail
      go_end0
      first
        | exact ⟨rfl, HS.out⟩
        | exact ⟨rfl, by simpa only [List.append_assoc] using HS.out⟩

set_option maxHeartbeats 4000000 in
theorem wrecords_any (a : Option Addr) (n cap : Nat) (l : List (List Int)) (hR : Sq RBytes 1 Wb a n cap l) (h : Ws Wb R most zs w) :
    Calls Try.prog 73 #[.pointer (some ⟨R, 0, none⟩), .slice a n cap] w (Pw Wb R most (zs ++ (Cod.list Cod.data).put l) w) := by
  have hv : Wv (w.alloc (.cells #[.pointer (some ⟨R, 0, none⟩)] (85 : TypeId))) w.heap.size R := heap_alloc_new w _
  have c0 := hv.cell
  have H0 := hide (h.alloc (.cells #[.pointer (some ⟨R, 0, none⟩)] (85 : TypeId)))
  have K0 := hide (Kp.of_below (fresh w (.cells #[.pointer (some ⟨R, 0, none⟩)] (85 : TypeId))))
  have HV := hide hv
  clear hv h
  have hmf : ∀ (fn : Fn) (first cap : Array Value) (w : World), (Instr.makeFunc fn first cap).run Try.prog w = .ok (.func fn first cap) w := fun _ _ _ _ => rfl
  go_enter Try.func73, Try.ntmps73
  go_wp2_with fail
  refine (wlbytes_any _ _ _ _ hR w.heap.size HV.out H0.out).mono ?_
  rintro e w1 ⟨rfl, h1, k1⟩
  have HE := hide (And.intro h1 (K0.out.trans k1))
  clear h1 k1 c0
  go_wp2_with fail
  go_end0
  exact ⟨rfl, HE.out⟩

set_option maxHeartbeats 4000000 in
theorem wtextc_any (x : ByteArray) (hx : x.size ≤ 9223372036854775807) (B : Nat) (hv : Wv w B R) (h : Ws Wb R most zs w) :
    Calls Try.prog 102 #[.string x, .pointer (some ⟨B, 0, none⟩)] w (Pw Wb R most (zs ++ Cod.data.put (sb x)) w) := by
  have HV : Hid (∀ V, Kp w V → Wv V B R) := hide fun V k => hv.keep k
  have HB : Hid (∀ V, Kp w V → V.cell? ⟨B, 0, none⟩ = some (.pointer (some ⟨R, 0, none⟩))) := hide fun V k => (hv.keep k).cell
  have K0 : Hid (Kp w w) := hide (Kp.refl w)
  have h0 : Ws Wb R most zs w := h
  have k0 := Kp.refl w
  obtain c0 := HB.out _ k0
  clear h hv
  go_enter Try.func102, Try.ntmps102
  go_wp2_with fail
  refine (wtext_any _ hx h0).mono ?_
  rintro e w1 ⟨rfl, h1, k⟩
  have k1 := k0.trans k
  clear k k0 h0 c0
  obtain c0 := HB.out _ k1
  have HE := hide (And.intro h1 (K0.out.trans k1))
  clear h1 k1 HB K0 c0
  go_wp2_with fail
  go_end0
  first
    | exact ⟨rfl, HE.out⟩
    | exact ⟨rfl, by simpa only [List.append_assoc] using HE.out⟩

set_option maxHeartbeats 1000000 in
theorem wlstr_any (a : Option Addr) (n cap : Nat) (ll : List (List Int)) (hR : Sq RText 1 Wb a n cap ll) (B : Nat) (hv : Wv w B R) (h : Ws Wb R most zs w) :
    Calls Try.prog 101 #[.pointer (some ⟨R, 0, none⟩), .slice a n cap, .func (.func 102) #[] #[.pointer (some ⟨B, 0, none⟩)]] w (Pw Wb R most (zs ++ (Cod.list Cod.data).put ll) w) := by
  have hl := hR.len
  have hle := hR.le
  have hre := hR.reach
  have ez : zs ++ (Cod.list Cod.data).put ll = zs ++ vb n ++ Cod.puts Cod.data ll := by rw [list_put _ _ n hl, List.append_assoc]
  rw [ez]
  clear ez
  have HV := hide hv
  clear hv
  go_enter Try.func101, Try.ntmps101
  go_wp2_with fail
  refine (wsize_any n (by omega) h).mono ?_
  rintro e w1 ⟨rfl, h1, k1⟩
  have H1 := hide h1
  have K1 := hide k1
  clear h1 k1 h
  go_wp2_with fail
  go_loopw [7, 14] (fun _ i wr => ∃ k : Nat, k ≤ n ∧ i = .int .i64 k ∧ Hid (Ws Wb R most (zs ++ vb n ++ Cod.puts Cod.data (ll.take k)) wr ∧ Kp w wr)) (fun _ i _ => n - (intOf i).toNat)
  case atStart => exact ⟨0, Nat.zero_le _, rfl, hide ⟨by simpa [Cod.puts] using H1.out, K1.out⟩⟩
  case round =>
    obtain ⟨i, hk, rfl, hS⟩ := hrel
    by_cases hlt : i < n
    · obtain ⟨b1, o1, rfl, hc1⟩ := hR.lies (by omega)
      have hrd := hc1 i (by omega)
      have et := puts_take Cod.data ll i (by omega)
      have ET := hide et
      clear et hc1
      generalize ll[i] = x at hrd ET
      obtain ⟨x, qx, rfl, hx⟩ := hrd
      rw [Nat.mul_one] at qx
      have qx := cell_keep qx hS.out.1.low
      have i1 : (i : Int) < (n : Int) := by omega
      have i2 : (0 : Int) ≤ (i : Int) := by omega
      have hA := hS.out.1
      have hKA := hide hS.out.2
      have cl := hA.long
      by_cases hlong : most < (zs ++ vb n ++ Cod.puts Cod.data (ll.take i)).length
      · rw [decide_eq_true hlong] at cl
        have HE := hide (And.intro (hA.over hlong (zs ++ vb n ++ Cod.puts Cod.data ll) (by
          have := puts_len Cod.data ll i
          simp only [List.length_append] at *
          omega)) hKA.out)
        clear hA hKA ET
        go_wp2_with fail
        go_end0
        first
          | exact ⟨rfl, HE.out⟩
          | exact ⟨rfl, by simpa only [List.append_assoc] using HE.out⟩
      · rw [decide_eq_false hlong] at cl
        have hv := HV.out.keep hKA.out
        have HA := hide hA
        clear hA
        go_wp2_with fail
        refine (wtextc_any x hx B hv HA.out).mono ?_
        rintro e w2 ⟨rfl, h2, k2⟩
        have HE := hide (And.intro h2 (hKA.out.trans k2))
        clear h2 k2
        go_wp2_with fail
        go_roundw
        case rel => exact ⟨i + 1, by omega, by go_num, hide (by first | (rw [ET.out, ← List.append_assoc]; exact HE.out) | simpa only [ET.out, List.append_assoc] using HE.out)⟩
        case measure => simp [intOf]; omega
    · obtain rfl : i = n := by omega
      have hS' := hS.out
      rw [List.take_of_length_le (by omega)] at hS'
      have HS := hide hS'
      clear hS'
      go_wp2_with fail
      go_end0
      first
        | exact ⟨rfl, HS.out⟩
        | exact ⟨rfl, by simpa only [List.append_assoc] using HS.out⟩

set_option maxHeartbeats 4000000 in
theorem wtexts_any (a : Option Addr) (n cap : Nat) (l : List (List Int)) (hR : Sq RText 1 Wb a n cap l) (h : Ws Wb R most zs w) :
    Calls Try.prog 80 #[.pointer (some ⟨R, 0, none⟩), .slice a n cap] w (Pw Wb R most (zs ++ (Cod.list Cod.data).put l) w) := by
  have hv : Wv (w.alloc (.cells #[.pointer (some ⟨R, 0, none⟩)] (85 : TypeId))) w.heap.size R := heap_alloc_new w _
  have c0 := hv.cell
  have H0 := hide (h.alloc (.cells #[.pointer (some ⟨R, 0, none⟩)] (85 : TypeId)))
  have K0 := hide (Kp.of_below (fresh w (.cells #[.pointer (some ⟨R, 0, none⟩)] (85 : TypeId))))
  have HV := hide hv
  clear hv h
  have hmf : ∀ (fn : Fn) (first cap : Array Value) (w : World), (Instr.makeFunc fn first cap).run Try.prog w = .ok (.func fn first cap) w := fun _ _ _ _ => rfl
  go_enter Try.func80, Try.ntmps80
  go_wp2_with fail
  refine (wlstr_any _ _ _ _ hR w.heap.size HV.out H0.out).mono ?_
  rintro e w1 ⟨rfl, h1, k1⟩
  have HE := hide (And.intro h1 (K0.out.trans k1))
  clear h1 k1 c0
  go_wp2_with fail
  go_end0
  exact ⟨rfl, HE.out⟩

set_option maxHeartbeats 4000000 in
theorem wplace_any (t : ByteArray) (ht : t.size ≤ 9223372036854775807) (p : Int) (hp : I64 p) (h : Ws Wb R most zs w) :
    Calls Try.prog 81 #[.pointer (some ⟨R, 0, none⟩), .agg #[.string t, .int .i64 p]] w (Pw Wb R most (zs ++ Cod.place.put ⟨sb t, p⟩) w) := by
  have ez : zs ++ Cod.place.put ⟨sb t, p⟩ = zs ++ Cod.data.put (sb t) ++ vb (fo p) := by
    simp only [List.append_assoc]
    rfl
  rw [ez]
  clear ez
  have HB : Hid (∀ V, Kp (w.alloc (.cells #[.string t, .int .i64 p] (35 : TypeId))) V → V.cell? ⟨w.heap.size, 0, none⟩ = some (.string t) ∧ V.cell? ⟨w.heap.size, 1, none⟩ = some (.int .i64 p)) := hide fun V k => ⟨k.cell (heap_alloc_new w _) (by decide) (by decide) rfl, k.cell (heap_alloc_new w _) (by decide) (by decide) rfl⟩
  have K0 : Hid (Kp w (w.alloc (.cells #[.string t, .int .i64 p] (35 : TypeId)))) := hide (Kp.of_below (fresh w _))
  have h0 : Ws Wb R most zs (w.alloc (.cells #[.string t, .int .i64 p] (35 : TypeId))) := h.alloc (.cells #[.string t, .int .i64 p] (35 : TypeId))
  have k0 := Kp.refl (w.alloc (.cells #[.string t, .int .i64 p] (35 : TypeId)))
  obtain ⟨c0, c1⟩ := HB.out _ k0
  clear h
  go_enter Try.func81, Try.ntmps81
  go_wp2_with fail
  refine (wtext_any _ ht h0).mono ?_
  rintro e w1 ⟨rfl, h1, k⟩
  have k1 := k0.trans k
  clear k k0 h0 c0 c1
  obtain ⟨c0, c1⟩ := HB.out _ k1
  go_wp2_with fail
  refine (wnums1 _ (by first | rfl | simp) _ hp h1).mono ?_
  rintro e w2 ⟨rfl, h2, k⟩
  have k2 := k1.trans k
  clear k k1 h1 c0 c1
  obtain ⟨c0, c1⟩ := HB.out _ k2
  have HE := hide (And.intro h2 (K0.out.trans k2))
  clear h2 k2 HB K0 c0 c1
  go_wp2_with fail
  go_end0
  first
    | exact ⟨rfl, HE.out⟩
    | exact ⟨rfl, by simpa only [List.append_assoc] using HE.out⟩

set_option maxHeartbeats 4000000 in
theorem wplacec_any (t : ByteArray) (ht : t.size ≤ 9223372036854775807) (p : Int) (hp : I64 p) (B : Nat) (hv : Wv w B R) (h : Ws Wb R most zs w) :
    Calls Try.prog 112 #[.agg #[.string t, .int .i64 p], .pointer (some ⟨B, 0, none⟩)] w (Pw Wb R most (zs ++ Cod.place.put ⟨sb t, p⟩) w) := by
  have HV : Hid (∀ V, Kp (w.alloc (.cells #[.string t, .int .i64 p] (35 : TypeId))) V → Wv V B R) := hide fun V k => (hv.alloc _).keep k
  have HB : Hid (∀ V, Kp (w.alloc (.cells #[.string t, .int .i64 p] (35 : TypeId))) V → V.cell? ⟨B, 0, none⟩ = some (.pointer (some ⟨R, 0, none⟩)) ∧ V.cell? ⟨w.heap.size, 0, none⟩ = some (.string t) ∧ V.cell? ⟨w.heap.size, 1, none⟩ = some (.int .i64 p)) := hide fun V k => ⟨((hv.alloc _).keep k).cell, k.cell (heap_alloc_new w _) (by decide) (by decide) rfl, k.cell (heap_alloc_new w _) (by decide) (by decide) rfl⟩
  have K0 : Hid (Kp w (w.alloc (.cells #[.string t, .int .i64 p] (35 : TypeId)))) := hide (Kp.of_below (fresh w _))
  have h0 : Ws Wb R most zs (w.alloc (.cells #[.string t, .int .i64 p] (35 : TypeId))) := h.alloc (.cells #[.string t, .int .i64 p] (35 : TypeId))
  have k0 := Kp.refl (w.alloc (.cells #[.string t, .int .i64 p] (35 : TypeId)))
  obtain ⟨c0, c1, c2⟩ := HB.out _ k0
  clear h hv
  go_enter Try.func112, Try.ntmps112
  go_wp2_with fail
  refine (wplace_any t ht p hp h0).mono ?_
  rintro e w1 ⟨rfl, h1, k⟩
  have k1 := k0.trans k
  clear k k0 h0 c0 c1 c2
  obtain ⟨c0, c1, c2⟩ := HB.out _ k1
  have HE := hide (And.intro h1 (K0.out.trans k1))
  clear h1 k1 HB K0 c0 c1 c2
  go_wp2_with fail
  go_end0
  first
    | exact ⟨rfl, HE.out⟩
    | exact ⟨rfl, by simpa only [List.append_assoc] using HE.out⟩

set_option maxHeartbeats 1000000 in
theorem wlplace_any (a : Option Addr) (n cap : Nat) (ll : List (Cod.Place)) (hR : Sq RPlace 2 Wb a n cap ll) (B : Nat) (hv : Wv w B R) (h : Ws Wb R most zs w) :
    Calls Try.prog 111 #[.pointer (some ⟨R, 0, none⟩), .slice a n cap, .func (.func 112) #[] #[.pointer (some ⟨B, 0, none⟩)]] w (Pw Wb R most (zs ++ (Cod.list Cod.place).put ll) w) := by
  have hl := hR.len
  have hle := hR.le
  have hre := hR.reach
  have ez : zs ++ (Cod.list Cod.place).put ll = zs ++ vb n ++ Cod.puts Cod.place ll := by rw [list_put _ _ n hl, List.append_assoc]
  rw [ez]
  clear ez
  have HV := hide hv
  clear hv
  go_enter Try.func111, Try.ntmps111
  go_wp2_with fail
  refine (wsize_any n (by omega) h).mono ?_
  rintro e w1 ⟨rfl, h1, k1⟩
  have H1 := hide h1
  have K1 := hide k1
  clear h1 k1 h
  go_wp2_with fail
  go_loopw [7, 14] (fun _ i wr => ∃ k : Nat, k ≤ n ∧ i = .int .i64 k ∧ Hid (Ws Wb R most (zs ++ vb n ++ Cod.puts Cod.place (ll.take k)) wr ∧ Kp w wr)) (fun _ i _ => n - (intOf i).toNat)
  case atStart => exact ⟨0, Nat.zero_le _, rfl, hide ⟨by simpa [Cod.puts] using H1.out, K1.out⟩⟩
  case round =>
    obtain ⟨i, hk, rfl, hS⟩ := hrel
    by_cases hlt : i < n
    · obtain ⟨b1, o1, rfl, hc1⟩ := hR.lies (by omega)
      have hrd := hc1 i (by omega)
      have et := puts_take Cod.place ll i (by omega)
      have ET := hide et
      clear et hc1
      generalize ll[i] = x at hrd ET
      obtain ⟨_, p⟩ := x
      obtain ⟨⟨t, qt, rfl, ht⟩, qp, lp, up⟩ := hrd
      have hp : I64 p := ⟨lp, up⟩
      try unfold RNum at *
      try unfold RBool at *
      try simp only at hp
      have qt := cell_keep qt hS.out.1.low
      have qp := cell_keep qp hS.out.1.low
      have i1 : (i : Int) < (n : Int) := by omega
      have i2 : (0 : Int) ≤ (i : Int) := by omega
      have hA := hS.out.1.alloc (.cells #[.string t, .int .i64 p] (35 : TypeId))
      have hKA := hide (hS.out.2.trans (Kp.of_below (fresh wr (.cells #[.string t, .int .i64 p] (35 : TypeId)))))
      have cl := hA.long
      by_cases hlong : most < (zs ++ vb n ++ Cod.puts Cod.place (ll.take i)).length
      · rw [decide_eq_true hlong] at cl
        have HE := hide (And.intro (hA.over hlong (zs ++ vb n ++ Cod.puts Cod.place ll) (by
          have := puts_len Cod.place ll i
          simp only [List.length_append] at *
          omega)) hKA.out)
        clear hA hKA ET
        go_wp2_with fail
        go_end0
        first
          | exact ⟨rfl, HE.out⟩
          | exact ⟨rfl, by simpa only [List.append_assoc] using HE.out⟩
      · rw [decide_eq_false hlong] at cl
        have hv := HV.out.keep hKA.out
        have HA := hide hA
        clear hA
        go_wp2_with fail
        refine (wplacec_any t ht p hp B hv HA.out).mono ?_
        rintro e w2 ⟨rfl, h2, k2⟩
        have HE := hide (And.intro h2 (hKA.out.trans k2))
        clear h2 k2
        go_wp2_with fail
        go_roundw
        case rel => exact ⟨i + 1, by omega, by go_num, hide (by first | (rw [ET.out, ← List.append_assoc]; exact HE.out) | simpa only [ET.out, List.append_assoc] using HE.out)⟩
        case measure => simp [intOf]; omega
    · obtain rfl : i = n := by omega
      have hS' := hS.out
      rw [List.take_of_length_le (by omega)] at hS'
      have HS := hide hS'
      clear hS'
      go_wp2_with fail
      go_end0
      first
        | exact ⟨rfl, HS.out⟩
        | exact ⟨rfl, by simpa only [List.append_assoc] using HS.out⟩

set_option maxHeartbeats 4000000 in
theorem wplaces_any (a : Option Addr) (n cap : Nat) (l : List (Cod.Place)) (hR : Sq RPlace 2 Wb a n cap l) (h : Ws Wb R most zs w) :
    Calls Try.prog 103 #[.pointer (some ⟨R, 0, none⟩), .slice a n cap] w (Pw Wb R most (zs ++ (Cod.list Cod.place).put l) w) := by
  have hv : Wv (w.alloc (.cells #[.pointer (some ⟨R, 0, none⟩)] (85 : TypeId))) w.heap.size R := heap_alloc_new w _
  have c0 := hv.cell
  have H0 := hide (h.alloc (.cells #[.pointer (some ⟨R, 0, none⟩)] (85 : TypeId)))
  have K0 := hide (Kp.of_below (fresh w (.cells #[.pointer (some ⟨R, 0, none⟩)] (85 : TypeId))))
  have HV := hide hv
  clear hv h
  have hmf : ∀ (fn : Fn) (first cap : Array Value) (w : World), (Instr.makeFunc fn first cap).run Try.prog w = .ok (.func fn first cap) w := fun _ _ _ _ => rfl
  go_enter Try.func103, Try.ntmps103
  go_wp2_with fail
  refine (wlplace_any _ _ _ _ hR w.heap.size HV.out H0.out).mono ?_
  rintro e w1 ⟨rfl, h1, k1⟩
  have HE := hide (And.intro h1 (K0.out.trans k1))
  clear h1 k1 c0
  go_wp2_with fail
  go_end0
  exact ⟨rfl, HE.out⟩

set_option maxHeartbeats 4000000 in
theorem wbatch_any (p : Int) (hp : I64 p) (e : Int) (he : I64 e) (f : Int) (hf : I64 f) (la : Option Addr) (ln lc : Nat) (l : List (List Int)) (hl : Sq RBytes 1 Wb la ln lc l) (h : Ws Wb R most zs w) :
    Calls Try.prog 78 #[.pointer (some ⟨R, 0, none⟩), .agg #[.int .i64 p, .int .i64 e, .int .i64 f, .slice la ln lc]] w (Pw Wb R most (zs ++ Cod.batch.put ⟨p, e, f, l⟩) w) := by
  have ez : zs ++ Cod.batch.put ⟨p, e, f, l⟩ = zs ++ vb (fo p) ++ vb (fo e) ++ vb (fo f) ++ (Cod.list Cod.data).put l := by
    simp only [List.append_assoc]
    rfl
  rw [ez]
  clear ez
  have HB : Hid (∀ V, Kp (w.alloc (.cells #[.int .i64 p, .int .i64 e, .int .i64 f, .slice la ln lc] (26 : TypeId))) V → V.cell? ⟨w.heap.size, 0, none⟩ = some (.int .i64 p) ∧ V.cell? ⟨w.heap.size, 1, none⟩ = some (.int .i64 e) ∧ V.cell? ⟨w.heap.size, 2, none⟩ = some (.int .i64 f) ∧ V.cell? ⟨w.heap.size, 3, none⟩ = some (.slice la ln lc)) := hide fun V k => ⟨k.cell (heap_alloc_new w _) (by decide) (by decide) rfl, k.cell (heap_alloc_new w _) (by decide) (by decide) rfl, k.cell (heap_alloc_new w _) (by decide) (by decide) rfl, k.cell (heap_alloc_new w _) (by decide) (by decide) rfl⟩
  have K0 : Hid (Kp w (w.alloc (.cells #[.int .i64 p, .int .i64 e, .int .i64 f, .slice la ln lc] (26 : TypeId)))) := hide (Kp.of_below (fresh w _))
  have h0 : Ws Wb R most zs (w.alloc (.cells #[.int .i64 p, .int .i64 e, .int .i64 f, .slice la ln lc] (26 : TypeId))) := h.alloc (.cells #[.int .i64 p, .int .i64 e, .int .i64 f, .slice la ln lc] (26 : TypeId))
  have k0 := Kp.refl (w.alloc (.cells #[.int .i64 p, .int .i64 e, .int .i64 f, .slice la ln lc] (26 : TypeId)))
  obtain ⟨c0, c1, c2, c3⟩ := HB.out _ k0
  clear h
  go_enter Try.func78, Try.ntmps78
  go_wp2_with fail
  refine (wnums3 _ (by first | rfl | simp) _ _ _ hp he hf h0).mono ?_
  rintro e w1 ⟨rfl, h1, k⟩
  have k1 := k0.trans k
  clear k k0 h0 c0 c1 c2 c3
  obtain ⟨c0, c1, c2, c3⟩ := HB.out _ k1
  go_wp2_with fail
  refine (wrecords_any _ _ _ _ hl h1).mono ?_
  rintro e w2 ⟨rfl, h2, k⟩
  have k2 := k1.trans k
  clear k k1 h1 c0 c1 c2 c3
  obtain ⟨c0, c1, c2, c3⟩ := HB.out _ k2
  have HE := hide (And.intro h2 (K0.out.trans k2))
  clear h2 k2 HB K0 c0 c1 c2 c3
  go_wp2_with fail
  go_end0
  first
    | exact ⟨rfl, HE.out⟩
    | exact ⟨rfl, by simpa only [List.append_assoc] using HE.out⟩

end

end Go.Proofs.Ytnimfkcnkkjlkaa

/-
  What put does: a kind's byte, and what a closure puts behind it.
-/
namespace Go.Proofs.Ytnimfkcnkkjlkaa
open Go.RowKit
set_option maxRecDepth 100000

/-- Bytes that are answered, or that they are too many. -/
def Pq (w : World) (most : Nat) (zs : List Int) (e : Ending) (w' : World) : Prop :=
  Below w.heap.size w w' ∧ ((zs.length ≤ most ∧ ∃ c d, e = .returned (.tuple #[.slice c zs.length d, .int .i64 0]) ∧ w'.ownsRow w.heap.size 5 1 (.slice c zs.length d) zs.length (U zs)) ∨ (most < zs.length ∧ e = .returned (.tuple #[.slice none 0 0, .int .i64 3])))

section
variable {w : World}

theorem Pq.after {w0 w' : World} {most : Nat} {zs : List Int} {e : Ending} (hb : Below w0.heap.size w0 w) (h : Pq w most zs e w') : Pq w0 most zs e w' := by
  refine ⟨hb.trans (h.1.mono hb.size), ?_⟩
  rcases h.2 with ⟨h1, c, d, h2, h3⟩ | h1
  · exact .inl ⟨h1, c, d, h2, own_less h3 hb.size⟩
  · exact .inr h1

theorem Ws.first (k : Int) (most : Nat) (h1 : 1 ≤ most) (h2 : most ≤ 100000) : Ws w (w.heap.size + 1) most [k] ((w.alloc (.cells #[.int .u8 k] 5)).alloc (.cells #[.slice (some ⟨w.heap.size, 0, none⟩) 1 1, .int .i64 (most : Int), .bool false] (117 : TypeId))) := by
  have hx := boxes2 w (.cells #[.int .u8 k] 5) (.cells #[.slice (some ⟨w.heap.size, 0, none⟩) 1 1, .int .i64 (most : Int), .bool false] (117 : TypeId))
  refine ⟨(fresh w _).alloc (by simp) _, by omega, h2, .slice (some ⟨w.heap.size, 0, none⟩) 1 1, [k], ?_, ?_, h1, fun _ => rfl⟩
  · rw [hx.2]
    simp
    omega
  · exact ⟨rfl, .inr ⟨w.heap.size, 1, _, rfl, Nat.le_refl _, hx.1, Nat.le_refl _, by unfold maxLen; omega, rfl, rfl⟩⟩

set_option maxHeartbeats 1000000 in
theorem put_wr (fn G : Nat) (k : Int) (most : Nat) (h1 : 1 ≤ most) (h2 : most ≤ 100000) (zs : List Int) (hf : ∀ (args : Array Value) (w : World), (callFunc fn args).run Try.prog w = .ok (.enter fn args) w)
    (HC : ∀ W R, Ws w R most [k] W → Calls Try.prog fn #[.pointer (some ⟨R, 0, none⟩), .pointer (some ⟨G, 0, none⟩)] W (Pw w R most zs W)) :
    Calls Try.prog 29 #[.int .u8 k, .int .i64 (most : Int), .func (.func fn) #[] #[.pointer (some ⟨G, 0, none⟩)]] w (Pq w most zs) := by
  have h0 := Ws.first (w := w) k most h1 h2
  have HC := hide (HC _ _ h0)
  clear h0
  go_enter Try.func29, Try.ntmps29
  go_wp2_with fail
  refine HC.out.mono ?_
  rintro e w1 ⟨rfl, hS, _⟩
  have cl := hS.long
  obtain ⟨v, ys, hb, ho, hl, he⟩ := hS.is
  have hlow := hS.low
  obtain ⟨va, vc, rfl⟩ := own_val ho
  have c0 : w1.cell? ⟨w.heap.size + 1, 0, none⟩ = some (.slice va ys.length vc) := by rw [cell_of_row w1 _ 0 _ _ (0, 0) hb]; rfl
  have HO := hide ho
  have HL := hide hlow
  clear hS hb ho hlow
  by_cases hlong : most < zs.length
  · rw [decide_eq_true hlong] at cl
    go_wp2_with fail
    go_ret2
    exact ⟨HL.out, .inr ⟨hlong, rfl⟩⟩
  · rw [decide_eq_false hlong] at cl
    have hyz := (he (by omega)).symm
    subst hyz
    go_wp2_with fail
    go_ret2
    exact ⟨HL.out, .inl ⟨by omega, va, vc, rfl, HO.out⟩⟩

theorem enter_raft : ∀ (args : Array Value) (w : World), (callFunc 30 args).run Try.prog w = .ok (.enter 30 args) w := fun _ _ => by go_simp
end

end Go.Proofs.Ytnimfkcnkkjlkaa

/-
  The program's writer: a partition's commands.
-/
namespace Go.Proofs.Ytnimfkcnkkjlkaa
open Go.RowKit
set_option maxRecDepth 100000
set_option linter.unusedVariables false

section
variable {Wb w : World} {R most : Nat} {zs : List Int}

set_option maxHeartbeats 4000000 in
theorem wpart_any (k : Int) (hk : U8 k) (bp : Int) (hbp : I64 bp) (be : Int) (hbe : I64 be) (bf : Int) (hbf : I64 bf) (bla : Option Addr) (bln blc : Nat) (bl : List (List Int)) (hbl : Sq RBytes 1 Wb bla bln blc bl) (o : Int) (ho : I64 o) (h : Ws Wb R most zs w) :
    Calls Try.prog 38 #[.pointer (some ⟨R, 0, none⟩), .agg #[.int .u8 k, .int .i64 bp, .int .i64 be, .int .i64 bf, .slice bla bln blc, .int .i64 o]] w (Pw Wb R most (zs ++ Cod.part.put ⟨k, ⟨bp, be, bf, bl⟩, o⟩) w) := by
  have ez : zs ++ Cod.part.put ⟨k, ⟨bp, be, bf, bl⟩, o⟩ = zs ++ vb (fo k) ++ Cod.batch.put ⟨bp, be, bf, bl⟩ ++ vb (fo o) := by
    simp only [List.append_assoc]
    rfl
  rw [ez]
  clear ez
  have hk0 : 0 ≤ k := hk.1
  have hk1 : k ≤ 255 := hk.2
  have h64k : I64 k := ⟨by omega, by omega⟩
  have HB : Hid (∀ V, Kp (w.alloc (.cells #[.int .u8 k, .int .i64 bp, .int .i64 be, .int .i64 bf, .slice bla bln blc, .int .i64 o] (28 : TypeId))) V → V.cell? ⟨w.heap.size, 0, none⟩ = some (.int .u8 k) ∧ V.cell? ⟨w.heap.size, 1, none⟩ = some (.int .i64 bp) ∧ V.cell? ⟨w.heap.size, 2, none⟩ = some (.int .i64 be) ∧ V.cell? ⟨w.heap.size, 3, none⟩ = some (.int .i64 bf) ∧ V.cell? ⟨w.heap.size, 4, none⟩ = some (.slice bla bln blc) ∧ V.cell? ⟨w.heap.size, 5, none⟩ = some (.int .i64 o)) := hide fun V k => ⟨k.cell (heap_alloc_new w _) (by decide) (by decide) rfl, k.cell (heap_alloc_new w _) (by decide) (by decide) rfl, k.cell (heap_alloc_new w _) (by decide) (by decide) rfl, k.cell (heap_alloc_new w _) (by decide) (by decide) rfl, k.cell (heap_alloc_new w _) (by decide) (by decide) rfl, k.cell (heap_alloc_new w _) (by decide) (by decide) rfl⟩
  have K0 : Hid (Kp w (w.alloc (.cells #[.int .u8 k, .int .i64 bp, .int .i64 be, .int .i64 bf, .slice bla bln blc, .int .i64 o] (28 : TypeId)))) := hide (Kp.of_below (fresh w _))
  have h0 : Ws Wb R most zs (w.alloc (.cells #[.int .u8 k, .int .i64 bp, .int .i64 be, .int .i64 bf, .slice bla bln blc, .int .i64 o] (28 : TypeId))) := h.alloc (.cells #[.int .u8 k, .int .i64 bp, .int .i64 be, .int .i64 bf, .slice bla bln blc, .int .i64 o] (28 : TypeId))
  have k0 := Kp.refl (w.alloc (.cells #[.int .u8 k, .int .i64 bp, .int .i64 be, .int .i64 bf, .slice bla bln blc, .int .i64 o] (28 : TypeId)))
  obtain ⟨c0, c1, c2, c3, c4, c5⟩ := HB.out _ k0
  clear h
  go_enter Try.func38, Try.ntmps38
  go_wp2_with fail
  refine (wnums1 _ (by first | rfl | simp) _ h64k h0).mono ?_
  rintro e w1 ⟨rfl, h1, k⟩
  have k1 := k0.trans k
  clear k k0 h0 c0 c1 c2 c3 c4 c5
  obtain ⟨c0, c1, c2, c3, c4, c5⟩ := HB.out _ k1
  go_wp2_with fail
  refine (wbatch_any bp hbp be hbe bf hbf bla bln blc bl hbl h1).mono ?_
  rintro e w2 ⟨rfl, h2, k⟩
  have k2 := k1.trans k
  clear k k1 h1 c0 c1 c2 c3 c4 c5
  obtain ⟨c0, c1, c2, c3, c4, c5⟩ := HB.out _ k2
  go_wp2_with fail
  refine (wnums1 _ (by first | rfl | simp) _ ho h2).mono ?_
  rintro e w3 ⟨rfl, h3, k⟩
  have k3 := k2.trans k
  clear k k2 h2 c0 c1 c2 c3 c4 c5
  obtain ⟨c0, c1, c2, c3, c4, c5⟩ := HB.out _ k3
  have HE := hide (And.intro h3 (K0.out.trans k3))
  clear h3 k3 HB K0 c0 c1 c2 c3 c4 c5
  go_wp2_with fail
  go_end0
  first
    | exact ⟨rfl, HE.out⟩
    | exact ⟨rfl, by simpa only [List.append_assoc] using HE.out⟩

end

end Go.Proofs.Ytnimfkcnkkjlkaa

/-
  The program's writer: messages of nodes.
-/
namespace Go.Proofs.Ytnimfkcnkkjlkaa
open Go.RowKit
set_option maxRecDepth 100000
set_option linter.unusedVariables false

section
variable {Wb w : World} {R most : Nat} {zs : List Int}

set_option maxHeartbeats 4000000 in
theorem wentry_any (t : Int) (ht : I64 t) (xa : Option Addr) (xn xc : Nat) (x : List Int) (hx : Bs Wb xa xn xc x) (B : Nat) (hv : Wv w B R) (h : Ws Wb R most zs w) :
    Calls Try.prog 66 #[.agg #[.int .i64 t, .slice xa xn xc], .pointer (some ⟨B, 0, none⟩)] w (Pw Wb R most (zs ++ Cod.entry.put ⟨t, x⟩) w) := by
  have ez : zs ++ Cod.entry.put ⟨t, x⟩ = zs ++ vb (fo t) ++ Cod.data.put x := by
    simp only [List.append_assoc]
    rfl
  rw [ez]
  clear ez
  have HV : Hid (∀ V, Kp (w.alloc (.cells #[.int .i64 t, .slice xa xn xc] (41 : TypeId))) V → Wv V B R) := hide fun V k => (hv.alloc _).keep k
  have HB : Hid (∀ V, Kp (w.alloc (.cells #[.int .i64 t, .slice xa xn xc] (41 : TypeId))) V → V.cell? ⟨B, 0, none⟩ = some (.pointer (some ⟨R, 0, none⟩)) ∧ V.cell? ⟨w.heap.size, 0, none⟩ = some (.int .i64 t) ∧ V.cell? ⟨w.heap.size, 1, none⟩ = some (.slice xa xn xc)) := hide fun V k => ⟨((hv.alloc _).keep k).cell, k.cell (heap_alloc_new w _) (by decide) (by decide) rfl, k.cell (heap_alloc_new w _) (by decide) (by decide) rfl⟩
  have K0 : Hid (Kp w (w.alloc (.cells #[.int .i64 t, .slice xa xn xc] (41 : TypeId)))) := hide (Kp.of_below (fresh w _))
  have h0 : Ws Wb R most zs (w.alloc (.cells #[.int .i64 t, .slice xa xn xc] (41 : TypeId))) := h.alloc (.cells #[.int .i64 t, .slice xa xn xc] (41 : TypeId))
  have k0 := Kp.refl (w.alloc (.cells #[.int .i64 t, .slice xa xn xc] (41 : TypeId)))
  obtain ⟨c0, c1, c2⟩ := HB.out _ k0
  clear h hv
  go_enter Try.func66, Try.ntmps66
  go_wp2_with fail
  refine (wnums1 _ (by first | rfl | simp) _ ht h0).mono ?_
  rintro e w1 ⟨rfl, h1, k⟩
  have k1 := k0.trans k
  clear k k0 h0 c0 c1 c2
  obtain ⟨c0, c1, c2⟩ := HB.out _ k1
  go_wp2_with fail
  refine (wbytes_any _ _ _ _ hx h1).mono ?_
  rintro e w2 ⟨rfl, h2, k⟩
  have k2 := k1.trans k
  clear k k1 h1 c0 c1 c2
  obtain ⟨c0, c1, c2⟩ := HB.out _ k2
  have HE := hide (And.intro h2 (K0.out.trans k2))
  clear h2 k2 HB K0 c0 c1 c2
  go_wp2_with fail
  go_end0
  first
    | exact ⟨rfl, HE.out⟩
    | exact ⟨rfl, by simpa only [List.append_assoc] using HE.out⟩

set_option maxHeartbeats 1000000 in
theorem wlentry_any (a : Option Addr) (n cap : Nat) (ll : List (Cod.Entry)) (hR : Sq REntry 2 Wb a n cap ll) (B : Nat) (hv : Wv w B R) (h : Ws Wb R most zs w) :
    Calls Try.prog 65 #[.pointer (some ⟨R, 0, none⟩), .slice a n cap, .func (.func 66) #[] #[.pointer (some ⟨B, 0, none⟩)]] w (Pw Wb R most (zs ++ (Cod.list Cod.entry).put ll) w) := by
  have hl := hR.len
  have hle := hR.le
  have hre := hR.reach
  have ez : zs ++ (Cod.list Cod.entry).put ll = zs ++ vb n ++ Cod.puts Cod.entry ll := by rw [list_put _ _ n hl, List.append_assoc]
  rw [ez]
  clear ez
  have HV := hide hv
  clear hv
  go_enter Try.func65, Try.ntmps65
  go_wp2_with fail
  refine (wsize_any n (by omega) h).mono ?_
  rintro e w1 ⟨rfl, h1, k1⟩
  have H1 := hide h1
  have K1 := hide k1
  clear h1 k1 h
  go_wp2_with fail
  go_loopw [7, 14] (fun _ i wr => ∃ k : Nat, k ≤ n ∧ i = .int .i64 k ∧ Hid (Ws Wb R most (zs ++ vb n ++ Cod.puts Cod.entry (ll.take k)) wr ∧ Kp w wr)) (fun _ i _ => n - (intOf i).toNat)
  case atStart => exact ⟨0, Nat.zero_le _, rfl, hide ⟨by simpa [Cod.puts] using H1.out, K1.out⟩⟩
  case round =>
    obtain ⟨i, hk, rfl, hS⟩ := hrel
    by_cases hlt : i < n
    · obtain ⟨b1, o1, rfl, hc1⟩ := hR.lies (by omega)
      have hrd := hc1 i (by omega)
      have et := puts_take Cod.entry ll i (by omega)
      have ET := hide et
      clear et hc1
      generalize ll[i] = x at hrd ET
      obtain ⟨t, x⟩ := x
      obtain ⟨qt, ⟨xa, xn, xc, qx, hx⟩, ht⟩ := hrd
      try unfold RNum at *
      try unfold RBool at *
      try simp only at ht hx
      have qt := cell_keep qt hS.out.1.low
      have qx := cell_keep qx hS.out.1.low
      have i1 : (i : Int) < (n : Int) := by omega
      have i2 : (0 : Int) ≤ (i : Int) := by omega
      have hA := hS.out.1.alloc (.cells #[.int .i64 t, .slice xa xn xc] (41 : TypeId))
      have hKA := hide (hS.out.2.trans (Kp.of_below (fresh wr (.cells #[.int .i64 t, .slice xa xn xc] (41 : TypeId)))))
      have cl := hA.long
      by_cases hlong : most < (zs ++ vb n ++ Cod.puts Cod.entry (ll.take i)).length
      · rw [decide_eq_true hlong] at cl
        have HE := hide (And.intro (hA.over hlong (zs ++ vb n ++ Cod.puts Cod.entry ll) (by
          have := puts_len Cod.entry ll i
          simp only [List.length_append] at *
          omega)) hKA.out)
        clear hA hKA ET
        go_wp2_with fail
        go_end0
        first
          | exact ⟨rfl, HE.out⟩
          | exact ⟨rfl, by simpa only [List.append_assoc] using HE.out⟩
      · rw [decide_eq_false hlong] at cl
        have hv := HV.out.keep hKA.out
        have HA := hide hA
        clear hA
        go_wp2_with fail
        refine (wentry_any t ht xa xn xc x hx B hv HA.out).mono ?_
        rintro e w2 ⟨rfl, h2, k2⟩
        have HE := hide (And.intro h2 (hKA.out.trans k2))
        clear h2 k2
        go_wp2_with fail
        go_roundw
        case rel => exact ⟨i + 1, by omega, by go_num, hide (by first | (rw [ET.out, ← List.append_assoc]; exact HE.out) | simpa only [ET.out, List.append_assoc] using HE.out)⟩
        case measure => simp [intOf]; omega
    · obtain rfl : i = n := by omega
      have hS' := hS.out
      rw [List.take_of_length_le (by omega)] at hS'
      have HS := hide hS'
      clear hS'
      go_wp2_with fail
      go_end0
      first
        | exact ⟨rfl, HS.out⟩
        | exact ⟨rfl, by simpa only [List.append_assoc] using HS.out⟩

set_option maxHeartbeats 4000000 in
theorem wraft_any (g : ByteArray) (hg : g.size ≤ 9223372036854775807) (k : Int) (hk : U8 k) (f : Int) (hf : I64 f) (t : Int) (ht : I64 t) (m : Int) (hm : I64 m) (i : Int) (hi : I64 i) (o : Int) (ho : I64 o) (c : Int) (hc : I64 c) (r : Int) (hr : I64 r) (x : Bool) (la : Option Addr) (ln lc : Nat) (l : List (Cod.Entry)) (hl : Sq REntry 2 Wb la ln lc l) (ya : Option Addr) (yn yc : Nat) (y : List Int) (hy : Bs Wb ya yn yc y) (h : Ws Wb R most zs w) :
    Calls Try.prog 31 #[.pointer (some ⟨R, 0, none⟩), .agg #[.string g, .int .u8 k, .int .i64 f, .int .i64 t, .int .i64 m, .int .i64 i, .int .i64 o, .int .i64 c, .int .i64 r, .bool x, .slice la ln lc, .slice ya yn yc]] w (Pw Wb R most (zs ++ Cod.raft.put ⟨sb g, k, f, t, m, i, o, c, r, x, l, y⟩) w) := by
  have ez : zs ++ Cod.raft.put ⟨sb g, k, f, t, m, i, o, c, r, x, l, y⟩ = zs ++ Cod.data.put (sb g) ++ vb (fo k) ++ vb (fo f) ++ vb (fo t) ++ vb (fo m) ++ vb (fo i) ++ vb (fo o) ++ vb (fo c) ++ vb (fo r) ++ Cod.bool.put x ++ (Cod.list Cod.entry).put l ++ Cod.data.put y := by
    simp only [List.append_assoc]
    rfl
  rw [ez]
  clear ez
  have hk0 : 0 ≤ k := hk.1
  have hk1 : k ≤ 255 := hk.2
  have h64k : I64 k := ⟨by omega, by omega⟩
  have hx := boxes2 w (.cells #[.pointer (some ⟨R, 0, none⟩)] (85 : TypeId)) (.cells #[.string g, .int .u8 k, .int .i64 f, .int .i64 t, .int .i64 m, .int .i64 i, .int .i64 o, .int .i64 c, .int .i64 r, .bool x, .slice la ln lc, .slice ya yn yc] (45 : TypeId))
  have HV : Hid (∀ V, Kp ((w.alloc (.cells #[.pointer (some ⟨R, 0, none⟩)] (85 : TypeId))).alloc (.cells #[.string g, .int .u8 k, .int .i64 f, .int .i64 t, .int .i64 m, .int .i64 i, .int .i64 o, .int .i64 c, .int .i64 r, .bool x, .slice la ln lc, .slice ya yn yc] (45 : TypeId))) V → Wv V w.heap.size R) := hide fun V k => k.block _ _ _ _ hx.1 (by decide) (by decide)
  have HB : Hid (∀ V, Kp ((w.alloc (.cells #[.pointer (some ⟨R, 0, none⟩)] (85 : TypeId))).alloc (.cells #[.string g, .int .u8 k, .int .i64 f, .int .i64 t, .int .i64 m, .int .i64 i, .int .i64 o, .int .i64 c, .int .i64 r, .bool x, .slice la ln lc, .slice ya yn yc] (45 : TypeId))) V → V.cell? ⟨w.heap.size, 0, none⟩ = some (.pointer (some ⟨R, 0, none⟩)) ∧ V.cell? ⟨w.heap.size + 1, 0, none⟩ = some (.string g) ∧ V.cell? ⟨w.heap.size + 1, 1, none⟩ = some (.int .u8 k) ∧ V.cell? ⟨w.heap.size + 1, 2, none⟩ = some (.int .i64 f) ∧ V.cell? ⟨w.heap.size + 1, 3, none⟩ = some (.int .i64 t) ∧ V.cell? ⟨w.heap.size + 1, 4, none⟩ = some (.int .i64 m) ∧ V.cell? ⟨w.heap.size + 1, 5, none⟩ = some (.int .i64 i) ∧ V.cell? ⟨w.heap.size + 1, 6, none⟩ = some (.int .i64 o) ∧ V.cell? ⟨w.heap.size + 1, 7, none⟩ = some (.int .i64 c) ∧ V.cell? ⟨w.heap.size + 1, 8, none⟩ = some (.int .i64 r) ∧ V.cell? ⟨w.heap.size + 1, 9, none⟩ = some (.bool x) ∧ V.cell? ⟨w.heap.size + 1, 10, none⟩ = some (.slice la ln lc) ∧ V.cell? ⟨w.heap.size + 1, 11, none⟩ = some (.slice ya yn yc)) := hide fun V k => ⟨k.cell hx.1 (by decide) (by decide) rfl, k.cell hx.2 (by decide) (by decide) rfl, k.cell hx.2 (by decide) (by decide) rfl, k.cell hx.2 (by decide) (by decide) rfl, k.cell hx.2 (by decide) (by decide) rfl, k.cell hx.2 (by decide) (by decide) rfl, k.cell hx.2 (by decide) (by decide) rfl, k.cell hx.2 (by decide) (by decide) rfl, k.cell hx.2 (by decide) (by decide) rfl, k.cell hx.2 (by decide) (by decide) rfl, k.cell hx.2 (by decide) (by decide) rfl, k.cell hx.2 (by decide) (by decide) rfl, k.cell hx.2 (by decide) (by decide) rfl⟩
  have K0 : Hid (Kp w ((w.alloc (.cells #[.pointer (some ⟨R, 0, none⟩)] (85 : TypeId))).alloc (.cells #[.string g, .int .u8 k, .int .i64 f, .int .i64 t, .int .i64 m, .int .i64 i, .int .i64 o, .int .i64 c, .int .i64 r, .bool x, .slice la ln lc, .slice ya yn yc] (45 : TypeId)))) := hide (Kp.of_below ((fresh w _).alloc (by simp) _))
  have h0 : Ws Wb R most zs ((w.alloc (.cells #[.pointer (some ⟨R, 0, none⟩)] (85 : TypeId))).alloc (.cells #[.string g, .int .u8 k, .int .i64 f, .int .i64 t, .int .i64 m, .int .i64 i, .int .i64 o, .int .i64 c, .int .i64 r, .bool x, .slice la ln lc, .slice ya yn yc] (45 : TypeId))) := (h.alloc _).alloc (.cells #[.string g, .int .u8 k, .int .i64 f, .int .i64 t, .int .i64 m, .int .i64 i, .int .i64 o, .int .i64 c, .int .i64 r, .bool x, .slice la ln lc, .slice ya yn yc] (45 : TypeId))
  have k0 := Kp.refl ((w.alloc (.cells #[.pointer (some ⟨R, 0, none⟩)] (85 : TypeId))).alloc (.cells #[.string g, .int .u8 k, .int .i64 f, .int .i64 t, .int .i64 m, .int .i64 i, .int .i64 o, .int .i64 c, .int .i64 r, .bool x, .slice la ln lc, .slice ya yn yc] (45 : TypeId)))
  obtain ⟨c0, c1, c2, c3, c4, c5, c6, c7, c8, c9, c10, c11, c12⟩ := HB.out _ k0
  clear h hx
  have hmf : ∀ (fn : Fn) (first cap : Array Value) (w : World), (Instr.makeFunc fn first cap).run Try.prog w = .ok (.func fn first cap) w := fun _ _ _ _ => rfl
  go_enter Try.func31, Try.ntmps31
  go_wp2_with fail
  refine (wtext_any _ hg h0).mono ?_
  rintro e w1 ⟨rfl, h1, k⟩
  have k1 := k0.trans k
  clear k k0 h0 c0 c1 c2 c3 c4 c5 c6 c7 c8 c9 c10 c11 c12
  obtain ⟨c0, c1, c2, c3, c4, c5, c6, c7, c8, c9, c10, c11, c12⟩ := HB.out _ k1
  go_wp2_with fail
  refine (wnums4 _ (by first | rfl | simp) _ _ _ _ h64k hf ht hm h1).mono ?_
  rintro e w2 ⟨rfl, h2, k⟩
  have k2 := k1.trans k
  clear k k1 h1 c0 c1 c2 c3 c4 c5 c6 c7 c8 c9 c10 c11 c12
  obtain ⟨c0, c1, c2, c3, c4, c5, c6, c7, c8, c9, c10, c11, c12⟩ := HB.out _ k2
  go_wp2_with fail
  refine (wnums4 _ (by first | rfl | simp) _ _ _ _ hi ho hc hr h2).mono ?_
  rintro e w3 ⟨rfl, h3, k⟩
  have k3 := k2.trans k
  clear k k2 h2 c0 c1 c2 c3 c4 c5 c6 c7 c8 c9 c10 c11 c12
  obtain ⟨c0, c1, c2, c3, c4, c5, c6, c7, c8, c9, c10, c11, c12⟩ := HB.out _ k3
  go_wp2_with fail
  refine (wflag_any _ h3).mono ?_
  rintro e w4 ⟨rfl, h4, k⟩
  have k4 := k3.trans k
  clear k k3 h3 c0 c1 c2 c3 c4 c5 c6 c7 c8 c9 c10 c11 c12
  obtain ⟨c0, c1, c2, c3, c4, c5, c6, c7, c8, c9, c10, c11, c12⟩ := HB.out _ k4
  go_wp2_with fail
  refine (wlentry_any _ _ _ _ hl w.heap.size (HV.out _ k4) h4).mono ?_
  rintro e w5 ⟨rfl, h5, k⟩
  have k5 := k4.trans k
  clear k k4 h4 c0 c1 c2 c3 c4 c5 c6 c7 c8 c9 c10 c11 c12
  obtain ⟨c0, c1, c2, c3, c4, c5, c6, c7, c8, c9, c10, c11, c12⟩ := HB.out _ k5
  go_wp2_with fail
  refine (wbytes_any _ _ _ _ hy h5).mono ?_
  rintro e w6 ⟨rfl, h6, k⟩
  have k6 := k5.trans k
  clear k k5 h5 c0 c1 c2 c3 c4 c5 c6 c7 c8 c9 c10 c11 c12
  obtain ⟨c0, c1, c2, c3, c4, c5, c6, c7, c8, c9, c10, c11, c12⟩ := HB.out _ k6
  have HE := hide (And.intro h6 (K0.out.trans k6))
  clear h6 k6 HB K0 c0 c1 c2 c3 c4 c5 c6 c7 c8 c9 c10 c11 c12
  go_wp2_with fail
  go_end0
  first
    | exact ⟨rfl, HE.out⟩
    | exact ⟨rfl, by simpa only [List.append_assoc] using HE.out⟩

end

end Go.Proofs.Ytnimfkcnkkjlkaa

/-
  What PutPart and PutRaft answer.
-/
namespace Go.Proofs.Ytnimfkcnkkjlkaa
open Go.RowKit
set_option maxRecDepth 100000
set_option linter.unusedVariables false

section
variable {Wb w : World} {R most : Nat} {zs : List Int}

theorem putPart_enter : ∀ (args : Array Value) (w : World), (callFunc 37 args).run Try.prog w = .ok (.enter 37 args) w := fun _ _ => by go_simp

set_option maxHeartbeats 1000000 in
theorem putPart_clo (k : Int) (hk : U8 k) (bp : Int) (hbp : I64 bp) (be : Int) (hbe : I64 be) (bf : Int) (hbf : I64 bf) (bla : Option Addr) (bln blc : Nat) (bl : List (List Int)) (hbl : Sq RBytes 1 Wb bla bln blc bl) (o : Int) (ho : I64 o) (G : Nat) (hg : Wb.heap[G]? = some (.cells #[.int .u8 k, .int .i64 bp, .int .i64 be, .int .i64 bf, .slice bla bln blc, .int .i64 o] (28 : TypeId) (0, 0))) (h : Ws Wb R most zs w) :
    Calls Try.prog 37 #[.pointer (some ⟨R, 0, none⟩), .pointer (some ⟨G, 0, none⟩)] w (Pw Wb R most (zs ++ Cod.part.put ⟨k, ⟨bp, be, bf, bl⟩, o⟩) w) := by
  have hG := (h.low.block _ (heap_lt hg)).trans hg
  have H := hide h
  clear h hg
  go_enter Try.func37, Try.ntmps37
  go_wp2_with (refine wpList_load_row rfl 28 _ rfl G rfl 28 _ (0, 0) _ hG Try.underlying28 rfl (by kernel_rfl) ?_)
  refine (wpart_any k hk bp hbp be hbe bf hbf bla bln blc bl hbl o ho H.out).mono ?_
  rintro e w1 ⟨rfl, h1, k1⟩
  have HE := hide (And.intro h1 k1)
  clear h1 k1
  go_wp2_with fail
  go_end0
  exact ⟨rfl, HE.out⟩

set_option maxHeartbeats 1000000 in
theorem putPart_any (k : Int) (hk : U8 k) (bp : Int) (hbp : I64 bp) (be : Int) (hbe : I64 be) (bf : Int) (hbf : I64 bf) (bla : Option Addr) (bln blc : Nat) (bl : List (List Int)) (hbl : Sq RBytes 1 w bla bln blc bl) (o : Int) (ho : I64 o) : Calls Try.prog 13 #[.agg #[.int .u8 k, .int .i64 bp, .int .i64 be, .int .i64 bf, .slice bla bln blc, .int .i64 o]] w (Pq w 60000 (Cod.thing Cod.part 1 ⟨k, ⟨bp, be, bf, bl⟩, o⟩)) := by
  have HC := hide (put_wr (w := w.alloc (.cells #[.int .u8 k, .int .i64 bp, .int .i64 be, .int .i64 bf, .slice bla bln blc, .int .i64 o] (28 : TypeId))) 37 w.heap.size 1 60000 (by omega) (by omega) (Cod.thing Cod.part 1 ⟨k, ⟨bp, be, bf, bl⟩, o⟩) putPart_enter (fun W R h => putPart_clo k hk bp hbp be hbe bf hbf bla bln blc bl (hbl.keep rBytes (fresh w _)) o ho w.heap.size (heap_alloc_new w _) h))
  have hmf : ∀ (fn : Fn) (first cap : Array Value) (w : World), (Instr.makeFunc fn first cap).run Try.prog w = .ok (.func fn first cap) w := fun _ _ _ _ => rfl
  go_enter Try.func13, Try.ntmps13
  go_wp2_with fail
  refine HC.out.mono ?_
  intro e w1 hq
  have hq2 := hq.after (fresh w _)
  have hq3 := hq2.2
  rcases hq3 with ⟨h1, c, d, rfl, h3⟩ | ⟨h1, rfl⟩
  · have HQ := hide hq2
    clear hq hq2 h3 HC
    go_wp2_with fail
    go_ret2
    exact HQ.out
  · have HQ := hide hq2
    clear hq hq2 HC
    go_wp2_with fail
    go_ret2
    exact HQ.out

theorem putRaft_enter : ∀ (args : Array Value) (w : World), (callFunc 30 args).run Try.prog w = .ok (.enter 30 args) w := fun _ _ => by go_simp

set_option maxHeartbeats 1000000 in
theorem putRaft_clo (g : ByteArray) (hg : g.size ≤ 9223372036854775807) (k : Int) (hk : U8 k) (f : Int) (hf : I64 f) (t : Int) (ht : I64 t) (m : Int) (hm : I64 m) (i : Int) (hi : I64 i) (o : Int) (ho : I64 o) (c : Int) (hc : I64 c) (r : Int) (hr : I64 r) (x : Bool) (la : Option Addr) (ln lc : Nat) (l : List (Cod.Entry)) (hl : Sq REntry 2 Wb la ln lc l) (ya : Option Addr) (yn yc : Nat) (y : List Int) (hy : Bs Wb ya yn yc y) (G : Nat) (hg : Wb.heap[G]? = some (.cells #[.string g, .int .u8 k, .int .i64 f, .int .i64 t, .int .i64 m, .int .i64 i, .int .i64 o, .int .i64 c, .int .i64 r, .bool x, .slice la ln lc, .slice ya yn yc] (45 : TypeId) (0, 0))) (h : Ws Wb R most zs w) :
    Calls Try.prog 30 #[.pointer (some ⟨R, 0, none⟩), .pointer (some ⟨G, 0, none⟩)] w (Pw Wb R most (zs ++ Cod.raft.put ⟨sb g, k, f, t, m, i, o, c, r, x, l, y⟩) w) := by
  have hG := (h.low.block _ (heap_lt hg)).trans hg
  have H := hide h
  clear h hg
  go_enter Try.func30, Try.ntmps30
  go_wp2_with (refine wpList_load_row rfl 45 _ rfl G rfl 45 _ (0, 0) _ hG Try.underlying45 rfl (by kernel_rfl) ?_)
  refine (wraft_any g hg k hk f hf t ht m hm i hi o ho c hc r hr x la ln lc l hl ya yn yc y hy H.out).mono ?_
  rintro e w1 ⟨rfl, h1, k1⟩
  have HE := hide (And.intro h1 k1)
  clear h1 k1
  go_wp2_with fail
  go_end0
  exact ⟨rfl, HE.out⟩

set_option maxHeartbeats 1000000 in
theorem putRaft_any (g : ByteArray) (hg : g.size ≤ 9223372036854775807) (k : Int) (hk : U8 k) (f : Int) (hf : I64 f) (t : Int) (ht : I64 t) (m : Int) (hm : I64 m) (i : Int) (hi : I64 i) (o : Int) (ho : I64 o) (c : Int) (hc : I64 c) (r : Int) (hr : I64 r) (x : Bool) (la : Option Addr) (ln lc : Nat) (l : List (Cod.Entry)) (hl : Sq REntry 2 w la ln lc l) (ya : Option Addr) (yn yc : Nat) (y : List Int) (hy : Bs w ya yn yc y) : Calls Try.prog 8 #[.agg #[.string g, .int .u8 k, .int .i64 f, .int .i64 t, .int .i64 m, .int .i64 i, .int .i64 o, .int .i64 c, .int .i64 r, .bool x, .slice la ln lc, .slice ya yn yc]] w (Pq w 65545 (Cod.thing Cod.raft 7 ⟨sb g, k, f, t, m, i, o, c, r, x, l, y⟩)) := by
  have HC := hide (put_wr (w := w.alloc (.cells #[.string g, .int .u8 k, .int .i64 f, .int .i64 t, .int .i64 m, .int .i64 i, .int .i64 o, .int .i64 c, .int .i64 r, .bool x, .slice la ln lc, .slice ya yn yc] (45 : TypeId))) 30 w.heap.size 7 65545 (by omega) (by omega) (Cod.thing Cod.raft 7 ⟨sb g, k, f, t, m, i, o, c, r, x, l, y⟩) putRaft_enter (fun W R h => putRaft_clo g hg k hk f hf t ht m hm i hi o ho c hc r hr x la ln lc l (hl.keep rEntry (fresh w _)) ya yn yc y (hy.keep (fresh w _)) w.heap.size (heap_alloc_new w _) h))
  have hmf : ∀ (fn : Fn) (first cap : Array Value) (w : World), (Instr.makeFunc fn first cap).run Try.prog w = .ok (.func fn first cap) w := fun _ _ _ _ => rfl
  go_enter Try.func8, Try.ntmps8
  go_wp2_with fail
  refine HC.out.mono ?_
  intro e w1 hq
  have hq2 := hq.after (fresh w _)
  have hq3 := hq2.2
  rcases hq3 with ⟨h1, c, d, rfl, h3⟩ | ⟨h1, rfl⟩
  · have HQ := hide hq2
    clear hq hq2 h3 HC
    go_wp2_with fail
    go_ret2
    exact HQ.out
  · have HQ := hide hq2
    clear hq hq2 HC
    go_wp2_with fail
    go_ret2
    exact HQ.out

end

end Go.Proofs.Ytnimfkcnkkjlkaa

/-
  The program's reader: counts.
-/
namespace Go.Proofs.Ytnimfkcnkkjlkaa
open Go.RowKit
set_option maxRecDepth 100000

section
variable {Wb w w' : World} {R B O n cap : Nat} {zs : List Int} {s : Option (List Int)}

/-- A count, or a length. -/
def Psz (Wb : World) (R B O n cap : Nat) (zs : List Int) (s : Option (List Int)) (w : World) (e : Ending) (w' : World) : Prop :=
  ∃ m : Nat, e = .returned (.int .i64 (m : Int)) ∧ m ≤ n ∧ Rs Wb R B O n cap zs (Cod.nx Cod.cnt s) w' ∧ Kt (107 : TypeId) w w' ∧ m = (Cod.vl Cod.cnt s).getD 0

theorem Psz.bad {k : Nat} (h : Rp Wb R B O n cap k true w') (hk : Kt (107 : TypeId) w w') (h1 : Cod.nx Cod.cnt s = none) (h2 : Cod.vl Cod.cnt s = none) : Psz Wb R B O n cap zs s w (.returned (.int .i64 0)) w' :=
  ⟨0, rfl, Nat.zero_le _, by rw [h1]; exact h.rs rfl (fun _ h => by cases h), hk, by rw [h2]; rfl⟩

set_option maxHeartbeats 1000000 in
theorem rsize_wrong (hB : Bs Wb (some ⟨B, O, none⟩) n cap zs) (h : Rs Wb R B O n cap zs none w) :
    Calls Try.prog 96 #[.pointer (some ⟨R, 0, none⟩)] w (Psz Wb R B O n cap zs none w) := by
  obtain ⟨k, hp, hs⟩ := h.rp
  have hkn := hp.le
  have hln := hB.len
  have c0 := hp.c0
  have c1 := hp.c1
  have HQ : Hid (∀ V, Below w.heap.size w V → V.cell? ⟨R, 0, none⟩ = some (.slice (some ⟨B, O, none⟩) n cap) ∧ V.cell? ⟨R, 1, none⟩ = some (.int .i64 (k : Int))) := hide fun V hV => ⟨cell_keep c0 hV, cell_keep c1 hV⟩
  have HP := hide hp
  have HL := hide h.low
  have hbyt := drop_byte hB.byte k
  have hdl : (zs.drop k).length = n - k := by rw [List.length_drop, hln]
  have HX : Hid (Cod.nx Cod.cnt none = none ∧ Cod.vl Cod.cnt none = none) := hide ⟨rfl, rfl⟩
  have HC := hide (fun W (hW : Below Wb.heap.size Wb W) => get_val (some ⟨B, O, none⟩) n cap zs k W (hB.keep hW))
  generalize gN zs (k : Int) = gn at HC
  generalize gE zs (k : Int) = ge at HC
  generalize gB zs (k : Int) = gb at HC
  clear hp hB h hs
  go_enter Try.func96, Try.ntmps96
  go_wp2_with fail
  go_region_held3 (fun V => V.cell? ⟨R, 0, none⟩ = some (.slice (some ⟨B, O, none⟩) n cap) ∧ V.cell? ⟨R, 1, none⟩ = some (.int .i64 (k : Int)))
    (exact HQ.out _ (by first | assumption | exact (Below.refl _ _).drew))
    (first | (go_at_call 104; refine (HC.out _ (HL.out.drew)).mono ?_; rintro e w1 ⟨rfl, hb0⟩; have hb1 : Below w.heap.size w w1 := (Below.refl _ w).drew.trans hb0; clear hb0))
  all_goals
    go_split_ands
    have hp1 := HP.out.keep hb1
    have q0 := hp1.c0
    have q2 := hp1.c2
    have q3 := hp1.f2
    have HE := hide (Psz.bad (s := none) (zs := zs) (hp1.mark true) ((Kt.of_below hb1).trans (hp1.kt 2 (.bool true))) HX.out.1 HX.out.2)
    clear hp1 hb1
    go_wp2_with fail
    go_ret
    exact HE.out

set_option maxHeartbeats 1000000 in
theorem rsize_any (hB : Bs Wb (some ⟨B, O, none⟩) n cap zs) (hn : n ≤ 100000) (h : Rs Wb R B O n cap zs s w) :
    Calls Try.prog 96 #[.pointer (some ⟨R, 0, none⟩)] w (Psz Wb R B O n cap zs s w) := by
  cases s with
  | none => exact rsize_wrong hB h
  | some l =>
  obtain ⟨k, hp, hs⟩ := h.rp
  have hkn := hp.le
  have hln := hB.len
  have c0 := hp.c0
  have c1 := hp.c1
  have HQ : Hid (∀ V, Below w.heap.size w V → V.cell? ⟨R, 0, none⟩ = some (.slice (some ⟨B, O, none⟩) n cap) ∧ V.cell? ⟨R, 1, none⟩ = some (.int .i64 (k : Int))) := hide fun V hV => ⟨cell_keep c0 hV, cell_keep c1 hV⟩
  have HP := hide hp
  have HL := hide h.low
  have hbyt := drop_byte hB.byte k
  have hdl : (zs.drop k).length = n - k := by rw [List.length_drop, hln]
  obtain rfl := hs l rfl
  have HC := hide (get_at hB k)
  clear hp hB h hs
  cases hg : getv (zs.drop k) with
  | none =>
    rw [hg] at HC
    have HX : Hid (Cod.nx Cod.cnt (some (zs.drop k)) = none ∧ Cod.vl Cod.cnt (some (zs.drop k)) = none) := by
      have : Cod.cnt.get (zs.drop k) = none := by simp [Cod.cnt, Cod.size, hg]
      exact hide ⟨Cod.nx_bad this, Cod.vl_bad this⟩
    go_enter Try.func96, Try.ntmps96
    go_wp2_with fail
    go_region_held3 (fun V => V.cell? ⟨R, 0, none⟩ = some (.slice (some ⟨B, O, none⟩) n cap) ∧ V.cell? ⟨R, 1, none⟩ = some (.int .i64 (k : Int)))
      (exact HQ.out _ (by first | assumption | exact (Below.refl _ _).drew))
      (first | (go_at_call 104; refine (HC.out _ (HL.out.drew)).mono ?_; rintro e w1 ⟨rfl, hb0⟩; have hb1 : Below w.heap.size w w1 := (Below.refl _ w).drew.trans hb0; clear hb0))
    all_goals
      go_split_ands
      have hp1 := HP.out.keep hb1
      have q0 := hp1.c0
      have q2 := hp1.c2
      have q3 := hp1.f2
      have HE := hide (Psz.bad (s := some (zs.drop k)) (zs := zs) (hp1.mark true) ((Kt.of_below hb1).trans (hp1.kt 2 (.bool true))) HX.out.1 HX.out.2)
      clear hp1 hb1
      go_wp2_with fail
      go_ret
      exact HE.out
  | some v =>
    rw [hg] at HC
    obtain ⟨hv1, hv2⟩ := getv_fits hbyt hg
    rw [hdl] at hv1
    obtain ⟨E, hE⟩ : ∃ E, E = k + (vb v).length := ⟨_, rfl⟩
    have HC' := HC.out
    simp only [← hE] at HC'
    have HC := hide HC'
    clear HC'
    by_cases hv : v ≤ n - E
    · have hx : Cod.cnt.get (zs.drop k) = some (v, zs.drop E) := by
        simp only [Cod.cnt, Cod.size, hg, List.drop_drop, ← hE]
        rw [if_pos (by rw [List.length_drop, hln]; exact hv)]
      have HX := hide hx
      have hv0 : ¬ ((n : Int) - (E : Int) < (v : Int)) := by omega
      have hvd : decide ((n : Int) - (E : Int) < (v : Int)) = false := by simp; omega
      have hend : E ≤ n := by omega
      clear hx
      clear hE hv1
      go_enter Try.func96, Try.ntmps96
      go_wp2_with fail
      go_region_held3 (fun V => V.cell? ⟨R, 0, none⟩ = some (.slice (some ⟨B, O, none⟩) n cap) ∧ V.cell? ⟨R, 1, none⟩ = some (.int .i64 (k : Int)))
        (exact HQ.out _ (by first | assumption | exact (Below.refl _ _).drew))
        (first | (go_at_call 104; refine (HC.out _ (HL.out.drew)).mono ?_; rintro e w1 ⟨rfl, hb0⟩; have hb1 : Below w.heap.size w w1 := (Below.refl _ w).drew.trans hb0; clear hb0))
      all_goals
        go_split_ands
        have hp1 := HP.out.keep hb1
        have q0 := hp1.c0
        have q2 := hp1.c2
        have q3 := hp1.f2
        have hp2 := hp1.mark false
        have q4 := hp2.c2
        have q5 := hp2.f1
        have q6 := hp2.c1
        have HE : Hid (Psz Wb R B O n cap zs (some (zs.drop k)) w (.returned (.int .i64 (v : Int))) ((w1.setCell ⟨R, 2, none⟩ (.bool false)).setCell ⟨R, 1, none⟩ (.int .i64 (E : Int)))) :=
          hide ⟨v, rfl, by omega, by rw [Cod.nx_some HX.out]; exact (hp2.move E hend).rs rfl (fun l h => by cases h; rfl), ((Kt.of_below hb1).trans (hp1.kt 2 _)).trans (hp2.kt 1 _), by rw [Cod.vl_some HX.out]; rfl⟩
        clear hp1 hb1 hp2
        go_wp2_with fail
        go_ret
        exact HE.out
    · have HX : Hid (Cod.nx Cod.cnt (some (zs.drop k)) = none ∧ Cod.vl Cod.cnt (some (zs.drop k)) = none) := by
        have : Cod.cnt.get (zs.drop k) = none := by
          simp only [Cod.cnt, Cod.size, hg, List.drop_drop, ← hE]
          rw [if_neg (by rw [List.length_drop, hln]; exact hv)]
        exact hide ⟨Cod.nx_bad this, Cod.vl_bad this⟩
      have hvd : decide ((n : Int) - (E : Int) < (v : Int)) = true := by simp; omega
      have hv0 : (n : Int) - (E : Int) < (v : Int) := by omega
      have hend : E ≤ n := by omega
      clear hE hv1
      go_enter Try.func96, Try.ntmps96
      go_wp2_with fail
      go_region_held3 (fun V => V.cell? ⟨R, 0, none⟩ = some (.slice (some ⟨B, O, none⟩) n cap) ∧ V.cell? ⟨R, 1, none⟩ = some (.int .i64 (k : Int)))
        (exact HQ.out _ (by first | assumption | exact (Below.refl _ _).drew))
        (first | (go_at_call 104; refine (HC.out _ (HL.out.drew)).mono ?_; rintro e w1 ⟨rfl, hb0⟩; have hb1 : Below w.heap.size w w1 := (Below.refl _ w).drew.trans hb0; clear hb0))
      all_goals
        go_split_ands
        have hp1 := HP.out.keep hb1
        have q0 := hp1.c0
        have q2 := hp1.c2
        have q3 := hp1.f2
        have HE := hide (Psz.bad (s := some (zs.drop k)) (zs := zs) (hp1.mark true) ((Kt.of_below hb1).trans (hp1.kt 2 (.bool true))) HX.out.1 HX.out.2)
        clear hp1 hb1
        go_wp2_with fail
        go_ret
        exact HE.out
end

end Go.Proofs.Ytnimfkcnkkjlkaa

/-
  The program's reader: numbers.
-/
namespace Go.Proofs.Ytnimfkcnkkjlkaa
open Go.RowKit
set_option maxRecDepth 100000
set_option linter.unusedVariables false

section
variable {Wb w w' : World} {R B O n cap : Nat} {zs : List Int} {s : Option (List Int)}

theorem unfo_i64 {v : Nat} (h : v < 18446744073709551616) : I64 (unfo v) := by
  unfold unfo I64
  split <;> omega

theorem getInt_at (hB : Bs Wb (some ⟨B, O, none⟩) n cap zs) (k : Nat) (W : World) (hW : Below Wb.heap.size Wb W) :
    Calls Try.prog 87 #[.slice (some ⟨B, O, none⟩) n cap, .int .i64 (k : Int)] W fun e w' => (match getv (zs.drop k) with
      | some v => e = .returned (.tuple #[.int .i64 (unfo v), .int .i64 ((k + (vb v).length : Nat) : Int), .bool true])
      | none => e = .returned (.tuple #[.int .i64 0, .int .i64 0, .bool false])) ∧ Below W.heap.size W w' := by
  have C := getInt_val (some ⟨B, O, none⟩) n cap zs k W (hB.keep hW)
  unfold gN gE gB at C
  rw [gv_drop] at C
  refine C.mono ?_
  rintro e w' ⟨rfl, hb⟩
  refine ⟨?_, hb⟩
  cases getv (zs.drop k) with
  | none => rfl
  | some v => simp

/-- A number of this kind. -/
def Pi64 (Wb : World) (R B O n cap : Nat) (zs : List Int) (s : Option (List Int)) (w : World) (e : Ending) (w' : World) : Prop :=
  ∃ x : Int, e = .returned (.int .i64 x) ∧ Rs Wb R B O n cap zs (Cod.nx Cod.i64 s) w' ∧ Kt (107 : TypeId) w w' ∧ ∀ y, Cod.vl Cod.i64 s = some y → LI64 w' y [.int .i64 x]

theorem Pi64.bad {k : Nat} (h : Rp Wb R B O n cap k true w') (hk : Kt (107 : TypeId) w w') (h1 : Cod.nx Cod.i64 s = none) (h2 : Cod.vl Cod.i64 s = none) : Pi64 Wb R B O n cap zs s w (.returned (.int .i64 0)) w' :=
  ⟨0, rfl, by rw [h1]; exact h.rs rfl (fun _ h => by cases h), hk, fun y hy => by rw [h2] at hy; cases hy⟩

theorem Pi64.good {E : Nat} {x : Int} (h : Rp Wb R B O n cap E false w') (hk : Kt (107 : TypeId) w w') (h1 : Cod.nx Cod.i64 s = some (zs.drop E)) (h2 : Cod.vl Cod.i64 s = some x) (hx : I64 x) : Pi64 Wb R B O n cap zs s w (.returned (.int .i64 x)) w' :=
  ⟨x, rfl, by rw [h1]; exact h.rs rfl (fun l h => by cases h; rfl), hk, fun y hy => by rw [h2] at hy; cases hy; exact ⟨rfl, hx⟩⟩

/-- A number of this kind. -/
def Pu8 (Wb : World) (R B O n cap : Nat) (zs : List Int) (s : Option (List Int)) (w : World) (e : Ending) (w' : World) : Prop :=
  ∃ x : Int, e = .returned (.int .u8 x) ∧ Rs Wb R B O n cap zs (Cod.nx Cod.u8 s) w' ∧ Kt (107 : TypeId) w w' ∧ ∀ y, Cod.vl Cod.u8 s = some y → LU8 w' y [.int .u8 x]

theorem Pu8.bad {k : Nat} (h : Rp Wb R B O n cap k true w') (hk : Kt (107 : TypeId) w w') (h1 : Cod.nx Cod.u8 s = none) (h2 : Cod.vl Cod.u8 s = none) : Pu8 Wb R B O n cap zs s w (.returned (.int .u8 0)) w' :=
  ⟨0, rfl, by rw [h1]; exact h.rs rfl (fun _ h => by cases h), hk, fun y hy => by rw [h2] at hy; cases hy⟩

theorem Pu8.good {E : Nat} {x : Int} (h : Rp Wb R B O n cap E false w') (hk : Kt (107 : TypeId) w w') (h1 : Cod.nx Cod.u8 s = some (zs.drop E)) (h2 : Cod.vl Cod.u8 s = some x) (hx : U8 x) : Pu8 Wb R B O n cap zs s w (.returned (.int .u8 x)) w' :=
  ⟨x, rfl, by rw [h1]; exact h.rs rfl (fun l h => by cases h; rfl), hk, fun y hy => by rw [h2] at hy; cases hy; exact ⟨rfl, hx⟩⟩

set_option maxHeartbeats 1000000 in
theorem rnint64_wrong (hB : Bs Wb (some ⟨B, O, none⟩) n cap zs) (h : Rs Wb R B O n cap zs none w) :
    Calls Try.prog 56 #[.pointer (some ⟨R, 0, none⟩)] w (Pi64 Wb R B O n cap zs none w) := by
  obtain ⟨k, hp, hs⟩ := h.rp
  have hkn := hp.le
  have hln := hB.len
  have c0 := hp.c0
  have c1 := hp.c1
  have HQ : Hid (∀ V, Below w.heap.size w V → V.cell? ⟨R, 0, none⟩ = some (.slice (some ⟨B, O, none⟩) n cap) ∧ V.cell? ⟨R, 1, none⟩ = some (.int .i64 (k : Int))) := hide fun V hV => ⟨cell_keep c0 hV, cell_keep c1 hV⟩
  have HP := hide hp
  have HL := hide h.low
  have hbyt := drop_byte hB.byte k
  have hdl : (zs.drop k).length = n - k := by rw [List.length_drop, hln]
  have HX : Hid (Cod.nx Cod.i64 none = none ∧ Cod.vl Cod.i64 none = none) := hide ⟨rfl, rfl⟩
  have HC := hide (fun W (hW : Below Wb.heap.size Wb W) => getInt_val (some ⟨B, O, none⟩) n cap zs k W (hB.keep hW))
  generalize unfo (gN zs (k : Int)) = gn at HC
  generalize gE zs (k : Int) = ge at HC
  generalize gB zs (k : Int) = gb at HC
  clear hp hB h hs
  go_enter Try.func56, Try.ntmps56
  go_wp2_with fail
  go_region_held3 (fun V => V.cell? ⟨R, 0, none⟩ = some (.slice (some ⟨B, O, none⟩) n cap) ∧ V.cell? ⟨R, 1, none⟩ = some (.int .i64 (k : Int)))
    (exact HQ.out _ (by first | assumption | exact (Below.refl _ _).drew))
    (first | (go_at_call 87; refine (HC.out _ (HL.out.drew)).mono ?_; rintro e w1 ⟨rfl, hb0⟩; have hb1 : Below w.heap.size w w1 := (Below.refl _ w).drew.trans hb0; clear hb0))
  go_split_ands
  have hp1 := HP.out.keep hb1
  have q2 := hp1.c2
  have q3 := hp1.f2
  have HE := hide (Pi64.bad (s := none) (zs := zs) (hp1.mark true) ((Kt.of_below hb1).trans (hp1.kt 2 (.bool true))) HX.out.1 HX.out.2)
  clear hp1 hb1
  go_wp2_with fail
  go_ret
  exact HE.out

set_option maxHeartbeats 1000000 in
theorem rnint64_any (hB : Bs Wb (some ⟨B, O, none⟩) n cap zs) (hn : n ≤ 100000) (h : Rs Wb R B O n cap zs s w) :
    Calls Try.prog 56 #[.pointer (some ⟨R, 0, none⟩)] w (Pi64 Wb R B O n cap zs s w) := by
  cases s with
  | none => exact rnint64_wrong hB h
  | some l =>
  obtain ⟨k, hp, hs⟩ := h.rp
  have hkn := hp.le
  have hln := hB.len
  have c0 := hp.c0
  have c1 := hp.c1
  have HQ : Hid (∀ V, Below w.heap.size w V → V.cell? ⟨R, 0, none⟩ = some (.slice (some ⟨B, O, none⟩) n cap) ∧ V.cell? ⟨R, 1, none⟩ = some (.int .i64 (k : Int))) := hide fun V hV => ⟨cell_keep c0 hV, cell_keep c1 hV⟩
  have HP := hide hp
  have HL := hide h.low
  have hbyt := drop_byte hB.byte k
  have hdl : (zs.drop k).length = n - k := by rw [List.length_drop, hln]
  obtain rfl := hs l rfl
  have HC := hide (getInt_at hB k)
  clear hp hB h hs
  cases hg : getv (zs.drop k) with
  | none =>
    rw [hg] at HC
    have HX : Hid (Cod.nx Cod.i64 (some (zs.drop k)) = none ∧ Cod.vl Cod.i64 (some (zs.drop k)) = none) := by
      have : Cod.i64.get (zs.drop k) = none := by simp [Cod.i64, Cod.num, Cod.via, Cod.size, hg]
      exact hide ⟨Cod.nx_bad this, Cod.vl_bad this⟩
    go_enter Try.func56, Try.ntmps56
    go_wp2_with fail
    go_region_held3 (fun V => V.cell? ⟨R, 0, none⟩ = some (.slice (some ⟨B, O, none⟩) n cap) ∧ V.cell? ⟨R, 1, none⟩ = some (.int .i64 (k : Int)))
      (exact HQ.out _ (by first | assumption | exact (Below.refl _ _).drew))
      (first | (go_at_call 87; refine (HC.out _ (HL.out.drew)).mono ?_; rintro e w1 ⟨rfl, hb0⟩; have hb1 : Below w.heap.size w w1 := (Below.refl _ w).drew.trans hb0; clear hb0))
    go_split_ands
    have hp1 := HP.out.keep hb1
    have q2 := hp1.c2
    have q3 := hp1.f2
    have HE := hide (Pi64.bad (s := some (zs.drop k)) (zs := zs) (hp1.mark true) ((Kt.of_below hb1).trans (hp1.kt 2 (.bool true))) HX.out.1 HX.out.2)
    clear hp1 hb1
    go_wp2_with fail
    go_ret
    exact HE.out
  | some v =>
    rw [hg] at HC
    obtain ⟨hv1, hv2⟩ := getv_fits hbyt hg
    rw [hdl] at hv1
    obtain ⟨E, hE⟩ : ∃ E, E = k + (vb v).length := ⟨_, rfl⟩
    obtain ⟨X, hX⟩ : ∃ X, X = unfo v := ⟨_, rfl⟩
    have HC' := HC.out
    simp only [← hE, ← hX] at HC'
    have HC := hide HC'
    clear HC'
    have hXi : I64 X := by rw [hX]; exact unfo_i64 hv2
    have x0 := hXi.1
    have x1 := hXi.2
    have hend : E ≤ n := by omega
    have hx : Cod.i64.get (zs.drop k) = some (X, zs.drop E) := by
      simp only [Cod.i64, Cod.num, Cod.via, Cod.size, hg, List.drop_drop, ← hE, ← hX]
      rw [if_pos ⟨x0, x1⟩]
    have hne : (X != X) = false := by simp
    have HX := hide hx
    clear hx hE hX
    go_enter Try.func56, Try.ntmps56
    go_wp2_with fail
    go_region_held3 (fun V => V.cell? ⟨R, 0, none⟩ = some (.slice (some ⟨B, O, none⟩) n cap) ∧ V.cell? ⟨R, 1, none⟩ = some (.int .i64 (k : Int)))
      (exact HQ.out _ (by first | assumption | exact (Below.refl _ _).drew))
      (first | (go_at_call 87; refine (HC.out _ (HL.out.drew)).mono ?_; rintro e w1 ⟨rfl, hb0⟩; have hb1 : Below w.heap.size w w1 := (Below.refl _ w).drew.trans hb0; clear hb0))
    go_split_ands
    have hp1 := HP.out.keep hb1
    have q2 := hp1.c2
    have q3 := hp1.f2
    have hp2 := hp1.mark false
    have q4 := hp2.c2
    have q5 := hp2.f1
    have q6 := hp2.c1
    have HE := hide (Pi64.good (s := some (zs.drop k)) (zs := zs) (hp2.move E hend) (((Kt.of_below hb1).trans (hp1.kt 2 _)).trans (hp2.kt 1 _)) (Cod.nx_some HX.out) (Cod.vl_some HX.out) hXi)
    clear hp1 hb1 hp2
    go_wp2_with fail
    go_ret
    exact HE.out

set_option maxHeartbeats 1000000 in
theorem rnint_wrong (hB : Bs Wb (some ⟨B, O, none⟩) n cap zs) (h : Rs Wb R B O n cap zs none w) :
    Calls Try.prog 59 #[.pointer (some ⟨R, 0, none⟩)] w (Pi64 Wb R B O n cap zs none w) := by
  obtain ⟨k, hp, hs⟩ := h.rp
  have hkn := hp.le
  have hln := hB.len
  have c0 := hp.c0
  have c1 := hp.c1
  have HQ : Hid (∀ V, Below w.heap.size w V → V.cell? ⟨R, 0, none⟩ = some (.slice (some ⟨B, O, none⟩) n cap) ∧ V.cell? ⟨R, 1, none⟩ = some (.int .i64 (k : Int))) := hide fun V hV => ⟨cell_keep c0 hV, cell_keep c1 hV⟩
  have HP := hide hp
  have HL := hide h.low
  have hbyt := drop_byte hB.byte k
  have hdl : (zs.drop k).length = n - k := by rw [List.length_drop, hln]
  have HX : Hid (Cod.nx Cod.i64 none = none ∧ Cod.vl Cod.i64 none = none) := hide ⟨rfl, rfl⟩
  have HC := hide (fun W (hW : Below Wb.heap.size Wb W) => getInt_val (some ⟨B, O, none⟩) n cap zs k W (hB.keep hW))
  generalize unfo (gN zs (k : Int)) = gn at HC
  generalize gE zs (k : Int) = ge at HC
  generalize gB zs (k : Int) = gb at HC
  clear hp hB h hs
  go_enter Try.func59, Try.ntmps59
  go_wp2_with fail
  go_region_held3 (fun V => V.cell? ⟨R, 0, none⟩ = some (.slice (some ⟨B, O, none⟩) n cap) ∧ V.cell? ⟨R, 1, none⟩ = some (.int .i64 (k : Int)))
    (exact HQ.out _ (by first | assumption | exact (Below.refl _ _).drew))
    (first | (go_at_call 87; refine (HC.out _ (HL.out.drew)).mono ?_; rintro e w1 ⟨rfl, hb0⟩; have hb1 : Below w.heap.size w w1 := (Below.refl _ w).drew.trans hb0; clear hb0))
  go_split_ands
  have hp1 := HP.out.keep hb1
  have q2 := hp1.c2
  have q3 := hp1.f2
  have HE := hide (Pi64.bad (s := none) (zs := zs) (hp1.mark true) ((Kt.of_below hb1).trans (hp1.kt 2 (.bool true))) HX.out.1 HX.out.2)
  clear hp1 hb1
  go_wp2_with fail
  go_ret
  exact HE.out

set_option maxHeartbeats 1000000 in
theorem rnint_any (hB : Bs Wb (some ⟨B, O, none⟩) n cap zs) (hn : n ≤ 100000) (h : Rs Wb R B O n cap zs s w) :
    Calls Try.prog 59 #[.pointer (some ⟨R, 0, none⟩)] w (Pi64 Wb R B O n cap zs s w) := by
  cases s with
  | none => exact rnint_wrong hB h
  | some l =>
  obtain ⟨k, hp, hs⟩ := h.rp
  have hkn := hp.le
  have hln := hB.len
  have c0 := hp.c0
  have c1 := hp.c1
  have HQ : Hid (∀ V, Below w.heap.size w V → V.cell? ⟨R, 0, none⟩ = some (.slice (some ⟨B, O, none⟩) n cap) ∧ V.cell? ⟨R, 1, none⟩ = some (.int .i64 (k : Int))) := hide fun V hV => ⟨cell_keep c0 hV, cell_keep c1 hV⟩
  have HP := hide hp
  have HL := hide h.low
  have hbyt := drop_byte hB.byte k
  have hdl : (zs.drop k).length = n - k := by rw [List.length_drop, hln]
  obtain rfl := hs l rfl
  have HC := hide (getInt_at hB k)
  clear hp hB h hs
  cases hg : getv (zs.drop k) with
  | none =>
    rw [hg] at HC
    have HX : Hid (Cod.nx Cod.i64 (some (zs.drop k)) = none ∧ Cod.vl Cod.i64 (some (zs.drop k)) = none) := by
      have : Cod.i64.get (zs.drop k) = none := by simp [Cod.i64, Cod.num, Cod.via, Cod.size, hg]
      exact hide ⟨Cod.nx_bad this, Cod.vl_bad this⟩
    go_enter Try.func59, Try.ntmps59
    go_wp2_with fail
    go_region_held3 (fun V => V.cell? ⟨R, 0, none⟩ = some (.slice (some ⟨B, O, none⟩) n cap) ∧ V.cell? ⟨R, 1, none⟩ = some (.int .i64 (k : Int)))
      (exact HQ.out _ (by first | assumption | exact (Below.refl _ _).drew))
      (first | (go_at_call 87; refine (HC.out _ (HL.out.drew)).mono ?_; rintro e w1 ⟨rfl, hb0⟩; have hb1 : Below w.heap.size w w1 := (Below.refl _ w).drew.trans hb0; clear hb0))
    go_split_ands
    have hp1 := HP.out.keep hb1
    have q2 := hp1.c2
    have q3 := hp1.f2
    have HE := hide (Pi64.bad (s := some (zs.drop k)) (zs := zs) (hp1.mark true) ((Kt.of_below hb1).trans (hp1.kt 2 (.bool true))) HX.out.1 HX.out.2)
    clear hp1 hb1
    go_wp2_with fail
    go_ret
    exact HE.out
  | some v =>
    rw [hg] at HC
    obtain ⟨hv1, hv2⟩ := getv_fits hbyt hg
    rw [hdl] at hv1
    obtain ⟨E, hE⟩ : ∃ E, E = k + (vb v).length := ⟨_, rfl⟩
    obtain ⟨X, hX⟩ : ∃ X, X = unfo v := ⟨_, rfl⟩
    have HC' := HC.out
    simp only [← hE, ← hX] at HC'
    have HC := hide HC'
    clear HC'
    have hXi : I64 X := by rw [hX]; exact unfo_i64 hv2
    have x0 := hXi.1
    have x1 := hXi.2
    have hend : E ≤ n := by omega
    have hx : Cod.i64.get (zs.drop k) = some (X, zs.drop E) := by
      simp only [Cod.i64, Cod.num, Cod.via, Cod.size, hg, List.drop_drop, ← hE, ← hX]
      rw [if_pos ⟨x0, x1⟩]
    have hne : (X != X) = false := by simp
    have HX := hide hx
    clear hx hE hX
    go_enter Try.func59, Try.ntmps59
    go_wp2_with fail
    go_region_held3 (fun V => V.cell? ⟨R, 0, none⟩ = some (.slice (some ⟨B, O, none⟩) n cap) ∧ V.cell? ⟨R, 1, none⟩ = some (.int .i64 (k : Int)))
      (exact HQ.out _ (by first | assumption | exact (Below.refl _ _).drew))
      (first | (go_at_call 87; refine (HC.out _ (HL.out.drew)).mono ?_; rintro e w1 ⟨rfl, hb0⟩; have hb1 : Below w.heap.size w w1 := (Below.refl _ w).drew.trans hb0; clear hb0))
    go_split_ands
    have hp1 := HP.out.keep hb1
    have q2 := hp1.c2
    have q3 := hp1.f2
    have hp2 := hp1.mark false
    have q4 := hp2.c2
    have q5 := hp2.f1
    have q6 := hp2.c1
    have HE := hide (Pi64.good (s := some (zs.drop k)) (zs := zs) (hp2.move E hend) (((Kt.of_below hb1).trans (hp1.kt 2 _)).trans (hp2.kt 1 _)) (Cod.nx_some HX.out) (Cod.vl_some HX.out) hXi)
    clear hp1 hb1 hp2
    go_wp2_with fail
    go_ret
    exact HE.out
end

end Go.Proofs.Ytnimfkcnkkjlkaa

/-
  The program's reader: bytes, texts, flags.
-/
namespace Go.Proofs.Ytnimfkcnkkjlkaa
open Go.RowKit
set_option maxRecDepth 100000

section
variable {Wb w w' : World} {R B O n cap : Nat} {zs : List Int} {s : Option (List Int)}

/-- A piece of the bytes themselves. -/
def Ppt (Wb : World) (R B O n cap : Nat) (zs : List Int) (s : Option (List Int)) (w : World) (e : Ending) (w' : World) : Prop :=
  ∃ a m d, e = .returned (.slice a m d) ∧ Rs Wb R B O n cap zs (Cod.nx Cod.data s) w' ∧ Kt (107 : TypeId) w w' ∧ Bs Wb a m d ((Cod.vl Cod.data s).getD [])

theorem data_step {k1 m : Nat} (hm : m = (Cod.vl Cod.cnt s).getD 0) (hs : ∀ l, Cod.nx Cod.cnt s = some l → l = zs.drop k1) (hln : zs.length = n) :
    (Cod.nx Cod.cnt s = none ∧ m = 0 ∧ Cod.nx Cod.data s = none ∧ Cod.vl Cod.data s = none) ∨
    (Cod.nx Cod.cnt s = some (zs.drop k1) ∧ m ≤ n - k1 ∧ Cod.nx Cod.data s = some (zs.drop (k1 + m)) ∧ Cod.vl Cod.data s = some ((zs.drop k1).take m)) := by
  cases s with
  | none => exact .inl ⟨rfl, hm, rfl, rfl⟩
  | some l =>
    cases e : Cod.cnt.get l with
    | none =>
      have e2 : Cod.data.get l = none := by rw [Cod.data_cnt, e]
      exact .inl ⟨Cod.nx_bad e, by rw [hm, Cod.vl_bad e]; rfl, Cod.nx_bad e2, Cod.vl_bad e2⟩
    | some q =>
      obtain ⟨j, t⟩ := q
      have h1 := hs t (Cod.nx_some e)
      have h2 : m = j := by rw [hm, Cod.vl_some e]; rfl
      subst h2
      subst h1
      have e2 : Cod.data.get l = some ((zs.drop k1).take m, (zs.drop k1).drop m) := by rw [Cod.data_cnt, e]
      refine .inr ⟨Cod.nx_some e, ?_, by rw [Cod.nx_some e2, List.drop_drop], Cod.vl_some e2⟩
      simp only [Cod.cnt] at e
      split at e
      · split at e
        · next h =>
          simp only [Option.some.injEq, Prod.mk.injEq] at e
          obtain ⟨rfl, rfl⟩ := e
          rw [List.length_drop, hln] at h
          exact h
        · cases e
      · cases e

theorem Bs.piece (hB : Bs Wb (some ⟨B, O, none⟩) n cap zs) (k m : Nat) (h : k + m ≤ n) : Bs Wb (some ⟨B, O + k, none⟩) m (cap - k) ((zs.drop k).take m) := (hB.drop k (by omega)).head m (by omega)

set_option maxHeartbeats 1000000 in
theorem rpart_any (hB : Bs Wb (some ⟨B, O, none⟩) n cap zs) (hn : n ≤ 100000) (h : Rs Wb R B O n cap zs s w) :
    Calls Try.prog 89 #[.pointer (some ⟨R, 0, none⟩)] w (Ppt Wb R B O n cap zs s w) := by
  have hln := hB.len
  have hle := hB.le
  have hre := hB.reach
  go_enter Try.func89, Try.ntmps89
  go_wp2_with fail
  refine (rsize_any hB hn h).mono ?_
  rintro e w1 ⟨m, rfl, hmn, hS, hk, hm⟩
  obtain ⟨k1, hp, hs1⟩ := hS.rp
  have hkn := hp.le
  have c0 := hp.c0
  have c1 := hp.c1
  have f1 := hp.f1
  have hst := data_step hm hs1 hln
  have hsum : k1 + m ≤ n := by
    rcases hst with ⟨_, h2, _⟩ | ⟨_, h2, _⟩ <;> omega
  have HR : Hid (∀ x : Int, x = ((k1 + m : Nat) : Int) → (w1.setCell ⟨R, 1, none⟩ (.int .i64 x)).cell? ⟨R, 0, none⟩ = some (.slice (some ⟨B, O, none⟩) n cap) ∧ (w1.setCell ⟨R, 1, none⟩ (.int .i64 x)).cell? ⟨R, 1, none⟩ = some (.int .i64 x) ∧
      Rs Wb R B O n cap zs (Cod.nx Cod.data s) (w1.setCell ⟨R, 1, none⟩ (.int .i64 x)) ∧ Kt (107 : TypeId) w (w1.setCell ⟨R, 1, none⟩ (.int .i64 x))) := by
    refine hide fun x hx => ?_
    subst hx
    have hp2 := hp.move (k1 + m) hsum
    refine ⟨hp2.c0, hp2.c1, ?_, hk.trans (hp.kt 1 _)⟩
    rcases hst with ⟨h1, _, h3, _⟩ | ⟨h1, _, h3, _⟩
    · rw [h1] at hp2
      rw [h3]
      exact hp2.rs rfl (fun l h => by cases h)
    · rw [h1] at hp2
      rw [h3]
      exact hp2.rs rfl (fun l h => by cases h; rfl)
  have HV : Hid ((Cod.vl Cod.data s).getD [] = (zs.drop k1).take m) := by
    rcases hst with ⟨_, h2, _, h4⟩ | ⟨_, _, _, h4⟩
    · rw [h4, h2]
      exact hide rfl
    · rw [h4]
      exact hide rfl
  clear hp hst hs1 hS h hm hk
  by_cases hcap : cap = k1
  · have hm0 : m = 0 := by omega
    subst hm0
    subst hcap
    have HB : Hid (Bs Wb (some ⟨B, O, none⟩) 0 0 ((zs.drop cap).take 0)) := hide ⟨rfl, Nat.le_refl _, by omega, by simp, fun h => (by cases h), fun h => by omega⟩
    obtain ⟨d0, d1, d2⟩ := HR.out (cap : Int) (by omega)
    have HD := hide d2
    clear HR d2
    go_wp2_with fail
    go_region
    all_goals
      go_wp2_with fail
      go_ret
      exact ⟨_, _, _, rfl, HD.out.1.drew, HD.out.2.trans (Kt.of_below (Below.refl _ _).drew), by rw [HV.out]; exact HB.out⟩
  · have HB := hide (hB.piece k1 m hsum)
    have hem : k1 + m - k1 = m := by omega
    obtain ⟨d0, d1, d2⟩ := HR.out ((k1 : Int) + (m : Int)) (by omega)
    have HD := hide d2
    clear HR d2
    go_wp2_with fail
    go_region
    all_goals
      go_wp2_with fail
      go_ret
      exact ⟨_, _, _, rfl, HD.out.1.drew, HD.out.2.trans (Kt.of_below (Below.refl _ _).drew), by rw [HV.out, hem]; exact HB.out⟩

/-- Bytes of its own. -/
def Pby (Wb : World) (R B O n cap : Nat) (zs : List Int) (s : Option (List Int)) (w : World) (e : Ending) (w' : World) : Prop :=
  ∃ a m d, e = .returned (.slice a m d) ∧ Rs Wb R B O n cap zs (Cod.nx Cod.data s) w' ∧ Kt (107 : TypeId) w w' ∧ w'.ownsRow w.heap.size 5 1 (.slice a m d) ((Cod.vl Cod.data s).getD []).length (U ((Cod.vl Cod.data s).getD [])) ∧ ∀ z ∈ (Cod.vl Cod.data s).getD [], 0 ≤ z ∧ z ≤ 255

theorem own_by {base m : Nat} {a : Option Addr} {d : Nat} {xs : List Int} (h : w.ownsRow base 5 1 (.slice a m d) xs.length (U xs)) (hb : ∀ z ∈ xs, 0 ≤ z ∧ z ≤ 255) : LBy w xs [.slice a m d] := by
  have hv := own_val h
  obtain ⟨a', d', e⟩ := hv
  simp only [Value.slice.injEq] at e
  obtain ⟨rfl, rfl, rfl⟩ := e
  refine ⟨a, _, d, rfl, own_bs h hb, fun hm => ?_⟩
  rcases h.2 with ⟨h1, h2⟩ | ⟨g, c, cur, h1, _, hg, _⟩
  · omega
  · simp only [Value.slice.injEq] at h1
    exact ⟨g, 0, cur, (0, 0), h1.1, hg⟩

set_option maxHeartbeats 1000000 in
theorem rbytes_any (hB : Bs Wb (some ⟨B, O, none⟩) n cap zs) (hn : n ≤ 100000) (h : Rs Wb R B O n cap zs s w) :
    Calls Try.prog 72 #[.pointer (some ⟨R, 0, none⟩)] w (Pby Wb R B O n cap zs s w) := by
  obtain ⟨i0, hi, hz0, hz1, hz2⟩ := info_parts info5
  go_enter Try.func72, Try.ntmps72
  go_wp2_with fail
  refine (rpart_any hB hn h).mono ?_
  rintro e w1 ⟨a, m, d, rfl, hS, hk, hX⟩
  generalize hxs : (Cod.vl Cod.data s).getD [] = xs at hX
  have hX1 := hX.keep hS.low
  have hml : m ≤ 100000 := by
    rw [← hX.len, ← hxs]
    cases hv : Cod.vl Cod.data s with
    | none => simp
    | some y =>
      obtain ⟨l, t, hl, hy⟩ := Cod.vl_iff.1 hv
      subst hl
      obtain ⟨k, hp, hs⟩ := h.rp
      have := hs l rfl
      have hb := drop_byte hB.byte k
      rw [← this] at hb
      have h1 := Cod.data_law.len hb hy
      have h2 : l.length ≤ n := by rw [this, List.length_drop, hB.len]; omega
      have h3 : (Cod.data.put y).length = (vb y.length).length + y.length := by simp [Cod.data]
      simp only [Option.getD_some]
      omega
  have hs1 := hk.size
  have HE : Hid (∀ v3 w3, w3.ownsRow w.heap.size 5 1 v3 (0 + m) (U ([] ++ xs)) → w1.grownBy w3 (Value.slice none 0 0).ownBlock → ∃ a3 d3, v3 = .slice a3 m d3 ∧ Pby Wb R B O n cap zs s w (.returned (.slice a3 m d3)) w3) := by
    refine hide fun v3 w3 ho hg => ?_
    rw [Nat.zero_add, List.nil_append] at ho
    obtain ⟨a3, d3, rfl⟩ := own_val ho
    have hb3 : Below w1.heap.size w1 w3 := (Below.refl _ w1).grown hg (Nat.le_refl _) (fun k hk => by cases hk)
    refine ⟨a3, d3, rfl, a3, m, d3, rfl, hS.keep hb3, hk.trans (Kt.of_below hb3), ?_, ?_⟩
    · rw [hxs, hX.len]
      exact ho
    · rw [hxs]
      exact hX.byte
  clear hS hk hX hxs h
  go_wp2_with (at_builtin; refine wpList_append_two rfl (.const (.slice none 0 0)) (.tmp 4) 22 22 rfl w.heap.size 5 5 i0 Try.underlying22 Try.underlying22 hi hz0 hz1 hz2 _ 0 [] rfl (World.ownsRow_nil _ _ _ _) _ _ _ _ rfl hX1 (by omega) (by omega) ?_; intro v3 w3 ho3 hgr3 hgo3; clear hgo3; obtain ⟨a3, d3, rfl, hE⟩ := HE.out v3 w3 ho3 hgr3; have HF := hide hE; clear ho3 hgr3 hE)
  go_ret
  exact HF.out

/-- A text. -/
def Ptx (Wb : World) (R B O n cap : Nat) (zs : List Int) (s : Option (List Int)) (w : World) (e : Ending) (w' : World) : Prop :=
  ∃ st, e = .returned (.string st) ∧ Rs Wb R B O n cap zs (Cod.nx Cod.data s) w' ∧ Kt (107 : TypeId) w w' ∧ ∀ y, Cod.vl Cod.data s = some y → LTx w' y [.string st]

set_option maxHeartbeats 1000000 in
theorem rtext_any (hB : Bs Wb (some ⟨B, O, none⟩) n cap zs) (hn : n ≤ 100000) (h : Rs Wb R B O n cap zs s w) :
    Calls Try.prog 58 #[.pointer (some ⟨R, 0, none⟩)] w (Ptx Wb R B O n cap zs s w) := by
  go_enter Try.func58, Try.ntmps58
  go_wp2_with fail
  refine (rpart_any hB hn h).mono ?_
  rintro e w1 ⟨a, m, d, rfl, hS, hk, hX⟩
  generalize hxs : (Cod.vl Cod.data s).getD [] = xs at hX
  have k1 : (convert 22 9 (.slice a m d)).run Try.prog w1 = .ok (.string (strOfNums xs)) w1 := run_str 22 5 Try.underlying22 Try.underlying5 (hX.keep hS.low) 9 Try.underlying9
  have HE : Hid (Ptx Wb R B O n cap zs s w (.returned (.string (strOfNums xs))) w1) := by
    refine hide ⟨_, rfl, hS, hk, fun y hy => ⟨_, rfl, ?_, ?_⟩⟩
    · rw [hy] at hxs
      rw [sb_str hX.byte, ← hxs]
      rfl
    · have h1 : (strOfNums xs).size = m := by rw [← sb_length, sb_str hX.byte, hX.len]
      have := hX.le
      have := hX.reach
      omega
  generalize strOfNums xs = st at k1 HE
  clear hS hk hX hxs h
  go_wp2_with fail
  go_ret
  exact HE.out

/-- A flag. -/
def Pfl (Wb : World) (R B O n cap : Nat) (zs : List Int) (s : Option (List Int)) (w : World) (e : Ending) (w' : World) : Prop :=
  ∃ x : Bool, e = .returned (.bool x) ∧ Rs Wb R B O n cap zs (Cod.nx Cod.bool s) w' ∧ Kt (107 : TypeId) w w' ∧ ∀ y, Cod.vl Cod.bool s = some y → LBl w' y [.bool x]

theorem Pfl.bad {k : Nat} (h : Rp Wb R B O n cap k true w') (hk : Kt (107 : TypeId) w w') (h1 : Cod.nx Cod.bool s = none) (h2 : Cod.vl Cod.bool s = none) : Pfl Wb R B O n cap zs s w (.returned (.bool false)) w' :=
  ⟨false, rfl, by rw [h1]; exact h.rs rfl (fun _ h => by cases h), hk, fun y hy => by rw [h2] at hy; cases hy⟩

theorem Pfl.drew {x : Value} (h : Pfl Wb R B O n cap zs s w (.returned x) w') : Pfl Wb R B O n cap zs s w (.returned x) w'.drew := by
  obtain ⟨x, h1, h2, h3, h4⟩ := h
  exact ⟨x, h1, h2.drew, h3.trans (Kt.of_below (Below.refl _ _).drew), h4⟩

set_option maxHeartbeats 1000000 in
theorem rflag_any (hB : Bs Wb (some ⟨B, O, none⟩) n cap zs) (hn : n ≤ 100000) (h : Rs Wb R B O n cap zs s w) :
    Calls Try.prog 69 #[.pointer (some ⟨R, 0, none⟩)] w (Pfl Wb R B O n cap zs s w) := by
  obtain ⟨k, hp, hs⟩ := h.rp
  have hkn := hp.le
  have hln := hB.len
  have hle := hB.le
  have hre := hB.reach
  have c0 := hp.c0
  have c1 := hp.c1
  have c2 := hp.c2
  have f2 := hp.f2
  cases s with
  | none =>
    have HE := hide (Pfl.bad (s := none) (zs := zs) (hp.mark true) (hp.kt 2 (.bool true)) rfl rfl)
    have q2 := (hp.mark true).c2
    clear hp h hs hB
    go_enter Try.func69, Try.ntmps69
    go_wp2_with fail
    go_region
    all_goals
      go_wp2_with fail
      go_ret
      exact HE.out.drew
  | some l =>
    obtain rfl := hs l rfl
    by_cases hend : k = n
    · have hx : Cod.bool.get (zs.drop k) = none := by rw [List.drop_eq_nil_of_le (by omega)]; rfl
      have HE := hide (Pfl.bad (s := some (zs.drop k)) (zs := zs) (hp.mark true) (hp.kt 2 (.bool true)) (Cod.nx_bad hx) (Cod.vl_bad hx))
      have q2 := (hp.mark true).c2
      have i1 : ((k : Int) == (n : Int)) = true := by simp [hend]
      subst hend
      clear hp h hs hB hx
      go_enter Try.func69, Try.ntmps69
      go_wp2_with fail
      go_region
      all_goals
        go_wp2_with fail
        go_ret
        exact HE.out.drew
    · have hlt : k < n := by omega
      obtain ⟨b', o', ha, hc⟩ := hB.lies (by omega)
      simp only [Option.some.injEq, Addr.mk.injEq, and_true] at ha
      obtain ⟨rfl, rfl⟩ := ha
      have hz := cell_keep (hc k hlt) h.low
      have hbz : 0 ≤ zs.getD k 0 ∧ zs.getD k 0 ≤ 255 := by
        have := getD_byte hB.byte k
        simpa [List.getD] using this
      have hd : zs.drop k = zs.getD k 0 :: zs.drop (k + 1) := by
        rw [List.drop_eq_getElem_cons (by omega)]
        simp [List.getD, show k < zs.length by omega]
      have hdec : ((k : Int) == (n : Int)) = false := by simp; omega
      have z0 := hbz.1
      have z1 := hbz.2
      have hxx : Cod.bool.get (zs.drop k) = if zs.getD k 0 = 0 then some (false, zs.drop (k + 1)) else if zs.getD k 0 = 1 then some (true, zs.drop (k + 1)) else none := by
        conv => lhs; rw [hd]
        rfl
      clear hd hbz hc
      generalize zs.getD k 0 = z at hz z0 z1 hxx
      have i1 : (0 : Int) ≤ (k : Int) := by omega
      have i2 : (k : Int) < (n : Int) := by omega
      have hLOW := hide h.low
      by_cases hz1 : z ≤ 1
      · have hgt : decide (1 < z) = false := by simp; omega
        have hgt' : ¬ (1 < z) := by omega
        have hv : Cod.bool.get (zs.drop k) = some (decide (z = 1), zs.drop (k + 1)) := by
          rw [hxx]
          by_cases h0 : z = 0
          · simp [h0]
          · have : z = 1 := by omega
            simp [this]
        have hp2 := hp.mark false
        have q0 := hp2.c0
        have q1 := hp2.c1
        have q2 := hp2.c2
        have q3 := hp2.f1
        have HE : Hid (∀ x : Int, x = ((k + 1 : Nat) : Int) → ((w.setCell ⟨R, 2, none⟩ (.bool false)).setCell ⟨R, 1, none⟩ (.int .i64 x)).cell? ⟨R, 0, none⟩ = some (.slice (some ⟨B, O, none⟩) n cap) ∧ ((w.setCell ⟨R, 2, none⟩ (.bool false)).setCell ⟨R, 1, none⟩ (.int .i64 x)).cell? ⟨R, 1, none⟩ = some (.int .i64 x) ∧
            ((w.setCell ⟨R, 2, none⟩ (.bool false)).setCell ⟨R, 1, none⟩ (.int .i64 x)).cell? ⟨B, O + k, none⟩ = some (.int .u8 z) ∧
            Pfl Wb R B O n cap zs (some (zs.drop k)) w (.returned (.bool (z == 1))) ((w.setCell ⟨R, 2, none⟩ (.bool false)).setCell ⟨R, 1, none⟩ (.int .i64 x))) := by
          refine hide fun x hx => ?_
          subst hx
          have hp3 := hp2.move (k + 1) (by omega)
          refine ⟨hp3.c0, hp3.c1, ?_, z == 1, rfl, by rw [Cod.nx_some hv]; exact hp3.rs rfl (fun l h => by cases h; rfl), (hp.kt 2 _).trans (hp2.kt 1 _), fun y hy => ?_⟩
          · have hWb := hp3.low
            have hcb : Wb.cell? ⟨B, O + k, none⟩ = some (.int .u8 z) := by
              have hlt : B < Wb.heap.size := by
                obtain ⟨b', o', ha, hc'⟩ := hB.lies (by omega)
                simp only [Option.some.injEq, Addr.mk.injEq, and_true] at ha
                obtain ⟨rfl, rfl⟩ := ha
                exact cell_lt (hc' k hlt)
              rw [← hLOW.out.cell (p := ⟨B, O + k, none⟩) hlt]
              exact hz
            exact cell_keep hcb hWb
          · rw [Cod.vl_some hv] at hy
            cases hy
            show [Value.bool (z == 1)] = [Value.bool (decide (z = 1))]
            rfl
        obtain ⟨p0, p1, p2, hE⟩ := HE.out ((k : Int) + 1) (by omega)
        have HF := hide hE
        clear hp hp2 h hs hB hxx hv HE hE hLOW
        have i3 : ((k : Int) + 1 - 1) = (k : Int) := by omega
        go_enter Try.func69, Try.ntmps69
        go_wp2_with fail
        go_region
        all_goals
          go_wp2_with fail
          go_region
          all_goals
            go_wp2_with fail
            go_ret
            first
              | exact HF.out.drew.drew
              | exact HF.out.drew
      · have hv : Cod.bool.get (zs.drop k) = none := by
          rw [hxx, if_neg (by omega), if_neg (by omega)]
        have hgt : decide (1 < z) = true := by simp; omega
        have hgt' : 1 < z := by omega
        have HE := hide (Pfl.bad (s := some (zs.drop k)) (zs := zs) (hp.mark true) (hp.kt 2 (.bool true)) (Cod.nx_bad hv) (Cod.vl_bad hv))
        have q2 := (hp.mark true).c2
        clear hp h hs hB hxx hv hLOW
        go_enter Try.func69, Try.ntmps69
        go_wp2_with fail
        go_region
        all_goals
          go_wp2_with fail
          go_ret
          exact HE.out.drew

end
end Go.Proofs.Ytnimfkcnkkjlkaa

/-
  The program's reader: kinds of a partition's commands.
-/
namespace Go.Proofs.Ytnimfkcnkkjlkaa
open Go.RowKit
set_option maxRecDepth 100000
set_option linter.unusedVariables false

section
variable {Wb w w' : World} {R B O n cap : Nat} {zs : List Int} {s : Option (List Int)}

set_option maxHeartbeats 1000000 in
theorem rnpartkind_wrong (hB : Bs Wb (some ⟨B, O, none⟩) n cap zs) (h : Rs Wb R B O n cap zs none w) :
    Calls Try.prog 54 #[.pointer (some ⟨R, 0, none⟩)] w (Pu8 Wb R B O n cap zs none w) := by
  obtain ⟨k, hp, hs⟩ := h.rp
  have hkn := hp.le
  have hln := hB.len
  have c0 := hp.c0
  have c1 := hp.c1
  have HQ : Hid (∀ V, Below w.heap.size w V → V.cell? ⟨R, 0, none⟩ = some (.slice (some ⟨B, O, none⟩) n cap) ∧ V.cell? ⟨R, 1, none⟩ = some (.int .i64 (k : Int))) := hide fun V hV => ⟨cell_keep c0 hV, cell_keep c1 hV⟩
  have HP := hide hp
  have HL := hide h.low
  have hbyt := drop_byte hB.byte k
  have hdl : (zs.drop k).length = n - k := by rw [List.length_drop, hln]
  have HX : Hid (Cod.nx Cod.u8 none = none ∧ Cod.vl Cod.u8 none = none) := hide ⟨rfl, rfl⟩
  have HC := hide (fun W (hW : Below Wb.heap.size Wb W) => getInt_val (some ⟨B, O, none⟩) n cap zs k W (hB.keep hW))
  generalize unfo (gN zs (k : Int)) = gn at HC
  generalize gE zs (k : Int) = ge at HC
  generalize gB zs (k : Int) = gb at HC
  clear hp hB h hs
  go_enter Try.func54, Try.ntmps54
  go_wp2_with fail
  go_region_held3 (fun V => V.cell? ⟨R, 0, none⟩ = some (.slice (some ⟨B, O, none⟩) n cap) ∧ V.cell? ⟨R, 1, none⟩ = some (.int .i64 (k : Int)))
    (exact HQ.out _ (by first | assumption | exact (Below.refl _ _).drew))
    (first | (go_at_call 87; refine (HC.out _ (HL.out.drew)).mono ?_; rintro e w1 ⟨rfl, hb0⟩; have hb1 : Below w.heap.size w w1 := (Below.refl _ w).drew.trans hb0; clear hb0))
  go_split_ands
  have hp1 := HP.out.keep hb1
  have q2 := hp1.c2
  have q3 := hp1.f2
  have HE := hide (Pu8.bad (s := none) (zs := zs) (hp1.mark true) ((Kt.of_below hb1).trans (hp1.kt 2 (.bool true))) HX.out.1 HX.out.2)
  clear hp1 hb1
  go_wp2_with fail
  go_ret
  exact HE.out

set_option maxHeartbeats 1000000 in
theorem rnpartkind_any (hB : Bs Wb (some ⟨B, O, none⟩) n cap zs) (hn : n ≤ 100000) (h : Rs Wb R B O n cap zs s w) :
    Calls Try.prog 54 #[.pointer (some ⟨R, 0, none⟩)] w (Pu8 Wb R B O n cap zs s w) := by
  cases s with
  | none => exact rnpartkind_wrong hB h
  | some l =>
  obtain ⟨k, hp, hs⟩ := h.rp
  have hkn := hp.le
  have hln := hB.len
  have c0 := hp.c0
  have c1 := hp.c1
  have HQ : Hid (∀ V, Below w.heap.size w V → V.cell? ⟨R, 0, none⟩ = some (.slice (some ⟨B, O, none⟩) n cap) ∧ V.cell? ⟨R, 1, none⟩ = some (.int .i64 (k : Int))) := hide fun V hV => ⟨cell_keep c0 hV, cell_keep c1 hV⟩
  have HP := hide hp
  have HL := hide h.low
  have hbyt := drop_byte hB.byte k
  have hdl : (zs.drop k).length = n - k := by rw [List.length_drop, hln]
  obtain rfl := hs l rfl
  have HC := hide (getInt_at hB k)
  clear hp hB h hs
  cases hg : getv (zs.drop k) with
  | none =>
    rw [hg] at HC
    have HX : Hid (Cod.nx Cod.u8 (some (zs.drop k)) = none ∧ Cod.vl Cod.u8 (some (zs.drop k)) = none) := by
      have : Cod.u8.get (zs.drop k) = none := by simp [Cod.u8, Cod.num, Cod.via, Cod.size, hg]
      exact hide ⟨Cod.nx_bad this, Cod.vl_bad this⟩
    go_enter Try.func54, Try.ntmps54
    go_wp2_with fail
    go_region_held3 (fun V => V.cell? ⟨R, 0, none⟩ = some (.slice (some ⟨B, O, none⟩) n cap) ∧ V.cell? ⟨R, 1, none⟩ = some (.int .i64 (k : Int)))
      (exact HQ.out _ (by first | assumption | exact (Below.refl _ _).drew))
      (first | (go_at_call 87; refine (HC.out _ (HL.out.drew)).mono ?_; rintro e w1 ⟨rfl, hb0⟩; have hb1 : Below w.heap.size w w1 := (Below.refl _ w).drew.trans hb0; clear hb0))
    go_split_ands
    have hp1 := HP.out.keep hb1
    have q2 := hp1.c2
    have q3 := hp1.f2
    have HE := hide (Pu8.bad (s := some (zs.drop k)) (zs := zs) (hp1.mark true) ((Kt.of_below hb1).trans (hp1.kt 2 (.bool true))) HX.out.1 HX.out.2)
    clear hp1 hb1
    go_wp2_with fail
    go_ret
    exact HE.out
  | some v =>
    rw [hg] at HC
    obtain ⟨hv1, hv2⟩ := getv_fits hbyt hg
    rw [hdl] at hv1
    obtain ⟨E, hE⟩ : ∃ E, E = k + (vb v).length := ⟨_, rfl⟩
    obtain ⟨X, hX⟩ : ∃ X, X = unfo v := ⟨_, rfl⟩
    have HC' := HC.out
    simp only [← hE, ← hX] at HC'
    have HC := hide HC'
    clear HC'
    have hXi : I64 X := by rw [hX]; exact unfo_i64 hv2
    have x0 := hXi.1
    have x1 := hXi.2
    have hend : E ≤ n := by omega
    by_cases hu : 0 ≤ X ∧ X ≤ 255
    · have hx : Cod.u8.get (zs.drop k) = some (X, zs.drop E) := by
        simp only [Cod.u8, Cod.num, Cod.via, Cod.size, hg, List.drop_drop, ← hE, ← hX]
        rw [if_pos hu]
      have u0 := hu.1
      have u1 := hu.2
      have hne : (X != X) = false := by simp
      have HX := hide hx
      clear hx hE hX
      go_enter Try.func54, Try.ntmps54
      go_wp2_with fail
      go_region_held3 (fun V => V.cell? ⟨R, 0, none⟩ = some (.slice (some ⟨B, O, none⟩) n cap) ∧ V.cell? ⟨R, 1, none⟩ = some (.int .i64 (k : Int)))
        (exact HQ.out _ (by first | assumption | exact (Below.refl _ _).drew))
        (first | (go_at_call 87; refine (HC.out _ (HL.out.drew)).mono ?_; rintro e w1 ⟨rfl, hb0⟩; have hb1 : Below w.heap.size w w1 := (Below.refl _ w).drew.trans hb0; clear hb0))
      go_split_ands
      have hp1 := HP.out.keep hb1
      have q2 := hp1.c2
      have q3 := hp1.f2
      have hp2 := hp1.mark false
      have q4 := hp2.c2
      have q5 := hp2.f1
      have q6 := hp2.c1
      have HE := hide (Pu8.good (s := some (zs.drop k)) (zs := zs) (hp2.move E hend) (((Kt.of_below hb1).trans (hp1.kt 2 _)).trans (hp2.kt 1 _)) (Cod.nx_some HX.out) (Cod.vl_some HX.out) ⟨u0, u1⟩)
      clear hp1 hb1 hp2
      go_wp2_with fail
      go_ret
      exact HE.out
    · have HX : Hid (Cod.nx Cod.u8 (some (zs.drop k)) = none ∧ Cod.vl Cod.u8 (some (zs.drop k)) = none) := by
        have : Cod.u8.get (zs.drop k) = none := by
          simp only [Cod.u8, Cod.num, Cod.via, Cod.size, hg, List.drop_drop, ← hX]
          rw [if_neg hu]
        exact hide ⟨Cod.nx_bad this, Cod.vl_bad this⟩
      have hne : (X % 256 != X) = true := by simp; omega
      have m0 : 0 ≤ X % 256 := by omega
      have m1 : X % 256 ≤ 255 := by omega
      clear hE hX
      go_enter Try.func54, Try.ntmps54
      go_wp2_with fail
      go_region_held3 (fun V => V.cell? ⟨R, 0, none⟩ = some (.slice (some ⟨B, O, none⟩) n cap) ∧ V.cell? ⟨R, 1, none⟩ = some (.int .i64 (k : Int)))
        (exact HQ.out _ (by first | assumption | exact (Below.refl _ _).drew))
        (first | (go_at_call 87; refine (HC.out _ (HL.out.drew)).mono ?_; rintro e w1 ⟨rfl, hb0⟩; have hb1 : Below w.heap.size w w1 := (Below.refl _ w).drew.trans hb0; clear hb0))
      go_split_ands
      have hp1 := HP.out.keep hb1
      have q2 := hp1.c2
      have q3 := hp1.f2
      have HE := hide (Pu8.bad (s := some (zs.drop k)) (zs := zs) (hp1.mark true) ((Kt.of_below hb1).trans (hp1.kt 2 (.bool true))) HX.out.1 HX.out.2)
      clear hp1 hb1
      go_wp2_with fail
      go_ret
      exact HE.out
end

end Go.Proofs.Ytnimfkcnkkjlkaa

/-
  The program's reader: kinds of commands of the metadata.
-/
namespace Go.Proofs.Ytnimfkcnkkjlkaa
open Go.RowKit
set_option maxRecDepth 100000
set_option linter.unusedVariables false

section
variable {Wb w w' : World} {R B O n cap : Nat} {zs : List Int} {s : Option (List Int)}

set_option maxHeartbeats 1000000 in
theorem rnmetakind_wrong (hB : Bs Wb (some ⟨B, O, none⟩) n cap zs) (h : Rs Wb R B O n cap zs none w) :
    Calls Try.prog 57 #[.pointer (some ⟨R, 0, none⟩)] w (Pu8 Wb R B O n cap zs none w) := by
  obtain ⟨k, hp, hs⟩ := h.rp
  have hkn := hp.le
  have hln := hB.len
  have c0 := hp.c0
  have c1 := hp.c1
  have HQ : Hid (∀ V, Below w.heap.size w V → V.cell? ⟨R, 0, none⟩ = some (.slice (some ⟨B, O, none⟩) n cap) ∧ V.cell? ⟨R, 1, none⟩ = some (.int .i64 (k : Int))) := hide fun V hV => ⟨cell_keep c0 hV, cell_keep c1 hV⟩
  have HP := hide hp
  have HL := hide h.low
  have hbyt := drop_byte hB.byte k
  have hdl : (zs.drop k).length = n - k := by rw [List.length_drop, hln]
  have HX : Hid (Cod.nx Cod.u8 none = none ∧ Cod.vl Cod.u8 none = none) := hide ⟨rfl, rfl⟩
  have HC := hide (fun W (hW : Below Wb.heap.size Wb W) => getInt_val (some ⟨B, O, none⟩) n cap zs k W (hB.keep hW))
  generalize unfo (gN zs (k : Int)) = gn at HC
  generalize gE zs (k : Int) = ge at HC
  generalize gB zs (k : Int) = gb at HC
  clear hp hB h hs
  go_enter Try.func57, Try.ntmps57
  go_wp2_with fail
  go_region_held3 (fun V => V.cell? ⟨R, 0, none⟩ = some (.slice (some ⟨B, O, none⟩) n cap) ∧ V.cell? ⟨R, 1, none⟩ = some (.int .i64 (k : Int)))
    (exact HQ.out _ (by first | assumption | exact (Below.refl _ _).drew))
    (first | (go_at_call 87; refine (HC.out _ (HL.out.drew)).mono ?_; rintro e w1 ⟨rfl, hb0⟩; have hb1 : Below w.heap.size w w1 := (Below.refl _ w).drew.trans hb0; clear hb0))
  go_split_ands
  have hp1 := HP.out.keep hb1
  have q2 := hp1.c2
  have q3 := hp1.f2
  have HE := hide (Pu8.bad (s := none) (zs := zs) (hp1.mark true) ((Kt.of_below hb1).trans (hp1.kt 2 (.bool true))) HX.out.1 HX.out.2)
  clear hp1 hb1
  go_wp2_with fail
  go_ret
  exact HE.out

set_option maxHeartbeats 1000000 in
theorem rnmetakind_any (hB : Bs Wb (some ⟨B, O, none⟩) n cap zs) (hn : n ≤ 100000) (h : Rs Wb R B O n cap zs s w) :
    Calls Try.prog 57 #[.pointer (some ⟨R, 0, none⟩)] w (Pu8 Wb R B O n cap zs s w) := by
  cases s with
  | none => exact rnmetakind_wrong hB h
  | some l =>
  obtain ⟨k, hp, hs⟩ := h.rp
  have hkn := hp.le
  have hln := hB.len
  have c0 := hp.c0
  have c1 := hp.c1
  have HQ : Hid (∀ V, Below w.heap.size w V → V.cell? ⟨R, 0, none⟩ = some (.slice (some ⟨B, O, none⟩) n cap) ∧ V.cell? ⟨R, 1, none⟩ = some (.int .i64 (k : Int))) := hide fun V hV => ⟨cell_keep c0 hV, cell_keep c1 hV⟩
  have HP := hide hp
  have HL := hide h.low
  have hbyt := drop_byte hB.byte k
  have hdl : (zs.drop k).length = n - k := by rw [List.length_drop, hln]
  obtain rfl := hs l rfl
  have HC := hide (getInt_at hB k)
  clear hp hB h hs
  cases hg : getv (zs.drop k) with
  | none =>
    rw [hg] at HC
    have HX : Hid (Cod.nx Cod.u8 (some (zs.drop k)) = none ∧ Cod.vl Cod.u8 (some (zs.drop k)) = none) := by
      have : Cod.u8.get (zs.drop k) = none := by simp [Cod.u8, Cod.num, Cod.via, Cod.size, hg]
      exact hide ⟨Cod.nx_bad this, Cod.vl_bad this⟩
    go_enter Try.func57, Try.ntmps57
    go_wp2_with fail
    go_region_held3 (fun V => V.cell? ⟨R, 0, none⟩ = some (.slice (some ⟨B, O, none⟩) n cap) ∧ V.cell? ⟨R, 1, none⟩ = some (.int .i64 (k : Int)))
      (exact HQ.out _ (by first | assumption | exact (Below.refl _ _).drew))
      (first | (go_at_call 87; refine (HC.out _ (HL.out.drew)).mono ?_; rintro e w1 ⟨rfl, hb0⟩; have hb1 : Below w.heap.size w w1 := (Below.refl _ w).drew.trans hb0; clear hb0))
    go_split_ands
    have hp1 := HP.out.keep hb1
    have q2 := hp1.c2
    have q3 := hp1.f2
    have HE := hide (Pu8.bad (s := some (zs.drop k)) (zs := zs) (hp1.mark true) ((Kt.of_below hb1).trans (hp1.kt 2 (.bool true))) HX.out.1 HX.out.2)
    clear hp1 hb1
    go_wp2_with fail
    go_ret
    exact HE.out
  | some v =>
    rw [hg] at HC
    obtain ⟨hv1, hv2⟩ := getv_fits hbyt hg
    rw [hdl] at hv1
    obtain ⟨E, hE⟩ : ∃ E, E = k + (vb v).length := ⟨_, rfl⟩
    obtain ⟨X, hX⟩ : ∃ X, X = unfo v := ⟨_, rfl⟩
    have HC' := HC.out
    simp only [← hE, ← hX] at HC'
    have HC := hide HC'
    clear HC'
    have hXi : I64 X := by rw [hX]; exact unfo_i64 hv2
    have x0 := hXi.1
    have x1 := hXi.2
    have hend : E ≤ n := by omega
    by_cases hu : 0 ≤ X ∧ X ≤ 255
    · have hx : Cod.u8.get (zs.drop k) = some (X, zs.drop E) := by
        simp only [Cod.u8, Cod.num, Cod.via, Cod.size, hg, List.drop_drop, ← hE, ← hX]
        rw [if_pos hu]
      have u0 := hu.1
      have u1 := hu.2
      have hne : (X != X) = false := by simp
      have HX := hide hx
      clear hx hE hX
      go_enter Try.func57, Try.ntmps57
      go_wp2_with fail
      go_region_held3 (fun V => V.cell? ⟨R, 0, none⟩ = some (.slice (some ⟨B, O, none⟩) n cap) ∧ V.cell? ⟨R, 1, none⟩ = some (.int .i64 (k : Int)))
        (exact HQ.out _ (by first | assumption | exact (Below.refl _ _).drew))
        (first | (go_at_call 87; refine (HC.out _ (HL.out.drew)).mono ?_; rintro e w1 ⟨rfl, hb0⟩; have hb1 : Below w.heap.size w w1 := (Below.refl _ w).drew.trans hb0; clear hb0))
      go_split_ands
      have hp1 := HP.out.keep hb1
      have q2 := hp1.c2
      have q3 := hp1.f2
      have hp2 := hp1.mark false
      have q4 := hp2.c2
      have q5 := hp2.f1
      have q6 := hp2.c1
      have HE := hide (Pu8.good (s := some (zs.drop k)) (zs := zs) (hp2.move E hend) (((Kt.of_below hb1).trans (hp1.kt 2 _)).trans (hp2.kt 1 _)) (Cod.nx_some HX.out) (Cod.vl_some HX.out) ⟨u0, u1⟩)
      clear hp1 hb1 hp2
      go_wp2_with fail
      go_ret
      exact HE.out
    · have HX : Hid (Cod.nx Cod.u8 (some (zs.drop k)) = none ∧ Cod.vl Cod.u8 (some (zs.drop k)) = none) := by
        have : Cod.u8.get (zs.drop k) = none := by
          simp only [Cod.u8, Cod.num, Cod.via, Cod.size, hg, List.drop_drop, ← hX]
          rw [if_neg hu]
        exact hide ⟨Cod.nx_bad this, Cod.vl_bad this⟩
      have hne : (X % 256 != X) = true := by simp; omega
      have m0 : 0 ≤ X % 256 := by omega
      have m1 : X % 256 ≤ 255 := by omega
      clear hE hX
      go_enter Try.func57, Try.ntmps57
      go_wp2_with fail
      go_region_held3 (fun V => V.cell? ⟨R, 0, none⟩ = some (.slice (some ⟨B, O, none⟩) n cap) ∧ V.cell? ⟨R, 1, none⟩ = some (.int .i64 (k : Int)))
        (exact HQ.out _ (by first | assumption | exact (Below.refl _ _).drew))
        (first | (go_at_call 87; refine (HC.out _ (HL.out.drew)).mono ?_; rintro e w1 ⟨rfl, hb0⟩; have hb1 : Below w.heap.size w w1 := (Below.refl _ w).drew.trans hb0; clear hb0))
      go_split_ands
      have hp1 := HP.out.keep hb1
      have q2 := hp1.c2
      have q3 := hp1.f2
      have HE := hide (Pu8.bad (s := some (zs.drop k)) (zs := zs) (hp1.mark true) ((Kt.of_below hb1).trans (hp1.kt 2 (.bool true))) HX.out.1 HX.out.2)
      clear hp1 hb1
      go_wp2_with fail
      go_ret
      exact HE.out
end

end Go.Proofs.Ytnimfkcnkkjlkaa

/-
  The program's writer: a partition's state.
-/
namespace Go.Proofs.Ytnimfkcnkkjlkaa
open Go.RowKit
set_option maxRecDepth 100000
set_option linter.unusedVariables false

section
variable {Wb w : World} {R most : Nat} {zs : List Int}

set_option maxHeartbeats 4000000 in
theorem wrecent_any (f : Int) (hf : I64 f) (c : Int) (hc : I64 c) (o : Int) (ho : I64 o) (B : Nat) (hv : Wv w B R) (h : Ws Wb R most zs w) :
    Calls Try.prog 77 #[.agg #[.int .i64 f, .int .i64 c, .int .i64 o], .pointer (some ⟨B, 0, none⟩)] w (Pw Wb R most (zs ++ Cod.recent.put ⟨f, c, o⟩) w) := by
  have ez : zs ++ Cod.recent.put ⟨f, c, o⟩ = zs ++ vb (fo f) ++ vb (fo c) ++ vb (fo o) := by
    simp only [List.append_assoc]
    rfl
  rw [ez]
  clear ez
  have HV : Hid (∀ V, Kp (w.alloc (.cells #[.int .i64 f, .int .i64 c, .int .i64 o] (135 : TypeId))) V → Wv V B R) := hide fun V k => (hv.alloc _).keep k
  have HB : Hid (∀ V, Kp (w.alloc (.cells #[.int .i64 f, .int .i64 c, .int .i64 o] (135 : TypeId))) V → V.cell? ⟨B, 0, none⟩ = some (.pointer (some ⟨R, 0, none⟩)) ∧ V.cell? ⟨w.heap.size, 0, none⟩ = some (.int .i64 f) ∧ V.cell? ⟨w.heap.size, 1, none⟩ = some (.int .i64 c) ∧ V.cell? ⟨w.heap.size, 2, none⟩ = some (.int .i64 o)) := hide fun V k => ⟨((hv.alloc _).keep k).cell, k.cell (heap_alloc_new w _) (by decide) (by decide) rfl, k.cell (heap_alloc_new w _) (by decide) (by decide) rfl, k.cell (heap_alloc_new w _) (by decide) (by decide) rfl⟩
  have K0 : Hid (Kp w (w.alloc (.cells #[.int .i64 f, .int .i64 c, .int .i64 o] (135 : TypeId)))) := hide (Kp.of_below (fresh w _))
  have h0 : Ws Wb R most zs (w.alloc (.cells #[.int .i64 f, .int .i64 c, .int .i64 o] (135 : TypeId))) := h.alloc (.cells #[.int .i64 f, .int .i64 c, .int .i64 o] (135 : TypeId))
  have k0 := Kp.refl (w.alloc (.cells #[.int .i64 f, .int .i64 c, .int .i64 o] (135 : TypeId)))
  obtain ⟨c0, c1, c2, c3⟩ := HB.out _ k0
  clear h hv
  go_enter Try.func77, Try.ntmps77
  go_wp2_with fail
  refine (wnums3 _ (by first | rfl | simp) _ _ _ hf hc ho h0).mono ?_
  rintro e w1 ⟨rfl, h1, k⟩
  have k1 := k0.trans k
  clear k k0 h0 c0 c1 c2 c3
  obtain ⟨c0, c1, c2, c3⟩ := HB.out _ k1
  have HE := hide (And.intro h1 (K0.out.trans k1))
  clear h1 k1 HB K0 c0 c1 c2 c3
  go_wp2_with fail
  go_end0
  first
    | exact ⟨rfl, HE.out⟩
    | exact ⟨rfl, by simpa only [List.append_assoc] using HE.out⟩

set_option maxHeartbeats 1000000 in
theorem wlrecent_any (a : Option Addr) (n cap : Nat) (ll : List (Cod.Recent)) (hR : Sq RRecent 3 Wb a n cap ll) (B : Nat) (hv : Wv w B R) (h : Ws Wb R most zs w) :
    Calls Try.prog 76 #[.pointer (some ⟨R, 0, none⟩), .slice a n cap, .func (.func 77) #[] #[.pointer (some ⟨B, 0, none⟩)]] w (Pw Wb R most (zs ++ (Cod.list Cod.recent).put ll) w) := by
  have hl := hR.len
  have hle := hR.le
  have hre := hR.reach
  have ez : zs ++ (Cod.list Cod.recent).put ll = zs ++ vb n ++ Cod.puts Cod.recent ll := by rw [list_put _ _ n hl, List.append_assoc]
  rw [ez]
  clear ez
  have HV := hide hv
  clear hv
  go_enter Try.func76, Try.ntmps76
  go_wp2_with fail
  refine (wsize_any n (by omega) h).mono ?_
  rintro e w1 ⟨rfl, h1, k1⟩
  have H1 := hide h1
  have K1 := hide k1
  clear h1 k1 h
  go_wp2_with fail
  go_loopw [7, 14] (fun _ i wr => ∃ k : Nat, k ≤ n ∧ i = .int .i64 k ∧ Hid (Ws Wb R most (zs ++ vb n ++ Cod.puts Cod.recent (ll.take k)) wr ∧ Kp w wr)) (fun _ i _ => n - (intOf i).toNat)
  case atStart => exact ⟨0, Nat.zero_le _, rfl, hide ⟨by simpa [Cod.puts] using H1.out, K1.out⟩⟩
  case round =>
    obtain ⟨i, hk, rfl, hS⟩ := hrel
    by_cases hlt : i < n
    · obtain ⟨b1, o1, rfl, hc1⟩ := hR.lies (by omega)
      have hrd := hc1 i (by omega)
      have et := puts_take Cod.recent ll i (by omega)
      have ET := hide et
      clear et hc1
      generalize ll[i] = x at hrd ET
      obtain ⟨f, c, o⟩ := x
      obtain ⟨⟨qf, qc, qo⟩, hf, hc, ho⟩ := hrd
      try unfold RNum at *
      try unfold RBool at *
      try simp only at hf hc ho
      have qf := cell_keep qf hS.out.1.low
      have qc := cell_keep qc hS.out.1.low
      have qo := cell_keep qo hS.out.1.low
      have i1 : (i : Int) < (n : Int) := by omega
      have i2 : (0 : Int) ≤ (i : Int) := by omega
      have hA := hS.out.1.alloc (.cells #[.int .i64 f, .int .i64 c, .int .i64 o] (135 : TypeId))
      have hKA := hide (hS.out.2.trans (Kp.of_below (fresh wr (.cells #[.int .i64 f, .int .i64 c, .int .i64 o] (135 : TypeId)))))
      have cl := hA.long
      by_cases hlong : most < (zs ++ vb n ++ Cod.puts Cod.recent (ll.take i)).length
      · rw [decide_eq_true hlong] at cl
        have HE := hide (And.intro (hA.over hlong (zs ++ vb n ++ Cod.puts Cod.recent ll) (by
          have := puts_len Cod.recent ll i
          simp only [List.length_append] at *
          omega)) hKA.out)
        clear hA hKA ET
        go_wp2_with fail
        go_end0
        first
          | exact ⟨rfl, HE.out⟩
          | exact ⟨rfl, by simpa only [List.append_assoc] using HE.out⟩
      · rw [decide_eq_false hlong] at cl
        have hv := HV.out.keep hKA.out
        have HA := hide hA
        clear hA
        go_wp2_with fail
        refine (wrecent_any f hf c hc o ho B hv HA.out).mono ?_
        rintro e w2 ⟨rfl, h2, k2⟩
        have HE := hide (And.intro h2 (hKA.out.trans k2))
        clear h2 k2
        go_wp2_with fail
        go_roundw
        case rel => exact ⟨i + 1, by omega, by go_num, hide (by first | (rw [ET.out, ← List.append_assoc]; exact HE.out) | simpa only [ET.out, List.append_assoc] using HE.out)⟩
        case measure => simp [intOf]; omega
    · obtain rfl : i = n := by omega
      have hS' := hS.out
      rw [List.take_of_length_le (by omega)] at hS'
      have HS := hide hS'
      clear hS'
      go_wp2_with fail
      go_end0
      first
        | exact ⟨rfl, HS.out⟩
        | exact ⟨rfl, by simpa only [List.append_assoc] using HS.out⟩

set_option maxHeartbeats 4000000 in
theorem wproducer_any (p : Int) (hp : I64 p) (e : Int) (he : I64 e) (f : Int) (hf : I64 f) (la : Option Addr) (ln lc : Nat) (l : List (Cod.Recent)) (hl : Sq RRecent 3 Wb la ln lc l) (B : Nat) (hv : Wv w B R) (h : Ws Wb R most zs w) :
    Calls Try.prog 75 #[.agg #[.int .i64 p, .int .i64 e, .int .i64 f, .slice la ln lc], .pointer (some ⟨B, 0, none⟩)] w (Pw Wb R most (zs ++ Cod.producer.put ⟨p, e, f, l⟩) w) := by
  have ez : zs ++ Cod.producer.put ⟨p, e, f, l⟩ = zs ++ vb (fo p) ++ vb (fo e) ++ vb (fo f) ++ (Cod.list Cod.recent).put l := by
    simp only [List.append_assoc]
    rfl
  rw [ez]
  clear ez
  have HV : Hid (∀ V, Kp (w.alloc (.cells #[.int .i64 p, .int .i64 e, .int .i64 f, .slice la ln lc] (132 : TypeId))) V → Wv V B R) := hide fun V k => (hv.alloc _).keep k
  have HB : Hid (∀ V, Kp (w.alloc (.cells #[.int .i64 p, .int .i64 e, .int .i64 f, .slice la ln lc] (132 : TypeId))) V → V.cell? ⟨B, 0, none⟩ = some (.pointer (some ⟨R, 0, none⟩)) ∧ V.cell? ⟨w.heap.size, 0, none⟩ = some (.int .i64 p) ∧ V.cell? ⟨w.heap.size, 1, none⟩ = some (.int .i64 e) ∧ V.cell? ⟨w.heap.size, 2, none⟩ = some (.int .i64 f) ∧ V.cell? ⟨w.heap.size, 3, none⟩ = some (.slice la ln lc)) := hide fun V k => ⟨((hv.alloc _).keep k).cell, k.cell (heap_alloc_new w _) (by decide) (by decide) rfl, k.cell (heap_alloc_new w _) (by decide) (by decide) rfl, k.cell (heap_alloc_new w _) (by decide) (by decide) rfl, k.cell (heap_alloc_new w _) (by decide) (by decide) rfl⟩
  have K0 : Hid (Kp w (w.alloc (.cells #[.int .i64 p, .int .i64 e, .int .i64 f, .slice la ln lc] (132 : TypeId)))) := hide (Kp.of_below (fresh w _))
  have h0 : Ws Wb R most zs (w.alloc (.cells #[.int .i64 p, .int .i64 e, .int .i64 f, .slice la ln lc] (132 : TypeId))) := h.alloc (.cells #[.int .i64 p, .int .i64 e, .int .i64 f, .slice la ln lc] (132 : TypeId))
  have k0 := Kp.refl (w.alloc (.cells #[.int .i64 p, .int .i64 e, .int .i64 f, .slice la ln lc] (132 : TypeId)))
  obtain ⟨c0, c1, c2, c3, c4⟩ := HB.out _ k0
  clear h hv
  have hmf : ∀ (fn : Fn) (first cap : Array Value) (w : World), (Instr.makeFunc fn first cap).run Try.prog w = .ok (.func fn first cap) w := fun _ _ _ _ => rfl
  go_enter Try.func75, Try.ntmps75
  go_wp2_with fail
  refine (wnums3 _ (by first | rfl | simp) _ _ _ hp he hf h0).mono ?_
  rintro e w1 ⟨rfl, h1, k⟩
  have k1 := k0.trans k
  clear k k0 h0 c0 c1 c2 c3 c4
  obtain ⟨c0, c1, c2, c3, c4⟩ := HB.out _ k1
  go_wp2_with fail
  refine (wlrecent_any _ _ _ _ hl B (HV.out _ k1) h1).mono ?_
  rintro e w2 ⟨rfl, h2, k⟩
  have k2 := k1.trans k
  clear k k1 h1 c0 c1 c2 c3 c4
  obtain ⟨c0, c1, c2, c3, c4⟩ := HB.out _ k2
  have HE := hide (And.intro h2 (K0.out.trans k2))
  clear h2 k2 HB K0 c0 c1 c2 c3 c4
  go_wp2_with fail
  go_end0
  first
    | exact ⟨rfl, HE.out⟩
    | exact ⟨rfl, by simpa only [List.append_assoc] using HE.out⟩

set_option maxHeartbeats 1000000 in
theorem wlproducer_any (a : Option Addr) (n cap : Nat) (ll : List (Cod.Producer)) (hR : Sq RProducer 4 Wb a n cap ll) (B : Nat) (hv : Wv w B R) (h : Ws Wb R most zs w) :
    Calls Try.prog 74 #[.pointer (some ⟨R, 0, none⟩), .slice a n cap, .func (.func 75) #[] #[.pointer (some ⟨B, 0, none⟩)]] w (Pw Wb R most (zs ++ (Cod.list Cod.producer).put ll) w) := by
  have hl := hR.len
  have hle := hR.le
  have hre := hR.reach
  have ez : zs ++ (Cod.list Cod.producer).put ll = zs ++ vb n ++ Cod.puts Cod.producer ll := by rw [list_put _ _ n hl, List.append_assoc]
  rw [ez]
  clear ez
  have HV := hide hv
  clear hv
  go_enter Try.func74, Try.ntmps74
  go_wp2_with fail
  refine (wsize_any n (by omega) h).mono ?_
  rintro e w1 ⟨rfl, h1, k1⟩
  have H1 := hide h1
  have K1 := hide k1
  clear h1 k1 h
  go_wp2_with fail
  go_loopw [7, 14] (fun _ i wr => ∃ k : Nat, k ≤ n ∧ i = .int .i64 k ∧ Hid (Ws Wb R most (zs ++ vb n ++ Cod.puts Cod.producer (ll.take k)) wr ∧ Kp w wr)) (fun _ i _ => n - (intOf i).toNat)
  case atStart => exact ⟨0, Nat.zero_le _, rfl, hide ⟨by simpa [Cod.puts] using H1.out, K1.out⟩⟩
  case round =>
    obtain ⟨i, hk, rfl, hS⟩ := hrel
    by_cases hlt : i < n
    · obtain ⟨b1, o1, rfl, hc1⟩ := hR.lies (by omega)
      have hrd := hc1 i (by omega)
      have et := puts_take Cod.producer ll i (by omega)
      have ET := hide et
      clear et hc1
      generalize ll[i] = x at hrd ET
      obtain ⟨p, e, f, l⟩ := x
      obtain ⟨⟨qp, qe, qf, ⟨la, ln, lc, ql, hl⟩⟩, hp, he, hf⟩ := hrd
      try unfold RNum at *
      try unfold RBool at *
      try simp only at hp he hf hl
      have qp := cell_keep qp hS.out.1.low
      have qe := cell_keep qe hS.out.1.low
      have qf := cell_keep qf hS.out.1.low
      have ql := cell_keep ql hS.out.1.low
      have i1 : (i : Int) < (n : Int) := by omega
      have i2 : (0 : Int) ≤ (i : Int) := by omega
      have hA := hS.out.1.alloc (.cells #[.int .i64 p, .int .i64 e, .int .i64 f, .slice la ln lc] (132 : TypeId))
      have hKA := hide (hS.out.2.trans (Kp.of_below (fresh wr (.cells #[.int .i64 p, .int .i64 e, .int .i64 f, .slice la ln lc] (132 : TypeId)))))
      have cl := hA.long
      by_cases hlong : most < (zs ++ vb n ++ Cod.puts Cod.producer (ll.take i)).length
      · rw [decide_eq_true hlong] at cl
        have HE := hide (And.intro (hA.over hlong (zs ++ vb n ++ Cod.puts Cod.producer ll) (by
          have := puts_len Cod.producer ll i
          simp only [List.length_append] at *
          omega)) hKA.out)
        clear hA hKA ET
        go_wp2_with fail
        go_end0
        first
          | exact ⟨rfl, HE.out⟩
          | exact ⟨rfl, by simpa only [List.append_assoc] using HE.out⟩
      · rw [decide_eq_false hlong] at cl
        have hv := HV.out.keep hKA.out
        have HA := hide hA
        clear hA
        go_wp2_with fail
        refine (wproducer_any p hp e he f hf la ln lc l hl B hv HA.out).mono ?_
        rintro e w2 ⟨rfl, h2, k2⟩
        have HE := hide (And.intro h2 (hKA.out.trans k2))
        clear h2 k2
        go_wp2_with fail
        go_roundw
        case rel => exact ⟨i + 1, by omega, by go_num, hide (by first | (rw [ET.out, ← List.append_assoc]; exact HE.out) | simpa only [ET.out, List.append_assoc] using HE.out)⟩
        case measure => simp [intOf]; omega
    · obtain rfl : i = n := by omega
      have hS' := hS.out
      rw [List.take_of_length_le (by omega)] at hS'
      have HS := hide hS'
      clear hS'
      go_wp2_with fail
      go_end0
      first
        | exact ⟨rfl, HS.out⟩
        | exact ⟨rfl, by simpa only [List.append_assoc] using HS.out⟩

set_option maxHeartbeats 4000000 in
theorem wparts_any (a : Int) (ha : I64 a) (z : Int) (hz : I64 z) (ya : Option Addr) (yn yc : Nat) (y : List (List Int)) (hy : Sq RBytes 1 Wb ya yn yc y) (la : Option Addr) (ln lc : Nat) (l : List (Cod.Producer)) (hl : Sq RProducer 4 Wb la ln lc l) (h : Ws Wb R most zs w) :
    Calls Try.prog 36 #[.pointer (some ⟨R, 0, none⟩), .agg #[.int .i64 a, .int .i64 z, .slice ya yn yc, .slice la ln lc]] w (Pw Wb R most (zs ++ Cod.parts.put ⟨a, z, y, l⟩) w) := by
  have ez : zs ++ Cod.parts.put ⟨a, z, y, l⟩ = zs ++ vb (fo a) ++ vb (fo z) ++ (Cod.list Cod.data).put y ++ (Cod.list Cod.producer).put l := by
    simp only [List.append_assoc]
    rfl
  rw [ez]
  clear ez
  have hx := boxes2 w (.cells #[.pointer (some ⟨R, 0, none⟩)] (85 : TypeId)) (.cells #[.int .i64 a, .int .i64 z, .slice ya yn yc, .slice la ln lc] (53 : TypeId))
  have HV : Hid (∀ V, Kp ((w.alloc (.cells #[.pointer (some ⟨R, 0, none⟩)] (85 : TypeId))).alloc (.cells #[.int .i64 a, .int .i64 z, .slice ya yn yc, .slice la ln lc] (53 : TypeId))) V → Wv V w.heap.size R) := hide fun V k => k.block _ _ _ _ hx.1 (by decide) (by decide)
  have HB : Hid (∀ V, Kp ((w.alloc (.cells #[.pointer (some ⟨R, 0, none⟩)] (85 : TypeId))).alloc (.cells #[.int .i64 a, .int .i64 z, .slice ya yn yc, .slice la ln lc] (53 : TypeId))) V → V.cell? ⟨w.heap.size, 0, none⟩ = some (.pointer (some ⟨R, 0, none⟩)) ∧ V.cell? ⟨w.heap.size + 1, 0, none⟩ = some (.int .i64 a) ∧ V.cell? ⟨w.heap.size + 1, 1, none⟩ = some (.int .i64 z) ∧ V.cell? ⟨w.heap.size + 1, 2, none⟩ = some (.slice ya yn yc) ∧ V.cell? ⟨w.heap.size + 1, 3, none⟩ = some (.slice la ln lc)) := hide fun V k => ⟨k.cell hx.1 (by decide) (by decide) rfl, k.cell hx.2 (by decide) (by decide) rfl, k.cell hx.2 (by decide) (by decide) rfl, k.cell hx.2 (by decide) (by decide) rfl, k.cell hx.2 (by decide) (by decide) rfl⟩
  have K0 : Hid (Kp w ((w.alloc (.cells #[.pointer (some ⟨R, 0, none⟩)] (85 : TypeId))).alloc (.cells #[.int .i64 a, .int .i64 z, .slice ya yn yc, .slice la ln lc] (53 : TypeId)))) := hide (Kp.of_below ((fresh w _).alloc (by simp) _))
  have h0 : Ws Wb R most zs ((w.alloc (.cells #[.pointer (some ⟨R, 0, none⟩)] (85 : TypeId))).alloc (.cells #[.int .i64 a, .int .i64 z, .slice ya yn yc, .slice la ln lc] (53 : TypeId))) := (h.alloc _).alloc (.cells #[.int .i64 a, .int .i64 z, .slice ya yn yc, .slice la ln lc] (53 : TypeId))
  have k0 := Kp.refl ((w.alloc (.cells #[.pointer (some ⟨R, 0, none⟩)] (85 : TypeId))).alloc (.cells #[.int .i64 a, .int .i64 z, .slice ya yn yc, .slice la ln lc] (53 : TypeId)))
  obtain ⟨c0, c1, c2, c3, c4⟩ := HB.out _ k0
  clear h hx
  have hmf : ∀ (fn : Fn) (first cap : Array Value) (w : World), (Instr.makeFunc fn first cap).run Try.prog w = .ok (.func fn first cap) w := fun _ _ _ _ => rfl
  go_enter Try.func36, Try.ntmps36
  go_wp2_with fail
  refine (wnums2 _ (by first | rfl | simp) _ _ ha hz h0).mono ?_
  rintro e w1 ⟨rfl, h1, k⟩
  have k1 := k0.trans k
  clear k k0 h0 c0 c1 c2 c3 c4
  obtain ⟨c0, c1, c2, c3, c4⟩ := HB.out _ k1
  go_wp2_with fail
  refine (wrecords_any _ _ _ _ hy h1).mono ?_
  rintro e w2 ⟨rfl, h2, k⟩
  have k2 := k1.trans k
  clear k k1 h1 c0 c1 c2 c3 c4
  obtain ⟨c0, c1, c2, c3, c4⟩ := HB.out _ k2
  go_wp2_with fail
  refine (wlproducer_any _ _ _ _ hl w.heap.size (HV.out _ k2) h2).mono ?_
  rintro e w3 ⟨rfl, h3, k⟩
  have k3 := k2.trans k
  clear k k2 h2 c0 c1 c2 c3 c4
  obtain ⟨c0, c1, c2, c3, c4⟩ := HB.out _ k3
  have HE := hide (And.intro h3 (K0.out.trans k3))
  clear h3 k3 HB K0 c0 c1 c2 c3 c4
  go_wp2_with fail
  go_end0
  first
    | exact ⟨rfl, HE.out⟩
    | exact ⟨rfl, by simpa only [List.append_assoc] using HE.out⟩

end

end Go.Proofs.Ytnimfkcnkkjlkaa

/-
  What PutParts answers.
-/
namespace Go.Proofs.Ytnimfkcnkkjlkaa
open Go.RowKit
set_option maxRecDepth 100000
set_option linter.unusedVariables false

section
variable {Wb w : World} {R most : Nat} {zs : List Int}

theorem putParts_enter : ∀ (args : Array Value) (w : World), (callFunc 35 args).run Try.prog w = .ok (.enter 35 args) w := fun _ _ => by go_simp

set_option maxHeartbeats 1000000 in
theorem putParts_clo (a : Int) (ha : I64 a) (z : Int) (hz : I64 z) (ya : Option Addr) (yn yc : Nat) (y : List (List Int)) (hy : Sq RBytes 1 Wb ya yn yc y) (la : Option Addr) (ln lc : Nat) (l : List (Cod.Producer)) (hl : Sq RProducer 4 Wb la ln lc l) (G : Nat) (hg : Wb.heap[G]? = some (.cells #[.int .i64 a, .int .i64 z, .slice ya yn yc, .slice la ln lc] (53 : TypeId) (0, 0))) (h : Ws Wb R most zs w) :
    Calls Try.prog 35 #[.pointer (some ⟨R, 0, none⟩), .pointer (some ⟨G, 0, none⟩)] w (Pw Wb R most (zs ++ Cod.parts.put ⟨a, z, y, l⟩) w) := by
  have hG := (h.low.block _ (heap_lt hg)).trans hg
  have H := hide h
  clear h hg
  go_enter Try.func35, Try.ntmps35
  go_wp2_with (refine wpList_load_row rfl 53 _ rfl G rfl 53 _ (0, 0) _ hG Try.underlying53 rfl (by kernel_rfl) ?_)
  refine (wparts_any a ha z hz ya yn yc y hy la ln lc l hl H.out).mono ?_
  rintro e w1 ⟨rfl, h1, k1⟩
  have HE := hide (And.intro h1 k1)
  clear h1 k1
  go_wp2_with fail
  go_end0
  exact ⟨rfl, HE.out⟩

set_option maxHeartbeats 1000000 in
theorem putParts_any (a : Int) (ha : I64 a) (z : Int) (hz : I64 z) (ya : Option Addr) (yn yc : Nat) (y : List (List Int)) (hy : Sq RBytes 1 w ya yn yc y) (la : Option Addr) (ln lc : Nat) (l : List (Cod.Producer)) (hl : Sq RProducer 4 w la ln lc l) : Calls Try.prog 10 #[.agg #[.int .i64 a, .int .i64 z, .slice ya yn yc, .slice la ln lc]] w (Pq w 60000 (Cod.thing Cod.parts 3 ⟨a, z, y, l⟩)) := by
  have HC := hide (put_wr (w := w.alloc (.cells #[.int .i64 a, .int .i64 z, .slice ya yn yc, .slice la ln lc] (53 : TypeId))) 35 w.heap.size 3 60000 (by omega) (by omega) (Cod.thing Cod.parts 3 ⟨a, z, y, l⟩) putParts_enter (fun W R h => putParts_clo a ha z hz ya yn yc y (hy.keep rBytes (fresh w _)) la ln lc l (hl.keep rProducer (fresh w _)) w.heap.size (heap_alloc_new w _) h))
  have hmf : ∀ (fn : Fn) (first cap : Array Value) (w : World), (Instr.makeFunc fn first cap).run Try.prog w = .ok (.func fn first cap) w := fun _ _ _ _ => rfl
  go_enter Try.func10, Try.ntmps10
  go_wp2_with fail
  refine HC.out.mono ?_
  intro e w1 hq
  have hq2 := hq.after (fresh w _)
  have hq3 := hq2.2
  rcases hq3 with ⟨h1, c, d, rfl, h3⟩ | ⟨h1, rfl⟩
  · have HQ := hide hq2
    clear hq hq2 h3 HC
    go_wp2_with fail
    go_ret2
    exact HQ.out
  · have HQ := hide hq2
    clear hq hq2 HC
    go_wp2_with fail
    go_ret2
    exact HQ.out

end

end Go.Proofs.Ytnimfkcnkkjlkaa

/-
  The program's reader: kinds of messages.
-/
namespace Go.Proofs.Ytnimfkcnkkjlkaa
open Go.RowKit
set_option maxRecDepth 100000
set_option linter.unusedVariables false

section
variable {Wb w w' : World} {R B O n cap : Nat} {zs : List Int} {s : Option (List Int)}

set_option maxHeartbeats 1000000 in
theorem rnraftkind_wrong (hB : Bs Wb (some ⟨B, O, none⟩) n cap zs) (h : Rs Wb R B O n cap zs none w) :
    Calls Try.prog 68 #[.pointer (some ⟨R, 0, none⟩)] w (Pu8 Wb R B O n cap zs none w) := by
  obtain ⟨k, hp, hs⟩ := h.rp
  have hkn := hp.le
  have hln := hB.len
  have c0 := hp.c0
  have c1 := hp.c1
  have HQ : Hid (∀ V, Below w.heap.size w V → V.cell? ⟨R, 0, none⟩ = some (.slice (some ⟨B, O, none⟩) n cap) ∧ V.cell? ⟨R, 1, none⟩ = some (.int .i64 (k : Int))) := hide fun V hV => ⟨cell_keep c0 hV, cell_keep c1 hV⟩
  have HP := hide hp
  have HL := hide h.low
  have hbyt := drop_byte hB.byte k
  have hdl : (zs.drop k).length = n - k := by rw [List.length_drop, hln]
  have HX : Hid (Cod.nx Cod.u8 none = none ∧ Cod.vl Cod.u8 none = none) := hide ⟨rfl, rfl⟩
  have HC := hide (fun W (hW : Below Wb.heap.size Wb W) => getInt_val (some ⟨B, O, none⟩) n cap zs k W (hB.keep hW))
  generalize unfo (gN zs (k : Int)) = gn at HC
  generalize gE zs (k : Int) = ge at HC
  generalize gB zs (k : Int) = gb at HC
  clear hp hB h hs
  go_enter Try.func68, Try.ntmps68
  go_wp2_with fail
  go_region_held3 (fun V => V.cell? ⟨R, 0, none⟩ = some (.slice (some ⟨B, O, none⟩) n cap) ∧ V.cell? ⟨R, 1, none⟩ = some (.int .i64 (k : Int)))
    (exact HQ.out _ (by first | assumption | exact (Below.refl _ _).drew))
    (first | (go_at_call 87; refine (HC.out _ (HL.out.drew)).mono ?_; rintro e w1 ⟨rfl, hb0⟩; have hb1 : Below w.heap.size w w1 := (Below.refl _ w).drew.trans hb0; clear hb0))
  go_split_ands
  have hp1 := HP.out.keep hb1
  have q2 := hp1.c2
  have q3 := hp1.f2
  have HE := hide (Pu8.bad (s := none) (zs := zs) (hp1.mark true) ((Kt.of_below hb1).trans (hp1.kt 2 (.bool true))) HX.out.1 HX.out.2)
  clear hp1 hb1
  go_wp2_with fail
  go_ret
  exact HE.out

set_option maxHeartbeats 1000000 in
theorem rnraftkind_any (hB : Bs Wb (some ⟨B, O, none⟩) n cap zs) (hn : n ≤ 100000) (h : Rs Wb R B O n cap zs s w) :
    Calls Try.prog 68 #[.pointer (some ⟨R, 0, none⟩)] w (Pu8 Wb R B O n cap zs s w) := by
  cases s with
  | none => exact rnraftkind_wrong hB h
  | some l =>
  obtain ⟨k, hp, hs⟩ := h.rp
  have hkn := hp.le
  have hln := hB.len
  have c0 := hp.c0
  have c1 := hp.c1
  have HQ : Hid (∀ V, Below w.heap.size w V → V.cell? ⟨R, 0, none⟩ = some (.slice (some ⟨B, O, none⟩) n cap) ∧ V.cell? ⟨R, 1, none⟩ = some (.int .i64 (k : Int))) := hide fun V hV => ⟨cell_keep c0 hV, cell_keep c1 hV⟩
  have HP := hide hp
  have HL := hide h.low
  have hbyt := drop_byte hB.byte k
  have hdl : (zs.drop k).length = n - k := by rw [List.length_drop, hln]
  obtain rfl := hs l rfl
  have HC := hide (getInt_at hB k)
  clear hp hB h hs
  cases hg : getv (zs.drop k) with
  | none =>
    rw [hg] at HC
    have HX : Hid (Cod.nx Cod.u8 (some (zs.drop k)) = none ∧ Cod.vl Cod.u8 (some (zs.drop k)) = none) := by
      have : Cod.u8.get (zs.drop k) = none := by simp [Cod.u8, Cod.num, Cod.via, Cod.size, hg]
      exact hide ⟨Cod.nx_bad this, Cod.vl_bad this⟩
    go_enter Try.func68, Try.ntmps68
    go_wp2_with fail
    go_region_held3 (fun V => V.cell? ⟨R, 0, none⟩ = some (.slice (some ⟨B, O, none⟩) n cap) ∧ V.cell? ⟨R, 1, none⟩ = some (.int .i64 (k : Int)))
      (exact HQ.out _ (by first | assumption | exact (Below.refl _ _).drew))
      (first | (go_at_call 87; refine (HC.out _ (HL.out.drew)).mono ?_; rintro e w1 ⟨rfl, hb0⟩; have hb1 : Below w.heap.size w w1 := (Below.refl _ w).drew.trans hb0; clear hb0))
    go_split_ands
    have hp1 := HP.out.keep hb1
    have q2 := hp1.c2
    have q3 := hp1.f2
    have HE := hide (Pu8.bad (s := some (zs.drop k)) (zs := zs) (hp1.mark true) ((Kt.of_below hb1).trans (hp1.kt 2 (.bool true))) HX.out.1 HX.out.2)
    clear hp1 hb1
    go_wp2_with fail
    go_ret
    exact HE.out
  | some v =>
    rw [hg] at HC
    obtain ⟨hv1, hv2⟩ := getv_fits hbyt hg
    rw [hdl] at hv1
    obtain ⟨E, hE⟩ : ∃ E, E = k + (vb v).length := ⟨_, rfl⟩
    obtain ⟨X, hX⟩ : ∃ X, X = unfo v := ⟨_, rfl⟩
    have HC' := HC.out
    simp only [← hE, ← hX] at HC'
    have HC := hide HC'
    clear HC'
    have hXi : I64 X := by rw [hX]; exact unfo_i64 hv2
    have x0 := hXi.1
    have x1 := hXi.2
    have hend : E ≤ n := by omega
    by_cases hu : 0 ≤ X ∧ X ≤ 255
    · have hx : Cod.u8.get (zs.drop k) = some (X, zs.drop E) := by
        simp only [Cod.u8, Cod.num, Cod.via, Cod.size, hg, List.drop_drop, ← hE, ← hX]
        rw [if_pos hu]
      have u0 := hu.1
      have u1 := hu.2
      have hne : (X != X) = false := by simp
      have HX := hide hx
      clear hx hE hX
      go_enter Try.func68, Try.ntmps68
      go_wp2_with fail
      go_region_held3 (fun V => V.cell? ⟨R, 0, none⟩ = some (.slice (some ⟨B, O, none⟩) n cap) ∧ V.cell? ⟨R, 1, none⟩ = some (.int .i64 (k : Int)))
        (exact HQ.out _ (by first | assumption | exact (Below.refl _ _).drew))
        (first | (go_at_call 87; refine (HC.out _ (HL.out.drew)).mono ?_; rintro e w1 ⟨rfl, hb0⟩; have hb1 : Below w.heap.size w w1 := (Below.refl _ w).drew.trans hb0; clear hb0))
      go_split_ands
      have hp1 := HP.out.keep hb1
      have q2 := hp1.c2
      have q3 := hp1.f2
      have hp2 := hp1.mark false
      have q4 := hp2.c2
      have q5 := hp2.f1
      have q6 := hp2.c1
      have HE := hide (Pu8.good (s := some (zs.drop k)) (zs := zs) (hp2.move E hend) (((Kt.of_below hb1).trans (hp1.kt 2 _)).trans (hp2.kt 1 _)) (Cod.nx_some HX.out) (Cod.vl_some HX.out) ⟨u0, u1⟩)
      clear hp1 hb1 hp2
      go_wp2_with fail
      go_ret
      exact HE.out
    · have HX : Hid (Cod.nx Cod.u8 (some (zs.drop k)) = none ∧ Cod.vl Cod.u8 (some (zs.drop k)) = none) := by
        have : Cod.u8.get (zs.drop k) = none := by
          simp only [Cod.u8, Cod.num, Cod.via, Cod.size, hg, List.drop_drop, ← hX]
          rw [if_neg hu]
        exact hide ⟨Cod.nx_bad this, Cod.vl_bad this⟩
      have hne : (X % 256 != X) = true := by simp; omega
      have m0 : 0 ≤ X % 256 := by omega
      have m1 : X % 256 ≤ 255 := by omega
      clear hE hX
      go_enter Try.func68, Try.ntmps68
      go_wp2_with fail
      go_region_held3 (fun V => V.cell? ⟨R, 0, none⟩ = some (.slice (some ⟨B, O, none⟩) n cap) ∧ V.cell? ⟨R, 1, none⟩ = some (.int .i64 (k : Int)))
        (exact HQ.out _ (by first | assumption | exact (Below.refl _ _).drew))
        (first | (go_at_call 87; refine (HC.out _ (HL.out.drew)).mono ?_; rintro e w1 ⟨rfl, hb0⟩; have hb1 : Below w.heap.size w w1 := (Below.refl _ w).drew.trans hb0; clear hb0))
      go_split_ands
      have hp1 := HP.out.keep hb1
      have q2 := hp1.c2
      have q3 := hp1.f2
      have HE := hide (Pu8.bad (s := some (zs.drop k)) (zs := zs) (hp1.mark true) ((Kt.of_below hb1).trans (hp1.kt 2 (.bool true))) HX.out.1 HX.out.2)
      clear hp1 hb1
      go_wp2_with fail
      go_ret
      exact HE.out
end

end Go.Proofs.Ytnimfkcnkkjlkaa

/-
  The program's writer: commands of the metadata.
-/
namespace Go.Proofs.Ytnimfkcnkkjlkaa
open Go.RowKit
set_option maxRecDepth 100000
set_option linter.unusedVariables false

section
variable {Wb w : World} {R most : Nat} {zs : List Int}

set_option maxHeartbeats 4000000 in
theorem wmeta_any (k : Int) (hk : U8 k) (g : ByteArray) (hg : g.size ≤ 9223372036854775807) (m : ByteArray) (hm : m.size ≤ 9223372036854775807) (n : Int) (hn : I64 n) (la : Option Addr) (ln lc : Nat) (l : List (List Int)) (hl : Sq RText 1 Wb la ln lc l) (qt : ByteArray) (hqt : qt.size ≤ 9223372036854775807) (qp : Int) (hqp : I64 qp) (o : Int) (ho : I64 o) (u : Int) (hu : I64 u) (c : Int) (hc : I64 c) (a : Int) (ha : I64 a) (h : Ws Wb R most zs w) :
    Calls Try.prog 42 #[.pointer (some ⟨R, 0, none⟩), .agg #[.int .u8 k, .string g, .string m, .int .i64 n, .slice la ln lc, .string qt, .int .i64 qp, .int .i64 o, .int .i64 u, .int .i64 c, .int .i64 a]] w (Pw Wb R most (zs ++ Cod.meta'.put ⟨k, sb g, sb m, n, l, ⟨sb qt, qp⟩, o, u, c, a⟩) w) := by
  have ez : zs ++ Cod.meta'.put ⟨k, sb g, sb m, n, l, ⟨sb qt, qp⟩, o, u, c, a⟩ = zs ++ vb (fo k) ++ Cod.data.put (sb g) ++ Cod.data.put (sb m) ++ vb (fo n) ++ (Cod.list Cod.data).put l ++ Cod.place.put ⟨sb qt, qp⟩ ++ vb (fo o) ++ vb (fo u) ++ vb (fo c) ++ vb (fo a) := by
    simp only [List.append_assoc]
    rfl
  rw [ez]
  clear ez
  have hk0 : 0 ≤ k := hk.1
  have hk1 : k ≤ 255 := hk.2
  have h64k : I64 k := ⟨by omega, by omega⟩
  have HB : Hid (∀ V, Kp (w.alloc (.cells #[.int .u8 k, .string g, .string m, .int .i64 n, .slice la ln lc, .string qt, .int .i64 qp, .int .i64 o, .int .i64 u, .int .i64 c, .int .i64 a] (37 : TypeId))) V → V.cell? ⟨w.heap.size, 0, none⟩ = some (.int .u8 k) ∧ V.cell? ⟨w.heap.size, 1, none⟩ = some (.string g) ∧ V.cell? ⟨w.heap.size, 2, none⟩ = some (.string m) ∧ V.cell? ⟨w.heap.size, 3, none⟩ = some (.int .i64 n) ∧ V.cell? ⟨w.heap.size, 4, none⟩ = some (.slice la ln lc) ∧ V.cell? ⟨w.heap.size, 5, none⟩ = some (.string qt) ∧ V.cell? ⟨w.heap.size, 6, none⟩ = some (.int .i64 qp) ∧ V.cell? ⟨w.heap.size, 7, none⟩ = some (.int .i64 o) ∧ V.cell? ⟨w.heap.size, 8, none⟩ = some (.int .i64 u) ∧ V.cell? ⟨w.heap.size, 9, none⟩ = some (.int .i64 c) ∧ V.cell? ⟨w.heap.size, 10, none⟩ = some (.int .i64 a)) := hide fun V k => ⟨k.cell (heap_alloc_new w _) (by decide) (by decide) rfl, k.cell (heap_alloc_new w _) (by decide) (by decide) rfl, k.cell (heap_alloc_new w _) (by decide) (by decide) rfl, k.cell (heap_alloc_new w _) (by decide) (by decide) rfl, k.cell (heap_alloc_new w _) (by decide) (by decide) rfl, k.cell (heap_alloc_new w _) (by decide) (by decide) rfl, k.cell (heap_alloc_new w _) (by decide) (by decide) rfl, k.cell (heap_alloc_new w _) (by decide) (by decide) rfl, k.cell (heap_alloc_new w _) (by decide) (by decide) rfl, k.cell (heap_alloc_new w _) (by decide) (by decide) rfl, k.cell (heap_alloc_new w _) (by decide) (by decide) rfl⟩
  have K0 : Hid (Kp w (w.alloc (.cells #[.int .u8 k, .string g, .string m, .int .i64 n, .slice la ln lc, .string qt, .int .i64 qp, .int .i64 o, .int .i64 u, .int .i64 c, .int .i64 a] (37 : TypeId)))) := hide (Kp.of_below (fresh w _))
  have h0 : Ws Wb R most zs (w.alloc (.cells #[.int .u8 k, .string g, .string m, .int .i64 n, .slice la ln lc, .string qt, .int .i64 qp, .int .i64 o, .int .i64 u, .int .i64 c, .int .i64 a] (37 : TypeId))) := h.alloc (.cells #[.int .u8 k, .string g, .string m, .int .i64 n, .slice la ln lc, .string qt, .int .i64 qp, .int .i64 o, .int .i64 u, .int .i64 c, .int .i64 a] (37 : TypeId))
  have k0 := Kp.refl (w.alloc (.cells #[.int .u8 k, .string g, .string m, .int .i64 n, .slice la ln lc, .string qt, .int .i64 qp, .int .i64 o, .int .i64 u, .int .i64 c, .int .i64 a] (37 : TypeId)))
  obtain ⟨c0, c1, c2, c3, c4, c5, c6, c7, c8, c9, c10⟩ := HB.out _ k0
  clear h
  go_enter Try.func42, Try.ntmps42
  go_wp2_with fail
  refine (wnums1 _ (by first | rfl | simp) _ h64k h0).mono ?_
  rintro e w1 ⟨rfl, h1, k⟩
  have k1 := k0.trans k
  clear k k0 h0 c0 c1 c2 c3 c4 c5 c6 c7 c8 c9 c10
  obtain ⟨c0, c1, c2, c3, c4, c5, c6, c7, c8, c9, c10⟩ := HB.out _ k1
  go_wp2_with fail
  refine (wtext_any _ hg h1).mono ?_
  rintro e w2 ⟨rfl, h2, k⟩
  have k2 := k1.trans k
  clear k k1 h1 c0 c1 c2 c3 c4 c5 c6 c7 c8 c9 c10
  obtain ⟨c0, c1, c2, c3, c4, c5, c6, c7, c8, c9, c10⟩ := HB.out _ k2
  go_wp2_with fail
  refine (wtext_any _ hm h2).mono ?_
  rintro e w3 ⟨rfl, h3, k⟩
  have k3 := k2.trans k
  clear k k2 h2 c0 c1 c2 c3 c4 c5 c6 c7 c8 c9 c10
  obtain ⟨c0, c1, c2, c3, c4, c5, c6, c7, c8, c9, c10⟩ := HB.out _ k3
  go_wp2_with fail
  refine (wnums1 _ (by first | rfl | simp) _ hn h3).mono ?_
  rintro e w4 ⟨rfl, h4, k⟩
  have k4 := k3.trans k
  clear k k3 h3 c0 c1 c2 c3 c4 c5 c6 c7 c8 c9 c10
  obtain ⟨c0, c1, c2, c3, c4, c5, c6, c7, c8, c9, c10⟩ := HB.out _ k4
  go_wp2_with fail
  refine (wtexts_any _ _ _ _ hl h4).mono ?_
  rintro e w5 ⟨rfl, h5, k⟩
  have k5 := k4.trans k
  clear k k4 h4 c0 c1 c2 c3 c4 c5 c6 c7 c8 c9 c10
  obtain ⟨c0, c1, c2, c3, c4, c5, c6, c7, c8, c9, c10⟩ := HB.out _ k5
  go_wp2_with fail
  refine (wplace_any qt hqt qp hqp h5).mono ?_
  rintro e w6 ⟨rfl, h6, k⟩
  have k6 := k5.trans k
  clear k k5 h5 c0 c1 c2 c3 c4 c5 c6 c7 c8 c9 c10
  obtain ⟨c0, c1, c2, c3, c4, c5, c6, c7, c8, c9, c10⟩ := HB.out _ k6
  go_wp2_with fail
  refine (wnums4 _ (by first | rfl | simp) _ _ _ _ ho hu hc ha h6).mono ?_
  rintro e w7 ⟨rfl, h7, k⟩
  have k7 := k6.trans k
  clear k k6 h6 c0 c1 c2 c3 c4 c5 c6 c7 c8 c9 c10
  obtain ⟨c0, c1, c2, c3, c4, c5, c6, c7, c8, c9, c10⟩ := HB.out _ k7
  have HE := hide (And.intro h7 (K0.out.trans k7))
  clear h7 k7 HB K0 c0 c1 c2 c3 c4 c5 c6 c7 c8 c9 c10
  go_wp2_with fail
  go_end0
  first
    | exact ⟨rfl, HE.out⟩
    | exact ⟨rfl, by simpa only [List.append_assoc] using HE.out⟩

end

end Go.Proofs.Ytnimfkcnkkjlkaa

/-
  What PutMeta answers.
-/
namespace Go.Proofs.Ytnimfkcnkkjlkaa
open Go.RowKit
set_option maxRecDepth 100000
set_option linter.unusedVariables false

section
variable {Wb w : World} {R most : Nat} {zs : List Int}

theorem putMeta_enter : ∀ (args : Array Value) (w : World), (callFunc 41 args).run Try.prog w = .ok (.enter 41 args) w := fun _ _ => by go_simp

set_option maxHeartbeats 1000000 in
theorem putMeta_clo (k : Int) (hk : U8 k) (g : ByteArray) (hg : g.size ≤ 9223372036854775807) (m : ByteArray) (hm : m.size ≤ 9223372036854775807) (n : Int) (hn : I64 n) (la : Option Addr) (ln lc : Nat) (l : List (List Int)) (hl : Sq RText 1 Wb la ln lc l) (qt : ByteArray) (hqt : qt.size ≤ 9223372036854775807) (qp : Int) (hqp : I64 qp) (o : Int) (ho : I64 o) (u : Int) (hu : I64 u) (c : Int) (hc : I64 c) (a : Int) (ha : I64 a) (G : Nat) (hg : Wb.heap[G]? = some (.cells #[.int .u8 k, .string g, .string m, .int .i64 n, .slice la ln lc, .string qt, .int .i64 qp, .int .i64 o, .int .i64 u, .int .i64 c, .int .i64 a] (37 : TypeId) (0, 0))) (h : Ws Wb R most zs w) :
    Calls Try.prog 41 #[.pointer (some ⟨R, 0, none⟩), .pointer (some ⟨G, 0, none⟩)] w (Pw Wb R most (zs ++ Cod.meta'.put ⟨k, sb g, sb m, n, l, ⟨sb qt, qp⟩, o, u, c, a⟩) w) := by
  have hG := (h.low.block _ (heap_lt hg)).trans hg
  have H := hide h
  clear h hg
  go_enter Try.func41, Try.ntmps41
  go_wp2_with (refine wpList_load_row rfl 37 _ rfl G rfl 37 _ (0, 0) _ hG Try.underlying37 rfl (by kernel_rfl) ?_)
  refine (wmeta_any k hk g hg m hm n hn la ln lc l hl qt hqt qp hqp o ho u hu c hc a ha H.out).mono ?_
  rintro e w1 ⟨rfl, h1, k1⟩
  have HE := hide (And.intro h1 k1)
  clear h1 k1
  go_wp2_with fail
  go_end0
  exact ⟨rfl, HE.out⟩

set_option maxHeartbeats 1000000 in
theorem putMeta_any (k : Int) (hk : U8 k) (g : ByteArray) (hg : g.size ≤ 9223372036854775807) (m : ByteArray) (hm : m.size ≤ 9223372036854775807) (n : Int) (hn : I64 n) (la : Option Addr) (ln lc : Nat) (l : List (List Int)) (hl : Sq RText 1 w la ln lc l) (qt : ByteArray) (hqt : qt.size ≤ 9223372036854775807) (qp : Int) (hqp : I64 qp) (o : Int) (ho : I64 o) (u : Int) (hu : I64 u) (c : Int) (hc : I64 c) (a : Int) (ha : I64 a) : Calls Try.prog 16 #[.agg #[.int .u8 k, .string g, .string m, .int .i64 n, .slice la ln lc, .string qt, .int .i64 qp, .int .i64 o, .int .i64 u, .int .i64 c, .int .i64 a]] w (Pq w 60000 (Cod.thing Cod.meta' 2 ⟨k, sb g, sb m, n, l, ⟨sb qt, qp⟩, o, u, c, a⟩)) := by
  have HC := hide (put_wr (w := w.alloc (.cells #[.int .u8 k, .string g, .string m, .int .i64 n, .slice la ln lc, .string qt, .int .i64 qp, .int .i64 o, .int .i64 u, .int .i64 c, .int .i64 a] (37 : TypeId))) 41 w.heap.size 2 60000 (by omega) (by omega) (Cod.thing Cod.meta' 2 ⟨k, sb g, sb m, n, l, ⟨sb qt, qp⟩, o, u, c, a⟩) putMeta_enter (fun W R h => putMeta_clo k hk g hg m hm n hn la ln lc l (hl.keep rText (fresh w _)) qt hqt qp hqp o ho u hu c hc a ha w.heap.size (heap_alloc_new w _) h))
  have hmf : ∀ (fn : Fn) (first cap : Array Value) (w : World), (Instr.makeFunc fn first cap).run Try.prog w = .ok (.func fn first cap) w := fun _ _ _ _ => rfl
  go_enter Try.func16, Try.ntmps16
  go_wp2_with fail
  refine HC.out.mono ?_
  intro e w1 hq
  have hq2 := hq.after (fresh w _)
  have hq3 := hq2.2
  rcases hq3 with ⟨h1, c, d, rfl, h3⟩ | ⟨h1, rfl⟩
  · have HQ := hide hq2
    clear hq hq2 h3 HC
    go_wp2_with fail
    go_ret2
    exact HQ.out
  · have HQ := hide hq2
    clear hq hq2 HC
    go_wp2_with fail
    go_ret2
    exact HQ.out

end

end Go.Proofs.Ytnimfkcnkkjlkaa

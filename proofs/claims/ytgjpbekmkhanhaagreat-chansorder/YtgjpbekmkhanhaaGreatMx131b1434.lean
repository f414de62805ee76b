/-
  Texts put into one.
-/
import Derived.Test.YtgjpbekmkhanhaaGreatMx7a7737fb

/-
  A queue of int: a place of the line closes up.
-/
namespace Go.Proofs.YtgjpbekmkhanhaaGreat.QI
open Go.RowKit
set_option maxRecDepth 100000

/-- Where place z of the line lies. -/
def sp (h N : Nat) (z : Int) : Nat := (h + z.toNat) % N

theorem spot_int {w : World} {R G N h : Nat} {xs : List Int} (q : Qu w R G N h xs) {z : Int} (h0 : 0 ≤ z) (h1 : z ≤ (N : Int)) :
    Calls Tryz.prog 151 #[.pointer (some ⟨R, 0, none⟩), .int .i64 z] w fun e w' => e = .returned (.int .i64 (sp h N z : Nat)) ∧ Below w.heap.size w w' := by
  obtain ⟨k, rfl⟩ : ∃ k : Nat, z = (k : Int) := ⟨z.toNat, by omega⟩
  refine (spot_any q k (by omega)).mono ?_
  rintro e X ⟨rfl, m, rfl⟩
  exact ⟨by simp [sp], below_drewN (Below.refl _ w) m⟩

section
variable {w : World} {R G N h : Nat} {xs : List Int}
/-- The place at the head is nobody's any more. -/
theorem Qu.tail (q : Qu w R G N h xs) (hn : 0 < xs.length) : Qu ((w.setCell ⟨R, 2, none⟩ (.int .i64 ((h + 1) % N : Nat))).setCell ⟨R, 3, none⟩ (.int .i64 ((xs.length - 1 : Nat) : Int))) R G N ((h + 1) % N) xs.tail := by
  obtain ⟨cur, hc, r⟩ := q.ring
  have hne := q.ne
  have e1 : (w.setCell ⟨R, 2, none⟩ (.int .i64 ((h + 1) % N : Nat))).heap[R]? = some (.cells #[.pointer (some ⟨R, 0, none⟩), .slice (some ⟨G, 0, none⟩) N N, .int .i64 ((h + 1) % N : Nat), .int .i64 xs.length] (161 : TypeId) (0, 0)) := by
    rw [heap_setCell_same w R 2 _ (161 : TypeId) _ q.obj]
    rfl
  refine ⟨?_, ⟨cur, ?_, r.tail hn⟩, q.small, by have := q.few; simp; omega⟩
  · rw [heap_setCell_same _ R 3 _ (161 : TypeId) _ e1, List.length_tail]
    rfl
  · rw [Below.heap_setCell _ _ _ G (by simpa using hne.symm), Below.heap_setCell _ _ _ G (by simpa using hne.symm)]
    exact hc

/-- The last place is nobody's any more. -/
theorem Qu.front (q : Qu w R G N h xs) (hn : 0 < xs.length) : Qu (w.setCell ⟨R, 3, none⟩ (.int .i64 ((xs.length - 1 : Nat) : Int))) R G N h (xs.take (xs.length - 1)) := by
  obtain ⟨cur, hc, r⟩ := q.ring
  have hne := q.ne
  refine ⟨?_, ⟨cur, ?_, r.front _⟩, q.small, by have := q.few; simp; omega⟩
  · rw [heap_setCell_same _ R 3 _ (161 : TypeId) _ q.obj, List.length_take, Nat.min_eq_left (by omega)]
    rfl
  · rw [Below.heap_setCell _ _ _ G (by simpa using hne.symm)]
    exact hc

theorem tb_two {a b c : World} (h : Tb (fun k => k = R ∨ k = G) a b) (k : Tb (fun k => k = R ∨ k = G) b c) : Tb (fun k => k = R ∨ k = G) a c := h.trans k (fun _ _ h => h)
end

set_option maxHeartbeats 4000000 in
theorem close_low {w : World} {R G N h : Nat} {xs : List Int} (q : Qu w R G N h xs) {i : Nat} (hi : i < xs.length / 2) :
    Calls Tryz.prog 147 #[.pointer (some ⟨R, 0, none⟩), .int .i64 i] w fun e w' => e = .returned (.tuple #[]) ∧ (∃ h', Qu w' R G N h' (xs.eraseIdx i)) ∧ Tb (fun k => k = R ∨ k = G) w w' := by
  have c3 : w.cell? ⟨R, 3, none⟩ = some (.int .i64 xs.length) := q.c 3
  have hsm := q.small
  have hle := q.le
  have hhd := q.head
  have hfew := q.few
  unfold Mx at hsm hfew
  have hdiv : ((xs.length : Int)).tdiv 2 = ((xs.length / 2 : Nat) : Int) := by
    rw [Int.tdiv_eq_ediv_of_nonneg (by omega)]
    omega
  have hix : i < xs.length := by omega
  obtain ⟨n, hn⟩ : ∃ n, Hid (n = xs.length) := ⟨_, hide rfl⟩
  obtain ⟨n2, hn2⟩ : ∃ n2, Hid (n2 = xs.length / 2) := ⟨_, hide rfl⟩
  have hn2b : n2 ≤ 17592186044416 := by rw [hn2.out]; omega
  rw [← hn2.out] at hdiv hi
  rw [← hn.out] at hdiv c3 hle hfew hix
  have HQ := hide q
  clear q
  go_enter Tryz.func147, Tryz.ntmps147
  go_wp2_with fail
  clear hdiv c3
  go_loopw [5] (fun kv wr => ∃ (k : Nat) (zs : List Int), k ≤ i ∧ kv = .int .i64 k ∧ Hid (Low xs zs i k) ∧ Hid (Qu wr R G N h zs) ∧ Hid (Tb (fun k => k = R ∨ k = G) w wr)) (fun kv _ => (intOf kv).toNat)
  case atStart => exact ⟨i, xs, Nat.le_refl _, rfl, hide (Low.start xs i), HQ, hide (Tb.refl _ _)⟩
  case round =>
    obtain ⟨k, zs, hk, rfl, hlow, hq, ht⟩ := hrel
    have hzl : zs.length = xs.length := hlow.out.1
    rw [← hn.out] at hzl
    by_cases hlt : 0 < k
    · have qr := hq.out
      have c1 : wr.cell? ⟨R, 1, none⟩ = some (.slice (some ⟨G, 0, none⟩) N N) := qr.c 1
      have cg := qr.g (i := k - 1) (by omega)
      have hE1 : sp h N (k : Int) = (h + k) % N := by simp [sp]
      have hE2 : sp h N ((k : Int) - 1) = (h + (k - 1)) % N := by simp only [sp]; congr 2; omega
      have hK1 : (h + k) % N < N := Nat.mod_lt _ (by omega)
      have hK2 : (h + (k - 1)) % N < N := Nat.mod_lt _ (by omega)
      have fg := fun j => qr.gfree j
      have gx := qr.gany k
      obtain ⟨y, hy⟩ := gx
      have hstep : Low xs (zs.set k (zs.getD (k - 1) 0)) i (k - 1) := by
        obtain ⟨k', rfl⟩ : ∃ k', k = k' + 1 := ⟨k - 1, by omega⟩
        exact hlow.out.step hk (by rw [← hn.out]; exact hix) 0
      have HST := hide hstep
      have FIN : Hid (∀ X, Below wr.heap.size wr X → Qu (X.setCell ⟨G, (h + k) % N, none⟩ ((Value.int .i64) (zs.getD (k - 1) 0))) R G N h (zs.set k (zs.getD (k - 1) 0)) ∧ Tb (fun k => k = R ∨ k = G) w (X.setCell ⟨G, (h + k) % N, none⟩ ((Value.int .i64) (zs.getD (k - 1) 0)))) :=
        hide (fun X hX => ⟨(qr.below hX).set (by omega) _, tb_two (tb_two ht.out (Tb.of_fresh hX)) (Tb.set G _ _ (.inr rfl))⟩)
      have hset : (zs.set k (zs.getD (k - 1) 0)).getD (k - 1) 0 = zs.getD (k - 1) 0 := by
        simp only [List.getD]
        rw [List.getElem?_set_ne (by omega)]
      have hkz : k - 1 < (zs.set k (zs.getD (k - 1) 0)).length := by rw [List.length_set]; omega
      generalize zs.getD (k - 1) 0 = x at *
      obtain ⟨K1, hK1'⟩ : ∃ K1, Hid (K1 = (h + k) % N) := ⟨_, hide rfl⟩
      obtain ⟨K2, hK2'⟩ : ∃ K2, Hid (K2 = (h + (k - 1)) % N) := ⟨_, hide rfl⟩
      rw [← hK1'.out] at hE1 hK1 FIN hy
      rw [← hK2'.out] at hE2 hK2 cg
      have HE1 := hide hE1
      have HE2 := hide hE2
      have HC : Hid (∀ V, Below wr.heap.size wr V → ∀ z : Int, 0 ≤ z → z ≤ (N : Int) → Calls Tryz.prog 151 #[.pointer (some ⟨R, 0, none⟩), .int .i64 z] V fun e X => e = .returned (.int .i64 (sp h N z : Nat)) ∧ Below wr.heap.size wr X ∧
          X.cell? ⟨R, 1, none⟩ = some (.slice (some ⟨G, 0, none⟩) N N) ∧ X.cell? ⟨G, K2, none⟩ = some ((Value.int .i64) x) ∧ X.cell? ⟨G, K1, none⟩ = some ((Value.int .i64) y) ∧ X.frozen? ⟨G, K1, none⟩ = false) := hide (fun V hV z h0 h1 => by
        refine (spot_int (qr.below hV) h0 h1).mono ?_
        rintro e X ⟨rfl, hX⟩
        have hb : Below wr.heap.size wr X := hV.trans (hX.mono hV.size)
        exact ⟨rfl, hb, (qr.below hb).c 1, (hb.cell (cell_lt cg)).trans cg, (hb.cell (cell_lt hy)).trans hy, (qr.below hb).gfree K1⟩)
      have HWR : Hid (IntKind.i64.wrap ((k : Int) - 1) = (k : Int) - 1) := hide (by rw [IntKind.wrap_i64]; omega)
      have KS : Hid (∀ X, Below wr.heap.size wr X → (X.setCell ⟨G, K1, none⟩ ((Value.int .i64) x)).cell? ⟨R, 1, none⟩ = some (.slice (some ⟨G, 0, none⟩) N N) ∧ (X.setCell ⟨G, K1, none⟩ ((Value.int .i64) x)).cell? ⟨G, K2, none⟩ = some ((Value.int .i64) x)) := hide (fun X hX => ⟨(FIN.out X hX).1.c 1, by
        have := (FIN.out X hX).1.g hkz
        rw [hset, ← hK2'.out] at this
        exact this⟩)
      clear hset hkz
      clear hE1 hE2 hstep qr hq hlow ht fg
      go_wp2_with fail
      go_region_held3 (fun V => V.cell? ⟨R, 1, none⟩ = some (.slice (some ⟨G, 0, none⟩) N N) ∧ V.cell? ⟨G, K2, none⟩ = some ((Value.int .i64) x))
        (first | exact ⟨c1, cg⟩ | exact ⟨e1, e2⟩ | exact KS.out X hX)
        (first | (go_at_call 151; (try rw [HWR.out]); refine (HC.out _ ?_ _ ?_ ?_).mono ?_; (first | exact (Below.refl _ wr).drew | assumption); omega; omega; rintro e X ⟨rfl, hX, e1, e2, e3, e4⟩; (try rw [HE1.out]); (try rw [HE2.out])))
      have HF := hide (FIN.out X hX)
      clear FIN KS HC c1 cg hy e1 e2 e3 e4
      go_wp2_with fail
      go_roundw
      case rel => exact ⟨k - 1, _, by omega, by go_num, HST, hide HF.out.1, hide HF.out.2⟩
      case measure => simp [intOf]; omega
    · obtain rfl : k = 0 := by omega
      have qr := hq.out
      have hhz : (h + 0) % N = h := by rw [Nat.add_zero, Nat.mod_eq_of_lt hhd]
      have c1 : wr.cell? ⟨R, 1, none⟩ = some (.slice (some ⟨G, 0, none⟩) N N) := qr.c 1
      have c2 : wr.cell? ⟨R, 2, none⟩ = some (.int .i64 h) := qr.c 2
      obtain ⟨y, hy⟩ := qr.gany 0
      rw [hhz] at hy
      have fg := qr.gfree h
      obtain ⟨X, hX⟩ : ∃ X, Hid (X = (wr.setCell ⟨G, h, none⟩ ((Value.int .i64) 0)).drew) := ⟨_, hide rfl⟩
      have qX : Qu X R G N h (zs.set 0 0) := by
        have := (qr.set (j := 0) (by omega) 0).drewN 1
        rw [hhz] at this
        rw [hX.out]
        exact this
      have tX : Tb (fun k => k = R ∨ k = G) w X := by rw [hX.out]; exact (tb_two ht.out (Tb.set G _ _ (.inr rfl))).drew
      have HDN : Hid ((zs.set 0 0).tail = xs.eraseIdx i) := hide (hlow.out.done 0)
      have hsl : (zs.set 0 0).length = n := by simpa using hzl
      have HE : Hid (sp h N 1 = (h + 1) % N) := hide (by simp [sp])
      have HC : Hid (Calls Tryz.prog 151 #[.pointer (some ⟨R, 0, none⟩), .int .i64 1] X fun e Y => e = .returned (.int .i64 ((h + 1) % N : Nat)) ∧ Qu Y R G N h (zs.set 0 0) ∧ Tb (fun k => k = R ∨ k = G) w Y) := hide (by
        refine (spot_int qX (z := 1) (by omega) (by omega)).mono ?_
        rintro e Y ⟨rfl, hY⟩
        exact ⟨by rw [HE.out], qX.below hY, tb_two tX (Tb.of_fresh hY)⟩)
      have HN1 : Hid ((n : Int) - 1 = (((zs.set 0 0).length - 1 : Nat) : Int)) := hide (by rw [hsl]; omega)
      clear hhz qr hq hlow ht qX tX
      generalize (zs.set 0 0) = ys at *
      obtain ⟨K, hK⟩ : ∃ K, Hid (K = (h + 1) % N) := ⟨_, hide rfl⟩
      rw [← hK.out] at HC
      go_wp2_with fail
      go_region
      rw [← hX.out]
      go_wp2_with fail
      refine HC.out.mono ?_
      rintro e Y ⟨rfl, qY, tY⟩
      have y2 : Y.cell? ⟨R, 2, none⟩ = some (.int .i64 h) := qY.c 2
      have y3 : Y.cell? ⟨R, 3, none⟩ = some (.int .i64 ys.length) := qY.c 3
      rw [hsl] at y3
      have f2 := qY.free 2
      have f3 := qY.free 3
      have hF := qY.tail (by omega)
      rw [← hK.out, ← HN1.out, HDN.out] at hF
      have HF := hide hF
      have HT := hide tY
      clear hF qY tY HC
      go_wp2_with fail
      go_end0
      exact ⟨rfl, ⟨_, HF.out⟩, tb_two (tb_two HT.out (Tb.set R _ _ (.inl rfl))) (Tb.set R _ _ (.inl rfl))⟩

set_option maxHeartbeats 4000000 in
theorem close_high {w : World} {R G N h : Nat} {xs : List Int} (q : Qu w R G N h xs) {i : Nat} (hi : ¬ i < xs.length / 2) (hix : i < xs.length) :
    Calls Tryz.prog 147 #[.pointer (some ⟨R, 0, none⟩), .int .i64 i] w fun e w' => e = .returned (.tuple #[]) ∧ (∃ h', Qu w' R G N h' (xs.eraseIdx i)) ∧ Tb (fun k => k = R ∨ k = G) w w' := by
  have c3 : w.cell? ⟨R, 3, none⟩ = some (.int .i64 xs.length) := q.c 3
  have hsm := q.small
  have hle := q.le
  have hhd := q.head
  have hfew := q.few
  unfold Mx at hsm hfew
  have hdiv : ((xs.length : Int)).tdiv 2 = ((xs.length / 2 : Nat) : Int) := by
    rw [Int.tdiv_eq_ediv_of_nonneg (by omega)]
    omega
  obtain ⟨n, hn⟩ : ∃ n, Hid (n = xs.length) := ⟨_, hide rfl⟩
  obtain ⟨n2, hn2⟩ : ∃ n2, Hid (n2 = xs.length / 2) := ⟨_, hide rfl⟩
  have hn2b : n2 ≤ 17592186044416 := by rw [hn2.out]; omega
  rw [← hn2.out] at hdiv hi
  rw [← hn.out] at hdiv c3 hle hfew hix
  have HQ := hide q
  clear q
  go_enter Tryz.func147, Tryz.ntmps147
  go_wp2_with fail
  clear hdiv c3
  go_loopw [6] (fun kv wr => ∃ (k : Nat) (zs : List Int), i < k ∧ k ≤ n ∧ kv = .int .i64 k ∧ Hid (Hig xs zs i k) ∧ Hid (Qu wr R G N h zs) ∧ Hid (Tb (fun k => k = R ∨ k = G) w wr)) (fun kv _ => n - (intOf kv).toNat)
  case atStart => exact ⟨i + 1, xs, by omega, by omega, by go_num, hide (Hig.start xs i), HQ, hide (Tb.refl _ _)⟩
  case round =>
    obtain ⟨k, zs, hik, hk, rfl, hlow, hq, ht⟩ := hrel
    have hzl : zs.length = xs.length := hlow.out.1
    rw [← hn.out] at hzl
    have qr := hq.out
    have c3 : wr.cell? ⟨R, 3, none⟩ = some (.int .i64 zs.length) := qr.c 3
    rw [hzl] at c3
    by_cases hlt : k < n
    · have c1 : wr.cell? ⟨R, 1, none⟩ = some (.slice (some ⟨G, 0, none⟩) N N) := qr.c 1
      have cg := qr.g (i := k) (by omega)
      have hE1 : sp h N (k : Int) = (h + k) % N := by simp [sp]
      have hE2 : sp h N ((k : Int) - 1) = (h + (k - 1)) % N := by simp only [sp]; congr 2; omega
      have hK1 : (h + k) % N < N := Nat.mod_lt _ (by omega)
      have hK2 : (h + (k - 1)) % N < N := Nat.mod_lt _ (by omega)
      obtain ⟨y, hy⟩ := qr.gany (k - 1)
      have HST : Hid (Hig xs (zs.set (k - 1) (zs.getD k 0)) i (k + 1)) := hide (hlow.out.step hik (by rw [← hn.out]; exact hlt) 0)
      have FIN : Hid (∀ X, Below wr.heap.size wr X → Qu (X.setCell ⟨G, (h + (k - 1)) % N, none⟩ ((Value.int .i64) (zs.getD k 0))) R G N h (zs.set (k - 1) (zs.getD k 0)) ∧ Tb (fun k => k = R ∨ k = G) w (X.setCell ⟨G, (h + (k - 1)) % N, none⟩ ((Value.int .i64) (zs.getD k 0)))) :=
        hide (fun X hX => ⟨(qr.below hX).set (by omega) _, tb_two (tb_two ht.out (Tb.of_fresh hX)) (Tb.set G _ _ (.inr rfl))⟩)
      have hset : (zs.set (k - 1) (zs.getD k 0)).getD k 0 = zs.getD k 0 := by
        simp only [List.getD]
        rw [List.getElem?_set_ne (by omega)]
      have hkz : k < (zs.set (k - 1) (zs.getD k 0)).length := by rw [List.length_set]; omega
      generalize zs.getD k 0 = x at *
      obtain ⟨K1, hK1'⟩ : ∃ K1, Hid (K1 = (h + k) % N) := ⟨_, hide rfl⟩
      obtain ⟨K2, hK2'⟩ : ∃ K2, Hid (K2 = (h + (k - 1)) % N) := ⟨_, hide rfl⟩
      rw [← hK1'.out] at hE1 hK1 cg
      rw [← hK2'.out] at hE2 hK2 hy FIN
      have HE1 := hide hE1
      have HE2 := hide hE2
      have HC : Hid (∀ V, Below wr.heap.size wr V → ∀ z : Int, 0 ≤ z → z ≤ (N : Int) → Calls Tryz.prog 151 #[.pointer (some ⟨R, 0, none⟩), .int .i64 z] V fun e X => e = .returned (.int .i64 (sp h N z : Nat)) ∧ Below wr.heap.size wr X ∧
          X.cell? ⟨R, 1, none⟩ = some (.slice (some ⟨G, 0, none⟩) N N) ∧ X.cell? ⟨G, K1, none⟩ = some ((Value.int .i64) x) ∧ X.cell? ⟨G, K2, none⟩ = some ((Value.int .i64) y) ∧ X.frozen? ⟨G, K2, none⟩ = false) := hide (fun V hV z h0 h1 => by
        refine (spot_int (qr.below hV) h0 h1).mono ?_
        rintro e X ⟨rfl, hX⟩
        have hb : Below wr.heap.size wr X := hV.trans (hX.mono hV.size)
        exact ⟨rfl, hb, (qr.below hb).c 1, (hb.cell (cell_lt cg)).trans cg, (hb.cell (cell_lt hy)).trans hy, (qr.below hb).gfree K2⟩)
      have HWR : Hid (IntKind.i64.wrap ((k : Int) - 1) = (k : Int) - 1) := hide (by rw [IntKind.wrap_i64]; omega)
      have KS : Hid (∀ X, Below wr.heap.size wr X → (X.setCell ⟨G, K2, none⟩ ((Value.int .i64) x)).cell? ⟨R, 1, none⟩ = some (.slice (some ⟨G, 0, none⟩) N N) ∧ (X.setCell ⟨G, K2, none⟩ ((Value.int .i64) x)).cell? ⟨G, K1, none⟩ = some ((Value.int .i64) x)) := hide (fun X hX => ⟨(FIN.out X hX).1.c 1, by
        have := (FIN.out X hX).1.g hkz
        rw [hset, ← hK1'.out] at this
        exact this⟩)
      clear hset hkz
      clear hE1 hE2 qr hq hlow ht
      go_wp2_with fail
      go_region_held3 (fun V => V.cell? ⟨R, 1, none⟩ = some (.slice (some ⟨G, 0, none⟩) N N) ∧ V.cell? ⟨G, K1, none⟩ = some ((Value.int .i64) x))
        (first | exact ⟨c1, cg⟩ | exact ⟨e1, e2⟩ | exact KS.out X hX)
        (first | (go_at_call 151; (try rw [HWR.out]); refine (HC.out _ ?_ _ ?_ ?_).mono ?_; (first | exact (Below.refl _ wr).drew | assumption); omega; omega; rintro e X ⟨rfl, hX, e1, e2, e3, e4⟩; (try rw [HE1.out]); (try rw [HE2.out])))
      have HF := hide (FIN.out X hX)
      clear FIN KS HC c1 cg hy e1 e2 e3 e4 c3
      go_wp2_with fail
      go_roundw
      case rel => exact ⟨k + 1, _, by omega, by omega, by go_num, HST, hide HF.out.1, hide HF.out.2⟩
      case measure => simp [intOf]; omega
    · obtain rfl : k = n := by omega
      have c1 : wr.cell? ⟨R, 1, none⟩ = some (.slice (some ⟨G, 0, none⟩) N N) := qr.c 1
      obtain ⟨y, hy⟩ := qr.gany (k - 1)
      have hK1 : (h + (k - 1)) % N < N := Nat.mod_lt _ (by omega)
      have hE1 : sp h N ((k : Int) - 1) = (h + (k - 1)) % N := by simp only [sp]; congr 2; omega
      have hsl : (zs.set (k - 1) 0).length = k := by simpa using hzl
      have FIN : Hid (∀ X, Below wr.heap.size wr X → Qu (X.setCell ⟨G, (h + (k - 1)) % N, none⟩ ((Value.int .i64) 0)) R G N h (zs.set (k - 1) 0) ∧ Tb (fun k => k = R ∨ k = G) w (X.setCell ⟨G, (h + (k - 1)) % N, none⟩ ((Value.int .i64) 0))) :=
        hide (fun X hX => ⟨(qr.below hX).set (by omega) _, tb_two (tb_two ht.out (Tb.of_fresh hX)) (Tb.set G _ _ (.inr rfl))⟩)
      have HDN : Hid ((zs.set (k - 1) 0).take (k - 1) = xs.eraseIdx i) := hide (by
        have := hlow.out
        rw [hn.out] at this ⊢
        exact this.done (by rw [← hn.out]; exact hix) 0)
      obtain ⟨K1, hK1'⟩ : ∃ K1, Hid (K1 = (h + (k - 1)) % N) := ⟨_, hide rfl⟩
      rw [← hK1'.out] at hE1 hK1 hy FIN
      have HE1 := hide hE1
      have HC : Hid (∀ V, Below wr.heap.size wr V → ∀ z : Int, 0 ≤ z → z ≤ (N : Int) → Calls Tryz.prog 151 #[.pointer (some ⟨R, 0, none⟩), .int .i64 z] V fun e X => e = .returned (.int .i64 (sp h N z : Nat)) ∧ Below wr.heap.size wr X ∧
          X.cell? ⟨R, 1, none⟩ = some (.slice (some ⟨G, 0, none⟩) N N) ∧ X.cell? ⟨R, 3, none⟩ = some (.int .i64 k) ∧ X.cell? ⟨G, K1, none⟩ = some ((Value.int .i64) y) ∧ X.frozen? ⟨G, K1, none⟩ = false) := hide (fun V hV z h0 h1 => by
        refine (spot_int (qr.below hV) h0 h1).mono ?_
        rintro e X ⟨rfl, hX⟩
        have hb : Below wr.heap.size wr X := hV.trans (hX.mono hV.size)
        exact ⟨rfl, hb, (qr.below hb).c 1, (hb.cell (cell_lt c3)).trans c3, (hb.cell (cell_lt hy)).trans hy, (qr.below hb).gfree K1⟩)
      have HWR : Hid (IntKind.i64.wrap ((k : Int) - 1) = (k : Int) - 1) := hide (by rw [IntKind.wrap_i64]; omega)
      have KS : Hid (∀ X, Below wr.heap.size wr X → (X.setCell ⟨G, K1, none⟩ ((Value.int .i64) 0)).cell? ⟨R, 1, none⟩ = some (.slice (some ⟨G, 0, none⟩) N N) ∧ (X.setCell ⟨G, K1, none⟩ ((Value.int .i64) 0)).cell? ⟨R, 3, none⟩ = some (.int .i64 k)) := hide (fun X hX => ⟨(FIN.out X hX).1.c 1, by
        have := (FIN.out X hX).1.c 3
        rw [hsl] at this
        exact this⟩)
      have HN1 : Hid ((k : Int) - 1 = (((zs.set (k - 1) 0).length - 1 : Nat) : Int)) := hide (by rw [hsl]; omega)
      have HSL := hide hsl
      clear hE1 qr hq hlow ht hsl
      generalize (zs.set (k - 1) 0) = ys at *
      go_wp2_with fail
      go_region_held3 (fun V => V.cell? ⟨R, 1, none⟩ = some (.slice (some ⟨G, 0, none⟩) N N) ∧ V.cell? ⟨R, 3, none⟩ = some (.int .i64 k))
        (first | exact ⟨c1, c3⟩ | exact ⟨e1, e2⟩ | exact KS.out X hX)
        (first | (go_at_call 151; (try rw [HWR.out]); refine (HC.out _ ?_ _ ?_ ?_).mono ?_; (first | exact (Below.refl _ wr).drew | assumption); omega; omega; rintro e X ⟨rfl, hX, e1, e2, e3, e4⟩; (try rw [HE1.out])))
      obtain ⟨qY, tY⟩ := FIN.out X hX
      clear FIN KS HC c1 c3 hy e1 e2 e3 e4 hX
      generalize (X.setCell ⟨G, K1, none⟩ ((Value.int .i64) 0)) = Y at *
      have y3 : Y.cell? ⟨R, 3, none⟩ = some (.int .i64 ys.length) := qY.c 3
      rw [HSL.out] at y3
      have f3 := qY.free 3
      have hF := qY.front (by rw [HSL.out]; omega)
      rw [← HN1.out, HSL.out, HDN.out] at hF
      have HF := hide hF
      have HT := hide tY
      clear hF qY tY
      go_wp2_with fail
      go_end0
      exact ⟨rfl, ⟨_, HF.out⟩, tb_two HT.out (Tb.set R _ _ (.inl rfl))⟩

theorem close_any {w : World} {R G N h : Nat} {xs : List Int} (q : Qu w R G N h xs) {i : Nat} (hix : i < xs.length) :
    Calls Tryz.prog 147 #[.pointer (some ⟨R, 0, none⟩), .int .i64 i] w fun e w' => e = .returned (.tuple #[]) ∧ (∃ h', Qu w' R G N h' (xs.eraseIdx i)) ∧ Tb (fun k => k = R ∨ k = G) w w' := by
  by_cases h : i < xs.length / 2
  · exact close_low q h
  · exact close_high q h hix

end Go.Proofs.YtgjpbekmkhanhaaGreat.QI

/-
  A queue of int: room is given back, Take, Pop, Push, Drop.
-/
namespace Go.Proofs.YtgjpbekmkhanhaaGreat.QI
open Go.RowKit
set_option maxRecDepth 100000

/-- What a call leaves of a queue: a line, in its ring or in a new one. -/
def Qt (w w' : World) (R G : Nat) (ys : List Int) : Prop := ∃ G' N h, Qu w' R G' N h ys ∧ (G' = G ∨ w.heap.size ≤ G') ∧ Tb (fun k => k = R ∨ k = G) w w'

theorem Qt.then {a b c : World} {R G : Nat} {xs ys : List Int} {G' N h : Nat} (_q : Qu b R G' N h xs) (hg : G' = G ∨ a.heap.size ≤ G') (t : Tb (fun k => k = R ∨ k = G) a b) (k : Qt b c R G' ys) : Qt a c R G ys := by
  obtain ⟨G2, N2, h2, q2, hg2, t2⟩ := k
  refine ⟨G2, N2, h2, q2, ?_, t.trans t2 (fun i hi h => ?_)⟩
  · have := t.size
    rcases hg2 with rfl | hg2
    · exact hg
    · exact .inr (by omega)
  · rcases h with h | h
    · exact .inl h
    · rcases hg with rfl | hg
      · exact .inr h
      · omega

/-- A queue that is laid anew with its own list. -/
theorem relay {w : World} {R G N h : Nat} {xs : List Int} (q : Qu w R G N h xs) {V : World} {a : Option Addr} {cap : Nat} (ho : V.ownsRow w.heap.size 3 1 (.slice a xs.length cap) xs.length (W xs)) (hb : Below w.heap.size w V) :
    Calls Tryz.prog 118 #[.pointer (some ⟨R, 0, none⟩), .slice a xs.length cap] V fun e w' => e = .returned (.tuple #[]) ∧ Qu w' R V.heap.size (2 * xs.length + 1) 0 xs ∧ Tb (fun k => k = R ∨ k = G) w w' := by
  have hR := (hb.block R q.lt).trans q.obj
  refine (lay_any hR (own_ls ho) (fun ad h e => ?_) q.few).mono ?_
  · subst h
    have := (ho.lt ad.block (by
      rcases ho.2 with ⟨h1, _⟩ | ⟨g, c, cur, h1, _⟩
      · cases h1
      · simp only [Value.slice.injEq, Option.some.injEq] at h1
        rw [h1.1]
        rfl)).1
    have := q.lt
    omega
  · rintro e w' ⟨rfl, q', t⟩
    exact ⟨rfl, q', (Tb.of_fresh hb).trans t (fun _ _ h => .inl h)⟩

set_option maxHeartbeats 1000000 in
theorem shrink_any {w : World} {R G N h : Nat} {xs : List Int} (q : Qu w R G N h xs) :
    Calls Tryz.prog 148 #[.pointer (some ⟨R, 0, none⟩)] w fun e w' => e = .returned (.tuple #[]) ∧ Qt w w' R G xs := by
  have c1 : w.cell? ⟨R, 1, none⟩ = some (.slice (some ⟨G, 0, none⟩) N N) := q.c 1
  have c3 : w.cell? ⟨R, 3, none⟩ = some (.int .i64 xs.length) := q.c 3
  have hsm := q.small
  have hfew := q.few
  unfold Mx at hsm hfew
  obtain ⟨n, hn⟩ : ∃ n, Hid (n = xs.length) := ⟨_, hide rfl⟩
  by_cases hl : 4 * (xs.length + 1) < N
  · have HL : Hid (∀ m, Calls Tryz.prog 117 #[.pointer (some ⟨R, 0, none⟩)] (w.drewN m) fun e w' => ∃ a cap, e = .returned (.slice a xs.length cap) ∧ w'.ownsRow w.heap.size 3 1 (.slice a xs.length cap) xs.length (W xs) ∧ Below w.heap.size w w') := hide (fun m => (list_yes (q.drewN m)).mono (by
      rintro e w' ⟨a, cap, rfl, ho, hb⟩
      exact ⟨a, cap, rfl, ho, (below_drewN (Below.refl _ w) m).trans hb⟩))
    have HR : Hid (∀ (W' : World) (a : Option Addr) (cap : Nat), W'.ownsRow w.heap.size 3 1 (.slice a xs.length cap) xs.length (W xs) → Below w.heap.size w W' → Calls Tryz.prog 118 #[.pointer (some ⟨R, 0, none⟩), .slice a xs.length cap] W' fun e w' => e = .returned (.tuple #[]) ∧ Qt w w' R G xs) := hide (fun W' a cap ho hb => (relay q ho hb).mono (by
      rintro e w' ⟨rfl, q', t⟩
      exact ⟨rfl, _, _, _, q', .inr hb.size, t⟩))
    rw [← hn.out] at hl c3 HL HR hfew
    clear q
    go_enter Tryz.func148, Tryz.ntmps148
    go_wp2_with fail
    go_quiet (fail)
    go_wp2_with fail
    refine (HL.out _).mono ?_
    rintro e W' ⟨a, cap, rfl, ho, hb⟩
    have HW := hide (HR.out W' a cap ho hb)
    clear ho hb HR HL
    go_wp2_with fail
    refine HW.out.mono ?_
    rintro e w' ⟨rfl, hq⟩
    go_wp2_with fail
    go_end0
    exact ⟨rfl, hq⟩
  · have HF : Hid (∀ m, Qt w (w.drewN m) R G xs) := hide (fun m => ⟨G, N, h, q.drewN m, .inl rfl, Tb.of_fresh (below_drewN (Below.refl _ w) m)⟩)
    rw [← hn.out] at hl c3 hfew
    clear q
    go_enter Tryz.func148, Tryz.ntmps148
    go_wp2_with fail
    go_quiet (fail)
    go_wp2_with fail
    go_end0
    exact ⟨rfl, HF.out _⟩

/-- A line without what stands at a place. -/
def wo (xs : List Int) (i : Int) : List Int := if 0 ≤ i ∧ i < xs.length then xs.eraseIdx i.toNat else xs

set_option maxHeartbeats 1000000 in
theorem take_any {w : World} {R G N h : Nat} {xs : List Int} (q : Qu w R G N h xs) (i : Int) :
    Calls Tryz.prog 105 #[.pointer (some ⟨R, 0, none⟩), .int .i64 i] w fun e w' => e = .returned (.tuple #[(Value.int .i64) (atV xs i).1, .bool (atV xs i).2]) ∧ Qt w w' R G (wo xs i) := by
  have C := at_any q i
  by_cases hi : 0 ≤ i ∧ i < xs.length
  · have e1 : atV xs i = (xs.getD i.toNat 0, true) := if_pos hi
    have e2 : wo xs i = xs.eraseIdx i.toNat := if_pos hi
    obtain ⟨k, rfl⟩ : ∃ k : Nat, i = (k : Int) := ⟨i.toNat, by omega⟩
    simp only [Int.toNat_natCast] at e1 e2
    rw [e1] at C ⊢
    rw [e2]
    have HC : Hid (∀ m, Calls Tryz.prog 147 #[.pointer (some ⟨R, 0, none⟩), .int .i64 k] (w.drewN m) fun e w' => e = .returned (.tuple #[]) ∧ ∃ h', Qu w' R G N h' (xs.eraseIdx k) ∧ Tb (fun k => k = R ∨ k = G) w w') := hide (fun m => (close_any (q.drewN m) (by omega)).mono (by
      rintro e w' ⟨rfl, ⟨h', q'⟩, t⟩
      exact ⟨rfl, h', q', (Tb.of_fresh (below_drewN (Below.refl _ w) m)).trans t (fun _ _ h => h)⟩))
    generalize xs.getD k 0 = x at *
    generalize xs.eraseIdx k = ys at *
    clear q hi e1 e2
    go_enter Tryz.func105, Tryz.ntmps105
    go_wp2_with fail
    refine C.mono ?_
    rintro e w1 ⟨rfl, m, rfl⟩
    go_wp2_with fail
    refine (HC.out _).mono ?_
    rintro e w2 ⟨rfl, h', q', t⟩
    have HS := hide ((shrink_any q').mono (P := Tryz.prog) (R' := fun e w' => e = .returned (.tuple #[]) ∧ Qt w w' R G ys) (by
      rintro e w' ⟨rfl, hq⟩
      exact ⟨rfl, Qt.then q' (.inl rfl) t hq⟩))
    clear q' t HC C
    go_wp2_with fail
    refine HS.out.mono ?_
    rintro e w' ⟨rfl, hq⟩
    go_wp2_with fail
    go_ret2
    exact ⟨rfl, hq⟩
  · have e1 : atV xs i = (0, false) := if_neg hi
    have e2 : wo xs i = xs := if_neg hi
    rw [e1] at C ⊢
    rw [e2]
    have HF : Hid (∀ m, Qt w (w.drewN m) R G xs) := hide (fun m => ⟨G, N, h, q.drewN m, .inl rfl, Tb.of_fresh (below_drewN (Below.refl _ w) m)⟩)
    clear q hi e1 e2
    go_enter Tryz.func105, Tryz.ntmps105
    go_wp2_with fail
    refine C.mono ?_
    rintro e w1 ⟨rfl, m, rfl⟩
    go_wp2_with fail
    go_ret2
    exact ⟨rfl, HF.out _⟩

/-- One more thing in a ring that has room. -/
theorem Qu.push {w : World} {R G N h : Nat} {xs : List Int} (q : Qu w R G N h xs) (hn : xs.length < N) (hm : xs.length + 1 < Mx) (x : Int) : Qu ((w.setCell ⟨G, (h + xs.length) % N, none⟩ ((Value.int .i64) x)).setCell ⟨R, 3, none⟩ (.int .i64 ((xs.length : Int) + 1))) R G N h (xs ++ [x]) := by
  obtain ⟨cur, hc, r⟩ := q.ring
  have hne := q.ne
  have e1 : (w.setCell ⟨G, (h + xs.length) % N, none⟩ ((Value.int .i64) x)).heap[R]? = some (.cells (qcs R G N h xs.length) (161 : TypeId) (0, 0)) := by
    rw [Below.heap_setCell w _ _ R (by simpa using hne)]
    exact q.obj
  refine ⟨?_, ⟨cur.set ((h + xs.length) % N) x, ?_, r.push hn x⟩, q.small, by simpa using hm⟩
  · rw [heap_setCell_same _ R 3 _ (161 : TypeId) _ e1, List.length_append]
    simp [qcs]
  · rw [Below.heap_setCell _ _ _ G (by simpa using hne.symm), heap_setCell_same w G _ _ 3 _ hc]
    simp [List.map_set]

/-- What is asked of a call of spot with the line's length. -/
theorem push_spot {w : World} {R G N h : Nat} {xs : List Int} (q : Qu w R G N h xs) (hn : xs.length < N) (hm : xs.length + 1 < Mx) (x : Int) :
    ∃ (K : Nat) (y : Int), K < N ∧ w.cell? ⟨R, 1, none⟩ = some (.slice (some ⟨G, 0, none⟩) N N) ∧ w.cell? ⟨R, 3, none⟩ = some (.int .i64 xs.length) ∧
      (∀ V, Below w.heap.size w V → Calls Tryz.prog 151 #[.pointer (some ⟨R, 0, none⟩), .int .i64 xs.length] V fun e X => e = .returned (.int .i64 K) ∧ Below w.heap.size w X ∧
        X.cell? ⟨R, 1, none⟩ = some (.slice (some ⟨G, 0, none⟩) N N) ∧ X.cell? ⟨R, 3, none⟩ = some (.int .i64 xs.length) ∧ X.cell? ⟨G, K, none⟩ = some ((Value.int .i64) y) ∧ X.frozen? ⟨G, K, none⟩ = false) ∧
      (∀ X, Below w.heap.size w X → (X.setCell ⟨G, K, none⟩ ((Value.int .i64) x)).cell? ⟨R, 1, none⟩ = some (.slice (some ⟨G, 0, none⟩) N N) ∧ (X.setCell ⟨G, K, none⟩ ((Value.int .i64) x)).cell? ⟨R, 3, none⟩ = some (.int .i64 xs.length) ∧ (X.setCell ⟨G, K, none⟩ ((Value.int .i64) x)).frozen? ⟨R, 3, none⟩ = false ∧
        Qu ((X.setCell ⟨G, K, none⟩ ((Value.int .i64) x)).setCell ⟨R, 3, none⟩ (.int .i64 ((xs.length : Int) + 1))) R G N h (xs ++ [x]) ∧ Tb (fun k => k = R ∨ k = G) w ((X.setCell ⟨G, K, none⟩ ((Value.int .i64) x)).setCell ⟨R, 3, none⟩ (.int .i64 ((xs.length : Int) + 1)))) := by
  have hhd := q.head
  have hne := q.ne
  obtain ⟨y, hy⟩ := q.gany xs.length
  refine ⟨(h + xs.length) % N, y, Nat.mod_lt _ (by omega), q.c 1, q.c 3, fun V hV => ?_, fun X hX => ?_⟩
  · refine (spot_any (q.below hV) xs.length (by omega)).mono ?_
    rintro e X ⟨rfl, m, rfl⟩
    have hb := below_drewN hV m
    exact ⟨rfl, hb, (q.below hb).c 1, (q.below hb).c 3, (hb.cell (cell_lt hy)).trans hy, (q.below hb).gfree _⟩
  · have e1 : (X.setCell ⟨G, (h + xs.length) % N, none⟩ ((Value.int .i64) x)).heap[R]? = some (.cells (qcs R G N h xs.length) (161 : TypeId) (0, 0)) := by
      rw [Below.heap_setCell X _ _ R (by simpa using hne)]
      exact (q.below hX).obj
    exact ⟨cell_of_row _ R 1 _ _ _ e1, cell_of_row _ R 3 _ _ _ e1, frozen_of_row _ R 3 _ _ e1, (q.below hX).push hn hm x, tb_two (tb_two (Tb.of_fresh hX) (Tb.set G _ _ (.inr rfl))) (Tb.set R _ _ (.inl rfl))⟩

set_option maxHeartbeats 2000000 in
theorem push_any {w : World} {R G N h : Nat} {xs : List Int} (q : Qu w R G N h xs) (hm : xs.length + 1 < Mx) (x : Int) :
    Calls Tryz.prog 126 #[.pointer (some ⟨R, 0, none⟩), (Value.int .i64) x] w fun e w' => e = .returned (.tuple #[]) ∧ Qt w w' R G (xs ++ [x]) := by
  have C := made_yes q
  have c1 : w.cell? ⟨R, 1, none⟩ = some (.slice (some ⟨G, 0, none⟩) N N) := q.c 1
  have c3 : w.cell? ⟨R, 3, none⟩ = some (.int .i64 xs.length) := q.c 3
  have hsm := q.small
  have hle := q.le
  have hm' := hm
  unfold Mx at hsm hm'
  obtain ⟨n, hn⟩ : ∃ n, Hid (n = xs.length) := ⟨_, hide rfl⟩
  by_cases hfull : xs.length = N
  · have HL : Hid (∀ m, Calls Tryz.prog 117 #[.pointer (some ⟨R, 0, none⟩)] (w.drewN m) fun e w' => ∃ a cap, e = .returned (.slice a xs.length cap) ∧ w'.ownsRow w.heap.size 3 1 (.slice a xs.length cap) xs.length (W xs) ∧ Below w.heap.size w w') := hide (fun m => (list_yes (q.drewN m)).mono (by
      rintro e w' ⟨a, cap, rfl, ho, hb⟩
      exact ⟨a, cap, rfl, ho, (below_drewN (Below.refl _ w) m).trans hb⟩))
    have HR : Hid (∀ (W' : World) (a : Option Addr) (cap : Nat), W'.ownsRow w.heap.size 3 1 (.slice a xs.length cap) xs.length (W xs) → Below w.heap.size w W' → Calls Tryz.prog 118 #[.pointer (some ⟨R, 0, none⟩), .slice a xs.length cap] W' fun e w' => e = .returned (.tuple #[]) ∧ ∃ G', Qu w' R G' (2 * xs.length + 1) 0 xs ∧ w.heap.size ≤ G' ∧ Tb (fun k => k = R ∨ k = G) w w') := hide (fun W' a cap ho hb => (relay q ho hb).mono (by
      rintro e w' ⟨rfl, q', t⟩
      exact ⟨rfl, _, q', hb.size, t⟩))
    subst hfull
    have hxn : xs.length = n := hn.out.symm
    rw [hxn] at HL HR c1 c3 hsm hle hm'
    clear q
    go_enter Tryz.func126, Tryz.ntmps126
    go_wp2_with fail
    refine C.mono ?_
    rintro e w1 ⟨rfl, hw1⟩
    subst w1
    go_wp2_with fail
    go_quiet (fail)
    go_wp2_with fail
    refine (HL.out _).mono ?_
    rintro e W' ⟨a, cap, rfl, ho, hb⟩
    have HW := hide (HR.out W' a cap ho hb)
    clear ho hb HR HL c1 c3 C
    go_wp2_with fail
    refine HW.out.mono ?_
    rintro e w2 ⟨rfl, G2, q2, hg2, t2⟩
    rw [← hxn] at q2
    obtain ⟨N2, hN2⟩ : ∃ N2, Hid (N2 = 2 * xs.length + 1) := ⟨_, hide rfl⟩
    rw [← hN2.out] at q2
    obtain ⟨K, y, hK, c1, c3, HC, KS⟩ := push_spot q2 (by rw [hN2.out]; omega) hm x
    have hsm2 := q2.small
    unfold Mx at hsm2
    rw [hxn] at c3 HC KS
    have HC := hide HC
    have KS := hide KS
    have FIN : Hid (∀ w', Qu w' R G2 N2 0 (xs ++ [x]) → Tb (fun k => k = R ∨ k = G2) w2 w' → Qt w w' R G (xs ++ [x])) := hide (fun w' q' t' => Qt.then q2 (.inr hg2) t2 ⟨_, _, _, q', .inl rfl, t'⟩)
    clear q2 t2 HW hxn
    go_wp2_with fail
    go_region_held3 (fun V => V.cell? ⟨R, 1, none⟩ = some (.slice (some ⟨G2, 0, none⟩) N2 N2) ∧ V.cell? ⟨R, 3, none⟩ = some (.int .i64 n))
      (first | exact ⟨c1, c3⟩ | exact ⟨e1, e2⟩ | exact ⟨(KS.out X hX).1, (KS.out X hX).2.1⟩)
      (first | (go_at_call 151; refine (HC.out _ ?_).mono ?_; (first | exact (Below.refl _ _).drew | assumption); rintro e X ⟨rfl, hX, e1, e2, e3, e4⟩))
    obtain ⟨k1, k3, kf, kq, kt⟩ := KS.out X hX
    have HF := hide (FIN.out _ kq kt)
    clear kq kt KS HC FIN c1 c3 e1 e2 e3 e4 hX
    go_wp2_with fail
    go_end0
    exact ⟨rfl, HF.out⟩
  · have HP : Hid (∀ m, ∃ (K : Nat) (y : Int), K < N ∧ (w.drewN m).cell? ⟨R, 1, none⟩ = some (.slice (some ⟨G, 0, none⟩) N N) ∧ (w.drewN m).cell? ⟨R, 3, none⟩ = some (.int .i64 xs.length) ∧
      (∀ V, Below (w.drewN m).heap.size (w.drewN m) V → Calls Tryz.prog 151 #[.pointer (some ⟨R, 0, none⟩), .int .i64 xs.length] V fun e X => e = .returned (.int .i64 K) ∧ Below (w.drewN m).heap.size (w.drewN m) X ∧
        X.cell? ⟨R, 1, none⟩ = some (.slice (some ⟨G, 0, none⟩) N N) ∧ X.cell? ⟨R, 3, none⟩ = some (.int .i64 xs.length) ∧ X.cell? ⟨G, K, none⟩ = some ((Value.int .i64) y) ∧ X.frozen? ⟨G, K, none⟩ = false) ∧
      (∀ X, Below (w.drewN m).heap.size (w.drewN m) X → (X.setCell ⟨G, K, none⟩ ((Value.int .i64) x)).cell? ⟨R, 1, none⟩ = some (.slice (some ⟨G, 0, none⟩) N N) ∧ (X.setCell ⟨G, K, none⟩ ((Value.int .i64) x)).cell? ⟨R, 3, none⟩ = some (.int .i64 xs.length) ∧ (X.setCell ⟨G, K, none⟩ ((Value.int .i64) x)).frozen? ⟨R, 3, none⟩ = false ∧
        Qt w ((X.setCell ⟨G, K, none⟩ ((Value.int .i64) x)).setCell ⟨R, 3, none⟩ (.int .i64 ((xs.length : Int) + 1))) R G (xs ++ [x]))) := hide (fun m => by
      obtain ⟨K, y, h1, h2, h3, h4, h5⟩ := push_spot (q.drewN m) (by omega) hm x
      exact ⟨K, y, h1, h2, h3, h4, fun X hX => ⟨(h5 X hX).1, (h5 X hX).2.1, (h5 X hX).2.2.1, _, _, _, (h5 X hX).2.2.2.1, .inl rfl, (Tb.of_fresh (below_drewN (Below.refl _ w) m)).trans (h5 X hX).2.2.2.2 (fun _ _ h => h)⟩⟩)
    have hxn : xs.length = n := hn.out.symm
    rw [hxn] at HP c3 hle hm' hfull
    clear q
    go_enter Tryz.func126, Tryz.ntmps126
    go_wp2_with fail
    refine C.mono ?_
    rintro e w1 ⟨rfl, hw1⟩
    subst w1
    go_wp2_with fail
    go_quiet (fail)
    obtain ⟨K, y, hK, d1, d3, HC, KS⟩ := HP.out nq
    have HC := hide HC
    have KS := hide KS
    clear HP c1 c3 C hxn
    generalize w.drewN nq = w2 at *
    go_wp2_with fail
    go_region_held3 (fun V => V.cell? ⟨R, 1, none⟩ = some (.slice (some ⟨G, 0, none⟩) N N) ∧ V.cell? ⟨R, 3, none⟩ = some (.int .i64 n))
      (first | exact ⟨d1, d3⟩ | exact ⟨e1, e2⟩ | exact ⟨(KS.out X hX).1, (KS.out X hX).2.1⟩)
      (first | (go_at_call 151; refine (HC.out _ ?_).mono ?_; (first | exact (Below.refl _ _).drew | assumption); rintro e X ⟨rfl, hX, e1, e2, e3, e4⟩))
    obtain ⟨k1, k3, kf, kq⟩ := KS.out X hX
    have HF := hide kq
    clear kq KS HC d1 d3 e1 e2 e3 e4 hX
    go_wp2_with fail
    go_end0
    exact ⟨rfl, HF.out⟩

theorem push_none {w : World} {p : Option Addr} (C : Calls Tryz.prog 139 #[.pointer p] w fun e w' => e = .returned (.bool false) ∧ w' = w) (x : Int) :
    Calls Tryz.prog 126 #[.pointer p, (Value.int .i64) x] w fun e w' => e = .returned (.tuple #[]) ∧ w' = w := by
  go_enter Tryz.func126, Tryz.ntmps126
  go_wp2_with fail
  refine C.mono ?_
  rintro e w1 ⟨rfl, rfl⟩
  go_wp2_with fail
  refine bodyPost_ret (results_none rfl _ _ _) rfl ?_
  exact ⟨rfl, rfl⟩

theorem take_none {w : World} {p : Option Addr} (C : Calls Tryz.prog 139 #[.pointer p] w fun e w' => e = .returned (.bool false) ∧ w' = w) (i : Int) :
    Calls Tryz.prog 105 #[.pointer p, .int .i64 i] w fun e w' => e = .returned (.tuple #[(Value.int .i64) 0, .bool false]) ∧ w' = w := by
  have C := at_none C i
  go_enter Tryz.func105, Tryz.ntmps105
  go_wp2_with fail
  refine C.mono ?_
  rintro e w1 ⟨rfl, rfl⟩
  go_wp2_with fail
  go_ret2
  exact ⟨rfl, rfl⟩

end Go.Proofs.YtgjpbekmkhanhaaGreat.QI

/-
  A queue of int: Pop.
-/
namespace Go.Proofs.YtgjpbekmkhanhaaGreat.QI
open Go.RowKit
set_option maxRecDepth 100000


theorem pop_any {w : World} {R G N h : Nat} {xs : List Int} (q : Qu w R G N h xs) :
    Calls Tryz.prog 134 #[.pointer (some ⟨R, 0, none⟩)] w fun e w' => e = .returned (.tuple #[(Value.int .i64) (xs.headD 0), .bool (!xs.isEmpty)]) ∧ Qt w w' R G xs.tail := by
  have C := take_any q 0
  have e1 : atV xs 0 = (xs.headD 0, !xs.isEmpty) := by cases xs <;> simp [atV]
  have e2 : wo xs 0 = xs.tail := by cases xs <;> simp [wo]
  rw [e1, e2] at C
  simp only at C
  generalize xs.headD 0 = x at *
  generalize (!xs.isEmpty) = b at *
  clear e1 e2 q
  go_enter Tryz.func134, Tryz.ntmps134
  go_wp2_with fail
  refine C.mono ?_
  rintro e w1 ⟨rfl, hq⟩
  go_wp2_with fail
  go_ret2
  exact ⟨rfl, hq⟩

end Go.Proofs.YtgjpbekmkhanhaaGreat.QI

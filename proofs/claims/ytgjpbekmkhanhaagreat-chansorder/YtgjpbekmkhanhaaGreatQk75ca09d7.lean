/-
  A queue of waiters: a place of the line closes up.
-/
import Derived.Test.YtgjpbekmkhanhaaGreatMx2719b8cc
import Derived.Laws.EntriesVeiled
namespace Go.Proofs.YtgjpbekmkhanhaaGreat.QW
open Go.RowKit
set_option maxRecDepth 100000

/-- Where place z of the line lies. -/
def sp (h N : Nat) (z : Int) : Nat := (h + z.toNat) % N

theorem spot_int {w : World} {R G N h : Nat} {xs : List Wv} (q : Qu w R G N h xs) {z : Int} (h0 : 0 ≤ z) (h1 : z ≤ (N : Int)) :
    Calls Tryz.prog 159 #[.pointer (some ⟨R, 0, none⟩), .int .i64 z] w fun e w' => e = .returned (.int .i64 (sp h N z : Nat)) ∧ Below w.heap.size w w' := by
  obtain ⟨k, rfl⟩ : ∃ k : Nat, z = (k : Int) := ⟨z.toNat, by omega⟩
  refine (spot_any q k (by omega)).mono ?_
  rintro e X ⟨rfl, m, rfl⟩
  exact ⟨by simp [sp], below_drewN (Below.refl _ w) m⟩

section
variable {w : World} {R G N h : Nat} {xs : List Wv}
/-- The place at the head is nobody's any more. -/
theorem Qu.tail (q : Qu w R G N h xs) (hn : 0 < xs.length) : Qu ((w.setCell ⟨R, 2, none⟩ (.int .i64 ((h + 1) % N : Nat))).setCell ⟨R, 3, none⟩ (.int .i64 ((xs.length - 1 : Nat) : Int))) R G N ((h + 1) % N) xs.tail := by
  obtain ⟨cur, hc, r⟩ := q.ring
  have hne := q.ne
  have e1 : (w.setCell ⟨R, 2, none⟩ (.int .i64 ((h + 1) % N : Nat))).heap[R]? = some (.cells #[.pointer (some ⟨R, 0, none⟩), .slice (some ⟨G, 0, none⟩) N N, .int .i64 ((h + 1) % N : Nat), .int .i64 xs.length] (187 : TypeId) (0, 0)) := by
    rw [heap_setCell_same w R 2 _ (187 : TypeId) _ q.obj]
    rfl
  refine ⟨?_, ⟨cur, ?_, r.tail hn⟩, q.small, by have := q.few; simp; omega⟩
  · rw [heap_setCell_same _ R 3 _ (187 : TypeId) _ e1, List.length_tail]
    rfl
  · rw [Below.heap_setCell _ _ _ G (by simpa using hne.symm), Below.heap_setCell _ _ _ G (by simpa using hne.symm)]
    exact hc

/-- The last place is nobody's any more. -/
theorem Qu.front (q : Qu w R G N h xs) (hn : 0 < xs.length) : Qu (w.setCell ⟨R, 3, none⟩ (.int .i64 ((xs.length - 1 : Nat) : Int))) R G N h (xs.take (xs.length - 1)) := by
  obtain ⟨cur, hc, r⟩ := q.ring
  have hne := q.ne
  refine ⟨?_, ⟨cur, ?_, r.front _⟩, q.small, by have := q.few; simp; omega⟩
  · rw [heap_setCell_same _ R 3 _ (187 : TypeId) _ q.obj, List.length_take, Nat.min_eq_left (by omega)]
    rfl
  · rw [Below.heap_setCell _ _ _ G (by simpa using hne.symm)]
    exact hc

theorem tb_two {a b c : World} (h : Tb (fun k => k = R ∨ k = G) a b) (k : Tb (fun k => k = R ∨ k = G) b c) : Tb (fun k => k = R ∨ k = G) a c := h.trans k (fun _ _ h => h)
end

set_option maxHeartbeats 4000000 in
theorem close_low {w : World} {R G N h : Nat} {xs : List Wv} (q : Qu w R G N h xs) {i : Nat} (hi : i < xs.length / 2) :
    Calls Tryz.prog 182 #[.pointer (some ⟨R, 0, none⟩), .int .i64 i] w fun e w' => e = .returned (.tuple #[]) ∧ (∃ h', Qu w' R G N h' (xs.eraseIdx i)) ∧ Tb (fun k => k = R ∨ k = G) w w' := by
  obtain ⟨A, hA, bA, rA, sA, _, _, _⟩ := zero_laid w
  obtain ⟨B, hB⟩ : ∃ B, Hid (w.heap.size = B) := ⟨_, hide rfl⟩
  have hRB : R < B := by rw [← hB.out]; exact q.lt
  have hGB : G < B := by rw [← hB.out]; exact q.glt
  have HTA : Hid (Tb (fun k => k = R ∨ k = G) w A) := hide (Tb.of_fresh bA.out)
  have HRA : Hid (A.heap[B]? = some (.cells #[.pointer none, .int .i64 0, .nilFunc] (141 : TypeId) (0, 0))) := hide (by rw [← hB.out]; exact rA.out)
  have q := q.below bA.out
  have c3 : A.cell? ⟨R, 3, none⟩ = some (.int .i64 xs.length) := q.c 3
  have hsm := q.small
  have hle := q.le
  have hhd := q.head
  have hfew := q.few
  unfold Mx at hsm hfew
  have hdiv : ((xs.length : Int)).tdiv 2 = ((xs.length / 2 : Nat) : Int) := by
    rw [Int.tdiv_eq_ediv_of_nonneg (by omega)]
    omega
  have hix : i < xs.length := by omega
  obtain ⟨n, hn⟩ : ∃ n, Hid (n = xs.length) := ⟨_, hide rfl⟩
  obtain ⟨n2, hn2⟩ : ∃ n2, Hid (n2 = xs.length / 2) := ⟨_, hide rfl⟩
  have hn2b : n2 ≤ 17592186044416 := by rw [hn2.out]; omega
  rw [← hn2.out] at hdiv hi
  rw [← hn.out] at hdiv c3 hle hfew hix
  have HQ := hide q
  clear q
  go_enter Tryz.func182, Tryz.ntmps182
  go_wp2_with (rw [← hA.out, hB.out])
  clear hdiv c3
  go_loopw [5] (fun kv wr => ∃ (k : Nat) (zs : List Wv), k ≤ i ∧ kv = .int .i64 k ∧ Hid (Low xs zs i k) ∧ Hid (Qu wr R G N h zs) ∧ Hid (Tb (fun k => k = R ∨ k = G) w wr) ∧ Hid (wr.heap[B]? = some (.cells #[.pointer none, .int .i64 0, .nilFunc] (141 : TypeId) (0, 0)))) (fun kv _ => (intOf kv).toNat)
  case atStart => exact ⟨i, xs, Nat.le_refl _, rfl, hide (Low.start xs i), HQ, HTA, HRA⟩
  case round =>
    obtain ⟨k, zs, hk, rfl, hlow, hq, ht, hz⟩ := hrel
    have hzl : zs.length = xs.length := hlow.out.1
    rw [← hn.out] at hzl
    by_cases hlt : 0 < k
    · have qr := hq.out
      have c1 : wr.cell? ⟨R, 1, none⟩ = some (.slice (some ⟨G, 0, none⟩) N N) := qr.c 1
      have cg0 := qr.g (i := k - 1) (by omega) 0 (by omega)
      have cg1 := qr.g (i := k - 1) (by omega) 1 (by omega)
      have cg2 := qr.g (i := k - 1) (by omega) 2 (by omega)
      have hE1 : sp h N (k : Int) = (h + k) % N := by simp [sp]
      have hE2 : sp h N ((k : Int) - 1) = (h + (k - 1)) % N := by simp only [sp]; congr 2; omega
      have hK1 : (h + k) % N < N := Nat.mod_lt _ (by omega)
      have hK2 : (h + (k - 1)) % N < N := Nat.mod_lt _ (by omega)
      have fg := fun j => qr.gfree j
      obtain ⟨y, hyy⟩ := qr.gany k
      have hy0 := hyy 0 (by omega)
      have hy1 := hyy 1 (by omega)
      have hy2 := hyy 2 (by omega)
      simp only [wc, Nat.add_zero, List.getElem?_cons_zero, List.getElem?_cons_succ] at hy0 hy1 hy2
      clear hyy
      have hstep : Low xs (zs.set k (zs.getD (k - 1) wz)) i (k - 1) := by
        obtain ⟨k', rfl⟩ : ∃ k', k = k' + 1 := ⟨k - 1, by omega⟩
        exact hlow.out.step hk (by rw [← hn.out]; exact hix) wz
      have HST := hide hstep
      have FIN : Hid (∀ X, Below wr.heap.size wr X → Qu (((X.setCell ⟨G, ((h + k) % N) * 3, none⟩ (.pointer (zs.getD (k - 1) wz).tk)).setCell ⟨G, ((h + k) % N) * 3 + 1, none⟩ (.int .i64 (zs.getD (k - 1) wz).val)).setCell ⟨G, ((h + k) % N) * 3 + 2, none⟩ (zs.getD (k - 1) wz).told) R G N h (zs.set k (zs.getD (k - 1) wz)) ∧ Tb (fun k => k = R ∨ k = G) w (((X.setCell ⟨G, ((h + k) % N) * 3, none⟩ (.pointer (zs.getD (k - 1) wz).tk)).setCell ⟨G, ((h + k) % N) * 3 + 1, none⟩ (.int .i64 (zs.getD (k - 1) wz).val)).setCell ⟨G, ((h + k) % N) * 3 + 2, none⟩ (zs.getD (k - 1) wz).told) ∧ (((X.setCell ⟨G, ((h + k) % N) * 3, none⟩ (.pointer (zs.getD (k - 1) wz).tk)).setCell ⟨G, ((h + k) % N) * 3 + 1, none⟩ (.int .i64 (zs.getD (k - 1) wz).val)).setCell ⟨G, ((h + k) % N) * 3 + 2, none⟩ (zs.getD (k - 1) wz).told).heap[B]? = some (.cells #[.pointer none, .int .i64 0, .nilFunc] (141 : TypeId) (0, 0))) :=
        hide (fun X hX => ⟨(qr.below hX).set (by omega) _, tb_two (tb_two ht.out (Tb.of_fresh hX)) (st3_tb X _ (.inr rfl)), (st3_other X _ (by omega)).trans ((hX.block B (heap_lt hz.out)).trans hz.out)⟩)
      have hset : (zs.set k (zs.getD (k - 1) wz)).getD (k - 1) wz = zs.getD (k - 1) wz := by
        simp only [List.getD]
        rw [List.getElem?_set_ne (by omega)]
      have hkz : k - 1 < (zs.set k (zs.getD (k - 1) wz)).length := by rw [List.length_set]; omega
      have HST0 : ∀ (W : World) (a : Addr) (m : Mode), (store a (zs.getD (k - 1) wz).told m).run Tryz.prog W = stored Tryz.prog W a (zs.getD (k - 1) wz).told m := fun W a m => run_store Tryz.prog W a _ m (zs.getD (k - 1) wz).one
      simp only [wc, Nat.add_zero, List.getElem?_cons_zero, List.getElem?_cons_succ] at cg0 cg1 cg2
      generalize zs.getD (k - 1) wz = x at *
      obtain ⟨K1, hK1'⟩ : ∃ K1, Hid (K1 = (h + k) % N) := ⟨_, hide rfl⟩
      obtain ⟨K2, hK2'⟩ : ∃ K2, Hid (K2 = (h + (k - 1)) % N) := ⟨_, hide rfl⟩
      rw [← hK1'.out] at hE1 hK1 FIN hy0 hy1 hy2
      rw [← hK2'.out] at hE2 hK2 cg0 cg1 cg2
      have HE1 := hide hE1
      have HE2 := hide hE2
      have HC : Hid (∀ V, Below wr.heap.size wr V → ∀ z : Int, 0 ≤ z → z ≤ (N : Int) → Calls Tryz.prog 159 #[.pointer (some ⟨R, 0, none⟩), .int .i64 z] V fun e X => e = .returned (.int .i64 (sp h N z : Nat)) ∧ Below wr.heap.size wr X ∧
          X.cell? ⟨R, 1, none⟩ = some (.slice (some ⟨G, 0, none⟩) N N) ∧ (X.cell? ⟨G, K2 * 3, none⟩ = some (.pointer x.tk) ∧ X.cell? ⟨G, K2 * 3 + 1, none⟩ = some (.int .i64 x.val) ∧ X.cell? ⟨G, K2 * 3 + 2, none⟩ = some x.told) ∧ (X.cell? ⟨G, K1 * 3, none⟩ = some (.pointer y.tk) ∧ X.cell? ⟨G, K1 * 3 + 1, none⟩ = some (.int .i64 y.val) ∧ X.cell? ⟨G, K1 * 3 + 2, none⟩ = some y.told) ∧ X.frozen? ⟨G, K1 * 3, none⟩ = false ∧ X.frozen? ⟨G, K1 * 3 + 1, none⟩ = false ∧ X.frozen? ⟨G, K1 * 3 + 2, none⟩ = false) := hide (fun V hV z h0 h1 => by
        refine (spot_int (qr.below hV) h0 h1).mono ?_
        rintro e X ⟨rfl, hX⟩
        have hb : Below wr.heap.size wr X := hV.trans (hX.mono hV.size)
        exact ⟨rfl, hb, (qr.below hb).c 1, ⟨(hb.cell (cell_lt cg0)).trans cg0, (hb.cell (cell_lt cg1)).trans cg1, (hb.cell (cell_lt cg2)).trans cg2⟩, ⟨(hb.cell (cell_lt hy0)).trans hy0, (hb.cell (cell_lt hy1)).trans hy1, (hb.cell (cell_lt hy2)).trans hy2⟩, (qr.below hb).gfree _, (qr.below hb).gfree _, (qr.below hb).gfree _⟩)
      have HWR : Hid (IntKind.i64.wrap ((k : Int) - 1) = (k : Int) - 1) := hide (by rw [IntKind.wrap_i64]; omega)
      have KS : Hid (∀ X, Below wr.heap.size wr X → (((X.setCell ⟨G, K1 * 3, none⟩ (.pointer x.tk)).setCell ⟨G, K1 * 3 + 1, none⟩ (.int .i64 x.val)).setCell ⟨G, K1 * 3 + 2, none⟩ x.told).cell? ⟨R, 1, none⟩ = some (.slice (some ⟨G, 0, none⟩) N N) ∧ (((X.setCell ⟨G, K1 * 3, none⟩ (.pointer x.tk)).setCell ⟨G, K1 * 3 + 1, none⟩ (.int .i64 x.val)).setCell ⟨G, K1 * 3 + 2, none⟩ x.told).cell? ⟨G, K2 * 3, none⟩ = some (.pointer x.tk) ∧ (((X.setCell ⟨G, K1 * 3, none⟩ (.pointer x.tk)).setCell ⟨G, K1 * 3 + 1, none⟩ (.int .i64 x.val)).setCell ⟨G, K1 * 3 + 2, none⟩ x.told).cell? ⟨G, K2 * 3 + 1, none⟩ = some (.int .i64 x.val) ∧ (((X.setCell ⟨G, K1 * 3, none⟩ (.pointer x.tk)).setCell ⟨G, K1 * 3 + 1, none⟩ (.int .i64 x.val)).setCell ⟨G, K1 * 3 + 2, none⟩ x.told).cell? ⟨G, K2 * 3 + 2, none⟩ = some x.told) := hide (fun X hX => ⟨(FIN.out X hX).1.c 1, by
        have g0 := (FIN.out X hX).1.g hkz 0 (by omega)
        have g1 := (FIN.out X hX).1.g hkz 1 (by omega)
        have g2 := (FIN.out X hX).1.g hkz 2 (by omega)
        rw [hset, ← hK2'.out] at g0 g1 g2
        exact ⟨g0, g1, g2⟩⟩)
      clear hset hkz
      clear hE1 hE2 hstep qr hq hlow ht fg
      go_wp2_with fail
      go_region_held3 (fun V => V.cell? ⟨R, 1, none⟩ = some (.slice (some ⟨G, 0, none⟩) N N) ∧ V.cell? ⟨G, K2 * 3, none⟩ = some (.pointer x.tk) ∧ V.cell? ⟨G, K2 * 3 + 1, none⟩ = some (.int .i64 x.val) ∧ V.cell? ⟨G, K2 * 3 + 2, none⟩ = some x.told)
        (first | exact ⟨c1, cg0, cg1, cg2⟩ | exact ⟨e1, e2⟩ | exact KS.out X hX)
        (first | (go_at_call 159; (try rw [HWR.out]); refine (HC.out _ ?_ _ ?_ ?_).mono ?_; (first | exact (Below.refl _ wr).drew | assumption); omega; omega; rintro e X ⟨rfl, hX, e1, e2, ⟨y0, y1, y2⟩, f0, f1, f2⟩; (try rw [HE1.out]); (try rw [HE2.out])))
      have HF := hide (FIN.out X hX)
      clear FIN KS HC c1 cg0 cg1 cg2 hy0 hy1 hy2 e1 e2 y0 y1 y2 f0 f1 f2
      go_wp2_with fail
      go_roundw
      case rel => exact ⟨k - 1, _, by omega, by go_num, HST, hide HF.out.1, hide HF.out.2.1, hide HF.out.2.2⟩
      case measure => simp [intOf]; omega
    · obtain rfl : k = 0 := by omega
      have qr := hq.out
      have hhz : (h + 0) % N = h := by rw [Nat.add_zero, Nat.mod_eq_of_lt hhd]
      have c1 : wr.cell? ⟨R, 1, none⟩ = some (.slice (some ⟨G, 0, none⟩) N N) := qr.c 1
      have c2 : wr.cell? ⟨R, 2, none⟩ = some (.int .i64 h) := qr.c 2
      obtain ⟨y, hyy⟩ := qr.gany 0
      rw [hhz] at hyy
      have hy0 := hyy 0 (by omega)
      have hy1 := hyy 1 (by omega)
      have hy2 := hyy 2 (by omega)
      simp only [wc, Nat.add_zero, List.getElem?_cons_zero, List.getElem?_cons_succ] at hy0 hy1 hy2
      clear hyy
      have fg0 := qr.gfree (h * 3)
      have fg1 := qr.gfree (h * 3 + 1)
      have fg2 := qr.gfree (h * 3 + 2)
      have z0 := cell_of_row wr B 0 _ _ _ hz.out
      have z1 := cell_of_row wr B 1 _ _ _ hz.out
      have z2 := cell_of_row wr B 2 _ _ _ hz.out
      simp only [List.getElem?_toArray, List.getElem?_cons_zero, List.getElem?_cons_succ] at z0 z1 z2
      obtain ⟨X, hX⟩ : ∃ X, Hid (X = (((wr.setCell ⟨G, h * 3, none⟩ (.pointer none)).setCell ⟨G, h * 3 + 1, none⟩ (.int .i64 0)).setCell ⟨G, h * 3 + 2, none⟩ .nilFunc).drew) := ⟨_, hide rfl⟩
      have qX : Qu X R G N h (zs.set 0 wz) := by
        have := (qr.set (j := 0) (by omega) wz).drewN 1
        rw [hhz] at this
        rw [hX.out]
        exact this
      have tX : Tb (fun k => k = R ∨ k = G) w X := by rw [hX.out]; exact (tb_two ht.out (st3_tb (k := h) wr wz (.inr rfl))).drew
      have HDN : Hid ((zs.set 0 wz).tail = xs.eraseIdx i) := hide (hlow.out.done wz)
      have hsl : (zs.set 0 wz).length = n := by simpa using hzl
      have HE : Hid (sp h N 1 = (h + 1) % N) := hide (by simp [sp])
      have HC : Hid (Calls Tryz.prog 159 #[.pointer (some ⟨R, 0, none⟩), .int .i64 1] X fun e Y => e = .returned (.int .i64 ((h + 1) % N : Nat)) ∧ Qu Y R G N h (zs.set 0 wz) ∧ Tb (fun k => k = R ∨ k = G) w Y) := hide (by
        refine (spot_int qX (z := 1) (by omega) (by omega)).mono ?_
        rintro e Y ⟨rfl, hY⟩
        exact ⟨by rw [HE.out], qX.below hY, tb_two tX (Tb.of_fresh hY)⟩)
      have HN1 : Hid ((n : Int) - 1 = (((zs.set 0 wz).length - 1 : Nat) : Int)) := hide (by rw [hsl]; omega)
      clear hhz qr hq hlow ht qX tX
      generalize (zs.set 0 wz) = ys at *
      obtain ⟨K, hK⟩ : ∃ K, Hid (K = (h + 1) % N) := ⟨_, hide rfl⟩
      rw [← hK.out] at HC
      go_wp2_with fail
      go_region
      rw [← hX.out]
      go_wp2_with fail
      refine HC.out.mono ?_
      rintro e Y ⟨rfl, qY, tY⟩
      have y2 : Y.cell? ⟨R, 2, none⟩ = some (.int .i64 h) := qY.c 2
      have y3 : Y.cell? ⟨R, 3, none⟩ = some (.int .i64 ys.length) := qY.c 3
      rw [hsl] at y3
      have f2 := qY.free 2
      have f3 := qY.free 3
      have hF := qY.tail (by omega)
      rw [← hK.out, ← HN1.out, HDN.out] at hF
      have HF := hide hF
      have HT := hide tY
      clear hF qY tY HC
      go_wp2_with fail
      go_end0
      exact ⟨rfl, ⟨_, HF.out⟩, tb_two (tb_two HT.out (Tb.set R _ _ (.inl rfl))) (Tb.set R _ _ (.inl rfl))⟩

set_option maxHeartbeats 4000000 in
theorem close_high {w : World} {R G N h : Nat} {xs : List Wv} (q : Qu w R G N h xs) {i : Nat} (hi : ¬ i < xs.length / 2) (hix : i < xs.length) :
    Calls Tryz.prog 182 #[.pointer (some ⟨R, 0, none⟩), .int .i64 i] w fun e w' => e = .returned (.tuple #[]) ∧ (∃ h', Qu w' R G N h' (xs.eraseIdx i)) ∧ Tb (fun k => k = R ∨ k = G) w w' := by
  obtain ⟨A, hA, bA, rA, sA, _, _, _⟩ := zero_laid w
  obtain ⟨B, hB⟩ : ∃ B, Hid (w.heap.size = B) := ⟨_, hide rfl⟩
  have hRB : R < B := by rw [← hB.out]; exact q.lt
  have hGB : G < B := by rw [← hB.out]; exact q.glt
  have HTA : Hid (Tb (fun k => k = R ∨ k = G) w A) := hide (Tb.of_fresh bA.out)
  have HRA : Hid (A.heap[B]? = some (.cells #[.pointer none, .int .i64 0, .nilFunc] (141 : TypeId) (0, 0))) := hide (by rw [← hB.out]; exact rA.out)
  have q := q.below bA.out
  have c3 : A.cell? ⟨R, 3, none⟩ = some (.int .i64 xs.length) := q.c 3
  have hsm := q.small
  have hle := q.le
  have hhd := q.head
  have hfew := q.few
  unfold Mx at hsm hfew
  have hdiv : ((xs.length : Int)).tdiv 2 = ((xs.length / 2 : Nat) : Int) := by
    rw [Int.tdiv_eq_ediv_of_nonneg (by omega)]
    omega
  obtain ⟨n, hn⟩ : ∃ n, Hid (n = xs.length) := ⟨_, hide rfl⟩
  obtain ⟨n2, hn2⟩ : ∃ n2, Hid (n2 = xs.length / 2) := ⟨_, hide rfl⟩
  have hn2b : n2 ≤ 17592186044416 := by rw [hn2.out]; omega
  rw [← hn2.out] at hdiv hi
  rw [← hn.out] at hdiv c3 hle hfew hix
  have HQ := hide q
  clear q
  go_enter Tryz.func182, Tryz.ntmps182
  go_wp2_with (rw [← hA.out, hB.out])
  clear hdiv c3
  go_loopw [6] (fun kv wr => ∃ (k : Nat) (zs : List Wv), i < k ∧ k ≤ n ∧ kv = .int .i64 k ∧ Hid (Hig xs zs i k) ∧ Hid (Qu wr R G N h zs) ∧ Hid (Tb (fun k => k = R ∨ k = G) w wr) ∧ Hid (wr.heap[B]? = some (.cells #[.pointer none, .int .i64 0, .nilFunc] (141 : TypeId) (0, 0)))) (fun kv _ => n - (intOf kv).toNat)
  case atStart => exact ⟨i + 1, xs, by omega, by omega, by go_num, hide (Hig.start xs i), HQ, HTA, HRA⟩
  case round =>
    obtain ⟨k, zs, hik, hk, rfl, hlow, hq, ht, hz⟩ := hrel
    have hzl : zs.length = xs.length := hlow.out.1
    rw [← hn.out] at hzl
    have qr := hq.out
    have c3 : wr.cell? ⟨R, 3, none⟩ = some (.int .i64 zs.length) := qr.c 3
    rw [hzl] at c3
    by_cases hlt : k < n
    · have c1 : wr.cell? ⟨R, 1, none⟩ = some (.slice (some ⟨G, 0, none⟩) N N) := qr.c 1
      have cg0 := qr.g (i := k) (by omega) 0 (by omega)
      have cg1 := qr.g (i := k) (by omega) 1 (by omega)
      have cg2 := qr.g (i := k) (by omega) 2 (by omega)
      have hE1 : sp h N (k : Int) = (h + k) % N := by simp [sp]
      have hE2 : sp h N ((k : Int) - 1) = (h + (k - 1)) % N := by simp only [sp]; congr 2; omega
      have hK1 : (h + k) % N < N := Nat.mod_lt _ (by omega)
      have hK2 : (h + (k - 1)) % N < N := Nat.mod_lt _ (by omega)
      obtain ⟨y, hyy⟩ := qr.gany (k - 1)
      have hy0 := hyy 0 (by omega)
      have hy1 := hyy 1 (by omega)
      have hy2 := hyy 2 (by omega)
      simp only [wc, Nat.add_zero, List.getElem?_cons_zero, List.getElem?_cons_succ] at hy0 hy1 hy2
      clear hyy
      have HST : Hid (Hig xs (zs.set (k - 1) (zs.getD k wz)) i (k + 1)) := hide (hlow.out.step hik (by rw [← hn.out]; exact hlt) wz)
      have FIN : Hid (∀ X, Below wr.heap.size wr X → Qu (((X.setCell ⟨G, ((h + (k - 1)) % N) * 3, none⟩ (.pointer (zs.getD k wz).tk)).setCell ⟨G, ((h + (k - 1)) % N) * 3 + 1, none⟩ (.int .i64 (zs.getD k wz).val)).setCell ⟨G, ((h + (k - 1)) % N) * 3 + 2, none⟩ (zs.getD k wz).told) R G N h (zs.set (k - 1) (zs.getD k wz)) ∧ Tb (fun k => k = R ∨ k = G) w (((X.setCell ⟨G, ((h + (k - 1)) % N) * 3, none⟩ (.pointer (zs.getD k wz).tk)).setCell ⟨G, ((h + (k - 1)) % N) * 3 + 1, none⟩ (.int .i64 (zs.getD k wz).val)).setCell ⟨G, ((h + (k - 1)) % N) * 3 + 2, none⟩ (zs.getD k wz).told) ∧ (((X.setCell ⟨G, ((h + (k - 1)) % N) * 3, none⟩ (.pointer (zs.getD k wz).tk)).setCell ⟨G, ((h + (k - 1)) % N) * 3 + 1, none⟩ (.int .i64 (zs.getD k wz).val)).setCell ⟨G, ((h + (k - 1)) % N) * 3 + 2, none⟩ (zs.getD k wz).told).heap[B]? = some (.cells #[.pointer none, .int .i64 0, .nilFunc] (141 : TypeId) (0, 0))) :=
        hide (fun X hX => ⟨(qr.below hX).set (by omega) _, tb_two (tb_two ht.out (Tb.of_fresh hX)) (st3_tb X _ (.inr rfl)), (st3_other X _ (by omega)).trans ((hX.block B (heap_lt hz.out)).trans hz.out)⟩)
      have hset : (zs.set (k - 1) (zs.getD k wz)).getD k wz = zs.getD k wz := by
        simp only [List.getD]
        rw [List.getElem?_set_ne (by omega)]
      have hkz : k < (zs.set (k - 1) (zs.getD k wz)).length := by rw [List.length_set]; omega
      have HST0 : ∀ (W : World) (a : Addr) (m : Mode), (store a (zs.getD k wz).told m).run Tryz.prog W = stored Tryz.prog W a (zs.getD k wz).told m := fun W a m => run_store Tryz.prog W a _ m (zs.getD k wz).one
      simp only [wc, Nat.add_zero, List.getElem?_cons_zero, List.getElem?_cons_succ] at cg0 cg1 cg2
      generalize zs.getD k wz = x at *
      obtain ⟨K1, hK1'⟩ : ∃ K1, Hid (K1 = (h + k) % N) := ⟨_, hide rfl⟩
      obtain ⟨K2, hK2'⟩ : ∃ K2, Hid (K2 = (h + (k - 1)) % N) := ⟨_, hide rfl⟩
      rw [← hK1'.out] at hE1 hK1 cg0 cg1 cg2
      rw [← hK2'.out] at hE2 hK2 hy0 hy1 hy2 FIN
      have HE1 := hide hE1
      have HE2 := hide hE2
      have HC : Hid (∀ V, Below wr.heap.size wr V → ∀ z : Int, 0 ≤ z → z ≤ (N : Int) → Calls Tryz.prog 159 #[.pointer (some ⟨R, 0, none⟩), .int .i64 z] V fun e X => e = .returned (.int .i64 (sp h N z : Nat)) ∧ Below wr.heap.size wr X ∧
          X.cell? ⟨R, 1, none⟩ = some (.slice (some ⟨G, 0, none⟩) N N) ∧ (X.cell? ⟨G, K1 * 3, none⟩ = some (.pointer x.tk) ∧ X.cell? ⟨G, K1 * 3 + 1, none⟩ = some (.int .i64 x.val) ∧ X.cell? ⟨G, K1 * 3 + 2, none⟩ = some x.told) ∧ (X.cell? ⟨G, K2 * 3, none⟩ = some (.pointer y.tk) ∧ X.cell? ⟨G, K2 * 3 + 1, none⟩ = some (.int .i64 y.val) ∧ X.cell? ⟨G, K2 * 3 + 2, none⟩ = some y.told) ∧ X.frozen? ⟨G, K2 * 3, none⟩ = false ∧ X.frozen? ⟨G, K2 * 3 + 1, none⟩ = false ∧ X.frozen? ⟨G, K2 * 3 + 2, none⟩ = false) := hide (fun V hV z h0 h1 => by
        refine (spot_int (qr.below hV) h0 h1).mono ?_
        rintro e X ⟨rfl, hX⟩
        have hb : Below wr.heap.size wr X := hV.trans (hX.mono hV.size)
        exact ⟨rfl, hb, (qr.below hb).c 1, ⟨(hb.cell (cell_lt cg0)).trans cg0, (hb.cell (cell_lt cg1)).trans cg1, (hb.cell (cell_lt cg2)).trans cg2⟩, ⟨(hb.cell (cell_lt hy0)).trans hy0, (hb.cell (cell_lt hy1)).trans hy1, (hb.cell (cell_lt hy2)).trans hy2⟩, (qr.below hb).gfree _, (qr.below hb).gfree _, (qr.below hb).gfree _⟩)
      have HWR : Hid (IntKind.i64.wrap ((k : Int) - 1) = (k : Int) - 1) := hide (by rw [IntKind.wrap_i64]; omega)
      have KS : Hid (∀ X, Below wr.heap.size wr X → (((X.setCell ⟨G, K2 * 3, none⟩ (.pointer x.tk)).setCell ⟨G, K2 * 3 + 1, none⟩ (.int .i64 x.val)).setCell ⟨G, K2 * 3 + 2, none⟩ x.told).cell? ⟨R, 1, none⟩ = some (.slice (some ⟨G, 0, none⟩) N N) ∧ (((X.setCell ⟨G, K2 * 3, none⟩ (.pointer x.tk)).setCell ⟨G, K2 * 3 + 1, none⟩ (.int .i64 x.val)).setCell ⟨G, K2 * 3 + 2, none⟩ x.told).cell? ⟨G, K1 * 3, none⟩ = some (.pointer x.tk) ∧ (((X.setCell ⟨G, K2 * 3, none⟩ (.pointer x.tk)).setCell ⟨G, K2 * 3 + 1, none⟩ (.int .i64 x.val)).setCell ⟨G, K2 * 3 + 2, none⟩ x.told).cell? ⟨G, K1 * 3 + 1, none⟩ = some (.int .i64 x.val) ∧ (((X.setCell ⟨G, K2 * 3, none⟩ (.pointer x.tk)).setCell ⟨G, K2 * 3 + 1, none⟩ (.int .i64 x.val)).setCell ⟨G, K2 * 3 + 2, none⟩ x.told).cell? ⟨G, K1 * 3 + 2, none⟩ = some x.told) := hide (fun X hX => ⟨(FIN.out X hX).1.c 1, by
        have g0 := (FIN.out X hX).1.g hkz 0 (by omega)
        have g1 := (FIN.out X hX).1.g hkz 1 (by omega)
        have g2 := (FIN.out X hX).1.g hkz 2 (by omega)
        rw [hset, ← hK1'.out] at g0 g1 g2
        exact ⟨g0, g1, g2⟩⟩)
      clear hset hkz
      clear hE1 hE2 qr hq hlow ht
      go_wp2_with fail
      go_region_held3 (fun V => V.cell? ⟨R, 1, none⟩ = some (.slice (some ⟨G, 0, none⟩) N N) ∧ V.cell? ⟨G, K1 * 3, none⟩ = some (.pointer x.tk) ∧ V.cell? ⟨G, K1 * 3 + 1, none⟩ = some (.int .i64 x.val) ∧ V.cell? ⟨G, K1 * 3 + 2, none⟩ = some x.told)
        (first | exact ⟨c1, cg0, cg1, cg2⟩ | exact ⟨e1, e2⟩ | exact KS.out X hX)
        (first | (go_at_call 159; (try rw [HWR.out]); refine (HC.out _ ?_ _ ?_ ?_).mono ?_; (first | exact (Below.refl _ wr).drew | assumption); omega; omega; rintro e X ⟨rfl, hX, e1, e2, ⟨y0, y1, y2⟩, f0, f1, f2⟩; (try rw [HE1.out]); (try rw [HE2.out])))
      have HF := hide (FIN.out X hX)
      clear FIN KS HC c1 cg0 cg1 cg2 hy0 hy1 hy2 e1 e2 y0 y1 y2 f0 f1 f2 c3
      go_wp2_with fail
      go_roundw
      case rel => exact ⟨k + 1, _, by omega, by omega, by go_num, HST, hide HF.out.1, hide HF.out.2.1, hide HF.out.2.2⟩
      case measure => simp [intOf]; omega
    · obtain rfl : k = n := by omega
      have c1 : wr.cell? ⟨R, 1, none⟩ = some (.slice (some ⟨G, 0, none⟩) N N) := qr.c 1
      obtain ⟨y, hyy⟩ := qr.gany (k - 1)
      have hy0 := hyy 0 (by omega)
      have hy1 := hyy 1 (by omega)
      have hy2 := hyy 2 (by omega)
      simp only [wc, Nat.add_zero, List.getElem?_cons_zero, List.getElem?_cons_succ] at hy0 hy1 hy2
      clear hyy
      have hK1 : (h + (k - 1)) % N < N := Nat.mod_lt _ (by omega)
      have hE1 : sp h N ((k : Int) - 1) = (h + (k - 1)) % N := by simp only [sp]; congr 2; omega
      have hsl : (zs.set (k - 1) wz).length = k := by simpa using hzl
      have FIN : Hid (∀ X, Below wr.heap.size wr X → Qu (((X.setCell ⟨G, ((h + (k - 1)) % N) * 3, none⟩ (.pointer none)).setCell ⟨G, ((h + (k - 1)) % N) * 3 + 1, none⟩ (.int .i64 0)).setCell ⟨G, ((h + (k - 1)) % N) * 3 + 2, none⟩ .nilFunc) R G N h (zs.set (k - 1) wz) ∧ Tb (fun k => k = R ∨ k = G) w (((X.setCell ⟨G, ((h + (k - 1)) % N) * 3, none⟩ (.pointer none)).setCell ⟨G, ((h + (k - 1)) % N) * 3 + 1, none⟩ (.int .i64 0)).setCell ⟨G, ((h + (k - 1)) % N) * 3 + 2, none⟩ .nilFunc) ∧ (((X.setCell ⟨G, ((h + (k - 1)) % N) * 3, none⟩ (.pointer none)).setCell ⟨G, ((h + (k - 1)) % N) * 3 + 1, none⟩ (.int .i64 0)).setCell ⟨G, ((h + (k - 1)) % N) * 3 + 2, none⟩ .nilFunc).heap[B]? = some (.cells #[.pointer none, .int .i64 0, .nilFunc] (141 : TypeId) (0, 0))) :=
        hide (fun X hX => ⟨(qr.below hX).set (by omega) wz, tb_two (tb_two ht.out (Tb.of_fresh hX)) (st3_tb X wz (.inr rfl)), (st3_other X wz (by omega)).trans ((hX.block B (heap_lt hz.out)).trans hz.out)⟩)
      have HDN : Hid ((zs.set (k - 1) wz).take (k - 1) = xs.eraseIdx i) := hide (by
        have := hlow.out
        rw [hn.out] at this ⊢
        exact this.done (by rw [← hn.out]; exact hix) wz)
      obtain ⟨K1, hK1'⟩ : ∃ K1, Hid (K1 = (h + (k - 1)) % N) := ⟨_, hide rfl⟩
      rw [← hK1'.out] at hE1 hK1 hy0 hy1 hy2 FIN
      have z0 := cell_of_row wr B 0 _ _ _ hz.out
      have z1 := cell_of_row wr B 1 _ _ _ hz.out
      have z2 := cell_of_row wr B 2 _ _ _ hz.out
      simp only [List.getElem?_toArray, List.getElem?_cons_zero, List.getElem?_cons_succ] at z0 z1 z2
      have HE1 := hide hE1
      have HC : Hid (∀ V, Below wr.heap.size wr V → ∀ z : Int, 0 ≤ z → z ≤ (N : Int) → Calls Tryz.prog 159 #[.pointer (some ⟨R, 0, none⟩), .int .i64 z] V fun e X => e = .returned (.int .i64 (sp h N z : Nat)) ∧ Below wr.heap.size wr X ∧
          X.cell? ⟨R, 1, none⟩ = some (.slice (some ⟨G, 0, none⟩) N N) ∧ (X.cell? ⟨R, 3, none⟩ = some (.int .i64 k) ∧ X.cell? ⟨B, 0, none⟩ = some (.pointer none) ∧ X.cell? ⟨B, 1, none⟩ = some (.int .i64 0) ∧ X.cell? ⟨B, 2, none⟩ = some .nilFunc) ∧ (X.cell? ⟨G, K1 * 3, none⟩ = some (.pointer y.tk) ∧ X.cell? ⟨G, K1 * 3 + 1, none⟩ = some (.int .i64 y.val) ∧ X.cell? ⟨G, K1 * 3 + 2, none⟩ = some y.told) ∧ X.frozen? ⟨G, K1 * 3, none⟩ = false ∧ X.frozen? ⟨G, K1 * 3 + 1, none⟩ = false ∧ X.frozen? ⟨G, K1 * 3 + 2, none⟩ = false) := hide (fun V hV z h0 h1 => by
        refine (spot_int (qr.below hV) h0 h1).mono ?_
        rintro e X ⟨rfl, hX⟩
        have hb : Below wr.heap.size wr X := hV.trans (hX.mono hV.size)
        exact ⟨rfl, hb, (qr.below hb).c 1, ⟨(hb.cell (cell_lt c3)).trans c3, (hb.cell (cell_lt z0)).trans z0, (hb.cell (cell_lt z1)).trans z1, (hb.cell (cell_lt z2)).trans z2⟩, ⟨(hb.cell (cell_lt hy0)).trans hy0, (hb.cell (cell_lt hy1)).trans hy1, (hb.cell (cell_lt hy2)).trans hy2⟩, (qr.below hb).gfree _, (qr.below hb).gfree _, (qr.below hb).gfree _⟩)
      have HWR : Hid (IntKind.i64.wrap ((k : Int) - 1) = (k : Int) - 1) := hide (by rw [IntKind.wrap_i64]; omega)
      have KS : Hid (∀ X, Below wr.heap.size wr X → (((X.setCell ⟨G, K1 * 3, none⟩ (.pointer none)).setCell ⟨G, K1 * 3 + 1, none⟩ (.int .i64 0)).setCell ⟨G, K1 * 3 + 2, none⟩ .nilFunc).cell? ⟨R, 1, none⟩ = some (.slice (some ⟨G, 0, none⟩) N N) ∧ (((X.setCell ⟨G, K1 * 3, none⟩ (.pointer none)).setCell ⟨G, K1 * 3 + 1, none⟩ (.int .i64 0)).setCell ⟨G, K1 * 3 + 2, none⟩ .nilFunc).cell? ⟨R, 3, none⟩ = some (.int .i64 k) ∧ (((X.setCell ⟨G, K1 * 3, none⟩ (.pointer none)).setCell ⟨G, K1 * 3 + 1, none⟩ (.int .i64 0)).setCell ⟨G, K1 * 3 + 2, none⟩ .nilFunc).cell? ⟨B, 0, none⟩ = some (.pointer none) ∧ (((X.setCell ⟨G, K1 * 3, none⟩ (.pointer none)).setCell ⟨G, K1 * 3 + 1, none⟩ (.int .i64 0)).setCell ⟨G, K1 * 3 + 2, none⟩ .nilFunc).cell? ⟨B, 1, none⟩ = some (.int .i64 0) ∧ (((X.setCell ⟨G, K1 * 3, none⟩ (.pointer none)).setCell ⟨G, K1 * 3 + 1, none⟩ (.int .i64 0)).setCell ⟨G, K1 * 3 + 2, none⟩ .nilFunc).cell? ⟨B, 2, none⟩ = some .nilFunc) := hide (fun X hX => ⟨(FIN.out X hX).1.c 1, by
        have := (FIN.out X hX).1.c 3
        rw [hsl] at this
        have hr := (FIN.out X hX).2.2
        exact ⟨this, cell_of_row _ B 0 _ _ _ hr, cell_of_row _ B 1 _ _ _ hr, cell_of_row _ B 2 _ _ _ hr⟩⟩)
      have HN1 : Hid ((k : Int) - 1 = (((zs.set (k - 1) wz).length - 1 : Nat) : Int)) := hide (by rw [hsl]; omega)
      have HSL := hide hsl
      clear hE1 qr hq hlow ht hsl
      generalize (zs.set (k - 1) wz) = ys at *
      go_wp2_with fail
      go_region_held3 (fun V => V.cell? ⟨R, 1, none⟩ = some (.slice (some ⟨G, 0, none⟩) N N) ∧ V.cell? ⟨R, 3, none⟩ = some (.int .i64 k) ∧ V.cell? ⟨B, 0, none⟩ = some (.pointer none) ∧ V.cell? ⟨B, 1, none⟩ = some (.int .i64 0) ∧ V.cell? ⟨B, 2, none⟩ = some .nilFunc)
        (first | exact ⟨c1, c3, z0, z1, z2⟩ | exact ⟨e1, e2⟩ | exact KS.out X hX)
        (first | (go_at_call 159; (try rw [HWR.out]); refine (HC.out _ ?_ _ ?_ ?_).mono ?_; (first | exact (Below.refl _ wr).drew | assumption); omega; omega; rintro e X ⟨rfl, hX, e1, e2, ⟨y0, y1, y2⟩, f0, f1, f2⟩; (try rw [HE1.out])))
      obtain ⟨qY, tY, _⟩ := FIN.out X hX
      clear FIN KS HC c1 c3 hy0 hy1 hy2 z0 z1 z2 e1 e2 y0 y1 y2 f0 f1 f2 hX
      generalize (((X.setCell ⟨G, K1 * 3, none⟩ (.pointer none)).setCell ⟨G, K1 * 3 + 1, none⟩ (.int .i64 0)).setCell ⟨G, K1 * 3 + 2, none⟩ .nilFunc) = Y at *
      have y3 : Y.cell? ⟨R, 3, none⟩ = some (.int .i64 ys.length) := qY.c 3
      rw [HSL.out] at y3
      have f3 := qY.free 3
      have hF := qY.front (by rw [HSL.out]; omega)
      rw [← HN1.out, HSL.out, HDN.out] at hF
      have HF := hide hF
      have HT := hide tY
      clear hF qY tY
      go_wp2_with fail
      go_end0
      exact ⟨rfl, ⟨_, HF.out⟩, tb_two HT.out (Tb.set R _ _ (.inl rfl))⟩

theorem close_any {w : World} {R G N h : Nat} {xs : List Wv} (q : Qu w R G N h xs) {i : Nat} (hix : i < xs.length) :
    Calls Tryz.prog 182 #[.pointer (some ⟨R, 0, none⟩), .int .i64 i] w fun e w' => e = .returned (.tuple #[]) ∧ (∃ h', Qu w' R G N h' (xs.eraseIdx i)) ∧ Tb (fun k => k = R ∨ k = G) w w' := by
  by_cases h : i < xs.length / 2
  · exact close_low q h
  · exact close_high q h hix

end Go.Proofs.YtgjpbekmkhanhaaGreat.QW

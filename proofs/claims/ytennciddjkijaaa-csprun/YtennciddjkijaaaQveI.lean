/-
  A queue of int: room is given back, Take, Pop, Push, Drop.
-/
import Derived.Test.YtennciddjkijaaaQudI
namespace Go.Proofs.Ytennciddjkijaaa.QI
open Go.RowKit
set_option maxRecDepth 100000

/-- What a call leaves of a queue: a line, in its ring or in a new one. -/
def Qt (w w' : World) (R G : Nat) (ys : List Int) : Prop := ∃ G' N h, Qu w' R G' N h ys ∧ (G' = G ∨ w.heap.size ≤ G') ∧ Tb (fun k => k = R ∨ k = G) w w'

theorem Qt.then {a b c : World} {R G : Nat} {xs ys : List Int} {G' N h : Nat} (_q : Qu b R G' N h xs) (hg : G' = G ∨ a.heap.size ≤ G') (t : Tb (fun k => k = R ∨ k = G) a b) (k : Qt b c R G' ys) : Qt a c R G ys := by
  obtain ⟨G2, N2, h2, q2, hg2, t2⟩ := k
  refine ⟨G2, N2, h2, q2, ?_, t.trans t2 (fun i hi h => ?_)⟩
  · have := t.size
    rcases hg2 with rfl | hg2
    · exact hg
    · exact .inr (by omega)
  · rcases h with h | h
    · exact .inl h
    · rcases hg with rfl | hg
      · exact .inr h
      · omega

/-- A queue that is laid anew with its own list. -/
theorem relay {w : World} {R G N h : Nat} {xs : List Int} (q : Qu w R G N h xs) {V : World} {a : Option Addr} {cap : Nat} (ho : V.ownsRow w.heap.size 3 1 (.slice a xs.length cap) xs.length (W xs)) (hb : Below w.heap.size w V) :
    Calls Try.prog 76 #[.pointer (some ⟨R, 0, none⟩), .slice a xs.length cap] V fun e w' => e = .returned (.tuple #[]) ∧ Qu w' R V.heap.size (2 * xs.length + 1) 0 xs ∧ Tb (fun k => k = R ∨ k = G) w w' := by
  have hR := (hb.block R q.lt).trans q.obj
  refine (lay_any hR (own_ls ho) (fun ad h e => ?_) q.few).mono ?_
  · subst h
    have := (ho.lt ad.block (by
      rcases ho.2 with ⟨h1, _⟩ | ⟨g, c, cur, h1, _⟩
      · cases h1
      · simp only [Value.slice.injEq, Option.some.injEq] at h1
        rw [h1.1]
        rfl)).1
    have := q.lt
    omega
  · rintro e w' ⟨rfl, q', t⟩
    exact ⟨rfl, q', (Tb.of_fresh hb).trans t (fun _ _ h => .inl h)⟩

set_option maxHeartbeats 1000000 in
theorem shrink_any {w : World} {R G N h : Nat} {xs : List Int} (q : Qu w R G N h xs) :
    Calls Try.prog 80 #[.pointer (some ⟨R, 0, none⟩)] w fun e w' => e = .returned (.tuple #[]) ∧ Qt w w' R G xs := by
  have c1 : w.cell? ⟨R, 1, none⟩ = some (.slice (some ⟨G, 0, none⟩) N N) := q.c 1
  have c3 : w.cell? ⟨R, 3, none⟩ = some (.int .i64 xs.length) := q.c 3
  have hsm := q.small
  have hfew := q.few
  unfold Mx at hsm hfew
  obtain ⟨n, hn⟩ : ∃ n, Hid (n = xs.length) := ⟨_, hide rfl⟩
  by_cases hl : 4 * (xs.length + 1) < N
  · have HL : Hid (∀ m, Calls Try.prog 72 #[.pointer (some ⟨R, 0, none⟩)] (w.drewN m) fun e w' => ∃ a cap, e = .returned (.slice a xs.length cap) ∧ w'.ownsRow w.heap.size 3 1 (.slice a xs.length cap) xs.length (W xs) ∧ Below w.heap.size w w') := hide (fun m => (list_yes (q.drewN m)).mono (by
      rintro e w' ⟨a, cap, rfl, ho, hb⟩
      exact ⟨a, cap, rfl, ho, (below_drewN (Below.refl _ w) m).trans hb⟩))
    have HR : Hid (∀ (W' : World) (a : Option Addr) (cap : Nat), W'.ownsRow w.heap.size 3 1 (.slice a xs.length cap) xs.length (W xs) → Below w.heap.size w W' → Calls Try.prog 76 #[.pointer (some ⟨R, 0, none⟩), .slice a xs.length cap] W' fun e w' => e = .returned (.tuple #[]) ∧ Qt w w' R G xs) := hide (fun W' a cap ho hb => (relay q ho hb).mono (by
      rintro e w' ⟨rfl, q', t⟩
      exact ⟨rfl, _, _, _, q', .inr hb.size, t⟩))
    rw [← hn.out] at hl c3 HL HR hfew
    clear q
    go_enter Try.func80, Try.ntmps80
    go_wp2_with fail
    go_quiet (fail)
    go_wp2_with fail
    refine (HL.out _).mono ?_
    rintro e W' ⟨a, cap, rfl, ho, hb⟩
    have HW := hide (HR.out W' a cap ho hb)
    clear ho hb HR HL
    go_wp2_with fail
    refine HW.out.mono ?_
    rintro e w' ⟨rfl, hq⟩
    go_wp2_with fail
    go_end0
    exact ⟨rfl, hq⟩
  · have HF : Hid (∀ m, Qt w (w.drewN m) R G xs) := hide (fun m => ⟨G, N, h, q.drewN m, .inl rfl, Tb.of_fresh (below_drewN (Below.refl _ w) m)⟩)
    rw [← hn.out] at hl c3 hfew
    clear q
    go_enter Try.func80, Try.ntmps80
    go_wp2_with fail
    go_quiet (fail)
    go_wp2_with fail
    go_end0
    exact ⟨rfl, HF.out _⟩

/-- A line without what stands at a place. -/
def wo (xs : List Int) (i : Int) : List Int := if 0 ≤ i ∧ i < xs.length then xs.eraseIdx i.toNat else xs

set_option maxHeartbeats 1000000 in
theorem take_any {w : World} {R G N h : Nat} {xs : List Int} (q : Qu w R G N h xs) (i : Int) :
    Calls Try.prog 69 #[.pointer (some ⟨R, 0, none⟩), .int .i64 i] w fun e w' => e = .returned (.tuple #[(Value.int .i64) (atV xs i).1, .bool (atV xs i).2]) ∧ Qt w w' R G (wo xs i) := by
  have C := at_any q i
  by_cases hi : 0 ≤ i ∧ i < xs.length
  · have e1 : atV xs i = (xs.getD i.toNat 0, true) := if_pos hi
    have e2 : wo xs i = xs.eraseIdx i.toNat := if_pos hi
    obtain ⟨k, rfl⟩ : ∃ k : Nat, i = (k : Int) := ⟨i.toNat, by omega⟩
    simp only [Int.toNat_natCast] at e1 e2
    rw [e1] at C ⊢
    rw [e2]
    have HC : Hid (∀ m, Calls Try.prog 79 #[.pointer (some ⟨R, 0, none⟩), .int .i64 k] (w.drewN m) fun e w' => e = .returned (.tuple #[]) ∧ ∃ h', Qu w' R G N h' (xs.eraseIdx k) ∧ Tb (fun k => k = R ∨ k = G) w w') := hide (fun m => (close_any (q.drewN m) (by omega)).mono (by
      rintro e w' ⟨rfl, ⟨h', q'⟩, t⟩
      exact ⟨rfl, h', q', (Tb.of_fresh (below_drewN (Below.refl _ w) m)).trans t (fun _ _ h => h)⟩))
    generalize xs.getD k 0 = x at *
    generalize xs.eraseIdx k = ys at *
    clear q hi e1 e2
    go_enter Try.func69, Try.ntmps69
    go_wp2_with fail
    refine C.mono ?_
    rintro e w1 ⟨rfl, m, rfl⟩
    go_wp2_with fail
    refine (HC.out _).mono ?_
    rintro e w2 ⟨rfl, h', q', t⟩
    have HS := hide ((shrink_any q').mono (P := Try.prog) (R' := fun e w' => e = .returned (.tuple #[]) ∧ Qt w w' R G ys) (by
      rintro e w' ⟨rfl, hq⟩
      exact ⟨rfl, Qt.then q' (.inl rfl) t hq⟩))
    clear q' t HC C
    go_wp2_with fail
    refine HS.out.mono ?_
    rintro e w' ⟨rfl, hq⟩
    go_wp2_with fail
    go_ret2
    exact ⟨rfl, hq⟩
  · have e1 : atV xs i = (0, false) := if_neg hi
    have e2 : wo xs i = xs := if_neg hi
    rw [e1] at C ⊢
    rw [e2]
    have HF : Hid (∀ m, Qt w (w.drewN m) R G xs) := hide (fun m => ⟨G, N, h, q.drewN m, .inl rfl, Tb.of_fresh (below_drewN (Below.refl _ w) m)⟩)
    clear q hi e1 e2
    go_enter Try.func69, Try.ntmps69
    go_wp2_with fail
    refine C.mono ?_
    rintro e w1 ⟨rfl, m, rfl⟩
    go_wp2_with fail
    go_ret2
    exact ⟨rfl, HF.out _⟩

/-- One more thing in a ring that has room. -/
theorem Qu.push {w : World} {R G N h : Nat} {xs : List Int} (q : Qu w R G N h xs) (hn : xs.length < N) (hm : xs.length + 1 < Mx) (x : Int) : Qu ((w.setCell ⟨G, (h + xs.length) % N, none⟩ ((Value.int .i64) x)).setCell ⟨R, 3, none⟩ (.int .i64 ((xs.length : Int) + 1))) R G N h (xs ++ [x]) := by
  obtain ⟨cur, hc, r⟩ := q.ring
  have hne := q.ne
  have e1 : (w.setCell ⟨G, (h + xs.length) % N, none⟩ ((Value.int .i64) x)).heap[R]? = some (.cells (qcs R G N h xs.length) (97 : TypeId) (0, 0)) := by
    rw [Below.heap_setCell w _ _ R (by simpa using hne)]
    exact q.obj
  refine ⟨?_, ⟨cur.set ((h + xs.length) % N) x, ?_, r.push hn x⟩, q.small, by simpa using hm⟩
  · rw [heap_setCell_same _ R 3 _ (97 : TypeId) _ e1, List.length_append]
    simp [qcs]
  · rw [Below.heap_setCell _ _ _ G (by simpa using hne.symm), heap_setCell_same w G _ _ 3 _ hc]
    simp [List.map_set]

/-- What is asked of a call of spot with the line's length. -/
theorem push_spot {w : World} {R G N h : Nat} {xs : List Int} (q : Qu w R G N h xs) (hn : xs.length < N) (hm : xs.length + 1 < Mx) (x : Int) :
    ∃ (K : Nat) (y : Int), K < N ∧ w.cell? ⟨R, 1, none⟩ = some (.slice (some ⟨G, 0, none⟩) N N) ∧ w.cell? ⟨R, 3, none⟩ = some (.int .i64 xs.length) ∧
      (∀ V, Below w.heap.size w V → Calls Try.prog 81 #[.pointer (some ⟨R, 0, none⟩), .int .i64 xs.length] V fun e X => e = .returned (.int .i64 K) ∧ Below w.heap.size w X ∧
        X.cell? ⟨R, 1, none⟩ = some (.slice (some ⟨G, 0, none⟩) N N) ∧ X.cell? ⟨R, 3, none⟩ = some (.int .i64 xs.length) ∧ X.cell? ⟨G, K, none⟩ = some ((Value.int .i64) y) ∧ X.frozen? ⟨G, K, none⟩ = false) ∧
      (∀ X, Below w.heap.size w X → (X.setCell ⟨G, K, none⟩ ((Value.int .i64) x)).cell? ⟨R, 1, none⟩ = some (.slice (some ⟨G, 0, none⟩) N N) ∧ (X.setCell ⟨G, K, none⟩ ((Value.int .i64) x)).cell? ⟨R, 3, none⟩ = some (.int .i64 xs.length) ∧ (X.setCell ⟨G, K, none⟩ ((Value.int .i64) x)).frozen? ⟨R, 3, none⟩ = false ∧
        Qu ((X.setCell ⟨G, K, none⟩ ((Value.int .i64) x)).setCell ⟨R, 3, none⟩ (.int .i64 ((xs.length : Int) + 1))) R G N h (xs ++ [x]) ∧ Tb (fun k => k = R ∨ k = G) w ((X.setCell ⟨G, K, none⟩ ((Value.int .i64) x)).setCell ⟨R, 3, none⟩ (.int .i64 ((xs.length : Int) + 1)))) := by
  have hhd := q.head
  have hne := q.ne
  obtain ⟨y, hy⟩ := q.gany xs.length
  refine ⟨(h + xs.length) % N, y, Nat.mod_lt _ (by omega), q.c 1, q.c 3, fun V hV => ?_, fun X hX => ?_⟩
  · refine (spot_any (q.below hV) xs.length (by omega)).mono ?_
    rintro e X ⟨rfl, m, rfl⟩
    have hb := below_drewN hV m
    exact ⟨rfl, hb, (q.below hb).c 1, (q.below hb).c 3, (hb.cell (cell_lt hy)).trans hy, (q.below hb).gfree _⟩
  · have e1 : (X.setCell ⟨G, (h + xs.length) % N, none⟩ ((Value.int .i64) x)).heap[R]? = some (.cells (qcs R G N h xs.length) (97 : TypeId) (0, 0)) := by
      rw [Below.heap_setCell X _ _ R (by simpa using hne)]
      exact (q.below hX).obj
    exact ⟨cell_of_row _ R 1 _ _ _ e1, cell_of_row _ R 3 _ _ _ e1, frozen_of_row _ R 3 _ _ e1, (q.below hX).push hn hm x, tb_two (tb_two (Tb.of_fresh hX) (Tb.set G _ _ (.inr rfl))) (Tb.set R _ _ (.inl rfl))⟩

set_option maxHeartbeats 2000000 in
theorem push_any {w : World} {R G N h : Nat} {xs : List Int} (q : Qu w R G N h xs) (hm : xs.length + 1 < Mx) (x : Int) :
    Calls Try.prog 94 #[.pointer (some ⟨R, 0, none⟩), (Value.int .i64) x] w fun e w' => e = .returned (.tuple #[]) ∧ Qt w w' R G (xs ++ [x]) := by
  have C := made_yes q
  have c1 : w.cell? ⟨R, 1, none⟩ = some (.slice (some ⟨G, 0, none⟩) N N) := q.c 1
  have c3 : w.cell? ⟨R, 3, none⟩ = some (.int .i64 xs.length) := q.c 3
  have hsm := q.small
  have hle := q.le
  have hm' := hm
  unfold Mx at hsm hm'
  obtain ⟨n, hn⟩ : ∃ n, Hid (n = xs.length) := ⟨_, hide rfl⟩
  by_cases hfull : xs.length = N
  · have HL : Hid (∀ m, Calls Try.prog 72 #[.pointer (some ⟨R, 0, none⟩)] (w.drewN m) fun e w' => ∃ a cap, e = .returned (.slice a xs.length cap) ∧ w'.ownsRow w.heap.size 3 1 (.slice a xs.length cap) xs.length (W xs) ∧ Below w.heap.size w w') := hide (fun m => (list_yes (q.drewN m)).mono (by
      rintro e w' ⟨a, cap, rfl, ho, hb⟩
      exact ⟨a, cap, rfl, ho, (below_drewN (Below.refl _ w) m).trans hb⟩))
    have HR : Hid (∀ (W' : World) (a : Option Addr) (cap : Nat), W'.ownsRow w.heap.size 3 1 (.slice a xs.length cap) xs.length (W xs) → Below w.heap.size w W' → Calls Try.prog 76 #[.pointer (some ⟨R, 0, none⟩), .slice a xs.length cap] W' fun e w' => e = .returned (.tuple #[]) ∧ ∃ G', Qu w' R G' (2 * xs.length + 1) 0 xs ∧ w.heap.size ≤ G' ∧ Tb (fun k => k = R ∨ k = G) w w') := hide (fun W' a cap ho hb => (relay q ho hb).mono (by
      rintro e w' ⟨rfl, q', t⟩
      exact ⟨rfl, _, q', hb.size, t⟩))
    subst hfull
    have hxn : xs.length = n := hn.out.symm
    rw [hxn] at HL HR c1 c3 hsm hle hm'
    clear q
    go_enter Try.func94, Try.ntmps94
    go_wp2_with fail
    refine C.mono ?_
    rintro e w1 ⟨rfl, hw1⟩
    subst w1
    go_wp2_with fail
    go_quiet (fail)
    go_wp2_with fail
    refine (HL.out _).mono ?_
    rintro e W' ⟨a, cap, rfl, ho, hb⟩
    have HW := hide (HR.out W' a cap ho hb)
    clear ho hb HR HL c1 c3 C
    go_wp2_with fail
    refine HW.out.mono ?_
    rintro e w2 ⟨rfl, G2, q2, hg2, t2⟩
    rw [← hxn] at q2
    obtain ⟨N2, hN2⟩ : ∃ N2, Hid (N2 = 2 * xs.length + 1) := ⟨_, hide rfl⟩
    rw [← hN2.out] at q2
    obtain ⟨K, y, hK, c1, c3, HC, KS⟩ := push_spot q2 (by rw [hN2.out]; omega) hm x
    have hsm2 := q2.small
    unfold Mx at hsm2
    rw [hxn] at c3 HC KS
    have HC := hide HC
    have KS := hide KS
    have FIN : Hid (∀ w', Qu w' R G2 N2 0 (xs ++ [x]) → Tb (fun k => k = R ∨ k = G2) w2 w' → Qt w w' R G (xs ++ [x])) := hide (fun w' q' t' => Qt.then q2 (.inr hg2) t2 ⟨_, _, _, q', .inl rfl, t'⟩)
    clear q2 t2 HW hxn
    go_wp2_with fail
    go_region_held3 (fun V => V.cell? ⟨R, 1, none⟩ = some (.slice (some ⟨G2, 0, none⟩) N2 N2) ∧ V.cell? ⟨R, 3, none⟩ = some (.int .i64 n))
      (first | exact ⟨c1, c3⟩ | exact ⟨e1, e2⟩ | exact ⟨(KS.out X hX).1, (KS.out X hX).2.1⟩)
      (first | (go_at_call 81; refine (HC.out _ ?_).mono ?_; (first | exact (Below.refl _ _).drew | assumption); rintro e X ⟨rfl, hX, e1, e2, e3, e4⟩))
    obtain ⟨k1, k3, kf, kq, kt⟩ := KS.out X hX
    have HF := hide (FIN.out _ kq kt)
    clear kq kt KS HC FIN c1 c3 e1 e2 e3 e4 hX
    go_wp2_with fail
    go_end0
    exact ⟨rfl, HF.out⟩
  · have HP : Hid (∀ m, ∃ (K : Nat) (y : Int), K < N ∧ (w.drewN m).cell? ⟨R, 1, none⟩ = some (.slice (some ⟨G, 0, none⟩) N N) ∧ (w.drewN m).cell? ⟨R, 3, none⟩ = some (.int .i64 xs.length) ∧
      (∀ V, Below (w.drewN m).heap.size (w.drewN m) V → Calls Try.prog 81 #[.pointer (some ⟨R, 0, none⟩), .int .i64 xs.length] V fun e X => e = .returned (.int .i64 K) ∧ Below (w.drewN m).heap.size (w.drewN m) X ∧
        X.cell? ⟨R, 1, none⟩ = some (.slice (some ⟨G, 0, none⟩) N N) ∧ X.cell? ⟨R, 3, none⟩ = some (.int .i64 xs.length) ∧ X.cell? ⟨G, K, none⟩ = some ((Value.int .i64) y) ∧ X.frozen? ⟨G, K, none⟩ = false) ∧
      (∀ X, Below (w.drewN m).heap.size (w.drewN m) X → (X.setCell ⟨G, K, none⟩ ((Value.int .i64) x)).cell? ⟨R, 1, none⟩ = some (.slice (some ⟨G, 0, none⟩) N N) ∧ (X.setCell ⟨G, K, none⟩ ((Value.int .i64) x)).cell? ⟨R, 3, none⟩ = some (.int .i64 xs.length) ∧ (X.setCell ⟨G, K, none⟩ ((Value.int .i64) x)).frozen? ⟨R, 3, none⟩ = false ∧
        Qt w ((X.setCell ⟨G, K, none⟩ ((Value.int .i64) x)).setCell ⟨R, 3, none⟩ (.int .i64 ((xs.length : Int) + 1))) R G (xs ++ [x]))) := hide (fun m => by
      obtain ⟨K, y, h1, h2, h3, h4, h5⟩ := push_spot (q.drewN m) (by omega) hm x
      exact ⟨K, y, h1, h2, h3, h4, fun X hX => ⟨(h5 X hX).1, (h5 X hX).2.1, (h5 X hX).2.2.1, _, _, _, (h5 X hX).2.2.2.1, .inl rfl, (Tb.of_fresh (below_drewN (Below.refl _ w) m)).trans (h5 X hX).2.2.2.2 (fun _ _ h => h)⟩⟩)
    have hxn : xs.length = n := hn.out.symm
    rw [hxn] at HP c3 hle hm' hfull
    clear q
    go_enter Try.func94, Try.ntmps94
    go_wp2_with fail
    refine C.mono ?_
    rintro e w1 ⟨rfl, hw1⟩
    subst w1
    go_wp2_with fail
    go_quiet (fail)
    obtain ⟨K, y, hK, d1, d3, HC, KS⟩ := HP.out nq
    have HC := hide HC
    have KS := hide KS
    clear HP c1 c3 C hxn
    generalize w.drewN nq = w2 at *
    go_wp2_with fail
    go_region_held3 (fun V => V.cell? ⟨R, 1, none⟩ = some (.slice (some ⟨G, 0, none⟩) N N) ∧ V.cell? ⟨R, 3, none⟩ = some (.int .i64 n))
      (first | exact ⟨d1, d3⟩ | exact ⟨e1, e2⟩ | exact ⟨(KS.out X hX).1, (KS.out X hX).2.1⟩)
      (first | (go_at_call 81; refine (HC.out _ ?_).mono ?_; (first | exact (Below.refl _ _).drew | assumption); rintro e X ⟨rfl, hX, e1, e2, e3, e4⟩))
    obtain ⟨k1, k3, kf, kq⟩ := KS.out X hX
    have HF := hide kq
    clear kq KS HC d1 d3 e1 e2 e3 e4 hX
    go_wp2_with fail
    go_end0
    exact ⟨rfl, HF.out⟩

theorem push_none {w : World} {p : Option Addr} (C : Calls Try.prog 95 #[.pointer p] w fun e w' => e = .returned (.bool false) ∧ w' = w) (x : Int) :
    Calls Try.prog 94 #[.pointer p, (Value.int .i64) x] w fun e w' => e = .returned (.tuple #[]) ∧ w' = w := by
  go_enter Try.func94, Try.ntmps94
  go_wp2_with fail
  refine C.mono ?_
  rintro e w1 ⟨rfl, rfl⟩
  go_wp2_with fail
  refine bodyPost_ret (results_none rfl _ _ _) rfl ?_
  exact ⟨rfl, rfl⟩

theorem take_none {w : World} {p : Option Addr} (C : Calls Try.prog 95 #[.pointer p] w fun e w' => e = .returned (.bool false) ∧ w' = w) (i : Int) :
    Calls Try.prog 69 #[.pointer p, .int .i64 i] w fun e w' => e = .returned (.tuple #[(Value.int .i64) 0, .bool false]) ∧ w' = w := by
  have C := at_none C i
  go_enter Try.func69, Try.ntmps69
  go_wp2_with fail
  refine C.mono ?_
  rintro e w1 ⟨rfl, rfl⟩
  go_wp2_with fail
  go_ret2
  exact ⟨rfl, rfl⟩

end Go.Proofs.Ytennciddjkijaaa.QI

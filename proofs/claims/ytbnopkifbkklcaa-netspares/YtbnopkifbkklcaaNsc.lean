/-
  NetSpares, its walk.
-/
import Derived.Test.YtbnopkifbkklcaaNsb
namespace Go.Proofs.Ytbnopkifbkklcaa.netSpares
open Go.RowKit Go.Proofs.Ytbnopkifbkklcaa
set_option maxRecDepth 100000

/-- A list of two packets. -/
theorem two_of {w : World} {base : Nat} {v : Value} {ts : List Pt} {b : List Int} (h : Tr w base v ts (n2 b).m) (hd : Dt ts) : ∃ (g c g0 g1 : Nat) (t0 t1 : Pt), v = .slice (some ⟨g, 0, none⟩) 2 c ∧ 2 ≤ c ∧ c ≤ 9223372036854775807 ∧ base ≤ g ∧ (∃ cur, w.heap[g]? = some (.cells cur (31 : TypeId) (0, 0))) ∧
    w.cell? ⟨g, 3, none⟩ = some (.slice t0.a t0.ln t0.cap) ∧ w.cell? ⟨g, 7, none⟩ = some (.slice t1.a t1.ln t1.cap) ∧ t0.Is w base 1 ⟨1, 2, b⟩ ∧ t1.Is w base 2 ⟨1, 2, b⟩ ∧ t0.a = some ⟨g0, 0, none⟩ ∧ t1.a = some ⟨g1, 0, none⟩ ∧ g0 ≠ g1 ∧ base ≤ g0 ∧ base ≤ g1 ∧ g0 < w.heap.size ∧ g1 < w.heap.size := by
  have hl := h.len
  match ts, hl, h, hd with
  | [t0, t1], _, h, hd =>
    have i0 := h.is 0 t0 (1, ⟨1, 2, b⟩) rfl rfl
    have i1 := h.is 1 t1 (2, ⟨1, 2, b⟩) rfl rfl
    obtain ⟨g0, a0, b0, c0⟩ := i0.new
    obtain ⟨g1, a1, b1, c1⟩ := i1.new
    have hne := (List.pairwise_cons.1 hd).1 t1 (by simp) g0 g1 a0 a1
    rcases h.row.2 with ⟨_, h0⟩ | ⟨g, cap, cur, hv, hb, hg, hn, hm, _⟩
    · simp [n2] at h0
    · have hc := h.row.cells (g := g) (by rw [hv]; rfl)
      have c3 := hc 3 _ rfl
      have c7 := hc 7 _ rfl
      rw [Addr.add_mid, Nat.zero_add] at c3 c7
      unfold maxLen at hm
      exact ⟨g, cap, g0, g1, t0, t1, hv, hn, by omega, hb, ⟨cur, hg⟩, c3, c7, i0, i1, a0, a1, hne, b0, b1, heap_lt c0, heap_lt c1⟩

theorem _root_.Go.Proofs.Ytbnopkifbkklcaa.Aq.Om.typ {w : World} {base n : Nat} {v : Value} {xs : List Value} (h : Aq.Om w base v n xs) {b : Nat} (hb : v.ownBlock = some b) : ∃ cur fr, w.heap[b]? = some (.cells cur 5 fr) := by
  rcases h.2 with ⟨rfl, _⟩ | ⟨g, cap, cur, fr, rfl, _, hg, _⟩
  · cases hb
  · simp only [Value.ownBlock, Option.some.injEq] at hb
    subst hb
    exact ⟨cur, fr, hg⟩

theorem _root_.Go.Proofs.Ytbnopkifbkklcaa.Aq.Om.less {w : World} {base base' n : Nat} {v : Value} {xs : List Value} (h : Aq.Om w base v n xs) (hb : base' ≤ base) : Aq.Om w base' v n xs := by
  refine ⟨h.1, h.2.imp id ?_⟩
  rintro ⟨g, cap, cur, fr, h1, h2, h3⟩
  exact ⟨g, cap, cur, fr, h1, by omega, h3⟩

theorem _root_.Go.Proofs.Ytbnopkifbkklcaa.Aq.Om.tb {w w' : World} {S : Nat → Prop} {base n : Nat} {v : Value} {xs : List Value} (h : Aq.Om w base v n xs) (ht : Tb S w w') (hs : ∀ b, v.ownBlock = some b → ¬ S b) : Aq.Om w' base v n xs := by
  refine ⟨h.1, h.2.imp id ?_⟩
  rintro ⟨g, cap, cur, fr, rfl, h2, h3, h4⟩
  exact ⟨g, cap, cur, fr, rfl, h2, (ht.block g (heap_lt h3) (hs g rfl)).trans h3, h4⟩

set_option maxHeartbeats 8000000 in
theorem walk (a : Option Addr) (m cap : Nat) (zs0 : List Int) (w : World) (hB0 : Bs w a m cap zs0) :
    Calls Try.prog 8 #[.slice a m cap] w fun e w' => e = .returned (.bool true) ∧ Below w.heap.size w w' := by
  obtain ⟨L, hL⟩ : ∃ L, Hid (L = min m 3000) := ⟨_, hide rfl⟩
  have hL1 : L ≤ 3000 := by rw [hL.out]; omega
  have hL2 : L ≤ m := by rw [hL.out]; omega
  have hmn : (min (m : Int) 3000).toNat = L := by rw [hL.out]; omega
  obtain ⟨b, hb⟩ : ∃ b, Hid (b = zs0.take L) := ⟨_, hide rfl⟩
  have hB : Bs w a L cap b := by rw [hb.out]; exact hB0.head L hL2
  have hbl := hB.len
  have hc1 := hB0.le
  have hc2 := hB0.reach
  have HBL := hide hbl
  have HBY := hide hB.byte
  have HB := hide hB
  clear hbl
  go_enter Try.func8, Try.ntmps8
  go_wp2_with fail
  refine (copy_any a L cap b w HB.out (by omega)).mono ?_
  rintro e W1 ⟨ia, ic, rfl, hr1, t1⟩
  have HR1 := hide hr1
  have HT1 := hide t1
  clear hr1 t1 hB hB0
  go_wp2_with fail
  refine (an_new W1).mono ?_
  rintro e W2 ⟨R, M, rfl, h2⟩
  have r2 : W2.ownsRow w.heap.size 5 1 (.slice ia L ic) L (U b) := row_tb HR1.out (Tb.of_fresh (S := fun _ => False) h2.bel) (fun _ _ h => h)
  have C3 := an_send (f := 1) (t := 2) h2 (by decide) (i6 (by decide)) (i6 (by decide)) (own_bs r2 HBY.out)
  rw [(send1 b (by rw [HBL.out]; exact hL1)).1, (send1 b (by rw [HBL.out]; exact hL1)).2] at C3
  have hiR : Hid (∀ g, (Value.slice ia L ic).ownBlock = some g → g ≠ R ∧ g ≠ M ∧ g < W1.heap.size) := hide (fun g hg => by
    have := (HR1.out.lt g hg).2
    have := h2.own
    have := h2.mown
    omega)
  have HR2 := hide r2
  clear h2 r2
  go_wp2_with fail
  refine C3.mono ?_
  rintro e W3 ⟨rfl, h3, t3⟩
  have HR3 := hide (row_tb HR2.out t3 (fun g hg h => by have := hiR.out g hg; omega))
  have C4 := an_double (k := 1) h3 (show (1 : Int) < _ by decide) (i6 (by decide))
  rw [(dbl1 b).1, (dbl1 b).2] at C4
  clear C3 HR2 h3 t3
  go_wp2_with fail
  refine C4.mono ?_
  rintro e W4 ⟨rfl, h4, t4⟩
  have HR4 := hide (row_tb HR3.out t4 (fun g hg h => by have := hiR.out g hg; omega))
  have HH4 := hide h4
  clear C4 HR3 h4 t4
  go_wp2_with fail
  refine (list_apart HH4.out.net).mono ?_
  rintro e W5 ⟨v5, ts5, rfl, tr5, b5, d5⟩
  obtain ⟨g5, c5, x0, x1, p0, p1, rfl, hc5, hc5', hg5, ⟨cur5, hrow5⟩, e53, e57, is0, is1, ea0, ea1, hx01, hx0, hx1, hx0l, hx1l⟩ := two_of tr5 d5
  have HH5 := hide (HH4.out.fresh b5)
  have HB5 := hide b5
  clear tr5 d5 b5
  go_wp2_with fail
  refine (list_apart HH5.out.net).mono ?_
  rintro e W6 ⟨v6, ts6, rfl, tr6, b6, d6⟩
  obtain ⟨g6, c6, x2, x3, p2, p3, rfl, hc6, hc6', hg6, ⟨cur6, hrow6⟩, e63, e67, is2, is3, ea2, ea3, hx23, hx2, hx3, hx2l, hx3l⟩ := two_of tr6 d6
  have HH6 := hide (HH5.out.fresh b6)
  have HB6 := hide b6
  clear tr6 d6 b6
  have f53 : W6.cell? ⟨g5, 3, none⟩ = some (.slice p0.a p0.ln p0.cap) := (HB6.out.cell (cell_lt e53)).trans e53
  have f57 : W6.cell? ⟨g5, 7, none⟩ = some (.slice p1.a p1.ln p1.cap) := (HB6.out.cell (cell_lt e57)).trans e57
  have hrow5' := (HB6.out.block g5 (heap_lt hrow5)).trans hrow5
  have s45 := HB5.out.size
  have s56 := HB6.out.size
  have s01 := HT1.out.size
  have s14 := HH4.out.bel.size
  have o0 : Aq.Om W6 w.heap.size (.slice p0.a p0.ln p0.cap) p0.ln _ := (is0.om.tb (Tb.of_fresh (S := fun _ => False) HB6.out) (fun _ _ h => h)).less (by omega)
  have o1 : Aq.Om W6 w.heap.size (.slice p1.a p1.ln p1.cap) p1.ln _ := (is1.om.tb (Tb.of_fresh (S := fun _ => False) HB6.out) (fun _ _ h => h)).less (by omega)
  have o2 : Aq.Om W6 w.heap.size (.slice p2.a p2.ln p2.cap) p2.ln _ := is2.om.less (by omega)
  have o3 : Aq.Om W6 w.heap.size (.slice p3.a p3.ln p3.cap) p3.ln _ := is3.om.less (by omega)
  have b46 := HB5.out.trans (HB6.out.mono s45)
  have o4 : Aq.Om W6 w.heap.size (.slice ia L ic) L _ := (Aq.Om.of_own HR4.out).tb (Tb.of_fresh (S := fun _ => False) b46) (fun _ _ h => h)
  have l0 := is0.bd.len
  have l1 := is1.bd.len
  have l2 := is2.bd.len
  have l3 := is3.bd.len
  have hbl := HBL.out
  simp only at l0 l1 l2 l3
  have CA : Hid (∀ V, Below W6.heap.size W6 V → Calls Try.prog 30 #[.slice (some ⟨V.heap.size, 0, none⟩) 5 5] (V.alloc (.cells #[.slice p0.a p0.ln p0.cap, .slice p1.a p1.ln p1.cap, .slice p2.a p2.ln p2.cap, .slice p3.a p3.ln p3.cap, .slice ia L ic] (27 : TypeId))) fun e X => e = .returned (.bool true) ∧ An w R M (n2 b) X ∧
      X.cell? ⟨g5, 3, none⟩ = some (.slice p0.a p0.ln p0.cap) ∧ X.cell? ⟨g5, 7, none⟩ = some (.slice p1.a p1.ln p1.cap) ∧ X.cell? ⟨g6, 3, none⟩ = some (.slice p2.a p2.ln p2.cap) ∧ X.cell? ⟨g6, 7, none⟩ = some (.slice p3.a p3.ln p3.cap)) := hide (fun V hV => by
    have tV : Tb (fun _ => False) W6 V := Tb.of_fresh hV
    have q0 := o0.tb tV (fun _ _ h => h)
    have q1 := o1.tb tV (fun _ _ h => h)
    have q2 := o2.tb tV (fun _ _ h => h)
    have q3 := o3.tb tV (fun _ _ h => h)
    have q4 := o4.tb tV (fun _ _ h => h)
    have sV := hV.size
    have b0 : (Value.slice p0.a p0.ln p0.cap).ownBlock = some x0 := by rw [ea0]; rfl
    have b1 : (Value.slice p1.a p1.ln p1.cap).ownBlock = some x1 := by rw [ea1]; rfl
    have b2 : (Value.slice p2.a p2.ln p2.cap).ownBlock = some x2 := by rw [ea2]; rfl
    have b3 : (Value.slice p3.a p3.ln p3.cap).ownBlock = some x3 := by rw [ea3]; rfl
    have hin : ∀ g, (Value.slice ia L ic).ownBlock = some g → g < W4.heap.size := fun g hg => by have := (hiR.out g hg).2.2; omega
    refine (apart5 (V := V) w.heap.size (by omega) rfl q0 q1 q2 q3 q4 (by omega) ?_).mono ?_
    · intro i j hi hj hij
      have key : ∀ i, i < 5 → ∀ g, ([.slice p0.a p0.ln p0.cap, .slice p1.a p1.ln p1.cap, .slice p2.a p2.ln p2.cap, .slice p3.a p3.ln p3.cap, .slice ia L ic].getD i undef : Value).ownBlock = some g → (i = 0 ∧ g = x0) ∨ (i = 1 ∧ g = x1) ∨ (i = 2 ∧ g = x2) ∨ (i = 3 ∧ g = x3) ∨ (i = 4 ∧ g < W4.heap.size) := by
        intro i hi g hg
        match i, hi, hg with
        | 0, _, hg => exact .inl ⟨rfl, by have hg : (Value.slice p0.a p0.ln p0.cap).ownBlock = some g := hg; rw [b0] at hg; simpa using hg.symm⟩
        | 1, _, hg => exact .inr (.inl ⟨rfl, by have hg : (Value.slice p1.a p1.ln p1.cap).ownBlock = some g := hg; rw [b1] at hg; simpa using hg.symm⟩)
        | 2, _, hg => exact .inr (.inr (.inl ⟨rfl, by have hg : (Value.slice p2.a p2.ln p2.cap).ownBlock = some g := hg; rw [b2] at hg; simpa using hg.symm⟩))
        | 3, _, hg => exact .inr (.inr (.inr (.inl ⟨rfl, by have hg : (Value.slice p3.a p3.ln p3.cap).ownBlock = some g := hg; rw [b3] at hg; simpa using hg.symm⟩)))
        | 4, _, hg => exact .inr (.inr (.inr (.inr ⟨rfl, hin g hg⟩)))
      cases hgi : ([.slice p0.a p0.ln p0.cap, .slice p1.a p1.ln p1.cap, .slice p2.a p2.ln p2.cap, .slice p3.a p3.ln p3.cap, .slice ia L ic].getD i undef : Value).ownBlock with
      | none => exact .inl rfl
      | some g =>
        refine .inr (fun e => ?_)
        have k1 := key i hi g hgi
        have k2 := key j hj g e.symm
        omega
    · rintro e X ⟨rfl, tX, bX⟩
      have hno : ∀ g cur t fr, V.heap[g]? = some (.cells cur t fr) → t ≠ 5 → ¬ (g = V.heap.size ∨ ∃ k, k < 5 ∧ ([.slice p0.a p0.ln p0.cap, .slice p1.a p1.ln p1.cap, .slice p2.a p2.ln p2.cap, .slice p3.a p3.ln p3.cap, .slice ia L ic].getD k undef : Value).ownBlock = some g) := by
        rintro g cur t fr hg ht (h | ⟨k, hk, h⟩)
        · have := heap_lt hg
          omega
        · have : ∃ cur fr, V.heap[g]? = some (.cells cur 5 fr) := by
            match k, hk, h with
            | 0, _, h => exact q0.typ h
            | 1, _, h => exact q1.typ h
            | 2, _, h => exact q2.typ h
            | 3, _, h => exact q3.typ h
            | 4, _, h => exact q4.typ h
          obtain ⟨c', f', h'⟩ := this
          rw [hg] at h'
          simp only [Option.some.injEq, Obj.cells.injEq] at h'
          exact ht h'.2.1
      have nV := HH6.out.net.below hV
      have hMno : ¬ (M = V.heap.size ∨ ∃ k, k < 5 ∧ ([.slice p0.a p0.ln p0.cap, .slice p1.a p1.ln p1.cap, .slice p2.a p2.ln p2.cap, .slice p3.a p3.ln p3.cap, .slice ia L ic].getD k undef : Value).ownBlock = some M) := by
        rintro (h | ⟨k, hk, h⟩)
        · have := nV.mlt
          omega
        · have : ∃ cur fr, V.heap[M]? = some (.cells cur 5 fr) := by
            match k, hk, h with
            | 0, _, h => exact q0.typ h
            | 1, _, h => exact q1.typ h
            | 2, _, h => exact q2.typ h
            | 3, _, h => exact q3.typ h
            | 4, _, h => exact q4.typ h
          obtain ⟨c', f', h'⟩ := this
          obtain ⟨D, hD, _⟩ := nV.map
          obtain ⟨es, clock, hb', _⟩ := hD.own
          rw [hb'] at h'
          cases h'
      have nX : Nw X R M (n2 b) := nV.tb tX (hno R _ _ _ nV.obj (by decide)) hMno
      have g5V := (hV.block g5 (heap_lt hrow5')).trans hrow5'
      have g6V := (hV.block g6 (heap_lt hrow6)).trans hrow6
      have n5 := hno g5 _ _ _ g5V (by decide)
      have n6 := hno g6 _ _ _ g6V (by decide)
      have bwV : Below w.heap.size w V := ((HT1.out.trans (HH6.out.bel.mono s01)).trans (hV.mono (by omega)))
      exact ⟨rfl, ⟨nX, bwV.trans bX, by have := HH6.out.own; omega, by have := HH6.out.mown; omega⟩, tX.cell ((hV.cell (cell_lt f53)).trans f53) n5, tX.cell ((hV.cell (cell_lt f57)).trans f57) n5, tX.cell ((hV.cell (cell_lt e63)).trans e63) n6, tX.cell ((hV.cell (cell_lt e67)).trans e67) n6⟩)
  clear is0 is1 is2 is3 o0 o1 o2 o3 o4 ea0 ea1 ea2 ea3 hx01 hx23 hx0 hx1 hx2 hx3 hx0l hx1l hx2l hx3l hrow5 hrow5' hrow6 e53 e57 l0 l1 l2 l3 b46 hg5 hg6 HR4 hiR
  have KA : Hid (∀ o : Obj, (W6.alloc o).cell? ⟨g5, 3, none⟩ = some (.slice p0.a p0.ln p0.cap) ∧ (W6.alloc o).cell? ⟨g5, 7, none⟩ = some (.slice p1.a p1.ln p1.cap) ∧ (W6.alloc o).cell? ⟨g6, 3, none⟩ = some (.slice p2.a p2.ln p2.cap) ∧ (W6.alloc o).cell? ⟨g6, 7, none⟩ = some (.slice p3.a p3.ln p3.cap)) := hide (fun o => by
    have hb' : Below W6.heap.size W6 (W6.alloc o) := (Below.refl _ W6).alloc (Nat.le_refl _) o
    exact ⟨(hb'.cell (cell_lt f53)).trans f53, (hb'.cell (cell_lt f57)).trans f57, (hb'.cell (cell_lt e63)).trans e63, (hb'.cell (cell_lt e67)).trans e67⟩)
  go_wp2_with fail
  go_region_held3 (fun V => V.cell? ⟨g5, 3, none⟩ = some (.slice p0.a p0.ln p0.cap) ∧ V.cell? ⟨g5, 7, none⟩ = some (.slice p1.a p1.ln p1.cap) ∧ V.cell? ⟨g6, 3, none⟩ = some (.slice p2.a p2.ln p2.cap) ∧ V.cell? ⟨g6, 7, none⟩ = some (.slice p3.a p3.ln p3.cap))
    (first | exact ⟨f53, f57, e63, e67⟩ | exact KA.out _ | exact ⟨y1, y2, y3, y4⟩)
    (first | (go_at_call 30; refine (CA.out W6.drew ?_).mono ?_; exact (Below.refl _ _).drew; rintro e X7 ⟨rfl, h7, y1, y2, y3, y4⟩))
  have C8 := an_deliver (k := 1) h7 (i6 (by decide)) (lk1 b)
  rw [drop1] at C8
  have hsw7 := h7.bel.size
  clear KA CA y1 y2 y3 y4 f53 f57 e63 e67 HH4 HH5 HH6 HB5 HB6 h7 s45 s56 s14
  go_wp2_with fail
  refine C8.mono ?_
  rintro e X8 ⟨t8, rfl, is8, h8, tb8⟩
  obtain ⟨Y8, hY8⟩ : ∃ Y8, Hid (Y8 = X8.alloc (.cells #[.int .i64 1, .int .i64 1, .int .i64 2, .slice t8.a t8.ln t8.cap] (31 : TypeId))) := ⟨_, hide rfl⟩
  have bY8 : Below X8.heap.size X8 Y8 := by rw [hY8.out]; exact (Below.refl _ X8).alloc (Nat.le_refl _) _
  have hP8 : Y8.heap[X8.heap.size]? = some (.cells #[.int .i64 1, .int .i64 1, .int .i64 2, .slice t8.a t8.ln t8.cap] (31 : TypeId) (0, 0)) := by rw [hY8.out]; exact heap_alloc_new X8 _
  have s8 : Y8.heap.size = X8.heap.size + 1 := by rw [hY8.out]; simp
  have C9 := an_deliver (k := 2) (h8.fresh bY8) (i6 (by decide)) (lk2 b)
  have HI8 := hide is8
  have HH8 := hide h8
  have hs78 := tb8.size
  obtain ⟨z8, ez8, hz8, hh8⟩ := is8.new
  have hz8l := heap_lt hh8
  have hz8w : w.heap.size ≤ z8 := by have := h8.bel.size; omega
  have hz8d : z8 ≠ R ∧ z8 ≠ M := by
    have h1 := h8.net.obj
    obtain ⟨D, hD, _⟩ := h8.net.map
    obtain ⟨es, clock, hb', _⟩ := hD.own
    constructor
    · rintro rfl
      rw [hh8] at h1
      simp only [Option.some.injEq, Obj.cells.injEq] at h1
      exact absurd h1.2.1 (by decide)
    · rintro rfl
      rw [hh8] at hb'
      cases hb'
  have hPd : X8.heap.size ≠ R ∧ X8.heap.size ≠ M := by
    have := h8.net.lt
    have := h8.net.mlt
    omega
  have HZ8 := hide ez8
  clear C8 is8 h8 tb8 ez8 hh8
  go_wp2_with fail
  rw [← hY8.out]
  refine C9.mono ?_
  rintro e X9 ⟨t9, rfl, is9, h9, tb9⟩
  obtain ⟨Y9, hY9⟩ : ∃ Y9, Hid (Y9 = X9.alloc (.cells #[.int .i64 2, .int .i64 1, .int .i64 2, .slice t9.a t9.ln t9.cap] (31 : TypeId))) := ⟨_, hide rfl⟩
  have bY9 : Below X9.heap.size X9 Y9 := by rw [hY9.out]; exact (Below.refl _ X9).alloc (Nat.le_refl _) _
  have hP9 : Y9.heap[X9.heap.size]? = some (.cells #[.int .i64 2, .int .i64 1, .int .i64 2, .slice t9.a t9.ln t9.cap] (31 : TypeId) (0, 0)) := by rw [hY9.out]; exact heap_alloc_new X9 _
  have t89 : Tb (fun k => k = R ∨ k = M) Y8 Y9 := tb9.trans (Tb.of_fresh (S := fun _ => False) bY9) (fun _ _ h => h.elim)
  have s89 := t89.size
  have hP8' := (t89.block X8.heap.size (by omega) (fun h => by omega)).trans hP8
  have i8 : t8.Is Y9 X7.heap.size 1 ⟨1, 2, b⟩ := HI8.out.heap (fun g e1 _ hlt => by
    have hgz : g = z8 := by rw [HZ8.out] at e1; simpa using e1.symm
    rw [hgz] at hlt ⊢
    exact (t89.block z8 (by omega) (fun h => by omega)).trans (bY8.block z8 hlt))
  have i9 : t9.Is Y9 Y8.heap.size 2 ⟨1, 2, b⟩ := is9.heap (fun g _ _ hlt => bY9.block g hlt)
  have c83 : Y9.cell? ⟨X8.heap.size, 3, none⟩ = some (.slice t8.a t8.ln t8.cap) := cell_of_row Y9 _ 3 _ _ _ hP8'
  have c93 : Y9.cell? ⟨X9.heap.size, 3, none⟩ = some (.slice t9.a t9.ln t9.cap) := cell_of_row Y9 _ 3 _ _ _ hP9
  have bw9 : Below w.heap.size w Y9 := h9.bel.trans (bY9.mono h9.bel.size)
  have CS8 := same_true rfl i8.bd (HB.out.keep bw9)
  have CS9 := same_true rfl i9.bd (HB.out.keep bw9)
  have sw9 := bw9.size
  obtain ⟨z9, ez9, hz9, hh9⟩ := i9.new
  have CA2 : Hid (Calls Try.prog 30 #[.slice (some ⟨Y9.heap.size, 0, none⟩) 2 2] (Y9.alloc (.cells #[.slice t8.a t8.ln t8.cap, .slice t9.a t9.ln t9.cap] (27 : TypeId))) fun e X => e = .returned (.bool true) ∧ Below w.heap.size w X) := hide (by
    have l8 := i8.bd.len
    have l9 := i9.bd.len
    simp only at l8 l9
    have b8 : (Value.slice t8.a t8.ln t8.cap).ownBlock = some z8 := by rw [HZ8.out]; rfl
    have b9 : (Value.slice t9.a t9.ln t9.cap).ownBlock = some z9 := by rw [ez9]; rfl
    refine (apart2 (V := Y9) w.heap.size (by omega) rfl (i8.om.less (by omega)) (i9.om.less (by omega)) (by omega) (.inr ?_) (.inr ?_)).mono ?_
    · rw [b8, b9]
      simp only [ne_eq, Option.some.injEq]
      omega
    · rw [b8, b9]
      simp only [ne_eq, Option.some.injEq]
      omega
    · rintro e X ⟨rfl, hX⟩
      exact ⟨rfl, bw9.trans hX⟩)
  have HY9 := hY9
  clear C9 is9 h9 tb9 i8 i9 ez9 hh9 hP8' hP9 hP8 bY8 bY9 t89 HI8 HH8 hY9
  have c83l := c83
  rw [HY9.out] at c83l
  go_wp2_with fail
  rw [← HY9.out]
  clear c83l
  refine CS8.mono ?_
  rintro e V1 ⟨rfl, hV1⟩
  subst V1
  go_wp2_with fail
  refine CS9.mono ?_
  rintro e V1 ⟨rfl, hV1⟩
  subst V1
  go_wp2_with fail
  refine CA2.out.mono ?_
  rintro e X10 ⟨rfl, hX10⟩
  go_wp2_with fail
  refine (awake_any X10).mono ?_
  rintro e X11 ⟨rfl, hX11⟩
  go_wp2_with fail
  go_ret
  exact ⟨rfl, hX10.trans (hX11.mono hX10.size)⟩

end Go.Proofs.Ytbnopkifbkklcaa.netSpares

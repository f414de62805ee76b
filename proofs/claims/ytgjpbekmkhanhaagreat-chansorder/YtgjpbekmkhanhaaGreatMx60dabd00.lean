/-
  Texts put into one.
-/
import Derived.Test.YtgjpbekmkhanhaaGreatMx2fdd7107

/-
  A channel: a value is sent, received, now.
-/
namespace Go.Proofs.YtgjpbekmkhanhaaGreat.CH
open Go.RowKit QW
set_option maxRecDepth 100000

/-- A waiter laid in a new row. -/
theorem box_put (w : World) (x : Wv) : ∃ A6 B6, Hid (A6 = w.alloc (.cells #[.pointer none, .int .i64 0, .nilFunc] (141 : TypeId))) ∧ Hid (w.heap.size = B6) ∧ ((A6.cell? ⟨B6, 0, none⟩ = some (.pointer none) ∧ A6.cell? ⟨B6, 1, none⟩ = some (.int .i64 0) ∧ A6.cell? ⟨B6, 2, none⟩ = some .nilFunc) ∧ A6.frozen? ⟨B6, 0, none⟩ = false ∧ A6.frozen? ⟨B6, 1, none⟩ = false ∧ A6.frozen? ⟨B6, 2, none⟩ = false) ∧ ((p3 A6 B6 x).cell? ⟨B6, 0, none⟩ = some (.pointer x.tk) ∧ (p3 A6 B6 x).cell? ⟨B6, 1, none⟩ = some (.int .i64 x.val) ∧ (p3 A6 B6 x).cell? ⟨B6, 2, none⟩ = some x.told) ∧ Hid (Below w.heap.size w (p3 A6 B6 x)) ∧ Hid (Bx3 (p3 A6 B6 x) B6 x) := by
  obtain ⟨A6, hA6, hB6, b6⟩ := box_zero w
  exact ⟨A6, _, hA6, hide rfl, ⟨hB6.cs, hB6.fs⟩, (hB6.put x).cs, hide (((b6.setCell (Nat.le_refl _) _).setCell (Nat.le_refl _) _).setCell (Nat.le_refl _) _), hide (hB6.put x)⟩

section
variable {w : World} {A : Nat → Bool} {z : Zc} {m : Nat} {s : Cs} {D : Nat → Prop} {v : Int}

theorem Ch.rnext (h : Ch w A z m s D) : Calls Tryz.prog 125 #[.pointer (some ⟨z.RL, 0, none⟩)] w fun e w' => e = .returned (.tuple #[.agg #[.pointer (nx1 s.rcv).tk, .int .i64 (nx1 s.rcv).val, (nx1 s.rcv).told], .bool (!s.rcv.isEmpty)]) ∧ ∃ D', Ch w' A z m { s with rcv := s.rcv.tail } D' ∧ Lx w D w' D' := by
  obtain ⟨BG, DS, DR, c, hd⟩ := h
  refine (next_any c.rl).mono ?_
  rintro e w' ⟨rfl, D', l, x⟩
  exact ⟨rfl, _, (c.rline (Nat.le_refl _) l x).ch, lx_of hd x.rof⟩
theorem Ch.snext (h : Ch w A z m s D) : Calls Tryz.prog 125 #[.pointer (some ⟨z.SL, 0, none⟩)] w fun e w' => e = .returned (.tuple #[.agg #[.pointer (nx1 s.snd).tk, .int .i64 (nx1 s.snd).val, (nx1 s.snd).told], .bool (!s.snd.isEmpty)]) ∧ ∃ D', Ch w' A z m { s with snd := s.snd.tail } D' ∧ Lx w D w' D' := by
  obtain ⟨BG, DS, DR, c, hd⟩ := h
  refine (next_any c.sl).mono ?_
  rintro e w' ⟨rfl, D', l, x⟩
  exact ⟨rfl, _, (c.sline (Nat.le_refl _) l x).ch, lx_of hd x.sof⟩
theorem Ch.bpush (h : Ch w A z m s D) (hb : s.buf.length < 200) (v : Int) : Calls Tryz.prog 126 #[.pointer (some ⟨z.BR, 0, none⟩), .int .i64 v] w fun e w' => e = .returned (.tuple #[]) ∧ ∃ D', Ch w' A z m { s with buf := s.buf ++ [v] } D' ∧ Lx w D w' D' := by
  obtain ⟨BG, DS, DR, c, hd⟩ := h
  obtain ⟨N, hh, q⟩ := c.bq
  refine (QI.push_any q (by unfold QI.Mx; omega) v).mono ?_
  rintro e w' ⟨rfl, hq⟩
  obtain ⟨BG', c', t, hg⟩ := c.buff hq (by simp; omega)
  exact ⟨rfl, _, c'.ch, lx_of hd (bof t hg)⟩
theorem Ch.bpop (h : Ch w A z m s D) : Calls Tryz.prog 134 #[.pointer (some ⟨z.BR, 0, none⟩)] w fun e w' => e = .returned (.tuple #[.int .i64 (s.buf.headD 0), .bool (!s.buf.isEmpty)]) ∧ ∃ D', Ch w' A z m { s with buf := s.buf.tail } D' ∧ Lx w D w' D' := by
  obtain ⟨BG, DS, DR, c, hd⟩ := h
  obtain ⟨N, hh, q⟩ := c.bq
  refine (QI.pop_any q).mono ?_
  rintro e w' ⟨rfl, hq⟩
  obtain ⟨BG', c', t, hg⟩ := c.buff hq (by have := c.bf; simp; omega)
  exact ⟨rfl, _, c'.ch, lx_of hd (bof t hg)⟩

theorem sendNow_closed (h : Ch w A z m s D) (hc : s.cl = true) :
    Calls Tryz.prog 71 #[.pointer (some ⟨z.C, 0, none⟩), .int .i64 v] w fun e w' => e = .returned (.bool false) ∧ w' = w := by
  obtain ⟨_, _, c3, _, _, _⟩ := h.cs
  rw [hc] at c3
  clear h
  go_enter Tryz.func71, Tryz.ntmps71
  go_wp2_with fail
  go_ret
  exact ⟨rfl, rfl⟩

set_option maxHeartbeats 2000000 in
theorem sendNow_buf (h : Ch w A z m s D) (hc : s.cl = false) (hr : s.rcv = []) (hb : s.buf.length < 200) :
    Calls Tryz.prog 71 #[.pointer (some ⟨z.C, 0, none⟩), .int .i64 v] w fun e w' => e = .returned (.bool true) ∧ ∃ D', Ch w' A z m { s with buf := s.buf ++ [v] } D' ∧ Lx w D w' D' := by
  obtain ⟨_, _, c3, c4, _, c6⟩ := h.cs
  rw [hc] at c3
  have CN := h.rnext
  rw [hr] at CN
  have STEP : Hid (∀ w2 D2, Ch w2 A z m { s with rcv := [] } D2 → Lx w D w2 D2 → ∃ A6 B6, Hid (A6 = w2.alloc (.cells #[.pointer none, .int .i64 0, .nilFunc] (141 : TypeId))) ∧ Hid (w2.heap.size = B6) ∧ ((A6.cell? ⟨B6, 0, none⟩ = some (.pointer none) ∧ A6.cell? ⟨B6, 1, none⟩ = some (.int .i64 0) ∧ A6.cell? ⟨B6, 2, none⟩ = some .nilFunc) ∧ A6.frozen? ⟨B6, 0, none⟩ = false ∧ A6.frozen? ⟨B6, 1, none⟩ = false ∧ A6.frozen? ⟨B6, 2, none⟩ = false) ∧ (p3 A6 B6 wz).cell? ⟨z.C, 4, none⟩ = some (.pointer (some ⟨z.BR, 0, none⟩)) ∧ Calls Tryz.prog 126 #[.pointer (some ⟨z.BR, 0, none⟩), .int .i64 v] (p3 A6 B6 wz) fun e w' => e = .returned (.tuple #[]) ∧ Hid (∃ D', Ch w' A z m { s with buf := s.buf ++ [v] } D' ∧ Lx w D w' D')) := hide (fun w2 D2 h2 x2 => by
    obtain ⟨A6, B6, hA6, hB6, e1, e2, b7, _⟩ := box_put w2 wz
    have h3 := h2.below b7.out
    refine ⟨A6, B6, hA6, hB6, e1, h3.cs.2.2.2.1, (h3.bpush hb v).mono ?_⟩
    rintro e w' ⟨rfl, D', h4, x4⟩
    have : ({ s with buf := s.buf ++ [v], rcv := [] } : Cs) = { s with buf := s.buf ++ [v] } := by rw [← hr]
    simp only at h4
    rw [this] at h4
    exact ⟨rfl, hide ⟨D', h4, (x2.trans (Lx.fresh D2 b7.out)).trans x4⟩⟩)
  unfold p3 wz at STEP
  clear h
  go_enter Tryz.func71, Tryz.ntmps71
  go_wp2_with fail
  refine CN.mono ?_
  rintro e w2 ⟨rfl, D2, h2, x2⟩
  obtain ⟨A6, B6, hA6, hB6, ⟨⟨a0, a1, a2⟩, f0, f1, f2⟩, d4, CP⟩ := STEP.out w2 D2 h2 x2
  unfold nx1 wz
  clear STEP CN h2 x2
  go_wp2_with (rw [← hA6.out, hB6.out])
  refine CP.mono ?_
  rintro e w3 ⟨rfl, FIN⟩
  go_wp2_with fail
  go_ret
  exact ⟨rfl, FIN.out⟩

set_option maxHeartbeats 2000000 in
theorem sendNow_serve (h : Ch w A z m s D) (hc : s.cl = false) {y : Wv} {r : List Wv} (hr : s.rcv = y :: r) {Ψ : World → Prop}
    (H : ∀ V D', Ch V A z m { s with rcv := r } D' → Lx w D V D' → Calls Tryz.prog 82 #[.agg #[.pointer y.tk, .int .i64 y.val, y.told], .int .i64 v, .bool true] V fun e w' => e = .returned (.tuple #[]) ∧ Ψ w') :
    Calls Tryz.prog 71 #[.pointer (some ⟨z.C, 0, none⟩), .int .i64 v] w fun e w' => e = .returned (.bool true) ∧ Ψ w' := by
  obtain ⟨_, _, c3, c4, _, c6⟩ := h.cs
  rw [hc] at c3
  have CN := h.rnext
  rw [hr] at CN
  simp only [nx1, List.headD_cons, List.isEmpty_cons, Bool.not_false, List.tail_cons] at CN
  have STEP : Hid (∀ w2 D2, Ch w2 A z m { s with rcv := r } D2 → Lx w D w2 D2 → ∃ A6 B6, Hid (A6 = w2.alloc (.cells #[.pointer none, .int .i64 0, .nilFunc] (141 : TypeId))) ∧ Hid (w2.heap.size = B6) ∧ ((A6.cell? ⟨B6, 0, none⟩ = some (.pointer none) ∧ A6.cell? ⟨B6, 1, none⟩ = some (.int .i64 0) ∧ A6.cell? ⟨B6, 2, none⟩ = some .nilFunc) ∧ A6.frozen? ⟨B6, 0, none⟩ = false ∧ A6.frozen? ⟨B6, 1, none⟩ = false ∧ A6.frozen? ⟨B6, 2, none⟩ = false) ∧ ((p3 A6 B6 y).cell? ⟨B6, 0, none⟩ = some (.pointer y.tk) ∧ (p3 A6 B6 y).cell? ⟨B6, 1, none⟩ = some (.int .i64 y.val) ∧ (p3 A6 B6 y).cell? ⟨B6, 2, none⟩ = some y.told) ∧ Calls Tryz.prog 82 #[.agg #[.pointer y.tk, .int .i64 y.val, y.told], .int .i64 v, .bool true] (p3 A6 B6 y) fun e w' => e = .returned (.tuple #[]) ∧ Ψ w') := hide (fun w2 D2 h2 x2 => by
    obtain ⟨A6, B6, hA6, hB6, e1, e2, b7, _⟩ := box_put w2 y
    have h3 := h2.below b7.out
    exact ⟨A6, B6, hA6, hB6, e1, e2, H _ D2 h3 (x2.trans (Lx.fresh D2 b7.out))⟩)
  have HST : ∀ (W : World) (a : Addr) (m : Mode), (store a y.told m).run Tryz.prog W = stored Tryz.prog W a y.told m := fun W a m => run_store Tryz.prog W a _ m y.one
  unfold p3 at STEP
  clear h H hr
  go_enter Tryz.func71, Tryz.ntmps71
  go_wp2_with fail
  refine CN.mono ?_
  rintro e w2 ⟨rfl, D2, h2, x2⟩
  obtain ⟨A6, B6, hA6, hB6, ⟨⟨a0, a1, a2⟩, f0, f1, f2⟩, ⟨k0, k1, k2⟩, CP⟩ := STEP.out w2 D2 h2 x2
  clear STEP CN h2 x2
  go_wp2_with (rw [← hA6.out, hB6.out])
  refine CP.mono ?_
  rintro e w3 ⟨rfl, FIN⟩
  have FIN := hide FIN
  clear CP a0 a1 a2 f0 f1 f2 k0 k1 k2
  go_wp2_with fail
  go_ret
  exact ⟨rfl, FIN.out⟩
end

end Go.Proofs.YtgjpbekmkhanhaaGreat.CH

/-
  A channel: what can be received is received, now; what is tried.
-/
namespace Go.Proofs.YtgjpbekmkhanhaaGreat.CH
open Go.RowKit QW
set_option maxRecDepth 100000

section
variable {w : World} {A : Nat → Bool} {z : Zc} {m : Nat} {s : Cs} {D : Nat → Prop} {v : Int}

set_option maxHeartbeats 2000000 in
theorem recvNow_buf (h : Ch w A z m s D) (hr : s.snd = []) :
    Calls Tryz.prog 77 #[.pointer (some ⟨z.C, 0, none⟩)] w fun e w' => e = .returned (.tuple #[.int .i64 (s.buf.headD 0), .bool (!s.buf.isEmpty)]) ∧ ∃ D', Ch w' A z m { s with buf := s.buf.tail } D' ∧ Lx w D w' D' := by
  obtain ⟨_, _, _, c4, c5, _⟩ := h.cs
  have CN := h.snext
  rw [hr] at CN
  have STEP : Hid (∀ w2 D2, Ch w2 A z m { s with snd := [] } D2 → Lx w D w2 D2 → ∃ A6 B6, Hid (A6 = w2.alloc (.cells #[.pointer none, .int .i64 0, .nilFunc] (141 : TypeId))) ∧ Hid (w2.heap.size = B6) ∧ ((A6.cell? ⟨B6, 0, none⟩ = some (.pointer none) ∧ A6.cell? ⟨B6, 1, none⟩ = some (.int .i64 0) ∧ A6.cell? ⟨B6, 2, none⟩ = some .nilFunc) ∧ A6.frozen? ⟨B6, 0, none⟩ = false ∧ A6.frozen? ⟨B6, 1, none⟩ = false ∧ A6.frozen? ⟨B6, 2, none⟩ = false) ∧ (p3 A6 B6 wz).cell? ⟨z.C, 4, none⟩ = some (.pointer (some ⟨z.BR, 0, none⟩)) ∧ Calls Tryz.prog 134 #[.pointer (some ⟨z.BR, 0, none⟩)] (p3 A6 B6 wz) fun e w' => e = .returned (.tuple #[.int .i64 (s.buf.headD 0), .bool (!s.buf.isEmpty)]) ∧ Hid (∃ D', Ch w' A z m { s with buf := s.buf.tail } D' ∧ Lx w D w' D')) := hide (fun w2 D2 h2 x2 => by
    obtain ⟨A6, B6, hA6, hB6, e1, e2, b7, _⟩ := box_put w2 wz
    have h3 := h2.below b7.out
    refine ⟨A6, B6, hA6, hB6, e1, h3.cs.2.2.2.1, (h3.bpop).mono ?_⟩
    rintro e w' ⟨rfl, D', h4, x4⟩
    have : ({ s with buf := s.buf.tail, snd := [] } : Cs) = { s with buf := s.buf.tail } := by rw [← hr]
    simp only at h4
    rw [this] at h4
    exact ⟨rfl, hide ⟨D', h4, (x2.trans (Lx.fresh D2 b7.out)).trans x4⟩⟩)
  unfold p3 wz at STEP
  generalize s.buf.headD 0 = x0 at *
  generalize (!s.buf.isEmpty) = o0 at *
  clear h
  go_enter Tryz.func77, Tryz.ntmps77
  go_wp2_with fail
  refine CN.mono ?_
  rintro e w2 ⟨rfl, D2, h2, x2⟩
  obtain ⟨A6, B6, hA6, hB6, ⟨⟨a0, a1, a2⟩, f0, f1, f2⟩, d4, CP⟩ := STEP.out w2 D2 h2 x2
  unfold nx1 wz
  clear STEP CN h2 x2
  go_wp2_with (rw [← hA6.out, hB6.out])
  refine CP.mono ?_
  rintro e w3 ⟨rfl, FIN⟩
  go_wp2_with fail
  go_ret2
  exact ⟨rfl, FIN.out⟩

set_option maxHeartbeats 4000000 in
theorem recvNow_serve (h : Ch w A z m s D) {y : Wv} {r : List Wv} (hr : s.snd = y :: r) (hb : s.buf.length < 200) {Ψ : World → Prop}
    (H : ∀ V D', Ch V A z m { s with buf := (s.buf ++ [y.val]).tail, snd := r } D' → Lx w D V D' → Calls Tryz.prog 82 #[.agg #[.pointer y.tk, .int .i64 y.val, y.told], .int .i64 y.val, .bool true] V fun e w' => e = .returned (.tuple #[]) ∧ Ψ w') :
    Calls Tryz.prog 77 #[.pointer (some ⟨z.C, 0, none⟩)] w fun e w' => e = .returned (.tuple #[.int .i64 ((s.buf ++ [y.val]).headD 0), .bool true]) ∧ Ψ w' := by
  obtain ⟨_, _, _, c4, c5, _⟩ := h.cs
  have CN := h.snext
  rw [hr] at CN
  simp only [nx1, List.headD_cons, List.isEmpty_cons, Bool.not_false, List.tail_cons] at CN
  have STEP : Hid (∀ w2 D2, Ch w2 A z m { s with snd := r } D2 → Lx w D w2 D2 → ∃ A6 B6, Hid (A6 = w2.alloc (.cells #[.pointer none, .int .i64 0, .nilFunc] (141 : TypeId))) ∧ Hid (w2.heap.size = B6) ∧ ((A6.cell? ⟨B6, 0, none⟩ = some (.pointer none) ∧ A6.cell? ⟨B6, 1, none⟩ = some (.int .i64 0) ∧ A6.cell? ⟨B6, 2, none⟩ = some .nilFunc) ∧ A6.frozen? ⟨B6, 0, none⟩ = false ∧ A6.frozen? ⟨B6, 1, none⟩ = false ∧ A6.frozen? ⟨B6, 2, none⟩ = false) ∧ ((p3 A6 B6 y).cell? ⟨B6, 0, none⟩ = some (.pointer y.tk) ∧ (p3 A6 B6 y).cell? ⟨B6, 1, none⟩ = some (.int .i64 y.val) ∧ (p3 A6 B6 y).cell? ⟨B6, 2, none⟩ = some y.told ∧ (p3 A6 B6 y).cell? ⟨z.C, 4, none⟩ = some (.pointer (some ⟨z.BR, 0, none⟩))) ∧
      ∀ V, Below (p3 A6 B6 y).heap.size (p3 A6 B6 y) V → Calls Tryz.prog 126 #[.pointer (some ⟨z.BR, 0, none⟩), .int .i64 y.val] V fun e w3 => e = .returned (.tuple #[]) ∧ (w3.cell? ⟨z.C, 4, none⟩ = some (.pointer (some ⟨z.BR, 0, none⟩)) ∧ w3.cell? ⟨B6, 1, none⟩ = some (.int .i64 y.val)) ∧ Hid (Calls Tryz.prog 134 #[.pointer (some ⟨z.BR, 0, none⟩)] w3 fun e w4 => e = .returned (.tuple #[.int .i64 ((s.buf ++ [y.val]).headD 0), .bool true]) ∧ (w4.cell? ⟨B6, 0, none⟩ = some (.pointer y.tk) ∧ w4.cell? ⟨B6, 1, none⟩ = some (.int .i64 y.val) ∧ w4.cell? ⟨B6, 2, none⟩ = some y.told) ∧
      Hid (Calls Tryz.prog 82 #[.agg #[.pointer y.tk, .int .i64 y.val, y.told], .int .i64 y.val, .bool true] w4 fun e w' => e = .returned (.tuple #[]) ∧ Ψ w'))) := hide (fun w2 D2 h2 x2 => by
    obtain ⟨A6, B6, hA6, hB6, e1, e2, b7, bx⟩ := box_put w2 y
    have h3 := h2.below b7.out
    refine ⟨A6, B6, hA6, hB6, e1, ⟨e2.1, e2.2.1, e2.2.2, h3.cs.2.2.2.1⟩, fun V hV => ?_⟩
    have h4 := h3.below hV
    have bx4 := bx.out.below hV
    have hBD : ∀ {D' : Nat → Prop}, (∀ k, D' k → D2 k ∨ (p3 A6 B6 y).heap.size ≤ k) → ¬ D' B6 := fun hd e => by
      have hlt := bx.out.lt
      rcases hd _ e with h | h
      · have := h2.lt h
        rw [hB6.out] at this
        omega
      · omega
    refine (h4.bpush hb y.val).mono ?_
    rintro e w3 ⟨rfl, D3, h5, x5⟩
    have bx5 := bx4.tb x5.tb (hBD (D' := D2) (fun k hk => .inl hk))
    refine ⟨rfl, ⟨h5.cs.2.2.2.1, bx5.cs.2.1⟩, hide ?_⟩
    have CP := h5.bpop
    have hne : (!(s.buf ++ [y.val]).isEmpty) = true := by simp
    simp only [hne] at CP
    refine CP.mono ?_
    rintro e w4 ⟨rfl, D4, h6, x6⟩
    have hVs := hV.size
    have bx6 := bx5.tb x6.tb (hBD (D' := D3) (fun k hk => (x5.dom k hk).imp id (fun h => by omega)))
    exact ⟨rfl, bx6.cs, hide (H w4 D4 h6 (((x2.trans (Lx.fresh D2 (b7.out.trans (hV.mono b7.out.size)))).trans x5).trans x6))⟩)
  have HST : ∀ (W : World) (a : Addr) (m : Mode), (store a y.told m).run Tryz.prog W = stored Tryz.prog W a y.told m := fun W a m => run_store Tryz.prog W a _ m y.one
  unfold p3 at STEP
  generalize (s.buf ++ [y.val]).headD 0 = x0 at *
  clear h H hr hb
  go_enter Tryz.func77, Tryz.ntmps77
  go_wp2_with fail
  refine CN.mono ?_
  rintro e w2 ⟨rfl, D2, h2, x2⟩
  obtain ⟨A6, B6, hA6, hB6, ⟨⟨a0, a1, a2⟩, f0, f1, f2⟩, ⟨k0, k1, k2, k4⟩, CP⟩ := STEP.out w2 D2 h2 x2
  have CP := hide CP
  clear STEP CN h2 x2
  go_wp2_with (rw [← hA6.out, hB6.out])
  clear a0 a1 a2 f0 f1 f2
  generalize ((A6.setCell ⟨B6, 0, none⟩ (.pointer y.tk)).setCell ⟨B6, 1, none⟩ (.int .i64 y.val)).setCell ⟨B6, 2, none⟩ y.told = W6 at *
  go_region_held3 (fun V => V.cell? ⟨z.C, 4, none⟩ = some (.pointer (some ⟨z.BR, 0, none⟩)) ∧ V.cell? ⟨B6, 1, none⟩ = some (.int .i64 y.val))
    (first | exact ⟨k4, k1⟩ | exact e1)
    (first | (go_at_call 126; refine (CP.out _ ?_).mono ?_; (first | exact (Below.refl _ _).drew | assumption); rintro e W7 ⟨rfl, e1, CPO⟩))
  all_goals
    clear CP
    have e4 := e1.1
    go_wp2_with fail
    refine CPO.out.mono ?_
    rintro e w4 ⟨rfl, ⟨g0, g1, g2⟩, CS⟩
    clear CPO e4
    go_wp2_with fail
    refine CS.out.mono ?_
    rintro e w5 ⟨rfl, FIN⟩
    have FIN := hide FIN
    clear CS
    go_wp2_with fail
    go_ret2
    exact ⟨rfl, FIN.out⟩
end

end Go.Proofs.YtgjpbekmkhanhaaGreat.CH

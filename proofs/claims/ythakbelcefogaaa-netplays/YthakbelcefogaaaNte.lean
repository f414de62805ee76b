/-
  A net of one's own; the chapter's example.
-/
import Derived.Test.YthakbelcefogaaaNtd
import Derived.Lib.SlBytesConst
namespace Go.Proofs.Ythakbelcefogaaa
open Go.RowKit
set_option maxRecDepth 100000

/-- A net of one's own: what was there in w has not turned. -/
structure An (w : World) (R M : Nat) (n : Nt) (W : World) : Prop where
  net : Nw W R M n
  bel : Below w.heap.size w W
  own : w.heap.size ≤ R
  mown : w.heap.size ≤ M

section
variable {w W X : World} {R M : Nat} {n : Nt}
theorem An.fresh (h : An w R M n W) (hb : Below W.heap.size W X) : An w R M n X := ⟨h.net.below hb, h.bel.trans (hb.mono h.bel.size), h.own, h.mown⟩
theorem An.alloc (h : An w R M n W) (o : Obj) : An w R M n (W.alloc o) := h.fresh ((Below.refl _ W).alloc (Nat.le_refl _) o)
theorem An.turn {n' : Nt} (h : An w R M n W) (hn : Nw X R M n') (ht : Tb (fun k => k = R ∨ k = M) W X) : An w R M n' X :=
  ⟨hn, h.bel.trans ⟨ht.os, ht.tape, ht.output, ht.size, fun i hi => ht.block i (Nat.lt_of_lt_of_le hi h.bel.size) (fun e => by have := h.own; have := h.mown; omega)⟩, h.own, h.mown⟩

theorem an_new (w : World) : Calls Try.prog 9 #[] w fun e W => ∃ R M, e = .returned (.pointer (some ⟨R, 0, none⟩)) ∧ An w R M newNt W := by
  refine (new_any w).mono ?_
  rintro e W ⟨R, M, rfl, h1, h2, h3, h4⟩
  exact ⟨R, M, rfl, h3, h4, h1, h2⟩

theorem an_send {f t : Int} {a : Option Addr} {m cap : Nat} {b : List Int} (h : An w R M n W) (hl : n.last < 9223372036854775807) (hf : I6 f) (ht : I6 t) (hB : Bs W a m cap b) :
    Calls Try.prog 10 #[.pointer (some ⟨R, 0, none⟩), .int .i64 f, .int .i64 t, .slice a m cap] W fun e X => e = .returned (.tuple #[.int .i64 (n.sendA b).1, .int .i64 (n.sendA b).2]) ∧ An w R M (n.sendN f t b) X ∧ Tb (fun k => k = R ∨ k = M) W X := by
  refine (send_any h.net hl hf ht hB).mono ?_
  rintro e X ⟨rfl, h1, h2⟩
  exact ⟨rfl, h.turn h1 h2, h2⟩

theorem an_double {k : Int} (h : An w R M n W) (hl : n.last < 9223372036854775807) (hk : I6 k) :
    Calls Try.prog 11 #[.pointer (some ⟨R, 0, none⟩), .int .i64 k] W fun e X => e = .returned (.tuple #[.int .i64 (n.dblA k).1, .int .i64 (n.dblA k).2]) ∧ An w R M (n.dblN k) X ∧ Tb (fun k => k = R ∨ k = M) W X := by
  refine (double_any h.net hl hk).mono ?_
  rintro e X ⟨rfl, h1, h2⟩
  exact ⟨rfl, h.turn h1 h2, h2⟩

theorem an_drop {k : Int} (h : An w R M n W) (hk : I6 k) :
    Calls Try.prog 12 #[.pointer (some ⟨R, 0, none⟩), .int .i64 k] W fun e X => e = .returned (.int .i64 (n.findE k)) ∧ An w R M (n.drpN k) X ∧ Tb (fun k => k = R ∨ k = M) W X := by
  refine (drop_any h.net hk).mono ?_
  rintro e X ⟨rfl, h1, h2⟩
  exact ⟨rfl, h.turn h1 h2, h2⟩

theorem an_deliver_no {k : Int} (h : An w R M n W) (hk : I6 k) (hf : lk n.m k = none) :
    Calls Try.prog 13 #[.pointer (some ⟨R, 0, none⟩), .int .i64 k] W fun e X => e = .returned (.tuple #[.agg #[.int .i64 0, .int .i64 0, .int .i64 0, .slice none 0 0], .int .i64 100]) ∧ An w R M n X ∧ Below W.heap.size W X := by
  refine (deliver_no h.net hk hf).mono ?_
  rintro e X ⟨rfl, h1⟩
  exact ⟨rfl, h.fresh h1, h1⟩

theorem an_deliver {k : Int} {p : Pk} (h : An w R M n W) (hk : I6 k) (hf : lk n.m k = some p) :
    Calls Try.prog 13 #[.pointer (some ⟨R, 0, none⟩), .int .i64 k] W fun e X => ∃ t : Pt, e = .returned (.tuple #[.agg #[.int .i64 k, .int .i64 p.fr, .int .i64 p.to, .slice t.a t.ln t.cap], .int .i64 0]) ∧ t.Is X W.heap.size k p ∧ An w R M (n.drop k) X ∧ Tb (fun k => k = R ∨ k = M) W X := by
  refine (deliver_yes h.net hk hf).mono ?_
  rintro e X ⟨t, rfl, h1, h2, h3⟩
  refine ⟨t, ?_, h1, h.turn h2 h3, h3⟩
  rw [← h1.no, ← h1.fr, ← h1.to]
  rfl

theorem an_list (h : An w R M n W) :
    Calls Try.prog 14 #[.pointer (some ⟨R, 0, none⟩)] W fun e X => ∃ v ts, e = .returned v ∧ Tr X W.heap.size v ts n.m ∧ An w R M n X ∧ Below W.heap.size W X := by
  refine (list_any h.net).mono ?_
  rintro e X ⟨v, ts, rfl, h1, h2⟩
  exact ⟨v, ts, rfl, h1, h.fresh h2, h2⟩
end

theorem Tr.val {w : World} {base : Nat} {v : Value} {ts : List Pt} {l : List (Int × Pk)} (h : Tr w base v ts l) : ∃ a c, v = .slice a l.length c ∧ l.length ≤ c ∧ c ≤ 9223372036854775807 := by
  rcases h.row.2 with ⟨rfl, h0⟩ | ⟨g, cap, cur, rfl, _, _, hn, hm, _⟩
  · exact ⟨none, 0, by rw [h0], by omega, by omega⟩
  · unfold maxLen at hm
    exact ⟨some ⟨g, 0, none⟩, cap, rfl, hn, by omega⟩

/-- What stands at a place of a list of packets. -/
theorem Tr.at {w : World} {base : Nat} {v : Value} {ts : List Pt} {l : List (Int × Pk)} (h : Tr w base v ts l) (i : Nat) (hi : i < l.length) : ∃ (g cap : Nat) (t : Pt), v = .slice (some ⟨g, 0, none⟩) l.length cap ∧ base ≤ g ∧ g < w.heap.size ∧ l.length ≤ cap ∧ cap ≤ 9223372036854775807 ∧ t.Is w base l[i].1 l[i].2 ∧
    w.cell? ⟨g, i * 4, none⟩ = some (.int .i64 l[i].1) ∧ w.cell? ⟨g, i * 4 + 1, none⟩ = some (.int .i64 l[i].2.fr) ∧ w.cell? ⟨g, i * 4 + 2, none⟩ = some (.int .i64 l[i].2.to) ∧ w.cell? ⟨g, i * 4 + 3, none⟩ = some (.slice t.a t.ln t.cap) := by
  rcases h.row.2 with ⟨_, h0⟩ | ⟨g, cap, cur, hv, hb, hg, hn, hm, _⟩
  · omega
  · have hc := h.row.cells (g := g) (by rw [hv]; rfl)
    have hti : i < ts.length := by rw [h.len]; exact hi
    have his := h.is i ts[i] l[i] (List.getElem?_eq_getElem hti) (List.getElem?_eq_getElem hi)
    have hat : ∀ j, j < 4 → ∀ u, (ts[i].cells)[j]? = some u → w.cell? ⟨g, i * 4 + j, none⟩ = some u := by
      intro j hj u hu
      have e1 : (ts.flatMap Pt.cells)[i * 4 + j]? = some u := by
        have : ∀ (l : List Pt) (i : Nat) (hi : i < l.length), (l.flatMap Pt.cells)[i * 4 + j]? = (l[i].cells)[j]? := by
          intro l
          induction l with
          | nil => intro i hi; simp at hi
          | cons t l ih =>
            intro i hi
            rw [List.flatMap_cons]
            cases i with
            | zero => rw [List.getElem?_append_left (by simp [Pt.cells]; omega)]; simp
            | succ i =>
              rw [List.getElem?_append_right (by simp [Pt.cells]; omega)]
              have e : (i + 1) * 4 + j - t.cells.length = i * 4 + j := by simp [Pt.cells]; omega
              rw [e, ih i (by simpa using hi)]
              simp
        rw [this ts i hti]
        exact hu
      have := hc _ u e1
      rw [Addr.add_mid, Nat.zero_add] at this
      exact this
    refine ⟨g, cap, ts[i], hv, hb, heap_lt hg, hn, by unfold maxLen at hm; omega, his, ?_, ?_, ?_, ?_⟩
    · have := hat 0 (by omega) _ rfl; rw [his.no] at this; exact this
    · have := hat 1 (by omega) _ rfl; rw [his.fr] at this; exact this
    · have := hat 2 (by omega) _ rfl; rw [his.to] at this; exact this
    · exact hat 3 (by omega) _ rfl

/-- A text written out as bytes, as a slice. -/
theorem row_mark (w : World) (g : Nat) (hg : w.heap.size = g) (l : List Int) (n : Nat) (fz : Nat × Nat) (hn : l.length = n) (h2 : n ≤ 1000) (hb : ∀ z ∈ l, 0 ≤ z ∧ z ≤ 255) : Bs (w.alloc (.cells (U l).toArray 5 fz)) (some ⟨g, 0, none⟩) n n l := by
  subst hg
  refine ⟨hn, Nat.le_refl _, by omega, hb, fun h => (by cases h), fun _ => ⟨w.heap.size, 0, rfl, fun i hi => ?_⟩⟩
  rw [cell_of_row _ w.heap.size (0 + i) (U l).toArray 5 fz (heap_alloc_new w _)]
  have h2 : i < l.length := by omega
  simp [U, List.getD, List.getElem?_eq_getElem h2]

theorem i6 {x : Int} (h : -9223372036854775808 ≤ x ∧ x ≤ 9223372036854775807) : I6 x := h

def aw1 : Nt := ⟨[(1, ⟨1, 2, [97]⟩)], 1⟩
def aw2 : Nt := ⟨[(1, ⟨1, 2, [97]⟩), (2, ⟨2, 1, [98]⟩)], 2⟩
def aw3 : Nt := ⟨[(1, ⟨1, 2, [97]⟩), (2, ⟨2, 1, [98]⟩), (3, ⟨1, 2, [97]⟩)], 3⟩
def aw4 : Nt := ⟨[(1, ⟨1, 2, [97]⟩), (2, ⟨2, 1, [98]⟩)], 3⟩
def aw5 : Nt := ⟨[(2, ⟨2, 1, [98]⟩)], 3⟩

set_option maxHeartbeats 4000000 in
theorem awake_any (w : World) : Calls Try.prog 15 #[] w fun e w' => e = .returned (.bool true) ∧ Below w.heap.size w w' := by
  have kc := fun (w : World) (C : Array Value) (n c : Nat) => Lib.run_convert_bytes_const (P := Try.prog) w (27 : TypeId) 5 C n c Try.underlying27 Try.underlying5
  go_enter Try.func15, Try.ntmps15
  go_wp2_with fail
  refine (an_new w).mono ?_
  rintro e W1 ⟨R, M, rfl, h1⟩
  go_wp2_with fail
  refine (an_send (h1.alloc (.cells (U [97]).toArray 5 (1, 2))) (by decide) (i6 (by decide)) (i6 (by decide)) (row_mark W1 _ rfl [97] 1 (1, 2) rfl (by decide) (by decide))).mono ?_
  rintro e W2 ⟨rfl, h2, _⟩
  rw [show newNt.sendA [97] = (1, 0) from rfl]
  rw [show newNt.sendN 1 2 [97] = aw1 from rfl] at h2
  clear h1
  go_wp2_with fail
  refine (an_send (h2.alloc (.cells (U [98]).toArray 5 (1, 2))) (by decide) (i6 (by decide)) (i6 (by decide)) (row_mark W2 _ rfl [98] 1 (1, 2) rfl (by decide) (by decide))).mono ?_
  rintro e W3 ⟨rfl, h3, _⟩
  rw [show aw1.sendA [98] = (2, 0) from rfl]
  rw [show aw1.sendN 2 1 [98] = aw2 from rfl] at h3
  clear h2
  go_wp2_with fail
  refine (an_double h3 (by decide) (i6 (by decide))).mono ?_
  rintro e W4 ⟨rfl, h4, _⟩
  rw [show aw2.dblA 1 = (3, 0) from rfl]
  rw [show aw2.dblN 1 = aw3 from rfl] at h4
  clear h3
  go_wp2_with fail
  refine (an_deliver h4 (k := 3) (p := ⟨1, 2, [97]⟩) (i6 (by decide)) rfl).mono ?_
  rintro e W5 ⟨t, rfl, ht5, h5, _⟩
  rw [show aw3.drop 3 = aw4 from rfl] at h5
  have hR4 := h4.net.lt
  have hM4 := h4.net.mlt
  clear h4
  go_wp2_with fail
  have hB5 := ht5.bd
  obtain ⟨g5, e5, n5, f5⟩ := ht5.new
  have hR5 := h5.net.lt
  have hM5 := h5.net.mlt
  have hg5 : g5 < W5.heap.size := heap_lt f5
  have hV5 := heap_alloc_new W5 (Obj.cells #[.int .i64 3, .int .i64 1, .int .i64 2, .slice t.a t.ln t.cap] (31 : TypeId))
  have hVb : ∀ g, g < W5.heap.size → (W5.alloc (Obj.cells #[.int .i64 3, .int .i64 1, .int .i64 2, .slice t.a t.ln t.cap] (31 : TypeId))).heap[g]? = W5.heap[g]? := fun g hg => Below.heap_alloc _ _ _ hg
  have hVs : (W5.alloc (Obj.cells #[.int .i64 3, .int .i64 1, .int .i64 2, .slice t.a t.ln t.cap] (31 : TypeId))).heap.size = W5.heap.size + 1 := by simp
  have h5a := h5.alloc (Obj.cells #[.int .i64 3, .int .i64 1, .int .i64 2, .slice t.a t.ln t.cap] (31 : TypeId))
  have KEEP : Hid (∀ Z, Tb (fun k => k = R ∨ k = M) (W5.alloc (Obj.cells #[.int .i64 3, .int .i64 1, .int .i64 2, .slice t.a t.ln t.cap] (31 : TypeId))) Z → Z.heap[W5.heap.size]? = some (Obj.cells #[.int .i64 3, .int .i64 1, .int .i64 2, .slice t.a t.ln t.cap] (31 : TypeId) (0, 0)) ∧ Bs Z t.a t.ln t.cap [97]) := hide (fun Z hZ => by
    refine ⟨(hZ.block _ (by omega) (fun e => by omega)).trans hV5, hB5.heap (fun ad e => ?_)⟩
    rw [e5] at e
    cases e
    show Z.heap[g5]? = W5.heap[g5]?
    exact (hZ.block _ (by omega) (fun e => by omega)).trans (hVb _ hg5))
  clear hB5 f5 hV5 hVb hVs ht5 h5
  refine (an_deliver_no h5a (k := 3) (i6 (by decide)) rfl).mono ?_
  rintro e W6 ⟨rfl, h6, b6⟩
  have t6 := Tb.of_fresh (S := fun k => k = R ∨ k = M) b6
  clear h5a b6
  go_wp2_with fail
  refine (an_drop (h6.alloc (Obj.cells #[.int .i64 0, .int .i64 0, .int .i64 0, .slice none 0 0] (31 : TypeId))) (k := 1) (i6 (by decide))).mono ?_
  rintro e W7 ⟨rfl, h7, t7⟩
  have t67 := (t6.alloc (Obj.cells #[.int .i64 0, .int .i64 0, .int .i64 0, .slice none 0 0] (31 : TypeId))).trans t7 (fun _ _ h => h)
  rw [show aw4.findE 1 = 0 from rfl]
  rw [show aw4.drpN 1 = aw5 from rfl] at h7
  clear h6 t6 t7
  go_wp2_with fail
  refine (an_list h7).mono ?_
  rintro e W8 ⟨v, ts, rfl, hT, h8, b8⟩
  have t8 := t67.trans (Tb.of_fresh (S := fun k => k = R ∨ k = M) b8) (fun _ _ h => h)
  obtain ⟨k1, k2⟩ := KEEP.out W8 t8
  obtain ⟨g, cap, u, rfl, _, _, a4, a5, _, x0, _⟩ := hT.at 0 (by decide)
  have hlen : aw5.m.length = 1 := rfl
  rw [hlen] at a4 ⊢
  have x0' : W8.cell? ⟨g, 0, none⟩ = some (.int .i64 2) := x0
  have y0 := cell_of_row W8 W5.heap.size 0 _ (31 : TypeId) (0, 0) k1
  have y1 := cell_of_row W8 W5.heap.size 1 _ (31 : TypeId) (0, 0) k1
  have y2 := cell_of_row W8 W5.heap.size 2 _ (31 : TypeId) (0, 0) k1
  have y3 := cell_of_row W8 W5.heap.size 3 _ (31 : TypeId) (0, 0) k1
  simp only [List.getElem?_toArray, List.getElem?_cons_succ, List.getElem?_cons_zero] at y0 y1 y2 y3
  have hcv : (convert (27 : TypeId) 9 (.slice t.a t.ln t.cap)).run Try.prog W8 = .ok (.string ⟨#[97]⟩) W8 := run_str (27 : TypeId) 5 Try.underlying27 Try.underlying5 k2 9 Try.underlying9
  have FIN := hide h8.bel
  clear x0 k1 k2 t8 t67 hT h8 b8 h7 KEEP hR4 hM4 hR5 hM5 hg5 n5 hlen e5 kc
  go_wp2_with fail
  go_ret
  exact ⟨rfl, FIN.out⟩

end Go.Proofs.Ythakbelcefogaaa

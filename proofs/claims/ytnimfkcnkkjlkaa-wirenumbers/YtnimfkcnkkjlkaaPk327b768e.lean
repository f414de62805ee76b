/-
  Texts put into one.
-/
import Derived.Test.YtnimfkcnkkjlkaaPke73b9e83
import Derived.Test.YtnimfkcnkkjlkaaPkcd932d5b
import Derived.Lib.AppendZerosOnto

/-
  Answers that are fixed.
-/
namespace Go.Proofs.Ytnimfkcnkkjlkaa
open Go.RowKit
set_option maxRecDepth 100000

theorem lit_part : Cod.thing Cod.part 1 ⟨2, ⟨0, 0, 0, []⟩, 5⟩ = [1, 4, 0, 0, 0, 0, 10] := by decide +kernel
theorem lit_raft : Cod.thing Cod.raft 7 ⟨sb ⟨#[]⟩, 0, 0, 0, 0, 0, 0, 0, 0, false, [], []⟩ = 7 :: List.replicate 12 0 := by decide +kernel
theorem got_part : Cod.got Cod.part 1 60000 [1, 4, 0, 0, 0, 0, 10] = some ⟨2, ⟨0, 0, 0, []⟩, 5⟩ := by
  refine (Cod.got_iff Cod.part_law (fun z hz => ?_) _).2 ⟨?_, by decide, lit_part.symm⟩
  · simp only [List.mem_cons, List.not_mem_nil, or_false] at hz
    omega
  · simp only [Cod.part, Cod.iso, Cod.via, Cod.pair, Cod.batch, Cod.u8, Cod.i64, Cod.num, Cod.list, List.length_nil, List.not_mem_nil, false_implies, implies_true, and_true]
    omega

/-- A slice that an append of noughts made. -/
theorem run_seven (w : World) (g : Nat) (hg : w.heap[g]? = some (.cells #[.int .u8 7] 5 (0, 0))) : ∃ d W, (Builtin.append_ #[22, 3] 22 #[.slice (some ⟨g, 0, none⟩) 1 1, .int .i64 12]).run Try.prog w = .ok (.slice (some ⟨w.heap.size, 0, none⟩) 13 d) W ∧ Bs W (some ⟨w.heap.size, 0, none⟩) 13 d (7 :: List.replicate 12 0) ∧ Below w.heap.size w W := by
  obtain ⟨i0, hi, hz0, hz1, hz2⟩ := info_parts info5
  have hold : (Builtin.firstCells i0.size 1 (.slice (some ⟨g, 0, none⟩) 1 1)).run Try.prog w.drew = .ok [Value.int .u8 7].toArray w.drew := by
    have hc : w.cell? ⟨g, 0, none⟩ = some (.int .u8 7) := by rw [cell_of_row w g 0 _ 5 (0, 0) hg]; rfl
    rw [hz1]
    simp [Builtin.firstCells, loadCells, loadCellsFrom, Addr.add_lit, hc]
  have hr := Lib.run_append_grow_zeros (P := Try.prog) w 22 3 22 5 i0 (.int .u8 0) .i64 .i64 Try.underlying22 Try.underlying3 hi hz0 (some ⟨g, 0, none⟩) 1 1 [.int .u8 7] hold 12 (by omega) (by omega) (by omega) (by omega) (by rw [hz2]; omega) (by
    rw [hz2]
    have := next_le (need := 1 + 12) (old := 1) (by omega)
    omega)
  have hge := grownCap_ge w (1 + 12) 1 5
  have hcm2 : grownCap w (1 + 12) 1 5 ≤ maxLen := grownCap_le_maxLen w (1 + 12) 1 5 (by unfold maxLen; omega)
  refine ⟨_, _, hr, ?_, ((Below.refl _ w).drew).alloc (Nat.le_refl _) _⟩
  have hh := heap_alloc_new w.drew (.cells ([Value.int .u8 7].toArray ++ Builtin.zeroCells (Value.int .u8 0).cells 12 ++ Builtin.zeroCells (Value.int .u8 0).cells (grownCap w (1 + 12) 1 5 - (1 + 12))) 5)
  refine Bs.own (cur := ([Value.int .u8 7].toArray ++ Builtin.zeroCells (Value.int .u8 0).cells 12 ++ Builtin.zeroCells (Value.int .u8 0).cells (grownCap w (1 + 12) 1 5 - (1 + 12))).toList) (t := 5) (by rw [Array.toArray_toList]; exact hh) ?_ (by simp) (by omega) (by unfold maxLen at hcm2; omega) (fun z hz => ?_) ?_
  · have hz1 : (Value.int IntKind.u8 0).cells.size = 1 := rfl
    simp only [Array.length_toList, Array.size_append, List.size_toArray, size_zeroCells, hz1, List.length_singleton]
    omega
  · simp only [List.mem_cons, List.mem_replicate] at hz
    omega
  · simp [Builtin.zeroCells]
    rfl

theorem wpList_run_wanted {P : Program} (w : World) {ops : Array Oper} {rest : List Oper} {o : Oper} {a : Act} {Q : Exit → Act → World → Prop} (hgd : Region.wanted o (yielded ops a.tmps) = true) (s x : Operand) (t tn : TypeId)
    (ho : o.op = .call { callee := .builtin .append, args := #[s, x], argTypes := #[t, tn] }) (vs vx : Value) (hs : a.eval s = vs) (hx : a.eval x = vx)
    (v' : Value) (w' : World) (hr : (Builtin.append_ #[t, tn] o.type #[vs, vx]).run P w = .ok v' w') (h : wpList P ops Q rest (a.put o.dst v') w') : wpList P ops Q (o :: rest) a w := by
  refine wpList_step fun K hK => ?_
  rw [if_pos hgd]
  exact Lib.wp_append_run w s x t tn ho vs vx hs hx v' w' hr (hK _ _ h)

theorem Pq.ok {w w' : World} {most : Nat} {zs : List Int} {e : Ending} (h : Pq w most zs e w') (hl : zs.length ≤ most) (hb : ∀ z ∈ zs, 0 ≤ z ∧ z ≤ 255) (m : Nat) (hm : zs.length = m) : ∃ c d, e = .returned (.tuple #[.slice c m d, .int .i64 0]) ∧ Bs w' c m d zs ∧ Below w.heap.size w w' := by
  subst hm
  rcases h.2 with ⟨_, c, d, h1, h2⟩ | ⟨h1, _⟩
  · exact ⟨c, d, h1, own_bs h2 hb, h.1⟩
  · omega

theorem bytes_part : ∀ z ∈ ([1, 4, 0, 0, 0, 0, 10] : List Int), 0 ≤ z ∧ z ≤ 255 := by decide
theorem bytes_raft : ∀ z ∈ (7 :: List.replicate 12 0 : List Int), 0 ≤ z ∧ z ≤ 255 := by decide

/-- What the fixed part command is read as. -/
theorem part_cells {w : World} {k p e f : Int} {a : Option Addr} {m d : Nat} {o : Int} (h : LPartC w ⟨2, ⟨0, 0, 0, []⟩, 5⟩ [.int .u8 k, .int .i64 p, .int .i64 e, .int .i64 f, .slice a m d, .int .i64 o]) : k = 2 ∧ o = 5 := by
  obtain ⟨c, r, e1, ⟨h1, _⟩, c2, r2, e2, ⟨c3, r3, e3, ⟨h3, _⟩, c4, r4, e4, ⟨h4, _⟩, c5, r5, e5, ⟨h5, _⟩, ⟨a', m', d', h6, _⟩⟩, ⟨h7, _⟩⟩ := h
  subst h1 h3 h4 h5 h6 h7 e5 e4 e3 e2
  simp at e1
  exact ⟨e1.1, e1.2.2.2.2.2⟩

set_option maxHeartbeats 2000000 in
theorem awake_any (w : World) : Calls Try.prog 12 #[] w fun e w' => e = .returned (.bool true) ∧ Below w.heap.size w w' := by
  have i0 : I64 0 := ⟨by omega, by omega⟩
  have i5 : I64 5 := ⟨by omega, by omega⟩
  have u0 : U8 0 := ⟨by omega, by omega⟩
  have u2 : U8 2 := ⟨by omega, by omega⟩
  have HP := hide (fun w => putPart_any (w := w) 2 u2 0 i0 0 i0 0 i0 none 0 0 [] (Sq.nil _ _ _) 5 i5)
  have HQ := hide (fun w => putRaft_any (w := w) ⟨#[]⟩ (by decide) 0 u0 0 i0 0 i0 0 i0 0 i0 0 i0 0 i0 0 i0 false none 0 0 [] (Sq.nil _ _ _) none 0 0 [] (Bs.nil _))
  go_enter Try.func12, Try.ntmps12
  go_wp2_with fail
  refine (HP.out w).mono ?_
  intro e w1 hp
  rw [lit_part] at hp
  obtain ⟨c1, d1, rfl, hB1, hb1⟩ := hp.ok (by decide) bytes_part 7 rfl
  clear hp
  go_wp2_with fail
  refine (getPart_any c1 hB1).mono ?_
  rintro e w2 ⟨hb2, hm⟩
  rw [got_part] at hm
  obtain ⟨zk, zp, ze, zf, za, zn, zc, zo, rfl, hL⟩ := hm
  obtain ⟨rfl, rfl⟩ := part_cells hL
  clear hL
  have hB2 := hB1.keep hb2
  go_wp2_with fail
  refine (HQ.out _).mono ?_
  intro e w3 hp
  rw [lit_raft] at hp
  obtain ⟨c3, d3, rfl, hB3, hb3⟩ := hp.ok (by decide) bytes_raft 13 rfl
  clear hp
  have hbA := (fresh w2 (.cells #[.int .u8 2, .int .i64 zp, .int .i64 ze, .int .i64 zf, .slice za zn zc, .int .i64 5] (28 : TypeId)))
  have hB2a := (hB2.keep hbA).keep hb3
  have hk := (heap_alloc_new w2 (.cells #[.int .u8 2, .int .i64 zp, .int .i64 ze, .int .i64 zf, .slice za zn zc, .int .i64 5] (28 : TypeId)))
  have hk3 := (hb3.block _ (hp_lt hk)).trans hk
  have hlow : Below w.heap.size w w3 := ((hb1.trans (hb2.mono hb1.size)).trans (hbA.mono (Nat.le_trans hb1.size hb2.size))).trans (hb3.mono (by have := hb1.size; have := hb2.size; simp; omega))
  have HLOW := hide hlow
  have HK3 := hide hk3
  clear hb1 hb2 hb3 hbA hk hk3 hlow hB1 hB2
  have hL1 := Bs.lit w3 [1, 4, 0, 0, 0, 0, 10] 7 rfl (by omega) bytes_part
  have hx1 := hB2a.alloc (.cells (U [1, 4, 0, 0, 0, 0, 10]).toArray 5)
  have hbl := fresh w3 (.cells (U [1, 4, 0, 0, 0, 0, 10]).toArray 5)
  have hk4 := (hbl.block _ (hp_lt HK3.out)).trans HK3.out
  have k0 := (row_facts hk4 0 _ rfl).1
  have k5 := (row_facts hk4 5 _ rfl).1
  have hx3 := hB3.alloc (.cells (U [1, 4, 0, 0, 0, 0, 10]).toArray 5)
  obtain ⟨d7, W7, hr7, hB7, hb7⟩ := run_seven ((w3.alloc (.cells (U [1, 4, 0, 0, 0, 0, 10]).toArray 5)).alloc (.cells #[.int .u8 7] 5)) (w3.heap.size + 1) (by have := heap_alloc_new (w3.alloc (.cells (U [1, 4, 0, 0, 0, 0, 10]).toArray 5)) (.cells #[.int .u8 7] 5); simpa using this)
  have hs7 : ((w3.alloc (.cells (U [1, 4, 0, 0, 0, 0, 10]).toArray 5)).alloc (.cells #[.int .u8 7] 5)).heap.size = w3.heap.size + 2 := by simp
  rw [hs7] at hr7 hB7
  have hx7 := (hx3.alloc (.cells #[.int .u8 7] 5)).keep hb7
  have HR7 := hide hr7
  have HLOW7 : Hid (Below w.heap.size w W7) := hide ((HLOW.out.trans ((hbl.alloc (by simp) (.cells #[.int .u8 7] 5)).mono HLOW.out.size)).trans (hb7.mono (by rw [hs7]; have := HLOW.out.size; omega)))
  clear hb7 hbl hk4 hr7 HK3 HP HQ
  go_wp2_with fail
  refine (same_true rfl hx1 hL1).mono ?_
  rintro e w4 ⟨rfl, rfl⟩
  go_wp2_with (at_builtin; refine wpList_run_wanted _ rfl (.tmp 45) (.const (.int .i64 12)) 22 3 rfl _ _ rfl rfl _ W7 HR7.out ?_)
  refine (same_true rfl hx7 hB7).mono ?_
  rintro e w8 ⟨rfl, rfl⟩
  go_wp2_with fail
  go_ret
  exact ⟨rfl, HLOW7.out⟩

end Go.Proofs.Ytnimfkcnkkjlkaa

/-
  The fixed lists of WireNumbers, none of them a command.
-/
namespace Go.Proofs.Ytnimfkcnkkjlkaa
open Go.RowKit
set_option maxRecDepth 100000
set_option linter.unusedVariables false

def ten : List (List Int) := [[1], [], [1, 4, 0, 0, 0, 0, 10, 0], [2, 4, 0, 0, 0, 0, 10], [1, 4, 0, 0, 0, 0, 138, 0], [1, 4, 0, 0, 0, 1, 10], [1, 5, 0, 0, 0, 0, 10], [1, 128, 4, 0, 0, 0, 0, 0]]

theorem ten_no : ∀ l ∈ ten, (Cod.got Cod.part 1 60000 l).isNone = true := by decide +kernel
theorem ten_none {l : List Int} (h : l ∈ ten) : Cod.got Cod.part 1 60000 l = none := by simpa using ten_no l h
theorem ten_byte : ∀ l ∈ ten, ∀ z ∈ l, 0 ≤ z ∧ z ≤ 255 := by decide

theorem ten_lies (w : World) : ∃ W, Hid (W = ((((((((w.alloc (.cells #[.int .u8 1] 5)).alloc (.cells #[.int .u8 1, .int .u8 4, .int .u8 0, .int .u8 0, .int .u8 0, .int .u8 0, .int .u8 10, .int .u8 0] 5)).alloc (.cells #[.int .u8 2, .int .u8 4, .int .u8 0, .int .u8 0, .int .u8 0, .int .u8 0, .int .u8 10] 5)).alloc (.cells #[.int .u8 1, .int .u8 4, .int .u8 0, .int .u8 0, .int .u8 0, .int .u8 0, .int .u8 138, .int .u8 0] 5)).alloc (.cells #[.int .u8 1, .int .u8 4, .int .u8 0, .int .u8 0, .int .u8 0, .int .u8 1, .int .u8 10] 5)).alloc (.cells #[.int .u8 1, .int .u8 5, .int .u8 0, .int .u8 0, .int .u8 0, .int .u8 0, .int .u8 10] 5)).alloc (.cells #[.int .u8 1, .int .u8 128, .int .u8 4, .int .u8 0, .int .u8 0, .int .u8 0, .int .u8 0, .int .u8 0] 5)).alloc (.cells #[.slice (some ⟨w.heap.size, 0, none⟩) 1 1, .slice none 0 0, .slice (some ⟨w.heap.size + 1, 0, none⟩) 8 8, .slice (some ⟨w.heap.size + 2, 0, none⟩) 7 7, .slice (some ⟨w.heap.size + 3, 0, none⟩) 8 8, .slice (some ⟨w.heap.size + 4, 0, none⟩) 7 7, .slice (some ⟨w.heap.size + 5, 0, none⟩) 7 7, .slice (some ⟨w.heap.size + 6, 0, none⟩) 8 8] (22 : TypeId)))) ∧ Sq RBytes 1 W (some ⟨w.heap.size + 7, 0, none⟩) 8 8 ten ∧ Below w.heap.size w W := by
  refine ⟨_, hide rfl, ⟨rfl, Nat.le_refl _, by omega, fun _ => ⟨_, _, rfl, ?_⟩⟩, ?_⟩
  · have hbox : ((((((((w.alloc (.cells #[.int .u8 1] 5)).alloc (.cells #[.int .u8 1, .int .u8 4, .int .u8 0, .int .u8 0, .int .u8 0, .int .u8 0, .int .u8 10, .int .u8 0] 5)).alloc (.cells #[.int .u8 2, .int .u8 4, .int .u8 0, .int .u8 0, .int .u8 0, .int .u8 0, .int .u8 10] 5)).alloc (.cells #[.int .u8 1, .int .u8 4, .int .u8 0, .int .u8 0, .int .u8 0, .int .u8 0, .int .u8 138, .int .u8 0] 5)).alloc (.cells #[.int .u8 1, .int .u8 4, .int .u8 0, .int .u8 0, .int .u8 0, .int .u8 1, .int .u8 10] 5)).alloc (.cells #[.int .u8 1, .int .u8 5, .int .u8 0, .int .u8 0, .int .u8 0, .int .u8 0, .int .u8 10] 5)).alloc (.cells #[.int .u8 1, .int .u8 128, .int .u8 4, .int .u8 0, .int .u8 0, .int .u8 0, .int .u8 0, .int .u8 0] 5)).alloc (.cells #[.slice (some ⟨w.heap.size, 0, none⟩) 1 1, .slice none 0 0, .slice (some ⟨w.heap.size + 1, 0, none⟩) 8 8, .slice (some ⟨w.heap.size + 2, 0, none⟩) 7 7, .slice (some ⟨w.heap.size + 3, 0, none⟩) 8 8, .slice (some ⟨w.heap.size + 4, 0, none⟩) 7 7, .slice (some ⟨w.heap.size + 5, 0, none⟩) 7 7, .slice (some ⟨w.heap.size + 6, 0, none⟩) 8 8] (22 : TypeId))).heap[w.heap.size + 7]? = some (.cells #[.slice (some ⟨w.heap.size, 0, none⟩) 1 1, .slice none 0 0, .slice (some ⟨w.heap.size + 1, 0, none⟩) 8 8, .slice (some ⟨w.heap.size + 2, 0, none⟩) 7 7, .slice (some ⟨w.heap.size + 3, 0, none⟩) 8 8, .slice (some ⟨w.heap.size + 4, 0, none⟩) 7 7, .slice (some ⟨w.heap.size + 5, 0, none⟩) 7 7, .slice (some ⟨w.heap.size + 6, 0, none⟩) 8 8] (22 : TypeId) (0, 0)) := by
      have := heap_alloc_new (((((((w.alloc (.cells #[.int .u8 1] 5)).alloc (.cells #[.int .u8 1, .int .u8 4, .int .u8 0, .int .u8 0, .int .u8 0, .int .u8 0, .int .u8 10, .int .u8 0] 5)).alloc (.cells #[.int .u8 2, .int .u8 4, .int .u8 0, .int .u8 0, .int .u8 0, .int .u8 0, .int .u8 10] 5)).alloc (.cells #[.int .u8 1, .int .u8 4, .int .u8 0, .int .u8 0, .int .u8 0, .int .u8 0, .int .u8 138, .int .u8 0] 5)).alloc (.cells #[.int .u8 1, .int .u8 4, .int .u8 0, .int .u8 0, .int .u8 0, .int .u8 1, .int .u8 10] 5)).alloc (.cells #[.int .u8 1, .int .u8 5, .int .u8 0, .int .u8 0, .int .u8 0, .int .u8 0, .int .u8 10] 5)).alloc (.cells #[.int .u8 1, .int .u8 128, .int .u8 4, .int .u8 0, .int .u8 0, .int .u8 0, .int .u8 0, .int .u8 0] 5)) (.cells #[.slice (some ⟨w.heap.size, 0, none⟩) 1 1, .slice none 0 0, .slice (some ⟨w.heap.size + 1, 0, none⟩) 8 8, .slice (some ⟨w.heap.size + 2, 0, none⟩) 7 7, .slice (some ⟨w.heap.size + 3, 0, none⟩) 8 8, .slice (some ⟨w.heap.size + 4, 0, none⟩) 7 7, .slice (some ⟨w.heap.size + 5, 0, none⟩) 7 7, .slice (some ⟨w.heap.size + 6, 0, none⟩) 8 8] (22 : TypeId))
      simpa using this
    have b0 : Bs ((((((((w.alloc (.cells #[.int .u8 1] 5)).alloc (.cells #[.int .u8 1, .int .u8 4, .int .u8 0, .int .u8 0, .int .u8 0, .int .u8 0, .int .u8 10, .int .u8 0] 5)).alloc (.cells #[.int .u8 2, .int .u8 4, .int .u8 0, .int .u8 0, .int .u8 0, .int .u8 0, .int .u8 10] 5)).alloc (.cells #[.int .u8 1, .int .u8 4, .int .u8 0, .int .u8 0, .int .u8 0, .int .u8 0, .int .u8 138, .int .u8 0] 5)).alloc (.cells #[.int .u8 1, .int .u8 4, .int .u8 0, .int .u8 0, .int .u8 0, .int .u8 1, .int .u8 10] 5)).alloc (.cells #[.int .u8 1, .int .u8 5, .int .u8 0, .int .u8 0, .int .u8 0, .int .u8 0, .int .u8 10] 5)).alloc (.cells #[.int .u8 1, .int .u8 128, .int .u8 4, .int .u8 0, .int .u8 0, .int .u8 0, .int .u8 0, .int .u8 0] 5)).alloc (.cells #[.slice (some ⟨w.heap.size, 0, none⟩) 1 1, .slice none 0 0, .slice (some ⟨w.heap.size + 1, 0, none⟩) 8 8, .slice (some ⟨w.heap.size + 2, 0, none⟩) 7 7, .slice (some ⟨w.heap.size + 3, 0, none⟩) 8 8, .slice (some ⟨w.heap.size + 4, 0, none⟩) 7 7, .slice (some ⟨w.heap.size + 5, 0, none⟩) 7 7, .slice (some ⟨w.heap.size + 6, 0, none⟩) 8 8] (22 : TypeId))) (some ⟨w.heap.size, 0, none⟩) 1 1 [1] := ((((((((row_lit w (w.heap.size) (by simp) [1] 1 rfl (by omega) (ten_byte _ (by decide))).alloc _).alloc _).alloc _).alloc _).alloc _).alloc _).alloc (.cells #[.slice (some ⟨w.heap.size, 0, none⟩) 1 1, .slice none 0 0, .slice (some ⟨w.heap.size + 1, 0, none⟩) 8 8, .slice (some ⟨w.heap.size + 2, 0, none⟩) 7 7, .slice (some ⟨w.heap.size + 3, 0, none⟩) 8 8, .slice (some ⟨w.heap.size + 4, 0, none⟩) 7 7, .slice (some ⟨w.heap.size + 5, 0, none⟩) 7 7, .slice (some ⟨w.heap.size + 6, 0, none⟩) 8 8] (22 : TypeId)))
    have b1 : Bs ((((((((w.alloc (.cells #[.int .u8 1] 5)).alloc (.cells #[.int .u8 1, .int .u8 4, .int .u8 0, .int .u8 0, .int .u8 0, .int .u8 0, .int .u8 10, .int .u8 0] 5)).alloc (.cells #[.int .u8 2, .int .u8 4, .int .u8 0, .int .u8 0, .int .u8 0, .int .u8 0, .int .u8 10] 5)).alloc (.cells #[.int .u8 1, .int .u8 4, .int .u8 0, .int .u8 0, .int .u8 0, .int .u8 0, .int .u8 138, .int .u8 0] 5)).alloc (.cells #[.int .u8 1, .int .u8 4, .int .u8 0, .int .u8 0, .int .u8 0, .int .u8 1, .int .u8 10] 5)).alloc (.cells #[.int .u8 1, .int .u8 5, .int .u8 0, .int .u8 0, .int .u8 0, .int .u8 0, .int .u8 10] 5)).alloc (.cells #[.int .u8 1, .int .u8 128, .int .u8 4, .int .u8 0, .int .u8 0, .int .u8 0, .int .u8 0, .int .u8 0] 5)).alloc (.cells #[.slice (some ⟨w.heap.size, 0, none⟩) 1 1, .slice none 0 0, .slice (some ⟨w.heap.size + 1, 0, none⟩) 8 8, .slice (some ⟨w.heap.size + 2, 0, none⟩) 7 7, .slice (some ⟨w.heap.size + 3, 0, none⟩) 8 8, .slice (some ⟨w.heap.size + 4, 0, none⟩) 7 7, .slice (some ⟨w.heap.size + 5, 0, none⟩) 7 7, .slice (some ⟨w.heap.size + 6, 0, none⟩) 8 8] (22 : TypeId))) none 0 0 [] := Bs.nil _
    have b2 : Bs ((((((((w.alloc (.cells #[.int .u8 1] 5)).alloc (.cells #[.int .u8 1, .int .u8 4, .int .u8 0, .int .u8 0, .int .u8 0, .int .u8 0, .int .u8 10, .int .u8 0] 5)).alloc (.cells #[.int .u8 2, .int .u8 4, .int .u8 0, .int .u8 0, .int .u8 0, .int .u8 0, .int .u8 10] 5)).alloc (.cells #[.int .u8 1, .int .u8 4, .int .u8 0, .int .u8 0, .int .u8 0, .int .u8 0, .int .u8 138, .int .u8 0] 5)).alloc (.cells #[.int .u8 1, .int .u8 4, .int .u8 0, .int .u8 0, .int .u8 0, .int .u8 1, .int .u8 10] 5)).alloc (.cells #[.int .u8 1, .int .u8 5, .int .u8 0, .int .u8 0, .int .u8 0, .int .u8 0, .int .u8 10] 5)).alloc (.cells #[.int .u8 1, .int .u8 128, .int .u8 4, .int .u8 0, .int .u8 0, .int .u8 0, .int .u8 0, .int .u8 0] 5)).alloc (.cells #[.slice (some ⟨w.heap.size, 0, none⟩) 1 1, .slice none 0 0, .slice (some ⟨w.heap.size + 1, 0, none⟩) 8 8, .slice (some ⟨w.heap.size + 2, 0, none⟩) 7 7, .slice (some ⟨w.heap.size + 3, 0, none⟩) 8 8, .slice (some ⟨w.heap.size + 4, 0, none⟩) 7 7, .slice (some ⟨w.heap.size + 5, 0, none⟩) 7 7, .slice (some ⟨w.heap.size + 6, 0, none⟩) 8 8] (22 : TypeId))) (some ⟨w.heap.size + 1, 0, none⟩) 8 8 [1, 4, 0, 0, 0, 0, 10, 0] := (((((((row_lit (w.alloc (.cells #[.int .u8 1] 5)) (w.heap.size + 1) (by simp) [1, 4, 0, 0, 0, 0, 10, 0] 8 rfl (by omega) (ten_byte _ (by decide))).alloc _).alloc _).alloc _).alloc _).alloc _).alloc (.cells #[.slice (some ⟨w.heap.size, 0, none⟩) 1 1, .slice none 0 0, .slice (some ⟨w.heap.size + 1, 0, none⟩) 8 8, .slice (some ⟨w.heap.size + 2, 0, none⟩) 7 7, .slice (some ⟨w.heap.size + 3, 0, none⟩) 8 8, .slice (some ⟨w.heap.size + 4, 0, none⟩) 7 7, .slice (some ⟨w.heap.size + 5, 0, none⟩) 7 7, .slice (some ⟨w.heap.size + 6, 0, none⟩) 8 8] (22 : TypeId)))
    have b3 : Bs ((((((((w.alloc (.cells #[.int .u8 1] 5)).alloc (.cells #[.int .u8 1, .int .u8 4, .int .u8 0, .int .u8 0, .int .u8 0, .int .u8 0, .int .u8 10, .int .u8 0] 5)).alloc (.cells #[.int .u8 2, .int .u8 4, .int .u8 0, .int .u8 0, .int .u8 0, .int .u8 0, .int .u8 10] 5)).alloc (.cells #[.int .u8 1, .int .u8 4, .int .u8 0, .int .u8 0, .int .u8 0, .int .u8 0, .int .u8 138, .int .u8 0] 5)).alloc (.cells #[.int .u8 1, .int .u8 4, .int .u8 0, .int .u8 0, .int .u8 0, .int .u8 1, .int .u8 10] 5)).alloc (.cells #[.int .u8 1, .int .u8 5, .int .u8 0, .int .u8 0, .int .u8 0, .int .u8 0, .int .u8 10] 5)).alloc (.cells #[.int .u8 1, .int .u8 128, .int .u8 4, .int .u8 0, .int .u8 0, .int .u8 0, .int .u8 0, .int .u8 0] 5)).alloc (.cells #[.slice (some ⟨w.heap.size, 0, none⟩) 1 1, .slice none 0 0, .slice (some ⟨w.heap.size + 1, 0, none⟩) 8 8, .slice (some ⟨w.heap.size + 2, 0, none⟩) 7 7, .slice (some ⟨w.heap.size + 3, 0, none⟩) 8 8, .slice (some ⟨w.heap.size + 4, 0, none⟩) 7 7, .slice (some ⟨w.heap.size + 5, 0, none⟩) 7 7, .slice (some ⟨w.heap.size + 6, 0, none⟩) 8 8] (22 : TypeId))) (some ⟨w.heap.size + 2, 0, none⟩) 7 7 [2, 4, 0, 0, 0, 0, 10] := ((((((row_lit ((w.alloc (.cells #[.int .u8 1] 5)).alloc (.cells #[.int .u8 1, .int .u8 4, .int .u8 0, .int .u8 0, .int .u8 0, .int .u8 0, .int .u8 10, .int .u8 0] 5)) (w.heap.size + 2) (by simp) [2, 4, 0, 0, 0, 0, 10] 7 rfl (by omega) (ten_byte _ (by decide))).alloc _).alloc _).alloc _).alloc _).alloc (.cells #[.slice (some ⟨w.heap.size, 0, none⟩) 1 1, .slice none 0 0, .slice (some ⟨w.heap.size + 1, 0, none⟩) 8 8, .slice (some ⟨w.heap.size + 2, 0, none⟩) 7 7, .slice (some ⟨w.heap.size + 3, 0, none⟩) 8 8, .slice (some ⟨w.heap.size + 4, 0, none⟩) 7 7, .slice (some ⟨w.heap.size + 5, 0, none⟩) 7 7, .slice (some ⟨w.heap.size + 6, 0, none⟩) 8 8] (22 : TypeId)))
    have b4 : Bs ((((((((w.alloc (.cells #[.int .u8 1] 5)).alloc (.cells #[.int .u8 1, .int .u8 4, .int .u8 0, .int .u8 0, .int .u8 0, .int .u8 0, .int .u8 10, .int .u8 0] 5)).alloc (.cells #[.int .u8 2, .int .u8 4, .int .u8 0, .int .u8 0, .int .u8 0, .int .u8 0, .int .u8 10] 5)).alloc (.cells #[.int .u8 1, .int .u8 4, .int .u8 0, .int .u8 0, .int .u8 0, .int .u8 0, .int .u8 138, .int .u8 0] 5)).alloc (.cells #[.int .u8 1, .int .u8 4, .int .u8 0, .int .u8 0, .int .u8 0, .int .u8 1, .int .u8 10] 5)).alloc (.cells #[.int .u8 1, .int .u8 5, .int .u8 0, .int .u8 0, .int .u8 0, .int .u8 0, .int .u8 10] 5)).alloc (.cells #[.int .u8 1, .int .u8 128, .int .u8 4, .int .u8 0, .int .u8 0, .int .u8 0, .int .u8 0, .int .u8 0] 5)).alloc (.cells #[.slice (some ⟨w.heap.size, 0, none⟩) 1 1, .slice none 0 0, .slice (some ⟨w.heap.size + 1, 0, none⟩) 8 8, .slice (some ⟨w.heap.size + 2, 0, none⟩) 7 7, .slice (some ⟨w.heap.size + 3, 0, none⟩) 8 8, .slice (some ⟨w.heap.size + 4, 0, none⟩) 7 7, .slice (some ⟨w.heap.size + 5, 0, none⟩) 7 7, .slice (some ⟨w.heap.size + 6, 0, none⟩) 8 8] (22 : TypeId))) (some ⟨w.heap.size + 3, 0, none⟩) 8 8 [1, 4, 0, 0, 0, 0, 138, 0] := (((((row_lit (((w.alloc (.cells #[.int .u8 1] 5)).alloc (.cells #[.int .u8 1, .int .u8 4, .int .u8 0, .int .u8 0, .int .u8 0, .int .u8 0, .int .u8 10, .int .u8 0] 5)).alloc (.cells #[.int .u8 2, .int .u8 4, .int .u8 0, .int .u8 0, .int .u8 0, .int .u8 0, .int .u8 10] 5)) (w.heap.size + 3) (by simp) [1, 4, 0, 0, 0, 0, 138, 0] 8 rfl (by omega) (ten_byte _ (by decide))).alloc _).alloc _).alloc _).alloc (.cells #[.slice (some ⟨w.heap.size, 0, none⟩) 1 1, .slice none 0 0, .slice (some ⟨w.heap.size + 1, 0, none⟩) 8 8, .slice (some ⟨w.heap.size + 2, 0, none⟩) 7 7, .slice (some ⟨w.heap.size + 3, 0, none⟩) 8 8, .slice (some ⟨w.heap.size + 4, 0, none⟩) 7 7, .slice (some ⟨w.heap.size + 5, 0, none⟩) 7 7, .slice (some ⟨w.heap.size + 6, 0, none⟩) 8 8] (22 : TypeId)))
    have b5 : Bs ((((((((w.alloc (.cells #[.int .u8 1] 5)).alloc (.cells #[.int .u8 1, .int .u8 4, .int .u8 0, .int .u8 0, .int .u8 0, .int .u8 0, .int .u8 10, .int .u8 0] 5)).alloc (.cells #[.int .u8 2, .int .u8 4, .int .u8 0, .int .u8 0, .int .u8 0, .int .u8 0, .int .u8 10] 5)).alloc (.cells #[.int .u8 1, .int .u8 4, .int .u8 0, .int .u8 0, .int .u8 0, .int .u8 0, .int .u8 138, .int .u8 0] 5)).alloc (.cells #[.int .u8 1, .int .u8 4, .int .u8 0, .int .u8 0, .int .u8 0, .int .u8 1, .int .u8 10] 5)).alloc (.cells #[.int .u8 1, .int .u8 5, .int .u8 0, .int .u8 0, .int .u8 0, .int .u8 0, .int .u8 10] 5)).alloc (.cells #[.int .u8 1, .int .u8 128, .int .u8 4, .int .u8 0, .int .u8 0, .int .u8 0, .int .u8 0, .int .u8 0] 5)).alloc (.cells #[.slice (some ⟨w.heap.size, 0, none⟩) 1 1, .slice none 0 0, .slice (some ⟨w.heap.size + 1, 0, none⟩) 8 8, .slice (some ⟨w.heap.size + 2, 0, none⟩) 7 7, .slice (some ⟨w.heap.size + 3, 0, none⟩) 8 8, .slice (some ⟨w.heap.size + 4, 0, none⟩) 7 7, .slice (some ⟨w.heap.size + 5, 0, none⟩) 7 7, .slice (some ⟨w.heap.size + 6, 0, none⟩) 8 8] (22 : TypeId))) (some ⟨w.heap.size + 4, 0, none⟩) 7 7 [1, 4, 0, 0, 0, 1, 10] := ((((row_lit ((((w.alloc (.cells #[.int .u8 1] 5)).alloc (.cells #[.int .u8 1, .int .u8 4, .int .u8 0, .int .u8 0, .int .u8 0, .int .u8 0, .int .u8 10, .int .u8 0] 5)).alloc (.cells #[.int .u8 2, .int .u8 4, .int .u8 0, .int .u8 0, .int .u8 0, .int .u8 0, .int .u8 10] 5)).alloc (.cells #[.int .u8 1, .int .u8 4, .int .u8 0, .int .u8 0, .int .u8 0, .int .u8 0, .int .u8 138, .int .u8 0] 5)) (w.heap.size + 4) (by simp) [1, 4, 0, 0, 0, 1, 10] 7 rfl (by omega) (ten_byte _ (by decide))).alloc _).alloc _).alloc (.cells #[.slice (some ⟨w.heap.size, 0, none⟩) 1 1, .slice none 0 0, .slice (some ⟨w.heap.size + 1, 0, none⟩) 8 8, .slice (some ⟨w.heap.size + 2, 0, none⟩) 7 7, .slice (some ⟨w.heap.size + 3, 0, none⟩) 8 8, .slice (some ⟨w.heap.size + 4, 0, none⟩) 7 7, .slice (some ⟨w.heap.size + 5, 0, none⟩) 7 7, .slice (some ⟨w.heap.size + 6, 0, none⟩) 8 8] (22 : TypeId)))
    have b6 : Bs ((((((((w.alloc (.cells #[.int .u8 1] 5)).alloc (.cells #[.int .u8 1, .int .u8 4, .int .u8 0, .int .u8 0, .int .u8 0, .int .u8 0, .int .u8 10, .int .u8 0] 5)).alloc (.cells #[.int .u8 2, .int .u8 4, .int .u8 0, .int .u8 0, .int .u8 0, .int .u8 0, .int .u8 10] 5)).alloc (.cells #[.int .u8 1, .int .u8 4, .int .u8 0, .int .u8 0, .int .u8 0, .int .u8 0, .int .u8 138, .int .u8 0] 5)).alloc (.cells #[.int .u8 1, .int .u8 4, .int .u8 0, .int .u8 0, .int .u8 0, .int .u8 1, .int .u8 10] 5)).alloc (.cells #[.int .u8 1, .int .u8 5, .int .u8 0, .int .u8 0, .int .u8 0, .int .u8 0, .int .u8 10] 5)).alloc (.cells #[.int .u8 1, .int .u8 128, .int .u8 4, .int .u8 0, .int .u8 0, .int .u8 0, .int .u8 0, .int .u8 0] 5)).alloc (.cells #[.slice (some ⟨w.heap.size, 0, none⟩) 1 1, .slice none 0 0, .slice (some ⟨w.heap.size + 1, 0, none⟩) 8 8, .slice (some ⟨w.heap.size + 2, 0, none⟩) 7 7, .slice (some ⟨w.heap.size + 3, 0, none⟩) 8 8, .slice (some ⟨w.heap.size + 4, 0, none⟩) 7 7, .slice (some ⟨w.heap.size + 5, 0, none⟩) 7 7, .slice (some ⟨w.heap.size + 6, 0, none⟩) 8 8] (22 : TypeId))) (some ⟨w.heap.size + 5, 0, none⟩) 7 7 [1, 5, 0, 0, 0, 0, 10] := (((row_lit (((((w.alloc (.cells #[.int .u8 1] 5)).alloc (.cells #[.int .u8 1, .int .u8 4, .int .u8 0, .int .u8 0, .int .u8 0, .int .u8 0, .int .u8 10, .int .u8 0] 5)).alloc (.cells #[.int .u8 2, .int .u8 4, .int .u8 0, .int .u8 0, .int .u8 0, .int .u8 0, .int .u8 10] 5)).alloc (.cells #[.int .u8 1, .int .u8 4, .int .u8 0, .int .u8 0, .int .u8 0, .int .u8 0, .int .u8 138, .int .u8 0] 5)).alloc (.cells #[.int .u8 1, .int .u8 4, .int .u8 0, .int .u8 0, .int .u8 0, .int .u8 1, .int .u8 10] 5)) (w.heap.size + 5) (by simp) [1, 5, 0, 0, 0, 0, 10] 7 rfl (by omega) (ten_byte _ (by decide))).alloc _).alloc (.cells #[.slice (some ⟨w.heap.size, 0, none⟩) 1 1, .slice none 0 0, .slice (some ⟨w.heap.size + 1, 0, none⟩) 8 8, .slice (some ⟨w.heap.size + 2, 0, none⟩) 7 7, .slice (some ⟨w.heap.size + 3, 0, none⟩) 8 8, .slice (some ⟨w.heap.size + 4, 0, none⟩) 7 7, .slice (some ⟨w.heap.size + 5, 0, none⟩) 7 7, .slice (some ⟨w.heap.size + 6, 0, none⟩) 8 8] (22 : TypeId)))
    have b7 : Bs ((((((((w.alloc (.cells #[.int .u8 1] 5)).alloc (.cells #[.int .u8 1, .int .u8 4, .int .u8 0, .int .u8 0, .int .u8 0, .int .u8 0, .int .u8 10, .int .u8 0] 5)).alloc (.cells #[.int .u8 2, .int .u8 4, .int .u8 0, .int .u8 0, .int .u8 0, .int .u8 0, .int .u8 10] 5)).alloc (.cells #[.int .u8 1, .int .u8 4, .int .u8 0, .int .u8 0, .int .u8 0, .int .u8 0, .int .u8 138, .int .u8 0] 5)).alloc (.cells #[.int .u8 1, .int .u8 4, .int .u8 0, .int .u8 0, .int .u8 0, .int .u8 1, .int .u8 10] 5)).alloc (.cells #[.int .u8 1, .int .u8 5, .int .u8 0, .int .u8 0, .int .u8 0, .int .u8 0, .int .u8 10] 5)).alloc (.cells #[.int .u8 1, .int .u8 128, .int .u8 4, .int .u8 0, .int .u8 0, .int .u8 0, .int .u8 0, .int .u8 0] 5)).alloc (.cells #[.slice (some ⟨w.heap.size, 0, none⟩) 1 1, .slice none 0 0, .slice (some ⟨w.heap.size + 1, 0, none⟩) 8 8, .slice (some ⟨w.heap.size + 2, 0, none⟩) 7 7, .slice (some ⟨w.heap.size + 3, 0, none⟩) 8 8, .slice (some ⟨w.heap.size + 4, 0, none⟩) 7 7, .slice (some ⟨w.heap.size + 5, 0, none⟩) 7 7, .slice (some ⟨w.heap.size + 6, 0, none⟩) 8 8] (22 : TypeId))) (some ⟨w.heap.size + 6, 0, none⟩) 8 8 [1, 128, 4, 0, 0, 0, 0, 0] := ((row_lit ((((((w.alloc (.cells #[.int .u8 1] 5)).alloc (.cells #[.int .u8 1, .int .u8 4, .int .u8 0, .int .u8 0, .int .u8 0, .int .u8 0, .int .u8 10, .int .u8 0] 5)).alloc (.cells #[.int .u8 2, .int .u8 4, .int .u8 0, .int .u8 0, .int .u8 0, .int .u8 0, .int .u8 10] 5)).alloc (.cells #[.int .u8 1, .int .u8 4, .int .u8 0, .int .u8 0, .int .u8 0, .int .u8 0, .int .u8 138, .int .u8 0] 5)).alloc (.cells #[.int .u8 1, .int .u8 4, .int .u8 0, .int .u8 0, .int .u8 0, .int .u8 1, .int .u8 10] 5)).alloc (.cells #[.int .u8 1, .int .u8 5, .int .u8 0, .int .u8 0, .int .u8 0, .int .u8 0, .int .u8 10] 5)) (w.heap.size + 6) (by simp) [1, 128, 4, 0, 0, 0, 0, 0] 8 rfl (by omega) (ten_byte _ (by decide))).alloc (.cells #[.slice (some ⟨w.heap.size, 0, none⟩) 1 1, .slice none 0 0, .slice (some ⟨w.heap.size + 1, 0, none⟩) 8 8, .slice (some ⟨w.heap.size + 2, 0, none⟩) 7 7, .slice (some ⟨w.heap.size + 3, 0, none⟩) 8 8, .slice (some ⟨w.heap.size + 4, 0, none⟩) 7 7, .slice (some ⟨w.heap.size + 5, 0, none⟩) 7 7, .slice (some ⟨w.heap.size + 6, 0, none⟩) 8 8] (22 : TypeId)))
    intro i hi
    have hi8 : i < 8 := hi
    match i, hi8 with
    | 0, _ => exact ⟨_, _, _, by rw [cell_of_row _ _ _ _ _ (0, 0) hbox]; rfl, b0⟩
    | 1, _ => exact ⟨_, _, _, by rw [cell_of_row _ _ _ _ _ (0, 0) hbox]; rfl, b1⟩
    | 2, _ => exact ⟨_, _, _, by rw [cell_of_row _ _ _ _ _ (0, 0) hbox]; rfl, b2⟩
    | 3, _ => exact ⟨_, _, _, by rw [cell_of_row _ _ _ _ _ (0, 0) hbox]; rfl, b3⟩
    | 4, _ => exact ⟨_, _, _, by rw [cell_of_row _ _ _ _ _ (0, 0) hbox]; rfl, b4⟩
    | 5, _ => exact ⟨_, _, _, by rw [cell_of_row _ _ _ _ _ (0, 0) hbox]; rfl, b5⟩
    | 6, _ => exact ⟨_, _, _, by rw [cell_of_row _ _ _ _ _ (0, 0) hbox]; rfl, b6⟩
    | 7, _ => exact ⟨_, _, _, by rw [cell_of_row _ _ _ _ _ (0, 0) hbox]; rfl, b7⟩
  · exact ((((((((fresh w _).alloc (by simp <;> omega) _).alloc (by simp <;> omega) _).alloc (by simp <;> omega) _).alloc (by simp <;> omega) _).alloc (by simp <;> omega) _).alloc (by simp <;> omega) _).alloc (by simp <;> omega) _)

end Go.Proofs.Ytnimfkcnkkjlkaa

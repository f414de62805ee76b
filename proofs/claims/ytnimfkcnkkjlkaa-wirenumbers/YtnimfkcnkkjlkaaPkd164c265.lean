/-
  Texts put into one.
-/
import Derived.Test.YtnimfkcnkkjlkaaPk74617d44
import Derived.Test.YtnimfkcnkkjlkaaPk9bf0f6a5
import Derived.Test.YtnimfkcnkkjlkaaPk0b054a4c
import Derived.Deep.RegionHeld3
import Derived.Test.YtnimfkcnkkjlkaaPk1c534466

/-
  Bytes appended to a slice of another type, or a text's; lists laid as bytes; what is new.
-/
namespace Go.Proofs.Ytnimfkcnkkjlkaa
open Go.RowKit
set_option maxRecDepth 100000

theorem fresh (w : World) (o : Obj) : Below w.heap.size w (w.alloc o) := (Below.refl _ w).alloc (Nat.le_refl _) o

section
variable {P : Program} {w : World} {ops : Array Oper} {rest : List Oper} {o : Oper} {a : Act} {Q : Exit → Act → World → Prop}

theorem run_append_two (t u ty e e' : TypeId) (i : TypeInfo) (ht : P.underlying t = some (.slice e)) (hu : P.underlying u = some (.slice e')) (hi : P.info? e = some i) (d : Option Addr) (k c : Nat) (x : Value) : (Builtin.append_ #[t, u] ty #[.slice d k c, x]).run P w = (Builtin.append_ #[t, t] ty #[.slice d k c, x]).run P w := by
  simp [Builtin.append_, run_underlying ht, run_underlying hu, sizeOf, typeInfo, hi]

/-- Where a row that was appended to lies: where it lay, or in what is new. -/
def Goes (w : World) (v v' : Value) : Prop := v'.ownBlock = v.ownBlock ∨ ∀ k, v'.ownBlock = some k → w.heap.size ≤ k

/-- Bytes of one slice's type appended to a slice of another's that the call owns. -/
theorem wpList_append_two (hgd : o.guard = none) (s x : Operand) (t u : TypeId) (ho : o.op = .call { callee := .builtin .append, args := #[s, x], argTypes := #[t, u] })
    (base : Nat) (e e' : TypeId) (i : TypeInfo) (ht : P.underlying t = some (.slice e)) (hu : P.underlying u = some (.slice e')) (hi : P.info? e = some i) (hz : i.zero = some (.int .u8 0)) (hsize : i.size = 1) (hby : i.bytes = 1)
    (v : Value) (m : Nat) (ys : List Int) (hs : a.eval s = v) (hown : w.ownsRow base e 1 v m (U ys)) (ad : Option Addr) (n cap : Nat) (zs : List Int) (hx : a.eval x = .slice ad n cap) (hB : Bs w ad n cap zs)
    (hroom : m + n ≤ 140737488355328) (hbase : base ≤ w.heap.size)
    (h : ∀ v' w', w'.ownsRow base e 1 v' (m + n) (U (ys ++ zs)) → w.grownBy w' v.ownBlock → Goes w v v' → wpList P ops Q rest (a.put o.dst v') w') :
    wpList P ops Q (o :: rest) a w := by
  refine wpList_plain hgd fun K hK => ?_
  have key : ∃ v' w', (Builtin.append_ #[t, t] o.type #[v, .slice ad n cap]).run P w = .ok v' w' ∧ w'.ownsRow base e 1 v' (m + n) (U (ys ++ zs)) ∧ w.grownBy w' v.ownBlock ∧ Goes w v v' := by
    rcases Nat.eq_zero_or_pos n with rfl | hn
    · have hzs : zs = [] := List.eq_nil_of_length_eq_zero hB.len
      subst hzs
      refine ⟨v, w, ?_, by simpa using hown, World.grownBy.refl _ _, .inl rfl⟩
      rcases hown.2 with ⟨rfl, rfl⟩ | ⟨g, c, cur, rfl, hbg, hg, hnc, hcm, hcs, htake⟩
      · cases ad with
        | none => simp [Builtin.append_, run_underlying ht, sizeOf, typeInfo, hi, Builtin.lenOf, Builtin.firstCells]
        | some ad => simp [Builtin.append_, run_underlying ht, sizeOf, typeInfo, hi, Builtin.lenOf, Builtin.firstCells, loadCells, loadCellsFrom]
      · cases ad with
        | none => simp [Builtin.append_, run_underlying ht, sizeOf, typeInfo, hi, Builtin.lenOf, Builtin.firstCells, hnc, storeCells]
        | some ad => simp [Builtin.append_, run_underlying ht, sizeOf, typeInfo, hi, Builtin.lenOf, Builtin.firstCells, hnc, storeCells, loadCells, loadCellsFrom]
    · obtain ⟨ad', rfl, hc⟩ := hB.src hn
      obtain ⟨v', w', hr, h1, h2⟩ := run_append_tells (P := P) w base t o.type e i (.int .u8 0) ht hi hz hsize hby rfl v m (U ys) hown ad' n cap (U zs) (by rw [U_length, hB.len]) hc (U_one zs) hn hroom hbase
      rw [← U_append] at h1
      rcases h2 with ⟨g, c, rfl, rfl, h3⟩ | ⟨d, rfl, h3⟩
      · exact ⟨_, w', hr, h1, h3, .inl rfl⟩
      · refine ⟨_, w', hr, h1, ⟨h3.os, h3.tape, h3.output, h3.size, fun k hk _ => h3.block k hk (by simp)⟩, .inr fun k hk => ?_⟩
        simp only [Value.ownBlock, Option.some.injEq] at hk
        omega
  obtain ⟨v', w', hr, h1, h2, h3⟩ := key
  obtain ⟨vd, vk, vc, rfl⟩ : ∃ d k c, v = .slice d k c := by
    rcases hown.2 with ⟨rfl, _⟩ | ⟨g, c, cur, rfl, _⟩
    · exact ⟨_, _, _, rfl⟩
    · exact ⟨_, _, _, rfl⟩
  have hr2 := (run_append_two (w := w) t u o.type e e' i ht hu hi vd vk vc (.slice ad n cap)).trans hr
  unfold Oper.wp
  simp only [execOp, ho, resolve, invoke, builtin, Sem.run_bind, Sem.run_pure, Result.andThen_ok, List.map_toArray, List.map_cons, List.map_nil, hs, hx, hr2]
  exact hK _ _ (h v' w' h1 h2 h3)

/-- A text's bytes appended so. -/
theorem wpList_append_text (hgd : o.guard = none) (sl x : Operand) (t u : TypeId) (ho : o.op = .call { callee := .builtin .append, args := #[sl, x], argTypes := #[t, u] })
    (base : Nat) (e : TypeId) (i : TypeInfo) (ht : P.underlying t = some (.slice e)) (hu : P.underlying u = some .string) (hi : P.info? e = some i) (hz : i.zero = some (.int .u8 0)) (hsize : i.size = 1) (hby : i.bytes = 1)
    (v : Value) (n : Nat) (zs : List Int) (hs : a.eval sl = v) (hown : w.ownsRow base e 1 v n (U zs)) (hpos : 0 < n) (str : ByteArray) (hx : a.eval x = .string str)
    (hroom : n + str.size ≤ 140737488355328) (hbase : base ≤ w.heap.size)
    (h : ∀ v' w', w'.ownsRow base e 1 v' (n + str.size) (U (zs ++ sb str)) → w.grownBy w' v.ownBlock → Goes w v v' → wpList P ops Q rest (a.put o.dst v') w') :
    wpList P ops Q (o :: rest) a w := by
  refine wpList_plain hgd fun K hK => ?_
  obtain ⟨g, cap, rfl⟩ := own_shape hown hpos
  have hxl : (U zs).length = n := by simpa using hown.1
  have hU : U (zs ++ sb str) = U zs ++ Lib.strCells str := by rw [U_append, U_sb]
  have hlen : (U (zs ++ sb str)).length = (n + str.size) * 1 := by rw [hU, List.length_append, hxl, Lib.strCells_length, Nat.mul_one]
  rcases hown.2 with ⟨h1, _⟩ | ⟨g', cap', cur, h1, hbg, hg, hnc, hcm, hcs, htake⟩
  · cases h1
  · simp only [Value.slice.injEq, Option.some.injEq, Addr.mk.injEq, and_true, true_and] at h1
    obtain ⟨rfl, rfl⟩ := h1
    have hcs' : cur.size = cap := by simpa using hcs
    have ht' : cur.toList.take n = U zs := by simpa using htake
    by_cases hfits : n + str.size ≤ cap
    · have hr := Lib.run_append_room_string (P := P) w t u o.type e i ht hu hi hsize g n cap cur hg str hfits (by omega)
      have hk := h (.slice (some ⟨g, 0, none⟩) (n + str.size) cap) (w.setRow g (cur.toList.take n ++ Lib.strCells str ++ cur.toList.drop (n + str.size)).toArray)
        ⟨hlen, .inr ⟨g, cap, _, rfl, hbg, setRow_heap w g cur _ e _ hg, hfits, hcm, by simp only [List.size_toArray, List.length_append, List.length_take, List.length_drop, Array.length_toList, Lib.strCells_length]; omega, by
          rw [ht', hU, ← hlen, hU]
          exact List.take_left⟩⟩
        ⟨rfl, rfl, rfl, by simp, fun k _ hk => setRow_other w g k _ (fun e => hk (by simp [e, Value.ownBlock]))⟩ (.inl rfl)
      unfold Oper.wp
      simp only [execOp, ho, resolve, invoke, builtin, Sem.run_bind, Sem.run_pure, Result.andThen_ok, List.map_toArray, List.map_cons, List.map_nil, hs, hx, hr]
      exact hK _ _ hk
    · have holds : ∀ j u, (U zs)[j]? = some u → w.cell? ((⟨g, 0, none⟩ : Addr).add j) = some u := hown.cells (g := g) rfl
      have hcap : Builtin.nextslicecap (n + str.size) cap ≤ 281474976710656 := Nat.le_trans (next_le (by omega)) (by omega)
      have hr := Lib.run_append_grow_string (P := P) w t u o.type e i (.int .u8 0) ht hu hi hz ⟨g, 0, none⟩ n cap (U zs) (by rw [hsize, hxl]; omega) holds str (by omega) (by omega) (by rw [hby]; omega)
      have hge := grownCap_ge w (n + str.size) cap e
      have hcm2 : grownCap w (n + str.size) cap e ≤ maxLen := grownCap_le_maxLen w (n + str.size) cap e (by unfold maxLen; omega)
      have hk := h (.slice (some ⟨w.heap.size, 0, none⟩) (n + str.size) (grownCap w (n + str.size) cap e)) (w.drew.alloc (.cells ((U zs).toArray ++ (Lib.strCells str).toArray ++ Builtin.zeroCells (Value.int .u8 0).cells (grownCap w (n + str.size) cap e - (n + str.size))) e))
        ⟨hlen, .inr ⟨w.heap.size, _, _, rfl, hbase, heap_alloc_new w.drew _, hge, hcm2, by
            have hz1 : (Value.int IntKind.u8 0).cells.size = 1 := rfl
            simp only [Array.size_append, List.size_toArray, size_zeroCells, hz1, hxl, Lib.strCells_length]
            omega, by
            simp only [Array.toList_append, List.append_assoc]
            rw [← List.append_assoc, ← hU, ← hlen]
            exact List.take_left⟩⟩
        ⟨rfl, rfl, rfl, by simp, fun k hk _ => Below.heap_alloc w.drew _ k hk⟩ (.inr fun k hk => by simp only [Value.ownBlock, Option.some.injEq] at hk; omega)
      unfold Oper.wp
      simp only [execOp, ho, resolve, invoke, builtin, Sem.run_bind, Sem.run_pure, Result.andThen_ok, List.map_toArray, List.map_cons, List.map_nil, hs, hx, hr]
      exact hK _ _ hk
end

theorem puts_take {α : Type} (c : Cod.Way α) (l : List α) (k : Nat) (h : k < l.length) : Cod.puts c (l.take (k + 1)) = Cod.puts c (l.take k) ++ c.put l[k] := by
  rw [List.take_succ_eq_append_getElem h, Cod.puts_append]
  simp [Cod.puts]

theorem puts_len {α : Type} (c : Cod.Way α) (l : List α) (k : Nat) : (Cod.puts c (l.take k)).length ≤ (Cod.puts c l).length := by
  have h : Cod.puts c (l.take k) ++ Cod.puts c (l.drop k) = Cod.puts c l := by rw [← Cod.puts_append, List.take_append_drop]
  rw [← h, List.length_append]
  omega

theorem list_put {α : Type} (c : Cod.Way α) (l : List α) (n : Nat) (h : l.length = n) : (Cod.list c).put l = vb n ++ Cod.puts c l := by rw [← h]; rfl

end Go.Proofs.Ytnimfkcnkkjlkaa

/-
  The document's bytes put together: each method appends to what is owned.
-/
namespace Go.Proofs.Ytnimfkcnkkjlkaa
open Go.RowKit
set_option maxRecDepth 100000

/-- Bytes that are put together behind what was there in Wb: they were v0 in W0, and are v now; nothing but v0's own row has turned. -/
structure St (Wb : World) (v0 : Value) (W0 : World) (zs : List Int) (v : Value) (w : World) : Prop where
  low : Below Wb.heap.size Wb W0
  ge : ∀ k, v0.ownBlock = some k → Wb.heap.size ≤ k ∧ k < W0.heap.size
  own : w.ownsRow Wb.heap.size 5 1 v zs.length (U zs)
  grown : W0.grownBy w v0.ownBlock
  went : Goes W0 v0 v

section
variable {Wb W0 W w w' : World} {v0 v v' : Value} {zs ys : List Int}

theorem St.below (h : St Wb v0 W0 zs v w) : Below Wb.heap.size Wb w := h.low.grown h.grown h.low.size (fun k hk => (h.ge k hk).1)

theorem St.size (h : St Wb v0 W0 zs v w) : Wb.heap.size ≤ w.heap.size := h.below.size

theorem St.keep (h : St Wb v0 W0 zs v w) (hb : Below w.heap.size w w') : St Wb v0 W0 zs v w' :=
  ⟨h.low, h.ge, own_keep h.own hb, ⟨hb.os.trans h.grown.os, hb.tape.trans h.grown.tape, hb.output.trans h.grown.output, Nat.le_trans h.grown.size hb.size, fun k hk hne => (hb.block k (Nat.lt_of_lt_of_le hk h.grown.size)).trans (h.grown.block k hk hne)⟩, h.went⟩

theorem St.grow (h : St Wb v0 W0 zs v w) (ho : w'.ownsRow Wb.heap.size 5 1 v' ys.length (U ys)) (hg : w.grownBy w' v.ownBlock) (hw : Goes w v v') : St Wb v0 W0 ys v' w' := by
  refine ⟨h.low, h.ge, ho, ⟨hg.os.trans h.grown.os, hg.tape.trans h.grown.tape, hg.output.trans h.grown.output, Nat.le_trans h.grown.size hg.size, fun k hk hne => ?_⟩, ?_⟩
  · refine (hg.block k (Nat.lt_of_lt_of_le hk h.grown.size) ?_).trans (h.grown.block k hk hne)
    rcases h.went with e | e
    · rw [e]
      exact hne
    · intro e2
      have := e k e2.symm
      omega
  · rcases hw with e | e
    · unfold Goes
      rw [e]
      exact h.went
    · exact .inr fun k hk => Nat.le_trans h.grown.size (e k hk)

/-- Whatever was there, and is not the row, stays. -/
theorem St.cell (h : St Wb v0 W0 zs v w) {a : Addr} {x : Value} (hc : W0.cell? a = some x) (hne : v0.ownBlock ≠ some a.block) : w.cell? a = some x :=
  (World.cell?_of_block (h.grown.block a.block (cell_lt hc) (fun e => hne e.symm))).trans hc

theorem St.refl (h : w.ownsRow Wb.heap.size 5 1 v zs.length (U zs)) (hb : Below Wb.heap.size Wb w) : St Wb v w zs v w :=
  ⟨hb, fun k hk => h.lt k hk, h, World.grownBy.refl _ _, .inl rfl⟩

/-- From here on anew, with what was made meanwhile. -/
theorem St.anew (h : St Wb v0 W0 zs v w) (hb : Below w.heap.size w W) : St Wb v W zs v W := St.refl (own_keep h.own hb) (h.keep hb).below

theorem St.trans (h : St Wb v0 W0 zs v w) (hb : Below w.heap.size w W) (k : St Wb v W ys v' w') : St Wb v0 W0 ys v' w' :=
  (h.keep hb).grow k.own k.grown k.went
end

/-- What a method of theirs does. -/
def Pt (Wb : World) (v0 : Value) (W0 : World) (zs : List Int) (e : Ending) (w' : World) : Prop := ∃ v', e = .returned v' ∧ St Wb v0 W0 zs v' w'

section
variable {Wb W0 w : World} {v0 v : Value} {zs : List Int}

set_option maxHeartbeats 1000000 in
theorem bnum_any (n : Int) (h1 : -9223372036854775808 ≤ n) (h2 : n ≤ 9223372036854775807) (hS : St Wb v0 W0 zs v w) (hr : (zs ++ vb (fo n)).length ≤ 140737488355328) :
    Calls Try.prog 39 #[v, .int .i64 n] w (Pt Wb v0 W0 (zs ++ vb (fo n))) := by
  obtain ⟨i0, hi, hz0, hz1, hz2⟩ := info_parts info5
  have h10 := vb_len10 (fo_lt h1 h2)
  rw [List.length_append] at hr
  have HS := hide hS
  clear hS
  go_enter Try.func39, Try.ntmps39
  go_wp2_with fail
  refine (refPutInt_any none 0 0 [] n h1 h2 w (Bs.nil _) (by omega)).mono ?_
  rintro e w1 ⟨g, d, rfl, hB, hb⟩
  rw [Nat.zero_add, List.nil_append] at hB
  rw [Nat.zero_add]
  have HS1 := hide (HS.out.keep hb)
  have hs1 := HS1.out.size
  go_wp2_with (at_builtin; refine wpList_append_two rfl (.tmp 5) (.tmp 7) 93 22 rfl Wb.heap.size 5 5 i0 Try.underlying93 Try.underlying22 hi hz0 hz1 hz2 _ zs.length zs rfl HS1.out.own _ _ _ _ rfl hB (by omega) (by omega) ?_; intro v3 w3 ho3 hgr3 hgo3)
  go_ret
  exact ⟨v3, rfl, HS1.out.grow (by rw [List.length_append]; exact ho3) hgr3 hgo3⟩

set_option maxHeartbeats 1000000 in
theorem bsize_any (n : Nat) (h2 : n ≤ 9223372036854775807) (hS : St Wb v0 W0 zs v w) (hr : (zs ++ vb n).length ≤ 140737488355328) :
    Calls Try.prog 52 #[v, .int .i64 (n : Int)] w (Pt Wb v0 W0 (zs ++ vb n)) := by
  obtain ⟨i0, hi, hz0, hz1, hz2⟩ := info_parts info5
  have h10 := vb_len10 (show n < 18446744073709551616 by omega)
  have RB := hide (fun w => refBytes_any n (by omega) w)
  rw [List.length_append] at hr
  have HS := hide hS
  clear hS
  go_enter Try.func52, Try.ntmps52
  go_wp2_with fail
  refine (RB.out _).mono ?_
  rintro e w1 ⟨g, d, rfl, ho, hb⟩
  have hB := own_bs ho (vb_byte n)
  have HS1 := hide (HS.out.keep hb)
  have hs1 := HS1.out.size
  clear ho
  go_wp2_with (at_builtin; refine wpList_append_two rfl (.tmp 5) (.tmp 8) 93 22 rfl Wb.heap.size 5 5 i0 Try.underlying93 Try.underlying22 hi hz0 hz1 hz2 _ zs.length zs rfl HS1.out.own _ _ _ _ rfl hB (by omega) (by omega) ?_; intro v3 w3 ho3 hgr3 hgo3)
  go_ret
  exact ⟨v3, rfl, HS1.out.grow (by rw [List.length_append]; exact ho3) hgr3 hgo3⟩

set_option maxHeartbeats 1000000 in
theorem bdata_any (c : Option Addr) (m d : Nat) (xs : List Int) (hB : Bs Wb c m d xs) (hS : St Wb v0 W0 zs v w) (hr : (zs ++ Cod.data.put xs).length ≤ 140737488355328) :
    Calls Try.prog 53 #[v, .slice c m d] w (Pt Wb v0 W0 (zs ++ Cod.data.put xs)) := by
  obtain ⟨i0, hi, hz0, hz1, hz2⟩ := info_parts info5
  have hl := hB.len
  have hle := hB.le
  have hre := hB.reach
  have ez : zs ++ Cod.data.put xs = zs ++ vb m ++ xs := by simp [Cod.data, hl]
  rw [ez] at hr ⊢
  clear ez
  rw [List.length_append] at hr
  go_enter Try.func53, Try.ntmps53
  go_wp2_with fail
  refine (bsize_any m (by omega) hS (by omega)).mono ?_
  rintro e w1 ⟨v1, rfl, hS1⟩
  have hB1 := hB.keep hS1.below
  have hs1 := hS1.size
  have HS1 := hide hS1
  clear hS1 hS
  go_wp2_with (at_builtin; refine wpList_append_two rfl (.tmp 8) (.tmp 9) 93 22 rfl Wb.heap.size 5 5 i0 Try.underlying93 Try.underlying22 hi hz0 hz1 hz2 _ _ (zs ++ vb m) rfl HS1.out.own _ _ _ _ rfl hB1 (by omega) (by omega) ?_; intro v3 w3 ho3 hgr3 hgo3)
  go_ret
  exact ⟨v3, rfl, HS1.out.grow (by rw [List.length_append, hl]; exact ho3) hgr3 hgo3⟩

set_option maxHeartbeats 1000000 in
theorem btext_any (s : ByteArray) (hS : St Wb v0 W0 zs v w) (hr : (zs ++ Cod.data.put (sb s)).length ≤ 140737488355328) :
    Calls Try.prog 46 #[v, .string s] w (Pt Wb v0 W0 (zs ++ Cod.data.put (sb s))) := by
  obtain ⟨i0, hi, hz0, hz1, hz2⟩ := info_parts info5
  have hl := sb_length s
  have ez : zs ++ Cod.data.put (sb s) = zs ++ vb s.size ++ sb s := by simp [Cod.data, hl]
  rw [ez] at hr ⊢
  clear ez
  rw [List.length_append] at hr
  have hp := vb_pos s.size
  go_enter Try.func46, Try.ntmps46
  go_wp2_with fail
  refine (bsize_any s.size (by omega) hS (by omega)).mono ?_
  rintro e w1 ⟨v1, rfl, hS1⟩
  have hs1 := hS1.size
  have HS1 := hide hS1
  clear hS1 hS
  go_wp2_with (at_builtin; refine wpList_append_text rfl (.tmp 8) (.tmp 9) 93 9 rfl Wb.heap.size 5 i0 Try.underlying93 Try.underlying9 hi hz0 hz1 hz2 _ _ (zs ++ vb s.size) rfl HS1.out.own (by rw [List.length_append]; omega) s rfl (by omega) (by omega) ?_; intro v3 w3 ho3 hgr3 hgo3)
  go_ret
  exact ⟨v3, rfl, HS1.out.grow (by rw [List.length_append, hl]; exact ho3) hgr3 hgo3⟩
end

end Go.Proofs.Ytnimfkcnkkjlkaa

/-
  The document's bytes put together: lists.
-/
namespace Go.Proofs.Ytnimfkcnkkjlkaa
open Go.RowKit
set_option maxRecDepth 100000

section
variable {Wb W0 w : World} {v0 v : Value} {zs : List Int}

set_option maxHeartbeats 1000000 in
theorem brecords_any (a : Option Addr) (n cap : Nat) (l : List (List Int)) (hR : Sq RBytes 1 Wb a n cap l) (hS : St Wb v0 W0 zs v w) (hr : (zs ++ (Cod.list Cod.data).put l).length ≤ 140737488355328) :
    Calls Try.prog 50 #[v, .slice a n cap] w (Pt Wb v0 W0 (zs ++ (Cod.list Cod.data).put l)) := by
  have hl := hR.len
  have hle := hR.le
  have hre := hR.reach
  have ez : zs ++ (Cod.list Cod.data).put l = zs ++ vb n ++ Cod.puts Cod.data l := by rw [list_put _ _ n hl, List.append_assoc]
  rw [ez] at hr ⊢
  clear ez
  rw [List.length_append] at hr
  go_enter Try.func50, Try.ntmps50
  go_wp2_with fail
  refine (bsize_any n (by omega) hS (by omega)).mono ?_
  rintro e w1 ⟨v1, rfl, hS1⟩
  have HS1 := hide hS1
  clear hS1 hS
  go_wp2_with fail
  go_loopw [0, 5] (fun x i wr => ∃ k : Nat, k ≤ n ∧ i = .int .i64 k ∧ Hid (St Wb v0 W0 (zs ++ vb n ++ Cod.puts Cod.data (l.take k)) x wr)) (fun _ i _ => n - (intOf i).toNat)
  case atStart => exact ⟨0, Nat.zero_le _, rfl, hide (by simpa [Cod.puts] using HS1.out)⟩
  case round =>
    obtain ⟨k, hk, rfl, hS⟩ := hrel
    by_cases hlt : k < n
    · obtain ⟨b1, o1, rfl, hc1⟩ := hR.lies (by omega)
      obtain ⟨p1, m1, d1, hk0, hBk⟩ := hc1 k (by omega)
      rw [Nat.mul_one] at hk0
      have hk1 := cell_keep hk0 hS.out.below
      have et := puts_take Cod.data l k (by omega)
      have el := puts_len Cod.data l (k + 1)
      have ET := hide et
      rw [et] at el
      clear et
      go_wp2_with fail
      refine (bdata_any p1 m1 d1 _ hBk hS.out (by simp only [List.length_append] at *; omega)).mono ?_
      rintro e w2 ⟨v2, rfl, hS2⟩
      have HS2 := hide hS2
      clear hS2
      go_wp2_with fail
      go_roundw
      case rel => exact ⟨k + 1, by omega, by go_num, hide (by rw [ET.out, ← List.append_assoc]; exact HS2.out)⟩
      case measure => simp [intOf]; omega
    · obtain rfl : k = n := by omega
      have hS' := hS.out
      rw [List.take_of_length_le (by omega)] at hS'
      have HS := hide hS'
      clear hS'
      go_wp2_with fail
      go_ret
      exact ⟨_, rfl, HS.out⟩

set_option maxHeartbeats 1000000 in
theorem btexts_any (a : Option Addr) (n cap : Nat) (l : List (List Int)) (hR : Sq RText 1 Wb a n cap l) (hS : St Wb v0 W0 zs v w) (hr : (zs ++ (Cod.list Cod.data).put l).length ≤ 140737488355328) :
    Calls Try.prog 82 #[v, .slice a n cap] w (Pt Wb v0 W0 (zs ++ (Cod.list Cod.data).put l)) := by
  have hl := hR.len
  have hle := hR.le
  have hre := hR.reach
  have ez : zs ++ (Cod.list Cod.data).put l = zs ++ vb n ++ Cod.puts Cod.data l := by rw [list_put _ _ n hl, List.append_assoc]
  rw [ez] at hr ⊢
  clear ez
  rw [List.length_append] at hr
  go_enter Try.func82, Try.ntmps82
  go_wp2_with fail
  refine (bsize_any n (by omega) hS (by omega)).mono ?_
  rintro e w1 ⟨v1, rfl, hS1⟩
  have HS1 := hide hS1
  clear hS1 hS
  go_wp2_with fail
  go_loopw [0, 5] (fun x i wr => ∃ k : Nat, k ≤ n ∧ i = .int .i64 k ∧ Hid (St Wb v0 W0 (zs ++ vb n ++ Cod.puts Cod.data (l.take k)) x wr)) (fun _ i _ => n - (intOf i).toNat)
  case atStart => exact ⟨0, Nat.zero_le _, rfl, hide (by simpa [Cod.puts] using HS1.out)⟩
  case round =>
    obtain ⟨k, hk, rfl, hS⟩ := hrel
    by_cases hlt : k < n
    · obtain ⟨b1, o1, rfl, hc1⟩ := hR.lies (by omega)
      obtain ⟨s1, hk0, hBk, _⟩ := hc1 k (by omega)
      rw [Nat.mul_one] at hk0
      have hk1 := cell_keep hk0 hS.out.below
      have et := puts_take Cod.data l k (by omega)
      have el := puts_len Cod.data l (k + 1)
      have ET := hide et
      rw [et] at el
      clear et
      rw [← hBk] at ET el
      go_wp2_with fail
      refine (btext_any s1 hS.out (by simp only [List.length_append] at *; omega)).mono ?_
      rintro e w2 ⟨v2, rfl, hS2⟩
      have HS2 := hide hS2
      clear hS2
      go_wp2_with fail
      go_roundw
      case rel => exact ⟨k + 1, by omega, by go_num, hide (by rw [ET.out, ← List.append_assoc]; exact HS2.out)⟩
      case measure => simp [intOf]; omega
    · obtain rfl : k = n := by omega
      have hS' := hS.out
      rw [List.take_of_length_le (by omega)] at hS'
      have HS := hide hS'
      clear hS'
      go_wp2_with fail
      go_ret
      exact ⟨_, rfl, HS.out⟩
end

end Go.Proofs.Ytnimfkcnkkjlkaa

/-
  The document's bytes put together: structs, each read out of a box of its own.
-/
namespace Go.Proofs.Ytnimfkcnkkjlkaa
open Go.RowKit
set_option maxRecDepth 100000

section
variable {Wb W0 w : World} {v0 v : Value} {zs : List Int}

/-- A struct that was laid into a box: its cells are read there as long as bytes are put together. -/
theorem St.box (hS : St Wb v0 W0 zs v w) (cs : Array Value) (t : TypeId) : ∀ zs' v' V, St Wb v (w.alloc (.cells cs t)) zs' v' V → ∀ i x, cs[i]? = some x → V.cell? ⟨w.heap.size, i, none⟩ = some x := by
  intro zs' v' V h i x hx
  refine h.cell ?_ ?_
  · rw [cell_of_row _ _ i _ t (0, 0) (heap_alloc_new w _)]
    exact hx
  · intro e
    have := hS.own.lt _ e
    simp only at this
    omega

theorem St.boxed (hS : St Wb v0 W0 zs v w) (cs : Array Value) (t : TypeId) : ∃ W, Hid (W = w.alloc (.cells cs t)) ∧ St Wb v W zs v W.drew ∧ Hid (∀ ys v' w', St Wb v W ys v' w' → St Wb v0 W0 ys v' w') ∧
    (∀ zs' v' V, St Wb v W zs' v' V → ∀ i x, cs[i]? = some x → V.cell? ⟨w.heap.size, i, none⟩ = some x) :=
  ⟨_, hide rfl, (hS.anew (fresh w _)).keep (Below.refl _ _).drew, hide fun _ _ _ k => hS.trans (fresh w _) k, hS.box cs t⟩

set_option maxHeartbeats 1000000 in
theorem bplace_any (s : ByteArray) (p : Int) (h1 : -9223372036854775808 ≤ p) (h2 : p ≤ 9223372036854775807) (hS : St Wb v0 W0 zs v w) (hr : (zs ++ Cod.place.put ⟨sb s, p⟩).length ≤ 140737488355328) :
    Calls Try.prog 83 #[v, .agg #[.string s, .int .i64 p]] w (Pt Wb v0 W0 (zs ++ Cod.place.put ⟨sb s, p⟩)) := by
  have ez : zs ++ Cod.place.put ⟨sb s, p⟩ = zs ++ Cod.data.put (sb s) ++ vb (fo p) := by
    rw [List.append_assoc]
    rfl
  rw [ez] at hr ⊢
  clear ez
  obtain ⟨W, HW, hA, HT, hk⟩ := hS.boxed #[.string s, .int .i64 p] (35 : TypeId)
  have HK : Hid (∀ zs' v' V, St Wb v W zs' v' V → V.cell? ⟨w.heap.size, 0, none⟩ = some (.string s) ∧ V.cell? ⟨w.heap.size, 1, none⟩ = some (.int .i64 p)) := hide fun zs' v' V h => ⟨hk _ _ _ h 0 _ rfl, hk _ _ _ h 1 _ rfl⟩
  clear hS hk
  go_enter Try.func83, Try.ntmps83
  go_wp2_with fail
  rw [← HW.out]
  go_region_held3 (fun V => V.cell? ⟨w.heap.size, 0, none⟩ = some (.string s) ∧ V.cell? ⟨w.heap.size, 1, none⟩ = some (.int .i64 p))
    (exact HK.out _ _ _ (by assumption))
    (first
      | (go_at_call 46; refine (btext_any s hA (by simp only [List.length_append] at *; omega)).mono ?_; rintro e w1 ⟨v1, rfl, hS1⟩)
      | (go_at_call 39; refine (bnum_any p h1 h2 hS1 hr).mono ?_; rintro e w2 ⟨v2, rfl, hS2⟩))
  all_goals
    go_split_ands
    go_wp2_with fail
    go_ret
    exact ⟨_, rfl, HT.out _ _ _ hS2⟩
end

end Go.Proofs.Ytnimfkcnkkjlkaa

/-
  The document's bytes put together: lists of structs.
-/
namespace Go.Proofs.Ytnimfkcnkkjlkaa
open Go.RowKit
set_option maxRecDepth 100000

section
variable {Wb W0 w : World} {v0 v : Value} {zs : List Int}

set_option maxHeartbeats 1000000 in
theorem bplaces_any (a : Option Addr) (n cap : Nat) (l : List Cod.Place) (hR : Sq RPlace 2 Wb a n cap l) (hS : St Wb v0 W0 zs v w) (hr : (zs ++ (Cod.list Cod.place).put l).length ≤ 140737488355328) :
    Calls Try.prog 85 #[v, .slice a n cap] w (Pt Wb v0 W0 (zs ++ (Cod.list Cod.place).put l)) := by
  have hl := hR.len
  have hle := hR.le
  have hre := hR.reach
  have ez : zs ++ (Cod.list Cod.place).put l = zs ++ vb n ++ Cod.puts Cod.place l := by rw [list_put _ _ n hl, List.append_assoc]
  rw [ez] at hr ⊢
  clear ez
  rw [List.length_append] at hr
  go_enter Try.func85, Try.ntmps85
  go_wp2_with fail
  refine (bsize_any n (by omega) hS (by omega)).mono ?_
  rintro e w1 ⟨v1, rfl, hS1⟩
  have HS1 := hide hS1
  clear hS1 hS
  go_wp2_with fail
  go_loopw [0, 5] (fun x i wr => ∃ k : Nat, k ≤ n ∧ i = .int .i64 k ∧ Hid (St Wb v0 W0 (zs ++ vb n ++ Cod.puts Cod.place (l.take k)) x wr)) (fun _ i _ => n - (intOf i).toNat)
  case atStart => exact ⟨0, Nat.zero_le _, rfl, hide (by simpa [Cod.puts] using HS1.out)⟩
  case round =>
    obtain ⟨k, hk, rfl, hS⟩ := hrel
    by_cases hlt : k < n
    · obtain ⟨b1, o1, rfl, hc1⟩ := hR.lies (by omega)
      have hrd := rPlace.keep (hc1 k (by omega)) hS.out.below
      have et := puts_take Cod.place l k (by omega)
      have el := puts_len Cod.place l (k + 1)
      rw [et] at el
      have ET := hide et
      clear et hc1
      generalize l[k] = x at hrd ET el
      obtain ⟨t, p⟩ := x
      obtain ⟨⟨s, q0, rfl, _⟩, q1, h1, h2⟩ := hrd
      unfold RNum at q1
      simp only at q0 q1 h1 h2
      go_wp2_with fail
      refine (bplace_any s p h1 h2 hS.out (by simp only [List.length_append] at *; omega)).mono ?_
      rintro e w2 ⟨v2, rfl, hS2⟩
      have HS2 := hide hS2
      clear hS2
      go_wp2_with fail
      go_roundw
      case rel => exact ⟨k + 1, by omega, by go_num, hide (by rw [ET.out, ← List.append_assoc]; exact HS2.out)⟩
      case measure => simp [intOf]; omega
    · obtain rfl : k = n := by omega
      have hS' := hS.out
      rw [List.take_of_length_le (by omega)] at hS'
      have HS := hide hS'
      clear hS'
      go_wp2_with fail
      go_ret
      exact ⟨_, rfl, HS.out⟩
end

end Go.Proofs.Ytnimfkcnkkjlkaa

/-
  The document's bytes put together: batches, commands, answers.
-/
namespace Go.Proofs.Ytnimfkcnkkjlkaa
open Go.RowKit
set_option maxRecDepth 100000

theorem St.drew {Wb W0 w : World} {v0 v : Value} {zs : List Int} (h : St Wb v0 W0 zs v w) : St Wb v0 W0 zs v w.drew := h.keep (Below.refl _ _).drew

section
variable {Wb W0 w : World} {v0 v : Value} {zs : List Int}

set_option maxHeartbeats 1000000 in
theorem bbatch_any (p e f : Int) (hp : I64 p) (he : I64 e) (hf : I64 f) (a : Option Addr) (n cap : Nat) (l : List (List Int)) (hR : Sq RBytes 1 Wb a n cap l) (hS : St Wb v0 W0 zs v w) (hr : (zs ++ Cod.batch.put ⟨p, e, f, l⟩).length ≤ 140737488355328) :
    Calls Try.prog 40 #[v, .agg #[.int .i64 p, .int .i64 e, .int .i64 f, .slice a n cap]] w (Pt Wb v0 W0 (zs ++ Cod.batch.put ⟨p, e, f, l⟩)) := by
  have ez : zs ++ Cod.batch.put ⟨p, e, f, l⟩ = zs ++ vb (fo p) ++ vb (fo e) ++ vb (fo f) ++ (Cod.list Cod.data).put l := by
    simp only [List.append_assoc]
    rfl
  rw [ez] at hr ⊢
  clear ez
  simp only [List.length_append] at hr
  obtain ⟨W, HW, hA, HT, hk⟩ := hS.boxed #[.int .i64 p, .int .i64 e, .int .i64 f, .slice a n cap] (26 : TypeId)
  have HK : Hid (∀ zs' v' V, St Wb v W zs' v' V → V.cell? ⟨w.heap.size, 0, none⟩ = some (.int .i64 p) ∧ V.cell? ⟨w.heap.size, 1, none⟩ = some (.int .i64 e) ∧ V.cell? ⟨w.heap.size, 2, none⟩ = some (.int .i64 f) ∧ V.cell? ⟨w.heap.size, 3, none⟩ = some (.slice a n cap)) := hide fun zs' v' V h => ⟨hk _ _ _ h 0 _ rfl, hk _ _ _ h 1 _ rfl, hk _ _ _ h 2 _ rfl, hk _ _ _ h 3 _ rfl⟩
  clear hS hk
  go_enter Try.func40, Try.ntmps40
  go_wp2_with fail
  rw [← HW.out]
  go_region_held3 (fun V => V.cell? ⟨w.heap.size, 0, none⟩ = some (.int .i64 p) ∧ V.cell? ⟨w.heap.size, 1, none⟩ = some (.int .i64 e) ∧ V.cell? ⟨w.heap.size, 2, none⟩ = some (.int .i64 f) ∧ V.cell? ⟨w.heap.size, 3, none⟩ = some (.slice a n cap))
    (exact HK.out _ _ _ (by assumption))
    (first
      | (go_at_call 39; refine (bnum_any _ (And.left (by assumption)) (And.right (by assumption)) (by assumption) (by simp only [List.length_append]; omega)).mono ?_; rintro e w1 ⟨v1, rfl, hS1⟩)
      | (go_at_call 50; refine (brecords_any _ _ _ l hR (by assumption) (by simp only [List.length_append]; omega)).mono ?_; rintro e w1 ⟨v1, rfl, hS1⟩))
  all_goals
    go_split_ands
    go_wp2_with fail
    go_ret
    exact ⟨_, rfl, HT.out _ _ _ (by assumption)⟩
end

end Go.Proofs.Ytnimfkcnkkjlkaa

/-
  The document's bytes of a whole thing.
-/
namespace Go.Proofs.Ytnimfkcnkkjlkaa
open Go.RowKit
set_option maxRecDepth 100000

/-- Bytes that a function answers with: new, and nothing that was there has turned. -/
def Pd (w : World) (zs : List Int) (e : Ending) (w' : World) : Prop := ∃ v', e = .returned v' ∧ w'.ownsRow w.heap.size 5 1 v' zs.length (U zs) ∧ Below w.heap.size w w'

theorem St.pd {w W0 w' : World} {v0 v' : Value} {zs : List Int} (h : St w v0 W0 zs v' w') : Pd w zs (.returned v') w' := ⟨v', rfl, h.own, h.below⟩

/-- The first byte, in a row of its own. -/
theorem St.first {w W : World} (hb : Below w.heap.size w W) (k : Int) : St w (.slice (some ⟨W.heap.size, 0, none⟩) 1 1) (W.alloc (.cells #[.int .u8 k] 5)) [k] (.slice (some ⟨W.heap.size, 0, none⟩) 1 1) (W.alloc (.cells #[.int .u8 k] 5)) := by
  refine St.refl ⟨rfl, .inr ⟨W.heap.size, 1, _, rfl, hb.size, heap_alloc_new W _, Nat.le_refl _, by unfold maxLen; omega, rfl, rfl⟩⟩ (hb.alloc hb.size _)

theorem boxes (w : World) (cs : Array Value) (t : TypeId) (k : Int) : ∃ W H, Hid (W = w.alloc (.cells cs t)) ∧ Hid (H = [k]) ∧ Hid (∀ V, Below W.heap.size W V → ∀ i x, cs[i]? = some x → V.cell? ⟨w.heap.size, i, none⟩ = some x) ∧
    St w (.slice (some ⟨W.heap.size, 0, none⟩) 1 1) (W.alloc (.cells #[.int .u8 k] 5)) H (.slice (some ⟨W.heap.size, 0, none⟩) 1 1) (W.alloc (.cells #[.int .u8 k] 5)).drew ∧
    Hid (∀ zs' v' V, St w (.slice (some ⟨W.heap.size, 0, none⟩) 1 1) (W.alloc (.cells #[.int .u8 k] 5)) zs' v' V → ∀ i x, cs[i]? = some x → V.cell? ⟨w.heap.size, i, none⟩ = some x) := by
  have hw : (w.alloc (.cells cs t)).heap.size = w.heap.size + 1 := by simp
  refine ⟨_, _, hide rfl, hide rfl, hide fun V hV i x hx => ?_, (St.first (fresh w _) k).drew, hide fun zs' v' V h i x hx => ?_⟩
  · refine cell_keep ?_ hV
    rw [cell_of_row _ _ i _ t (0, 0) (heap_alloc_new w _)]
    exact hx
  · refine h.cell (cell_keep ?_ (fresh (w.alloc (.cells cs t)) _)) ?_
    · rw [cell_of_row _ _ i _ t (0, 0) (heap_alloc_new w _)]
      exact hx
    · intro e
      simp only [Value.ownBlock, Option.some.injEq] at e
      omega

set_option maxHeartbeats 1000000 in
theorem part_any (k p e f o : Int) (hk : 0 ≤ k ∧ k ≤ 255) (hp : I64 p) (he : I64 e) (hf : I64 f) (ho : I64 o) (a : Option Addr) (n cap : Nat) (l : List (List Int)) (w : World) (hR : Sq RBytes 1 w a n cap l) (hr : (Cod.thing Cod.part 1 ⟨k, ⟨p, e, f, l⟩, o⟩).length ≤ 140737488355328) :
    Calls Try.prog 15 #[.agg #[.int .u8 k, .int .i64 p, .int .i64 e, .int .i64 f, .slice a n cap, .int .i64 o]] w (Pd w (Cod.thing Cod.part 1 ⟨k, ⟨p, e, f, l⟩, o⟩)) := by
  obtain ⟨W, H, HW, HH, HK0, hA, HK1⟩ := boxes w #[.int .u8 k, .int .i64 p, .int .i64 e, .int .i64 f, .slice a n cap, .int .i64 o] (28 : TypeId) 1
  have ez : Cod.thing Cod.part 1 ⟨k, ⟨p, e, f, l⟩, o⟩ = H ++ vb (fo (IntKind.i64.wrap k)) ++ Cod.batch.put ⟨p, e, f, l⟩ ++ vb (fo o) := by
    rw [HH.out, wrap_u8 hk]
    simp only [List.append_assoc]
    rfl
  rw [ez] at hr ⊢
  clear ez
  simp only [List.length_append] at hr
  have hk64 : I64 (IntKind.i64.wrap k) := by rw [wrap_u8 hk]; exact ⟨by omega, by omega⟩
  go_enter Try.func15, Try.ntmps15
  go_wp2_with fail
  rw [← HW.out]
  go_region_held3 (fun V => V.cell? ⟨w.heap.size, 0, none⟩ = some (.int .u8 k) ∧ V.cell? ⟨w.heap.size, 1, none⟩ = some (.int .i64 p) ∧ V.cell? ⟨w.heap.size, 2, none⟩ = some (.int .i64 e) ∧ V.cell? ⟨w.heap.size, 3, none⟩ = some (.int .i64 f) ∧ V.cell? ⟨w.heap.size, 4, none⟩ = some (.slice a n cap) ∧ V.cell? ⟨w.heap.size, 5, none⟩ = some (.int .i64 o))
    (first
      | exact ⟨HK1.out _ _ _ (by assumption) 0 _ rfl, HK1.out _ _ _ (by assumption) 1 _ rfl, HK1.out _ _ _ (by assumption) 2 _ rfl, HK1.out _ _ _ (by assumption) 3 _ rfl, HK1.out _ _ _ (by assumption) 4 _ rfl, HK1.out _ _ _ (by assumption) 5 _ rfl⟩
      | (have hb := (Below.refl W.heap.size W).drew; exact ⟨HK0.out _ hb 0 _ rfl, HK0.out _ hb 1 _ rfl, HK0.out _ hb 2 _ rfl, HK0.out _ hb 3 _ rfl, HK0.out _ hb 4 _ rfl, HK0.out _ hb 5 _ rfl⟩))
    (first
      | (go_at_call 39; refine (bnum_any _ (And.left (by assumption)) (And.right (by assumption)) (by assumption) (by simp only [List.length_append]; omega)).mono ?_; rintro e w1 ⟨v1, rfl, hS1⟩)
      | (go_at_call 40; refine (bbatch_any p e f hp he hf _ _ _ l hR (by assumption) (by simp only [List.length_append]; omega)).mono ?_; rintro e w1 ⟨v1, rfl, hS1⟩))
  all_goals
    go_split_ands
    go_wp2_with fail
    go_ret
    exact St.pd (by assumption)

end Go.Proofs.Ytnimfkcnkkjlkaa

/-
  The document's bytes put together: bools, commands, answers, requests.
-/
namespace Go.Proofs.Ytnimfkcnkkjlkaa
open Go.RowKit
set_option maxRecDepth 100000

section
variable {Wb W0 w : World} {v0 v : Value} {zs : List Int}

set_option maxHeartbeats 1000000 in
theorem bbool_any (b : Bool) (hS : St Wb v0 W0 zs v w) (hr : (zs ++ Cod.bool.put b).length ≤ 140737488355328) :
    Calls Try.prog 49 #[v, .bool b] w (Pt Wb v0 W0 (zs ++ Cod.bool.put b)) := by
  obtain ⟨i0, hi, hz0, hz1, hz2⟩ := info_parts info5
  have hl : (zs ++ Cod.bool.put b).length = zs.length + 1 := by rw [List.length_append]; rfl
  rw [hl] at hr
  have hB1 : ∀ k : Int, 0 ≤ k ∧ k ≤ 255 → Bs (w.alloc (.cells #[.int .u8 k] 5)) (some ⟨w.heap.size, 0, none⟩) 1 1 [k] := fun k hk => own_bs (St.first (Below.refl _ w) k).own (by simpa using hk)
  have hS1 := fun k : Int => hS.keep (fresh w (.cells #[.int .u8 k] 5))
  have hs1 := fun k : Int => (hS1 k).size
  cases b with
  | true =>
    have HS := hide (hS1 1)
    have hB := hB1 1 (by omega)
    have hs := hs1 1
    clear hS1 hB1 hs1 hS
    go_enter Try.func49, Try.ntmps49
    go_wp2_with (at_builtin; refine wpList_append_two rfl (.tmp 6) (.tmp 7) 93 93 rfl Wb.heap.size 5 5 i0 Try.underlying93 Try.underlying93 hi hz0 hz1 hz2 _ zs.length zs rfl HS.out.own _ _ _ _ rfl hB (by omega) hs ?_; intro v3 w3 ho3 hgr3 hgo3)
    go_ret
    exact ⟨v3, rfl, HS.out.grow (by rw [hl]; exact ho3) hgr3 hgo3⟩
  | false =>
    have HS := hide (hS1 0)
    have hB := hB1 0 (by omega)
    have hs := hs1 0
    clear hS1 hB1 hs1 hS
    go_enter Try.func49, Try.ntmps49
    go_wp2_with (at_builtin; refine wpList_append_two rfl (.tmp 9) (.tmp 10) 93 93 rfl Wb.heap.size 5 5 i0 Try.underlying93 Try.underlying93 hi hz0 hz1 hz2 _ zs.length zs rfl HS.out.own _ _ _ _ rfl hB (by omega) hs ?_; intro v3 w3 ho3 hgr3 hgo3)
    go_ret
    exact ⟨v3, rfl, HS.out.grow (by rw [hl]; exact ho3) hgr3 hgo3⟩

set_option maxHeartbeats 4000000 in
theorem banswer_any (r : Int) (hr : I64 r) (p : Int) (hp : I64 p) (e : Int) (he : I64 e) (n : Int) (hn : I64 n) (h : Int) (hh : U8 h) (la : Option Addr) (ln lc : Nat) (l : List (Cod.Place)) (hl : Sq RPlace 2 Wb la ln lc l) (hS : St Wb v0 W0 zs v w) (hr : (zs ++ Cod.answer.put ⟨r, p, e, n, h, l⟩).length ≤ 140737488355328) :
    Calls Try.prog 51 #[v, .agg #[.int .i64 r, .int .i64 p, .int .i64 e, .int .i64 n, .int .u8 h, .slice la ln lc]] w (Pt Wb v0 W0 (zs ++ Cod.answer.put ⟨r, p, e, n, h, l⟩)) := by
  obtain ⟨W, HW, hA, HT, HK1⟩ := hS.boxed #[.int .i64 r, .int .i64 p, .int .i64 e, .int .i64 n, .int .u8 h, .slice la ln lc] (68 : TypeId)
  have ez : zs ++ Cod.answer.put ⟨r, p, e, n, h, l⟩ = zs ++ vb (fo r) ++ vb (fo p) ++ vb (fo e) ++ vb (fo n) ++ vb (fo (IntKind.i64.wrap h)) ++ (Cod.list Cod.place).put l := by
    rw [wrap_u8 hh]
    simp only [List.append_assoc]
    rfl
  rw [ez] at hr ⊢
  clear ez
  simp only [List.length_append] at hr
  have h64h : I64 (IntKind.i64.wrap h) := U8.i64 hh
  have HK : Hid (∀ zs' v' V, St Wb v W zs' v' V → V.cell? ⟨w.heap.size, 0, none⟩ = some (.int .i64 r) ∧ V.cell? ⟨w.heap.size, 1, none⟩ = some (.int .i64 p) ∧ V.cell? ⟨w.heap.size, 2, none⟩ = some (.int .i64 e) ∧ V.cell? ⟨w.heap.size, 3, none⟩ = some (.int .i64 n) ∧ V.cell? ⟨w.heap.size, 4, none⟩ = some (.int .u8 h) ∧ V.cell? ⟨w.heap.size, 5, none⟩ = some (.slice la ln lc)) := hide fun zs' v' V h => ⟨HK1 _ _ _ h 0 _ rfl, HK1 _ _ _ h 1 _ rfl, HK1 _ _ _ h 2 _ rfl, HK1 _ _ _ h 3 _ rfl, HK1 _ _ _ h 4 _ rfl, HK1 _ _ _ h 5 _ rfl⟩
  clear HK1 hS
  go_enter Try.func51, Try.ntmps51
  go_wp2_with fail
  rw [← HW.out]
  go_region_held3 (fun V => V.cell? ⟨w.heap.size, 0, none⟩ = some (.int .i64 r) ∧ V.cell? ⟨w.heap.size, 1, none⟩ = some (.int .i64 p) ∧ V.cell? ⟨w.heap.size, 2, none⟩ = some (.int .i64 e) ∧ V.cell? ⟨w.heap.size, 3, none⟩ = some (.int .i64 n) ∧ V.cell? ⟨w.heap.size, 4, none⟩ = some (.int .u8 h) ∧ V.cell? ⟨w.heap.size, 5, none⟩ = some (.slice la ln lc))
    (first | exact HK.out _ _ _ (by assumption) | exact HK.out _ _ _ (St.drew (by assumption)))
    (first
      | (go_at_call 39; refine (bnum_any _ (And.left (by assumption)) (And.right (by assumption)) (by first | assumption | exact St.drew (by assumption)) (by simp only [List.length_append]; omega)).mono ?_; rintro e w1 ⟨v1, rfl, hS1⟩)
      | (go_at_call 85; refine (bplaces_any _ _ _ l hl (by first | assumption | exact St.drew (by assumption)) (by simp only [List.length_append]; omega)).mono ?_; rintro e w1 ⟨v1, rfl, hS1⟩))
  go_split_ands
  go_wp2_with fail
  go_ret
  exact ⟨_, rfl, HT.out _ _ _ (by assumption)⟩

set_option maxHeartbeats 4000000 in
theorem bmeta_any (k : Int) (hk : U8 k) (g : ByteArray) (m : ByteArray) (n : Int) (hn : I64 n) (la : Option Addr) (ln lc : Nat) (l : List (List Int)) (hl : Sq RText 1 Wb la ln lc l) (qt : ByteArray) (qp : Int) (hqp : I64 qp) (o : Int) (ho : I64 o) (u : Int) (hu : I64 u) (c : Int) (hc : I64 c) (a : Int) (ha : I64 a) (hS : St Wb v0 W0 zs v w) (hr : (zs ++ Cod.meta'.put ⟨k, sb g, sb m, n, l, ⟨sb qt, qp⟩, o, u, c, a⟩).length ≤ 140737488355328) :
    Calls Try.prog 43 #[v, .agg #[.int .u8 k, .string g, .string m, .int .i64 n, .slice la ln lc, .string qt, .int .i64 qp, .int .i64 o, .int .i64 u, .int .i64 c, .int .i64 a]] w (Pt Wb v0 W0 (zs ++ Cod.meta'.put ⟨k, sb g, sb m, n, l, ⟨sb qt, qp⟩, o, u, c, a⟩)) := by
  obtain ⟨W, HW, hA, HT, HK1⟩ := hS.boxed #[.int .u8 k, .string g, .string m, .int .i64 n, .slice la ln lc, .string qt, .int .i64 qp, .int .i64 o, .int .i64 u, .int .i64 c, .int .i64 a] (37 : TypeId)
  have ez : zs ++ Cod.meta'.put ⟨k, sb g, sb m, n, l, ⟨sb qt, qp⟩, o, u, c, a⟩ = zs ++ vb (fo (IntKind.i64.wrap k)) ++ Cod.data.put (sb g) ++ Cod.data.put (sb m) ++ vb (fo n) ++ (Cod.list Cod.data).put l ++ Cod.place.put ⟨sb qt, qp⟩ ++ vb (fo o) ++ vb (fo u) ++ vb (fo c) ++ vb (fo a) := by
    rw [wrap_u8 hk]
    simp only [List.append_assoc]
    rfl
  rw [ez] at hr ⊢
  clear ez
  simp only [List.length_append] at hr
  have h64k : I64 (IntKind.i64.wrap k) := U8.i64 hk
  have HK : Hid (∀ zs' v' V, St Wb v W zs' v' V → V.cell? ⟨w.heap.size, 0, none⟩ = some (.int .u8 k) ∧ V.cell? ⟨w.heap.size, 1, none⟩ = some (.string g) ∧ V.cell? ⟨w.heap.size, 2, none⟩ = some (.string m) ∧ V.cell? ⟨w.heap.size, 3, none⟩ = some (.int .i64 n) ∧ V.cell? ⟨w.heap.size, 4, none⟩ = some (.slice la ln lc) ∧ V.cell? ⟨w.heap.size, 5, none⟩ = some (.string qt) ∧ V.cell? ⟨w.heap.size, 6, none⟩ = some (.int .i64 qp) ∧ V.cell? ⟨w.heap.size, 7, none⟩ = some (.int .i64 o) ∧ V.cell? ⟨w.heap.size, 8, none⟩ = some (.int .i64 u) ∧ V.cell? ⟨w.heap.size, 9, none⟩ = some (.int .i64 c) ∧ V.cell? ⟨w.heap.size, 10, none⟩ = some (.int .i64 a)) := hide fun zs' v' V h => ⟨HK1 _ _ _ h 0 _ rfl, HK1 _ _ _ h 1 _ rfl, HK1 _ _ _ h 2 _ rfl, HK1 _ _ _ h 3 _ rfl, HK1 _ _ _ h 4 _ rfl, HK1 _ _ _ h 5 _ rfl, HK1 _ _ _ h 6 _ rfl, HK1 _ _ _ h 7 _ rfl, HK1 _ _ _ h 8 _ rfl, HK1 _ _ _ h 9 _ rfl, HK1 _ _ _ h 10 _ rfl⟩
  clear HK1 hS
  go_enter Try.func43, Try.ntmps43
  go_wp2_with fail
  rw [← HW.out]
  go_region_held3 (fun V => V.cell? ⟨w.heap.size, 0, none⟩ = some (.int .u8 k) ∧ V.cell? ⟨w.heap.size, 1, none⟩ = some (.string g) ∧ V.cell? ⟨w.heap.size, 2, none⟩ = some (.string m) ∧ V.cell? ⟨w.heap.size, 3, none⟩ = some (.int .i64 n) ∧ V.cell? ⟨w.heap.size, 4, none⟩ = some (.slice la ln lc) ∧ V.cell? ⟨w.heap.size, 5, none⟩ = some (.string qt) ∧ V.cell? ⟨w.heap.size, 6, none⟩ = some (.int .i64 qp) ∧ V.cell? ⟨w.heap.size, 7, none⟩ = some (.int .i64 o) ∧ V.cell? ⟨w.heap.size, 8, none⟩ = some (.int .i64 u) ∧ V.cell? ⟨w.heap.size, 9, none⟩ = some (.int .i64 c) ∧ V.cell? ⟨w.heap.size, 10, none⟩ = some (.int .i64 a))
    (first | exact HK.out _ _ _ (by assumption) | exact HK.out _ _ _ (St.drew (by assumption)))
    (first
      | (go_at_call 39; refine (bnum_any _ (And.left (by assumption)) (And.right (by assumption)) (by first | assumption | exact St.drew (by assumption)) (by simp only [List.length_append]; omega)).mono ?_; rintro e w1 ⟨v1, rfl, hS1⟩)
      | (go_at_call 46; refine (btext_any _ (by first | assumption | exact St.drew (by assumption)) (by simp only [List.length_append]; omega)).mono ?_; rintro e w1 ⟨v1, rfl, hS1⟩)
      | (go_at_call 82; refine (btexts_any _ _ _ l hl (by first | assumption | exact St.drew (by assumption)) (by simp only [List.length_append]; omega)).mono ?_; rintro e w1 ⟨v1, rfl, hS1⟩))
  go_split_ands
  go_wp2_with fail
  go_region_held3 (fun V => V.cell? ⟨w.heap.size, 0, none⟩ = some (.int .u8 k) ∧ V.cell? ⟨w.heap.size, 1, none⟩ = some (.string g) ∧ V.cell? ⟨w.heap.size, 2, none⟩ = some (.string m) ∧ V.cell? ⟨w.heap.size, 3, none⟩ = some (.int .i64 n) ∧ V.cell? ⟨w.heap.size, 4, none⟩ = some (.slice la ln lc) ∧ V.cell? ⟨w.heap.size, 5, none⟩ = some (.string qt) ∧ V.cell? ⟨w.heap.size, 6, none⟩ = some (.int .i64 qp) ∧ V.cell? ⟨w.heap.size, 7, none⟩ = some (.int .i64 o) ∧ V.cell? ⟨w.heap.size, 8, none⟩ = some (.int .i64 u) ∧ V.cell? ⟨w.heap.size, 9, none⟩ = some (.int .i64 c) ∧ V.cell? ⟨w.heap.size, 10, none⟩ = some (.int .i64 a))
    (first | exact HK.out _ _ _ (by assumption) | exact HK.out _ _ _ (St.drew (by assumption)))
    (first
      | (go_at_call 83; refine (bplace_any qt qp hqp.1 hqp.2 (by first | assumption | exact St.drew (by assumption)) (by simp only [List.length_append]; omega)).mono ?_; rintro e w1 ⟨v1, rfl, hS1⟩)
      | (go_at_call 39; refine (bnum_any _ (And.left (by assumption)) (And.right (by assumption)) (by first | assumption | exact St.drew (by assumption)) (by simp only [List.length_append]; omega)).mono ?_; rintro e w1 ⟨v1, rfl, hS1⟩))
  go_split_ands
  go_wp2_with fail
  go_ret
  exact ⟨_, rfl, HT.out _ _ _ (by assumption)⟩

end

end Go.Proofs.Ytnimfkcnkkjlkaa

/-
  The document's bytes of a whole thing: commands of the meta group.
-/
namespace Go.Proofs.Ytnimfkcnkkjlkaa
open Go.RowKit
set_option maxRecDepth 100000

section
variable {w : World}


set_option maxHeartbeats 1000000 in
theorem meta_any (yk : Int) (hyk : U8 yk) (yg : ByteArray) (ym : ByteArray) (yn : Int) (hyn : I64 yn) (yla : Option Addr) (yln ylc : Nat) (yl : List (List Int)) (hyl : Sq RText 1 w yla yln ylc yl) (yqt : ByteArray) (yqp : Int) (hyqp : I64 yqp) (yo : Int) (hyo : I64 yo) (yu : Int) (hyu : I64 yu) (yc : Int) (hyc : I64 yc) (ya : Int) (hya : I64 ya) (hr : (Cod.thing Cod.meta' 2 ⟨yk, sb yg, sb ym, yn, yl, ⟨sb yqt, yqp⟩, yo, yu, yc, ya⟩).length ≤ 140737488355328) :
    Calls Try.prog 17 #[.agg #[.int .u8 yk, .string yg, .string ym, .int .i64 yn, .slice yla yln ylc, .string yqt, .int .i64 yqp, .int .i64 yo, .int .i64 yu, .int .i64 yc, .int .i64 ya]] w (Pd w (Cod.thing Cod.meta' 2 ⟨yk, sb yg, sb ym, yn, yl, ⟨sb yqt, yqp⟩, yo, yu, yc, ya⟩)) := by
  have hA := St.first (fresh w (.cells #[.int .u8 yk, .string yg, .string ym, .int .i64 yn, .slice yla yln ylc, .string yqt, .int .i64 yqp, .int .i64 yo, .int .i64 yu, .int .i64 yc, .int .i64 ya] (37 : TypeId))) 2
  have hw : (w.alloc (.cells #[.int .u8 yk, .string yg, .string ym, .int .i64 yn, .slice yla yln ylc, .string yqt, .int .i64 yqp, .int .i64 yo, .int .i64 yu, .int .i64 yc, .int .i64 ya] (37 : TypeId))).heap.size = w.heap.size + 1 := by simp
  rw [hw] at hA
  have HC := hide (bmeta_any yk hyk yg ym yn hyn yla yln ylc yl hyl yqt yqp hyqp yo hyo yu hyu yc hyc ya hya hA hr)
  clear hA hw
  obtain ⟨Z, hZ⟩ : ∃ Z, Z = Cod.thing Cod.meta' 2 ⟨yk, sb yg, sb ym, yn, yl, ⟨sb yqt, yqp⟩, yo, yu, yc, ya⟩ := ⟨_, rfl⟩
  have HD : Hid (∀ e w', Pt w (.slice (some ⟨w.heap.size + 1, 0, none⟩) 1 1) ((w.alloc (.cells #[.int .u8 yk, .string yg, .string ym, .int .i64 yn, .slice yla yln ylc, .string yqt, .int .i64 yqp, .int .i64 yo, .int .i64 yu, .int .i64 yc, .int .i64 ya] (37 : TypeId))).alloc (.cells #[.int .u8 2] 5)) ([2] ++ Cod.meta'.put ⟨yk, sb yg, sb ym, yn, yl, ⟨sb yqt, yqp⟩, yo, yu, yc, ya⟩) e w' → ∃ v', e = .returned v' ∧ Pd w Z (.returned v') w') := hide (by
    rintro e w' ⟨v', rfl, h⟩
    rw [hZ]
    exact ⟨v', rfl, h.pd⟩)
  rw [← hZ]
  clear hZ hr
  go_enter Try.func17, Try.ntmps17
  go_wp2_with fail
  refine HC.out.mono ?_
  intro e w1 h1
  obtain ⟨v1, rfl, h2⟩ := HD.out _ _ h1
  have H2 := hide h2
  clear h2 h1
  go_wp2_with fail
  go_ret
  exact H2.out

end

end Go.Proofs.Ytnimfkcnkkjlkaa

/-
  The document's Put: bytes, unless they are too many.
-/
namespace Go.Proofs.Ytnimfkcnkkjlkaa
open Go.RowKit
set_option maxRecDepth 100000

theorem rput_yes (a : Option Addr) (n cap : Nat) (m : Int) (h : (n : Int) ≤ m) (w : World) :
    Calls Try.prog 14 #[.slice a n cap, .int .i64 m] w fun e w' => e = .returned (.tuple #[.slice a n cap, .int .i64 0]) ∧ w' = w := by
  have h2 : ¬ m < (n : Int) := by omega
  go_enter Try.func14, Try.ntmps14
  go_wp2_with fail
  go_ret2
  exact ⟨rfl, rfl⟩

theorem rput_no (a : Option Addr) (n cap : Nat) (m : Int) (h : m < (n : Int)) (w : World) :
    Calls Try.prog 14 #[.slice a n cap, .int .i64 m] w fun e w' => e = .returned (.tuple #[.slice none 0 0, .int .i64 3]) ∧ w' = w := by
  go_enter Try.func14, Try.ntmps14
  go_wp2_with fail
  go_ret2
  exact ⟨rfl, rfl⟩

/-- Put of bytes that were put together: they, or nothing. -/
theorem rput_any {W : World} {base : Nat} (v : Value) (zs : List Int) (hO : W.ownsRow base 5 1 v zs.length (U zs)) (m : Int) :
    Calls Try.prog 14 #[v, .int .i64 m] W fun e w' => e = .returned (.tuple #[if (zs.length : Int) ≤ m then v else .slice none 0 0, .int .i64 (if (zs.length : Int) ≤ m then 0 else 3)]) ∧ w' = W := by
  obtain ⟨a, c, rfl⟩ : ∃ a c, v = .slice a zs.length c := by
    rcases hO.2 with ⟨h1, h2⟩ | ⟨g, c, cur, h1, _⟩
    · exact ⟨_, _, by rw [h1, h2]⟩
    · exact ⟨_, _, h1⟩
  by_cases h : (zs.length : Int) ≤ m
  · rw [if_pos h, if_pos h]
    exact rput_yes _ _ _ _ h _
  · rw [if_neg h, if_neg h]
    exact rput_no _ _ _ _ (by omega) _

end Go.Proofs.Ytnimfkcnkkjlkaa

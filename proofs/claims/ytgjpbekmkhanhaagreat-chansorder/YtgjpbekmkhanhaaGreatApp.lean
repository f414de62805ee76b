/-
  Plain laws on append for slices of bytes that a call makes; nothing of the program.
-/
import Derived.Test.YtgjpbekmkhanhaaGreatKit
import Derived.Laws.AppendOwnNone
namespace Go.Proofs.YtgjpbekmkhanhaaGreat
open Go.RowKit
set_option maxRecDepth 100000

/-- The little-endian beginning of a number's bytes. -/
theorem be_rev (j v : Nat) : (be (j + 1) v).reverse = (be j v).reverse ++ [((v / 256 ^ j % 256 : Nat) : Int)] := by rw [be_cons]; simp

theorem own_shape {w : World} {base n : Nat} {e : TypeId} {v : Value} {xs : List Value} (h : w.ownsRow base e 1 v n xs) (hn : 0 < n) : ∃ g cap, v = .slice (some ⟨g, 0, none⟩) n cap := by
  rcases h.2 with ⟨_, h0⟩ | ⟨g, cap, _, hv, _⟩
  · omega
  · exact ⟨g, cap, hv⟩

theorem own_bs {w : World} {base n cap : Nat} {a : Option Addr} {e : TypeId} {zs : List Int} (h : w.ownsRow base e 1 (.slice a n cap) n (U zs)) (hb : ∀ z ∈ zs, 0 ≤ z ∧ z ≤ 255) : Bs w a n cap zs := by
  have hl : zs.length = n := by have := h.1; rw [U_length] at this; omega
  rcases h.2 with ⟨h1, h0⟩ | ⟨g, cap', cur, h1, _, hh, hc, hm, hs, ht⟩
  · simp only [Value.slice.injEq] at h1
    obtain ⟨rfl, rfl, rfl⟩ := h1
    have : zs = [] := List.eq_nil_of_length_eq_zero hl
    subst this
    exact Bs.nil w
  · simp only [Value.slice.injEq] at h1
    obtain ⟨rfl, _, rfl⟩ := h1
    unfold maxLen at hm
    refine Bs.own (cur := cur.toList) (by simpa using hh) (by simp [hs]) hl hc (by omega) hb ?_
    rw [Nat.mul_one] at ht
    rw [ht]
    rfl

theorem own_lt {w : World} {base n cap g : Nat} {e : TypeId} {xs : List Value} (h : w.ownsRow base e 1 (.slice (some ⟨g, 0, none⟩) n cap) n xs) : base ≤ g ∧ g < w.heap.size := h.lt g rfl

section
variable {P : Program} {w : World} {ops : Array Oper} {rest : List Oper} {o : Oper} {a : Act} {Q : Exit → Act → World → Prop}

/-- Bytes appended to a slice that the call owns, where something comes out. -/
theorem wpList_append_bs (hgd : o.guard = none) (s x : Operand) (t : TypeId) (ho : o.op = .call { callee := .builtin .append, args := #[s, x], argTypes := #[t, t] })
    (base : Nat) (e : TypeId) (i : TypeInfo) (ht : P.underlying t = some (.slice e)) (hi : P.info? e = some i) (hz : i.zero = some (.int .u8 0)) (hsize : i.size = 1) (hby : i.bytes = 1)
    (v : Value) (m : Nat) (xs : List Value) (hs : a.eval s = v) (hown : w.ownsRow base e 1 v m xs) (ad : Option Addr) (n cap : Nat) (zs : List Int) (hx : a.eval x = .slice ad n cap) (hB : Bs w ad n cap zs)
    (hpos : 0 < m + n) (hroom : m + n ≤ 140737488355328) (hbase : base ≤ w.heap.size)
    (h : ∀ g c w', w'.ownsRow base e 1 (.slice (some ⟨g, 0, none⟩) (m + n) c) (m + n) (xs ++ U zs) → w.grownBy w' v.ownBlock → wpList P ops Q rest (a.put o.dst (.slice (some ⟨g, 0, none⟩) (m + n) c)) w') :
    wpList P ops Q (o :: rest) a w := by
  cases ad with
  | none =>
    have hc := hB.bare rfl
    have hle := hB.le
    obtain rfl : cap = 0 := hc
    obtain rfl : n = 0 := by omega
    have hzs : zs = [] := List.eq_nil_of_length_eq_zero hB.len
    subst hzs
    refine wpList_append_own_none hgd s x t ho base e i 1 ht hi v m xs hs hown hx ?_
    obtain ⟨g, c, hv⟩ := own_shape hown (by omega)
    subst hv
    exact h g c w (by simpa [U] using hown) (World.grownBy.refl _ _)
  | some ad =>
    refine wpList_append_own w hgd s x t ho base e i (.int .u8 0) 1 1 ht hi hz hsize hby rfl (by omega) v m xs hs hown ad n cap (U zs) hx (by rw [U_length, hB.len]; omega) ?_ (U_one zs) (by unfold maxLen; omega) (by omega) hbase ?_
    · intro j u hu
      have hj : j < n := by
        rcases Nat.lt_or_ge j n with h | h
        · exact h
        · rw [List.getElem?_eq_none (by rw [U_length, hB.len]; exact h)] at hu
          cases hu
      obtain ⟨ad', had, hc⟩ := hB.src (by omega)
      cases had
      exact hc j u hu
    · intro v' w' h1 h2 _
      obtain ⟨g, c, hv⟩ := own_shape h1 hpos
      subst hv
      exact h g c w' h1 h2

/-- The same, whatever comes out. -/
theorem wpList_append_val (hgd : o.guard = none) (s x : Operand) (t : TypeId) (ho : o.op = .call { callee := .builtin .append, args := #[s, x], argTypes := #[t, t] })
    (base : Nat) (e : TypeId) (i : TypeInfo) (ht : P.underlying t = some (.slice e)) (hi : P.info? e = some i) (hz : i.zero = some (.int .u8 0)) (hsize : i.size = 1) (hby : i.bytes = 1)
    (v : Value) (m : Nat) (xs : List Value) (hs : a.eval s = v) (hown : w.ownsRow base e 1 v m xs) (ad : Option Addr) (n cap : Nat) (zs : List Int) (hx : a.eval x = .slice ad n cap) (hB : Bs w ad n cap zs)
    (hroom : m + n ≤ 140737488355328) (hbase : base ≤ w.heap.size)
    (h : ∀ v' w', w'.ownsRow base e 1 v' (m + n) (xs ++ U zs) → w.grownBy w' v.ownBlock → wpList P ops Q rest (a.put o.dst v') w') :
    wpList P ops Q (o :: rest) a w := by
  cases ad with
  | none =>
    have hc := hB.bare rfl
    have hle := hB.le
    obtain rfl : cap = 0 := hc
    obtain rfl : n = 0 := by omega
    have hzs : zs = [] := List.eq_nil_of_length_eq_zero hB.len
    subst hzs
    refine wpList_append_own_none hgd s x t ho base e i 1 ht hi v m xs hs hown hx ?_
    exact h v w (by simpa [U] using hown) (World.grownBy.refl _ _)
  | some ad =>
    refine wpList_append_own w hgd s x t ho base e i (.int .u8 0) 1 1 ht hi hz hsize hby rfl (by omega) v m xs hs hown ad n cap (U zs) hx (by rw [U_length, hB.len]; omega) ?_ (U_one zs) (by unfold maxLen; omega) (by omega) hbase ?_
    · intro j u hu
      have hj : j < n := by
        rcases Nat.lt_or_ge j n with h | h
        · exact h
        · rw [List.getElem?_eq_none (by rw [U_length, hB.len]; exact h)] at hu
          cases hu
      obtain ⟨ad', had, hc⟩ := hB.src (by omega)
      cases had
      exact hc j u hu
    · intro v' w' h1 h2 _
      exact h v' w' h1 h2

/-- Nothing appended to nothing. -/
theorem wpList_append_zero (hgd : o.guard = none) (s x : Operand) (t : TypeId) (ho : o.op = .call { callee := .builtin .append, args := #[s, x], argTypes := #[t, t] })
    (e : TypeId) (i : TypeInfo) (ht : P.underlying t = some (.slice e)) (hi : P.info? e = some i) (hs : a.eval s = .slice none 0 0) (ad : Option Addr) (cap : Nat) (hx : a.eval x = .slice ad 0 cap)
    (h : wpList P ops Q rest (a.put o.dst (.slice none 0 0)) w) : wpList P ops Q (o :: rest) a w := by
  refine wpList_plain hgd fun K hK => ?_
  have hrun : (Builtin.append_ #[t, t] o.type #[.slice none 0 0, .slice ad 0 cap]).run P w = .ok (.slice none 0 0) w := by
    cases ad <;> simp [Builtin.append_, run_underlying ht, sizeOf, typeInfo, hi, Builtin.lenOf, Builtin.firstCells, loadCells, loadCellsFrom]
  unfold Oper.wp
  simp [execOp, ho, resolve, invoke, builtin, hs, hx, hrun, Result.andThen]
  exact hK _ _ h

theorem next_le {need old : Nat} (h : old < need) : Builtin.nextslicecap need old ≤ need + need / 4 + 1000 := by
  unfold Builtin.nextslicecap
  split
  · omega
  · split
    · omega
    · rw [growBy_four]
      repeat' split
      all_goals omega

/-- A text's bytes appended to a row that the call owns. -/
theorem wpList_append_str (hgd : o.guard = none) (sl x : Operand) (t u : TypeId) (ho : o.op = .call { callee := .builtin .append, args := #[sl, x], argTypes := #[t, u] })
    (base : Nat) (e : TypeId) (i : TypeInfo) (ht : P.underlying t = some (.slice e)) (hu : P.underlying u = some .string) (hi : P.info? e = some i) (hz : i.zero = some (.int .u8 0)) (hsize : i.size = 1) (hby : i.bytes = 1)
    (g n cap : Nat) (zs : List Int) (hs : a.eval sl = .slice (some ⟨g, 0, none⟩) n cap) (hown : w.ownsRow base e 1 (.slice (some ⟨g, 0, none⟩) n cap) n (U zs)) (str : ByteArray) (hx : a.eval x = .string str)
    (hroom : n + str.size ≤ 140737488486400) (hbase : base ≤ w.heap.size)
    (h : ∀ g' c w', w'.ownsRow base e 1 (.slice (some ⟨g', 0, none⟩) (n + str.size) c) (n + str.size) (U (zs ++ sb str)) → w.grownBy w' (some g) → wpList P ops Q rest (a.put o.dst (.slice (some ⟨g', 0, none⟩) (n + str.size) c)) w') :
    wpList P ops Q (o :: rest) a w := by
  refine wpList_plain hgd fun K hK => ?_
  have hxl : (U zs).length = n := by simpa using hown.1
  have hU : U (zs ++ sb str) = U zs ++ Lib.strCells str := by rw [U_append, U_sb]
  have hlen : (U (zs ++ sb str)).length = (n + str.size) * 1 := by rw [hU, List.length_append, hxl, Lib.strCells_length, Nat.mul_one]
  rcases hown.2 with ⟨h1, _⟩ | ⟨g', cap', cur, h1, hbg, hg, hnc, hcm, hcs, htake⟩
  · cases h1
  · simp only [Value.slice.injEq, Option.some.injEq, Addr.mk.injEq, and_true, true_and] at h1
    obtain ⟨rfl, rfl⟩ := h1
    have hcs' : cur.size = cap := by simpa using hcs
    have ht' : cur.toList.take n = U zs := by simpa using htake
    by_cases hfits : n + str.size ≤ cap
    · have hr := Lib.run_append_room_string (P := P) w t u o.type e i ht hu hi hsize g n cap cur hg str hfits (by omega)
      have hk := h g cap (w.setRow g (cur.toList.take n ++ Lib.strCells str ++ cur.toList.drop (n + str.size)).toArray)
        ⟨hlen, .inr ⟨g, cap, _, rfl, hbg, setRow_heap w g cur _ e _ hg, hfits, hcm, by simp only [List.size_toArray, List.length_append, List.length_take, List.length_drop, Array.length_toList, Lib.strCells_length]; omega, by
          rw [ht', hU, ← hlen, hU]
          exact List.take_left⟩⟩
        ⟨rfl, rfl, rfl, by simp, fun k _ hk => setRow_other w g k _ (fun e => hk (by simp [e]))⟩
      unfold Oper.wp
      simp only [execOp, ho, resolve, invoke, builtin, Sem.run_bind, Sem.run_pure, Result.andThen_ok, List.map_toArray, List.map_cons, List.map_nil, hs, hx, hr]
      exact hK _ _ hk
    · have holds : ∀ j u, (U zs)[j]? = some u → w.cell? ((⟨g, 0, none⟩ : Addr).add j) = some u := hown.cells (g := g) rfl
      have hcap : Builtin.nextslicecap (n + str.size) cap ≤ 281474976710656 := Nat.le_trans (next_le (by omega)) (by omega)
      have hr := Lib.run_append_grow_string (P := P) w t u o.type e i (.int .u8 0) ht hu hi hz ⟨g, 0, none⟩ n cap (U zs) (by rw [hsize, hxl]; omega) holds str (by omega) (by omega) (by rw [hby]; omega)
      have hge := grownCap_ge w (n + str.size) cap e
      have hcm2 : grownCap w (n + str.size) cap e ≤ maxLen := grownCap_le_maxLen w (n + str.size) cap e (by unfold maxLen; omega)
      have hk := h w.heap.size (grownCap w (n + str.size) cap e) (w.drew.alloc (.cells ((U zs).toArray ++ (Lib.strCells str).toArray ++ Builtin.zeroCells (Value.int .u8 0).cells (grownCap w (n + str.size) cap e - (n + str.size))) e))
        ⟨hlen, .inr ⟨w.heap.size, _, _, rfl, hbase, heap_alloc_new w.drew _, hge, hcm2, by
            have hz1 : (Value.int IntKind.u8 0).cells.size = 1 := rfl
            simp only [Array.size_append, List.size_toArray, size_zeroCells, hz1, hxl, Lib.strCells_length]
            omega, by
            simp only [Array.toList_append, List.append_assoc]
            rw [← List.append_assoc, ← hU, ← hlen]
            exact List.take_left⟩⟩
        ⟨rfl, rfl, rfl, by simp, fun k hk _ => Below.heap_alloc w.drew _ k hk⟩
      unfold Oper.wp
      simp only [execOp, ho, resolve, invoke, builtin, Sem.run_bind, Sem.run_pure, Result.andThen_ok, List.map_toArray, List.map_cons, List.map_nil, hs, hx, hr]
      exact hK _ _ hk

end
end Go.Proofs.YtgjpbekmkhanhaaGreat

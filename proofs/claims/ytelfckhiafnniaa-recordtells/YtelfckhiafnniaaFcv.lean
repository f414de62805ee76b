/-
  FrameCuts: lists that grow by lists; what is told of pieces.
-/
import Derived.Test.YtelfckhiafnniaaFss
import Derived.Test.YtelfckhiafnniaaPik
namespace Go.Proofs.Ytelfckhiafnniaa
open Go.RowKit

/-- A slice of ints, as it can be read. -/
structure Is (w : World) (a : Option Addr) (n cap : Nat) (zs : List Int) : Prop where
  len : zs.length = n
  le : n ≤ cap
  reach : cap ≤ 9223372036854775807
  lies : 0 < n → ∃ b off, a = some ⟨b, off, none⟩ ∧ ∀ i, i < n → w.cell? ⟨b, off + i, none⟩ = some (.int .i64 (zs.getD i 0))

theorem Is.keep {w w' : World} {a : Option Addr} {n cap : Nat} {zs : List Int} (h : Is w a n cap zs) (hb : Below w.heap.size w w') : Is w' a n cap zs := by
  refine ⟨h.len, h.le, h.reach, fun hn => ?_⟩
  obtain ⟨b, off, ha, hc⟩ := h.lies hn
  refine ⟨b, off, ha, fun i hi => ?_⟩
  have h1 := hc i hi
  rw [hb.cell (cell_lt h1)]
  exact h1

/-- The slices of a list, as they are written in it. -/
structure Vl (w : World) (ad : Option Addr) (n cap : Nat) (vs : List Value) : Prop where
  len : vs.length = n
  bare : ad = none → n = 0 ∧ cap = 0
  one : ∀ u ∈ vs, u.oneCell' = true
  cell : ∀ ad', ad = some ad' → ∀ j u, vs[j]? = some u → w.cell? (ad'.add j) = some u

theorem LL.vl {w : World} {base n cap : Nat} {a : Option Addr} {rs : List (Value × List Int)} (h : LL w base (.slice a n cap) rs) : Vl w a n cap (rs.map (·.1)) := by
  have hl : rs.length = n := by
    obtain ⟨a', c', e⟩ := own_val h.own
    simp only [Value.slice.injEq] at e
    exact e.2.1.symm
  refine ⟨by simpa using hl, fun e => ?_, fun u hu => ?_, fun ad' e j u hu => ?_⟩
  · subst e
    rcases h.own.2 with ⟨h1, h0⟩ | ⟨g, cap', cur, h1, _⟩
    · simp only [Value.slice.injEq] at h1
      exact ⟨by omega, h1.2.2⟩
    · simp at h1
  · obtain ⟨r, hr, rfl⟩ := List.mem_map.1 hu
    exact slice_one (h.row r hr)
  · subst e
    rcases h.own.2 with ⟨h1, h0⟩ | ⟨g, cap', cur, h1, _⟩
    · simp at h1
    · simp only [Value.slice.injEq, Option.some.injEq] at h1
      obtain ⟨rfl, _, rfl⟩ := h1
      exact h.own.cells (g := g) rfl j u hu

section
variable {P : Program} {w : World}

theorem run_append_lists (base : Nat) (t ty e : TypeId) (i : TypeInfo) (z : Value) (ht : P.underlying t = some (.slice e)) (hi : P.info? e = some i) (hz : i.zero = some z) (hsize : i.size = 1) (hby : i.bytes = 24) (hzs : z.cells.size = 1)
    (v : Value) (m : Nat) (xs : List Value) (hown : w.ownsRow base e 1 v m xs) (ad : Option Addr) (n cap : Nat) (vs : List Value) (hV : Vl w ad n cap vs)
    (hroom : m + n ≤ 1000000000000) (hbase : base ≤ w.heap.size) :
    ∃ v' w', (Builtin.append_ #[t, t] ty #[v, .slice ad n cap]).run P w = .ok v' w' ∧ w'.ownsRow base e 1 v' (m + n) (xs ++ vs) ∧ w.grownBy w' v.ownBlock := by
  cases ad with
  | none =>
    obtain ⟨rfl, rfl⟩ := hV.bare rfl
    have hvs : vs = [] := List.eq_nil_of_length_eq_zero hV.len
    subst hvs
    have hrun : (Builtin.append_ #[t, t] ty #[v, .slice none 0 0]).run P w = .ok v w := by
      rcases hown.2 with ⟨rfl, rfl⟩ | ⟨g, c, cur, rfl, _, hg, hc, _⟩
      · simp [Builtin.append_, run_underlying ht, sizeOf, typeInfo, hi, Builtin.lenOf, Builtin.firstCells]
      · simp [Builtin.append_, run_underlying ht, sizeOf, typeInfo, hi, Builtin.lenOf, Builtin.firstCells, hc, storeCells]
    exact ⟨v, w, hrun, by simpa using hown, World.grownBy.refl _ _⟩
  | some ad' =>
    obtain ⟨v', w', h1, h2, h3, _⟩ := run_append_own (P := P) w base t ty e i z 1 24 ht hi hz hsize hby hzs (by omega) v m xs hown ad' n cap vs (by rw [hV.len]; omega) (hV.cell ad' rfl) hV.one (by unfold maxLen; omega) (by omega) hbase
    exact ⟨v', w', h1, h2, h3⟩

theorem wpList_append_lists {ops : Array Oper} {rest : List Oper} {o : Oper} {a : Act} {Q : Exit → Act → World → Prop} (hgd : o.guard = none) (s x : Operand) (t : TypeId) (ho : o.op = .call { callee := .builtin .append, args := #[s, x], argTypes := #[t, t] })
    (base : Nat) (e : TypeId) (i : TypeInfo) (z : Value) (ht : P.underlying t = some (.slice e)) (hi : P.info? e = some i) (hz : i.zero = some z) (hsize : i.size = 1) (hby : i.bytes = 24) (hzs : z.cells.size = 1)
    (v : Value) (m : Nat) (xs : List Value) (hs : a.eval s = v) (hown : w.ownsRow base e 1 v m xs) (ad : Option Addr) (n cap : Nat) (vs : List Value) (hx : a.eval x = .slice ad n cap) (hV : Vl w ad n cap vs)
    (hroom : m + n ≤ 1000000000000) (hbase : base ≤ w.heap.size)
    (h : ∀ v' w', w'.ownsRow base e 1 v' (m + n) (xs ++ vs) → w.grownBy w' v.ownBlock → wpList P ops Q rest (a.put o.dst v') w') :
    wpList P ops Q (o :: rest) a w := by
  refine wpList_plain hgd fun K hK => ?_
  obtain ⟨v', w', hr, h2, h3⟩ := run_append_lists (P := P) base t o.type e i z ht hi hz hsize hby hzs v m xs hown ad n cap vs hV hroom hbase
  unfold Oper.wp execOp
  simp only [ho, resolve, invoke, builtin, Sem.run_bind, Sem.run_pure, Result.andThen_ok, List.map_toArray, List.map_cons, List.map_nil, hs, hx, hr]
  exact hK _ _ (h v' w' h2 h3)

/-- The same, where the operation is guarded and wanted. -/
theorem wpList_append_wanted {ops : Array Oper} {rest : List Oper} {o : Oper} {a : Act} {Q : Exit → Act → World → Prop} (hgd : Region.wanted o (yielded ops a.tmps) = true) (s x : Operand) (t : TypeId) (ho : o.op = .call { callee := .builtin .append, args := #[s, x], argTypes := #[t, t] })
    (base : Nat) (e : TypeId) (i : TypeInfo) (z : Value) (ht : P.underlying t = some (.slice e)) (hi : P.info? e = some i) (hz : i.zero = some z) (hsize : i.size = 1) (hby : i.bytes = 24) (hzs : z.cells.size = 1)
    (v : Value) (m : Nat) (xs : List Value) (hs : a.eval s = v) (hown : w.ownsRow base e 1 v m xs) (ad : Option Addr) (n cap : Nat) (vs : List Value) (hx : a.eval x = .slice ad n cap) (hV : Vl w ad n cap vs)
    (hroom : m + n ≤ 1000000000000) (hbase : base ≤ w.heap.size)
    (h : ∀ v' w', w'.ownsRow base e 1 v' (m + n) (xs ++ vs) → w.grownBy w' v.ownBlock → wpList P ops Q rest (a.put o.dst v') w') :
    wpList P ops Q (o :: rest) a w := by
  refine wpList_step fun K hK => ?_
  rw [if_pos hgd]
  obtain ⟨v', w', hr, h2, h3⟩ := run_append_lists (P := P) base t o.type e i z ht hi hz hsize hby hzs v m xs hown ad n cap vs hV hroom hbase
  unfold Oper.wp execOp
  simp only [ho, resolve, invoke, builtin, Sem.run_bind, Sem.run_pure, Result.andThen_ok, List.map_toArray, List.map_cons, List.map_nil, hs, hx, hr]
  exact hK _ _ (h v' w' h2 h3)
end

end Go.Proofs.Ytelfckhiafnniaa

/-
  Memory of which some blocks alone may turn; rows that are owned; lists of rows; an append that tells where it went.
-/
import Derived.Test.YtkdolabhcbjipaaGreatApc
namespace Go.Proofs.YtkdolabhcbjipaaGreat
open Go.RowKit
set_option maxRecDepth 100000

/-- What was there has not turned, but for the blocks of S. -/
structure Bar (S : Nat → Prop) (w w' : World) : Prop where
  os : w'.os = w.os
  tape : w'.tape = w.tape
  output : w'.output = w.output
  size : w.heap.size ≤ w'.heap.size
  block : ∀ k, k < w.heap.size → ¬ S k → w'.heap[k]? = w.heap[k]?

theorem Bar.refl (S : Nat → Prop) (w : World) : Bar S w w := ⟨rfl, rfl, rfl, Nat.le_refl _, fun _ _ _ => rfl⟩

theorem Bar.trans {S T : Nat → Prop} {a b c : World} (h : Bar S a b) (k : Bar T b c) (ht : ∀ i, T i → S i ∨ a.heap.size ≤ i) : Bar S a c :=
  ⟨k.os.trans h.os, k.tape.trans h.tape, k.output.trans h.output, Nat.le_trans h.size k.size, fun i hi hs =>
    (k.block i (Nat.lt_of_lt_of_le hi h.size) (fun hT => (ht i hT).elim hs (fun hh => by omega))).trans (h.block i hi hs)⟩

theorem Bar.of_below {S : Nat → Prop} {n : Nat} {w w' : World} (h : Below n w w') (hn : ∀ i, n ≤ i → i < w.heap.size → S i) : Bar S w w' :=
  ⟨h.os, h.tape, h.output, h.size, fun i hi hs => h.block i (by
    rcases Nat.lt_or_ge i n with hh | hh
    · exact hh
    · exact absurd (hn i hh hi) hs)⟩

theorem Bar.of_fresh {S : Nat → Prop} {w w' : World} (h : Below w.heap.size w w') : Bar S w w' := Bar.of_below h (fun i h1 h2 => by omega)

theorem Bar.of_grown {w w' : World} {row : Option Nat} (h : w.grownBy w' row) : Bar (fun k => row = some k) w w' :=
  ⟨h.os, h.tape, h.output, h.size, fun i hi hs => h.block i hi (fun e => hs e.symm)⟩

theorem Bar.below {S : Nat → Prop} {n : Nat} {w w' : World} (h : Bar S w w') (hS : ∀ i, S i → n ≤ i) (hn : n ≤ w.heap.size) : Below n w w' :=
  ⟨h.os, h.tape, h.output, h.size, fun i hi => h.block i (by omega) (fun hs => by have := hS i hs; omega)⟩

theorem Bar.mono {S T : Nat → Prop} {w w' : World} (h : Bar S w w') (hS : ∀ i, S i → i < w.heap.size → T i) : Bar T w w' :=
  ⟨h.os, h.tape, h.output, h.size, fun i hi hs => h.block i hi (fun hh => hs (hS i hh hi))⟩

theorem own_bar {S : Nat → Prop} {w w' : World} {base n : Nat} {e : TypeId} {v : Value} {xs : List Value} (h : w.ownsRow base e 1 v n xs) (hb : Bar S w w') (hS : ∀ b, v.ownBlock = some b → ¬ S b) : w'.ownsRow base e 1 v n xs := by
  refine ⟨h.1, ?_⟩
  rcases h.2 with hn | ⟨g, cap, cur, rfl, hbg, hgg, rest⟩
  · exact .inl hn
  · refine .inr ⟨g, cap, cur, rfl, hbg, ?_, rest⟩
    rw [hb.block g (Array.getElem?_eq_some_iff.1 hgg).1 (hS g rfl)]
    exact hgg

theorem keep_own {w w' : World} {base n : Nat} {e : TypeId} {v : Value} {xs : List Value} (h : w.ownsRow base e 1 v n xs) (hb : Below w.heap.size w w') : w'.ownsRow base e 1 v n xs :=
  own_bar (S := fun _ => False) h (Bar.of_fresh hb) (fun _ _ h => h)

theorem Bs.bar {S : Nat → Prop} {w w' : World} {a : Option Addr} {n cap : Nat} {zs : List Int} (h : Bs w a n cap zs) (hb : Bar S w w') (hS : ∀ ad, a = some ad → ¬ S ad.block) : Bs w' a n cap zs := by
  refine ⟨h.len, h.le, h.reach, h.byte, h.bare, fun hn => ?_⟩
  obtain ⟨b, off, ha, hc⟩ := h.lies hn
  refine ⟨b, off, ha, fun i hi => ?_⟩
  have h1 := hc i hi
  have h2 := hb.block b (cell_lt h1) (hS _ ha)
  rw [← h1]
  exact World.cell?_of_block h2

theorem own_from {w : World} {base n : Nat} {e : TypeId} {v : Value} {xs : List Value} (h : w.ownsRow base e 1 v n xs) {k : Nat} (hk : v.ownBlock = some k) : base ≤ k := (h.lt k hk).1

theorem own_mono {w : World} {base base' n : Nat} {e : TypeId} {v : Value} {xs : List Value} (h : w.ownsRow base e 1 v n xs) (hb : ∀ k, v.ownBlock = some k → base' ≤ k) : w.ownsRow base' e 1 v n xs := by
  refine ⟨h.1, ?_⟩
  rcases h.2 with hn | ⟨g, cap, cur, rfl, _, rest⟩
  · exact .inl hn
  · exact .inr ⟨g, cap, cur, rfl, hb g rfl, rest⟩

theorem own_less {w : World} {base base' n : Nat} {e : TypeId} {v : Value} {xs : List Value} (h : w.ownsRow base e 1 v n xs) (hb : base' ≤ base) : w.ownsRow base' e 1 v n xs :=
  own_mono h (fun _ hk => Nat.le_trans hb (own_from h hk))

/-- Two rows of two types are two. -/
theorem own_types {w : World} {base base' n m : Nat} {t u : TypeId} {v x : Value} {xs ys : List Value} (h1 : w.ownsRow base t 1 v n xs) (h2 : w.ownsRow base' u 1 x m ys) (htu : t ≠ u) {b : Nat} (hb : v.ownBlock = some b) : x.ownBlock ≠ some b := by
  intro e
  rcases h1.2 with ⟨rfl, _⟩ | ⟨g, cap, cur, rfl, _, hg, _⟩
  · cases hb
  · rcases h2.2 with ⟨rfl, _⟩ | ⟨g', cap', cur', rfl, _, hg', _⟩
    · cases e
    · simp only [Value.ownBlock, Option.some.injEq] at e hb
      subst e
      subst hb
      rw [hg] at hg'
      simp only [Option.some.injEq, Obj.cells.injEq] at hg'
      exact htu hg'.2.1

theorem own_val {w : World} {base n : Nat} {e : TypeId} {v : Value} {xs : List Value} (h : w.ownsRow base e 1 v n xs) : ∃ a cap, v = .slice a n cap := by
  rcases h.2 with ⟨rfl, rfl⟩ | ⟨g, cap, _, rfl, _⟩
  · exact ⟨_, _, rfl⟩
  · exact ⟨_, _, rfl⟩

theorem row_own {w : World} {g m c : Nat} {e : TypeId} {zs : List Int} {cur : List Value} (base : Nat) (hb : base ≤ g) (hg : w.heap[g]? = some (.cells cur.toArray e (0, 0))) (hc : cur.length = c) (hm : zs.length = m) (hmc : m ≤ c) (hl : c ≤ 281474976710656)
    (ht : cur.take m = U zs) : w.ownsRow base e 1 (.slice (some ⟨g, 0, none⟩) m c) m (U zs) :=
  ⟨by rw [U_length, hm, Nat.mul_one], .inr ⟨g, c, _, rfl, hb, hg, hmc, by unfold maxLen; omega, by simp [hc], by simpa using ht⟩⟩

/-- Where an append went. -/
def Went (w : World) (v v' : Value) : Prop := v'.ownBlock = v.ownBlock ∨ v'.ownBlock = some w.heap.size

theorem Went.cases {w : World} {v v' : Value} (h : Went w v v') {b : Nat} (hb : v'.ownBlock = some b) : v.ownBlock = some b ∨ b = w.heap.size := by
  rcases h with h | h
  · exact .inl (h ▸ hb)
  · rw [h] at hb
    simp only [Option.some.injEq] at hb
    exact .inr hb.symm

section
variable {P : Program} {w : World} {ops : Array Oper} {rest : List Oper} {o : Oper} {a : Act} {Q : Exit → Act → World → Prop}

theorem run_append_went (base : Nat) (t ty e : TypeId) (i : TypeInfo) (ht : P.underlying t = some (.slice e)) (hi : P.info? e = some i) (hz : i.zero = some (.int .u8 0)) (hsize : i.size = 1) (hby : i.bytes = 1)
    (v : Value) (m : Nat) (xs : List Value) (hown : w.ownsRow base e 1 v m xs) (ad : Option Addr) (n cap : Nat) (zs : List Int) (hB : Bs w ad n cap zs)
    (hroom : m + n ≤ 140737488355328) (hbase : base ≤ w.heap.size) :
    ∃ v' w', (Builtin.append_ #[t, t] ty #[v, .slice ad n cap]).run P w = .ok v' w' ∧ w'.ownsRow base e 1 v' (m + n) (xs ++ U zs) ∧ w.grownBy w' v.ownBlock ∧ Went w v v' := by
  by_cases hn : n = 0
  · subst hn
    have hzs : zs = [] := List.eq_nil_of_length_eq_zero hB.len
    subst hzs
    have hrun : (Builtin.append_ #[t, t] ty #[v, .slice ad 0 cap]).run P w = .ok v w := by
      rcases hown.2 with ⟨rfl, rfl⟩ | ⟨g, c, cur, rfl, _, hg, hc, _⟩
      · cases ad <;> simp [Builtin.append_, run_underlying ht, sizeOf, typeInfo, hi, Builtin.lenOf, Builtin.firstCells, loadCells, loadCellsFrom]
      · cases ad <;> simp [Builtin.append_, run_underlying ht, sizeOf, typeInfo, hi, Builtin.lenOf, Builtin.firstCells, loadCells, loadCellsFrom, hc, storeCells]
    exact ⟨v, w, hrun, by simpa [U] using hown, World.grownBy.refl _ _, .inl rfl⟩
  · obtain ⟨ad', rfl, hc⟩ := hB.src (by omega)
    obtain ⟨v', w', hr, h2, h3⟩ := run_append_tells (P := P) w base t ty e i (.int .u8 0) ht hi hz hsize hby rfl v m xs hown ad' n cap (U zs) (by rw [U_length, hB.len]) hc (U_one zs) (by omega) hroom hbase
    refine ⟨v', w', hr, h2, ?_⟩
    rcases h3 with ⟨g, c, rfl, rfl, hg⟩ | ⟨d, rfl, hg⟩
    · exact ⟨hg, .inl rfl⟩
    · exact ⟨⟨hg.os, hg.tape, hg.output, hg.size, fun k hk _ => hg.block k hk (by simp)⟩, .inr rfl⟩

/-- Bytes appended to a row of bytes that is owned, told where it went. -/
theorem wpList_append_went (hgd : o.guard = none) (s x : Operand) (t : TypeId) (ho : o.op = .call { callee := .builtin .append, args := #[s, x], argTypes := #[t, t] })
    (base : Nat) (e : TypeId) (i : TypeInfo) (ht : P.underlying t = some (.slice e)) (hi : P.info? e = some i) (hz : i.zero = some (.int .u8 0)) (hsize : i.size = 1) (hby : i.bytes = 1)
    (v : Value) (m : Nat) (xs : List Value) (hs : a.eval s = v) (hown : w.ownsRow base e 1 v m xs) (ad : Option Addr) (n cap : Nat) (zs : List Int) (hx : a.eval x = .slice ad n cap) (hB : Bs w ad n cap zs)
    (hroom : m + n ≤ 140737488355328) (hbase : base ≤ w.heap.size)
    (h : ∀ v' w', w'.ownsRow base e 1 v' (m + n) (xs ++ U zs) → w.grownBy w' v.ownBlock → Went w v v' → wpList P ops Q rest (a.put o.dst v') w') :
    wpList P ops Q (o :: rest) a w := by
  refine wpList_plain hgd fun K hK => ?_
  obtain ⟨v', w', hr, h2, h3, h4⟩ := run_append_went (P := P) base t o.type e i ht hi hz hsize hby v m xs hown ad n cap zs hB hroom hbase
  unfold Oper.wp execOp
  simp only [ho, resolve, invoke, builtin, Sem.run_bind, Sem.run_pure, Result.andThen_ok, List.map_toArray, List.map_cons, List.map_nil, hs, hx, hr]
  exact hK _ _ (h v' w' h2 h3 h4)
end

/-- A list of rows of bytes: a row of slices, and each slice a row of its own. -/
structure LL (w : World) (base : Nat) (v : Value) (rs : List (Value × List Int)) : Prop where
  own : w.ownsRow base 30 1 v rs.length (rs.map (·.1))
  row : ∀ r ∈ rs, w.ownsRow base 5 1 r.1 r.2.length (U r.2)
  byte : ∀ r ∈ rs, ∀ z ∈ r.2, 0 ≤ z ∧ z ≤ 255
  apart : rs.Pairwise (fun r s => r.1.ownBlock = none ∨ r.1.ownBlock ≠ s.1.ownBlock)

theorem LL.nil (w : World) (base : Nat) : LL w base (.slice none 0 0) [] := ⟨World.ownsRow_nil _ _ _ _, by simp, by simp, by simp⟩

theorem LL.bar {S : Nat → Prop} {w w' : World} {base : Nat} {v : Value} {rs : List (Value × List Int)} (h : LL w base v rs) (hb : Bar S w w') (h1 : ∀ b, v.ownBlock = some b → ¬ S b) (h2 : ∀ r ∈ rs, ∀ b, r.1.ownBlock = some b → ¬ S b) : LL w' base v rs :=
  ⟨own_bar h.own hb h1, fun r hr => own_bar (h.row r hr) hb (h2 r hr), h.byte, h.apart⟩

theorem LL.keep {w w' : World} {base : Nat} {v : Value} {rs : List (Value × List Int)} (h : LL w base v rs) (hb : Below w.heap.size w w') : LL w' base v rs :=
  h.bar (S := fun _ => False) (Bar.of_fresh hb) (fun _ _ h => h) (fun _ _ _ _ h => h)

theorem LL.less {w : World} {base base' : Nat} {v : Value} {rs : List (Value × List Int)} (h : LL w base v rs) (hb : base' ≤ base) : LL w base' v rs :=
  ⟨own_less h.own hb, fun r hr => own_less (h.row r hr) hb, h.byte, h.apart⟩

theorem slice_one {w : World} {base n : Nat} {e : TypeId} {v : Value} {xs : List Value} (h : w.ownsRow base e 1 v n xs) : v.oneCell' = true := by
  obtain ⟨a, c, rfl⟩ := own_val h
  rfl

/-- Rows more behind a list of rows, where the list grew. -/
theorem LL.more {w w' : World} {base n : Nat} {v v' : Value} {rs qs : List (Value × List Int)} (h : LL w base v rs) (hq : ∀ r ∈ qs, w.ownsRow base 5 1 r.1 r.2.length (U r.2)) (hqb : ∀ r ∈ qs, ∀ z ∈ r.2, 0 ≤ z ∧ z ≤ 255)
    (hqa : qs.Pairwise (fun r s => r.1.ownBlock = none ∨ r.1.ownBlock ≠ s.1.ownBlock)) (hx : ∀ r ∈ rs, ∀ s ∈ qs, r.1.ownBlock = none ∨ r.1.ownBlock ≠ s.1.ownBlock)
    (hn : n = (rs ++ qs).length) (h' : w'.ownsRow base 30 1 v' n (rs.map (·.1) ++ qs.map (·.1))) (hg : w.grownBy w' v.ownBlock) : LL w' base v' (rs ++ qs) := by
  subst hn
  have hr : ∀ r ∈ rs ++ qs, w.ownsRow base 5 1 r.1 r.2.length (U r.2) := fun r hr => (List.mem_append.1 hr).elim (h.row r) (hq r)
  refine ⟨by simpa using h', fun r hr' => ?_, fun r hr' => (List.mem_append.1 hr').elim (h.byte r) (hqb r), List.pairwise_append.2 ⟨h.apart, hqa, hx⟩⟩
  refine own_bar (hr r hr') (Bar.of_grown hg) (fun b hb => own_types (hr r hr') h.own (by decide) hb)

/-- A slice of slices of bytes, as it can be read. -/
structure Rl (w : World) (a : Option Addr) (n cap : Nat) (bss : List (List Int)) : Prop where
  len : bss.length = n
  le : n ≤ cap
  reach : cap ≤ 9223372036854775807
  lies : 0 < n → ∃ b off, a = some ⟨b, off, none⟩ ∧ ∀ i, i < n → ∃ c m d, w.cell? ⟨b, off + i, none⟩ = some (.slice c m d) ∧ Bs w c m d (bss.getD i [])

theorem Rl.keep {w w' : World} {a : Option Addr} {n cap : Nat} {bss : List (List Int)} (h : Rl w a n cap bss) (hb : Below w.heap.size w w') : Rl w' a n cap bss := by
  refine ⟨h.len, h.le, h.reach, fun hn => ?_⟩
  obtain ⟨b, off, ha, hc⟩ := h.lies hn
  refine ⟨b, off, ha, fun i hi => ?_⟩
  obtain ⟨c, m, d, h1, h2⟩ := hc i hi
  refine ⟨c, m, d, ?_, h2.keep hb⟩
  rw [hb.cell (cell_lt h1)]
  exact h1

theorem LL.rl {w : World} {base n cap : Nat} {a : Option Addr} {rs : List (Value × List Int)} (h : LL w base (.slice a n cap) rs) : Rl w a n cap (rs.map (·.2)) := by
  have hl : rs.length = n := by
    obtain ⟨a', c', e⟩ := own_val h.own
    simp only [Value.slice.injEq] at e
    exact e.2.1.symm
  subst hl
  rcases h.own.2 with ⟨h1, h0⟩ | ⟨g, cap', cur, h1, _, hh, hc, hm, hs, ht⟩
  · simp only [Value.slice.injEq] at h1
    obtain ⟨rfl, h2, rfl⟩ := h1
    exact ⟨by simp, by omega, by omega, fun hn => by omega⟩
  · simp only [Value.slice.injEq] at h1
    obtain ⟨rfl, _, rfl⟩ := h1
    refine ⟨by simp, hc, by unfold maxLen at hm; omega, fun hn => ⟨g, 0, rfl, fun i hi => ?_⟩⟩
    obtain ⟨c, d, hv⟩ := own_val (h.row rs[i] (List.getElem_mem _))
    refine ⟨c, rs[i].2.length, d, ?_, ?_⟩
    · have hcs := h.own.cells (g := g) rfl i rs[i].1 (by simp [List.getElem?_eq_getElem hi])
      have hadd : (⟨g, 0, none⟩ : Addr).add i = ⟨g, 0 + i, none⟩ := by unfold Addr.add; split <;> simp_all
      rw [← hadd, hcs, hv]
    · have hrow := h.row rs[i] (List.getElem_mem _)
      rw [hv] at hrow
      have := own_bs hrow (h.byte rs[i] (List.getElem_mem _))
      simpa [List.getD, List.getElem?_eq_getElem hi] using this

end Go.Proofs.YtkdolabhcbjipaaGreat

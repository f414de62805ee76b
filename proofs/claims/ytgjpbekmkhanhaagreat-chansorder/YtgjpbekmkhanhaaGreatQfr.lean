/-
  What was there has not turned but for some blocks; rows that are owned; rings. Nothing of the program.
-/
import Derived.Test.YtgjpbekmkhanhaaGreatApp
import Derived.Test.YtgjpbekmkhanhaaGreatRows
import Derived.Maps.AppendAt
import Derived.Deep.MidRow
import Derived.Deep.OwnRows
import Derived.BigQuiet
import Derived.Deep.QuietTactic
import Derived.Deep.RegionHeld3
namespace Go.Proofs.YtgjpbekmkhanhaaGreat
open Go.RowKit
set_option maxRecDepth 100000

/-- What was there has not turned, but for the blocks of S. -/
structure Tb (S : Nat → Prop) (w w' : World) : Prop where
  os : w'.os = w.os
  tape : w'.tape = w.tape
  output : w'.output = w.output
  size : w.heap.size ≤ w'.heap.size
  block : ∀ k, k < w.heap.size → ¬ S k → w'.heap[k]? = w.heap[k]?

section
variable {S T : Nat → Prop} {w w' a b c : World}
theorem Tb.refl (S : Nat → Prop) (w : World) : Tb S w w := ⟨rfl, rfl, rfl, Nat.le_refl _, fun _ _ _ => rfl⟩
theorem Tb.trans (h : Tb S a b) (k : Tb T b c) (ht : ∀ i, i < a.heap.size → T i → S i) : Tb S a c :=
  ⟨k.os.trans h.os, k.tape.trans h.tape, k.output.trans h.output, Nat.le_trans h.size k.size, fun i hi hs =>
    (k.block i (Nat.lt_of_lt_of_le hi h.size) (fun hT => hs (ht i hi hT))).trans (h.block i hi hs)⟩
theorem Tb.of_fresh (h : Below w.heap.size w w') : Tb S w w' := ⟨h.os, h.tape, h.output, h.size, fun i hi _ => h.block i hi⟩
theorem Tb.of_grown {row : Option Nat} (h : w.grownBy w' row) (hS : ∀ k, row = some k → S k) : Tb S w w' :=
  ⟨h.os, h.tape, h.output, h.size, fun i hi hs => h.block i hi (fun e => hs (hS i e.symm))⟩
theorem Tb.mono (h : Tb S w w') (hS : ∀ i, i < w.heap.size → S i → T i) : Tb T w w' :=
  ⟨h.os, h.tape, h.output, h.size, fun i hi hs => h.block i hi (fun hh => hs (hS i hi hh))⟩
theorem Tb.alloc (h : Tb S w w') (o : Obj) : Tb S w (w'.alloc o) :=
  h.trans (T := fun _ => False) (Tb.of_fresh ((Below.refl _ w').alloc (Nat.le_refl _) o)) (fun _ _ h => h.elim)
theorem Tb.drew (h : Tb S w w') : Tb S w w'.drew := h.trans (T := fun _ => False) (Tb.of_fresh (Below.refl _ w').drew) (fun _ _ h => h.elim)
theorem Tb.turned {b : Nat} (h : w.mapTurned w' b) (hS : S b) : Tb S w w' := Tb.of_grown h.grown (fun k e => by cases e; exact hS)
theorem Tb.set (R i : Nat) (x : Value) (hS : S R) : Tb S w (w.setCell ⟨R, i, none⟩ x) :=
  ⟨rfl, rfl, rfl, by simp [World.setCell], fun k _ hs => Below.heap_setCell w ⟨R, i, none⟩ x k fun e => hs (by simp only at e; exact e ▸ hS)⟩
theorem Tb.cell (h : Tb S w w') {ad : Addr} {v : Value} (hc : w.cell? ad = some v) (hs : ¬ S ad.block) : w'.cell? ad = some v := by
  rw [World.cell?_of_block (h.block _ (cell_lt hc) hs)]
  exact hc
theorem Tb.below {n : Nat} (h : Tb S w w') (hS : ∀ i, S i → n ≤ i) (hn : n ≤ w.heap.size) : Below n w w' :=
  ⟨h.os, h.tape, h.output, h.size, fun i hi => h.block i (by omega) (fun hs => by have := hS i hs; omega)⟩
theorem row_heap {base n size : Nat} {e : TypeId} {v : Value} {xs : List Value} (h : w.ownsRow base e size v n xs) (hb : ∀ g, v.ownBlock = some g → w'.heap[g]? = w.heap[g]?) : w'.ownsRow base e size v n xs := by
  refine ⟨h.1, ?_⟩
  rcases h.2 with hn | ⟨g, cap, cur, rfl, hbg, hgg, rest⟩
  · exact .inl hn
  · exact .inr ⟨g, cap, cur, rfl, hbg, by rw [hb g rfl]; exact hgg, rest⟩
theorem row_lt {base n size : Nat} {e : TypeId} {v : Value} {xs : List Value} (h : w.ownsRow base e size v n xs) {g : Nat} (hg : v.ownBlock = some g) : g < w.heap.size := (h.lt g hg).2
theorem row_tb {base n size : Nat} {e : TypeId} {v : Value} {xs : List Value} (h : w.ownsRow base e size v n xs) (hb : Tb S w w') (hS : ∀ g, v.ownBlock = some g → ¬ S g) : w'.ownsRow base e size v n xs :=
  row_heap h (fun g hg => hb.block g (row_lt h hg) (hS g hg))
theorem row_val {base n size : Nat} {e : TypeId} {v : Value} {xs : List Value} (h : w.ownsRow base e size v n xs) : ∃ a cap, v = .slice a n cap := by
  rcases h.2 with ⟨rfl, rfl⟩ | ⟨g, cap, _, rfl, _⟩
  · exact ⟨_, _, rfl⟩
  · exact ⟨_, _, rfl⟩
end

/-- Rows of elements appended to a row that is owned, told where it went. -/
theorem run_append_rows {P : Program} {w : World} (base : Nat) (t ty e : TypeId) (i : TypeInfo) (z : Value) (size bytes : Nat) (ht : P.underlying t = some (.slice e)) (hi : P.info? e = some i) (hz : i.zero = some z)
    (hsize : i.size = size) (hby : i.bytes = bytes) (hzs : z.cells.size = size) (hsz : 0 < size) (v : Value) (n : Nat) (xs : List Value) (hown : w.ownsRow base e size v n xs)
    (x : Value) (m : Nat) (ys : List Value) (base' : Nat) (hx : w.ownsRow base' e size x m ys) (h1 : ∀ u ∈ ys, u.oneCell' = true) (h63 : n + m ≤ maxLen) (hbytes : (n + m) * bytes ≤ 140737488355328) (hbase : base ≤ w.heap.size) :
    ∃ v' w', (Builtin.append_ #[t, t] ty #[v, x]).run P w = .ok v' w' ∧ w'.ownsRow base e size v' (n + m) (xs ++ ys) ∧ w.grownBy w' v.ownBlock ∧ (v'.ownBlock = v.ownBlock ∨ v'.ownBlock = some w.heap.size) := by
  rcases hx.2 with ⟨rfl, rfl⟩ | ⟨g, cap, cur, rfl, _, hg, hc, hm, hcs, htk⟩
  · have hy : ys = [] := List.eq_nil_of_length_eq_zero (by rw [hx.1]; simp)
    subst hy
    refine ⟨v, w, ?_, by simpa using hown, World.grownBy.refl _ _, .inl rfl⟩
    rcases hown.2 with ⟨rfl, rfl⟩ | ⟨g, c, cur, rfl, _, hg, hc, _⟩
    · simp [Builtin.append_, run_underlying ht, sizeOf, typeInfo, hi, Builtin.lenOf, Builtin.firstCells]
    · simp [Builtin.append_, run_underlying ht, sizeOf, typeInfo, hi, Builtin.lenOf, Builtin.firstCells, loadCells, hc, storeCells]
  · obtain ⟨v', w', hr, h2, h3, _, h5⟩ := run_append_own_at (P := P) w base t ty e i z size bytes ht hi hz hsize hby hzs hsz v n xs hown ⟨g, 0, none⟩ m cap ys hx.1 (hx.cells (g := g) rfl) h1 h63 hbytes hbase
    exact ⟨v', w', hr, h2, h3, h5⟩

/-- A number that an int can be. -/
def I6 (x : Int) : Prop := -9223372036854775808 ≤ x ∧ x ≤ 9223372036854775807
theorem I6.wf {x : Int} (h : I6 x) : (Lit.int .i64 x).wf = true := by
  unfold I6 at h
  simp [Lit.wf, IntKind.min, IntKind.max, IntKind.signed, IntKind.bits]
  omega

theorem Tb.drewN {S : Nat → Prop} {a w : World} (h : Tb S a w) (q : Nat) : Tb S a (w.drewN q) := h.trans (T := fun _ => False) (Tb.of_fresh (below_drewN (Below.refl _ w) q)) (fun _ _ h => h.elim)
theorem Tb.row {S : Nat → Prop} {w : World} (g : Nat) (cs : Array Value) (h : S g) : Tb S w (w.setRow g cs) := ⟨rfl, rfl, rfl, by simp, fun k _ hne => setRow_other _ _ _ _ (fun e => hne (e ▸ h))⟩
theorem heap_lt {w : World} {g : Nat} {o : Obj} (h : w.heap[g]? = some o) : g < w.heap.size := (Array.getElem?_eq_some_iff.1 h).1

theorem eql_self {P : Program} {w : World} {tp te : TypeId} {j : TypeInfo} (a : Addr) (hp : P.underlying tp = some (.pointer te)) (hte : P.info? te = some j) : (binOp .eql tp (.pointer (some a)) (.pointer (some a))).run P w = .ok (.bool true) w := by
  have h : ∀ d : Nat, (Op.equalIn (d + 1) tp (.pointer (some a)) (.pointer (some a))).run P w = .ok true w := fun d => by simp [Op.equalIn, run_underlying hp, typeInfo, sizeOf, run_sameAddr_same, hte]
  simp only [binOp]
  simp [Op.equal, Op.maxDepth, h 9999]

theorem eql_nil {P : Program} {w : World} {tp te : TypeId} (a : Addr) (hp : P.underlying tp = some (.pointer te)) : (binOp .eql tp (.pointer none) (.pointer (some a))).run P w = .ok (.bool false) w := by
  have h : ∀ d : Nat, (Op.equalIn (d + 1) tp (.pointer none) (.pointer (some a))).run P w = .ok false w := fun d => by simp [Op.equalIn, run_underlying hp]
  simp only [binOp]
  simp [Op.equal, Op.maxDepth, h 9999]

theorem eql_func_no {P : Program} {w : World} {tp : TypeId} {ps rs : Array TypeId} {b : Bool} (f : Fn) (xs ys : Array Value) (hp : P.underlying tp = some (.func ps rs b)) : (binOp .eql tp (.func f xs ys) .nilFunc).run P w = .ok (.bool false) w := by
  have h : ∀ d : Nat, (Op.equalIn (d + 1) tp (.func f xs ys) .nilFunc).run P w = .ok false w := fun d => by simp [Op.equalIn, run_underlying hp]
  simp only [binOp]
  simp [Op.equal, Op.maxDepth, h 9999]

theorem eql_func_nil {P : Program} {w : World} {tp : TypeId} {ps rs : Array TypeId} {b : Bool} (hp : P.underlying tp = some (.func ps rs b)) : (binOp .eql tp .nilFunc .nilFunc).run P w = .ok (.bool true) w := by
  have h : ∀ d : Nat, (Op.equalIn (d + 1) tp .nilFunc .nilFunc).run P w = .ok true w := fun d => by simp [Op.equalIn, run_underlying hp]
  simp only [binOp]
  simp [Op.equal, Op.maxDepth, h 9999]

/-- A ring of N places that holds a line from place h on. -/
structure Rg {α : Type} (cur : List α) (N h : Nat) (xs : List α) : Prop where
  len : cur.length = N
  head : h < N
  few : xs.length ≤ N
  at' : ∀ i, i < xs.length → cur[(h + i) % N]? = xs[i]?

section
variable {α : Type} {cur : List α} {N h : Nat} {xs : List α}

theorem mod_ne {N h i j : Nat} (hi : i < N) (hj : j < N) (hij : i ≠ j) : (h + i) % N ≠ (h + j) % N := by
  intro e
  rcases Nat.lt_or_gt_of_ne hij with hl | hl
  · have h1 := (Nat.sub_mod_eq_zero_of_mod_eq e.symm)
    have h2 : h + j - (h + i) = j - i := by omega
    rw [h2, Nat.mod_eq_of_lt (by omega)] at h1
    omega
  · have h1 := (Nat.sub_mod_eq_zero_of_mod_eq e)
    have h2 : h + i - (h + j) = i - j := by omega
    rw [h2, Nat.mod_eq_of_lt (by omega)] at h1
    omega

theorem Rg.spot (r : Rg cur N h xs) (i : Nat) : (h + i) % N < N := Nat.mod_lt _ (by have := r.head; omega)

theorem Rg.set (r : Rg cur N h xs) {j : Nat} (hj : j < xs.length) (x : α) : Rg (cur.set ((h + j) % N) x) N h (xs.set j x) := by
  have hf := r.few
  refine ⟨by simp [r.len], r.head, by simpa using hf, fun i hi => ?_⟩
  simp only [List.length_set] at hi
  by_cases e : i = j
  · subst e
    rw [List.getElem?_set_self (by rw [r.len]; exact r.spot i), List.getElem?_set_self hj]
  · rw [List.getElem?_set_ne (fun h' => mod_ne (by omega) (by omega) e h'.symm), List.getElem?_set_ne (fun h' => e h'.symm)]
    exact r.at' i hi

theorem Rg.push (r : Rg cur N h xs) (hn : xs.length < N) (x : α) : Rg (cur.set ((h + xs.length) % N) x) N h (xs ++ [x]) := by
  refine ⟨by simp [r.len], r.head, by simp; omega, fun i hi => ?_⟩
  simp only [List.length_append, List.length_cons, List.length_nil] at hi
  by_cases e : i = xs.length
  · subst e
    rw [List.getElem?_set_self (by rw [r.len]; exact r.spot _)]
    simp
  · rw [List.getElem?_set_ne (fun h' => mod_ne (by omega) (by omega) e h'.symm), List.getElem?_append_left (by omega)]
    exact r.at' i (by omega)

/-- A place that nobody has. -/
theorem Rg.tail (r : Rg cur N h xs) (hn : 0 < xs.length) : Rg cur N ((h + 1) % N) xs.tail := by
  have hf := r.few
  refine ⟨r.len, r.spot 1, by simp; omega, fun i hi => ?_⟩
  simp only [List.length_tail] at hi
  rw [Nat.mod_add_mod, List.getElem?_tail, show h + 1 + i = h + (i + 1) from by omega]
  exact r.at' (i + 1) (by omega)

theorem Rg.front (r : Rg cur N h xs) (m : Nat) : Rg cur N h (xs.take m) := by
  have hf := r.few
  refine ⟨r.len, r.head, by simp; omega, fun i hi => ?_⟩
  simp only [List.length_take] at hi
  rw [List.getElem?_take, if_pos (by omega)]
  exact r.at' i (by omega)

theorem Rg.get (r : Rg cur N h xs) {i : Nat} (hi : i < xs.length) (d : α) : cur[(h + i) % N]? = some (xs.getD i d) := by
  rw [r.at' i hi]
  simp [List.getD, List.getElem?_eq_getElem hi]

/-- A new ring. -/
theorem Rg.new (xs : List α) (z : α) : Rg (xs ++ List.replicate (xs.length + 1) z) (2 * xs.length + 1) 0 xs := by
  refine ⟨by simp; omega, by omega, by omega, fun i hi => ?_⟩
  rw [Nat.zero_add, Nat.mod_eq_of_lt (by omega), List.getElem?_append_left hi]

/-- While place i closes up from the head: the places up to k are as they were, those behind it up to i have what was one place ahead. -/
def Low (xs zs : List α) (i k : Nat) : Prop := zs.length = xs.length ∧ ∀ j, zs[j]? = if j ≤ k then xs[j]? else if j ≤ i then xs[j - 1]? else xs[j]?

theorem Low.start (xs : List α) (i : Nat) : Low xs xs i i := ⟨rfl, fun j => by by_cases h : j ≤ i <;> simp [h]⟩

theorem Low.step {zs : List α} {i k : Nat} (h : Low xs zs i (k + 1)) (hk : k + 1 ≤ i) (hi : i < xs.length) (d : α) : Low xs (zs.set (k + 1) (zs.getD k d)) i k := by
  refine ⟨by simp [h.1], fun j => ?_⟩
  have e : zs.getD k d = xs[k] := by
    have h1 := h.2 k
    rw [if_pos (by omega), List.getElem?_eq_getElem (by omega : k < xs.length)] at h1
    simp [List.getD, h1]
  by_cases hj : j = k + 1
  · subst hj
    rw [List.getElem?_set_self (by rw [h.1]; omega), e, if_neg (by omega), if_pos hk]
    simp [List.getElem?_eq_getElem (by omega : k < xs.length)]
  · rw [List.getElem?_set_ne (fun h' => hj h'.symm), h.2 j]
    by_cases h1 : j ≤ k
    · rw [if_pos (by omega), if_pos h1]
    · rw [if_neg (by omega), if_neg h1]

theorem Low.done {zs : List α} {i : Nat} (h : Low xs zs i 0) (z : α) : (zs.set 0 z).tail = xs.eraseIdx i := by
  apply List.ext_getElem?
  intro j
  rw [List.getElem?_tail, List.getElem?_set_ne (by omega), h.2 (j + 1), List.getElem?_eraseIdx, if_neg (by omega)]
  by_cases hj : j < i
  · rw [if_pos (by omega), if_pos hj]
    rfl
  · rw [if_neg (by omega), if_neg hj]

/-- While place i closes up from the end: from i on up to k each place has what was one place behind. -/
def Hig (xs zs : List α) (i k : Nat) : Prop := zs.length = xs.length ∧ ∀ j, j + 1 ≠ k → zs[j]? = if j < i then xs[j]? else if j + 1 < k then xs[j + 1]? else xs[j]?

theorem Hig.start (xs : List α) (i : Nat) : Hig xs xs i (i + 1) := ⟨rfl, fun j hj => by
  by_cases h : j < i
  · simp [h]
  · rw [if_neg h, if_neg (by omega)]⟩

theorem Hig.step {zs : List α} {i k : Nat} (h : Hig xs zs i k) (hk : i < k) (hn : k < xs.length) (d : α) : Hig xs (zs.set (k - 1) (zs.getD k d)) i (k + 1) := by
  refine ⟨by simp [h.1], fun j hj => ?_⟩
  have e : zs.getD k d = xs[k] := by
    have h1 := h.2 k (by omega)
    rw [if_neg (by omega), if_neg (by omega), List.getElem?_eq_getElem hn] at h1
    simp [List.getD, h1]
  by_cases hj' : j = k - 1
  · subst hj'
    rw [List.getElem?_set_self (by rw [h.1]; omega), e, if_neg (by omega), if_pos (by omega), show k - 1 + 1 = k from by omega, List.getElem?_eq_getElem hn]
  · rw [List.getElem?_set_ne (fun h' => hj' h'.symm), h.2 j (by omega)]
    by_cases h1 : j < i
    · rw [if_pos h1, if_pos h1]
    · rw [if_neg h1, if_neg h1]
      by_cases h2 : j + 1 < k
      · rw [if_pos h2, if_pos (by omega)]
      · rw [if_neg h2, if_neg (by omega)]

theorem Hig.done {zs : List α} {i : Nat} (h : Hig xs zs i xs.length) (hi : i < xs.length) (z : α) : (zs.set (xs.length - 1) z).take (xs.length - 1) = xs.eraseIdx i := by
  apply List.ext_getElem?
  intro j
  rw [List.getElem?_take, List.getElem?_eraseIdx]
  by_cases hj : j < xs.length - 1
  · rw [if_pos hj, List.getElem?_set_ne (by omega), h.2 j (by omega)]
    by_cases h1 : j < i
    · rw [if_pos h1, if_pos h1]
    · rw [if_neg h1, if_neg h1, if_pos (by omega)]
  · rw [if_neg hj, if_neg (by omega), List.getElem?_eq_none (by omega)]

end

end Go.Proofs.YtgjpbekmkhanhaaGreat

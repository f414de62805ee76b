/-
  Texts put into one.
-/
import Derived.WalkKit
import Derived.WalkSpells
import Derived.WalkLawsBesides
import Derived.Laws.CopyOwn
import Derived.Laws.BytesArg
import Derived.Lib.AppendStr

/-
  Plain facts on bytes, numbers in bytes and slices of bytes in memory; nothing of the program.
-/
namespace Go.Proofs.Ytnimfkcnkkjlkaa
open Go.RowKit
set_option maxRecDepth 100000

theorem hide {p : Prop} (h : p) : Hid p := h
theorem unhide {p : Prop} (h : Hid p) : p := h

/-- The k bytes of a number, the highest first. -/
def be : Nat → Nat → List Int
  | 0, _ => []
  | k + 1, v => be k (v / 256) ++ [((v % 256 : Nat) : Int)]

/-- The number that bytes say, the highest first. -/
def un (l : List Int) : Nat := l.foldl (fun r z => r * 256 + z.toNat) 0

theorem un_snoc (l : List Int) (z : Int) : un (l ++ [z]) = un l * 256 + z.toNat := by simp [un]
theorem un_nil : un [] = 0 := rfl

theorem be_length (k v : Nat) : (be k v).length = k := by
  induction k generalizing v with
  | zero => rfl
  | succ k ih => simp [be, ih]

theorem be_byte (k v : Nat) : ∀ z ∈ be k v, 0 ≤ z ∧ z ≤ 255 := by
  induction k generalizing v with
  | zero => simp [be]
  | succ k ih =>
    intro z hz
    simp only [be, List.mem_append, List.mem_singleton] at hz
    rcases hz with hz | rfl
    · exact ih _ z hz
    · omega

theorem be_cons (k v : Nat) : be (k + 1) v = ((v / 256 ^ k % 256 : Nat) : Int) :: be k v := by
  induction k generalizing v with
  | zero => simp [be]
  | succ k ih =>
    have e : be (k + 1 + 1) v = be (k + 1) (v / 256) ++ [((v % 256 : Nat) : Int)] := rfl
    rw [e, ih (v / 256)]
    have e2 : be (k + 1) v = be k (v / 256) ++ [((v % 256 : Nat) : Int)] := rfl
    rw [e2, Nat.div_div_eq_div_mul, Nat.pow_succ, Nat.mul_comm (256 ^ k) 256]
    simp

theorem un_be (k v : Nat) : un (be k v) = v % 256 ^ k := by
  induction k generalizing v with
  | zero => simp [be, un, Nat.mod_one]
  | succ k ih =>
    have e : be (k + 1) v = be k (v / 256) ++ [((v % 256 : Nat) : Int)] := rfl
    rw [e, un_snoc, ih, Nat.pow_succ, Nat.mul_comm (256 ^ k) 256, Nat.mod_mul]
    simp only [Int.toNat_natCast]
    omega

theorem un_acc (l : List Int) (h : ∀ z ∈ l, 0 ≤ z ∧ z ≤ 255) (r : Nat) : l.foldl (fun r z => r * 256 + z.toNat) r < (r + 1) * 256 ^ l.length := by
  induction l generalizing r with
  | nil => simp
  | cons z l ih =>
    have h1 := ih (fun y hy => h y (by simp [hy])) (r * 256 + z.toNat)
    have h2 := h z (by simp)
    rw [List.foldl_cons, List.length_cons, Nat.pow_succ]
    have h3 : (r * 256 + z.toNat + 1) * 256 ^ l.length ≤ ((r + 1) * 256) * 256 ^ l.length := Nat.mul_le_mul_right _ (by omega)
    have h4 : (r + 1) * (256 ^ l.length * 256) = ((r + 1) * 256) * 256 ^ l.length := by rw [Nat.mul_comm (256 ^ l.length) 256, Nat.mul_assoc]
    omega

theorem un_lt (l : List Int) (h : ∀ z ∈ l, 0 ≤ z ∧ z ≤ 255) : un l < 256 ^ l.length := by
  have := un_acc l h 0
  simpa [un] using this

/-- A slice of bytes, as it can be read: n numbers from a place on, each a byte. -/
structure Bs (w : World) (a : Option Addr) (n cap : Nat) (zs : List Int) : Prop where
  len : zs.length = n
  le : n ≤ cap
  reach : cap ≤ 9223372036854775807
  byte : ∀ z ∈ zs, 0 ≤ z ∧ z ≤ 255
  bare : a = Option.none → cap = 0
  lies : 0 < n → ∃ b off, a = some ⟨b, off, none⟩ ∧ ∀ i, i < n → w.cell? ⟨b, off + i, none⟩ = some (.int .u8 (zs.getD i 0))

theorem cell_lt {w : World} {a : Addr} {v : Value} (h : w.cell? a = some v) : a.block < w.heap.size := World.block_lt_of_cell? w a h

theorem Bs.keep {w w' : World} {a : Option Addr} {n cap : Nat} {zs : List Int} (h : Bs w a n cap zs) (hb : Below w.heap.size w w') : Bs w' a n cap zs := by
  refine ⟨h.len, h.le, h.reach, h.byte, h.bare, fun hn => ?_⟩
  obtain ⟨b, off, ha, hc⟩ := h.lies hn
  refine ⟨b, off, ha, fun i hi => ?_⟩
  have h1 := hc i hi
  rw [hb.cell (cell_lt h1)]
  exact h1

theorem Bs.nil (w : World) : Bs w none 0 0 [] := ⟨rfl, Nat.le_refl _, by omega, by simp, fun _ => rfl, fun h => by omega⟩

/-- A whole row of bytes that a call made, read as a slice from its head on. -/
theorem Bs.own {w : World} {g cap n : Nat} {zs : List Int} {t : TypeId} {cur : List Value} (hg : w.heap[g]? = some (.cells cur.toArray t (0, 0))) (_hc : cur.length = cap) (hl : zs.length = n) (hn : n ≤ cap)
    (hm : cap ≤ 9223372036854775807) (hb : ∀ z ∈ zs, 0 ≤ z ∧ z ≤ 255) (ht : cur.take n = zs.map (Value.int .u8)) : Bs w (some ⟨g, 0, none⟩) n cap zs := by
  refine ⟨hl, hn, hm, hb, fun h => (by cases h), fun _ => ⟨g, 0, rfl, fun i hi => ?_⟩⟩
  rw [cell_of_row w g (0 + i) cur.toArray t (0, 0) hg]
  have h1 : (cur.take n)[i]? = cur[i]? := by rw [List.getElem?_take, if_pos hi]
  have h2 : i < zs.length := by omega
  rw [ht] at h1
  simp [List.getElem?_map, List.getElem?_eq_getElem h2] at h1
  simp [← h1, List.getD, List.getElem?_eq_getElem h2]

/-- The numbers of a slice as a string's bytes. -/
theorem run_str {P : Program} {w : World} (src e : TypeId) (hs : P.underlying src = some (.slice e)) (he : P.underlying e = some (.int .u8)) {a : Option Addr} {n cap : Nat} {zs : List Int} (h : Bs w a n cap zs) :
    ∀ dst, P.underlying dst = some .string → (convert src dst (.slice a n cap)).run P w = .ok (.string (strOfNums zs)) w := by
  intro dst hd
  by_cases hn : n = 0
  · have hz : zs = [] := List.eq_nil_of_length_eq_zero (by rw [h.len]; exact hn)
    subst hz
    cases a with
    | none => rw [run_convert_bytes_nil w src e hs he n cap dst hd]; rfl
    | some ad =>
      subst hn
      rw [run_convert_bytes_string w src dst e _ 0 cap hs he hd, run_bytesToString w _ 0 cap [] (by simp [loadCells, loadCellsFrom])]
      rfl
  · obtain ⟨b, off, rfl, hc⟩ := h.lies (by omega)
    exact run_convert_bytes_arg w src e hs he b off n cap zs h.len hc dst hd

theorem strOf_inj {xs ys : List Int} (hx : ∀ z ∈ xs, 0 ≤ z ∧ z ≤ 255) (hy : ∀ z ∈ ys, 0 ≤ z ∧ z ≤ 255) (h : xs.map (fun n => UInt8.ofNat n.toNat) = ys.map (fun n => UInt8.ofNat n.toNat)) : xs = ys := by
  induction xs generalizing ys with
  | nil => cases ys with
    | nil => rfl
    | cons y ys => simp at h
  | cons x xs ih => cases ys with
    | nil => simp at h
    | cons y ys =>
      simp only [List.map_cons, List.cons.injEq] at h
      have h1 := hx x (by simp)
      have h2 := hy y (by simp)
      have h3 := congrArg UInt8.toNat h.1
      simp only [UInt8.toNat_ofNat'] at h3
      have h4 : x = y := by omega
      rw [h4, ih (fun z hz => hx z (by simp [hz])) (fun z hz => hy z (by simp [hz])) h.2]

theorem un_take_succ (zs : List Int) (p k : Nat) (h : p + k < zs.length) : un ((zs.drop p).take (k + 1)) = un ((zs.drop p).take k) * 256 + (zs[p + k]?.getD 0).toNat := by
  rw [List.take_succ_eq_append_getElem (by simp; omega), un_snoc]
  simp [List.getElem?_eq_getElem h]

theorem getD_byte {zs : List Int} (h : ∀ z ∈ zs, 0 ≤ z ∧ z ≤ 255) (i : Nat) : 0 ≤ zs[i]?.getD 0 ∧ zs[i]?.getD 0 ≤ 255 := by
  cases e : zs[i]? with
  | none => simp
  | some z => simpa using h z (List.mem_of_getElem? e)

theorem take_byte {zs : List Int} (h : ∀ z ∈ zs, 0 ≤ z ∧ z ≤ 255) (k : Nat) : ∀ z ∈ zs.take k, 0 ≤ z ∧ z ≤ 255 := fun z hz => h z (List.mem_of_mem_take hz)
theorem drop_byte {zs : List Int} (h : ∀ z ∈ zs, 0 ≤ z ∧ z ≤ 255) (k : Nat) : ∀ z ∈ zs.drop k, 0 ≤ z ∧ z ≤ 255 := fun z hz => h z (List.mem_of_mem_drop hz)

theorem un_take_lt {zs : List Int} (h : ∀ z ∈ zs, 0 ≤ z ∧ z ≤ 255) (p k : Nat) (j : Nat) (hk : k ≤ j) : un ((zs.drop p).take k) < 256 ^ j := by
  refine Nat.lt_of_lt_of_le (un_lt _ (take_byte (drop_byte h p) k)) ?_
  exact Nat.pow_le_pow_right (by omega) (Nat.le_trans (List.length_take_le _ _) hk)

theorem or_join (x : Nat) (z : Int) (hx : x ≤ 72057594037927935) (h0 : 0 ≤ z) (h1 : z ≤ 255) : bits .or .u64 ((x : Int) * 256) z = ((x * 256 + z.toNat : Nat) : Int) := by
  rw [u64_or _ _ (by omega) (by omega) (by omega) (by omega)]
  have e : ((x : Int) * 256).toNat = x * 256 := by omega
  rw [e, nat_join8 _ _ (by omega) (by omega)]

def U (l : List Int) : List Value := l.map (Value.int .u8)
theorem U_length (l : List Int) : (U l).length = l.length := by simp [U]
theorem U_append (l m : List Int) : U (l ++ m) = U l ++ U m := by simp [U]

theorem zero_length (k : Nat) : (U (List.replicate k 0)).length = k := by simp [U]

theorem U_one (l : List Int) : ∀ u ∈ U l, u.oneCell' = true := ints_oneCell .u8 l

/-- What a make of bytes leaves: the whole new row. -/
theorem own_full {w w1 : World} {n : Nat} {e : TypeId} (h : w1.ownsRow w.heap.size e 1 (.slice (some ⟨w.heap.size, 0, none⟩) n n) n (madeCells (Value.int .u8 0).cells (n * 1)).toList) :
    w1.heap[w.heap.size]? = some (.cells (U (List.replicate n 0)).toArray e (0, 0)) := by
  rcases h.2 with ⟨h1, _⟩ | ⟨g, cap, cur, h1, _, hh, _, _, hs, ht⟩
  · cases h1
  · simp only [Value.slice.injEq, Option.some.injEq, Addr.mk.injEq] at h1
    obtain ⟨⟨rfl, _, _⟩, _, rfl⟩ := h1
    rw [hh]
    have e1 : cur.toList = U (List.replicate n 0) := by
      rw [List.take_of_length_le (by simp [hs])] at ht
      rw [ht]
      simp only [Value.cells, Nat.mul_one]
      rw [toList_madeCells_one]
      simp [U]
    rw [← e1]

theorem Bs.src {w : World} {a : Option Addr} {n cap : Nat} {zs : List Int} (h : Bs w a n cap zs) (hp : 0 < n) : ∃ ad, a = some ad ∧ ∀ j v, (U zs)[j]? = some v → w.cell? (ad.add j) = some v := by
  obtain ⟨b, off, rfl, hc⟩ := h.lies hp
  refine ⟨_, rfl, fun j v hj => ?_⟩
  have hjl : j < zs.length := by
    rcases Nat.lt_or_ge j zs.length with h | h
    · exact h
    · simp [U, List.getElem?_eq_none h] at hj
  rw [Addr.add_lit, hc j (by rw [← h.len]; exact hjl)]
  simp [U, List.getElem?_eq_getElem hjl] at hj
  simp [← hj, List.getD, List.getElem?_eq_getElem hjl]

theorem splice_head (zs : List Int) (n m : Nat) (h : zs.length = n) : splice (U (List.replicate (n + m) 0)) 0 (U zs) = U (zs ++ List.replicate m 0) := by
  subst h
  simp [splice, U]

theorem splice_set {α : Type} (L : List α) (p : Nat) (cs : List α) (u : α) (h : p < L.length) : (splice L (p + 1) cs).set p u = splice L p (u :: cs) := by
  unfold splice
  rw [List.take_succ_eq_append_getElem h, List.append_assoc, List.set_append_right _ _ (by simp; omega)]
  have e : p - (L.take p).length = 0 := by simp; omega
  rw [e]
  simp only [List.cons_append, List.nil_append, List.set_cons_zero, List.length_cons]
  rw [show p + 1 + cs.length = p + (cs.length + 1) from by omega]

/-- One round of a fill from the last byte to the first. -/
theorem fill_step {cur : List Value} {off size k v x : Nat} (hk : k < size) (hfit : off + size ≤ cur.length) (hx : x = v / 256 ^ k) :
    (splice cur (off + size - k) (U (be k v))).set (off + (size - 1 - k)) (.int .u8 ((x : Int) % 256)) = splice cur (off + size - (k + 1)) (U (be (k + 1) v)) := by
  have e1 : off + size - k = off + (size - 1 - k) + 1 := by omega
  have e2 : off + size - (k + 1) = off + (size - 1 - k) := by omega
  rw [e1, e2, splice_set _ _ _ _ (by omega), be_cons, hx]
  simp [U]

theorem splice_length_U {cur : List Value} {off : Nat} {l : List Int} (h : off + l.length ≤ cur.length) : (splice cur off (U l)).length = cur.length := length_splice _ _ _ (by rw [U_length]; exact h)

theorem splice_nil {α : Type} (L : List α) (p : Nat) : splice L p [] = L := by simp [splice]

theorem heap_cell {w : World} {g i : Nat} {cur : List Value} {t : TypeId} (hg : w.heap[g]? = some (.cells cur.toArray t (0, 0))) (h : i < cur.length) : ∃ v, w.cell? ⟨g, i, none⟩ = some v := by
  rw [cell_of_row w g i cur.toArray t (0, 0) hg]
  exact ⟨cur[i], by simp [h]⟩

theorem heap_free {w : World} {g i : Nat} {cur : List Value} {t : TypeId} (hg : w.heap[g]? = some (.cells cur.toArray t (0, 0))) : w.frozen? ⟨g, i, none⟩ = false := by
  simp [World.frozen?, hg]

theorem heap_set {w : World} {g i : Nat} {cur : List Value} {t : TypeId} (hg : w.heap[g]? = some (.cells cur.toArray t (0, 0))) (v : Value) :
    (w.setCell ⟨g, i, none⟩ v).heap[g]? = some (.cells (cur.set i v).toArray t (0, 0)) := by
  rw [heap_setCell_same w g i cur.toArray t v hg]
  simp

/-- What is laid over a row behind its first n cells. -/
theorem splice_mid (zs : List Int) (n : Nat) (hn : zs.length = n) (cs : List Int) (m : Nat) (_hm : cs.length ≤ m) : splice (U (zs ++ List.replicate m 0)) n (U cs) = U (zs ++ cs ++ List.replicate (m - cs.length) 0) := by
  subst hn
  simp only [splice, U, List.map_append, List.length_map, List.append_assoc]
  rw [List.take_append_of_le_length (by simp), List.take_of_length_le (by simp)]
  congr 1
  congr 1
  rw [List.drop_append]
  simp

theorem splice_tail (zs : List Int) (n : Nat) (hn : zs.length = n) (cs : List Int) (m : Nat) (hm : cs.length = m) : splice (U (zs ++ List.replicate m 0)) n (U cs) = U (zs ++ cs) := by
  rw [splice_mid zs n hn cs m (by omega)]
  simp [hm]

/-- The bytes of a string, as numbers. -/
def sb (s : ByteArray) : List Int := s.data.toList.map fun b => (b.toNat : Int)
theorem sb_length (s : ByteArray) : (sb s).length = s.size := by rw [sb, List.length_map, Array.length_toList]; rfl
theorem sb_byte (s : ByteArray) : ∀ z ∈ sb s, 0 ≤ z ∧ z ≤ 255 := by
  intro z hz
  obtain ⟨b, _, rfl⟩ := List.mem_map.1 hz
  have := b.toNat_lt
  omega
theorem U_sb (s : ByteArray) : U (sb s) = Lib.strCells s := by simp [U, sb, Lib.strCells]
theorem str_sb (s : ByteArray) : strOfNums (sb s) = s := by
  have e : (sb s).map (fun n => UInt8.ofNat n.toNat) = s.data.toList := by
    rw [sb, List.map_map]
    conv => rhs; rw [← List.map_id s.data.toList]
    apply List.map_congr_left
    intro b _
    simp
  unfold strOfNums
  rw [e]
theorem sb_str {l : List Int} (h : ∀ z ∈ l, 0 ≤ z ∧ z ≤ 255) : sb (strOfNums l) = l := by
  unfold sb
  rw [strOfNums_data, List.map_map]
  conv => rhs; rw [← List.map_id l]
  apply List.map_congr_left
  intro z hz
  have := h z hz
  simp only [Function.comp_apply, UInt8.toNat_ofNat', id_eq]
  omega

/-- A string's bytes copied into a row that the call made. -/
theorem wpList_copy_str {P : Program} {w : World} {ops : Array Oper} {rest : List Oper} {o : Oper} {a : Act} {Q : Exit → Act → World → Prop} (hgd : o.guard = none) (d s : Operand) (dT sT : TypeId)
    (ho : o.op = .call { callee := .builtin .copy, args := #[d, s], argTypes := #[dT, sT] }) (elem : TypeId) (hu : P.underlying dT = some (.slice elem)) (hsz : (P.info? elem).map (·.size) = some 1)
    (dp : Option Addr) (dLen dCap : Nat) (str : ByteArray) (hd : a.eval d = .slice dp dLen dCap) (hs : a.eval s = .string str) (hle : str.size ≤ dLen)
    (g off : Nat) (cur : List Value) (t : TypeId) (hg : w.heap[g]? = some (.cells cur.toArray t (0, 0)))
    (hpos : 0 < str.size → dp = some ⟨g, off, none⟩) (hfit : off + str.size ≤ cur.length) (B : Nat) (w0 : World) (hb : Below B w0 w) (hBg : B ≤ g)
    (h : ∀ w', Hid (w'.heap[g]? = some (.cells (splice cur off (U (sb str))).toArray t (0, 0))) → Below B w0 w' → wpList P ops Q rest (a.put o.dst (goInt str.size)) w') :
    wpList P ops Q (o :: rest) a w := by
  refine wpList_plain hgd fun K hK => ?_
  have hmin : Nat.min str.size dLen = str.size := Nat.min_eq_left hle
  obtain ⟨i, hi, hi1⟩ := Option.map_eq_some_iff.1 hsz
  by_cases h0 : str.size = 0
  · have hrun : (Builtin.copy_ #[dT, sT] o.type #[.slice dp dLen dCap, .string str]).run P w = .ok (goInt str.size) w := by
      cases dp <;> simp [Builtin.copy_, run_underlying hu, Builtin.lenOf, Builtin.firstCells, sizeOf, typeInfo, hi, h0, storeCells]
    have he : U (sb str) = [] := List.eq_nil_of_length_eq_zero (by rw [U_length, sb_length]; exact h0)
    unfold Oper.wp
    simp [execOp, ho, resolve, invoke, builtin, hd, hs, hrun, Result.andThen]
    exact hK _ _ (h w (hide (by rw [he, splice_nil]; exact hg)) hb)
  · obtain rfl := hpos (by omega)
    have hst := run_storeCells_at P g off t (Lib.strCells str) 0 cur.toArray w hg (by rw [Lib.strCells_length]; simpa using hfit) (Lib.strCells_oneCell str)
    have hf := Lib.run_firstCells_string (P := P) w 1 str
    simp only [Nat.add_zero, Lib.strCells_length] at hst
    have hrun : (Builtin.copy_ #[dT, sT] o.type #[.slice (some ⟨g, off, none⟩) dLen dCap, .string str]).run P w = .ok (goInt str.size) (w.setRow g (splice cur off (U (sb str))).toArray) := by
      have e : (splice cur off (U (sb str))).toArray = (cur.take off ++ Lib.strCells str ++ cur.drop (off + str.size)).toArray := by
        rw [splice, U_sb, Lib.strCells_length, List.append_assoc]
      rw [e]
      simp [Builtin.copy_, run_underlying hu, Builtin.lenOf, sizeOf, typeInfo, hi, hi1, hmin, hf, hst, Result.andThen]
    unfold Oper.wp
    simp [execOp, ho, resolve, invoke, builtin, hd, hs, hrun, Result.andThen]
    exact hK _ _ (h _ (hide (setRow_heap w g _ _ t _ hg)) (below_setRow hb hBg _))

end Go.Proofs.Ytnimfkcnkkjlkaa

/-
  Numbers in groups of seven bits, as functions on lists; nothing of the program.
-/
namespace Go.Proofs.Ytnimfkcnkkjlkaa
open Go.RowKit
set_option maxRecDepth 100000

/-- The bytes of a number, f groups at the most behind the first. -/
def vbf : Nat → Nat → List Int
  | 0, n => [(n : Int)]
  | f + 1, n => if n < 128 then [(n : Int)] else ((n % 128 + 128 : Nat) : Int) :: vbf f (n / 128)

theorem vbf_eq (f : Nat) : ∀ f' n, n ≤ f → n ≤ f' → vbf f n = vbf f' n := by
  induction f with
  | zero =>
    intro f' n h _
    obtain rfl : n = 0 := by omega
    cases f' <;> simp [vbf]
  | succ f ih =>
    intro f' n h h'
    cases f' with
    | zero =>
      obtain rfl : n = 0 := by omega
      simp [vbf]
    | succ f' =>
      rw [vbf, vbf]
      by_cases hn : n < 128
      · rw [if_pos hn, if_pos hn]
      · rw [if_neg hn, if_neg hn, ih f' (n / 128) (by omega) (by omega)]

/-- The bytes of a number. -/
def vb (n : Nat) : List Int := vbf n n

theorem vb_lt {n : Nat} (h : n < 128) : vb n = [(n : Int)] := by
  unfold vb
  cases n with
  | zero => rfl
  | succ n => rw [vbf, if_pos h]
theorem vb_ge {n : Nat} (h : 128 ≤ n) : vb n = ((n % 128 + 128 : Nat) : Int) :: vb (n / 128) := by
  unfold vb
  cases n with
  | zero => omega
  | succ n => rw [vbf, if_neg (by omega), vbf_eq n ((n + 1) / 128) ((n + 1) / 128) (by omega) (Nat.le_refl _)]

/-- The number that groups say, the lowest first. -/
def num : List Int → Nat
  | [] => 0
  | z :: l => (z % 128).toNat + 128 * num l

theorem num_vb (n : Nat) : num (vb n) = n := by
  induction n using Nat.strongRecOn with
  | _ n ih =>
    by_cases h : n < 128
    · rw [vb_lt h]; simp only [num]; omega
    · rw [vb_ge (by omega)]
      simp only [num]
      rw [ih (n / 128) (by omega)]
      omega

theorem vb_inj {m n : Nat} (h : vb m = vb n) : m = n := by rw [← num_vb m, ← num_vb n, h]

theorem vb_ne (n : Nat) : vb n ≠ [] := by
  by_cases h : n < 128
  · rw [vb_lt h]; simp
  · rw [vb_ge (by omega)]; simp

theorem vb_pos (n : Nat) : 1 ≤ (vb n).length := List.length_pos_iff.2 (vb_ne n)

theorem vb_byte (n : Nat) : ∀ z ∈ vb n, 0 ≤ z ∧ z ≤ 255 := by
  induction n using Nat.strongRecOn with
  | _ n ih =>
    by_cases h : n < 128
    · rw [vb_lt h]; simp; omega
    · rw [vb_ge (by omega)]
      intro z hz
      rcases List.mem_cons.1 hz with rfl | hz
      · omega
      · exact ih _ (by omega) z hz

theorem vb_len_le (k : Nat) : ∀ n, n < 128 ^ (k + 1) → (vb n).length ≤ k + 1 := by
  induction k with
  | zero => intro n h; rw [vb_lt (by omega)]; simp
  | succ k ih =>
    intro n h
    by_cases h1 : n < 128
    · rw [vb_lt h1]; simp
    · rw [vb_ge (by omega), List.length_cons]
      have := ih (n / 128) (by rw [Nat.pow_succ] at h; omega)
      omega

theorem vb_len10 {n : Nat} (h : n < 18446744073709551616) : (vb n).length ≤ 10 := vb_len_le 9 n (by omega)

theorem vb_len_mono (n : Nat) : ∀ m, m ≤ n → (vb m).length ≤ (vb n).length := by
  induction n using Nat.strongRecOn with
  | _ n ih =>
    intro m hm
    by_cases h : m < 128
    · rw [vb_lt h]; exact vb_pos n
    · rw [vb_ge (n := m) (by omega), vb_ge (n := n) (by omega)]
      have := ih (n / 128) (by omega) (m / 128) (by omega)
      simpa using this

/-- What is walked: up to the first last group, and no more than k. -/
def upto : Nat → List Int → List Int
  | 0, _ => []
  | _ + 1, [] => []
  | k + 1, z :: l => if z < 128 then [z] else z :: upto k l

theorem upto_vb (n : Nat) : ∀ (k : Nat) (t : List Int), (vb n).length ≤ k → upto k (vb n ++ t) = vb n := by
  induction n using Nat.strongRecOn with
  | _ n ih =>
    intro k t hk
    cases k with
    | zero => have := vb_pos n; omega
    | succ k =>
      by_cases h : n < 128
      · rw [vb_lt h]; simp [upto]; omega
      · rw [vb_ge (by omega)] at hk ⊢
        simp only [List.length_cons] at hk
        rw [List.cons_append, upto, if_neg (by omega), ih (n / 128) (by omega) k t (by omega)]

theorem upto_prefix (k : Nat) : ∀ l, upto k l <+: l := by
  induction k with
  | zero => intro l; simp [upto]
  | succ k ih =>
    intro l
    cases l with
    | nil => simp [upto]
    | cons z l =>
      rw [upto]
      split
      · exact ⟨l, rfl⟩
      · exact List.cons_prefix_cons.2 ⟨rfl, ih l⟩

theorem upto_len (k : Nat) (l : List Int) : (upto k l).length ≤ k := by
  induction k generalizing l with
  | zero => simp [upto]
  | succ k ih =>
    cases l with
    | nil => simp [upto]
    | cons z l =>
      rw [upto]
      split
      · simp
      · have := ih l; simp; omega

/-- Whether a number of so many bytes may end so. -/
def mayEnd (last : Int) (size : Nat) : Bool := if 128 ≤ last then false else if size = 10 then decide (last = 1) else if 1 < size then decide (0 < last) else true

def last (l : List Int) : Int := l.getLast?.getD 0

theorem last_cons (z : Int) {l : List Int} (h : l ≠ []) : last (z :: l) = last l := by
  unfold last
  cases l with
  | nil => exact absurd rfl h
  | cons y l => simp [List.getLast?_cons_cons]

theorem last_snoc (l : List Int) (z : Int) : last (l ++ [z]) = z := by simp [last]

/-- Groups of which each but the last is marked, and the last is not. -/
def Form : List Int → Prop
  | [] => False
  | [z] => 0 ≤ z ∧ z < 128
  | z :: l => (128 ≤ z ∧ z ≤ 255) ∧ Form l

theorem form_cons {z y : Int} {l : List Int} : Form (z :: y :: l) ↔ (128 ≤ z ∧ z ≤ 255) ∧ Form (y :: l) := Iff.rfl

theorem num_pos : ∀ {l : List Int}, Form l → 0 < last l → 0 < num l
  | [], h, _ => h.elim
  | [z], h, hl => by simp only [Form] at h; simp [last] at hl; simp only [num]; omega
  | z :: y :: l, h, hl => by
    have := num_pos (l := y :: l) h.2 (by rwa [last_cons z (by simp)] at hl)
    rw [num]
    omega

theorem vb_num : ∀ {l : List Int}, Form l → (1 < l.length → 0 < last l) → vb (num l) = l
  | [], h, _ => h.elim
  | [z], h, _ => by
    simp only [Form] at h
    have e : num [z] = z.toNat := by simp only [num]; omega
    rw [e, vb_lt (by omega)]
    simp; omega
  | z :: y :: l, h, hl => by
    have h1 := h.1
    have hp : 0 < last (y :: l) := by have := hl (by simp); rwa [last_cons z (by simp)] at this
    have hn := num_pos h.2 hp
    have ih := vb_num h.2 (fun _ => hp)
    have e : num (z :: y :: l) = (z % 128).toNat + 128 * num (y :: l) := rfl
    have e2 : num (z :: y :: l) / 128 = num (y :: l) := by omega
    rw [vb_ge (by omega), e2, ih]
    congr 1
    omega

theorem upto_form (k : Nat) : ∀ l : List Int, (∀ z ∈ l, 0 ≤ z ∧ z ≤ 255) → upto k l ≠ [] → last (upto k l) < 128 → Form (upto k l) := by
  induction k with
  | zero => intro l _ h; simp [upto] at h
  | succ k ih =>
    intro l hb hne hl
    cases l with
    | nil => simp [upto] at hne
    | cons z l =>
      have hz := hb z (by simp)
      rw [upto] at hne hl ⊢
      by_cases h : z < 128
      · rw [if_pos h]; exact ⟨hz.1, h⟩
      · rw [if_neg h] at hl ⊢
        cases e : upto k l with
        | nil => rw [e] at hl; simp [last] at hl; omega
        | cons y t =>
          rw [e, last_cons z (by simp)] at hl
          have := ih l (fun z hz => hb z (by simp [hz])) (by rw [e]; simp) (by rw [e]; exact hl)
          rw [e] at this
          exact ⟨by omega, this⟩

theorem num_lt : ∀ l : List Int, num l < 128 ^ l.length
  | [] => by simp [num]
  | z :: l => by
    have := num_lt l
    rw [num, List.length_cons, Nat.pow_succ]
    omega

theorem num_snoc (l : List Int) (z : Int) : num (l ++ [z]) = num l + 128 ^ l.length * (z % 128).toNat := by
  induction l with
  | nil => simp [num]
  | cons y l ih =>
    rw [List.cons_append, num, ih, num, List.length_cons, Nat.pow_succ, Nat.mul_add]
    have : 128 * (128 ^ l.length * (z % 128).toNat) = 128 ^ l.length * 128 * (z % 128).toNat := by rw [Nat.mul_comm (128 ^ l.length) 128, Nat.mul_assoc]
    omega

/-- The number that stands at a list's begin. -/
def getv (l : List Int) : Option Nat := if upto 10 l ≠ [] ∧ mayEnd (last (upto 10 l)) (upto 10 l).length = true then some (num (upto 10 l)) else none

theorem getv_iff {l : List Int} (hb : ∀ z ∈ l, 0 ≤ z ∧ z ≤ 255) (n : Nat) : getv l = some n ↔ n < 18446744073709551616 ∧ vb n <+: l := by
  unfold getv
  constructor
  · intro h
    split at h
    · next hc =>
      obtain ⟨hne, hm⟩ := hc
      simp only [Option.some.injEq] at h
      unfold mayEnd at hm
      have h128 : last (upto 10 l) < 128 := by
        by_cases hh : 128 ≤ last (upto 10 l)
        · rw [if_pos hh] at hm; cases hm
        · omega
      rw [if_neg (by omega)] at hm
      have hf := upto_form 10 l hb hne h128
      have hlen := upto_len 10 l
      have hv : vb n = upto 10 l := by
        rw [← h]
        refine vb_num hf (fun h1 => ?_)
        by_cases h10 : (upto 10 l).length = 10
        · rw [if_pos h10] at hm; simp at hm; omega
        · rw [if_neg h10, if_pos h1] at hm; simpa using hm
      refine ⟨?_, hv ▸ upto_prefix 10 l⟩
      by_cases h10 : (upto 10 l).length = 10
      · rw [if_pos h10] at hm
        simp only [decide_eq_true_eq] at hm
        have e := List.dropLast_concat_getLast hne
        have hl : last (upto 10 l) = (upto 10 l).getLast hne := by simp [last, List.getLast?_eq_some_getLast hne]
        rw [← hl, hm] at e
        have h9 := num_lt (upto 10 l).dropLast
        rw [List.length_dropLast, h10] at h9
        rw [← h, ← e, num_snoc, List.length_dropLast, h10]
        simp only [show (10 : Nat) - 1 = 9 from rfl] at h9 ⊢
        omega
      · have h9 := num_lt (upto 10 l)
        have : 128 ^ (upto 10 l).length ≤ 128 ^ 9 := Nat.pow_le_pow_right (by omega) (by omega)
        omega
    · cases h
  · rintro ⟨hn, t, rfl⟩
    have h10 := vb_len10 hn
    rw [upto_vb n 10 t h10, num_vb]
    refine if_pos ⟨vb_ne n, ?_⟩
    unfold mayEnd
    have hl : ∀ m, 0 ≤ last (vb m) ∧ last (vb m) < 128 ∧ (1 < (vb m).length → 0 < last (vb m)) := by
      intro m
      induction m using Nat.strongRecOn with
      | _ m ih =>
        by_cases h : m < 128
        · rw [vb_lt h]; simp [last]; omega
        · rw [vb_ge (by omega), last_cons _ (vb_ne _)]
          have := ih (m / 128) (by omega)
          refine ⟨this.1, this.2.1, fun _ => ?_⟩
          by_cases h1 : 1 < (vb (m / 128)).length
          · exact this.2.2 h1
          · by_cases h2 : m / 128 < 128
            · rw [vb_lt h2]; simp [last]; omega
            · exact absurd (by rw [vb_ge (n := m / 128) (by omega), List.length_cons]; have := vb_pos (m / 128 / 128); omega) h1
    have h1 := hl n
    rw [if_neg (by omega)]
    by_cases h2 : (vb n).length = 10
    · rw [if_pos h2]
      have e := List.dropLast_concat_getLast (vb_ne n)
      have hl : last (vb n) = (vb n).getLast (vb_ne n) := by simp [last, List.getLast?_eq_some_getLast (vb_ne n)]
      rw [← hl] at e
      have h3 := num_vb n
      rw [← e, num_snoc, List.length_dropLast, h2] at h3
      simp only [show (10 : Nat) - 1 = 9 from rfl] at h3
      have := h1.2.2 (by omega)
      simp only [decide_eq_true_eq]
      omega
    · rw [if_neg h2]
      split
      · simpa using h1.2.2 (by assumption)
      · rfl

/-- A number with a sign, folded; and back. -/
def fo (n : Int) : Nat := if n < 0 then (-2 * n - 1).toNat else (2 * n).toNat
def unfo (m : Nat) : Int := if m % 2 = 1 then -((m / 2 : Nat) : Int) - 1 else ((m / 2 : Nat) : Int)

theorem unfo_fo (n : Int) : unfo (fo n) = n := by
  unfold unfo fo
  split <;> split <;> omega

theorem fo_lt {n : Int} (h1 : -9223372036854775808 ≤ n) (h2 : n ≤ 9223372036854775807) : fo n < 18446744073709551616 := by unfold fo; split <;> omega

end Go.Proofs.Ytnimfkcnkkjlkaa

/-
  Ways to lay values as bytes one behind the other, and to take them off again, as functions on lists: numbers, bools, bytes, pairs, lists, and what is made of them; nothing of the program.
-/
namespace Go.Proofs.Ytnimfkcnkkjlkaa.Cod
open Go.RowKit
set_option maxRecDepth 100000

def Byte (l : List Int) : Prop := ∀ z ∈ l, 0 ≤ z ∧ z ≤ 255

theorem Byte.app {l m : List Int} (h : Byte l) (k : Byte m) : Byte (l ++ m) := fun z hz => (List.mem_append.1 hz).elim (h z) (k z)
theorem Byte.left {l m : List Int} (h : Byte (l ++ m)) : Byte l := fun z hz => h z (List.mem_append.2 (.inl hz))
theorem Byte.right {l m : List Int} (h : Byte (l ++ m)) : Byte m := fun z hz => h z (List.mem_append.2 (.inr hz))
theorem Byte.nil : Byte [] := fun _ h => by cases h
theorem Byte.take {l : List Int} (h : Byte l) (k : Nat) : Byte (l.take k) := fun z hz => h z (List.mem_of_mem_take hz)
theorem Byte.drop {l : List Int} (h : Byte l) (k : Nat) : Byte (l.drop k) := fun z hz => h z (List.mem_of_mem_drop hz)

/-- A way to lay values of a kind as bytes, and to take one off. -/
structure Way (α : Type) where
  ok : α → Prop
  put : α → List Int
  get : List Int → Option (α × List Int)

/-- What is asked of a way: what is put is got, with what stands behind; what is got was put. -/
structure Law {α : Type} (c : Way α) : Prop where
  byte : ∀ a, c.ok a → Byte (c.put a)
  got : ∀ a t, c.ok a → Byte t → c.get (c.put a ++ t) = some (a, t)
  was : ∀ l a t, Byte l → c.get l = some (a, t) → c.ok a ∧ l = c.put a ++ t

section
variable {α β γ : Type} {c : Way α} {d : Way β}

/-- Two values at one place are one. -/
theorem Law.one (h : Law c) {a b : α} {x y : List Int} (ha : c.ok a) (hb : c.ok b) (hx : Byte x) (hy : Byte y) (e : c.put a ++ x = c.put b ++ y) : a = b ∧ x = y := by
  have h1 := h.got a x ha hx
  rw [e, h.got b y hb hy] at h1
  simp only [Option.some.injEq, Prod.mk.injEq] at h1
  exact ⟨h1.1.symm, h1.2.symm⟩

theorem Law.inj (h : Law c) {a b : α} (ha : c.ok a) (hb : c.ok b) (e : c.put a = c.put b) : a = b :=
  (h.one ha hb Byte.nil Byte.nil (by rw [e])).1

theorem Law.more (h : Law c) {a b : α} {x : List Int} (ha : c.ok a) (hb : c.ok b) (hx : Byte x) (e : c.put a ++ x = c.put b) : x = [] :=
  (h.one ha hb hx Byte.nil (by rw [e, List.append_nil])).2

/-- What is left is no longer than what was there. -/
theorem Law.len (h : Law c) {l t : List Int} {a : α} (hl : Byte l) (e : c.get l = some (a, t)) : t.length + (c.put a).length = l.length := by
  rw [(h.was l a t hl e).2, List.length_append]
  omega

theorem Law.rest (h : Law c) {l t : List Int} {a : α} (hl : Byte l) (e : c.get l = some (a, t)) : Byte t ∧ t = l.drop (c.put a).length := by
  have h1 := (h.was l a t hl e).2
  refine ⟨?_, by rw [h1, List.drop_left]⟩
  rw [h1] at hl
  exact hl.right

/-- Numbers without a sign. -/
def size : Way Nat where
  ok n := n < 18446744073709551616
  put n := vb n
  get l := match getv l with
    | some v => some (v, l.drop (vb v).length)
    | none => none

theorem size_law : Law size := by
  refine ⟨fun a _ => vb_byte a, fun a t ha ht => ?_, fun l a t hl h => ?_⟩
  · have hb : Byte (vb a ++ t) := Byte.app (vb_byte a) ht
    have e : getv (vb a ++ t) = some a := (getv_iff hb a).2 ⟨ha, t, rfl⟩
    simp only [size, e, List.drop_left]
  · simp only [size] at h
    cases e : getv l with
    | none => simp [e] at h
    | some v =>
      simp only [e, Option.some.injEq, Prod.mk.injEq] at h
      obtain ⟨rfl, rfl⟩ := h
      obtain ⟨h1, y, rfl⟩ := (getv_iff hl v).1 e
      exact ⟨h1, by rw [List.drop_left]; rfl⟩

/-- Values that are told by others: f of what is got, where that may be. -/
def via (c : Way α) (f : α → Option β) (g : β → α) (ok : β → Prop) : Way β where
  ok := ok
  put b := c.put (g b)
  get l := match c.get l with
    | some (a, t) => match f a with
      | some b => some (b, t)
      | none => none
    | none => none

theorem via_law (h : Law c) {f : α → Option β} {g : β → α} {ok : β → Prop} (h1 : ∀ b, ok b → c.ok (g b) ∧ f (g b) = some b) (h2 : ∀ a b, c.ok a → f a = some b → ok b ∧ g b = a) : Law (via c f g ok) := by
  refine ⟨fun b hb => h.byte _ (h1 b hb).1, fun b t hb ht => ?_, fun l b t hl e => ?_⟩
  · simp only [via, h.got _ t (h1 b hb).1 ht, (h1 b hb).2]
  · simp only [via] at e
    cases e1 : c.get l with
    | none => simp [e1] at e
    | some q =>
      obtain ⟨a, t'⟩ := q
      simp only [e1] at e
      cases e2 : f a with
      | none => simp [e2] at e
      | some b' =>
        simp only [e2, Option.some.injEq, Prod.mk.injEq] at e
        obtain ⟨rfl, rfl⟩ := e
        obtain ⟨k1, k2⟩ := h.was l a t' hl e1
        obtain ⟨k3, k4⟩ := h2 a b' k1 e2
        exact ⟨k3, by rw [k2]; simp only [via, k4]⟩

/-- Numbers with a sign, from lo to hi. -/
def num (lo hi : Int) : Way Int := via size (fun m => if lo ≤ unfo m ∧ unfo m ≤ hi then some (unfo m) else none) fo (fun n => lo ≤ n ∧ n ≤ hi)

theorem fo_unfo' (m : Nat) : fo (unfo m) = m := by
  unfold fo unfo
  by_cases h : m % 2 = 1
  · rw [if_pos h, if_pos (by omega)]
    omega
  · rw [if_neg h, if_neg (by omega)]
    omega

theorem num_law {lo hi : Int} (hlo : -9223372036854775808 ≤ lo) (hhi : hi ≤ 9223372036854775807) : Law (num lo hi) := by
  refine via_law size_law (fun n hn => ⟨fo_lt (by omega) (by omega), ?_⟩) (fun m n _ h => ?_)
  · rw [unfo_fo, if_pos hn]
  · split at h
    · next hc =>
      simp only [Option.some.injEq] at h
      subst h
      exact ⟨hc, fo_unfo' m⟩
    · cases h

def i64 : Way Int := num (-9223372036854775808) 9223372036854775807
def u8 : Way Int := num 0 255
theorem i64_law : Law i64 := num_law (by omega) (by omega)
theorem u8_law : Law u8 := num_law (by omega) (by omega)

/-- A bool: a byte 0 or 1. -/
def bool : Way Bool where
  ok _ := True
  put b := [if b then 1 else 0]
  get
    | [] => none
    | z :: t => if z = 0 then some (false, t) else if z = 1 then some (true, t) else none

theorem bool_law : Law bool := by
  refine ⟨fun b _ => by cases b <;> (intro z hz; simp [bool] at hz; omega), fun b t _ _ => by cases b <;> rfl, fun l b t _ h => ?_⟩
  cases l with
  | nil => cases h
  | cons z l =>
    simp only [bool] at h
    split at h
    · next hz =>
      simp only [Option.some.injEq, Prod.mk.injEq] at h
      obtain ⟨rfl, rfl⟩ := h
      exact ⟨trivial, by simp [bool, hz]⟩
    · split at h
      · next hz =>
        simp only [Option.some.injEq, Prod.mk.injEq] at h
        obtain ⟨rfl, rfl⟩ := h
        exact ⟨trivial, by simp [bool, hz]⟩
      · cases h

/-- Bytes, their length ahead (a text likewise). -/
def data : Way (List Int) where
  ok x := Byte x ∧ x.length < 18446744073709551616
  put x := vb x.length ++ x
  get l := match size.get l with
    | some (n, t) => if n ≤ t.length then some (t.take n, t.drop n) else none
    | none => none

theorem data_law : Law data := by
  refine ⟨fun x hx => Byte.app (vb_byte _) hx.1, fun x t hx ht => ?_, fun l x t hl h => ?_⟩
  · have e : size.get (vb x.length ++ (x ++ t)) = some (x.length, x ++ t) := size_law.got x.length (x ++ t) hx.2 (hx.1.app ht)
    simp only [data, List.append_assoc, e]
    rw [if_pos (by simp)]
    simp
  · simp only [data] at h
    cases e : size.get l with
    | none => simp [e] at h
    | some q =>
      obtain ⟨n, t'⟩ := q
      simp only [e] at h
      split at h
      · next hn =>
        simp only [Option.some.injEq, Prod.mk.injEq] at h
        obtain ⟨rfl, rfl⟩ := h
        obtain ⟨k1, k2⟩ := size_law.was l n t' hl e
        have hb : Byte t' := (size_law.rest hl e).1
        have hlen : (t'.take n).length = n := by simp; omega
        refine ⟨⟨hb.take n, by rw [hlen]; exact k1⟩, ?_⟩
        rw [k2]
        simp only [data, hlen, List.append_assoc, List.take_append_drop]
        rfl
      · cases h

/-- Two values, one behind the other. -/
def pair (c : Way α) (d : Way β) : Way (α × β) where
  ok q := c.ok q.1 ∧ d.ok q.2
  put q := c.put q.1 ++ d.put q.2
  get l := match c.get l with
    | some (a, t) => match d.get t with
      | some (b, u) => some ((a, b), u)
      | none => none
    | none => none

theorem pair_law (hc : Law c) (hd : Law d) : Law (pair c d) := by
  refine ⟨fun q hq => (hc.byte _ hq.1).app (hd.byte _ hq.2), fun q t hq ht => ?_, fun l q t hl h => ?_⟩
  · have e1 := hc.got q.1 (d.put q.2 ++ t) hq.1 ((hd.byte _ hq.2).app ht)
    have e2 := hd.got q.2 t hq.2 ht
    simp only [pair, List.append_assoc, e1, e2]
  · simp only [pair] at h
    cases e1 : c.get l with
    | none => simp [e1] at h
    | some r =>
      obtain ⟨a, t'⟩ := r
      simp only [e1] at h
      cases e2 : d.get t' with
      | none => simp [e2] at h
      | some s =>
        obtain ⟨b, u⟩ := s
        simp only [e2, Option.some.injEq, Prod.mk.injEq] at h
        obtain ⟨rfl, rfl⟩ := h
        obtain ⟨k1, k2⟩ := hc.was l a t' hl e1
        obtain ⟨k3, k4⟩ := hd.was t' b u (hc.rest hl e1).1 e2
        exact ⟨⟨k1, k3⟩, by rw [k2, k4]; simp only [pair, List.append_assoc]⟩

/-- So many values, one behind the other. -/
def puts (c : Way α) : List α → List Int
  | [] => []
  | a :: l => c.put a ++ puts c l

def gets (c : Way α) : Nat → List Int → Option (List α × List Int)
  | 0, l => some ([], l)
  | n + 1, l => match c.get l with
    | some (a, t) => match gets c n t with
      | some (as', u) => some (a :: as', u)
      | none => none
    | none => none

theorem puts_append (l m : List α) : puts c (l ++ m) = puts c l ++ puts c m := by
  induction l with
  | nil => rfl
  | cons a l ih => simp [puts, ih]

theorem puts_byte (h : Law c) {l : List α} (hl : ∀ a ∈ l, c.ok a) : Byte (puts c l) := by
  induction l with
  | nil => exact Byte.nil
  | cons a l ih => exact (h.byte a (hl a (by simp))).app (ih (fun b hb => hl b (by simp [hb])))

theorem gets_got (h : Law c) (l : List α) : ∀ t, (∀ a ∈ l, c.ok a) → Byte t → gets c l.length (puts c l ++ t) = some (l, t) := by
  induction l with
  | nil => intro t _ _; rfl
  | cons a l ih =>
    intro t hl ht
    have e1 := h.got a (puts c l ++ t) (hl a (by simp)) ((puts_byte h (fun b hb => hl b (by simp [hb]))).app ht)
    have e2 := ih t (fun b hb => hl b (by simp [hb])) ht
    simp only [puts, List.append_assoc, List.length_cons, gets, e1, e2]

theorem gets_was (h : Law c) (n : Nat) : ∀ (l : List Int) (r : List α) (t : List Int), Byte l → gets c n l = some (r, t) → r.length = n ∧ (∀ a ∈ r, c.ok a) ∧ l = puts c r ++ t := by
  induction n with
  | zero =>
    intro l r t _ e
    simp only [gets, Option.some.injEq, Prod.mk.injEq] at e
    obtain ⟨rfl, rfl⟩ := e
    exact ⟨rfl, by simp, rfl⟩
  | succ n ih =>
    intro l r t hl e
    simp only [gets] at e
    cases e1 : c.get l with
    | none => simp [e1] at e
    | some q =>
      obtain ⟨a, t'⟩ := q
      simp only [e1] at e
      cases e2 : gets c n t' with
      | none => simp [e2] at e
      | some s =>
        obtain ⟨r', u⟩ := s
        simp only [e2, Option.some.injEq, Prod.mk.injEq] at e
        obtain ⟨rfl, rfl⟩ := e
        obtain ⟨k1, k2⟩ := h.was l a t' hl e1
        obtain ⟨k3, k4, k5⟩ := ih t' r' u (h.rest hl e1).1 e2
        refine ⟨by simp [k3], fun b hb => ?_, by rw [k2, k5]; simp only [puts, List.append_assoc]⟩
        rcases List.mem_cons.1 hb with rfl | hb
        · exact k1
        · exact k4 b hb

/-- A list: how many, and each. -/
def list (c : Way α) : Way (List α) where
  ok l := l.length < 18446744073709551616 ∧ ∀ a ∈ l, c.ok a
  put l := vb l.length ++ puts c l
  get l := match size.get l with
    | some (n, t) => gets c n t
    | none => none

theorem list_law (h : Law c) : Law (list c) := by
  refine ⟨fun l hl => Byte.app (vb_byte _) (puts_byte h hl.2), fun l t hl ht => ?_, fun l r t hl e => ?_⟩
  · have e1 : size.get (vb l.length ++ (puts c l ++ t)) = some (l.length, puts c l ++ t) := size_law.got l.length _ hl.1 ((puts_byte h hl.2).app ht)
    simp only [list, List.append_assoc, e1]
    exact gets_got h l t hl.2 ht
  · simp only [list] at e
    cases e1 : size.get l with
    | none => simp [e1] at e
    | some q =>
      obtain ⟨n, t'⟩ := q
      simp only [e1] at e
      obtain ⟨k1, k2⟩ := size_law.was l n t' hl e1
      obtain ⟨k3, k4, k5⟩ := gets_was h n t' r t (size_law.rest hl e1).1 e
      refine ⟨⟨by rw [k3]; exact k1, k4⟩, ?_⟩
      rw [k2, k5]
      simp only [list, k3, List.append_assoc]
      rfl

/-- A value told by another one, each by each. -/
def iso (c : Way α) (f : α → β) (g : β → α) : Way β := via c (fun a => some (f a)) g (fun b => c.ok (g b))

theorem iso_law (h : Law c) {f : α → β} {g : β → α} (h1 : ∀ b, f (g b) = b) (h2 : ∀ a, g (f a) = a) : Law (iso c f g) :=
  via_law h (fun b hb => ⟨hb, by rw [h1]⟩) (fun a b ha e => by
    simp only [Option.some.injEq] at e
    subst e
    exact ⟨by rw [h2]; exact ha, h2 a⟩)

/-- A kind's byte ahead of a value, and nothing behind: a thing's bytes, no more than so many. -/
def thing (c : Way α) (k : Int) (a : α) : List Int := k :: c.put a

theorem thing_inj (h : Law c) {k : Int} {a b : α} (ha : c.ok a) (hb : c.ok b) (e : thing c k a = thing c k b) : a = b := by
  simp only [thing, List.cons.injEq, true_and] at e
  exact h.inj ha hb e

theorem thing_more (h : Law c) {k : Int} {a b : α} {x : List Int} (ha : c.ok a) (hb : c.ok b) (hx : Byte x) (e : thing c k a ++ x = thing c k b) : x = [] := by
  simp only [thing, List.cons_append, List.cons.injEq, true_and] at e
  exact h.more ha hb hx e

theorem thing_kind {d : Way β} {k k' : Int} {a : α} {b : β} (hk : k ≠ k') : thing c k a ≠ thing d k' b := by
  intro e
  simp only [thing, List.cons.injEq] at e
  exact hk e.1

/-- What bytes are as a thing of a kind. -/
def got (c : Way α) (k : Int) (most : Nat) (l : List Int) : Option α := if l.length ≤ most then match l with
  | [] => none
  | z :: t => if z = k then match c.get t with
    | some (a, []) => some a
    | _ => none
    else none
  else none

theorem got_iff (h : Law c) {k : Int} {most : Nat} {l : List Int} (hl : Byte l) (a : α) : got c k most l = some a ↔ c.ok a ∧ l.length ≤ most ∧ l = thing c k a := by
  unfold got
  constructor
  · intro e
    split at e
    · next hm =>
      cases l with
      | nil => cases e
      | cons z t =>
        simp only at e
        split at e
        · next hz =>
          subst hz
          split at e
          · next b e1 =>
            simp only [Option.some.injEq] at e
            subst e
            obtain ⟨k1, k2⟩ := h.was t b [] (fun y hy => hl y (by simp [hy])) e1
            exact ⟨k1, hm, by rw [k2, List.append_nil]; rfl⟩
          · cases e
        · cases e
    · cases e
  · rintro ⟨h1, h2, rfl⟩
    rw [if_pos h2]
    have e1 := h.got a [] h1 Byte.nil
    rw [List.append_nil] at e1
    simp only [thing, if_true, e1]

end
end Go.Proofs.Ytnimfkcnkkjlkaa.Cod

/-
  The things of layer 6 as values, and their ways (Cod): each field in its order; nothing of the program.
-/
namespace Go.Proofs.Ytnimfkcnkkjlkaa.Cod
set_option maxRecDepth 100000

structure Batch where
  pid : Int
  epoch : Int
  first : Int
  records : List (List Int)

def batch : Way Batch := iso (pair i64 (pair i64 (pair i64 (list data)))) (fun q => ⟨q.1, q.2.1, q.2.2.1, q.2.2.2⟩) (fun b => (b.pid, b.epoch, b.first, b.records))
theorem batch_law : Law batch := iso_law (pair_law i64_law (pair_law i64_law (pair_law i64_law (list_law data_law)))) (fun _ => rfl) (fun _ => rfl)

structure PartC where
  kind : Int
  batch : Batch
  offset : Int

def part : Way PartC := iso (pair u8 (pair batch i64)) (fun q => ⟨q.1, q.2.1, q.2.2⟩) (fun c => (c.kind, c.batch, c.offset))
theorem part_law : Law part := iso_law (pair_law u8_law (pair_law batch_law i64_law)) (fun _ => rfl) (fun _ => rfl)

structure Place where
  topic : List Int
  part : Int

def place : Way Place := iso (pair data i64) (fun q => ⟨q.1, q.2⟩) (fun p => (p.topic, p.part))
theorem place_law : Law place := iso_law (pair_law data_law i64_law) (fun _ => rfl) (fun _ => rfl)

structure MetaC where
  kind : Int
  group : List Int
  name : List Int
  n : Int
  topics : List (List Int)
  place : Place
  offset : Int
  now : Int
  client : Int
  call : Int

def meta' : Way MetaC := iso (pair u8 (pair data (pair data (pair i64 (pair (list data) (pair place (pair i64 (pair i64 (pair i64 i64)))))))))
  (fun q => ⟨q.1, q.2.1, q.2.2.1, q.2.2.2.1, q.2.2.2.2.1, q.2.2.2.2.2.1, q.2.2.2.2.2.2.1, q.2.2.2.2.2.2.2.1, q.2.2.2.2.2.2.2.2.1, q.2.2.2.2.2.2.2.2.2⟩) (fun c => (c.kind, c.group, c.name, c.n, c.topics, c.place, c.offset, c.now, c.client, c.call))
theorem meta_law : Law meta' := iso_law (pair_law u8_law (pair_law data_law (pair_law data_law (pair_law i64_law (pair_law (list_law data_law) (pair_law place_law (pair_law i64_law (pair_law i64_law (pair_law i64_law i64_law))))))))) (fun _ => rfl) (fun _ => rfl)

structure Recent where
  first : Int
  count : Int
  offset : Int

def recent : Way Recent := iso (pair i64 (pair i64 i64)) (fun q => ⟨q.1, q.2.1, q.2.2⟩) (fun r => (r.first, r.count, r.offset))
theorem recent_law : Law recent := iso_law (pair_law i64_law (pair_law i64_law i64_law)) (fun _ => rfl) (fun _ => rfl)

structure Producer where
  pid : Int
  epoch : Int
  next : Int
  recent : List Recent

def producer : Way Producer := iso (pair i64 (pair i64 (pair i64 (list recent)))) (fun q => ⟨q.1, q.2.1, q.2.2.1, q.2.2.2⟩) (fun p => (p.pid, p.epoch, p.next, p.recent))
theorem producer_law : Law producer := iso_law (pair_law i64_law (pair_law i64_law (pair_law i64_law (list_law recent_law)))) (fun _ => rfl) (fun _ => rfl)

structure PartS where
  start : Int
  end' : Int
  records : List (List Int)
  producers : List Producer

def parts : Way PartS := iso (pair i64 (pair i64 (pair (list data) (list producer)))) (fun q => ⟨q.1, q.2.1, q.2.2.1, q.2.2.2⟩) (fun s => (s.start, s.end', s.records, s.producers))
theorem parts_law : Law parts := iso_law (pair_law i64_law (pair_law i64_law (pair_law (list_law data_law) (list_law producer_law)))) (fun _ => rfl) (fun _ => rfl)

structure Topic where
  name : List Int
  parts : Int

def topic : Way Topic := iso (pair data i64) (fun q => ⟨q.1, q.2⟩) (fun t => (t.name, t.parts))
theorem topic_law : Law topic := iso_law (pair_law data_law i64_law) (fun _ => rfl) (fun _ => rfl)

structure Writer where
  name : List Int
  pid : Int
  epoch : Int

def writer : Way Writer := iso (pair data (pair i64 i64)) (fun q => ⟨q.1, q.2.1, q.2.2⟩) (fun w => (w.name, w.pid, w.epoch))
theorem writer_law : Law writer := iso_law (pair_law data_law (pair_law i64_law i64_law)) (fun _ => rfl) (fun _ => rfl)

structure Member where
  member : List Int
  topics : List (List Int)
  seen : Int
  back : Bool

def member : Way Member := iso (pair data (pair (list data) (pair i64 bool))) (fun q => ⟨q.1, q.2.1, q.2.2.1, q.2.2.2⟩) (fun m => (m.member, m.topics, m.seen, m.back))
theorem member_law : Law member := iso_law (pair_law data_law (pair_law (list_law data_law) (pair_law i64_law bool_law))) (fun _ => rfl) (fun _ => rfl)

structure Share where
  member : List Int
  places : List Place

def share : Way Share := iso (pair data (list place)) (fun q => ⟨q.1, q.2⟩) (fun s => (s.member, s.places))
theorem share_law : Law share := iso_law (pair_law data_law (list_law place_law)) (fun _ => rfl) (fun _ => rfl)

structure Kept where
  place : Place
  offset : Int

def kept : Way Kept := iso (pair place i64) (fun q => ⟨q.1, q.2⟩) (fun k => (k.place, k.offset))
theorem kept_law : Law kept := iso_law (pair_law place_law i64_law) (fun _ => rfl) (fun _ => rfl)

structure Group where
  name : List Int
  generation : Int
  phase : Int
  until' : Int
  members : List Member
  shares : List Share
  offsets : List Kept

def group : Way Group := iso (pair data (pair i64 (pair u8 (pair i64 (pair (list member) (pair (list share) (list kept)))))))
  (fun q => ⟨q.1, q.2.1, q.2.2.1, q.2.2.2.1, q.2.2.2.2.1, q.2.2.2.2.2.1, q.2.2.2.2.2.2⟩) (fun g => (g.name, g.generation, g.phase, g.until', g.members, g.shares, g.offsets))
theorem group_law : Law group := iso_law (pair_law data_law (pair_law i64_law (pair_law u8_law (pair_law i64_law (pair_law (list_law member_law) (pair_law (list_law share_law) (list_law kept_law))))))) (fun _ => rfl) (fun _ => rfl)

structure Answer where
  err : Int
  pid : Int
  epoch : Int
  n : Int
  phase : Int
  places : List Place

def answer : Way Answer := iso (pair i64 (pair i64 (pair i64 (pair i64 (pair u8 (list place)))))) (fun q => ⟨q.1, q.2.1, q.2.2.1, q.2.2.2.1, q.2.2.2.2.1, q.2.2.2.2.2⟩) (fun a => (a.err, a.pid, a.epoch, a.n, a.phase, a.places))
theorem answer_law : Law answer := iso_law (pair_law i64_law (pair_law i64_law (pair_law i64_law (pair_law i64_law (pair_law u8_law (list_law place_law)))))) (fun _ => rfl) (fun _ => rfl)

structure Told where
  call : Int
  answer : Answer

def told : Way Told := iso (pair i64 answer) (fun q => ⟨q.1, q.2⟩) (fun t => (t.call, t.answer))
theorem told_law : Law told := iso_law (pair_law i64_law answer_law) (fun _ => rfl) (fun _ => rfl)

structure Caller where
  client : Int
  floor : Int
  calls : List Told

def caller : Way Caller := iso (pair i64 (pair i64 (list told))) (fun q => ⟨q.1, q.2.1, q.2.2⟩) (fun c => (c.client, c.floor, c.calls))
theorem caller_law : Law caller := iso_law (pair_law i64_law (pair_law i64_law (list_law told_law))) (fun _ => rfl) (fun _ => rfl)

structure MetaS where
  now : Int
  topics : List Topic
  writers : List Writer
  groups : List Group
  callers : List Caller

def metas : Way MetaS := iso (pair i64 (pair (list topic) (pair (list writer) (pair (list group) (list caller))))) (fun q => ⟨q.1, q.2.1, q.2.2.1, q.2.2.2.1, q.2.2.2.2⟩) (fun s => (s.now, s.topics, s.writers, s.groups, s.callers))
theorem metas_law : Law metas := iso_law (pair_law i64_law (pair_law (list_law topic_law) (pair_law (list_law writer_law) (pair_law (list_law group_law) (list_law caller_law))))) (fun _ => rfl) (fun _ => rfl)

structure Request where
  kind : Int
  client : Int
  call : Int
  topic : List Int
  part : Int
  batch : Batch
  offset : Int
  most : Int
  bytes : Int
  meta' : MetaC

def request : Way Request := iso (pair u8 (pair i64 (pair i64 (pair data (pair i64 (pair batch (pair i64 (pair i64 (pair i64 meta')))))))))
  (fun q => ⟨q.1, q.2.1, q.2.2.1, q.2.2.2.1, q.2.2.2.2.1, q.2.2.2.2.2.1, q.2.2.2.2.2.2.1, q.2.2.2.2.2.2.2.1, q.2.2.2.2.2.2.2.2.1, q.2.2.2.2.2.2.2.2.2⟩) (fun r => (r.kind, r.client, r.call, r.topic, r.part, r.batch, r.offset, r.most, r.bytes, r.meta'))
theorem request_law : Law request := iso_law (pair_law u8_law (pair_law i64_law (pair_law i64_law (pair_law data_law (pair_law i64_law (pair_law batch_law (pair_law i64_law (pair_law i64_law (pair_law i64_law meta_law))))))))) (fun _ => rfl) (fun _ => rfl)

structure Response where
  kind : Int
  client : Int
  call : Int
  err : Int
  leader : Int
  offset : Int
  start : Int
  end' : Int
  again : Bool
  records : List (List Int)
  answer : Answer

def response : Way Response := iso (pair u8 (pair i64 (pair i64 (pair i64 (pair i64 (pair i64 (pair i64 (pair i64 (pair bool (pair (list data) answer))))))))))
  (fun q => ⟨q.1, q.2.1, q.2.2.1, q.2.2.2.1, q.2.2.2.2.1, q.2.2.2.2.2.1, q.2.2.2.2.2.2.1, q.2.2.2.2.2.2.2.1, q.2.2.2.2.2.2.2.2.1, q.2.2.2.2.2.2.2.2.2.1, q.2.2.2.2.2.2.2.2.2.2⟩)
  (fun r => (r.kind, r.client, r.call, r.err, r.leader, r.offset, r.start, r.end', r.again, r.records, r.answer))
theorem response_law : Law response := iso_law (pair_law u8_law (pair_law i64_law (pair_law i64_law (pair_law i64_law (pair_law i64_law (pair_law i64_law (pair_law i64_law (pair_law i64_law (pair_law bool_law (pair_law (list_law data_law) answer_law)))))))))) (fun _ => rfl) (fun _ => rfl)

structure Entry where
  term : Int
  data : List Int

def entry : Way Entry := iso (pair i64 data) (fun q => ⟨q.1, q.2⟩) (fun e => (e.term, e.data))
theorem entry_law : Law entry := iso_law (pair_law i64_law data_law) (fun _ => rfl) (fun _ => rfl)

structure Raft where
  group : List Int
  kind : Int
  from' : Int
  to : Int
  term : Int
  index : Int
  logTerm : Int
  commit : Int
  round : Int
  ok : Bool
  entries : List Entry
  snap : List Int

def raft : Way Raft := iso (pair data (pair u8 (pair i64 (pair i64 (pair i64 (pair i64 (pair i64 (pair i64 (pair i64 (pair bool (pair (list entry) data)))))))))))
  (fun q => ⟨q.1, q.2.1, q.2.2.1, q.2.2.2.1, q.2.2.2.2.1, q.2.2.2.2.2.1, q.2.2.2.2.2.2.1, q.2.2.2.2.2.2.2.1, q.2.2.2.2.2.2.2.2.1, q.2.2.2.2.2.2.2.2.2.1, q.2.2.2.2.2.2.2.2.2.2.1, q.2.2.2.2.2.2.2.2.2.2.2⟩)
  (fun m => (m.group, m.kind, m.from', m.to, m.term, m.index, m.logTerm, m.commit, m.round, m.ok, m.entries, m.snap))
theorem raft_law : Law raft := iso_law (pair_law data_law (pair_law u8_law (pair_law i64_law (pair_law i64_law (pair_law i64_law (pair_law i64_law (pair_law i64_law (pair_law i64_law (pair_law i64_law (pair_law bool_law (pair_law (list_law entry_law) data_law))))))))))) (fun _ => rfl) (fun _ => rfl)

end Go.Proofs.Ytnimfkcnkkjlkaa.Cod

/-
  Reading by ways (Cod), step by step: what is left, what was got; counts that are no more than what is left.
-/
namespace Go.Proofs.Ytnimfkcnkkjlkaa.Cod
set_option maxRecDepth 100000

section
variable {α β : Type} {c : Way α} {d : Way β}

/-- What is left behind a value; nothing, once it went wrong. -/
def nx (c : Way α) (s : Option (List Int)) : Option (List Int) := s.bind fun l => (c.get l).map (·.2)
/-- The value. -/
def vl (c : Way α) (s : Option (List Int)) : Option α := s.bind fun l => (c.get l).map (·.1)

theorem nx_none : nx c none = none := rfl
theorem vl_none : vl c none = none := rfl
theorem nx_some {l t : List Int} {a : α} (h : c.get l = some (a, t)) : nx c (some l) = some t := by simp [nx, h]
theorem vl_some {l t : List Int} {a : α} (h : c.get l = some (a, t)) : vl c (some l) = some a := by simp [vl, h]
theorem nx_bad {l : List Int} (h : c.get l = none) : nx c (some l) = none := by simp [nx, h]
theorem vl_bad {l : List Int} (h : c.get l = none) : vl c (some l) = none := by simp [vl, h]

theorem nx_iff {s : Option (List Int)} {t : List Int} : nx c s = some t ↔ ∃ l a, s = some l ∧ c.get l = some (a, t) := by
  cases s with
  | none => simp [nx]
  | some l =>
    cases e : c.get l with
    | none => simp [nx, e]
    | some q => obtain ⟨a, u⟩ := q; simp [nx, e]

theorem vl_iff {s : Option (List Int)} {a : α} : vl c s = some a ↔ ∃ l t, s = some l ∧ c.get l = some (a, t) := by
  cases s with
  | none => simp [vl]
  | some l =>
    cases e : c.get l with
    | none => simp [vl, e]
    | some q => obtain ⟨b, u⟩ := q; simp [vl, e]

theorem nx_pair (s : Option (List Int)) : nx (pair c d) s = nx d (nx c s) := by
  cases s with
  | none => rfl
  | some l =>
    cases e : c.get l with
    | none => simp [nx, pair, e]
    | some q =>
      obtain ⟨a, u⟩ := q
      cases e2 : d.get u with
      | none => simp [nx, pair, e, e2]
      | some r => obtain ⟨b, v⟩ := r; simp [nx, pair, e, e2]

theorem vl_pair {s : Option (List Int)} {q : α × β} : vl (pair c d) s = some q ↔ vl c s = some q.1 ∧ vl d (nx c s) = some q.2 := by
  cases s with
  | none => simp [vl]
  | some l =>
    cases e : c.get l with
    | none => simp [vl, nx, pair, e]
    | some r =>
      obtain ⟨a, u⟩ := r
      cases e2 : d.get u with
      | none => simp [vl, nx, pair, e, e2]
      | some r2 =>
        obtain ⟨b, v⟩ := r2
        obtain ⟨x, y⟩ := q
        simp [vl, nx, pair, e, e2]

theorem nx_iso {f : α → β} {g : β → α} (s : Option (List Int)) : nx (iso c f g) s = nx c s := by
  cases s with
  | none => rfl
  | some l =>
    cases e : c.get l with
    | none => simp [nx, iso, via, e]
    | some q => obtain ⟨a, u⟩ := q; simp [nx, iso, via, e]

theorem vl_iso {f : α → β} {g : β → α} {s : Option (List Int)} {x : β} : vl (iso c f g) s = some x ↔ ∃ q, vl c s = some q ∧ f q = x := by
  cases s with
  | none => simp [vl]
  | some l =>
    cases e : c.get l with
    | none => simp [vl, iso, via, e]
    | some q => obtain ⟨a, u⟩ := q; simp [vl, iso, via, e]

/-- A count: no more than what is left. -/
def cnt : Way Nat where
  ok n := n < 18446744073709551616
  put n := vb n
  get l := match size.get l with
    | some (n, t) => if n ≤ t.length then some (n, t) else none
    | none => none

theorem data_cnt (l : List Int) : data.get l = match cnt.get l with | some (n, t) => some (t.take n, t.drop n) | none => none := by
  simp only [data, cnt]
  cases size.get l with
  | none => rfl
  | some q =>
    obtain ⟨n, t⟩ := q
    by_cases h : n ≤ t.length <;> simp [h]

/-- Each value takes one byte at least. -/
def Much (c : Way α) : Prop := ∀ a, c.ok a → c.put a ≠ []

theorem gets_short (h : Law c) (hm : Much c) (n : Nat) (t : List Int) (hb : Byte t) {r : List α} {u : List Int} (e : gets c n t = some (r, u)) : n + u.length ≤ t.length := by
  obtain ⟨h1, h2, h3⟩ := gets_was h n t r u hb e
  have key : ∀ r : List α, (∀ a ∈ r, c.ok a) → r.length ≤ (puts c r).length := by
    intro r
    induction r with
    | nil => intro _; simp [puts]
    | cons a r ih =>
      intro hr
      have h1 := ih (fun b hb => hr b (by simp [hb]))
      have h2 : 0 < (c.put a).length := List.length_pos_iff.2 (hm a (hr a (by simp)))
      simp only [puts, List.length_append, List.length_cons]
      omega
  have := key r h2
  rw [h3, List.length_append]
  omega

theorem list_cnt (h : Law c) (hm : Much c) (l : List Int) (hb : Byte l) : (list c).get l = match cnt.get l with | some (n, t) => gets c n t | none => none := by
  simp only [list, cnt]
  cases e : size.get l with
  | none => rfl
  | some q =>
    obtain ⟨n, t⟩ := q
    by_cases hn : n ≤ t.length
    · simp [hn]
    · simp only [hn, if_false]
      cases e2 : gets c n t with
      | none => rfl
      | some r =>
        obtain ⟨r, u⟩ := r
        have := gets_short h hm n t (size_law.rest hb e).1 e2
        omega

theorem gets_snoc (n : Nat) : ∀ t : List Int, gets c (n + 1) t = match gets c n t with
    | some (r, u) => match c.get u with
      | some (a, v) => some (r ++ [a], v)
      | none => none
    | none => none := by
  induction n with
  | zero =>
    intro t
    simp only [gets]
    cases c.get t with
    | none => rfl
    | some q => rfl
  | succ n ih =>
    intro t
    rw [gets]
    conv => rhs; rw [gets]
    cases e : c.get t with
    | none => rfl
    | some q =>
      obtain ⟨a, u⟩ := q
      simp only [ih u]
      cases gets c n u with
      | none => rfl
      | some r =>
        obtain ⟨r, v⟩ := r
        simp only
        cases c.get v with
        | none => rfl
        | some q2 => rfl

theorem gets_stop {n m : Nat} (h : n ≤ m) (t : List Int) (e : gets c n t = none) : gets c m t = none := by
  induction m with
  | zero =>
    obtain rfl : n = 0 := by omega
    exact e
  | succ m ih =>
    rcases Nat.lt_or_ge n (m + 1) with hl | hl
    · rw [gets_snoc, ih (by omega)]
    · obtain rfl : n = m + 1 := by omega
      exact e

theorem gets_len (n : Nat) : ∀ (t : List Int) (r : List α) (u : List Int), gets c n t = some (r, u) → r.length = n := by
  induction n with
  | zero =>
    intro t r u e
    simp only [gets, Option.some.injEq, Prod.mk.injEq] at e
    rw [← e.1]
    rfl
  | succ n ih =>
    intro t r u e
    simp only [gets] at e
    cases e1 : c.get t with
    | none => simp [e1] at e
    | some q =>
      obtain ⟨a, t'⟩ := q
      simp only [e1] at e
      cases e2 : gets c n t' with
      | none => simp [e2] at e
      | some s =>
        obtain ⟨r', u'⟩ := s
        simp only [e2, Option.some.injEq, Prod.mk.injEq] at e
        obtain ⟨rfl, rfl⟩ := e
        simp [ih t' r' _ e2]

theorem Much.iso {f : α → β} {g : β → α} (h : Much c) : Much (iso c f g) := fun b hb => h (g b) hb
theorem Much.pair (h : Much c) : Much (pair c d) := fun q hq e => h q.1 hq.1 (List.append_eq_nil_iff.1 e).1
theorem Much.num (lo hi : Int) : Much (num lo hi) := fun _ _ => vb_ne _
theorem Much.data : Much data := fun _ _ e => vb_ne _ (List.append_eq_nil_iff.1 e).1
theorem Much.list : Much (list c) := fun _ _ e => vb_ne _ (List.append_eq_nil_iff.1 e).1
end

theorem place_much : Much place := Much.iso (Much.pair Much.data)
theorem entry_much : Much entry := Much.iso (Much.pair (Much.num _ _))
theorem recent_much : Much recent := Much.iso (Much.pair (Much.num _ _))
theorem producer_much : Much producer := Much.iso (Much.pair (Much.num _ _))
theorem topic_much : Much topic := Much.iso (Much.pair Much.data)
theorem writer_much : Much writer := Much.iso (Much.pair Much.data)
theorem member_much : Much member := Much.iso (Much.pair Much.data)
theorem share_much : Much share := Much.iso (Much.pair Much.data)
theorem kept_much : Much kept := Much.iso (Much.pair place_much)
theorem group_much : Much group := Much.iso (Much.pair Much.data)
theorem told_much : Much told := Much.iso (Much.pair (Much.num _ _))
theorem caller_much : Much caller := Much.iso (Much.pair (Much.num _ _))

end Go.Proofs.Ytnimfkcnkkjlkaa.Cod

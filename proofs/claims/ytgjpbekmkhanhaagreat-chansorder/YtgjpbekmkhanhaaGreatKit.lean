/-
  Plain facts on bytes, numbers in bytes and slices of bytes in memory; nothing of the program.
-/
import Derived.WalkKit
import Derived.WalkSpells
import Derived.WalkLawsBesides
import Derived.Laws.CopyOwn
import Derived.Laws.BytesArg
import Derived.Lib.AppendStr
namespace Go.Proofs.YtgjpbekmkhanhaaGreat
open Go.RowKit
set_option maxRecDepth 100000

theorem hide {p : Prop} (h : p) : Hid p := h
theorem unhide {p : Prop} (h : Hid p) : p := h

/-- The k bytes of a number, the highest first. -/
def be : Nat → Nat → List Int
  | 0, _ => []
  | k + 1, v => be k (v / 256) ++ [((v % 256 : Nat) : Int)]

/-- The number that bytes say, the highest first. -/
def un (l : List Int) : Nat := l.foldl (fun r z => r * 256 + z.toNat) 0

theorem un_snoc (l : List Int) (z : Int) : un (l ++ [z]) = un l * 256 + z.toNat := by simp [un]
theorem un_nil : un [] = 0 := rfl

theorem be_length (k v : Nat) : (be k v).length = k := by
  induction k generalizing v with
  | zero => rfl
  | succ k ih => simp [be, ih]

theorem be_byte (k v : Nat) : ∀ z ∈ be k v, 0 ≤ z ∧ z ≤ 255 := by
  induction k generalizing v with
  | zero => simp [be]
  | succ k ih =>
    intro z hz
    simp only [be, List.mem_append, List.mem_singleton] at hz
    rcases hz with hz | rfl
    · exact ih _ z hz
    · omega

theorem be_cons (k v : Nat) : be (k + 1) v = ((v / 256 ^ k % 256 : Nat) : Int) :: be k v := by
  induction k generalizing v with
  | zero => simp [be]
  | succ k ih =>
    have e : be (k + 1 + 1) v = be (k + 1) (v / 256) ++ [((v % 256 : Nat) : Int)] := rfl
    rw [e, ih (v / 256)]
    have e2 : be (k + 1) v = be k (v / 256) ++ [((v % 256 : Nat) : Int)] := rfl
    rw [e2, Nat.div_div_eq_div_mul, Nat.pow_succ, Nat.mul_comm (256 ^ k) 256]
    simp

theorem un_be (k v : Nat) : un (be k v) = v % 256 ^ k := by
  induction k generalizing v with
  | zero => simp [be, un, Nat.mod_one]
  | succ k ih =>
    have e : be (k + 1) v = be k (v / 256) ++ [((v % 256 : Nat) : Int)] := rfl
    rw [e, un_snoc, ih, Nat.pow_succ, Nat.mul_comm (256 ^ k) 256, Nat.mod_mul]
    simp only [Int.toNat_natCast]
    omega

theorem un_acc (l : List Int) (h : ∀ z ∈ l, 0 ≤ z ∧ z ≤ 255) (r : Nat) : l.foldl (fun r z => r * 256 + z.toNat) r < (r + 1) * 256 ^ l.length := by
  induction l generalizing r with
  | nil => simp
  | cons z l ih =>
    have h1 := ih (fun y hy => h y (by simp [hy])) (r * 256 + z.toNat)
    have h2 := h z (by simp)
    rw [List.foldl_cons, List.length_cons, Nat.pow_succ]
    have h3 : (r * 256 + z.toNat + 1) * 256 ^ l.length ≤ ((r + 1) * 256) * 256 ^ l.length := Nat.mul_le_mul_right _ (by omega)
    have h4 : (r + 1) * (256 ^ l.length * 256) = ((r + 1) * 256) * 256 ^ l.length := by rw [Nat.mul_comm (256 ^ l.length) 256, Nat.mul_assoc]
    omega

theorem un_lt (l : List Int) (h : ∀ z ∈ l, 0 ≤ z ∧ z ≤ 255) : un l < 256 ^ l.length := by
  have := un_acc l h 0
  simpa [un] using this

/-- A slice of bytes, as it can be read: n numbers from a place on, each a byte. -/
structure Bs (w : World) (a : Option Addr) (n cap : Nat) (zs : List Int) : Prop where
  len : zs.length = n
  le : n ≤ cap
  reach : cap ≤ 9223372036854775807
  byte : ∀ z ∈ zs, 0 ≤ z ∧ z ≤ 255
  bare : a = Option.none → cap = 0
  lies : 0 < n → ∃ b off, a = some ⟨b, off, none⟩ ∧ ∀ i, i < n → w.cell? ⟨b, off + i, none⟩ = some (.int .u8 (zs.getD i 0))

theorem cell_lt {w : World} {a : Addr} {v : Value} (h : w.cell? a = some v) : a.block < w.heap.size := World.block_lt_of_cell? w a h

theorem Bs.keep {w w' : World} {a : Option Addr} {n cap : Nat} {zs : List Int} (h : Bs w a n cap zs) (hb : Below w.heap.size w w') : Bs w' a n cap zs := by
  refine ⟨h.len, h.le, h.reach, h.byte, h.bare, fun hn => ?_⟩
  obtain ⟨b, off, ha, hc⟩ := h.lies hn
  refine ⟨b, off, ha, fun i hi => ?_⟩
  have h1 := hc i hi
  rw [hb.cell (cell_lt h1)]
  exact h1

theorem Bs.nil (w : World) : Bs w none 0 0 [] := ⟨rfl, Nat.le_refl _, by omega, by simp, fun _ => rfl, fun h => by omega⟩

/-- A whole row of bytes that a call made, read as a slice from its head on. -/
theorem Bs.own {w : World} {g cap n : Nat} {zs : List Int} {t : TypeId} {cur : List Value} (hg : w.heap[g]? = some (.cells cur.toArray t (0, 0))) (_hc : cur.length = cap) (hl : zs.length = n) (hn : n ≤ cap)
    (hm : cap ≤ 9223372036854775807) (hb : ∀ z ∈ zs, 0 ≤ z ∧ z ≤ 255) (ht : cur.take n = zs.map (Value.int .u8)) : Bs w (some ⟨g, 0, none⟩) n cap zs := by
  refine ⟨hl, hn, hm, hb, fun h => (by cases h), fun _ => ⟨g, 0, rfl, fun i hi => ?_⟩⟩
  rw [cell_of_row w g (0 + i) cur.toArray t (0, 0) hg]
  have h1 : (cur.take n)[i]? = cur[i]? := by rw [List.getElem?_take, if_pos hi]
  have h2 : i < zs.length := by omega
  rw [ht] at h1
  simp [List.getElem?_map, List.getElem?_eq_getElem h2] at h1
  simp [← h1, List.getD, List.getElem?_eq_getElem h2]

/-- The numbers of a slice as a string's bytes. -/
theorem run_str {P : Program} {w : World} (src e : TypeId) (hs : P.underlying src = some (.slice e)) (he : P.underlying e = some (.int .u8)) {a : Option Addr} {n cap : Nat} {zs : List Int} (h : Bs w a n cap zs) :
    ∀ dst, P.underlying dst = some .string → (convert src dst (.slice a n cap)).run P w = .ok (.string (strOfNums zs)) w := by
  intro dst hd
  by_cases hn : n = 0
  · have hz : zs = [] := List.eq_nil_of_length_eq_zero (by rw [h.len]; exact hn)
    subst hz
    cases a with
    | none => rw [run_convert_bytes_nil w src e hs he n cap dst hd]; rfl
    | some ad =>
      subst hn
      rw [run_convert_bytes_string w src dst e _ 0 cap hs he hd, run_bytesToString w _ 0 cap [] (by simp [loadCells, loadCellsFrom])]
      rfl
  · obtain ⟨b, off, rfl, hc⟩ := h.lies (by omega)
    exact run_convert_bytes_arg w src e hs he b off n cap zs h.len hc dst hd

theorem strOf_inj {xs ys : List Int} (hx : ∀ z ∈ xs, 0 ≤ z ∧ z ≤ 255) (hy : ∀ z ∈ ys, 0 ≤ z ∧ z ≤ 255) (h : xs.map (fun n => UInt8.ofNat n.toNat) = ys.map (fun n => UInt8.ofNat n.toNat)) : xs = ys := by
  induction xs generalizing ys with
  | nil => cases ys with
    | nil => rfl
    | cons y ys => simp at h
  | cons x xs ih => cases ys with
    | nil => simp at h
    | cons y ys =>
      simp only [List.map_cons, List.cons.injEq] at h
      have h1 := hx x (by simp)
      have h2 := hy y (by simp)
      have h3 := congrArg UInt8.toNat h.1
      simp only [UInt8.toNat_ofNat'] at h3
      have h4 : x = y := by omega
      rw [h4, ih (fun z hz => hx z (by simp [hz])) (fun z hz => hy z (by simp [hz])) h.2]

theorem un_take_succ (zs : List Int) (p k : Nat) (h : p + k < zs.length) : un ((zs.drop p).take (k + 1)) = un ((zs.drop p).take k) * 256 + (zs[p + k]?.getD 0).toNat := by
  rw [List.take_succ_eq_append_getElem (by simp; omega), un_snoc]
  simp [List.getElem?_eq_getElem h]

theorem getD_byte {zs : List Int} (h : ∀ z ∈ zs, 0 ≤ z ∧ z ≤ 255) (i : Nat) : 0 ≤ zs[i]?.getD 0 ∧ zs[i]?.getD 0 ≤ 255 := by
  cases e : zs[i]? with
  | none => simp
  | some z => simpa using h z (List.mem_of_getElem? e)

theorem take_byte {zs : List Int} (h : ∀ z ∈ zs, 0 ≤ z ∧ z ≤ 255) (k : Nat) : ∀ z ∈ zs.take k, 0 ≤ z ∧ z ≤ 255 := fun z hz => h z (List.mem_of_mem_take hz)
theorem drop_byte {zs : List Int} (h : ∀ z ∈ zs, 0 ≤ z ∧ z ≤ 255) (k : Nat) : ∀ z ∈ zs.drop k, 0 ≤ z ∧ z ≤ 255 := fun z hz => h z (List.mem_of_mem_drop hz)

theorem un_take_lt {zs : List Int} (h : ∀ z ∈ zs, 0 ≤ z ∧ z ≤ 255) (p k : Nat) (j : Nat) (hk : k ≤ j) : un ((zs.drop p).take k) < 256 ^ j := by
  refine Nat.lt_of_lt_of_le (un_lt _ (take_byte (drop_byte h p) k)) ?_
  exact Nat.pow_le_pow_right (by omega) (Nat.le_trans (List.length_take_le _ _) hk)

theorem or_join (x : Nat) (z : Int) (hx : x ≤ 72057594037927935) (h0 : 0 ≤ z) (h1 : z ≤ 255) : bits .or .u64 ((x : Int) * 256) z = ((x * 256 + z.toNat : Nat) : Int) := by
  rw [u64_or _ _ (by omega) (by omega) (by omega) (by omega)]
  have e : ((x : Int) * 256).toNat = x * 256 := by omega
  rw [e, nat_join8 _ _ (by omega) (by omega)]

def U (l : List Int) : List Value := l.map (Value.int .u8)
theorem U_length (l : List Int) : (U l).length = l.length := by simp [U]
theorem U_append (l m : List Int) : U (l ++ m) = U l ++ U m := by simp [U]

theorem zero_length (k : Nat) : (U (List.replicate k 0)).length = k := by simp [U]

theorem U_one (l : List Int) : ∀ u ∈ U l, u.oneCell' = true := ints_oneCell .u8 l

/-- What a make of bytes leaves: the whole new row. -/
theorem own_full {w w1 : World} {n : Nat} {e : TypeId} (h : w1.ownsRow w.heap.size e 1 (.slice (some ⟨w.heap.size, 0, none⟩) n n) n (madeCells (Value.int .u8 0).cells (n * 1)).toList) :
    w1.heap[w.heap.size]? = some (.cells (U (List.replicate n 0)).toArray e (0, 0)) := by
  rcases h.2 with ⟨h1, _⟩ | ⟨g, cap, cur, h1, _, hh, _, _, hs, ht⟩
  · cases h1
  · simp only [Value.slice.injEq, Option.some.injEq, Addr.mk.injEq] at h1
    obtain ⟨⟨rfl, _, _⟩, _, rfl⟩ := h1
    rw [hh]
    have e1 : cur.toList = U (List.replicate n 0) := by
      rw [List.take_of_length_le (by simp [hs])] at ht
      rw [ht]
      simp only [Value.cells, Nat.mul_one]
      rw [toList_madeCells_one]
      simp [U]
    rw [← e1]

theorem Bs.src {w : World} {a : Option Addr} {n cap : Nat} {zs : List Int} (h : Bs w a n cap zs) (hp : 0 < n) : ∃ ad, a = some ad ∧ ∀ j v, (U zs)[j]? = some v → w.cell? (ad.add j) = some v := by
  obtain ⟨b, off, rfl, hc⟩ := h.lies hp
  refine ⟨_, rfl, fun j v hj => ?_⟩
  have hjl : j < zs.length := by
    rcases Nat.lt_or_ge j zs.length with h | h
    · exact h
    · simp [U, List.getElem?_eq_none h] at hj
  rw [Addr.add_lit, hc j (by rw [← h.len]; exact hjl)]
  simp [U, List.getElem?_eq_getElem hjl] at hj
  simp [← hj, List.getD, List.getElem?_eq_getElem hjl]

theorem splice_head (zs : List Int) (n m : Nat) (h : zs.length = n) : splice (U (List.replicate (n + m) 0)) 0 (U zs) = U (zs ++ List.replicate m 0) := by
  subst h
  simp [splice, U]

theorem splice_set {α : Type} (L : List α) (p : Nat) (cs : List α) (u : α) (h : p < L.length) : (splice L (p + 1) cs).set p u = splice L p (u :: cs) := by
  unfold splice
  rw [List.take_succ_eq_append_getElem h, List.append_assoc, List.set_append_right _ _ (by simp; omega)]
  have e : p - (L.take p).length = 0 := by simp; omega
  rw [e]
  simp only [List.cons_append, List.nil_append, List.set_cons_zero, List.length_cons]
  rw [show p + 1 + cs.length = p + (cs.length + 1) from by omega]

/-- One round of a fill from the last byte to the first. -/
theorem fill_step {cur : List Value} {off size k v x : Nat} (hk : k < size) (hfit : off + size ≤ cur.length) (hx : x = v / 256 ^ k) :
    (splice cur (off + size - k) (U (be k v))).set (off + (size - 1 - k)) (.int .u8 ((x : Int) % 256)) = splice cur (off + size - (k + 1)) (U (be (k + 1) v)) := by
  have e1 : off + size - k = off + (size - 1 - k) + 1 := by omega
  have e2 : off + size - (k + 1) = off + (size - 1 - k) := by omega
  rw [e1, e2, splice_set _ _ _ _ (by omega), be_cons, hx]
  simp [U]

theorem splice_length_U {cur : List Value} {off : Nat} {l : List Int} (h : off + l.length ≤ cur.length) : (splice cur off (U l)).length = cur.length := length_splice _ _ _ (by rw [U_length]; exact h)

theorem splice_nil {α : Type} (L : List α) (p : Nat) : splice L p [] = L := by simp [splice]

theorem heap_cell {w : World} {g i : Nat} {cur : List Value} {t : TypeId} (hg : w.heap[g]? = some (.cells cur.toArray t (0, 0))) (h : i < cur.length) : ∃ v, w.cell? ⟨g, i, none⟩ = some v := by
  rw [cell_of_row w g i cur.toArray t (0, 0) hg]
  exact ⟨cur[i], by simp [h]⟩

theorem heap_free {w : World} {g i : Nat} {cur : List Value} {t : TypeId} (hg : w.heap[g]? = some (.cells cur.toArray t (0, 0))) : w.frozen? ⟨g, i, none⟩ = false := by
  simp [World.frozen?, hg]

theorem heap_set {w : World} {g i : Nat} {cur : List Value} {t : TypeId} (hg : w.heap[g]? = some (.cells cur.toArray t (0, 0))) (v : Value) :
    (w.setCell ⟨g, i, none⟩ v).heap[g]? = some (.cells (cur.set i v).toArray t (0, 0)) := by
  rw [heap_setCell_same w g i cur.toArray t v hg]
  simp

/-- What is laid over a row behind its first n cells. -/
theorem splice_mid (zs : List Int) (n : Nat) (hn : zs.length = n) (cs : List Int) (m : Nat) (_hm : cs.length ≤ m) : splice (U (zs ++ List.replicate m 0)) n (U cs) = U (zs ++ cs ++ List.replicate (m - cs.length) 0) := by
  subst hn
  simp only [splice, U, List.map_append, List.length_map, List.append_assoc]
  rw [List.take_append_of_le_length (by simp), List.take_of_length_le (by simp)]
  congr 1
  congr 1
  rw [List.drop_append]
  simp

theorem splice_tail (zs : List Int) (n : Nat) (hn : zs.length = n) (cs : List Int) (m : Nat) (hm : cs.length = m) : splice (U (zs ++ List.replicate m 0)) n (U cs) = U (zs ++ cs) := by
  rw [splice_mid zs n hn cs m (by omega)]
  simp [hm]

/-- The bytes of a string, as numbers. -/
def sb (s : ByteArray) : List Int := s.data.toList.map fun b => (b.toNat : Int)
theorem sb_length (s : ByteArray) : (sb s).length = s.size := by rw [sb, List.length_map, Array.length_toList]; rfl
theorem sb_byte (s : ByteArray) : ∀ z ∈ sb s, 0 ≤ z ∧ z ≤ 255 := by
  intro z hz
  obtain ⟨b, _, rfl⟩ := List.mem_map.1 hz
  have := b.toNat_lt
  omega
theorem U_sb (s : ByteArray) : U (sb s) = Lib.strCells s := by simp [U, sb, Lib.strCells]
theorem str_sb (s : ByteArray) : strOfNums (sb s) = s := by
  have e : (sb s).map (fun n => UInt8.ofNat n.toNat) = s.data.toList := by
    rw [sb, List.map_map]
    conv => rhs; rw [← List.map_id s.data.toList]
    apply List.map_congr_left
    intro b _
    simp
  unfold strOfNums
  rw [e]
theorem sb_str {l : List Int} (h : ∀ z ∈ l, 0 ≤ z ∧ z ≤ 255) : sb (strOfNums l) = l := by
  unfold sb
  rw [strOfNums_data, List.map_map]
  conv => rhs; rw [← List.map_id l]
  apply List.map_congr_left
  intro z hz
  have := h z hz
  simp only [Function.comp_apply, UInt8.toNat_ofNat', id_eq]
  omega

/-- A string's bytes copied into a row that the call made. -/
theorem wpList_copy_str {P : Program} {w : World} {ops : Array Oper} {rest : List Oper} {o : Oper} {a : Act} {Q : Exit → Act → World → Prop} (hgd : o.guard = none) (d s : Operand) (dT sT : TypeId)
    (ho : o.op = .call { callee := .builtin .copy, args := #[d, s], argTypes := #[dT, sT] }) (elem : TypeId) (hu : P.underlying dT = some (.slice elem)) (hsz : (P.info? elem).map (·.size) = some 1)
    (dp : Option Addr) (dLen dCap : Nat) (str : ByteArray) (hd : a.eval d = .slice dp dLen dCap) (hs : a.eval s = .string str) (hle : str.size ≤ dLen)
    (g off : Nat) (cur : List Value) (t : TypeId) (hg : w.heap[g]? = some (.cells cur.toArray t (0, 0)))
    (hpos : 0 < str.size → dp = some ⟨g, off, none⟩) (hfit : off + str.size ≤ cur.length) (B : Nat) (w0 : World) (hb : Below B w0 w) (hBg : B ≤ g)
    (h : ∀ w', Hid (w'.heap[g]? = some (.cells (splice cur off (U (sb str))).toArray t (0, 0))) → Below B w0 w' → wpList P ops Q rest (a.put o.dst (goInt str.size)) w') :
    wpList P ops Q (o :: rest) a w := by
  refine wpList_plain hgd fun K hK => ?_
  have hmin : Nat.min str.size dLen = str.size := Nat.min_eq_left hle
  obtain ⟨i, hi, hi1⟩ := Option.map_eq_some_iff.1 hsz
  by_cases h0 : str.size = 0
  · have hrun : (Builtin.copy_ #[dT, sT] o.type #[.slice dp dLen dCap, .string str]).run P w = .ok (goInt str.size) w := by
      cases dp <;> simp [Builtin.copy_, run_underlying hu, Builtin.lenOf, Builtin.firstCells, sizeOf, typeInfo, hi, h0, storeCells]
    have he : U (sb str) = [] := List.eq_nil_of_length_eq_zero (by rw [U_length, sb_length]; exact h0)
    unfold Oper.wp
    simp [execOp, ho, resolve, invoke, builtin, hd, hs, hrun, Result.andThen]
    exact hK _ _ (h w (hide (by rw [he, splice_nil]; exact hg)) hb)
  · obtain rfl := hpos (by omega)
    have hst := run_storeCells_at P g off t (Lib.strCells str) 0 cur.toArray w hg (by rw [Lib.strCells_length]; simpa using hfit) (Lib.strCells_oneCell str)
    have hf := Lib.run_firstCells_string (P := P) w 1 str
    simp only [Nat.add_zero, Lib.strCells_length] at hst
    have hrun : (Builtin.copy_ #[dT, sT] o.type #[.slice (some ⟨g, off, none⟩) dLen dCap, .string str]).run P w = .ok (goInt str.size) (w.setRow g (splice cur off (U (sb str))).toArray) := by
      have e : (splice cur off (U (sb str))).toArray = (cur.take off ++ Lib.strCells str ++ cur.drop (off + str.size)).toArray := by
        rw [splice, U_sb, Lib.strCells_length, List.append_assoc]
      rw [e]
      simp [Builtin.copy_, run_underlying hu, Builtin.lenOf, sizeOf, typeInfo, hi, hi1, hmin, hf, hst, Result.andThen]
    unfold Oper.wp
    simp [execOp, ho, resolve, invoke, builtin, hd, hs, hrun, Result.andThen]
    exact hK _ _ (h _ (hide (setRow_heap w g _ _ t _ hg)) (below_setRow hb hBg _))

end Go.Proofs.YtgjpbekmkhanhaaGreat

/-
  Texts put into one.
-/
import Derived.Test.YtikhgjnjlkaobaaPk23124aaa
import Derived.Test.YtikhgjnjlkaobaaPk10ab6b6f
import Derived.BigQuiet
import Derived.Deep.QuietTactic
import Derived.Great.BuildSlice

/-
  Rows of texts: SameTexts where both are the same; truths; what a disk holds, by its names.
-/
namespace Go.Proofs.Ytikhgjnjlkaobaa
open Go.RowKit Go.Sort
set_option maxRecDepth 100000
set_option maxRecDepth 100000
set_option linter.unusedVariables false

theorem row_at {w : World} {b n cap : Nat} {e : TypeId} {a : Option Addr} {xs : List Value} (h : w.ownsRow b e 1 (.slice a n cap) n xs) (hn : 0 < n) : ∃ g, a = some ⟨g, 0, none⟩ ∧ b ≤ g ∧ g < w.heap.size ∧ (n ≤ cap ∧ cap ≤ 9223372036854775807) ∧ ∀ k v, xs[k]? = some v → w.cell? ⟨g, k, none⟩ = some v := by
  rcases h.2 with ⟨_, h2⟩ | ⟨g, c, cur, h1, h2, h3, h4, h5, _⟩
  · omega
  · simp only [Value.slice.injEq] at h1
    obtain ⟨rfl, _, rfl⟩ := h1
    unfold maxLen at h5
    refine ⟨g, rfl, h2, (Array.getElem?_eq_some_iff.1 h3).1, ⟨h4, by omega⟩, fun k v hk => ?_⟩
    have := h.cells (g := g) rfl k v hk
    rwa [Addr.add_mid, Nat.zero_add] at this

theorem row_cap {w : World} {b n cap m : Nat} {e : TypeId} {a : Option Addr} {xs : List Value} (h : w.ownsRow b e 1 (.slice a n cap) m xs) : n ≤ cap ∧ cap ≤ 9223372036854775807 := by
  rcases h.2 with ⟨h1, h2⟩ | ⟨g, c, cur, h1, h2, h3, h4, h5, _⟩
  · simp only [Value.slice.injEq] at h1; omega
  · simp only [Value.slice.injEq] at h1; unfold maxLen at h5; omega

set_option maxHeartbeats 2000000 in
theorem texts_same {w : World} {b1 b2 n cap dap : Nat} {a c : Option Addr} {ss : List ByteArray} (hss : ss.length = n) (hA : w.ownsRow b1 9 1 (.slice a n cap) n (ss.map .string)) (hC : w.ownsRow b2 9 1 (.slice c n dap) n (ss.map .string)) :
    Calls Try.prog 31 #[.slice a n cap, .slice c n dap] w fun e w' => e = .returned (.bool true) ∧ Tb (fun _ => False) w w' := by
  obtain ⟨hea, hra⟩ := row_cap hA
  obtain ⟨hec, hrc⟩ := row_cap hC
  have hnn : ((n : Int) != (n : Int)) = false := by simp
  have HSS := hide hss
  clear hss
  go_enter Try.func31, Try.ntmps31
  go_wp2_with fail
  go_loopw [5] (fun i wr => ∃ k : Nat, k ≤ n ∧ i = .int .i64 k ∧ Hid (Tb (fun _ => False) w wr)) (fun i _ => n - (intOf i).toNat)
  case atStart => exact ⟨0, Nat.zero_le _, rfl, hide (Tb.refl _ _)⟩
  case round =>
    obtain ⟨k, hk, rfl, hb⟩ := hrel
    by_cases hlt : k < n
    · obtain ⟨g1, rfl, _, _, _, hc1⟩ := row_at (row_tb hA hb.out (fun _ _ h => h)) (by omega)
      obtain ⟨g2, rfl, _, _, _, hc2⟩ := row_at (row_tb hC hb.out (fun _ _ h => h)) (by omega)
      have hks : k < ss.length := by rw [HSS.out]; exact hlt
      have p1 := hc1 k (.string ss[k]) (by rw [List.getElem?_map, List.getElem?_eq_getElem hks]; rfl)
      have p2 := hc2 k (.string ss[k]) (by rw [List.getElem?_map, List.getElem?_eq_getElem hks]; rfl)
      clear hc1 hc2
      generalize ss[k] = s2 at p1 p2
      have j1 : (k : Int) < (n : Int) := by omega
      have j2 : (0 : Int) ≤ (k : Int) := by omega
      have hse : (s2.toList != s2.toList) = false := by simp
      clear hks
      go_wp2_with fail
      go_quiet (fail)
      go_wp2_with fail
      go_roundw
      case rel => exact ⟨k + 1, by omega, by go_num, hide (hb.out.trans (Tb.of_fresh (below_drewN (Below.refl _ _) nq)) (fun _ _ h => h))⟩
      case measure => simp [intOf]; omega
    · obtain rfl : k = n := by omega
      go_wp2_with fail
      go_ret
      exact ⟨rfl, hb.out⟩

set_option maxHeartbeats 2000000 in
theorem truths_any (n : Nat) (hn : n ≤ 1000000) (w : World) :
    Calls Try.prog 30 #[.int .i64 (n : Int)] w fun e w' => ∃ g cap, e = .returned (.slice (some ⟨g, 0, none⟩) n cap) ∧ w.heap.size ≤ g ∧ w'.ownsRow w.heap.size 4 1 (.slice (some ⟨g, 0, none⟩) n cap) n (List.replicate n (.bool true)) ∧ Tb (fun _ => False) w w' := by
  have h4 : (Try.prog.info? 4).map (fun i => (i.zero, i.size, i.bytes)) = some (some (.bool false), 1, 1) := by kernel_rfl
  obtain ⟨i0, hi, he⟩ := Option.map_eq_some_iff.1 h4
  simp only [Prod.mk.injEq] at he
  obtain ⟨hz0, hz1, hz2⟩ := he
  obtain ⟨M, hM⟩ : ∃ M, M = madeCells (Value.bool false).cells ((n : Int).toNat * i0.size) := ⟨_, rfl⟩
  have hMs : M.size = n := by rw [hM, size_madeCells, hz1]; simp
  have hmk : (Instr.makeSlice (22 : TypeId) (.int .i64 (n : Int)) (.int .i64 (n : Int))).run Try.prog w = .ok (.slice (some ⟨w.heap.size, 0, none⟩) n n) (w.alloc (.cells M 4)) := by
    have h := run_make (P := Try.prog) w (22 : TypeId) 4 i0 (.bool false) Try.underlying22 hi hz0 .i64 .i64 (n : Int) (n : Int) (by omega) (by omega) (by rw [hz2]; omega) (by omega)
    rw [← hM] at h
    simpa using h
  obtain ⟨W, hW⟩ : ∃ W, Hid (W = w.alloc (.cells M 4)) := ⟨_, hide rfl⟩
  have hg0 : W.heap[w.heap.size]? = some (.cells M 4 (0, 0)) := by rw [hW.out]; exact heap_alloc_new w _
  have tW : Tb (fun _ => False) w W := by rw [hW.out]; exact (Tb.refl _ _).alloc _
  obtain ⟨g, hg⟩ : ∃ g, Hid (g = w.heap.size) := ⟨_, hide rfl⟩
  rw [← hW.out] at hmk
  rw [← hg.out] at hmk hg0
  have HG := hide hg0
  have HT := hide tW
  have HMS := hide hMs
  clear hM hMs h4 hg0 tW
  go_enter Try.func30, Try.ntmps30
  go_wp2_with fail
  go_loopw [4] (fun i wr => ∃ k : Nat, k ≤ n ∧ i = .int .i64 k ∧ Hid (Tb (fun _ => False) w wr) ∧ Hid (∃ cur : Array Value, wr.heap[g]? = some (.cells cur 4 (0, 0)) ∧ cur.size = n ∧ ∀ j, j < k → cur[j]? = some (.bool true))) (fun i _ => n - (intOf i).toNat)
  case atStart => exact ⟨0, Nat.zero_le _, rfl, HT, hide ⟨M, HG.out, HMS.out, fun j hj => by omega⟩⟩
  case round =>
    obtain ⟨k, hk, rfl, hb, hc⟩ := hrel
    by_cases hlt : k < n
    · obtain ⟨cur, c1, c2, c3⟩ := hc.out
      have hcell : wr.cell? ⟨g, k, none⟩ = some cur[k] := by
        rw [cell_of_row wr g k _ 4 (0, 0) c1]
        exact Array.getElem?_eq_getElem (by omega)
      have hfr : wr.frozen? ⟨g, k, none⟩ = false := frozen_of_row wr g k _ 4 c1
      have HN : Hid (Tb (fun _ => False) w (wr.setCell ⟨g, k, none⟩ (.bool true)) ∧ ∃ cur : Array Value, (wr.setCell ⟨g, k, none⟩ (.bool true)).heap[g]? = some (.cells cur 4 (0, 0)) ∧ cur.size = n ∧ ∀ j, j < k + 1 → cur[j]? = some (.bool true)) := hide ⟨hb.out.trans (Tb.set g k _ rfl : Tb (fun x => x = g) wr _) (fun i hi e => by have := hg.out; omega), cur.setIfInBounds k (.bool true), heap_setCell_same wr g k cur 4 _ c1, by simpa using c2, fun j hj => by
        rw [Array.getElem?_setIfInBounds]
        split
        · rename_i e
          subst e
          rw [if_pos (by omega)]
        · exact c3 j (by omega)⟩
      generalize cur[k] = old at hcell
      clear c1 c2 c3 hc hb
      go_wp2_with fail
      go_roundw
      case rel => exact ⟨k + 1, by omega, by go_num, hide HN.out.1, hide HN.out.2⟩
      case measure => simp [intOf]; omega
    · obtain rfl : k = n := by omega
      go_wp2_with fail
      go_ret
      obtain ⟨cur, c1, c2, c3⟩ := hc.out
      refine ⟨g, k, rfl, by rw [hg.out]; exact Nat.le_refl _, ⟨by simp, .inr ⟨g, k, cur, rfl, by rw [hg.out]; exact Nat.le_refl _, c1, Nat.le_refl _, by unfold maxLen; omega, by omega, ?_⟩⟩, hb.out⟩
      refine List.ext_getElem? (fun j => ?_)
      simp only [Nat.mul_one]
      rw [List.getElem?_take, List.getElem?_replicate]
      split
      · rw [Array.getElem?_toList]
        exact c3 j (by omega)
      · rfl

/-- The names, sorted. -/
def Dsk.sorted (d : Dsk) : List (List UInt8) := (d.std.nm.map (·.1)).mergeSort (fun x y => decide (x ≤ y))

/-- A name, and what its file has. -/
def Dsk.pair (d : Dsk) (x : List UInt8) : List ByteArray := [⟨x.toArray⟩, strOfNums (d.bytes ⟨x.toArray⟩)]

def Dsk.all (d : Dsk) : List ByteArray := d.sorted.flatMap d.pair

theorem all_length (d : Dsk) : ∀ l : List (List UInt8), (l.flatMap d.pair).length = 2 * l.length := by
  intro l
  induction l with
  | nil => rfl
  | cons x l ih => simp only [List.flatMap_cons, List.length_append, ih, List.length_cons, Dsk.pair, List.length_nil]; omega

section
variable {w W V : World} {R : Nat} {d : Dsk} {vs : List Value} {K : Nat}

theorem info9 : ∃ i, Try.prog.info? 9 = some i ∧ i.zero = some (.string ByteArray.empty) ∧ i.size = 1 ∧ i.bytes = 16 := by
  have h : (Try.prog.info? 9).map (fun i => (i.zero, i.size, i.bytes)) = some (some (.string ByteArray.empty), 1, 16) := by kernel_rfl
  obtain ⟨i, hi, he⟩ := Option.map_eq_some_iff.1 h
  simp only [Prod.mk.injEq] at he
  exact ⟨i, hi, he.1, he.2.1, he.2.2⟩

theorem ax_sorted (h : Ax w vs R d W) (hb : Bd d K) (hK : K < 800000) : Calls Try.prog 14 #[.pointer (some ⟨R, 0, none⟩)] W fun e w' => ∃ a cap, e = .returned (.slice a d.sorted.length cap) ∧ w'.ownsRow W.heap.size 9 1 (.slice a d.sorted.length cap) d.sorted.length ((d.sorted.map (fun x => (⟨x.toArray⟩ : ByteArray))).map .string) ∧ Tb (fun _ => False) W w' := by
  obtain ⟨L, ⟨o, a1, a2⟩, a3, a6, a5⟩ := h
  refine (names_any a1 hb.std (by omega)).mono ?_
  rintro e w' ⟨v, ss, rfl, hp, hr, hbl⟩
  have e1 : ss.mergeSort (fun x y => decide (x ≤ y)) = d.sorted := mergeSort_of_perm hp
  have e2 : ss.length = d.sorted.length := by rw [← e1, List.length_mergeSort]
  rw [e1, e2] at hr
  obtain ⟨a, cap, rfl⟩ := row_val hr
  exact ⟨a, cap, rfl, by rw [List.map_map]; exact hr, Tb.of_fresh hbl⟩

theorem sorted_mem {x : List UInt8} (h : x ∈ d.sorted) : ∃ f, lk d.std.nm x = some f := by
  have h1 : x ∈ d.std.nm.map (·.1) := List.mem_mergeSort.1 h
  obtain ⟨p, hp, rfl⟩ := List.mem_map.1 h1
  cases hl : lk d.std.nm p.1 with
  | none => exact absurd rfl (lk_none_iff.1 hl p hp)
  | some f => exact ⟨f, rfl⟩

theorem sorted_len (d : Dsk) : d.sorted.length = d.std.nm.length := by
  unfold Dsk.sorted
  rw [List.length_mergeSort, List.length_map]

end

end Go.Proofs.Ytikhgjnjlkaobaa

/-
  What a disk holds, by its names: the law's 'all'.
-/
namespace Go.Proofs.Ytikhgjnjlkaobaa
open Go.RowKit Go.Sort
set_option maxRecDepth 100000
set_option maxRecDepth 100000
set_option linter.unusedVariables false
set_option linter.unusedSimpArgs false

theorem built_row (X : World) (b : Nat) (hb : b ≤ X.heap.size) (x y : Value) : (X.alloc (.cells #[x, y] 9)).ownsRow b 9 1 (.slice (some ⟨X.heap.size, 0, none⟩) 2 2) 2 [x, y] :=
  ⟨rfl, .inr ⟨X.heap.size, 2, #[x, y], rfl, hb, heap_alloc_new X _, Nat.le_refl _, by unfold maxLen; omega, rfl, rfl⟩⟩

set_option maxHeartbeats 4000000 in
theorem all_any {w W : World} {R : Nat} {d : Dsk} {vs : List Value} {K : Nat} (h : Ax w vs R d W) (hb : Bd d K) (hK : K < 100000) (hS : Short d.std) :
    Calls Try.prog 29 #[.pointer (some ⟨R, 0, none⟩)] W fun e w' => ∃ a n cap, e = .returned (.slice a n cap) ∧ d.all.length = n ∧ w'.ownsRow W.heap.size 9 1 (.slice a n cap) n (d.all.map .string) ∧ Tb (fun _ => False) W w' := by
  have CN := hide (ax_sorted h hb (by omega))
  have H := hide h
  have HB := hide hb
  have HSH := hide hS
  have hsl : d.sorted.length ≤ K := by rw [sorted_len]; exact hb.std.nm
  obtain ⟨N, hN⟩ : ∃ N, Hid (N = d.sorted.length) := ⟨_, hide rfl⟩
  rw [← hN.out] at CN hsl
  obtain ⟨i9, hi, hz0, hz1, hz2⟩ := info9
  clear h hb hS
  go_enter Try.func29, Try.ntmps29
  go_wp2_with fail
  refine CN.out.mono ?_
  rintro e w2 ⟨na, nc, rfl, r2, t2⟩
  obtain ⟨hnc1, hnc2⟩ := row_cap r2
  have R2 := hide r2
  have T2 := hide t2
  have HWS := hide t2.size
  clear r2 t2 CN
  go_wp2_with fail
  go_loopw [3, 5, 6, 7] (fun v i _ _ wr => ∃ k : Nat, k ≤ N ∧ i = .int .i64 k ∧ Hid (wr.ownsRow w2.heap.size 9 1 v (2 * k) (((d.sorted.take k).flatMap d.pair).map .string)) ∧ Hid (Tb (fun _ => False) w2 wr)) (fun _ i _ _ _ => N - (intOf i).toNat)
  case atStart => exact ⟨0, Nat.zero_le _, rfl, hide (World.ownsRow_nil _ _ _ _), hide (Tb.refl _ _)⟩
  case round =>
    obtain ⟨k, hk, rfl, ho, ht⟩ := hrel
    by_cases hlt : k < N
    · obtain ⟨x, hx⟩ : ∃ x, Hid (d.sorted[k]? = some x) := ⟨_, hide (List.getElem?_eq_getElem (show k < d.sorted.length by rw [← hN.out]; exact hlt))⟩
      obtain ⟨f, hf⟩ := sorted_mem (d := d) (x := x) (List.mem_of_getElem? hx.out)
      have hfp := (HB.out.file _ (lk_mem hf)).1
      have hxs := HSH.out _ (lk_mem hf)
      have hxl : (⟨x.toArray⟩ : ByteArray).data.toList = x := by simp
      have hfind : d.find ⟨x.toArray⟩ = f := by unfold Dsk.find; rw [hxl, hf]; rfl
      have hsz : (⟨x.toArray⟩ : ByteArray).size = 1 := hxs
      obtain ⟨s, hs⟩ : ∃ s : ByteArray, Hid (s = ⟨x.toArray⟩) := ⟨_, hide rfl⟩
      rw [← hs.out] at hfind hsz
      obtain ⟨g1, hg0, hg2, hg1, hg3, hc1⟩ := row_at R2.out (by omega)
      subst hg0
      have p1 := ht.out.cell (hc1 k (.string s) (by rw [List.getElem?_map, List.getElem?_map, hx.out, hs.out]; rfl)) (fun h => h)
      have hno := ho.out
      have HP : Hid (∀ V, Tb (fun j => u3.ownBlock = some j) wr V → V.cell? ⟨g1, k, none⟩ = some (.string s)) := hide (fun V tV => tV.cell p1 (fun h => by have := (hno.lt g1 h).1; omega))
      have CR := hide (ax_read (s := s) ((H.out.kept T2.out).kept ht.out) (HB.out.few (by omega)) (by omega) (by rw [hfind]; simp only at hfp; omega) HB.out.calm.1)
      obtain ⟨M, hM⟩ : ∃ M, Hid (M = (d.bytes s).length) := ⟨_, hide rfl⟩
      rw [← hM.out] at CR
      clear hc1 hf hfp hxl hfind hg1 hg2 hg3 hxs hsz
      go_wp2_with fail
      refine CR.out.mono ?_
      rintro e w3 ⟨v3, rfl, r3, b3⟩
      obtain ⟨a3, c3, hv3⟩ := row_val r3
      subst hv3
      have hbyte : ∀ z ∈ d.bytes s, 0 ≤ z ∧ z ≤ 255 := fun z hz => by
        obtain ⟨y, hy, hzy⟩ := List.mem_flatten.1 hz
        exact (HB.out.rows s y hy).2 z hzy
      have hB3 : Bs w3 a3 M c3 (d.bytes s) := own_bs r3 hbyte
      obtain ⟨hcc1, hcc2⟩ := row_cap r3
      obtain ⟨w4, hw4⟩ : ∃ w4, Hid (w4 = w3.drew) := ⟨_, hide rfl⟩
      have t4 : Tb (fun _ => False) wr w4 := by rw [hw4.out]; exact (Tb.of_fresh b3).drew
      obtain ⟨T, hT⟩ : ∃ T, Hid (T = strOfNums (d.bytes s)) := ⟨_, hide rfl⟩
      have HCV : Hid (∀ V, Tb (fun j => u3.ownBlock = some j) w3 V → (convert 28 9 (.slice a3 M c3)).run Try.prog V = .ok (.string T) V) := hide (fun V tV => by
        rw [hT.out]
        exact run_str 28 5 Try.underlying28 Try.underlying5 (own_bs (row_tb r3 tV (fun g hg h => by have := (hno.lt g h).2; have := (r3.lt g hg).1; omega)) hbyte) 9 Try.underlying9)
      -- the row of two texts, and the append
      obtain ⟨w5, hw5⟩ : ∃ w5, Hid (w5 = w4.alloc (.cells #[.string s, .string T] 9)) := ⟨_, hide rfl⟩
      have t5 : Tb (fun _ => False) w4 w5 := by rw [hw5.out]; exact (Tb.refl _ _).alloc _
      have ho5 := row_tb ho.out (t4.trans t5 (fun _ _ h => h)) (fun _ _ h => h)
      have s2 := ht.out.size
      have s4 := t4.size
      have s5 := t5.size
      have hx5 : w5.ownsRow w2.heap.size 9 1 (.slice (some ⟨w4.heap.size, 0, none⟩) 2 2) 2 [.string s, .string T] := by rw [hw5.out]; exact built_row w4 _ (by omega) _ _
      obtain ⟨v6, w6, hr6, o6, g6, b6⟩ := run_append_rows (P := Try.prog) (w := w5) w2.heap.size 34 34 9 i9 (.string ByteArray.empty) 1 16 Try.underlying34 hi hz0 hz1 hz2 rfl (by omega) u3 (2 * k) _ ho5 (.slice (some ⟨w4.heap.size, 0, none⟩) 2 2) 2 [.string s, .string T] _ hx5 (by simp [Value.oneCell']) (by unfold maxLen; omega) (by omega) (by omega)
      have hown3 := ho.out
      have t6 : Tb (fun _ => False) w2 w6 := ((ht.out.trans t4 (fun _ _ h => h)).trans t5 (fun _ _ h => h)).trans (Tb.of_grown g6 (fun j e => e) : Tb (fun j => u3.ownBlock = some j) w5 w6) (fun i hi e => by have := (hown3.lt i e).1; omega)
      have R6 : Hid (w6.ownsRow w2.heap.size 9 1 v6 (2 * (k + 1)) (((d.sorted.take (k + 1)).flatMap d.pair).map .string)) := hide (by
        have e : d.sorted.take (k + 1) = d.sorted.take k ++ [x] := by
          rw [List.take_add_one, hx.out]
          rfl
        rw [e, List.flatMap_append, List.map_append]
        have e2 : ([x].flatMap d.pair).map Value.string = [.string s, .string T] := by
          simp only [List.flatMap_cons, List.flatMap_nil, List.append_nil, Dsk.pair, List.map_cons, List.map_nil]
          rw [hT.out, hs.out]
        rw [e2, show 2 * (k + 1) = 2 * k + 2 by omega]
        exact o6)
      have T6 := hide t6
      have HC4 : Hid (∀ V, Tb (fun j => u3.ownBlock = some j) w4 V → V.cell? ⟨g1, k, none⟩ = some (.string s) ∧ (convert 28 9 (.slice a3 M c3)).run Try.prog V = .ok (.string T) V) := hide (fun V tV => ⟨HP.out V ((t4.mono (fun _ _ h => h.elim)).trans tV (fun _ _ h => h)), HCV.out V (Tb.trans (S := fun j => u3.ownBlock = some j) (by rw [hw4.out]; exact (Tb.refl _ _).drew) tV (fun _ _ h => h))⟩)
      have j2 : (0 : Int) ≤ (k : Int) := by omega
      have j3 : (k : Int) < (N : Int) := by omega
      have hbs : (Instr.buildSlice 34 2 #[(0, .string s), (1, .string T)]).run Try.prog w4 = .ok (.slice (some ⟨w4.heap.size, 0, none⟩) 2 2) w5 := by rw [hw5.out]; go_simp
      have HBS := hide hbs
      have HR6 := hide hr6
      have S4 := hide (HC4.out w4 (Tb.refl _ _))
      have S5 := hide (HC4.out w5 (t5.mono (fun _ _ h => h.elim)))
      have S6 := hide (HC4.out w6 ((t5.mono (fun _ _ h => h.elim)).trans (Tb.of_grown g6 (fun j e => e) : Tb (fun j => u3.ownBlock = some j) w5 w6) (fun _ _ h => h)))
      clear ho ht ho5 hx5 o6 g6 b6 t6 t5 t4 s2 s4 s5 hown3 hbs hr6 r3 b3 hB3 hbyte p1 HP HCV CR hno
      go_wp2_with fail
      refine wp_region_held_drew (S := fun V => V.cell? ⟨g1, k, none⟩ = some (.string s) ∧ (convert 28 9 (.slice a3 M c3)).run Try.prog V = .ok (.string T) V) (by kernel_rfl) (by rw [← hw4.out]; exact S4.out) (fun hHeld => ?_)
      try simp only [List.size_toArray, List.length_cons, List.length_nil, Nat.reduceAdd]
      rw [← hw4.out] at hHeld ⊢
      refine wpAnyH_take (i := 0) (v := u3) rfl (by kernel_rfl) (by kernel_rfl) (by kernel_rfl) (fun _ _ _ h => h) (Or.inl ⟨by rfl, ?hy⟩) hHeld ?_
      case hy => (intro V hV; obtain ⟨hV1, hV2⟩ := hV; go_simp)
      simp only [Act.put]
      refine wpAnyH_take (i := 1) (v := (.slice (some ⟨g1, 0, none⟩) N nc)) rfl (by kernel_rfl) (by kernel_rfl) (by kernel_rfl) (fun _ _ _ h => h) (Or.inl ⟨by rfl, ?hy⟩) hHeld ?_
      case hy => (intro V hV; obtain ⟨hV1, hV2⟩ := hV; go_simp)
      simp only [Act.put]
      refine wpAnyH_take (i := 2) (v := (.int .i64 (k : Int))) rfl (by kernel_rfl) (by kernel_rfl) (by kernel_rfl) (fun _ _ _ h => h) (Or.inl ⟨by rfl, ?hy⟩) hHeld ?_
      case hy => (intro V hV; obtain ⟨hV1, hV2⟩ := hV; go_simp)
      simp only [Act.put]
      refine wpAnyH_take (i := 3) (v := (.pointer (some ⟨g1, k, none⟩))) rfl (by kernel_rfl) (by kernel_rfl) (by kernel_rfl) (fun _ _ _ h => h) (Or.inl ⟨by rfl, ?hy⟩) hHeld ?_
      case hy => (intro V hV; obtain ⟨hV1, hV2⟩ := hV; go_simp)
      simp only [Act.put]
      refine wpAnyH_take (i := 4) (v := (.string s)) rfl (by kernel_rfl) (by kernel_rfl) (by kernel_rfl) (fun _ _ _ h => h) (Or.inl ⟨by rfl, ?hy⟩) hHeld ?_
      case hy => (intro V hV; obtain ⟨hV1, hV2⟩ := hV; go_simp)
      simp only [Act.put]
      refine wpAnyH_take (i := 5) (v := (.slice a3 M c3)) rfl (by kernel_rfl) (by kernel_rfl) (by kernel_rfl) (fun _ _ _ h => h) (Or.inl ⟨by rfl, ?hy⟩) hHeld ?_
      case hy => (intro V hV; obtain ⟨hV1, hV2⟩ := hV; go_simp)
      simp only [Act.put]
      refine wpAnyH_take (i := 6) (v := (.string T)) rfl (by kernel_rfl) (by kernel_rfl) (by kernel_rfl) (fun _ _ _ h => h) (Or.inl ⟨by rfl, ?hy⟩) hHeld ?_
      case hy => (intro V hV; obtain ⟨hV1, hV2⟩ := hV; go_simp)
      simp only [Act.put]
      refine wpAnyH_ready (rs := [7]) (by kernel_rfl) (by simp) ?_
      refine AllReadyH.cons rfl (fun K hK => ?_) AllReadyH.nil
      refine step_run rfl (exec_build #[(0, .string s), (1, .string T)] rfl (by simp [Act.eval]) HBS.out) ?_
      refine hK.out _ _ S5.out (fun hHeld => ?_)
      clear hK K
      simp only [Act.put, List.getElem_toArray, List.getElem_cons_succ, List.getElem_cons_zero, List.setIfInBounds_toArray, List.set_cons_succ, List.set_cons_zero]
      refine wpAnyH_ready (rs := [8]) (by kernel_rfl) (by simp) ?_
      refine AllReadyH.cons rfl (fun K hK => ?_) AllReadyH.nil
      refine step_run rfl (exec_append u3 (.slice (some ⟨w4.heap.size, 0, none⟩) 2 2) rfl (by simp [Act.eval]) (by simp [Act.eval]) HR6.out) ?_
      refine hK.out _ _ S6.out (fun hHeld => ?_)
      clear hK K
      simp only [Act.put, List.getElem_toArray, List.getElem_cons_succ, List.getElem_cons_zero, List.setIfInBounds_toArray, List.set_cons_succ, List.set_cons_zero]
      refine wpAnyH_take (i := 9) (v := v6) rfl (by kernel_rfl) (by kernel_rfl) (by kernel_rfl) (fun _ _ _ h => h) (Or.inl ⟨by rfl, ?hy⟩) hHeld ?_
      case hy => (intro V hV; obtain ⟨hV1, hV2⟩ := hV; go_simp)
      simp only [Act.put, List.getElem_toArray, List.getElem_cons_succ, List.getElem_cons_zero, List.setIfInBounds_toArray, List.set_cons_succ, List.set_cons_zero]
      refine wpAnyH_done (by kernel_rfl) ?_ _
      clear HBS HR6 S4 S5 S6 hHeld
      go_wp2_with fail
      go_roundw
      case rel => exact ⟨k + 1, by omega, by go_num, R6, T6⟩
      case measure => simp [intOf]; omega
    · obtain rfl : k = N := by omega
      obtain ⟨ao, co, hvo⟩ := row_val ho.out
      subst hvo
      go_wp2_with fail
      go_ret
      have e : d.sorted.take k = d.sorted := List.take_of_length_le (by rw [← hN.out]; exact Nat.le_refl _)
      have hrow := ho.out
      rw [e] at hrow
      exact ⟨ao, 2 * k, co, rfl, by unfold Dsk.all; rw [all_length, hN.out], hrow.mono HWS.out, T2.out.trans ht.out (fun _ _ h => h)⟩

end Go.Proofs.Ytikhgjnjlkaobaa

/-
  Three disks at once; numbers that stay small whatever is synced; the same names and rows are told the same.
-/
namespace Go.Proofs.Ytikhgjnjlkaobaa
open Go.RowKit Go.Sort
set_option maxRecDepth 100000
set_option maxRecDepth 100000
set_option linter.unusedVariables false

theorem Mix.length {l a b : List Stp} (h : Mix l a b) : a.length + b.length = l.length := by
  induction h with
  | nil => rfl
  | left x _ ih => simp only [List.length_cons]; omega
  | right x _ _ ih => simp only [List.length_cons]; omega

/-- Small numbers, which syncs do not raise. -/
structure Bl (d : Dsk) (K : Nat) : Prop where
  bd : Bd d K
  ex : ∃ D, Sm d.dur D ∧ D + d.l.length ≤ K
  even : Even d

section
variable {d d' : Dsk} {K : Nat}

theorem bl_new : Bl newDsk 10 := ⟨bd_new, ⟨10, Sm.empty, by simp [newDsk]⟩, even_new⟩

theorem Did.dur (h : Did d d') : d'.dur = d.dur ∧ d'.l.length ≤ d.l.length + 2 := by
  obtain ⟨p1, p2, p3, p4, p5⟩ := begin_parts d
  obtain ⟨i, j, at', z, ⟨rfl, h1⟩ | rfl | rfl | ⟨rfl, h1, h2⟩⟩ := h
  · unfold Dsk.cut
    repeat' split
    all_goals first | exact ⟨rfl, by simp⟩ | exact ⟨p1, by rw [p3]; omega⟩ | exact ⟨p1, by simp only [Dsk.do, List.length_append, List.length_singleton]; rw [p3]; omega⟩
  · unfold Dsk.rename
    repeat' split
    all_goals first | exact ⟨rfl, by simp⟩ | exact ⟨p1, by rw [p3]; omega⟩ | exact ⟨p1, by simp only; rw [p3]; omega⟩ | exact ⟨p1, by simp only [Dsk.do, List.length_append, List.length_singleton]; rw [p3]; omega⟩
  · unfold Dsk.remove
    repeat' split
    all_goals first | exact ⟨rfl, by simp⟩ | exact ⟨p1, by rw [p3]; omega⟩ | exact ⟨p1, by simp only [Dsk.do, List.length_append, List.length_singleton]; rw [p3]; omega⟩
  · unfold Dsk.put
    repeat' split
    all_goals first | exact ⟨rfl, by simp⟩ | exact ⟨p1, by rw [p3]; omega⟩ | exact ⟨p1, by simp only [Dsk.do, List.length_append, List.length_singleton]; rw [p3]; omega⟩

theorem Did.bl (h : Did d d') (hb : Bl d K) (hK : K < 800000) : Bl d' (K + 3) := by
  obtain ⟨D, h1, h2⟩ := hb.ex
  obtain ⟨e1, e2⟩ := h.dur
  exact ⟨h.bd hb.bd hK, ⟨D, by rw [e1]; exact h1, by omega⟩, h.even hb.even hb.bd⟩

theorem Bl.settled (h : Bl d K) (f : Int) : Bl (d.settled f) K := by
  obtain ⟨D, h1, h2⟩ := h.ex
  have he := h.even
  have hb := h.bd
  have l1 := (mix_names (toMake f (nms d.l)) d.l he.late).length
  have l2 := (mix_secs f (offN (toMake f (nms d.l)) d.l) (no_making d.l f he.late)).length
  have hof := offN_sub (toMake f (nms d.l)) d.l
  have hok1 : ∀ t ∈ (nms d.l).take (toMake f (nms d.l)), t.Ok ∧ t.file ≤ d.made := fun t ht => hb.ok t (List.mem_filter.1 (List.mem_of_mem_take ht)).1
  have hok2 : ∀ t ∈ scs (offN (toMake f (nms d.l)) d.l) f, t.Ok ∧ t.file ≤ d.made := fun t ht => hb.ok t (hof.subset (List.mem_filter.1 ht).1)
  have hsm := fold_sm (fold_sm h1 _ (fun t ht => (hok1 t ht).1)) _ (fun t ht => (hok2 t ht).1)
  have hl := hb.last
  have hle := hb.len
  refine ⟨⟨hb.std, hsm.wide (by omega), hb.last, hb.made, hb.file, ?_, fun t ht => hb.ok t (hof.subset (List.mem_filter.1 ht).1), hb.calm, by simp only [Dsk.settled]; omega⟩, ⟨_, hsm, by simp only [Dsk.settled]; omega⟩, he.settled hb f⟩
  exact filed_fold _ hok2 _ (filed_fold _ hok1 _ hb.filed)

theorem Bl.sync (h : Bl d K) (s : ByteArray) : Bl (d.sync s).2 K := by
  unfold Dsk.sync
  rw [h.bd.begin]
  split
  · exact h
  · split
    · exact h
    · exact h.settled _

theorem Bl.sync_ok (h : Bl d K) {s : ByteArray} (hs : d.find s ≠ 0) : (d.sync s).1 = 0 ∧ (d.sync s).2 = d.settled (d.find s) := by
  unfold Dsk.sync
  rw [h.bd.begin, if_neg hs]
  simp

theorem Bl.named (h : Bl d K) : Bl d.named K := by
  obtain ⟨D, h1, h2⟩ := h.ex
  have he := h.even
  have hb := h.bd
  have l1 := (mix_names (nms d.l).length d.l he.late).length
  rw [List.take_length] at l1
  have hof := offN_sub (nms d.l).length d.l
  have hok1 : ∀ t ∈ nms d.l, t.Ok ∧ t.file ≤ d.made := fun t ht => hb.ok t (List.mem_filter.1 ht).1
  have hsm := fold_sm h1 _ (fun t ht => (hok1 t ht).1)
  have hl := hb.last
  have hle := hb.len
  exact ⟨⟨hb.std, hsm.wide (by omega), hb.last, hb.made, hb.file, filed_fold _ hok1 _ hb.filed, fun t ht => hb.ok t (hof.subset ht), hb.calm, by simp only [Dsk.named]; omega⟩, ⟨_, hsm, by simp only [Dsk.named]; omega⟩, he.named hb⟩

/-! ### The same names and rows are told the same -/

theorem perm_of_mem {α : Type} [DecidableEq α] : ∀ (l m : List α), l.Nodup → m.Nodup → (∀ x, x ∈ l ↔ x ∈ m) → l.Perm m := by
  intro l
  induction l with
  | nil =>
    intro m _ _ h
    cases m with
    | nil => exact .nil
    | cons y m => exact absurd ((h y).2 (by simp)) (by simp)
  | cons x l ih =>
    intro m hl hm h
    have hx : x ∈ m := (h x).1 (by simp)
    obtain ⟨hx1, hx2⟩ := List.nodup_cons.1 hl
    have hp := List.perm_cons_erase hx
    have hm2 : (x :: m.erase x).Nodup := hp.nodup_iff.1 hm
    obtain ⟨hm3, hm4⟩ := List.nodup_cons.1 hm2
    refine (List.Perm.cons x (ih (m.erase x) hx2 hm4 (fun y => ?_))).trans hp.symm
    by_cases hy : y = x
    · subst hy
      exact ⟨fun h => absurd h hx1, fun h => absurd h hm3⟩
    · constructor
      · intro h1
        exact (List.mem_erase_of_ne hy).2 ((h y).1 (by simp [h1]))
      · intro h1
        have := (h y).2 ((List.mem_erase_of_ne hy).1 h1)
        rcases List.mem_cons.1 this with e | e
        · exact absurd e hy
        · exact e

theorem mem_key {nm : List (List UInt8 × Int)} (x : List UInt8) : x ∈ nm.map (·.1) ↔ lk nm x ≠ none := by
  constructor
  · intro h e
    obtain ⟨p, hp, rfl⟩ := List.mem_map.1 h
    exact lk_none_iff.1 e p hp rfl
  · intro h
    cases hl : lk nm x with
    | none => exact absurd hl h
    | some f => exact List.mem_map.2 ⟨_, lk_mem hl, rfl⟩

theorem Eqv.sorted (h : Eqv d.std d'.std) (h1 : Un d.std.nm) (h2 : Un d'.std.nm) : d.sorted = d'.sorted := by
  refine mergeSort_of_perm (perm_of_mem _ _ (List.pairwise_map.2 h1) (List.pairwise_map.2 h2) (fun x => ?_))
  rw [mem_key, mem_key, h.nm]

theorem Eqv.all (h : Eqv d.std d'.std) (h1 : Un d.std.nm) (h2 : Un d'.std.nm) : d.all = d'.all := by
  unfold Dsk.all
  rw [h.sorted h1 h2]
  have e : d.pair = d'.pair := by
    funext x
    unfold Dsk.pair Dsk.bytes Dsk.find
    rw [h.nm, h.rw]
  rw [e]

theorem Eqv.short (h : Eqv d.std d'.std) (hs : Short d.std) : Short d'.std := fun p hp => by
  have h1 : p.1 ∈ d'.std.nm.map (·.1) := List.mem_map.2 ⟨p, hp, rfl⟩
  rw [mem_key, ← h.nm, ← mem_key] at h1
  obtain ⟨q, hq, e⟩ := List.mem_map.1 h1
  rw [← e]
  exact hs q hq
end

section
variable {w W V : World} {R R1 R2 R3 : Nat} {d d1 d2 d3 : Dsk} {vs : List Value}

theorem Ax.un (h : Ax w vs R d W) : Un d.std.nm := by
  obtain ⟨L, ⟨o, a1, a2⟩, _⟩ := h
  exact a1.std.nm.un

/-- Three disks that were made since w, none of which has a block of another one's, and rows that are of none. -/
def Thr (w : World) (vs : List Value) (R1 : Nat) (d1 : Dsk) (R2 : Nat) (d2 : Dsk) (R3 : Nat) (d3 : Dsk) (W : World) : Prop :=
  ∃ L1 L2 L3, (Dk W L1 R1 d1 ∧ Dk W L2 R2 d2 ∧ Dk W L3 R3 d3) ∧ (∀ g, g < w.heap.size → L1 g = (0, 0) ∧ L2 g = (0, 0) ∧ L3 g = (0, 0)) ∧ (∀ v ∈ vs, ∀ g, v.ownBlock = some g → g < W.heap.size ∧ L1 g = (0, 0) ∧ L2 g = (0, 0) ∧ L3 g = (0, 0)) ∧
    ((∀ g, TD (L1 g) → ¬ TD (L2 g)) ∧ (∀ g, TD (L2 g) → ¬ TD (L3 g)) ∧ (∀ g, TD (L3 g) → ¬ TD (L1 g))) ∧ Tb (fun _ => False) w W

theorem Thr.rot (h : Thr w vs R1 d1 R2 d2 R3 d3 W) : Thr w vs R2 d2 R3 d3 R1 d1 W := by
  obtain ⟨L1, L2, L3, ⟨a1, a2, a3⟩, b, c, ⟨e1, e2, e3⟩, f⟩ := h
  exact ⟨L2, L3, L1, ⟨a2, a3, a1⟩, fun g hg => ⟨(b g hg).2.1, (b g hg).2.2, (b g hg).1⟩, fun v hv g hg => ⟨(c v hv g hg).1, (c v hv g hg).2.2.1, (c v hv g hg).2.2.2, (c v hv g hg).2.1⟩, ⟨e2, e3, e1⟩, f⟩

theorem Thr.first (h : Thr w vs R1 d1 R2 d2 R3 d3 W) : Ax w vs R1 d1 W := by
  obtain ⟨L1, L2, L3, ⟨a1, a2, a3⟩, b, c, e, f⟩ := h
  exact ⟨L1, a1, fun g hg => (b g hg).1, fun v hv g hg => ⟨(c v hv g hg).1, (c v hv g hg).2.1⟩, f⟩

theorem Thr.tb (h : Thr w vs R1 d1 R2 d2 R3 d3 W) : Tb (fun _ => False) w W := by
  obtain ⟨L1, L2, L3, _, _, _, _, f⟩ := h
  exact f

theorem Thr.on (h : Thr w vs R1 d1 R2 d2 R3 d3 W) (hb : Tb (fun _ => False) W V) : ∃ L1 L2 L3, (Dk V L1 R1 d1 ∧ Dk V L2 R2 d2 ∧ Dk V L3 R3 d3) ∧ (∀ g, g < w.heap.size → L1 g = (0, 0) ∧ L2 g = (0, 0) ∧ L3 g = (0, 0)) ∧ (∀ v ∈ vs, ∀ g, v.ownBlock = some g → g < V.heap.size ∧ L1 g = (0, 0) ∧ L2 g = (0, 0) ∧ L3 g = (0, 0)) ∧
    ((∀ g, TD (L1 g) → ¬ TD (L2 g)) ∧ (∀ g, TD (L2 g) → ¬ TD (L3 g)) ∧ (∀ g, TD (L3 g) → ¬ TD (L1 g))) ∧ (∀ g, W.heap.size ≤ g → L1 g = (0, 0) ∧ L2 g = (0, 0) ∧ L3 g = (0, 0)) ∧ Tb (fun _ => False) w V := by
  obtain ⟨L1, L2, L3, ⟨a1, a2, a3⟩, b, c, ⟨e1, e2, e3⟩, f⟩ := h
  have key : ∀ (L M : Lb), (∀ g, TD (L g) → ¬ TD (M g)) → ∀ g, TD (onlyL W L g) → ¬ TD (onlyL W M g) := fun L M h g h1 h2 => by
    rcases Nat.lt_or_ge g W.heap.size with hg | hg
    · rw [onlyL_lx W L g hg] at h1
      rw [onlyL_lx W M g hg] at h2
      exact h g h1 h2
    · rw [onlyL_new hg] at h2
      exact notTD0 h2
  refine ⟨onlyL W L1, onlyL W L2, onlyL W L3, ⟨a1.tb hb (onlyL_lx _ _) (fun _ _ h => h), a2.tb hb (onlyL_lx _ _) (fun _ _ h => h), a3.tb hb (onlyL_lx _ _) (fun _ _ h => h)⟩, fun g hg => ?_, fun v hv g hg => ?_, ⟨key _ _ e1, key _ _ e2, key _ _ e3⟩, fun g hg => ⟨onlyL_new hg, onlyL_new hg, onlyL_new hg⟩, f.trans hb (fun _ _ h => h)⟩
  · have hW := Nat.lt_of_lt_of_le hg f.size
    rw [onlyL_lx W L1 g hW, onlyL_lx W L2 g hW, onlyL_lx W L3 g hW]
    exact b g hg
  · have := c v hv g hg
    rw [onlyL_lx W L1 g this.1, onlyL_lx W L2 g this.1, onlyL_lx W L3 g this.1]
    exact ⟨Nat.lt_of_lt_of_le this.1 hb.size, this.2⟩

theorem Thr.kept (h : Thr w vs R1 d1 R2 d2 R3 d3 W) (hb : Tb (fun _ => False) W V) : Thr w vs R1 d1 R2 d2 R3 d3 V := by
  obtain ⟨L1, L2, L3, a, b, c, e, _, f⟩ := h.on hb
  exact ⟨L1, L2, L3, a, b, c, e, f⟩

theorem Thr.with {v : Value} {size n : Nat} {e : TypeId} {xs : List Value} (h : Thr w vs R1 d1 R2 d2 R3 d3 W) (hb : Tb (fun _ => False) W V) (ho : V.ownsRow W.heap.size e size v n xs) : Thr w (v :: vs) R1 d1 R2 d2 R3 d3 V := by
  obtain ⟨L1, L2, L3, a, b, c, e, z, f⟩ := h.on hb
  refine ⟨L1, L2, L3, a, b, fun u hu g hg => ?_, e, f⟩
  rcases List.mem_cons.1 hu with rfl | hu
  · exact ⟨row_lt ho hg, z g (ho.lt g hg).1⟩
  · exact c u hu g hg

/-- A third disk, in new memory. -/
theorem Two.thr (h : Two w vs R1 d1 R2 d2 W) (hc : Aw W R3 d3 V) : Thr w vs R1 d1 R2 d2 R3 d3 V := by
  obtain ⟨L3, c1, c2, c3⟩ := hc
  obtain ⟨L1, L2, a1, a2, a3, a4, a5, a6⟩ := h
  have hw := a6.size
  refine ⟨onlyL W L1, onlyL W L2, L3, ⟨a1.tb c3 (onlyL_lx _ _) (fun _ _ h => h), a2.tb c3 (onlyL_lx _ _) (fun _ _ h => h), c1⟩, fun g hg => ?_, fun v hv g hg => ?_, ⟨fun g h1 h2 => ?_, fun g h1 h2 => ?_, fun g h1 h2 => ?_⟩, a6.trans c3 (fun _ _ h => h)⟩
  · have hW := Nat.lt_of_lt_of_le hg hw
    rw [onlyL_lx W L1 g hW, onlyL_lx W L2 g hW]
    exact ⟨(a3 g hg).1, (a3 g hg).2, c2 g hW⟩
  · have := a4 v hv g hg
    rw [onlyL_lx W L1 g this.1, onlyL_lx W L2 g this.1]
    exact ⟨Nat.lt_of_lt_of_le this.1 c3.size, this.2.1, this.2.2, c2 g this.1⟩
  · rcases Nat.lt_or_ge g W.heap.size with hg | hg
    · rw [onlyL_lx W L1 g hg] at h1
      rw [onlyL_lx W L2 g hg] at h2
      exact a5 g h1 h2
    · rw [onlyL_new hg] at h1
      exact notTD0 h1
  · rcases Nat.lt_or_ge g W.heap.size with hg | hg
    · rw [c2 g hg] at h2
      exact notTD0 h2
    · rw [onlyL_new hg] at h1
      exact notTD0 h1
  · rcases Nat.lt_or_ge g W.heap.size with hg | hg
    · rw [c2 g hg] at h1
      exact notTD0 h1
    · rw [onlyL_new hg] at h2
      exact notTD0 h2

/-- A call on the first keeps the others. -/
theorem Thr.step {L1 L2 L3 L1' : Lb} {d' : Dsk} (a2 : Dk W L2 R2 d2) (a3 : Dk W L3 R3 d3) (b : ∀ g, g < w.heap.size → L1 g = (0, 0) ∧ L2 g = (0, 0) ∧ L3 g = (0, 0)) (c : ∀ v ∈ vs, ∀ g, v.ownBlock = some g → g < W.heap.size ∧ L1 g = (0, 0) ∧ L2 g = (0, 0) ∧ L3 g = (0, 0))
    (e : (∀ g, TD (L1 g) → ¬ TD (L2 g)) ∧ (∀ g, TD (L2 g) → ¬ TD (L3 g)) ∧ (∀ g, TD (L3 g) → ¬ TD (L1 g))) (f : Tb (fun _ => False) w W) (hl : Lx W L1 L1') (hd : Dk V L1' R1 d') (ht : Tl L1 TD W V) : Thr w vs R1 d' R2 d2 R3 d3 V ∧ Kr vs W V := by
  obtain ⟨e1, e2, e3⟩ := e
  refine ⟨⟨L1', onlyL W L2, onlyL W L3, ⟨hd, a2.tb ht (onlyL_lx _ _) (fun g h2 h1 => e1 g h1 h2), a3.tb ht (onlyL_lx _ _) (fun g h3 h1 => e3 g h3 h1)⟩, fun g hg => ?_, fun v hv g hg => ?_, ⟨fun g h1 h2 => ?_, fun g h1 h2 => ?_, fun g h1 h2 => ?_⟩, Tb.trans f ht (fun i hi h => ?_)⟩, fun v hv base size n et xs ho => ?_⟩
  · have hW := Nat.lt_of_lt_of_le hg f.size
    rw [hl g hW, onlyL_lx W L2 g hW, onlyL_lx W L3 g hW]
    exact b g hg
  · have := c v hv g hg
    rw [hl g this.1, onlyL_lx W L2 g this.1, onlyL_lx W L3 g this.1]
    exact ⟨Nat.lt_of_lt_of_le this.1 ht.size, this.2⟩
  · rcases Nat.lt_or_ge g W.heap.size with hg | hg
    · rw [hl g hg] at h1
      rw [onlyL_lx W L2 g hg] at h2
      exact e1 g h1 h2
    · rw [onlyL_new hg] at h2
      exact notTD0 h2
  · rcases Nat.lt_or_ge g W.heap.size with hg | hg
    · rw [onlyL_lx W L2 g hg] at h1
      rw [onlyL_lx W L3 g hg] at h2
      exact e2 g h1 h2
    · rw [onlyL_new hg] at h2
      exact notTD0 h2
  · rcases Nat.lt_or_ge g W.heap.size with hg | hg
    · rw [onlyL_lx W L3 g hg] at h1
      rw [hl g hg] at h2
      exact e3 g h1 h2
    · rw [onlyL_new hg] at h1
      exact notTD0 h1
  · rw [(b i hi).1] at h
    exact notTD0 h
  · exact row_tb ho ht (fun g hg h => by rw [(c v hv g hg).2.1] at h; exact notTD0 h)

theorem thr_sync {K : Nat} {s : ByteArray} (h : Thr w vs R1 d1 R2 d2 R3 d3 W) (hb : Bl d1 K) (hK : K < 800000) (hs : s.size ≤ 64) (h0 : d1.find s ≠ 0) :
    Calls Try.prog 15 #[.pointer (some ⟨R1, 0, none⟩), .string s] W fun e w' => e = .returned (.int .i64 0) ∧ Thr w vs R1 (d1.settled (d1.find s)) R2 d2 R3 d3 w' ∧ Kr vs W w' := by
  obtain ⟨L1, L2, L3, ⟨⟨o, a1, q1⟩, a2, a3⟩, b, c, e, f⟩ := h
  have hf := hb.bd.few (by omega)
  have hk := hf.k
  have C := sync_go (s := s) a1 q1 hf.std hf.dur (by omega) hf.last (by omega) h0
  rw [(hb.sync_ok h0).1, (hb.sync_ok h0).2] at C
  refine C.mono ?_
  rintro e w' ⟨rfl, L', b1, b2, b3⟩
  exact ⟨rfl, Thr.step a2 a3 b c e f b1 b2 b3⟩

theorem thr_syncNames {K : Nat} (h : Thr w vs R1 d1 R2 d2 R3 d3 W) (hb : Bl d1 K) (hK : K < 800000) :
    Calls Try.prog 21 #[.pointer (some ⟨R1, 0, none⟩)] W fun e w' => e = .returned (.int .i64 0) ∧ Thr w vs R1 d1.named R2 d2 R3 d3 w' ∧ Kr vs W w' := by
  obtain ⟨L1, L2, L3, ⟨⟨o, a1, q1⟩, a2, a3⟩, b, c, e, f⟩ := h
  have hf := hb.bd.few (by omega)
  have hk := hf.k
  have C := syncNames_go a1 q1 hf.dur (by omega) hf.last
  rw [hb.bd.syncNames] at C
  refine C.mono ?_
  rintro e w' ⟨rfl, L', b1, b2, b3⟩
  exact ⟨rfl, Thr.step a2 a3 b c e f b1 b2 b3⟩

theorem thr_crash {K : Nat} {p : Option Addr} {m cap : Nat} {ks : List Bool} (h : Thr w vs R1 d1 R2 d2 R3 d3 W) (hb : Bl d1 K) (hK : K < 800000) (hks : ks.length = m) (hcap : m ≤ cap ∧ cap ≤ 9223372036854775807) (hp : Kp W p ks) (hz : ∀ a, ks ≠ [] → p = some a → a.block < w.heap.size ∨ ∃ v ∈ vs, v.ownBlock = some a.block) :
    Calls Try.prog 12 #[.pointer (some ⟨R1, 0, none⟩), .slice p m cap] W fun e w' => e = .returned (.int .i64 0) ∧ Thr w vs R1 (d1.crash ks) R2 d2 R3 d3 w' ∧ Kr vs W w' := by
  obtain ⟨L1, L2, L3, ⟨⟨o, a1, q1⟩, a2, a3⟩, b, c, e, f⟩ := h
  have hf := hb.bd.few (by omega)
  have hk := hf.k
  have hl := hf.last
  have hw := f.size
  have hlab : ∀ a, ks ≠ [] → p = some a → a.block < W.heap.size ∧ L1 a.block = (0, 0) := fun a hne ha => by
    rcases hz a hne ha with h1 | ⟨v, hv, h1⟩
    · exact ⟨by omega, (b _ h1).1⟩
    · exact ⟨(c v hv _ h1).1, (c v hv _ h1).2.1⟩
  refine (crash_any a1 (by rw [q1.last]; omega) hf.dur (by omega) hks hcap hp (fun a hne ha => ?_) (fun a hne ha => (hlab a hne ha).1)).mono ?_
  · rw [(hlab a hne ha).2]
    unfold TA
    simp
  · rintro e' w' ⟨rfl, L', sn, sr, us, b1, b2, b3⟩
    exact ⟨rfl, Thr.step a2 a3 b c e f b1 ⟨_, b2, ⟨rfl, q1.made, rfl, rfl, rfl, q1.failure⟩⟩ b3⟩

theorem thr_pending {K : Nat} (h : Thr w vs R1 d1 R2 d2 R3 d3 W) (hb : Bl d1 K) (hK : K < 800000) :
    Calls Try.prog 11 #[.pointer (some ⟨R1, 0, none⟩)] W fun e w' => e = .returned (.int .i64 d1.l.length) ∧ Tb (fun _ => False) W w' := by
  obtain ⟨L1, L2, L3, ⟨⟨o, a1, q1⟩, a2, a3⟩, b, c, e, f⟩ := h
  have hf := hb.bd.few (by omega)
  have hl := hf.last
  exact pending_any a1 (by rw [q1.last]; omega)

theorem two_copy {K : Nat} (h : Two w vs R1 d1 R2 d2 W) (hb : Bd d1 K) (hK : K < 800000) :
    Calls Try.prog 17 #[.pointer (some ⟨R1, 0, none⟩)] W fun e w' => ∃ R3, e = .returned (.pointer (some ⟨R3, 0, none⟩)) ∧ Thr w vs R1 d1 R2 d2 R3 d1 w' ∧ Kr vs W w' := by
  have h' := h
  obtain ⟨L1, L2, a1, a2, a3, a4, a5, a6⟩ := h
  refine (copy_any a1 (hb.few (by omega))).mono ?_
  rintro e w' ⟨R3, rfl, hR, hA⟩
  have hA' := hA
  obtain ⟨L3, c1, c2, c3⟩ := hA
  exact ⟨R3, rfl, h'.thr hA', Kr.fresh c3⟩
end

end Go.Proofs.Ytikhgjnjlkaobaa

/-
  Texts put into one.
-/
import Derived.Test.YtnimfkcnkkjlkaaPkd6b74377
import Derived.Test.YtnimfkcnkkjlkaaPk327b768e
import Derived.Test.YtnimfkcnkkjlkaaPkd164c265
import Derived.Test.YtnimfkcnkkjlkaaPkcd932d5b
import Derived.Test.YtnimfkcnkkjlkaaPke73b9e83

/-
  WireCommands, walked.
-/
namespace Go.Proofs.Ytnimfkcnkkjlkaa
open Go.RowKit
set_option maxRecDepth 100000

/-- What a Put answers: the bytes, or none; the error. -/
def ans (most : Nat) (zs : List Int) : List Int := if zs.length ≤ most then zs else []
def ero (most : Nat) (zs : List Int) : Int := if zs.length ≤ most then 0 else 3

theorem Pq.ans {w w' : World} {most : Nat} {zs : List Int} {e : Ending} (h : Pq w most zs e w') (hb : ∀ z ∈ zs, 0 ≤ z ∧ z ≤ 255) : ∃ c m d, e = .returned (.tuple #[.slice c m d, .int .i64 (ero most zs)]) ∧ Bs w' c m d (ans most zs) ∧ Below w.heap.size w w' := by
  unfold ero Go.Proofs.Ytnimfkcnkkjlkaa.ans
  rcases h.2 with ⟨h0, c, d, h1, h2⟩ | ⟨h0, h1⟩
  · rw [if_pos h0, if_pos h0]
    exact ⟨c, _, d, h1, own_bs h2 hb, h.1⟩
  · rw [if_neg (by omega), if_neg (by omega)]
    exact ⟨none, 0, 0, h1, Bs.nil _, h.1⟩

/-- The document's Put of bytes that were put together. -/
theorem rput_ans {W : World} {base : Nat} (v : Value) (zs : List Int) (hb : ∀ z ∈ zs, 0 ≤ z ∧ z ≤ 255) (hO : W.ownsRow base 5 1 v zs.length (U zs)) (m : Nat) :
    Calls Try.prog 14 #[v, .int .i64 (m : Int)] W fun e w' => ∃ c k d, e = .returned (.tuple #[.slice c k d, .int .i64 (ero m zs)]) ∧ Bs W c k d (ans m zs) ∧ w' = W := by
  refine (rput_any v zs hO m).mono ?_
  rintro e w' ⟨rfl, rfl⟩
  unfold ero ans
  by_cases h : zs.length ≤ m
  · obtain ⟨a, d, rfl⟩ := own_val hO
    rw [if_pos h, if_pos h, if_pos (by omega), if_pos (by omega)]
    exact ⟨a, _, d, rfl, own_bs hO hb, rfl⟩
  · rw [if_neg h, if_neg h, if_neg (by omega), if_neg (by omega)]
    exact ⟨none, 0, 0, rfl, Bs.nil _, rfl⟩

namespace wireCommands

set_option maxHeartbeats 4000000 in
theorem walk (x : Cod.PartC) (cs : List Value) (y : Cod.MetaC) (ds : List Value) (w : World) (hx : APartC w x cs) (hy : AMetaC w y ds) (hbx : ∀ z ∈ Cod.thing Cod.part 1 x, 0 ≤ z ∧ z ≤ 255) (hby : ∀ z ∈ Cod.thing Cod.meta' 2 y, 0 ≤ z ∧ z ≤ 255)
    (hrx : (Cod.thing Cod.part 1 x).length ≤ 140737488355328) (hry : (Cod.thing Cod.meta' 2 y).length ≤ 140737488355328) :
    Calls Try.prog 4 #[.agg cs.toArray, .agg ds.toArray] w fun e w' => e = .returned (.bool true) ∧ Below w.heap.size w w' := by
  have hl1 := hx.len
  have hl2 := hy.len
  have hi1 : (Try.prog.info? (28 : TypeId)).map (·.size) = some cs.toArray.size := by rw [List.size_toArray, hl1]; kernel_rfl
  have hi2 : (Try.prog.info? (37 : TypeId)).map (·.size) = some ds.toArray.size := by rw [List.size_toArray, hl2]; kernel_rfl
  have hX : ∀ V, Below w.heap.size w V → APartC V x cs := fun V h => APartC.a _ _ _ _ h hx
  have hY : ∀ V, Below w.heap.size w V → AMetaC V y ds := fun V h => AMetaC.a _ _ _ _ h hy
  have HX := hide hX
  have HY := hide hY
  have hbo := boxes2r w (.cells cs.toArray (28 : TypeId)) (.cells ds.toArray (37 : TypeId))
  obtain ⟨W0, HW⟩ : ∃ W0, Hid (W0 = (w.alloc (.cells cs.toArray (28 : TypeId))).alloc (.cells ds.toArray (37 : TypeId))) := ⟨_, hide rfl⟩
  have hb0 : Below w.heap.size w W0 := by rw [HW.out]; exact (fresh w _).alloc (by simp) _
  have hs0 : w.heap.size + 2 = W0.heap.size := by rw [HW.out]; simp
  rw [← HW.out] at hbo
  have HB : Hid (∀ V, Below W0.heap.size W0 V → V.heap[w.heap.size]? = some (.cells cs.toArray (28 : TypeId) (0, 0)) ∧ V.heap[w.heap.size + 1]? = some (.cells ds.toArray (37 : TypeId) (0, 0))) :=
    hide fun V h => ⟨(h.block _ (by omega)).trans hbo.1, (h.block _ (by omega)).trans hbo.2⟩
  obtain ⟨g1, g2⟩ := hbo
  have g1' := g1
  have g2' := g2
  rw [HW.out] at g1' g2'
  clear hX hY hx hy
  have HP0 := hide (HX.out W0 hb0).put
  rw [HW.out] at HP0
  go_enter Try.func4, Try.ntmps4
  go_wp2_with (refine wpList_load_row rfl (28 : TypeId) _ rfl w.heap.size rfl (28 : TypeId) _ (0, 0) _ g1' Try.underlying28 rfl hi1 ?_)
  refine HP0.out.mono ?_
  intro e w1 hp
  rw [← HW.out] at hp
  obtain ⟨c1, m1, d1, rfl, hB1, hb1⟩ := hp.ans hbx
  clear hp HP0 g1' g2' g1 g2
  have hq1 := hb0.trans (hb1.mono (by omega))
  obtain ⟨g1, g2⟩ := HB.out w1 hb1
  go_wp2_with (refine wpList_load_row rfl (28 : TypeId) _ rfl w.heap.size rfl (28 : TypeId) _ (0, 0) _ g1 Try.underlying28 rfl hi1 ?_)
  refine ((HX.out w1 hq1).ref hrx).mono ?_
  rintro e w2 ⟨v2, rfl, ho2, hb2⟩
  have hB2 := hB1.keep hb2
  have hb02 := hb1.trans (hb2.mono hb1.size)
  have hq2 := hb0.trans (hb02.mono (by omega))
  go_wp2_with fail
  refine (rput_ans v2 _ hbx ho2 60000).mono ?_
  rintro e w3 ⟨c2, m2, d2, rfl, hC2, rfl⟩
  clear g1 g2 hq1 hB1 hb1 hb2
  obtain ⟨g1, g2⟩ := HB.out w3 hb02
  go_wp2_with (refine wpList_load_row rfl (37 : TypeId) _ rfl (w.heap.size + 1) rfl (37 : TypeId) _ (0, 0) _ g2 Try.underlying37 rfl hi2 ?_)
  refine (HY.out w3 hq2).put.mono ?_
  intro e w4 hp
  obtain ⟨c4, m4, d4, rfl, hB4, hb4⟩ := hp.ans hby
  clear hp g1 g2
  have hB24 := hB2.keep hb4
  have hC24 := hC2.keep hb4
  have hb04 := hb02.trans (hb4.mono hb02.size)
  have hq4 := hb0.trans (hb04.mono (by omega))
  obtain ⟨g1, g2⟩ := HB.out w4 hb04
  clear hB2 hC2 hb02 hq2 hb4
  go_wp2_with (refine wpList_load_row rfl (37 : TypeId) _ rfl (w.heap.size + 1) rfl (37 : TypeId) _ (0, 0) _ g2 Try.underlying37 rfl hi2 ?_)
  refine ((HY.out w4 hq4).ref hry).mono ?_
  rintro e w5 ⟨v5, rfl, ho5, hb5⟩
  have hB25 := hB24.keep hb5
  have hC25 := hC24.keep hb5
  have hB5 := hB4.keep hb5
  have hq5 : Below w.heap.size w w5 := hq4.trans (hb5.mono hq4.size)
  go_wp2_with fail
  refine (rput_ans v5 _ hby ho5 60000).mono ?_
  rintro e w6 ⟨c6, m6, d6, rfl, hC6, rfl⟩
  have HQ := hide hq5
  clear g1 g2 hb5 hq4 hb04 hB24 hC24 hB4 ho5 ho2 HB HX HY hq5
  generalize ero 60000 (Cod.thing Cod.part 1 x) = E1
  generalize ero 60000 (Cod.thing Cod.meta' 2 y) = E2
  have hE1 : (E1 == E1) = true := by simp
  have hE2 : (E2 == E2) = true := by simp
  go_wp2_with fail
  refine (same_true rfl hB25 hC25).mono ?_
  rintro e w7 ⟨rfl, rfl⟩
  go_wp2_with fail
  refine (same_true rfl hB5 hC6).mono ?_
  rintro e w8 ⟨rfl, rfl⟩
  go_wp2_with fail
  refine (awake_any _).mono ?_
  rintro e w9 ⟨rfl, hb9⟩
  have HE := hide (HQ.out.trans (hb9.mono HQ.out.size))
  clear hb9
  go_wp2_with fail
  go_ret
  exact ⟨rfl, HE.out⟩

end wireCommands
end Go.Proofs.Ytnimfkcnkkjlkaa

/-
  Plain facts for WireNumbers: lengths of fixed things, rows that are made one behind the other.
-/
namespace Go.Proofs.Ytnimfkcnkkjlkaa.wireNumbers
open Go.RowKit
set_option maxRecDepth 100000
set_option linter.unusedVariables false

theorem four (V : World) (o0 o1 o2 o3 : Obj) : ((((V.alloc o0).alloc o1).alloc o2).alloc o3).drew.heap[V.heap.size]? = some o0 ∧ ((((V.alloc o0).alloc o1).alloc o2).alloc o3).drew.heap[V.heap.size + 1]? = some o1 ∧ ((((V.alloc o0).alloc o1).alloc o2).alloc o3).drew.heap[V.heap.size + 1 + 1]? = some o2 ∧ ((((V.alloc o0).alloc o1).alloc o2).alloc o3).drew.heap[V.heap.size + 1 + 1 + 1]? = some o3 ∧ Below V.heap.size V ((((V.alloc o0).alloc o1).alloc o2).alloc o3).drew := by
  have h0 := heap_alloc_new V o0
  have h1 := heap_alloc_new (V.alloc o0) o1
  have h2 := heap_alloc_new ((V.alloc o0).alloc o1) o2
  have h3 := heap_alloc_new (((V.alloc o0).alloc o1).alloc o2) o3
  simp only [World.size_alloc] at h1 h2 h3
  refine ⟨?_, ?_, ?_, h3, ((((fresh V _).alloc (by simp) _).alloc (by simp <;> omega) _).alloc (by simp <;> omega) _).drew⟩
  · exact (Below.heap_alloc _ _ _ (by simp <;> omega)).trans ((Below.heap_alloc _ _ _ (by simp <;> omega)).trans ((Below.heap_alloc _ _ _ (by simp)).trans h0))
  · exact (Below.heap_alloc _ _ _ (by simp <;> omega)).trans ((Below.heap_alloc _ _ _ (by simp)).trans h1)
  · exact (Below.heap_alloc _ _ _ (by simp)).trans h2

theorem three (V : World) (o0 o1 o2 : Obj) : (((V.alloc o0).alloc o1).alloc o2).heap[V.heap.size]? = some o0 ∧ (((V.alloc o0).alloc o1).alloc o2).heap[V.heap.size + 1]? = some o1 ∧ (((V.alloc o0).alloc o1).alloc o2).heap[V.heap.size + 1 + 1]? = some o2 ∧ Below V.heap.size V (((V.alloc o0).alloc o1).alloc o2) := by
  have h0 := heap_alloc_new V o0
  have h1 := heap_alloc_new (V.alloc o0) o1
  have h2 := heap_alloc_new ((V.alloc o0).alloc o1) o2
  simp only [World.size_alloc] at h1 h2
  exact ⟨(Below.heap_alloc _ _ _ (by simp <;> omega)).trans ((Below.heap_alloc _ _ _ (by simp)).trans h0), (Below.heap_alloc _ _ _ (by simp)).trans h1, h2, ((fresh V _).alloc (by simp) _).alloc (by simp <;> omega) _⟩

theorem threed (V : World) (o0 o1 o2 : Obj) : (((V.alloc o0).alloc o1).alloc o2).drew.heap[V.heap.size]? = some o0 ∧ (((V.alloc o0).alloc o1).alloc o2).drew.heap[V.heap.size + 1]? = some o1 ∧ (((V.alloc o0).alloc o1).alloc o2).drew.heap[V.heap.size + 1 + 1]? = some o2 ∧ Below V.heap.size V (((V.alloc o0).alloc o1).alloc o2).drew :=
  ⟨(three V o0 o1 o2).1, (three V o0 o1 o2).2.1, (three V o0 o1 o2).2.2.1, (three V o0 o1 o2).2.2.2.drew⟩

theorem len1 {n : Nat} (h : n < 128) : (vb n).length = 1 := by rw [vb_lt h]; rfl
theorem len2 {n : Nat} (h1 : 128 ≤ n) (h2 : n < 16384) : (vb n).length = 2 := by rw [vb_ge h1, List.length_cons, len1 (by omega)]
theorem len3 {n : Nat} (h1 : 16384 ≤ n) (h2 : n < 2097152) : (vb n).length = 3 := by rw [vb_ge (by omega), List.length_cons, len2 (by omega) (by omega)]

abbrev long (d : Nat) : Cod.Raft := ⟨sb ⟨#[]⟩, 0, 0, 0, 0, 0, 0, 0, 0, false, [⟨1, List.replicate d 0⟩], List.replicate 60000 0⟩

theorem zs_byte (n : Nat) : ∀ z ∈ List.replicate n (0 : Int), 0 ≤ z ∧ z ≤ 255 := fun z hz => by have := List.eq_of_mem_replicate hz; omega

theorem long_len (d : Nat) (h1 : 128 ≤ d) (h2 : d < 16384) : (Cod.thing Cod.raft 7 (long d)).length = 60018 + d := by
  have e : Cod.thing Cod.raft 7 (long d) = 7 :: (Cod.data.put (sb ⟨#[]⟩) ++ (Cod.u8.put 0 ++ (Cod.i64.put 0 ++ (Cod.i64.put 0 ++ (Cod.i64.put 0 ++ (Cod.i64.put 0 ++ (Cod.i64.put 0 ++ (Cod.i64.put 0 ++ (Cod.i64.put 0 ++ (Cod.bool.put false ++ ((vb 1 ++ ((vb (fo 1) ++ Cod.data.put (List.replicate d 0)) ++ [])) ++ Cod.data.put (List.replicate 60000 0)))))))))))) := rfl
  have p0 : (Cod.data.put (sb ⟨#[]⟩)).length = 1 := by decide +kernel
  have p1 : (Cod.u8.put 0).length = 1 := by decide +kernel
  have p2 : (Cod.i64.put 0).length = 1 := by decide +kernel
  have p3 : (Cod.bool.put false).length = 1 := rfl
  have p4 : (vb (fo 1)).length = 1 := by decide +kernel
  have p5 : ∀ n, (Cod.data.put (List.replicate n (0 : Int))).length = (vb n).length + n := fun n => by simp [Cod.data]
  rw [e]
  simp only [List.length_cons, List.length_append, List.length_nil, p0, p1, p2, p3, p4, p5]
  rw [len1 (n := 1) (by omega), len2 h1 h2, len3 (n := 60000) (by omega) (by omega)]
  omega

theorem long_ok (d : Nat) (h2 : d < 16384) : Cod.raft.ok (long d) := by
  have hd : ∀ n, n < 70000 → Cod.data.ok (List.replicate n (0 : Int)) := fun n hn => ⟨zs_byte n, by rw [List.length_replicate]; omega⟩
  have h0 : Cod.data.ok (sb ⟨#[]⟩) := ⟨sb_byte _, by rw [sb_length]; decide⟩
  have i0 : Cod.i64.ok 0 := ⟨by omega, by omega⟩
  have i1 : Cod.i64.ok 1 := ⟨by omega, by omega⟩
  have u0 : Cod.u8.ok 0 := ⟨by omega, by omega⟩
  refine ⟨h0, u0, i0, i0, i0, i0, i0, i0, i0, trivial, ⟨by simp, fun a ha => ?_⟩, hd 60000 (by omega)⟩
  simp only [List.mem_singleton] at ha
  subst ha
  exact ⟨i1, hd d (by omega)⟩

theorem long_byte (d : Nat) (h2 : d < 16384) : ∀ z ∈ Cod.thing Cod.raft 7 (long d), 0 ≤ z ∧ z ≤ 255 := by
  intro z hz
  rcases List.mem_cons.1 hz with rfl | hz
  · omega
  · exact Cod.raft_law.byte _ (long_ok d h2) z hz

theorem long_got : Cod.got Cod.raft 7 65545 (Cod.thing Cod.raft 7 (long 5000)) = some (long 5000) :=
  (Cod.got_iff Cod.raft_law (long_byte 5000 (by omega)) _).2 ⟨long_ok 5000 (by omega), by rw [long_len 5000 (by omega) (by omega)]; omega, rfl⟩

theorem parts_len (l : List Nat) (hl : l.length < 128) : (Cod.thing Cod.parts 3 ⟨0, 0, l.map (fun n => List.replicate n (0 : Int)), []⟩).length = 5 + (l.map (fun n => (vb n).length + n)).sum := by
  have e : Cod.thing Cod.parts 3 ⟨0, 0, l.map (fun n => List.replicate n (0 : Int)), []⟩ = 3 :: (Cod.i64.put 0 ++ (Cod.i64.put 0 ++ ((vb (l.map (fun n => List.replicate n (0 : Int))).length ++ Cod.puts Cod.data (l.map (fun n => List.replicate n (0 : Int)))) ++ (vb 0 ++ [])))) := rfl
  have p2 : (Cod.i64.put 0).length = 1 := by decide +kernel
  have key : ∀ l : List Nat, (Cod.puts Cod.data (l.map (fun n => List.replicate n (0 : Int)))).length = (l.map (fun n => (vb n).length + n)).sum := by
    intro l
    induction l with
    | nil => rfl
    | cons n l ih =>
      simp only [List.map_cons, Cod.puts, List.length_append, ih, List.sum_cons]
      simp [Cod.data]
  rw [e]
  simp only [List.length_cons, List.length_append, List.length_nil, p2, key, List.length_map]
  rw [len1 hl, len1 (n := 0) (by omega)]
  omega

theorem none_short : Cod.got Cod.raft 7 65545 [7, 2, 97] = none := by
  have : (Cod.got Cod.raft 7 65545 [7, 2, 97]).isNone = true := by decide +kernel
  simpa using this
theorem none_bool : Cod.got Cod.raft 7 65545 [7, 0, 0, 0, 0, 0, 0, 0, 0, 0, 2, 0, 0] = none := by
  have : (Cod.got Cod.raft 7 65545 [7, 0, 0, 0, 0, 0, 0, 0, 0, 0, 2, 0, 0]).isNone = true := by decide +kernel
  simpa using this

theorem zeros_u8 (n : Nat) : (Builtin.zeroCells (Value.int .u8 0).cells n).toList = List.replicate n (.int .u8 0) := by
  have e : (Value.int .u8 0).cells = #[.int .u8 0] := rfl
  rw [e]
  simp only [Builtin.zeroCells, List.size_toArray, List.length_singleton, Nat.mul_one]
  apply List.ext_getElem
  · simp
  · intro i h1 h2
    simp [Nat.mod_one]

/-- A byte 7 with twelve noughts behind it, in a row of its own; one of them changed. -/
theorem seven_row (w : World) (g : Nat) (hg : w.heap[g]? = some (.cells #[.int .u8 7] 5 (0, 0))) : ∃ d W, (Builtin.append_ #[22, 3] 22 #[.slice (some ⟨g, 0, none⟩) 1 1, .int .i64 12]).run Try.prog w = .ok (.slice (some ⟨w.heap.size, 0, none⟩) 13 d) W ∧ Below w.heap.size w W ∧ 13 ≤ d ∧ W.cell? ⟨w.heap.size, 10, none⟩ = some (.int .u8 0) ∧ W.frozen? ⟨w.heap.size, 10, none⟩ = false ∧
    Bs (W.setCell ⟨w.heap.size, 10, none⟩ (.int .u8 2)) (some ⟨w.heap.size, 0, none⟩) 13 d [7, 0, 0, 0, 0, 0, 0, 0, 0, 0, 2, 0, 0] := by
  obtain ⟨i0, hi, hz0, hz1, hz2⟩ := info_parts info5
  have hold : (Builtin.firstCells i0.size 1 (.slice (some ⟨g, 0, none⟩) 1 1)).run Try.prog w.drew = .ok [Value.int .u8 7].toArray w.drew := by
    have hc : w.cell? ⟨g, 0, none⟩ = some (.int .u8 7) := by rw [cell_of_row w g 0 _ 5 (0, 0) hg]; rfl
    rw [hz1]
    simp [Builtin.firstCells, loadCells, loadCellsFrom, Addr.add_lit, hc]
  have hr := Lib.run_append_grow_zeros (P := Try.prog) w 22 3 22 5 i0 (.int .u8 0) .i64 .i64 Try.underlying22 Try.underlying3 hi hz0 (some ⟨g, 0, none⟩) 1 1 [.int .u8 7] hold 12 (by omega) (by omega) (by omega) (by omega) (by rw [hz2]; omega) (by
    rw [hz2]
    have := next_le (need := 1 + 12) (old := 1) (by omega)
    omega)
  have hge := grownCap_ge w (1 + 12) 1 5
  have hcm2 : grownCap w (1 + 12) 1 5 ≤ maxLen := grownCap_le_maxLen w (1 + 12) 1 5 (by unfold maxLen; omega)
  generalize grownCap w (1 + 12) 1 5 = cp at *
  have hh := heap_alloc_new w.drew (.cells ([Value.int .u8 7].toArray ++ Builtin.zeroCells (Value.int .u8 0).cells 12 ++ Builtin.zeroCells (Value.int .u8 0).cells (cp - (1 + 12))) 5)
  have ec : [Value.int .u8 7].toArray ++ Builtin.zeroCells (Value.int .u8 0).cells 12 ++ Builtin.zeroCells (Value.int .u8 0).cells (cp - (1 + 12)) = (U (([7, 0, 0, 0, 0, 0, 0, 0, 0, 0, 0, 0, 0] : List Int) ++ List.replicate (cp - 13) 0)).toArray := by
    apply Array.toList_inj.1
    rw [Array.toList_append, Array.toList_append, zeros_u8, zeros_u8]
    simp [U, List.replicate]
  rw [ec] at hh hr
  have hh : (w.drew.alloc (.cells (U (([7, 0, 0, 0, 0, 0, 0, 0, 0, 0, 0, 0, 0] : List Int) ++ List.replicate (cp - 13) 0)).toArray 5)).heap[w.heap.size]? = some (.cells (U (([7, 0, 0, 0, 0, 0, 0, 0, 0, 0, 0, 0, 0] : List Int) ++ List.replicate (cp - 13) 0)).toArray 5 (0, 0)) := hh
  refine ⟨cp, _, hr, ((Below.refl _ w).drew).alloc (Nat.le_refl _) _, by omega, ?_, ?_, ?_⟩
  · rw [cell_of_row _ _ 10 _ 5 (0, 0) hh]
    simp [U]
  · exact frozen_of_row _ _ 10 _ 5 hh
  · have hs := heap_set (i := 10) hh (.int .u8 2)
    refine Bs.own (cur := (U (([7, 0, 0, 0, 0, 0, 0, 0, 0, 0, 0, 0, 0] : List Int) ++ List.replicate (cp - 13) 0)).set 10 (.int .u8 2)) (t := 5) hs ?_ (by simp) (by omega) (by unfold maxLen at hcm2; omega) (fun z hz => ?_) ?_
    · simp [U]
      omega
    · simp only [List.mem_cons, List.not_mem_nil, or_false] at hz
      omega
    · simp [U]

/-- What is kept in variables till the end. -/
structure Fz (w : World) (p q : Nat) (rd rx : Array Value) (a : Option Addr) (n c : Nat) (V : World) : Prop where
  bel : Below w.heap.size w V
  d : V.heap[p]? = some (.cells rd (37 : TypeId) (0, 0))
  x : V.heap[q]? = some (.cells rx (45 : TypeId) (0, 0))
  s : Bs V a n c (List.replicate 60000 0)

theorem Fz.keep {w V V' : World} {p q : Nat} {rd rx : Array Value} {a : Option Addr} {n c : Nat} (h : Fz w p q rd rx a n c V) (hb : Below V.heap.size V V') : Fz w p q rd rx a n c V' :=
  ⟨h.bel.trans (hb.mono h.bel.size), (hb.block _ (hp_lt h.d)).trans h.d, (hb.block _ (hp_lt h.x)).trans h.x, h.s.keep hb⟩

theorem parts2 {W : World} {g h k na nb : Nat} {Za Zb : Array Value} (hk : W.heap[k]? = some (.cells #[.slice (some ⟨g, 0, none⟩) na na, .slice (some ⟨h, 0, none⟩) nb nb] (22 : TypeId) (0, 0))) (hg : W.heap[g]? = some (.cells Za 5 (0, 0))) (hh : W.heap[h]? = some (.cells Zb 5 (0, 0))) (hZa : Za = (U (List.replicate na 0)).toArray) (hZb : Zb = (U (List.replicate nb 0)).toArray) (ha : na ≤ 100000) (hb : nb ≤ 100000) :
    Calls Try.prog 10 #[.agg #[.int .i64 0, .int .i64 0, .slice (some ⟨k, 0, none⟩) 2 2, .slice none 0 0]] W (Pq W 60000 (Cod.thing Cod.parts 3 ⟨0, 0, [na, nb].map (fun n => List.replicate n (0 : Int)), []⟩)) := by
  have i0 : I64 0 := ⟨by omega, by omega⟩
  subst hZa hZb
  have hA : Bs W (some ⟨g, 0, none⟩) na na (List.replicate na 0) := Bs.row hg List.length_replicate (by omega) (zs_byte _)
  have hB : Bs W (some ⟨h, 0, none⟩) nb nb (List.replicate nb 0) := Bs.row hh List.length_replicate (by omega) (zs_byte _)
  have hS : Sq RBytes 1 W (some ⟨k, 0, none⟩) 2 2 [List.replicate na (0 : Int), List.replicate nb 0] := by
    refine ⟨rfl, Nat.le_refl _, by omega, fun _ => ⟨k, 0, rfl, fun i hi => ?_⟩⟩
    have hi2 : i < 2 := hi
    match i, hi2 with
    | 0, _ => exact ⟨_, _, _, (row_facts hk 0 (.slice (some ⟨g, 0, none⟩) na na) rfl).1, hA⟩
    | 1, _ => exact ⟨_, _, _, (row_facts hk 1 (.slice (some ⟨h, 0, none⟩) nb nb) rfl).1, hB⟩
  exact putParts_any 0 i0 0 i0 _ _ _ [List.replicate na (0 : Int), List.replicate nb 0] hS none 0 0 [] (Sq.nil _ _ _)

theorem parts1 {W : World} {g k na : Nat} {Za : Array Value} (hk : W.heap[k]? = some (.cells #[.slice (some ⟨g, 0, none⟩) na na] (22 : TypeId) (0, 0))) (hg : W.heap[g]? = some (.cells Za 5 (0, 0))) (hZa : Za = (U (List.replicate na 0)).toArray) (ha : na ≤ 100000) :
    Calls Try.prog 10 #[.agg #[.int .i64 0, .int .i64 0, .slice (some ⟨k, 0, none⟩) 1 1, .slice none 0 0]] W (Pq W 60000 (Cod.thing Cod.parts 3 ⟨0, 0, [na].map (fun n => List.replicate n (0 : Int)), []⟩)) := by
  have i0 : I64 0 := ⟨by omega, by omega⟩
  subst hZa
  have hA : Bs W (some ⟨g, 0, none⟩) na na (List.replicate na 0) := Bs.row hg List.length_replicate (by omega) (zs_byte _)
  have hS : Sq RBytes 1 W (some ⟨k, 0, none⟩) 1 1 [List.replicate na (0 : Int)] := by
    refine ⟨rfl, Nat.le_refl _, by omega, fun _ => ⟨k, 0, rfl, fun i hi => ?_⟩⟩
    have hi2 : i < 1 := hi
    match i, hi2 with
    | 0, _ => exact ⟨_, _, _, (row_facts hk 0 (.slice (some ⟨g, 0, none⟩) na na) rfl).1, hA⟩
  exact putParts_any 0 i0 0 i0 _ _ _ [List.replicate na (0 : Int)] hS none 0 0 [] (Sq.nil _ _ _)

theorem Pq.fits {W W' : World} {most : Nat} {zs : List Int} {e : Ending} (h : Pq W most zs e W') (hl : zs.length ≤ most) : ∃ c n d, e = .returned (.tuple #[.slice c n d, .int .i64 0]) ∧ Below W.heap.size W W' := by
  rcases h with ⟨hb, ⟨_, c, d, rfl, _⟩ | ⟨hno, _⟩⟩
  · exact ⟨c, _, d, rfl, hb⟩
  · omega
theorem Pq.long {W W' : World} {most : Nat} {zs : List Int} {e : Ending} (h : Pq W most zs e W') (hl : most < zs.length) : e = .returned (.tuple #[.slice none 0 0, .int .i64 3]) ∧ Below W.heap.size W W' := by
  rcases h with ⟨hb, ⟨hno, _⟩ | ⟨_, rfl⟩⟩
  · omega
  · exact ⟨rfl, hb⟩

theorem len_i : (Cod.thing Cod.parts 3 ⟨0, 0, [59000, 990].map (fun n => List.replicate n (0 : Int)), []⟩).length ≤ 60000 := by
  rw [parts_len [59000, 990] (by decide)]
  simp only [List.map_cons, List.map_nil, List.sum_cons, List.sum_nil]
  rw [len3 (n := 59000) (by omega) (by omega), len2 (n := 990) (by omega) (by omega)]
  omega
theorem len_j : 60000 < (Cod.thing Cod.parts 3 ⟨0, 0, [59000, 991].map (fun n => List.replicate n (0 : Int)), []⟩).length := by
  rw [parts_len [59000, 991] (by decide)]
  simp only [List.map_cons, List.map_nil, List.sum_cons, List.sum_nil]
  rw [len3 (n := 59000) (by omega) (by omega), len2 (n := 991) (by omega) (by omega)]
  omega
theorem len_k : 60000 < (Cod.thing Cod.parts 3 ⟨0, 0, [60000].map (fun n => List.replicate n (0 : Int)), []⟩).length := by
  rw [parts_len [60000] (by decide)]
  simp only [List.map_cons, List.map_nil, List.sum_cons, List.sum_nil]
  rw [len3 (n := 60000) (by omega) (by omega)]
  omega

theorem own_seven (V : World) : (V.alloc (.cells #[.int .u8 7] 5)).ownsRow V.heap.size 5 1 (.slice (some ⟨V.heap.size, 0, none⟩) 1 1) 1 (U [7]) :=
  ⟨rfl, .inr ⟨V.heap.size, 1, _, rfl, Nat.le_refl _, heap_alloc_new V _, Nat.le_refl _, by unfold maxLen; omega, rfl, rfl⟩⟩

end Go.Proofs.Ytnimfkcnkkjlkaa.wireNumbers

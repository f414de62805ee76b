/-
  Texts put into one.
-/
import Derived.Test.YtefhapaplkifiaaPk78741e89
import Derived.Test.YtefhapaplkifiaaPk1d6064d3
import Derived.Test.YtefhapaplkifiaaPkc036b0b1

/-
  WireCommands, walked.
-/
namespace Go.Proofs.Ytefhapaplkifiaa
open Go.RowKit
set_option maxRecDepth 100000

/-- What a Put answers: the bytes, or none; the error. -/
def ans (most : Nat) (zs : List Int) : List Int := if zs.length ≤ most then zs else []
def ero (most : Nat) (zs : List Int) : Int := if zs.length ≤ most then 0 else 3

theorem Pq.ans {w w' : World} {most : Nat} {zs : List Int} {e : Ending} (h : Pq w most zs e w') (hb : ∀ z ∈ zs, 0 ≤ z ∧ z ≤ 255) : ∃ c m d, e = .returned (.tuple #[.slice c m d, .int .i64 (ero most zs)]) ∧ Bs w' c m d (ans most zs) ∧ Below w.heap.size w w' := by
  unfold ero Go.Proofs.Ytefhapaplkifiaa.ans
  rcases h.2 with ⟨h0, c, d, h1, h2⟩ | ⟨h0, h1⟩
  · rw [if_pos h0, if_pos h0]
    exact ⟨c, _, d, h1, own_bs h2 hb, h.1⟩
  · rw [if_neg (by omega), if_neg (by omega)]
    exact ⟨none, 0, 0, h1, Bs.nil _, h.1⟩

/-- The document's Put of bytes that were put together. -/
theorem rput_ans {W : World} {base : Nat} (v : Value) (zs : List Int) (hb : ∀ z ∈ zs, 0 ≤ z ∧ z ≤ 255) (hO : W.ownsRow base 5 1 v zs.length (U zs)) (m : Nat) :
    Calls Try.prog 14 #[v, .int .i64 (m : Int)] W fun e w' => ∃ c k d, e = .returned (.tuple #[.slice c k d, .int .i64 (ero m zs)]) ∧ Bs W c k d (ans m zs) ∧ w' = W := by
  refine (rput_any v zs hO m).mono ?_
  rintro e w' ⟨rfl, rfl⟩
  unfold ero ans
  by_cases h : zs.length ≤ m
  · obtain ⟨a, d, rfl⟩ := own_val hO
    rw [if_pos h, if_pos h, if_pos (by omega), if_pos (by omega)]
    exact ⟨a, _, d, rfl, own_bs hO hb, rfl⟩
  · rw [if_neg h, if_neg h, if_neg (by omega), if_neg (by omega)]
    exact ⟨none, 0, 0, rfl, Bs.nil _, rfl⟩

namespace wireCommands

set_option maxHeartbeats 4000000 in
theorem walk (x : Cod.PartC) (cs : List Value) (y : Cod.MetaC) (ds : List Value) (w : World) (hx : APartC w x cs) (hy : AMetaC w y ds) (hbx : ∀ z ∈ Cod.thing Cod.part 1 x, 0 ≤ z ∧ z ≤ 255) (hby : ∀ z ∈ Cod.thing Cod.meta' 2 y, 0 ≤ z ∧ z ≤ 255)
    (hrx : (Cod.thing Cod.part 1 x).length ≤ 140737488355328) (hry : (Cod.thing Cod.meta' 2 y).length ≤ 140737488355328) :
    Calls Try.prog 4 #[.agg cs.toArray, .agg ds.toArray] w fun e w' => e = .returned (.bool true) ∧ Below w.heap.size w w' := by
  have hl1 := hx.len
  have hl2 := hy.len
  have hi1 : (Try.prog.info? (28 : TypeId)).map (·.size) = some cs.toArray.size := by rw [List.size_toArray, hl1]; kernel_rfl
  have hi2 : (Try.prog.info? (37 : TypeId)).map (·.size) = some ds.toArray.size := by rw [List.size_toArray, hl2]; kernel_rfl
  have hX : ∀ V, Below w.heap.size w V → APartC V x cs := fun V h => APartC.a _ _ _ _ h hx
  have hY : ∀ V, Below w.heap.size w V → AMetaC V y ds := fun V h => AMetaC.a _ _ _ _ h hy
  have HX := hide hX
  have HY := hide hY
  have hbo := boxes2r w (.cells cs.toArray (28 : TypeId)) (.cells ds.toArray (37 : TypeId))
  obtain ⟨W0, HW⟩ : ∃ W0, Hid (W0 = (w.alloc (.cells cs.toArray (28 : TypeId))).alloc (.cells ds.toArray (37 : TypeId))) := ⟨_, hide rfl⟩
  have hb0 : Below w.heap.size w W0 := by rw [HW.out]; exact (fresh w _).alloc (by simp) _
  have hs0 : w.heap.size + 2 = W0.heap.size := by rw [HW.out]; simp
  rw [← HW.out] at hbo
  have HB : Hid (∀ V, Below W0.heap.size W0 V → V.heap[w.heap.size]? = some (.cells cs.toArray (28 : TypeId) (0, 0)) ∧ V.heap[w.heap.size + 1]? = some (.cells ds.toArray (37 : TypeId) (0, 0))) :=
    hide fun V h => ⟨(h.block _ (by omega)).trans hbo.1, (h.block _ (by omega)).trans hbo.2⟩
  obtain ⟨g1, g2⟩ := hbo
  have g1' := g1
  have g2' := g2
  rw [HW.out] at g1' g2'
  clear hX hY hx hy
  have HP0 := hide (HX.out W0 hb0).put
  rw [HW.out] at HP0
  go_enter Try.func4, Try.ntmps4
  go_wp2_with (refine wpList_load_row rfl (28 : TypeId) _ rfl w.heap.size rfl (28 : TypeId) _ (0, 0) _ g1' Try.underlying28 rfl hi1 ?_)
  refine HP0.out.mono ?_
  intro e w1 hp
  rw [← HW.out] at hp
  obtain ⟨c1, m1, d1, rfl, hB1, hb1⟩ := hp.ans hbx
  clear hp HP0 g1' g2' g1 g2
  have hq1 := hb0.trans (hb1.mono (by omega))
  obtain ⟨g1, g2⟩ := HB.out w1 hb1
  go_wp2_with (refine wpList_load_row rfl (28 : TypeId) _ rfl w.heap.size rfl (28 : TypeId) _ (0, 0) _ g1 Try.underlying28 rfl hi1 ?_)
  refine ((HX.out w1 hq1).ref hrx).mono ?_
  rintro e w2 ⟨v2, rfl, ho2, hb2⟩
  have hB2 := hB1.keep hb2
  have hb02 := hb1.trans (hb2.mono hb1.size)
  have hq2 := hb0.trans (hb02.mono (by omega))
  go_wp2_with fail
  refine (rput_ans v2 _ hbx ho2 60000).mono ?_
  rintro e w3 ⟨c2, m2, d2, rfl, hC2, rfl⟩
  clear g1 g2 hq1 hB1 hb1 hb2
  obtain ⟨g1, g2⟩ := HB.out w3 hb02
  go_wp2_with (refine wpList_load_row rfl (37 : TypeId) _ rfl (w.heap.size + 1) rfl (37 : TypeId) _ (0, 0) _ g2 Try.underlying37 rfl hi2 ?_)
  refine (HY.out w3 hq2).put.mono ?_
  intro e w4 hp
  obtain ⟨c4, m4, d4, rfl, hB4, hb4⟩ := hp.ans hby
  clear hp g1 g2
  have hB24 := hB2.keep hb4
  have hC24 := hC2.keep hb4
  have hb04 := hb02.trans (hb4.mono hb02.size)
  have hq4 := hb0.trans (hb04.mono (by omega))
  obtain ⟨g1, g2⟩ := HB.out w4 hb04
  clear hB2 hC2 hb02 hq2 hb4
  go_wp2_with (refine wpList_load_row rfl (37 : TypeId) _ rfl (w.heap.size + 1) rfl (37 : TypeId) _ (0, 0) _ g2 Try.underlying37 rfl hi2 ?_)
  refine ((HY.out w4 hq4).ref hry).mono ?_
  rintro e w5 ⟨v5, rfl, ho5, hb5⟩
  have hB25 := hB24.keep hb5
  have hC25 := hC24.keep hb5
  have hB5 := hB4.keep hb5
  have hq5 : Below w.heap.size w w5 := hq4.trans (hb5.mono hq4.size)
  go_wp2_with fail
  refine (rput_ans v5 _ hby ho5 60000).mono ?_
  rintro e w6 ⟨c6, m6, d6, rfl, hC6, rfl⟩
  have HQ := hide hq5
  clear g1 g2 hb5 hq4 hb04 hB24 hC24 hB4 ho5 ho2 HB HX HY hq5
  generalize ero 60000 (Cod.thing Cod.part 1 x) = E1
  generalize ero 60000 (Cod.thing Cod.meta' 2 y) = E2
  have hE1 : (E1 == E1) = true := by simp
  have hE2 : (E2 == E2) = true := by simp
  go_wp2_with fail
  refine (same_true rfl hB25 hC25).mono ?_
  rintro e w7 ⟨rfl, rfl⟩
  go_wp2_with fail
  refine (same_true rfl hB5 hC6).mono ?_
  rintro e w8 ⟨rfl, rfl⟩
  go_wp2_with fail
  refine (awake_any _).mono ?_
  rintro e w9 ⟨rfl, hb9⟩
  have HE := hide (HQ.out.trans (hb9.mono HQ.out.size))
  clear hb9
  go_wp2_with fail
  go_ret
  exact ⟨rfl, HE.out⟩

end wireCommands
end Go.Proofs.Ytefhapaplkifiaa

/-
  WireCalls, walked.
-/
namespace Go.Proofs.Ytefhapaplkifiaa
open Go.RowKit
set_option maxRecDepth 100000

namespace wireCalls

set_option maxHeartbeats 4000000 in
theorem walk (x : Cod.Request) (cs : List Value) (y : Cod.Response) (ds : List Value) (z : Cod.Raft) (es : List Value) (w : World) (hx : ARequest w x cs) (hy : AResponse w y ds) (hz : ARaft w z es) (hbx : ∀ i ∈ Cod.thing Cod.request 5 x, 0 ≤ i ∧ i ≤ 255) (hby : ∀ i ∈ Cod.thing Cod.response 6 y, 0 ≤ i ∧ i ≤ 255) (hbz : ∀ i ∈ Cod.thing Cod.raft 7 z, 0 ≤ i ∧ i ≤ 255) (hrx : (Cod.thing Cod.request 5 x).length ≤ 140737488355328) (hry : (Cod.thing Cod.response 6 y).length ≤ 140737488355328) (hrz : (Cod.thing Cod.raft 7 z).length ≤ 140737488355328) :
    Calls Try.prog 5 #[.agg cs.toArray, .agg ds.toArray, .agg es.toArray] w fun e w' => e = .returned (.bool true) ∧ Below w.heap.size w w' := by
  have hl0 := hx.len
  have hi0 : (Try.prog.info? (64 : TypeId)).map (·.size) = some cs.toArray.size := by rw [List.size_toArray, hl0]; kernel_rfl
  have HX := hide (fun V (h : Below w.heap.size w V) => ARequest.a _ _ _ _ h hx)
  have hl1 := hy.len
  have hi1 : (Try.prog.info? (70 : TypeId)).map (·.size) = some ds.toArray.size := by rw [List.size_toArray, hl1]; kernel_rfl
  have HY := hide (fun V (h : Below w.heap.size w V) => AResponse.a _ _ _ _ h hy)
  have hl2 := hz.len
  have hi2 : (Try.prog.info? (45 : TypeId)).map (·.size) = some es.toArray.size := by rw [List.size_toArray, hl2]; kernel_rfl
  have HZ := hide (fun V (h : Below w.heap.size w V) => ARaft.a _ _ _ _ h hz)
  obtain ⟨W0, HW⟩ : ∃ W0, Hid (W0 = ((w.alloc (.cells cs.toArray (64 : TypeId))).alloc (.cells ds.toArray (70 : TypeId))).alloc (.cells es.toArray (45 : TypeId))) := ⟨_, hide rfl⟩
  have hb0 : Below w.heap.size w W0 := by rw [HW.out]; exact ((fresh w _).alloc (by simp) _).alloc (by simp; omega) _
  have hs0 : w.heap.size + 3 = W0.heap.size := by rw [HW.out]; simp
  have hbo := boxes2r w (.cells cs.toArray (64 : TypeId)) (.cells ds.toArray (70 : TypeId))
  have g0 : W0.heap[w.heap.size]? = some (.cells cs.toArray (64 : TypeId) (0, 0)) := by rw [HW.out]; exact (Below.heap_alloc _ _ _ (hp_lt hbo.1)).trans hbo.1
  have g1 : W0.heap[w.heap.size + 1]? = some (.cells ds.toArray (70 : TypeId) (0, 0)) := by rw [HW.out]; exact (Below.heap_alloc _ _ _ (hp_lt hbo.2)).trans hbo.2
  have g2 : W0.heap[w.heap.size + 2]? = some (.cells es.toArray (45 : TypeId) (0, 0)) := by
    rw [HW.out]
    have := heap_alloc_new ((w.alloc (.cells cs.toArray (64 : TypeId))).alloc (.cells ds.toArray (70 : TypeId))) (.cells es.toArray (45 : TypeId))
    simpa using this
  have HB : Hid (∀ V, Below W0.heap.size W0 V → V.heap[w.heap.size]? = some (.cells cs.toArray (64 : TypeId) (0, 0)) ∧ V.heap[w.heap.size + 1]? = some (.cells ds.toArray (70 : TypeId) (0, 0)) ∧ V.heap[w.heap.size + 2]? = some (.cells es.toArray (45 : TypeId) (0, 0))) :=
    hide fun V h => ⟨(h.block _ (by omega)).trans g0, (h.block _ (by omega)).trans g1, (h.block _ (by omega)).trans g2⟩
  have g0' := g0
  rw [HW.out] at g0'
  have HP0 := hide (HX.out W0 hb0).put
  rw [HW.out] at HP0
  clear hx hy hz g0 g1 g2 hbo
  go_enter Try.func5, Try.ntmps5
  go_wp2_with (refine wpList_load_row rfl (64 : TypeId) _ rfl (w.heap.size) rfl (64 : TypeId) _ (0, 0) _ g0' Try.underlying64 rfl hi0 ?_)
  refine HP0.out.mono ?_
  intro e w1 hp
  rw [← HW.out] at hp
  obtain ⟨c1, m1, d1, rfl, hB1, hb1⟩ := hp.ans hbx
  clear hp HP0 g0'
  have hc1 : Below W0.heap.size W0 w1 := hb1
  clear hb1
  obtain ⟨g0, g1, g2⟩ := HB.out _ hc1
  go_wp2_with (refine wpList_load_row rfl (64 : TypeId) _ rfl (w.heap.size) rfl (64 : TypeId) _ (0, 0) _ g0 Try.underlying64 rfl hi0 ?_)
  refine ((HX.out _ (hb0.trans (hc1.mono (by omega)))).ref hrx).mono ?_
  rintro e w2 ⟨v2, rfl, ho2, hb2⟩
  clear g0 g1 g2
  replace hB1 := hB1.keep hb2
  have hc2 := hc1.trans (hb2.mono hc1.size)
  clear hc1 hb2
  go_wp2_with fail
  refine (rput_ans v2 _ hbx ho2 60000).mono ?_
  rintro e w2x ⟨c2x, m2x, d2x, rfl, hC2, rfl⟩
  clear ho2
  obtain ⟨g0, g1, g2⟩ := HB.out _ hc2
  go_wp2_with (refine wpList_load_row rfl (70 : TypeId) _ rfl (w.heap.size + 1) rfl (70 : TypeId) _ (0, 0) _ g1 Try.underlying70 rfl hi1 ?_)
  refine (HY.out _ (hb0.trans (hc2.mono (by omega)))).put.mono ?_
  intro e w3 hp
  obtain ⟨c3, m3, d3, rfl, hB3, hb3⟩ := hp.ans hby
  clear hp g0 g1 g2
  replace hB1 := hB1.keep hb3
  replace hC2 := hC2.keep hb3
  have hc3 := hc2.trans (hb3.mono hc2.size)
  clear hc2 hb3
  obtain ⟨g0, g1, g2⟩ := HB.out _ hc3
  go_wp2_with (refine wpList_load_row rfl (70 : TypeId) _ rfl (w.heap.size + 1) rfl (70 : TypeId) _ (0, 0) _ g1 Try.underlying70 rfl hi1 ?_)
  refine ((HY.out _ (hb0.trans (hc3.mono (by omega)))).ref hry).mono ?_
  rintro e w4 ⟨v4, rfl, ho4, hb4⟩
  clear g0 g1 g2
  replace hB1 := hB1.keep hb4
  replace hC2 := hC2.keep hb4
  replace hB3 := hB3.keep hb4
  have hc4 := hc3.trans (hb4.mono hc3.size)
  clear hc3 hb4
  go_wp2_with fail
  refine (rput_ans v4 _ hby ho4 60000).mono ?_
  rintro e w4x ⟨c4x, m4x, d4x, rfl, hC4, rfl⟩
  clear ho4
  obtain ⟨g0, g1, g2⟩ := HB.out _ hc4
  go_wp2_with (refine wpList_load_row rfl (45 : TypeId) _ rfl (w.heap.size + 2) rfl (45 : TypeId) _ (0, 0) _ g2 Try.underlying45 rfl hi2 ?_)
  refine (HZ.out _ (hb0.trans (hc4.mono (by omega)))).put.mono ?_
  intro e w5 hp
  obtain ⟨c5, m5, d5, rfl, hB5, hb5⟩ := hp.ans hbz
  clear hp g0 g1 g2
  replace hB1 := hB1.keep hb5
  replace hC2 := hC2.keep hb5
  replace hB3 := hB3.keep hb5
  replace hC4 := hC4.keep hb5
  have hc5 := hc4.trans (hb5.mono hc4.size)
  clear hc4 hb5
  obtain ⟨g0, g1, g2⟩ := HB.out _ hc5
  go_wp2_with (refine wpList_load_row rfl (45 : TypeId) _ rfl (w.heap.size + 2) rfl (45 : TypeId) _ (0, 0) _ g2 Try.underlying45 rfl hi2 ?_)
  refine ((HZ.out _ (hb0.trans (hc5.mono (by omega)))).ref hrz).mono ?_
  rintro e w6 ⟨v6, rfl, ho6, hb6⟩
  clear g0 g1 g2
  replace hB1 := hB1.keep hb6
  replace hC2 := hC2.keep hb6
  replace hB3 := hB3.keep hb6
  replace hC4 := hC4.keep hb6
  replace hB5 := hB5.keep hb6
  have hc6 := hc5.trans (hb6.mono hc5.size)
  clear hc5 hb6
  go_wp2_with fail
  refine (rput_ans v6 _ hbz ho6 65545).mono ?_
  rintro e w6x ⟨c6x, m6x, d6x, rfl, hC6, rfl⟩
  clear ho6
  have HQ := hide (hb0.trans (hc6.mono (by omega)))
  clear hc6 HB HX HY HZ
  generalize ero 60000 (Cod.thing Cod.request 5 x) = E0
  have hE0 : (E0 == E0) = true := by simp
  generalize ero 60000 (Cod.thing Cod.response 6 y) = E1
  have hE1 : (E1 == E1) = true := by simp
  generalize ero 65545 (Cod.thing Cod.raft 7 z) = E2
  have hE2 : (E2 == E2) = true := by simp
  go_wp2_with fail
  refine (same_true rfl hB1 hC2).mono ?_
  rintro e ws0 ⟨rfl, rfl⟩
  go_wp2_with fail
  refine (same_true rfl hB3 hC4).mono ?_
  rintro e ws1 ⟨rfl, rfl⟩
  go_wp2_with fail
  refine (same_true rfl hB5 hC6).mono ?_
  rintro e ws2 ⟨rfl, rfl⟩
  go_wp2_with fail
  refine (awake_any _).mono ?_
  rintro e w99 ⟨rfl, hb99⟩
  have HE := hide (HQ.out.trans (hb99.mono HQ.out.size))
  clear hb99
  go_wp2_with fail
  go_ret
  exact ⟨rfl, HE.out⟩

end wireCalls
end Go.Proofs.Ytefhapaplkifiaa

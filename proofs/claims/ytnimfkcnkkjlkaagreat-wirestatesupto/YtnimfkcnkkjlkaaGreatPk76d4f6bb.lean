/-
  WireStates, walked.
-/
import Derived.Test.YtnimfkcnkkjlkaaGreatPkcab1caf6
import Derived.Test.YtnimfkcnkkjlkaaGreatPkae61deed
import Derived.Test.YtnimfkcnkkjlkaaGreatPk20150bd2
namespace Go.Proofs.YtnimfkcnkkjlkaaGreat
open Go.RowKit
set_option maxRecDepth 100000

/-- What a Put answers: the bytes, or none; the error. -/
def ans (most : Nat) (zs : List Int) : List Int := if zs.length ≤ most then zs else []
def ero (most : Nat) (zs : List Int) : Int := if zs.length ≤ most then 0 else 3

theorem Pq.ans {w w' : World} {most : Nat} {zs : List Int} {e : Ending} (h : Pq w most zs e w') (hb : ∀ z ∈ zs, 0 ≤ z ∧ z ≤ 255) : ∃ c m d, e = .returned (.tuple #[.slice c m d, .int .i64 (ero most zs)]) ∧ Bs w' c m d (ans most zs) ∧ Below w.heap.size w w' := by
  unfold ero Go.Proofs.YtnimfkcnkkjlkaaGreat.ans
  rcases h.2 with ⟨h0, c, d, h1, h2⟩ | ⟨h0, h1⟩
  · rw [if_pos h0, if_pos h0]
    exact ⟨c, _, d, h1, own_bs h2 hb, h.1⟩
  · rw [if_neg (by omega), if_neg (by omega)]
    exact ⟨none, 0, 0, h1, Bs.nil _, h.1⟩

/-- The document's Put of bytes that were put together. -/
theorem rput_ans {W : World} {base : Nat} (v : Value) (zs : List Int) (hb : ∀ z ∈ zs, 0 ≤ z ∧ z ≤ 255) (hO : W.ownsRow base 5 1 v zs.length (U zs)) (m : Nat) :
    Calls Tryz.prog 7 #[v, .int .i64 (m : Int)] W fun e w' => ∃ c k d, e = .returned (.tuple #[.slice c k d, .int .i64 (ero m zs)]) ∧ Bs W c k d (ans m zs) ∧ w' = W := by
  refine (rput_any v zs hO m).mono ?_
  rintro e w' ⟨rfl, rfl⟩
  unfold ero ans
  by_cases h : zs.length ≤ m
  · obtain ⟨a, d, rfl⟩ := own_val hO
    rw [if_pos h, if_pos h, if_pos (by omega), if_pos (by omega)]
    exact ⟨a, _, d, rfl, own_bs hO hb, rfl⟩
  · rw [if_neg h, if_neg h, if_neg (by omega), if_neg (by omega)]
    exact ⟨none, 0, 0, rfl, Bs.nil _, rfl⟩

namespace wireStates

set_option maxHeartbeats 4000000 in
theorem walk (x : Cod.PartS) (cs : List Value) (y : Cod.MetaS) (ds : List Value) (w : World) (hx : APartS w x cs) (hy : AMetaS w y ds) (hbx : ∀ z ∈ Cod.thing Cod.parts 3 x, 0 ≤ z ∧ z ≤ 255) (hby : ∀ z ∈ Cod.thing Cod.metas 4 y, 0 ≤ z ∧ z ≤ 255)
    (hrx : (Cod.thing Cod.parts 3 x).length ≤ 140737488355328) (hry : (Cod.thing Cod.metas 4 y).length ≤ 140737488355328) :
    Calls Tryz.prog 3 #[.agg cs.toArray, .agg ds.toArray] w fun e w' => e = .returned (.bool true) ∧ Below w.heap.size w w' := by
  have hl1 := hx.len
  have hl2 := hy.len
  have hi1 : (Tryz.prog.info? (25 : TypeId)).map (·.size) = some cs.toArray.size := by rw [List.size_toArray, hl1]; kernel_rfl
  have hi2 : (Tryz.prog.info? (31 : TypeId)).map (·.size) = some ds.toArray.size := by rw [List.size_toArray, hl2]; kernel_rfl
  have hX : ∀ V, Below w.heap.size w V → APartS V x cs := fun V h => APartS.a _ _ _ _ h hx
  have hY : ∀ V, Below w.heap.size w V → AMetaS V y ds := fun V h => AMetaS.a _ _ _ _ h hy
  have HX := hide hX
  have HY := hide hY
  have hbo := boxes2r w (.cells cs.toArray (25 : TypeId)) (.cells ds.toArray (31 : TypeId))
  obtain ⟨W0, HW⟩ : ∃ W0, Hid (W0 = (w.alloc (.cells cs.toArray (25 : TypeId))).alloc (.cells ds.toArray (31 : TypeId))) := ⟨_, hide rfl⟩
  have hb0 : Below w.heap.size w W0 := by rw [HW.out]; exact (fresh w _).alloc (by simp) _
  have hs0 : w.heap.size + 2 = W0.heap.size := by rw [HW.out]; simp
  rw [← HW.out] at hbo
  have HB : Hid (∀ V, Below W0.heap.size W0 V → V.heap[w.heap.size]? = some (.cells cs.toArray (25 : TypeId) (0, 0)) ∧ V.heap[w.heap.size + 1]? = some (.cells ds.toArray (31 : TypeId) (0, 0))) :=
    hide fun V h => ⟨(h.block _ (by omega)).trans hbo.1, (h.block _ (by omega)).trans hbo.2⟩
  obtain ⟨g1, g2⟩ := hbo
  have g1' := g1
  have g2' := g2
  rw [HW.out] at g1' g2'
  clear hX hY hx hy
  have HP0 := hide (HX.out W0 hb0).put
  rw [HW.out] at HP0
  go_enter Tryz.func3, Tryz.ntmps3
  go_wp2_with (refine wpList_load_row rfl (25 : TypeId) _ rfl w.heap.size rfl (25 : TypeId) _ (0, 0) _ g1' Tryz.underlying25 rfl hi1 ?_)
  refine HP0.out.mono ?_
  intro e w1 hp
  rw [← HW.out] at hp
  obtain ⟨c1, m1, d1, rfl, hB1, hb1⟩ := hp.ans hbx
  clear hp HP0 g1' g2' g1 g2
  have hq1 := hb0.trans (hb1.mono (by omega))
  obtain ⟨g1, g2⟩ := HB.out w1 hb1
  go_wp2_with (refine wpList_load_row rfl (25 : TypeId) _ rfl w.heap.size rfl (25 : TypeId) _ (0, 0) _ g1 Tryz.underlying25 rfl hi1 ?_)
  refine ((HX.out w1 hq1).ref hrx).mono ?_
  rintro e w2 ⟨v2, rfl, ho2, hb2⟩
  have hB2 := hB1.keep hb2
  have hb02 := hb1.trans (hb2.mono hb1.size)
  have hq2 := hb0.trans (hb02.mono (by omega))
  go_wp2_with fail
  refine (rput_ans v2 _ hbx ho2 60000).mono ?_
  rintro e w3 ⟨c2, m2, d2, rfl, hC2, rfl⟩
  clear g1 g2 hq1 hB1 hb1 hb2
  obtain ⟨g1, g2⟩ := HB.out w3 hb02
  go_wp2_with (refine wpList_load_row rfl (31 : TypeId) _ rfl (w.heap.size + 1) rfl (31 : TypeId) _ (0, 0) _ g2 Tryz.underlying31 rfl hi2 ?_)
  refine (HY.out w3 hq2).put.mono ?_
  intro e w4 hp
  obtain ⟨c4, m4, d4, rfl, hB4, hb4⟩ := hp.ans hby
  clear hp g1 g2
  have hB24 := hB2.keep hb4
  have hC24 := hC2.keep hb4
  have hb04 := hb02.trans (hb4.mono hb02.size)
  have hq4 := hb0.trans (hb04.mono (by omega))
  obtain ⟨g1, g2⟩ := HB.out w4 hb04
  clear hB2 hC2 hb02 hq2 hb4
  go_wp2_with (refine wpList_load_row rfl (31 : TypeId) _ rfl (w.heap.size + 1) rfl (31 : TypeId) _ (0, 0) _ g2 Tryz.underlying31 rfl hi2 ?_)
  refine ((HY.out w4 hq4).ref hry).mono ?_
  rintro e w5 ⟨v5, rfl, ho5, hb5⟩
  have hB25 := hB24.keep hb5
  have hC25 := hC24.keep hb5
  have hB5 := hB4.keep hb5
  have hq5 : Below w.heap.size w w5 := hq4.trans (hb5.mono hq4.size)
  go_wp2_with fail
  refine (rput_ans v5 _ hby ho5 60000).mono ?_
  rintro e w6 ⟨c6, m6, d6, rfl, hC6, rfl⟩
  have HQ := hide hq5
  clear g1 g2 hb5 hq4 hb04 hB24 hC24 hB4 ho5 ho2 HB HX HY hq5
  generalize ero 60000 (Cod.thing Cod.parts 3 x) = E1
  generalize ero 60000 (Cod.thing Cod.metas 4 y) = E2
  have hE1 : (E1 == E1) = true := by simp
  have hE2 : (E2 == E2) = true := by simp
  go_wp2_with fail
  refine (same_true rfl hB25 hC25).mono ?_
  rintro e w7 ⟨rfl, rfl⟩
  go_wp2_with fail
  refine (same_true rfl hB5 hC6).mono ?_
  rintro e w8 ⟨rfl, rfl⟩
  go_wp2_with fail
  refine (awake_any _).mono ?_
  rintro e w9 ⟨rfl, hb9⟩
  have HE := hide (HQ.out.trans (hb9.mono HQ.out.size))
  clear hb9
  go_wp2_with fail
  go_ret
  exact ⟨rfl, HE.out⟩

end wireStates
end Go.Proofs.YtnimfkcnkkjlkaaGreat

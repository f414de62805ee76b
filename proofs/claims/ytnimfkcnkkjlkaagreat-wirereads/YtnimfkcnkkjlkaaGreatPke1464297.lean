/-
  Texts put into one.
-/
import Derived.Test.YtnimfkcnkkjlkaaGreatPk300621e8
import Derived.Test.YtnimfkcnkkjlkaaGreatPkee673eda
import Derived.Test.YtnimfkcnkkjlkaaGreatPkae61deed
import Derived.Test.YtnimfkcnkkjlkaaGreatPk062fbf01

/-
  WireReads, walked.
-/
namespace Go.Proofs.YtnimfkcnkkjlkaaGreat.wireReads
open Go.RowKit
set_option maxRecDepth 100000
set_option linter.unusedVariables false

set_option maxHeartbeats 40000000 in
theorem walk (a : Option Addr) (n cap : Nat) (zs : List Int) (w : World) (hB : Bs w a n cap zs) : Calls Tryz.prog 4 #[.slice a n cap] w fun e w' => e = .returned (.bool true) ∧ Below w.heap.size w w' := by
  have hln := hB.len
  by_cases hn : 70000 < n
  · have j1 : (70000 : Int) < (n : Int) := by omega
    go_enter Tryz.func4, Tryz.ntmps4
    go_wp2_with fail
    refine (awake_any _).mono ?_
    rintro e w1 ⟨rfl, hb1⟩
    go_wp2_with fail
    go_ret
    exact ⟨rfl, hb1⟩
  · have j1 : ¬ ((70000 : Int) < (n : Int)) := by omega
    have HBB := hide (fun V (hV : Below w.heap.size w V) => hB.keep hV)
    go_enter Tryz.func4, Tryz.ntmps4
    go_wp2_with fail
    refine (lent_any a n cap zs w hB (by omega)).mono ?_
    rintro e w0 ⟨g, d, rfl, hL, hb0⟩
    have hIn : Bs w0 (some ⟨g, 0, none⟩) n d zs := by
      have h1 := hL.head n (by omega)
      rw [List.take_left' hln] at h1
      exact h1
    have HIN := hide (fun V (hV : Below w0.heap.size w0 V) => hIn.keep hV)
    have HKP := hide (fun V (hV : Below w0.heap.size w0 V) => hL.keep hV)
    have HB0 := hide hb0
    have HX := hide (Below.refl w0.heap.size w0)
    clear hIn hL hb0 hB
    go_wp2_with fail
    refine (getPart_any _ (HIN.out _ HX.out)).mono ?_
    intro e x0 hg
    obtain ⟨p0k, p0bp, p0be, p0bf, p0bla, p0bln, p0blc, p0o, rfl, hA1, hb1⟩ := hg.get
    clear hg
    have hbx := boxed (w := x0) (T := (48 : TypeId)) (z := #[.int .u8 0, .int .i64 0, .int .i64 0, .int .i64 0, .slice none 0 0, .int .i64 0]) (c := #[.int .u8 p0k, .int .i64 p0bp, .int .i64 p0be, .int .i64 p0bf, .slice p0bla p0bln p0blc, .int .i64 p0o])
    obtain ⟨V0, HV0⟩ : ∃ V, Hid (V = (x0.alloc (.cells #[.int .u8 0, .int .i64 0, .int .i64 0, .int .i64 0, .slice none 0 0, .int .i64 0] (48 : TypeId))).setRow x0.heap.size #[.int .u8 p0k, .int .i64 p0bp, .int .i64 p0be, .int .i64 p0bf, .slice p0bla p0bln p0blc, .int .i64 p0o]) := ⟨_, hide rfl⟩
    rw [← HV0.out] at hbx
    have hX1 : Below w0.heap.size w0 V0 := (HX.out.trans (hb1.mono HX.out.size)).trans (hbx.1.mono (Nat.le_trans HX.out.size hb1.size))
    have hA1 := APartC.a _ _ _ _ hbx.1 hA1
    have HA1 := hide hA1
    have HG1 := hide hbx.2
    have hz1 := heap_alloc_new x0 (.cells #[.int .u8 0, .int .i64 0, .int .i64 0, .int .i64 0, .slice none 0 0, .int .i64 0] (48 : TypeId))
    have HX1 := hide hX1
    clear hA1 hb1 hbx hX1
    go_wp2_with (refine wpList_store_row rfl (48 : TypeId) _ _ rfl x0.heap.size #[.int .u8 p0k, .int .i64 p0bp, .int .i64 p0be, .int .i64 p0bf, .slice p0bla p0bln p0blc, .int .i64 p0o] rfl rfl (48 : TypeId) _ hz1 (by kernel_rfl) rfl (by simp [Value.oneCell']) ?_)
    rw [← HV0.out]
    refine (refGetPart_any a (HBB.out _ (HB0.out.trans (HX1.out.mono HB0.out.size))) (by omega)).mono ?_
    intro e y0 hg
    obtain ⟨q0k, q0bp, q0be, q0bf, q0bla, q0bln, q0blc, q0o, rfl, hA2, hb2⟩ := hg.get
    clear hg hz1
    have hbx := boxed (w := y0) (T := (48 : TypeId)) (z := #[.int .u8 0, .int .i64 0, .int .i64 0, .int .i64 0, .slice none 0 0, .int .i64 0]) (c := #[.int .u8 q0k, .int .i64 q0bp, .int .i64 q0be, .int .i64 q0bf, .slice q0bla q0bln q0blc, .int .i64 q0o])
    obtain ⟨U0, HU0⟩ : ∃ V, Hid (V = (y0.alloc (.cells #[.int .u8 0, .int .i64 0, .int .i64 0, .int .i64 0, .slice none 0 0, .int .i64 0] (48 : TypeId))).setRow y0.heap.size #[.int .u8 q0k, .int .i64 q0bp, .int .i64 q0be, .int .i64 q0bf, .slice q0bla q0bln q0blc, .int .i64 q0o]) := ⟨_, hide rfl⟩
    rw [← HU0.out] at hbx
    have hb12 : Below V0.heap.size V0 U0 := hb2.trans (hbx.1.mono hb2.size)
    have HX2 := hide (HX1.out.trans (hb12.mono HX1.out.size))
    have HG1 := hide ((hb12.block _ (hp_lt HG1.out)).trans HG1.out)
    have HG2 := hide hbx.2
    have HC := hide (lpartc_eq (APartC.a _ _ _ _ hb12 HA1.out) (APartC.a _ _ _ _ hbx.1 hA2))
    have hz2 := heap_alloc_new y0 (.cells #[.int .u8 0, .int .i64 0, .int .i64 0, .int .i64 0, .slice none 0 0, .int .i64 0] (48 : TypeId))
    clear hA2 hb2 hbx hb12 HA1 HX1
    obtain ⟨E, hE⟩ : ∃ E, E = era (Cod.got Cod.part 1 60000 zs).isSome := ⟨_, rfl⟩
    rw [← hE]
    have hEn : (E != E) = false := by simp
    have hEe : (E == E) = true := by simp
    clear hE
    have HGV : Hid ((y0.alloc (.cells #[.int .u8 0, .int .i64 0, .int .i64 0, .int .i64 0, .slice none 0 0, .int .i64 0] (48 : TypeId))).setRow y0.heap.size #[.int .u8 q0k, .int .i64 q0bp, .int .i64 q0be, .int .i64 q0bf, .slice q0bla q0bln q0blc, .int .i64 q0o] = U0) := hide HU0.out.symm
    go_wp2_with (first | (refine wpList_store_row rfl (48 : TypeId) _ _ rfl y0.heap.size #[.int .u8 q0k, .int .i64 q0bp, .int .i64 q0be, .int .i64 q0bf, .slice q0bla q0bln q0blc, .int .i64 q0o] rfl rfl (48 : TypeId) _ hz2 (by kernel_rfl) rfl (by simp [Value.oneCell']) ?_; rw [HGV.out]) | (refine wpList_load_row_w rfl (48 : TypeId) (.tmp 4) rfl x0.heap.size rfl (48 : TypeId) _ (0, 0) _ HG1.out Tryz.underlying48 rfl (by kernel_rfl) ?_) | (refine wpList_load_row_w rfl (48 : TypeId) (.tmp 6) rfl y0.heap.size rfl (48 : TypeId) _ (0, 0) _ HG2.out Tryz.underlying48 rfl (by kernel_rfl) ?_))
    refine HC.out.mono ?_
    rintro e w1 ⟨rfl, hb3⟩
    have HX := hide (HX2.out.trans (hb3.mono HX2.out.size))
    clear HC HX2 HG1 HG2 hz2 hb3 hEn hEe
    go_wp2_with fail
    refine (getMeta_any _ (HIN.out _ HX.out)).mono ?_
    intro e x1 hg
    obtain ⟨p1k, p1g, p1m, p1n, p1la, p1ln, p1lc, p1qt, p1qp, p1o, p1u, p1c, p1a, rfl, hA1, hb1⟩ := hg.get
    clear hg
    have hbx := boxed (w := x1) (T := (57 : TypeId)) (z := #[.int .u8 0, .string ⟨#[]⟩, .string ⟨#[]⟩, .int .i64 0, .slice none 0 0, .string ⟨#[]⟩, .int .i64 0, .int .i64 0, .int .i64 0, .int .i64 0, .int .i64 0]) (c := #[.int .u8 p1k, .string p1g, .string p1m, .int .i64 p1n, .slice p1la p1ln p1lc, .string p1qt, .int .i64 p1qp, .int .i64 p1o, .int .i64 p1u, .int .i64 p1c, .int .i64 p1a])
    obtain ⟨V1, HV1⟩ : ∃ V, Hid (V = (x1.alloc (.cells #[.int .u8 0, .string ⟨#[]⟩, .string ⟨#[]⟩, .int .i64 0, .slice none 0 0, .string ⟨#[]⟩, .int .i64 0, .int .i64 0, .int .i64 0, .int .i64 0, .int .i64 0] (57 : TypeId))).setRow x1.heap.size #[.int .u8 p1k, .string p1g, .string p1m, .int .i64 p1n, .slice p1la p1ln p1lc, .string p1qt, .int .i64 p1qp, .int .i64 p1o, .int .i64 p1u, .int .i64 p1c, .int .i64 p1a]) := ⟨_, hide rfl⟩
    rw [← HV1.out] at hbx
    have hX1 : Below w0.heap.size w0 V1 := (HX.out.trans (hb1.mono HX.out.size)).trans (hbx.1.mono (Nat.le_trans HX.out.size hb1.size))
    have hA1 := AMetaC.a _ _ _ _ hbx.1 hA1
    have HA1 := hide hA1
    have HG1 := hide hbx.2
    have hz1 := heap_alloc_new x1 (.cells #[.int .u8 0, .string ⟨#[]⟩, .string ⟨#[]⟩, .int .i64 0, .slice none 0 0, .string ⟨#[]⟩, .int .i64 0, .int .i64 0, .int .i64 0, .int .i64 0, .int .i64 0] (57 : TypeId))
    have HX1 := hide hX1
    clear hA1 hb1 hbx hX1
    go_wp2_with (refine wpList_store_row rfl (57 : TypeId) _ _ rfl x1.heap.size #[.int .u8 p1k, .string p1g, .string p1m, .int .i64 p1n, .slice p1la p1ln p1lc, .string p1qt, .int .i64 p1qp, .int .i64 p1o, .int .i64 p1u, .int .i64 p1c, .int .i64 p1a] rfl rfl (57 : TypeId) _ hz1 (by kernel_rfl) rfl (by simp [Value.oneCell']) ?_)
    rw [← HV1.out]
    refine (refGetMeta_any a (HBB.out _ (HB0.out.trans (HX1.out.mono HB0.out.size))) (by omega)).mono ?_
    intro e y1 hg
    obtain ⟨q1k, q1g, q1m, q1n, q1la, q1ln, q1lc, q1qt, q1qp, q1o, q1u, q1c, q1a, rfl, hA2, hb2⟩ := hg.get
    clear hg hz1
    have hbx := boxed (w := y1) (T := (57 : TypeId)) (z := #[.int .u8 0, .string ⟨#[]⟩, .string ⟨#[]⟩, .int .i64 0, .slice none 0 0, .string ⟨#[]⟩, .int .i64 0, .int .i64 0, .int .i64 0, .int .i64 0, .int .i64 0]) (c := #[.int .u8 q1k, .string q1g, .string q1m, .int .i64 q1n, .slice q1la q1ln q1lc, .string q1qt, .int .i64 q1qp, .int .i64 q1o, .int .i64 q1u, .int .i64 q1c, .int .i64 q1a])
    obtain ⟨U1, HU1⟩ : ∃ V, Hid (V = (y1.alloc (.cells #[.int .u8 0, .string ⟨#[]⟩, .string ⟨#[]⟩, .int .i64 0, .slice none 0 0, .string ⟨#[]⟩, .int .i64 0, .int .i64 0, .int .i64 0, .int .i64 0, .int .i64 0] (57 : TypeId))).setRow y1.heap.size #[.int .u8 q1k, .string q1g, .string q1m, .int .i64 q1n, .slice q1la q1ln q1lc, .string q1qt, .int .i64 q1qp, .int .i64 q1o, .int .i64 q1u, .int .i64 q1c, .int .i64 q1a]) := ⟨_, hide rfl⟩
    rw [← HU1.out] at hbx
    have hb12 : Below V1.heap.size V1 U1 := hb2.trans (hbx.1.mono hb2.size)
    have HX2 := hide (HX1.out.trans (hb12.mono HX1.out.size))
    have HG1 := hide ((hb12.block _ (hp_lt HG1.out)).trans HG1.out)
    have HG2 := hide hbx.2
    have HC := hide (lmetac_eq (AMetaC.a _ _ _ _ hb12 HA1.out) (AMetaC.a _ _ _ _ hbx.1 hA2))
    have hz2 := heap_alloc_new y1 (.cells #[.int .u8 0, .string ⟨#[]⟩, .string ⟨#[]⟩, .int .i64 0, .slice none 0 0, .string ⟨#[]⟩, .int .i64 0, .int .i64 0, .int .i64 0, .int .i64 0, .int .i64 0] (57 : TypeId))
    clear hA2 hb2 hbx hb12 HA1 HX1
    obtain ⟨E, hE⟩ : ∃ E, E = era (Cod.got Cod.meta' 2 60000 zs).isSome := ⟨_, rfl⟩
    rw [← hE]
    have hEn : (E != E) = false := by simp
    have hEe : (E == E) = true := by simp
    clear hE
    have HGV : Hid ((y1.alloc (.cells #[.int .u8 0, .string ⟨#[]⟩, .string ⟨#[]⟩, .int .i64 0, .slice none 0 0, .string ⟨#[]⟩, .int .i64 0, .int .i64 0, .int .i64 0, .int .i64 0, .int .i64 0] (57 : TypeId))).setRow y1.heap.size #[.int .u8 q1k, .string q1g, .string q1m, .int .i64 q1n, .slice q1la q1ln q1lc, .string q1qt, .int .i64 q1qp, .int .i64 q1o, .int .i64 q1u, .int .i64 q1c, .int .i64 q1a] = U1) := hide HU1.out.symm
    go_wp2_with (first | (refine wpList_store_row rfl (57 : TypeId) _ _ rfl y1.heap.size #[.int .u8 q1k, .string q1g, .string q1m, .int .i64 q1n, .slice q1la q1ln q1lc, .string q1qt, .int .i64 q1qp, .int .i64 q1o, .int .i64 q1u, .int .i64 q1c, .int .i64 q1a] rfl rfl (57 : TypeId) _ hz2 (by kernel_rfl) rfl (by simp [Value.oneCell']) ?_; rw [HGV.out]) | (refine wpList_load_row_w rfl (57 : TypeId) (.tmp 8) rfl x1.heap.size rfl (57 : TypeId) _ (0, 0) _ HG1.out Tryz.underlying57 rfl (by kernel_rfl) ?_) | (refine wpList_load_row_w rfl (57 : TypeId) (.tmp 9) rfl y1.heap.size rfl (57 : TypeId) _ (0, 0) _ HG2.out Tryz.underlying57 rfl (by kernel_rfl) ?_))
    refine HC.out.mono ?_
    rintro e w2 ⟨rfl, hb3⟩
    have HX := hide (HX2.out.trans (hb3.mono HX2.out.size))
    clear HC HX2 HG1 HG2 hz2 hb3 hEn hEe
    go_wp2_with fail
    refine (getRequest_any _ (HIN.out _ HX.out)).mono ?_
    intro e x2 hg
    obtain ⟨p2k, p2c, p2d, p2t, p2p, p2bp, p2be, p2bf, p2bla, p2bln, p2blc, p2o, p2m, p2z, p2yk, p2yg, p2ym, p2yn, p2yla, p2yln, p2ylc, p2yqt, p2yqp, p2yo, p2yu, p2yc, p2ya, rfl, hA1, hb1⟩ := hg.get
    clear hg
    have hbx := boxed (w := x2) (T := (63 : TypeId)) (z := #[.int .u8 0, .int .i64 0, .int .i64 0, .string ⟨#[]⟩, .int .i64 0, .int .i64 0, .int .i64 0, .int .i64 0, .slice none 0 0, .int .i64 0, .int .i64 0, .int .i64 0, .int .u8 0, .string ⟨#[]⟩, .string ⟨#[]⟩, .int .i64 0, .slice none 0 0, .string ⟨#[]⟩, .int .i64 0, .int .i64 0, .int .i64 0, .int .i64 0, .int .i64 0]) (c := #[.int .u8 p2k, .int .i64 p2c, .int .i64 p2d, .string p2t, .int .i64 p2p, .int .i64 p2bp, .int .i64 p2be, .int .i64 p2bf, .slice p2bla p2bln p2blc, .int .i64 p2o, .int .i64 p2m, .int .i64 p2z, .int .u8 p2yk, .string p2yg, .string p2ym, .int .i64 p2yn, .slice p2yla p2yln p2ylc, .string p2yqt, .int .i64 p2yqp, .int .i64 p2yo, .int .i64 p2yu, .int .i64 p2yc, .int .i64 p2ya])
    obtain ⟨V2, HV2⟩ : ∃ V, Hid (V = (x2.alloc (.cells #[.int .u8 0, .int .i64 0, .int .i64 0, .string ⟨#[]⟩, .int .i64 0, .int .i64 0, .int .i64 0, .int .i64 0, .slice none 0 0, .int .i64 0, .int .i64 0, .int .i64 0, .int .u8 0, .string ⟨#[]⟩, .string ⟨#[]⟩, .int .i64 0, .slice none 0 0, .string ⟨#[]⟩, .int .i64 0, .int .i64 0, .int .i64 0, .int .i64 0, .int .i64 0] (63 : TypeId))).setRow x2.heap.size #[.int .u8 p2k, .int .i64 p2c, .int .i64 p2d, .string p2t, .int .i64 p2p, .int .i64 p2bp, .int .i64 p2be, .int .i64 p2bf, .slice p2bla p2bln p2blc, .int .i64 p2o, .int .i64 p2m, .int .i64 p2z, .int .u8 p2yk, .string p2yg, .string p2ym, .int .i64 p2yn, .slice p2yla p2yln p2ylc, .string p2yqt, .int .i64 p2yqp, .int .i64 p2yo, .int .i64 p2yu, .int .i64 p2yc, .int .i64 p2ya]) := ⟨_, hide rfl⟩
    rw [← HV2.out] at hbx
    have hX1 : Below w0.heap.size w0 V2 := (HX.out.trans (hb1.mono HX.out.size)).trans (hbx.1.mono (Nat.le_trans HX.out.size hb1.size))
    have hA1 := ARequest.a _ _ _ _ hbx.1 hA1
    have HA1 := hide hA1
    have HG1 := hide hbx.2
    have hz1 := heap_alloc_new x2 (.cells #[.int .u8 0, .int .i64 0, .int .i64 0, .string ⟨#[]⟩, .int .i64 0, .int .i64 0, .int .i64 0, .int .i64 0, .slice none 0 0, .int .i64 0, .int .i64 0, .int .i64 0, .int .u8 0, .string ⟨#[]⟩, .string ⟨#[]⟩, .int .i64 0, .slice none 0 0, .string ⟨#[]⟩, .int .i64 0, .int .i64 0, .int .i64 0, .int .i64 0, .int .i64 0] (63 : TypeId))
    have HX1 := hide hX1
    clear hA1 hb1 hbx hX1
    go_wp2_with (refine wpList_store_row rfl (63 : TypeId) _ _ rfl x2.heap.size #[.int .u8 p2k, .int .i64 p2c, .int .i64 p2d, .string p2t, .int .i64 p2p, .int .i64 p2bp, .int .i64 p2be, .int .i64 p2bf, .slice p2bla p2bln p2blc, .int .i64 p2o, .int .i64 p2m, .int .i64 p2z, .int .u8 p2yk, .string p2yg, .string p2ym, .int .i64 p2yn, .slice p2yla p2yln p2ylc, .string p2yqt, .int .i64 p2yqp, .int .i64 p2yo, .int .i64 p2yu, .int .i64 p2yc, .int .i64 p2ya] rfl rfl (63 : TypeId) _ hz1 (by kernel_rfl) rfl (by simp [Value.oneCell']) ?_)
    rw [← HV2.out]
    refine (refGetRequest_any a (HBB.out _ (HB0.out.trans (HX1.out.mono HB0.out.size))) (by omega)).mono ?_
    intro e y2 hg
    obtain ⟨q2k, q2c, q2d, q2t, q2p, q2bp, q2be, q2bf, q2bla, q2bln, q2blc, q2o, q2m, q2z, q2yk, q2yg, q2ym, q2yn, q2yla, q2yln, q2ylc, q2yqt, q2yqp, q2yo, q2yu, q2yc, q2ya, rfl, hA2, hb2⟩ := hg.get
    clear hg hz1
    have hbx := boxed (w := y2) (T := (63 : TypeId)) (z := #[.int .u8 0, .int .i64 0, .int .i64 0, .string ⟨#[]⟩, .int .i64 0, .int .i64 0, .int .i64 0, .int .i64 0, .slice none 0 0, .int .i64 0, .int .i64 0, .int .i64 0, .int .u8 0, .string ⟨#[]⟩, .string ⟨#[]⟩, .int .i64 0, .slice none 0 0, .string ⟨#[]⟩, .int .i64 0, .int .i64 0, .int .i64 0, .int .i64 0, .int .i64 0]) (c := #[.int .u8 q2k, .int .i64 q2c, .int .i64 q2d, .string q2t, .int .i64 q2p, .int .i64 q2bp, .int .i64 q2be, .int .i64 q2bf, .slice q2bla q2bln q2blc, .int .i64 q2o, .int .i64 q2m, .int .i64 q2z, .int .u8 q2yk, .string q2yg, .string q2ym, .int .i64 q2yn, .slice q2yla q2yln q2ylc, .string q2yqt, .int .i64 q2yqp, .int .i64 q2yo, .int .i64 q2yu, .int .i64 q2yc, .int .i64 q2ya])
    obtain ⟨U2, HU2⟩ : ∃ V, Hid (V = (y2.alloc (.cells #[.int .u8 0, .int .i64 0, .int .i64 0, .string ⟨#[]⟩, .int .i64 0, .int .i64 0, .int .i64 0, .int .i64 0, .slice none 0 0, .int .i64 0, .int .i64 0, .int .i64 0, .int .u8 0, .string ⟨#[]⟩, .string ⟨#[]⟩, .int .i64 0, .slice none 0 0, .string ⟨#[]⟩, .int .i64 0, .int .i64 0, .int .i64 0, .int .i64 0, .int .i64 0] (63 : TypeId))).setRow y2.heap.size #[.int .u8 q2k, .int .i64 q2c, .int .i64 q2d, .string q2t, .int .i64 q2p, .int .i64 q2bp, .int .i64 q2be, .int .i64 q2bf, .slice q2bla q2bln q2blc, .int .i64 q2o, .int .i64 q2m, .int .i64 q2z, .int .u8 q2yk, .string q2yg, .string q2ym, .int .i64 q2yn, .slice q2yla q2yln q2ylc, .string q2yqt, .int .i64 q2yqp, .int .i64 q2yo, .int .i64 q2yu, .int .i64 q2yc, .int .i64 q2ya]) := ⟨_, hide rfl⟩
    rw [← HU2.out] at hbx
    have hb12 : Below V2.heap.size V2 U2 := hb2.trans (hbx.1.mono hb2.size)
    have HX2 := hide (HX1.out.trans (hb12.mono HX1.out.size))
    have HG1 := hide ((hb12.block _ (hp_lt HG1.out)).trans HG1.out)
    have HG2 := hide hbx.2
    have HC := hide (lrequest_eq (ARequest.a _ _ _ _ hb12 HA1.out) (ARequest.a _ _ _ _ hbx.1 hA2))
    have hz2 := heap_alloc_new y2 (.cells #[.int .u8 0, .int .i64 0, .int .i64 0, .string ⟨#[]⟩, .int .i64 0, .int .i64 0, .int .i64 0, .int .i64 0, .slice none 0 0, .int .i64 0, .int .i64 0, .int .i64 0, .int .u8 0, .string ⟨#[]⟩, .string ⟨#[]⟩, .int .i64 0, .slice none 0 0, .string ⟨#[]⟩, .int .i64 0, .int .i64 0, .int .i64 0, .int .i64 0, .int .i64 0] (63 : TypeId))
    clear hA2 hb2 hbx hb12 HA1 HX1
    obtain ⟨E, hE⟩ : ∃ E, E = era (Cod.got Cod.request 5 60000 zs).isSome := ⟨_, rfl⟩
    rw [← hE]
    have hEn : (E != E) = false := by simp
    have hEe : (E == E) = true := by simp
    clear hE
    have HGV : Hid ((y2.alloc (.cells #[.int .u8 0, .int .i64 0, .int .i64 0, .string ⟨#[]⟩, .int .i64 0, .int .i64 0, .int .i64 0, .int .i64 0, .slice none 0 0, .int .i64 0, .int .i64 0, .int .i64 0, .int .u8 0, .string ⟨#[]⟩, .string ⟨#[]⟩, .int .i64 0, .slice none 0 0, .string ⟨#[]⟩, .int .i64 0, .int .i64 0, .int .i64 0, .int .i64 0, .int .i64 0] (63 : TypeId))).setRow y2.heap.size #[.int .u8 q2k, .int .i64 q2c, .int .i64 q2d, .string q2t, .int .i64 q2p, .int .i64 q2bp, .int .i64 q2be, .int .i64 q2bf, .slice q2bla q2bln q2blc, .int .i64 q2o, .int .i64 q2m, .int .i64 q2z, .int .u8 q2yk, .string q2yg, .string q2ym, .int .i64 q2yn, .slice q2yla q2yln q2ylc, .string q2yqt, .int .i64 q2yqp, .int .i64 q2yo, .int .i64 q2yu, .int .i64 q2yc, .int .i64 q2ya] = U2) := hide HU2.out.symm
    go_wp2_with (first | (refine wpList_store_row rfl (63 : TypeId) _ _ rfl y2.heap.size #[.int .u8 q2k, .int .i64 q2c, .int .i64 q2d, .string q2t, .int .i64 q2p, .int .i64 q2bp, .int .i64 q2be, .int .i64 q2bf, .slice q2bla q2bln q2blc, .int .i64 q2o, .int .i64 q2m, .int .i64 q2z, .int .u8 q2yk, .string q2yg, .string q2ym, .int .i64 q2yn, .slice q2yla q2yln q2ylc, .string q2yqt, .int .i64 q2yqp, .int .i64 q2yo, .int .i64 q2yu, .int .i64 q2yc, .int .i64 q2ya] rfl rfl (63 : TypeId) _ hz2 (by kernel_rfl) rfl (by simp [Value.oneCell']) ?_; rw [HGV.out]) | (refine wpList_load_row_w rfl (63 : TypeId) (.tmp 10) rfl x2.heap.size rfl (63 : TypeId) _ (0, 0) _ HG1.out Tryz.underlying63 rfl (by kernel_rfl) ?_) | (refine wpList_load_row_w rfl (63 : TypeId) (.tmp 11) rfl y2.heap.size rfl (63 : TypeId) _ (0, 0) _ HG2.out Tryz.underlying63 rfl (by kernel_rfl) ?_))
    refine HC.out.mono ?_
    rintro e w3 ⟨rfl, hb3⟩
    have HX := hide (HX2.out.trans (hb3.mono HX2.out.size))
    clear HC HX2 HG1 HG2 hz2 hb3 hEn hEe
    go_wp2_with fail
    refine (getResponse_any _ (HIN.out _ HX.out)).mono ?_
    intro e x3 hg
    obtain ⟨p3k, p3c, p3d, p3r, p3p, p3o, p3s, p3z, p3x, p3la, p3ln, p3lc, p3yr, p3yp, p3ye, p3yn, p3yk, p3yla, p3yln, p3ylc, rfl, hA1, hb1⟩ := hg.get
    clear hg
    have hbx := boxed (w := x3) (T := (72 : TypeId)) (z := #[.int .u8 0, .int .i64 0, .int .i64 0, .int .i64 0, .int .i64 0, .int .i64 0, .int .i64 0, .int .i64 0, .bool false, .slice none 0 0, .int .i64 0, .int .i64 0, .int .i64 0, .int .i64 0, .int .u8 0, .slice none 0 0]) (c := #[.int .u8 p3k, .int .i64 p3c, .int .i64 p3d, .int .i64 p3r, .int .i64 p3p, .int .i64 p3o, .int .i64 p3s, .int .i64 p3z, .bool p3x, .slice p3la p3ln p3lc, .int .i64 p3yr, .int .i64 p3yp, .int .i64 p3ye, .int .i64 p3yn, .int .u8 p3yk, .slice p3yla p3yln p3ylc])
    obtain ⟨V3, HV3⟩ : ∃ V, Hid (V = (x3.alloc (.cells #[.int .u8 0, .int .i64 0, .int .i64 0, .int .i64 0, .int .i64 0, .int .i64 0, .int .i64 0, .int .i64 0, .bool false, .slice none 0 0, .int .i64 0, .int .i64 0, .int .i64 0, .int .i64 0, .int .u8 0, .slice none 0 0] (72 : TypeId))).setRow x3.heap.size #[.int .u8 p3k, .int .i64 p3c, .int .i64 p3d, .int .i64 p3r, .int .i64 p3p, .int .i64 p3o, .int .i64 p3s, .int .i64 p3z, .bool p3x, .slice p3la p3ln p3lc, .int .i64 p3yr, .int .i64 p3yp, .int .i64 p3ye, .int .i64 p3yn, .int .u8 p3yk, .slice p3yla p3yln p3ylc]) := ⟨_, hide rfl⟩
    rw [← HV3.out] at hbx
    have hX1 : Below w0.heap.size w0 V3 := (HX.out.trans (hb1.mono HX.out.size)).trans (hbx.1.mono (Nat.le_trans HX.out.size hb1.size))
    have hA1 := AResponse.a _ _ _ _ hbx.1 hA1
    have HA1 := hide hA1
    have HG1 := hide hbx.2
    have hz1 := heap_alloc_new x3 (.cells #[.int .u8 0, .int .i64 0, .int .i64 0, .int .i64 0, .int .i64 0, .int .i64 0, .int .i64 0, .int .i64 0, .bool false, .slice none 0 0, .int .i64 0, .int .i64 0, .int .i64 0, .int .i64 0, .int .u8 0, .slice none 0 0] (72 : TypeId))
    have HX1 := hide hX1
    clear hA1 hb1 hbx hX1
    go_wp2_with (refine wpList_store_row rfl (72 : TypeId) _ _ rfl x3.heap.size #[.int .u8 p3k, .int .i64 p3c, .int .i64 p3d, .int .i64 p3r, .int .i64 p3p, .int .i64 p3o, .int .i64 p3s, .int .i64 p3z, .bool p3x, .slice p3la p3ln p3lc, .int .i64 p3yr, .int .i64 p3yp, .int .i64 p3ye, .int .i64 p3yn, .int .u8 p3yk, .slice p3yla p3yln p3ylc] rfl rfl (72 : TypeId) _ hz1 (by kernel_rfl) rfl (by simp [Value.oneCell']) ?_)
    rw [← HV3.out]
    refine (refGetResponse_any a (HBB.out _ (HB0.out.trans (HX1.out.mono HB0.out.size))) (by omega)).mono ?_
    intro e y3 hg
    obtain ⟨q3k, q3c, q3d, q3r, q3p, q3o, q3s, q3z, q3x, q3la, q3ln, q3lc, q3yr, q3yp, q3ye, q3yn, q3yk, q3yla, q3yln, q3ylc, rfl, hA2, hb2⟩ := hg.get
    clear hg hz1
    have hbx := boxed (w := y3) (T := (72 : TypeId)) (z := #[.int .u8 0, .int .i64 0, .int .i64 0, .int .i64 0, .int .i64 0, .int .i64 0, .int .i64 0, .int .i64 0, .bool false, .slice none 0 0, .int .i64 0, .int .i64 0, .int .i64 0, .int .i64 0, .int .u8 0, .slice none 0 0]) (c := #[.int .u8 q3k, .int .i64 q3c, .int .i64 q3d, .int .i64 q3r, .int .i64 q3p, .int .i64 q3o, .int .i64 q3s, .int .i64 q3z, .bool q3x, .slice q3la q3ln q3lc, .int .i64 q3yr, .int .i64 q3yp, .int .i64 q3ye, .int .i64 q3yn, .int .u8 q3yk, .slice q3yla q3yln q3ylc])
    obtain ⟨U3, HU3⟩ : ∃ V, Hid (V = (y3.alloc (.cells #[.int .u8 0, .int .i64 0, .int .i64 0, .int .i64 0, .int .i64 0, .int .i64 0, .int .i64 0, .int .i64 0, .bool false, .slice none 0 0, .int .i64 0, .int .i64 0, .int .i64 0, .int .i64 0, .int .u8 0, .slice none 0 0] (72 : TypeId))).setRow y3.heap.size #[.int .u8 q3k, .int .i64 q3c, .int .i64 q3d, .int .i64 q3r, .int .i64 q3p, .int .i64 q3o, .int .i64 q3s, .int .i64 q3z, .bool q3x, .slice q3la q3ln q3lc, .int .i64 q3yr, .int .i64 q3yp, .int .i64 q3ye, .int .i64 q3yn, .int .u8 q3yk, .slice q3yla q3yln q3ylc]) := ⟨_, hide rfl⟩
    rw [← HU3.out] at hbx
    have hb12 : Below V3.heap.size V3 U3 := hb2.trans (hbx.1.mono hb2.size)
    have HX2 := hide (HX1.out.trans (hb12.mono HX1.out.size))
    have HG1 := hide ((hb12.block _ (hp_lt HG1.out)).trans HG1.out)
    have HG2 := hide hbx.2
    have HC := hide (lresponse_eq (AResponse.a _ _ _ _ hb12 HA1.out) (AResponse.a _ _ _ _ hbx.1 hA2))
    have hz2 := heap_alloc_new y3 (.cells #[.int .u8 0, .int .i64 0, .int .i64 0, .int .i64 0, .int .i64 0, .int .i64 0, .int .i64 0, .int .i64 0, .bool false, .slice none 0 0, .int .i64 0, .int .i64 0, .int .i64 0, .int .i64 0, .int .u8 0, .slice none 0 0] (72 : TypeId))
    clear hA2 hb2 hbx hb12 HA1 HX1
    obtain ⟨E, hE⟩ : ∃ E, E = era (Cod.got Cod.response 6 60000 zs).isSome := ⟨_, rfl⟩
    rw [← hE]
    have hEn : (E != E) = false := by simp
    have hEe : (E == E) = true := by simp
    clear hE
    have HGV : Hid ((y3.alloc (.cells #[.int .u8 0, .int .i64 0, .int .i64 0, .int .i64 0, .int .i64 0, .int .i64 0, .int .i64 0, .int .i64 0, .bool false, .slice none 0 0, .int .i64 0, .int .i64 0, .int .i64 0, .int .i64 0, .int .u8 0, .slice none 0 0] (72 : TypeId))).setRow y3.heap.size #[.int .u8 q3k, .int .i64 q3c, .int .i64 q3d, .int .i64 q3r, .int .i64 q3p, .int .i64 q3o, .int .i64 q3s, .int .i64 q3z, .bool q3x, .slice q3la q3ln q3lc, .int .i64 q3yr, .int .i64 q3yp, .int .i64 q3ye, .int .i64 q3yn, .int .u8 q3yk, .slice q3yla q3yln q3ylc] = U3) := hide HU3.out.symm
    go_wp2_with (first | (refine wpList_store_row rfl (72 : TypeId) _ _ rfl y3.heap.size #[.int .u8 q3k, .int .i64 q3c, .int .i64 q3d, .int .i64 q3r, .int .i64 q3p, .int .i64 q3o, .int .i64 q3s, .int .i64 q3z, .bool q3x, .slice q3la q3ln q3lc, .int .i64 q3yr, .int .i64 q3yp, .int .i64 q3ye, .int .i64 q3yn, .int .u8 q3yk, .slice q3yla q3yln q3ylc] rfl rfl (72 : TypeId) _ hz2 (by kernel_rfl) rfl (by simp [Value.oneCell']) ?_; rw [HGV.out]) | (refine wpList_load_row_w rfl (72 : TypeId) (.tmp 12) rfl x3.heap.size rfl (72 : TypeId) _ (0, 0) _ HG1.out Tryz.underlying72 rfl (by kernel_rfl) ?_) | (refine wpList_load_row_w rfl (72 : TypeId) (.tmp 13) rfl y3.heap.size rfl (72 : TypeId) _ (0, 0) _ HG2.out Tryz.underlying72 rfl (by kernel_rfl) ?_))
    refine HC.out.mono ?_
    rintro e w4 ⟨rfl, hb3⟩
    have HX := hide (HX2.out.trans (hb3.mono HX2.out.size))
    clear HC HX2 HG1 HG2 hz2 hb3 hEn hEe
    go_wp2_with fail
    refine (getRaft_any _ (HIN.out _ HX.out)).mono ?_
    intro e x4 hg
    obtain ⟨p4g, p4k, p4f, p4t, p4m, p4i, p4o, p4c, p4r, p4x, p4la, p4ln, p4lc, p4ya, p4yn, p4yc, rfl, hA1, hb1⟩ := hg.get
    clear hg
    have hbx := boxed (w := x4) (T := (79 : TypeId)) (z := #[.string ⟨#[]⟩, .int .u8 0, .int .i64 0, .int .i64 0, .int .i64 0, .int .i64 0, .int .i64 0, .int .i64 0, .int .i64 0, .bool false, .slice none 0 0, .slice none 0 0]) (c := #[.string p4g, .int .u8 p4k, .int .i64 p4f, .int .i64 p4t, .int .i64 p4m, .int .i64 p4i, .int .i64 p4o, .int .i64 p4c, .int .i64 p4r, .bool p4x, .slice p4la p4ln p4lc, .slice p4ya p4yn p4yc])
    obtain ⟨V4, HV4⟩ : ∃ V, Hid (V = (x4.alloc (.cells #[.string ⟨#[]⟩, .int .u8 0, .int .i64 0, .int .i64 0, .int .i64 0, .int .i64 0, .int .i64 0, .int .i64 0, .int .i64 0, .bool false, .slice none 0 0, .slice none 0 0] (79 : TypeId))).setRow x4.heap.size #[.string p4g, .int .u8 p4k, .int .i64 p4f, .int .i64 p4t, .int .i64 p4m, .int .i64 p4i, .int .i64 p4o, .int .i64 p4c, .int .i64 p4r, .bool p4x, .slice p4la p4ln p4lc, .slice p4ya p4yn p4yc]) := ⟨_, hide rfl⟩
    rw [← HV4.out] at hbx
    have hX1 : Below w0.heap.size w0 V4 := (HX.out.trans (hb1.mono HX.out.size)).trans (hbx.1.mono (Nat.le_trans HX.out.size hb1.size))
    have hA1 := ARaft.a _ _ _ _ hbx.1 hA1
    have HA1 := hide hA1
    have HG1 := hide hbx.2
    have hz1 := heap_alloc_new x4 (.cells #[.string ⟨#[]⟩, .int .u8 0, .int .i64 0, .int .i64 0, .int .i64 0, .int .i64 0, .int .i64 0, .int .i64 0, .int .i64 0, .bool false, .slice none 0 0, .slice none 0 0] (79 : TypeId))
    have HX1 := hide hX1
    clear hA1 hb1 hbx hX1
    go_wp2_with (refine wpList_store_row rfl (79 : TypeId) _ _ rfl x4.heap.size #[.string p4g, .int .u8 p4k, .int .i64 p4f, .int .i64 p4t, .int .i64 p4m, .int .i64 p4i, .int .i64 p4o, .int .i64 p4c, .int .i64 p4r, .bool p4x, .slice p4la p4ln p4lc, .slice p4ya p4yn p4yc] rfl rfl (79 : TypeId) _ hz1 (by kernel_rfl) rfl (by simp [Value.oneCell']) ?_)
    rw [← HV4.out]
    refine (refGetRaft_any a (HBB.out _ (HB0.out.trans (HX1.out.mono HB0.out.size))) (by omega)).mono ?_
    intro e y4 hg
    obtain ⟨q4g, q4k, q4f, q4t, q4m, q4i, q4o, q4c, q4r, q4x, q4la, q4ln, q4lc, q4ya, q4yn, q4yc, rfl, hA2, hb2⟩ := hg.get
    clear hg hz1
    have hbx := boxed (w := y4) (T := (79 : TypeId)) (z := #[.string ⟨#[]⟩, .int .u8 0, .int .i64 0, .int .i64 0, .int .i64 0, .int .i64 0, .int .i64 0, .int .i64 0, .int .i64 0, .bool false, .slice none 0 0, .slice none 0 0]) (c := #[.string q4g, .int .u8 q4k, .int .i64 q4f, .int .i64 q4t, .int .i64 q4m, .int .i64 q4i, .int .i64 q4o, .int .i64 q4c, .int .i64 q4r, .bool q4x, .slice q4la q4ln q4lc, .slice q4ya q4yn q4yc])
    obtain ⟨U4, HU4⟩ : ∃ V, Hid (V = (y4.alloc (.cells #[.string ⟨#[]⟩, .int .u8 0, .int .i64 0, .int .i64 0, .int .i64 0, .int .i64 0, .int .i64 0, .int .i64 0, .int .i64 0, .bool false, .slice none 0 0, .slice none 0 0] (79 : TypeId))).setRow y4.heap.size #[.string q4g, .int .u8 q4k, .int .i64 q4f, .int .i64 q4t, .int .i64 q4m, .int .i64 q4i, .int .i64 q4o, .int .i64 q4c, .int .i64 q4r, .bool q4x, .slice q4la q4ln q4lc, .slice q4ya q4yn q4yc]) := ⟨_, hide rfl⟩
    rw [← HU4.out] at hbx
    have hb12 : Below V4.heap.size V4 U4 := hb2.trans (hbx.1.mono hb2.size)
    have HX2 := hide (HX1.out.trans (hb12.mono HX1.out.size))
    have HG1 := hide ((hb12.block _ (hp_lt HG1.out)).trans HG1.out)
    have HG2 := hide hbx.2
    have HC := hide (lraft_eq (ARaft.a _ _ _ _ hb12 HA1.out) (ARaft.a _ _ _ _ hbx.1 hA2))
    have hz2 := heap_alloc_new y4 (.cells #[.string ⟨#[]⟩, .int .u8 0, .int .i64 0, .int .i64 0, .int .i64 0, .int .i64 0, .int .i64 0, .int .i64 0, .int .i64 0, .bool false, .slice none 0 0, .slice none 0 0] (79 : TypeId))
    clear hA2 hb2 hbx hb12 HA1 HX1
    obtain ⟨E, hE⟩ : ∃ E, E = era (Cod.got Cod.raft 7 65545 zs).isSome := ⟨_, rfl⟩
    rw [← hE]
    have hEn : (E != E) = false := by simp
    have hEe : (E == E) = true := by simp
    clear hE
    have HGV : Hid ((y4.alloc (.cells #[.string ⟨#[]⟩, .int .u8 0, .int .i64 0, .int .i64 0, .int .i64 0, .int .i64 0, .int .i64 0, .int .i64 0, .int .i64 0, .bool false, .slice none 0 0, .slice none 0 0] (79 : TypeId))).setRow y4.heap.size #[.string q4g, .int .u8 q4k, .int .i64 q4f, .int .i64 q4t, .int .i64 q4m, .int .i64 q4i, .int .i64 q4o, .int .i64 q4c, .int .i64 q4r, .bool q4x, .slice q4la q4ln q4lc, .slice q4ya q4yn q4yc] = U4) := hide HU4.out.symm
    go_wp2_with (first | (refine wpList_store_row rfl (79 : TypeId) _ _ rfl y4.heap.size #[.string q4g, .int .u8 q4k, .int .i64 q4f, .int .i64 q4t, .int .i64 q4m, .int .i64 q4i, .int .i64 q4o, .int .i64 q4c, .int .i64 q4r, .bool q4x, .slice q4la q4ln q4lc, .slice q4ya q4yn q4yc] rfl rfl (79 : TypeId) _ hz2 (by kernel_rfl) rfl (by simp [Value.oneCell']) ?_; rw [HGV.out]) | (refine wpList_load_row_w rfl (79 : TypeId) (.tmp 14) rfl x4.heap.size rfl (79 : TypeId) _ (0, 0) _ HG1.out Tryz.underlying79 rfl (by kernel_rfl) ?_) | (refine wpList_load_row_w rfl (79 : TypeId) (.tmp 15) rfl y4.heap.size rfl (79 : TypeId) _ (0, 0) _ HG2.out Tryz.underlying79 rfl (by kernel_rfl) ?_))
    refine HC.out.mono ?_
    rintro e w5 ⟨rfl, hb3⟩
    have HX := hide (HX2.out.trans (hb3.mono HX2.out.size))
    clear HC HX2 HG1 HG2 hz2 hb3 hEn
    go_wp2_with fail
    refine (kept_any g n d a cap zs _ (HKP.out _ HX.out) (HBB.out _ (HB0.out.trans (HX.out.mono HB0.out.size)))).mono ?_
    rintro e w6 ⟨rfl, rfl⟩
    go_wp2_with fail
    refine (awake_any _).mono ?_
    rintro e w7 ⟨rfl, hb7⟩
    have HE := hide ((HB0.out.trans (HX.out.mono HB0.out.size)).trans (hb7.mono (HB0.out.trans (HX.out.mono HB0.out.size)).size))
    clear hb7
    go_wp2_with fail
    go_ret
    exact ⟨rfl, HE.out⟩

end Go.Proofs.YtnimfkcnkkjlkaaGreat.wireReads

/-
  WireReads returns true.
-/
namespace Go.Proofs.YtnimfkcnkkjlkaaGreat.wireReads
open Go.ChangeShapes Go.WideShapes Go.ChangeAt Go.RowKit
open Go.ChangeMaps (open_string shut_string)
set_option maxRecDepth 100000
set_option linter.unusedVariables false

theorem own : ownKnob Tryz.prog.godebug = none := by kernel_rfl
theorem laidOut : laidOutB Tryz.prog = true := by kernel_rfl
theorem bytes5 : Tryz.prog.bytesOf 5 = 1 := by kernel_rfl


set_option maxRecDepth 100000 in
theorem lifted (os : Os) (started : os.Started) (H : Type) (enc : TypeId × Value → H) :
    ReturnsInHanded {} Tryz.checked os 4 .any (Rows.wireReadsSpec.pre6 enc Tryz.prog Tryz.f4 Rows.wireReadsRow.domain false) (Rows.wireReadsSpec.post enc Tryz.prog Tryz.f4 false true false false) := by
  refine returnsInHanded_of_change_sized (C := Tryz.checked) own started (by kernel_rfl) Tryz.func4
    (ChangeSpec.witness6 (enc := enc) (C := Tryz.checked) false ⟨#[], #[.slice none 0 0], []⟩ 8 (by kernel_rfl) (by kernel_rfl) (by kernel_rfl) (by kernel_rfl)) ?_
  intro W base args ds gs before hval0 hW _ hsz0 _
  have hsz : (DataW.weightsEach Tryz.prog (Tryz.f4.params.toList ++ Rows.wireReadsSpec.plain.varTypes Tryz.prog) (ds ++ gs)).all (· ≤ reachBytes) = true := hsz0
  clear hsz0
  have hval : ∀ (j : Nat) t v, Tryz.f4.params[j]? = some t → args[j]? = some v → Value.okWide Tryz.prog W .any base t v := hval0
  have hW' := hW
  obtain ⟨p, q, hA0, hV, rfl, hfz, hnd⟩ := hW
  have hA : DataW.TrodAll enc Tryz.prog W 0 (fun _ => true) true Tryz.f4.params.toList args.toList ds p := hA0
  rw [Tryz.params4] at hA hval hsz
  obtain ⟨v0, vs0, d0, ds0, p0, q0, hargs, rfl, rfl, h0, r0⟩ := trodAll_cons hA
  obtain ⟨rfl, rfl, rfl⟩ := trodAll_nil r0
  obtain rfl : args = #[v0] := by cases args; simp_all
  obtain ⟨rfl, rfl⟩ := trodVars_none hV
  obtain ⟨a0, len0, cap0, rfl⟩ := okWide_slice Tryz.underlying32 (hval 0 32 v0 rfl rfl)
  have k0 := h0
  have lt0 : ∀ x ∈ p0, x.block < W.heap.size := by obtain ⟨m, hm⟩ := k0; exact DataW.trod_lt m _ _ _ hm
  obtain ⟨zs0, hB0, hd0⟩ := open_bs h0
  clear hA0 hval0
  have hn0 : len0 ≤ 140737488351232 := by
    rcases hd0 with ⟨_, hc⟩ | ⟨all, hc, rfl⟩
    · have := hB0.le
      omega
    · have h := sized_slice hsz (j := 0) (t := 32) (e := 5) rfl rfl Tryz.underlying32
      rw [bytes5] at h
      simp only [lits, List.length_map, List.length_take, List.length_drop, reachBytes] at h
      have := hB0.le
      omega
  refine (walk a0 len0 cap0 zs0 W hB0).mono fun e W' ⟨he, bel⟩ => ?_
  subst he
  exact ⟨_, rfl, _, _, _, [], _, [], hW', trodAll_mk1 (shut_bool Tryz.underlying4 _), (trodAll_cons_mk (Below.trod laidOut (by kernel_rfl) (of_decide_eq_true (by kernel_rfl)) k0 bel lt0) trodAll_mk0), rfl, bel.frame _, fun h => by cases h⟩


theorem over : Rows.wireReadsRow.holds Tryz.pinned (OpenSpec.ofChange Rows.wireReadsSpec) :=
  OpenClaim.holds_of_wide 4 Tryz.f4 rfl rfl rfl rfl rfl rfl rfl ⟨rfl, rfl, rfl, rfl, rfl⟩ rfl rfl rfl rfl rfl (by kernel_rfl) Tryz.func4 (by kernel_rfl)
    (of_decide_eq_true (by kernel_rfl)) (by unfold Func.isWrapper; first | (rw [if_pos (by decide +kernel)]; kernel_rfl) | (rw [if_neg (by decide +kernel)]; exact ⟨rfl, rfl⟩))
    (fun os started H enc _ => lifted os started H enc)

end Go.Proofs.YtnimfkcnkkjlkaaGreat.wireReads
namespace Go.Proofs.YtnimfkcnkkjlkaaGreat
theorem wireReads_holds : Rows.WireReadsSaid := wireReads.over
#print axioms wireReads_holds
end Go.Proofs.YtnimfkcnkkjlkaaGreat

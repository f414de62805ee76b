/-
  Texts put into one.
-/
import Derived.Test.YtnimfkcnkkjlkaaGreatPk19cc588b
import Derived.Test.YtnimfkcnkkjlkaaGreatPkb39a30be
import Derived.Test.YtnimfkcnkkjlkaaGreatPk78edb5fc

/-
  Commands that are the same are told so.
-/
namespace Go.Proofs.YtnimfkcnkkjlkaaGreat
open Go.RowKit
set_option maxRecDepth 100000
set_option linter.unusedVariables false

section
variable {w : World}

set_option maxHeartbeats 4000000 in
theorem kbatch_eq {x : Cod.Batch} {cs ds : List Value} (hx0 : ABatch w x cs) (hy0 : ABatch w x ds) : Calls Tryz.prog 58 #[.agg cs.toArray, .agg ds.toArray] w fun e w' => e = .returned (.bool true) ∧ Below w.heap.size w w' := by
  obtain ⟨p, e, f, l⟩ := x
  obtain ⟨_, _, rfl, ⟨rfl, hp⟩, ⟨_, _, rfl, ⟨rfl, he⟩, ⟨_, _, rfl, ⟨rfl, hf⟩, ⟨la, ln, lc, rfl, hl⟩⟩⟩⟩ := hx0
  obtain ⟨_, _, rfl, ⟨rfl, _⟩, ⟨_, _, rfl, ⟨rfl, _⟩, ⟨_, _, rfl, ⟨rfl, _⟩, ⟨lp, lq, lr, rfl, kl⟩⟩⟩⟩ := hy0
  have hep : (p == p) = true := by simp
  have hee : (e == e) = true := by simp
  have hef : (f == f) = true := by simp
  have hb2 := (fresh w (.cells #[.int .i64 p, .int .i64 e, .int .i64 f, .slice la ln lc] (46 : TypeId))).alloc (by simp) (.cells #[.int .i64 p, .int .i64 e, .int .i64 f, .slice lp lq lr] (46 : TypeId))
  obtain ⟨W, HW⟩ : ∃ W, Hid (W = (w.alloc (.cells #[.int .i64 p, .int .i64 e, .int .i64 f, .slice la ln lc] (46 : TypeId))).alloc (.cells #[.int .i64 p, .int .i64 e, .int .i64 f, .slice lp lq lr] (46 : TypeId))) := ⟨_, hide rfl⟩
  have hbW : Below w.heap.size w W := by rw [HW.out]; exact hb2
  have hbx := boxes2r w (.cells #[.int .i64 p, .int .i64 e, .int .i64 f, .slice la ln lc] (46 : TypeId)) (.cells #[.int .i64 p, .int .i64 e, .int .i64 f, .slice lp lq lr] (46 : TypeId))
  rw [← HW.out] at hbx
  have HBX := hide hbx
  have HBW := hide hbW
  clear hb2 hbx hbW
  have HC0 := hide (fun V (hV : Below w.heap.size w V) => krecs_eq (w := V) (hl.keep rBytes hV) (kl.keep rBytes hV))
  clear hl kl
  have HB0 := hide (Below.refl W.heap.size W)
  have hx1 := (HB0.out.block _ (hp_lt HBX.out.1)).trans HBX.out.1
  have hx2 := (HB0.out.block _ (hp_lt HBX.out.2)).trans HBX.out.2
  have g0 := (row_facts hx1 0 (.int .i64 p) rfl).1
  have k0 := (row_facts hx2 0 (.int .i64 p) rfl).1
  have g1 := (row_facts hx1 1 (.int .i64 e) rfl).1
  have k1 := (row_facts hx2 1 (.int .i64 e) rfl).1
  have g2 := (row_facts hx1 2 (.int .i64 f) rfl).1
  have k2 := (row_facts hx2 2 (.int .i64 f) rfl).1
  have g3 := (row_facts hx1 3 (.slice la ln lc) rfl).1
  have k3 := (row_facts hx2 3 (.slice lp lq lr) rfl).1
  clear hx1 hx2
  rw [HW.out] at g0 k0 g1 k1 g2 k2 g3 k3
  go_enter Tryz.func58, Tryz.ntmps58
  go_wp2_with fail
  rw [← HW.out]
  refine (HC0.out _ HBW.out).mono ?_
  rintro e w1 ⟨rfl, hb⟩
  have HB1 := hide (HB0.out.trans (hb.mono HB0.out.size))
  clear hb
  clear g0 k0 g1 k1 g2 k2 g3 k3
  have hx1 := (HB1.out.block _ (hp_lt HBX.out.1)).trans HBX.out.1
  have hx2 := (HB1.out.block _ (hp_lt HBX.out.2)).trans HBX.out.2
  have g0 := (row_facts hx1 0 (.int .i64 p) rfl).1
  have k0 := (row_facts hx2 0 (.int .i64 p) rfl).1
  have g1 := (row_facts hx1 1 (.int .i64 e) rfl).1
  have k1 := (row_facts hx2 1 (.int .i64 e) rfl).1
  have g2 := (row_facts hx1 2 (.int .i64 f) rfl).1
  have k2 := (row_facts hx2 2 (.int .i64 f) rfl).1
  have g3 := (row_facts hx1 3 (.slice la ln lc) rfl).1
  have k3 := (row_facts hx2 3 (.slice lp lq lr) rfl).1
  clear hx1 hx2
  go_wp2_with fail
  go_ret
  exact ⟨rfl, HBW.out.trans (HB1.out.mono HBW.out.size)⟩

set_option maxHeartbeats 4000000 in
theorem lpartc_eq {x : Cod.PartC} {cs ds : List Value} (hx0 : APartC w x cs) (hy0 : APartC w x ds) : Calls Tryz.prog 16 #[.agg cs.toArray, .agg ds.toArray] w fun e w' => e = .returned (.bool true) ∧ Below w.heap.size w w' := by
  obtain ⟨k, ⟨bp, be, bf, bl⟩, o⟩ := x
  obtain ⟨_, _, rfl, ⟨rfl, hk⟩, ⟨_, _, rfl, ⟨_, _, rfl, ⟨rfl, hbp⟩, ⟨_, _, rfl, ⟨rfl, hbe⟩, ⟨_, _, rfl, ⟨rfl, hbf⟩, ⟨bla, bln, blc, rfl, hbl⟩⟩⟩⟩, ⟨rfl, ho⟩⟩⟩ := hx0
  obtain ⟨_, _, rfl, ⟨rfl, _⟩, ⟨_, _, rfl, ⟨_, _, rfl, ⟨rfl, _⟩, ⟨_, _, rfl, ⟨rfl, _⟩, ⟨_, _, rfl, ⟨rfl, _⟩, ⟨blp, blq, blr, rfl, kbl⟩⟩⟩⟩, ⟨rfl, _⟩⟩⟩ := hy0
  have hek : (k == k) = true := by simp
  have hebp : (bp == bp) = true := by simp
  have hebe : (be == be) = true := by simp
  have hebf : (bf == bf) = true := by simp
  have heo : (o == o) = true := by simp
  have hb2 := (fresh w (.cells #[.int .u8 k, .int .i64 bp, .int .i64 be, .int .i64 bf, .slice bla bln blc, .int .i64 o] (48 : TypeId))).alloc (by simp) (.cells #[.int .u8 k, .int .i64 bp, .int .i64 be, .int .i64 bf, .slice blp blq blr, .int .i64 o] (48 : TypeId))
  obtain ⟨W, HW⟩ : ∃ W, Hid (W = (w.alloc (.cells #[.int .u8 k, .int .i64 bp, .int .i64 be, .int .i64 bf, .slice bla bln blc, .int .i64 o] (48 : TypeId))).alloc (.cells #[.int .u8 k, .int .i64 bp, .int .i64 be, .int .i64 bf, .slice blp blq blr, .int .i64 o] (48 : TypeId))) := ⟨_, hide rfl⟩
  have hbW : Below w.heap.size w W := by rw [HW.out]; exact hb2
  have hbx := boxes2r w (.cells #[.int .u8 k, .int .i64 bp, .int .i64 be, .int .i64 bf, .slice bla bln blc, .int .i64 o] (48 : TypeId)) (.cells #[.int .u8 k, .int .i64 bp, .int .i64 be, .int .i64 bf, .slice blp blq blr, .int .i64 o] (48 : TypeId))
  rw [← HW.out] at hbx
  have HBX := hide hbx
  have HBW := hide hbW
  clear hb2 hbx hbW
  have HC0 : Hid (∀ V, Below w.heap.size w V → Calls Tryz.prog 58 #[.agg #[.int .i64 bp, .int .i64 be, .int .i64 bf, .slice bla bln blc], .agg #[.int .i64 bp, .int .i64 be, .int .i64 bf, .slice blp blq blr]] V fun e w' => e = .returned (.bool true) ∧ Below V.heap.size V w') := hide (fun V hV => kbatch_eq (w := V) (cs := [.int .i64 bp, .int .i64 be, .int .i64 bf, .slice bla bln blc]) (ds := [.int .i64 bp, .int .i64 be, .int .i64 bf, .slice blp blq blr]) (show ABatch V _ _ from ⟨_, _, rfl, ⟨rfl, hbp⟩, ⟨_, _, rfl, ⟨rfl, hbe⟩, ⟨_, _, rfl, ⟨rfl, hbf⟩, ⟨_, _, _, rfl, hbl.keep rBytes hV⟩⟩⟩⟩) (show ABatch V _ _ from ⟨_, _, rfl, ⟨rfl, hbp⟩, ⟨_, _, rfl, ⟨rfl, hbe⟩, ⟨_, _, rfl, ⟨rfl, hbf⟩, ⟨_, _, _, rfl, kbl.keep rBytes hV⟩⟩⟩⟩))
  clear hbl kbl
  have HB0 := hide (Below.refl W.heap.size W)
  have hx1 := (HB0.out.block _ (hp_lt HBX.out.1)).trans HBX.out.1
  have hx2 := (HB0.out.block _ (hp_lt HBX.out.2)).trans HBX.out.2
  have g0 := (row_facts hx1 0 (.int .u8 k) rfl).1
  have k0 := (row_facts hx2 0 (.int .u8 k) rfl).1
  have g1 := (row_facts hx1 1 (.int .i64 bp) rfl).1
  have k1 := (row_facts hx2 1 (.int .i64 bp) rfl).1
  have g2 := (row_facts hx1 2 (.int .i64 be) rfl).1
  have k2 := (row_facts hx2 2 (.int .i64 be) rfl).1
  have g3 := (row_facts hx1 3 (.int .i64 bf) rfl).1
  have k3 := (row_facts hx2 3 (.int .i64 bf) rfl).1
  have g4 := (row_facts hx1 4 (.slice bla bln blc) rfl).1
  have k4 := (row_facts hx2 4 (.slice blp blq blr) rfl).1
  have g5 := (row_facts hx1 5 (.int .i64 o) rfl).1
  have k5 := (row_facts hx2 5 (.int .i64 o) rfl).1
  clear hx1 hx2
  rw [HW.out] at g0 k0 g1 k1 g2 k2 g3 k3 g4 k4 g5 k5
  go_enter Tryz.func16, Tryz.ntmps16
  go_wp2_with fail
  rw [← HW.out]
  refine (HC0.out _ HBW.out).mono ?_
  rintro e w1 ⟨rfl, hb⟩
  have HB1 := hide (HB0.out.trans (hb.mono HB0.out.size))
  clear hb
  clear g0 k0 g1 k1 g2 k2 g3 k3 g4 k4 g5 k5
  have hx1 := (HB1.out.block _ (hp_lt HBX.out.1)).trans HBX.out.1
  have hx2 := (HB1.out.block _ (hp_lt HBX.out.2)).trans HBX.out.2
  have g0 := (row_facts hx1 0 (.int .u8 k) rfl).1
  have k0 := (row_facts hx2 0 (.int .u8 k) rfl).1
  have g1 := (row_facts hx1 1 (.int .i64 bp) rfl).1
  have k1 := (row_facts hx2 1 (.int .i64 bp) rfl).1
  have g2 := (row_facts hx1 2 (.int .i64 be) rfl).1
  have k2 := (row_facts hx2 2 (.int .i64 be) rfl).1
  have g3 := (row_facts hx1 3 (.int .i64 bf) rfl).1
  have k3 := (row_facts hx2 3 (.int .i64 bf) rfl).1
  have g4 := (row_facts hx1 4 (.slice bla bln blc) rfl).1
  have k4 := (row_facts hx2 4 (.slice blp blq blr) rfl).1
  have g5 := (row_facts hx1 5 (.int .i64 o) rfl).1
  have k5 := (row_facts hx2 5 (.int .i64 o) rfl).1
  clear hx1 hx2
  go_wp2_with fail
  go_ret
  exact ⟨rfl, HBW.out.trans (HB1.out.mono HBW.out.size)⟩

set_option maxHeartbeats 4000000 in
theorem lmetac_eq {x : Cod.MetaC} {cs ds : List Value} (hx0 : AMetaC w x cs) (hy0 : AMetaC w x ds) : Calls Tryz.prog 19 #[.agg cs.toArray, .agg ds.toArray] w fun e w' => e = .returned (.bool true) ∧ Below w.heap.size w w' := by
  obtain ⟨k, _, _, n, l, ⟨_, qp⟩, o, u, c, a⟩ := x
  obtain ⟨_, _, rfl, ⟨rfl, hk⟩, ⟨_, _, rfl, ⟨g, rfl, rfl, hg⟩, ⟨_, _, rfl, ⟨m, rfl, rfl, hm⟩, ⟨_, _, rfl, ⟨rfl, hn⟩, ⟨_, _, rfl, ⟨la, ln, lc, rfl, hl⟩, ⟨_, _, rfl, ⟨_, _, rfl, ⟨qt, rfl, rfl, hqt⟩, ⟨rfl, hqp⟩⟩, ⟨_, _, rfl, ⟨rfl, ho⟩, ⟨_, _, rfl, ⟨rfl, hu⟩, ⟨_, _, rfl, ⟨rfl, hc⟩, ⟨rfl, ha⟩⟩⟩⟩⟩⟩⟩⟩⟩⟩ := hx0
  obtain ⟨_, _, rfl, ⟨rfl, _⟩, ⟨_, _, rfl, ⟨gw, rfl, eg, _⟩, ⟨_, _, rfl, ⟨mw, rfl, em, _⟩, ⟨_, _, rfl, ⟨rfl, _⟩, ⟨_, _, rfl, ⟨lp, lq, lr, rfl, kl⟩, ⟨_, _, rfl, ⟨_, _, rfl, ⟨qtw, rfl, eqt, _⟩, ⟨rfl, _⟩⟩, ⟨_, _, rfl, ⟨rfl, _⟩, ⟨_, _, rfl, ⟨rfl, _⟩, ⟨_, _, rfl, ⟨rfl, _⟩, ⟨rfl, _⟩⟩⟩⟩⟩⟩⟩⟩⟩⟩ := hy0
  have hek : (k == k) = true := by simp
  obtain rfl : g = gw := by rw [← str_sb gw, eg, str_sb]
  have hsg : (g.toList == g.toList) = true := by simp
  obtain rfl : m = mw := by rw [← str_sb mw, em, str_sb]
  have hsm : (m.toList == m.toList) = true := by simp
  have hen : (n == n) = true := by simp
  obtain rfl : qt = qtw := by rw [← str_sb qtw, eqt, str_sb]
  have hsqt : (qt.toList == qt.toList) = true := by simp
  have heqp : (qp == qp) = true := by simp
  have heo : (o == o) = true := by simp
  have heu : (u == u) = true := by simp
  have hec : (c == c) = true := by simp
  have hea : (a == a) = true := by simp
  have hb2 := (fresh w (.cells #[.int .u8 k, .string g, .string m, .int .i64 n, .slice la ln lc, .string qt, .int .i64 qp, .int .i64 o, .int .i64 u, .int .i64 c, .int .i64 a] (57 : TypeId))).alloc (by simp) (.cells #[.int .u8 k, .string g, .string m, .int .i64 n, .slice lp lq lr, .string qt, .int .i64 qp, .int .i64 o, .int .i64 u, .int .i64 c, .int .i64 a] (57 : TypeId))
  obtain ⟨W, HW⟩ : ∃ W, Hid (W = (w.alloc (.cells #[.int .u8 k, .string g, .string m, .int .i64 n, .slice la ln lc, .string qt, .int .i64 qp, .int .i64 o, .int .i64 u, .int .i64 c, .int .i64 a] (57 : TypeId))).alloc (.cells #[.int .u8 k, .string g, .string m, .int .i64 n, .slice lp lq lr, .string qt, .int .i64 qp, .int .i64 o, .int .i64 u, .int .i64 c, .int .i64 a] (57 : TypeId))) := ⟨_, hide rfl⟩
  have hbW : Below w.heap.size w W := by rw [HW.out]; exact hb2
  have hbx := boxes2r w (.cells #[.int .u8 k, .string g, .string m, .int .i64 n, .slice la ln lc, .string qt, .int .i64 qp, .int .i64 o, .int .i64 u, .int .i64 c, .int .i64 a] (57 : TypeId)) (.cells #[.int .u8 k, .string g, .string m, .int .i64 n, .slice lp lq lr, .string qt, .int .i64 qp, .int .i64 o, .int .i64 u, .int .i64 c, .int .i64 a] (57 : TypeId))
  rw [← HW.out] at hbx
  have HBX := hide hbx
  have HBW := hide hbW
  clear hb2 hbx hbW
  have HC0 := hide (fun V (hV : Below w.heap.size w V) => ltexts_eq (w := V) (hl.keep rText hV) (kl.keep rText hV))
  clear hl kl
  have HB0 := hide (Below.refl W.heap.size W)
  have hx1 := (HB0.out.block _ (hp_lt HBX.out.1)).trans HBX.out.1
  have hx2 := (HB0.out.block _ (hp_lt HBX.out.2)).trans HBX.out.2
  have g0 := (row_facts hx1 0 (.int .u8 k) rfl).1
  have k0 := (row_facts hx2 0 (.int .u8 k) rfl).1
  have g1 := (row_facts hx1 1 (.string g) rfl).1
  have k1 := (row_facts hx2 1 (.string g) rfl).1
  have g2 := (row_facts hx1 2 (.string m) rfl).1
  have k2 := (row_facts hx2 2 (.string m) rfl).1
  have g3 := (row_facts hx1 3 (.int .i64 n) rfl).1
  have k3 := (row_facts hx2 3 (.int .i64 n) rfl).1
  have g4 := (row_facts hx1 4 (.slice la ln lc) rfl).1
  have k4 := (row_facts hx2 4 (.slice lp lq lr) rfl).1
  have g5 := (row_facts hx1 5 (.string qt) rfl).1
  have k5 := (row_facts hx2 5 (.string qt) rfl).1
  have g6 := (row_facts hx1 6 (.int .i64 qp) rfl).1
  have k6 := (row_facts hx2 6 (.int .i64 qp) rfl).1
  have g7 := (row_facts hx1 7 (.int .i64 o) rfl).1
  have k7 := (row_facts hx2 7 (.int .i64 o) rfl).1
  have g8 := (row_facts hx1 8 (.int .i64 u) rfl).1
  have k8 := (row_facts hx2 8 (.int .i64 u) rfl).1
  have g9 := (row_facts hx1 9 (.int .i64 c) rfl).1
  have k9 := (row_facts hx2 9 (.int .i64 c) rfl).1
  have g10 := (row_facts hx1 10 (.int .i64 a) rfl).1
  have k10 := (row_facts hx2 10 (.int .i64 a) rfl).1
  clear hx1 hx2
  rw [HW.out] at g0 k0 g1 k1 g2 k2 g3 k3 g4 k4 g5 k5 g6 k6 g7 k7 g8 k8 g9 k9 g10 k10
  go_enter Tryz.func19, Tryz.ntmps19
  go_wp2_with fail
  rw [← HW.out]
  refine (HC0.out _ HBW.out).mono ?_
  rintro e w1 ⟨rfl, hb⟩
  have HB1 := hide (HB0.out.trans (hb.mono HB0.out.size))
  clear hb
  clear g0 k0 g1 k1 g2 k2 g3 k3 g4 k4 g5 k5 g6 k6 g7 k7 g8 k8 g9 k9 g10 k10
  have hx1 := (HB1.out.block _ (hp_lt HBX.out.1)).trans HBX.out.1
  have hx2 := (HB1.out.block _ (hp_lt HBX.out.2)).trans HBX.out.2
  have g0 := (row_facts hx1 0 (.int .u8 k) rfl).1
  have k0 := (row_facts hx2 0 (.int .u8 k) rfl).1
  have g1 := (row_facts hx1 1 (.string g) rfl).1
  have k1 := (row_facts hx2 1 (.string g) rfl).1
  have g2 := (row_facts hx1 2 (.string m) rfl).1
  have k2 := (row_facts hx2 2 (.string m) rfl).1
  have g3 := (row_facts hx1 3 (.int .i64 n) rfl).1
  have k3 := (row_facts hx2 3 (.int .i64 n) rfl).1
  have g4 := (row_facts hx1 4 (.slice la ln lc) rfl).1
  have k4 := (row_facts hx2 4 (.slice lp lq lr) rfl).1
  have g5 := (row_facts hx1 5 (.string qt) rfl).1
  have k5 := (row_facts hx2 5 (.string qt) rfl).1
  have g6 := (row_facts hx1 6 (.int .i64 qp) rfl).1
  have k6 := (row_facts hx2 6 (.int .i64 qp) rfl).1
  have g7 := (row_facts hx1 7 (.int .i64 o) rfl).1
  have k7 := (row_facts hx2 7 (.int .i64 o) rfl).1
  have g8 := (row_facts hx1 8 (.int .i64 u) rfl).1
  have k8 := (row_facts hx2 8 (.int .i64 u) rfl).1
  have g9 := (row_facts hx1 9 (.int .i64 c) rfl).1
  have k9 := (row_facts hx2 9 (.int .i64 c) rfl).1
  have g10 := (row_facts hx1 10 (.int .i64 a) rfl).1
  have k10 := (row_facts hx2 10 (.int .i64 a) rfl).1
  clear hx1 hx2
  go_wp2_with fail
  go_ret
  exact ⟨rfl, HBW.out.trans (HB1.out.mono HBW.out.size)⟩

end

end Go.Proofs.YtnimfkcnkkjlkaaGreat

/-
  Requests, answers and messages that are the same are told so.
-/
namespace Go.Proofs.YtnimfkcnkkjlkaaGreat
open Go.RowKit
set_option maxRecDepth 100000
set_option linter.unusedVariables false

section
variable {w : World}

set_option maxHeartbeats 4000000 in
theorem kanswer_eq {x : Cod.Answer} {cs ds : List Value} (hx0 : AAnswer w x cs) (hy0 : AAnswer w x ds) : Calls Tryz.prog 78 #[.agg cs.toArray, .agg ds.toArray] w fun e w' => e = .returned (.bool true) ∧ Below w.heap.size w w' := by
  obtain ⟨r, p, e, n, k, l⟩ := x
  obtain ⟨_, _, rfl, ⟨rfl, hr⟩, ⟨_, _, rfl, ⟨rfl, hp⟩, ⟨_, _, rfl, ⟨rfl, he⟩, ⟨_, _, rfl, ⟨rfl, hn⟩, ⟨_, _, rfl, ⟨rfl, hk⟩, ⟨la, ln, lc, rfl, hl⟩⟩⟩⟩⟩⟩ := hx0
  obtain ⟨_, _, rfl, ⟨rfl, _⟩, ⟨_, _, rfl, ⟨rfl, _⟩, ⟨_, _, rfl, ⟨rfl, _⟩, ⟨_, _, rfl, ⟨rfl, _⟩, ⟨_, _, rfl, ⟨rfl, _⟩, ⟨lp, lq, lr, rfl, kl⟩⟩⟩⟩⟩⟩ := hy0
  have her : (r == r) = true := by simp
  have hep : (p == p) = true := by simp
  have hee : (e == e) = true := by simp
  have hen : (n == n) = true := by simp
  have hek : (k == k) = true := by simp
  have hb2 := (fresh w (.cells #[.int .i64 r, .int .i64 p, .int .i64 e, .int .i64 n, .int .u8 k, .slice la ln lc] (70 : TypeId))).alloc (by simp) (.cells #[.int .i64 r, .int .i64 p, .int .i64 e, .int .i64 n, .int .u8 k, .slice lp lq lr] (70 : TypeId))
  obtain ⟨W, HW⟩ : ∃ W, Hid (W = (w.alloc (.cells #[.int .i64 r, .int .i64 p, .int .i64 e, .int .i64 n, .int .u8 k, .slice la ln lc] (70 : TypeId))).alloc (.cells #[.int .i64 r, .int .i64 p, .int .i64 e, .int .i64 n, .int .u8 k, .slice lp lq lr] (70 : TypeId))) := ⟨_, hide rfl⟩
  have hbW : Below w.heap.size w W := by rw [HW.out]; exact hb2
  have hbx := boxes2r w (.cells #[.int .i64 r, .int .i64 p, .int .i64 e, .int .i64 n, .int .u8 k, .slice la ln lc] (70 : TypeId)) (.cells #[.int .i64 r, .int .i64 p, .int .i64 e, .int .i64 n, .int .u8 k, .slice lp lq lr] (70 : TypeId))
  rw [← HW.out] at hbx
  have HBX := hide hbx
  have HBW := hide hbW
  clear hb2 hbx hbW
  have HC0 := hide (fun V (hV : Below w.heap.size w V) => kplaces_eq (w := V) (hl.keep rPlace hV) (kl.keep rPlace hV))
  clear hl kl
  have HB0 := hide (Below.refl W.heap.size W)
  have hx1 := (HB0.out.block _ (hp_lt HBX.out.1)).trans HBX.out.1
  have hx2 := (HB0.out.block _ (hp_lt HBX.out.2)).trans HBX.out.2
  have g0 := (row_facts hx1 0 (.int .i64 r) rfl).1
  have k0 := (row_facts hx2 0 (.int .i64 r) rfl).1
  have g1 := (row_facts hx1 1 (.int .i64 p) rfl).1
  have k1 := (row_facts hx2 1 (.int .i64 p) rfl).1
  have g2 := (row_facts hx1 2 (.int .i64 e) rfl).1
  have k2 := (row_facts hx2 2 (.int .i64 e) rfl).1
  have g3 := (row_facts hx1 3 (.int .i64 n) rfl).1
  have k3 := (row_facts hx2 3 (.int .i64 n) rfl).1
  have g4 := (row_facts hx1 4 (.int .u8 k) rfl).1
  have k4 := (row_facts hx2 4 (.int .u8 k) rfl).1
  have g5 := (row_facts hx1 5 (.slice la ln lc) rfl).1
  have k5 := (row_facts hx2 5 (.slice lp lq lr) rfl).1
  clear hx1 hx2
  rw [HW.out] at g0 k0 g1 k1 g2 k2 g3 k3 g4 k4 g5 k5
  go_enter Tryz.func78, Tryz.ntmps78
  go_wp2_with fail
  rw [← HW.out]
  refine (HC0.out _ HBW.out).mono ?_
  rintro e w1 ⟨rfl, hb⟩
  have HB1 := hide (HB0.out.trans (hb.mono HB0.out.size))
  clear hb
  clear g0 k0 g1 k1 g2 k2 g3 k3 g4 k4 g5 k5
  have hx1 := (HB1.out.block _ (hp_lt HBX.out.1)).trans HBX.out.1
  have hx2 := (HB1.out.block _ (hp_lt HBX.out.2)).trans HBX.out.2
  have g0 := (row_facts hx1 0 (.int .i64 r) rfl).1
  have k0 := (row_facts hx2 0 (.int .i64 r) rfl).1
  have g1 := (row_facts hx1 1 (.int .i64 p) rfl).1
  have k1 := (row_facts hx2 1 (.int .i64 p) rfl).1
  have g2 := (row_facts hx1 2 (.int .i64 e) rfl).1
  have k2 := (row_facts hx2 2 (.int .i64 e) rfl).1
  have g3 := (row_facts hx1 3 (.int .i64 n) rfl).1
  have k3 := (row_facts hx2 3 (.int .i64 n) rfl).1
  have g4 := (row_facts hx1 4 (.int .u8 k) rfl).1
  have k4 := (row_facts hx2 4 (.int .u8 k) rfl).1
  have g5 := (row_facts hx1 5 (.slice la ln lc) rfl).1
  have k5 := (row_facts hx2 5 (.slice lp lq lr) rfl).1
  clear hx1 hx2
  go_wp2_with fail
  go_ret
  exact ⟨rfl, HBW.out.trans (HB1.out.mono HBW.out.size)⟩

set_option maxHeartbeats 4000000 in
theorem lrequest_eq {x : Cod.Request} {cs ds : List Value} (hx0 : ARequest w x cs) (hy0 : ARequest w x ds) : Calls Tryz.prog 22 #[.agg cs.toArray, .agg ds.toArray] w fun e w' => e = .returned (.bool true) ∧ Below w.heap.size w w' := by
  obtain ⟨k, c, d, _, p, ⟨bp, be, bf, bl⟩, o, m, z, ⟨yk, _, _, yn, yl, ⟨_, yqp⟩, yo, yu, yc, ya⟩⟩ := x
  obtain ⟨_, _, rfl, ⟨rfl, hk⟩, ⟨_, _, rfl, ⟨rfl, hc⟩, ⟨_, _, rfl, ⟨rfl, hd⟩, ⟨_, _, rfl, ⟨t, rfl, rfl, ht⟩, ⟨_, _, rfl, ⟨rfl, hp⟩, ⟨_, _, rfl, ⟨_, _, rfl, ⟨rfl, hbp⟩, ⟨_, _, rfl, ⟨rfl, hbe⟩, ⟨_, _, rfl, ⟨rfl, hbf⟩, ⟨bla, bln, blc, rfl, hbl⟩⟩⟩⟩, ⟨_, _, rfl, ⟨rfl, ho⟩, ⟨_, _, rfl, ⟨rfl, hm⟩, ⟨_, _, rfl, ⟨rfl, hz⟩, ⟨_, _, rfl, ⟨rfl, hyk⟩, ⟨_, _, rfl, ⟨yg, rfl, rfl, hyg⟩, ⟨_, _, rfl, ⟨ym, rfl, rfl, hym⟩, ⟨_, _, rfl, ⟨rfl, hyn⟩, ⟨_, _, rfl, ⟨yla, yln, ylc, rfl, hyl⟩, ⟨_, _, rfl, ⟨_, _, rfl, ⟨yqt, rfl, rfl, hyqt⟩, ⟨rfl, hyqp⟩⟩, ⟨_, _, rfl, ⟨rfl, hyo⟩, ⟨_, _, rfl, ⟨rfl, hyu⟩, ⟨_, _, rfl, ⟨rfl, hyc⟩, ⟨rfl, hya⟩⟩⟩⟩⟩⟩⟩⟩⟩⟩⟩⟩⟩⟩⟩⟩⟩⟩⟩ := hx0
  obtain ⟨_, _, rfl, ⟨rfl, _⟩, ⟨_, _, rfl, ⟨rfl, _⟩, ⟨_, _, rfl, ⟨rfl, _⟩, ⟨_, _, rfl, ⟨tw, rfl, et, _⟩, ⟨_, _, rfl, ⟨rfl, _⟩, ⟨_, _, rfl, ⟨_, _, rfl, ⟨rfl, _⟩, ⟨_, _, rfl, ⟨rfl, _⟩, ⟨_, _, rfl, ⟨rfl, _⟩, ⟨blp, blq, blr, rfl, kbl⟩⟩⟩⟩, ⟨_, _, rfl, ⟨rfl, _⟩, ⟨_, _, rfl, ⟨rfl, _⟩, ⟨_, _, rfl, ⟨rfl, _⟩, ⟨_, _, rfl, ⟨rfl, _⟩, ⟨_, _, rfl, ⟨ygw, rfl, eyg, _⟩, ⟨_, _, rfl, ⟨ymw, rfl, eym, _⟩, ⟨_, _, rfl, ⟨rfl, _⟩, ⟨_, _, rfl, ⟨ylp, ylq, ylr, rfl, kyl⟩, ⟨_, _, rfl, ⟨_, _, rfl, ⟨yqtw, rfl, eyqt, _⟩, ⟨rfl, _⟩⟩, ⟨_, _, rfl, ⟨rfl, _⟩, ⟨_, _, rfl, ⟨rfl, _⟩, ⟨_, _, rfl, ⟨rfl, _⟩, ⟨rfl, _⟩⟩⟩⟩⟩⟩⟩⟩⟩⟩⟩⟩⟩⟩⟩⟩⟩⟩⟩ := hy0
  have hek : (k == k) = true := by simp
  have hec : (c == c) = true := by simp
  have hed : (d == d) = true := by simp
  obtain rfl : t = tw := by rw [← str_sb tw, et, str_sb]
  have hst : (t.toList == t.toList) = true := by simp
  have hep : (p == p) = true := by simp
  have hebp : (bp == bp) = true := by simp
  have hebe : (be == be) = true := by simp
  have hebf : (bf == bf) = true := by simp
  have heo : (o == o) = true := by simp
  have hem : (m == m) = true := by simp
  have hez : (z == z) = true := by simp
  have heyk : (yk == yk) = true := by simp
  obtain rfl : yg = ygw := by rw [← str_sb ygw, eyg, str_sb]
  have hsyg : (yg.toList == yg.toList) = true := by simp
  obtain rfl : ym = ymw := by rw [← str_sb ymw, eym, str_sb]
  have hsym : (ym.toList == ym.toList) = true := by simp
  have heyn : (yn == yn) = true := by simp
  obtain rfl : yqt = yqtw := by rw [← str_sb yqtw, eyqt, str_sb]
  have hsyqt : (yqt.toList == yqt.toList) = true := by simp
  have heyqp : (yqp == yqp) = true := by simp
  have heyo : (yo == yo) = true := by simp
  have heyu : (yu == yu) = true := by simp
  have heyc : (yc == yc) = true := by simp
  have heya : (ya == ya) = true := by simp
  have hb2 := (fresh w (.cells #[.int .u8 k, .int .i64 c, .int .i64 d, .string t, .int .i64 p, .int .i64 bp, .int .i64 be, .int .i64 bf, .slice bla bln blc, .int .i64 o, .int .i64 m, .int .i64 z, .int .u8 yk, .string yg, .string ym, .int .i64 yn, .slice yla yln ylc, .string yqt, .int .i64 yqp, .int .i64 yo, .int .i64 yu, .int .i64 yc, .int .i64 ya] (63 : TypeId))).alloc (by simp) (.cells #[.int .u8 k, .int .i64 c, .int .i64 d, .string t, .int .i64 p, .int .i64 bp, .int .i64 be, .int .i64 bf, .slice blp blq blr, .int .i64 o, .int .i64 m, .int .i64 z, .int .u8 yk, .string yg, .string ym, .int .i64 yn, .slice ylp ylq ylr, .string yqt, .int .i64 yqp, .int .i64 yo, .int .i64 yu, .int .i64 yc, .int .i64 ya] (63 : TypeId))
  obtain ⟨W, HW⟩ : ∃ W, Hid (W = (w.alloc (.cells #[.int .u8 k, .int .i64 c, .int .i64 d, .string t, .int .i64 p, .int .i64 bp, .int .i64 be, .int .i64 bf, .slice bla bln blc, .int .i64 o, .int .i64 m, .int .i64 z, .int .u8 yk, .string yg, .string ym, .int .i64 yn, .slice yla yln ylc, .string yqt, .int .i64 yqp, .int .i64 yo, .int .i64 yu, .int .i64 yc, .int .i64 ya] (63 : TypeId))).alloc (.cells #[.int .u8 k, .int .i64 c, .int .i64 d, .string t, .int .i64 p, .int .i64 bp, .int .i64 be, .int .i64 bf, .slice blp blq blr, .int .i64 o, .int .i64 m, .int .i64 z, .int .u8 yk, .string yg, .string ym, .int .i64 yn, .slice ylp ylq ylr, .string yqt, .int .i64 yqp, .int .i64 yo, .int .i64 yu, .int .i64 yc, .int .i64 ya] (63 : TypeId))) := ⟨_, hide rfl⟩
  have hbW : Below w.heap.size w W := by rw [HW.out]; exact hb2
  have hbx := boxes2r w (.cells #[.int .u8 k, .int .i64 c, .int .i64 d, .string t, .int .i64 p, .int .i64 bp, .int .i64 be, .int .i64 bf, .slice bla bln blc, .int .i64 o, .int .i64 m, .int .i64 z, .int .u8 yk, .string yg, .string ym, .int .i64 yn, .slice yla yln ylc, .string yqt, .int .i64 yqp, .int .i64 yo, .int .i64 yu, .int .i64 yc, .int .i64 ya] (63 : TypeId)) (.cells #[.int .u8 k, .int .i64 c, .int .i64 d, .string t, .int .i64 p, .int .i64 bp, .int .i64 be, .int .i64 bf, .slice blp blq blr, .int .i64 o, .int .i64 m, .int .i64 z, .int .u8 yk, .string yg, .string ym, .int .i64 yn, .slice ylp ylq ylr, .string yqt, .int .i64 yqp, .int .i64 yo, .int .i64 yu, .int .i64 yc, .int .i64 ya] (63 : TypeId))
  rw [← HW.out] at hbx
  have HBX := hide hbx
  have HBW := hide hbW
  clear hb2 hbx hbW
  have HC0 : Hid (∀ V, Below w.heap.size w V → Calls Tryz.prog 58 #[.agg #[.int .i64 bp, .int .i64 be, .int .i64 bf, .slice bla bln blc], .agg #[.int .i64 bp, .int .i64 be, .int .i64 bf, .slice blp blq blr]] V fun e w' => e = .returned (.bool true) ∧ Below V.heap.size V w') := hide (fun V hV => kbatch_eq (w := V) (cs := [.int .i64 bp, .int .i64 be, .int .i64 bf, .slice bla bln blc]) (ds := [.int .i64 bp, .int .i64 be, .int .i64 bf, .slice blp blq blr]) (show ABatch V _ _ from ⟨_, _, rfl, ⟨rfl, hbp⟩, ⟨_, _, rfl, ⟨rfl, hbe⟩, ⟨_, _, rfl, ⟨rfl, hbf⟩, ⟨_, _, _, rfl, hbl.keep rBytes hV⟩⟩⟩⟩) (show ABatch V _ _ from ⟨_, _, rfl, ⟨rfl, hbp⟩, ⟨_, _, rfl, ⟨rfl, hbe⟩, ⟨_, _, rfl, ⟨rfl, hbf⟩, ⟨_, _, _, rfl, kbl.keep rBytes hV⟩⟩⟩⟩))
  have HC1 : Hid (∀ V, Below w.heap.size w V → Calls Tryz.prog 19 #[.agg #[.int .u8 yk, .string yg, .string ym, .int .i64 yn, .slice yla yln ylc, .string yqt, .int .i64 yqp, .int .i64 yo, .int .i64 yu, .int .i64 yc, .int .i64 ya], .agg #[.int .u8 yk, .string yg, .string ym, .int .i64 yn, .slice ylp ylq ylr, .string yqt, .int .i64 yqp, .int .i64 yo, .int .i64 yu, .int .i64 yc, .int .i64 ya]] V fun e w' => e = .returned (.bool true) ∧ Below V.heap.size V w') := hide (fun V hV => lmetac_eq (w := V) (cs := [.int .u8 yk, .string yg, .string ym, .int .i64 yn, .slice yla yln ylc, .string yqt, .int .i64 yqp, .int .i64 yo, .int .i64 yu, .int .i64 yc, .int .i64 ya]) (ds := [.int .u8 yk, .string yg, .string ym, .int .i64 yn, .slice ylp ylq ylr, .string yqt, .int .i64 yqp, .int .i64 yo, .int .i64 yu, .int .i64 yc, .int .i64 ya]) (show AMetaC V _ _ from ⟨_, _, rfl, ⟨rfl, hyk⟩, ⟨_, _, rfl, ⟨yg, rfl, rfl, hyg⟩, ⟨_, _, rfl, ⟨ym, rfl, rfl, hym⟩, ⟨_, _, rfl, ⟨rfl, hyn⟩, ⟨_, _, rfl, ⟨_, _, _, rfl, hyl.keep rText hV⟩, ⟨_, _, rfl, ⟨_, _, rfl, ⟨yqt, rfl, rfl, hyqt⟩, ⟨rfl, hyqp⟩⟩, ⟨_, _, rfl, ⟨rfl, hyo⟩, ⟨_, _, rfl, ⟨rfl, hyu⟩, ⟨_, _, rfl, ⟨rfl, hyc⟩, ⟨rfl, hya⟩⟩⟩⟩⟩⟩⟩⟩⟩⟩) (show AMetaC V _ _ from ⟨_, _, rfl, ⟨rfl, hyk⟩, ⟨_, _, rfl, ⟨yg, rfl, rfl, hyg⟩, ⟨_, _, rfl, ⟨ym, rfl, rfl, hym⟩, ⟨_, _, rfl, ⟨rfl, hyn⟩, ⟨_, _, rfl, ⟨_, _, _, rfl, kyl.keep rText hV⟩, ⟨_, _, rfl, ⟨_, _, rfl, ⟨yqt, rfl, rfl, hyqt⟩, ⟨rfl, hyqp⟩⟩, ⟨_, _, rfl, ⟨rfl, hyo⟩, ⟨_, _, rfl, ⟨rfl, hyu⟩, ⟨_, _, rfl, ⟨rfl, hyc⟩, ⟨rfl, hya⟩⟩⟩⟩⟩⟩⟩⟩⟩⟩))
  clear hbl kbl hyl kyl
  have HB0 := hide (Below.refl W.heap.size W)
  have hx1 := (HB0.out.block _ (hp_lt HBX.out.1)).trans HBX.out.1
  have hx2 := (HB0.out.block _ (hp_lt HBX.out.2)).trans HBX.out.2
  have g0 := (row_facts hx1 0 (.int .u8 k) rfl).1
  have k0 := (row_facts hx2 0 (.int .u8 k) rfl).1
  have g1 := (row_facts hx1 1 (.int .i64 c) rfl).1
  have k1 := (row_facts hx2 1 (.int .i64 c) rfl).1
  have g2 := (row_facts hx1 2 (.int .i64 d) rfl).1
  have k2 := (row_facts hx2 2 (.int .i64 d) rfl).1
  have g3 := (row_facts hx1 3 (.string t) rfl).1
  have k3 := (row_facts hx2 3 (.string t) rfl).1
  have g4 := (row_facts hx1 4 (.int .i64 p) rfl).1
  have k4 := (row_facts hx2 4 (.int .i64 p) rfl).1
  have g5 := (row_facts hx1 5 (.int .i64 bp) rfl).1
  have k5 := (row_facts hx2 5 (.int .i64 bp) rfl).1
  have g6 := (row_facts hx1 6 (.int .i64 be) rfl).1
  have k6 := (row_facts hx2 6 (.int .i64 be) rfl).1
  have g7 := (row_facts hx1 7 (.int .i64 bf) rfl).1
  have k7 := (row_facts hx2 7 (.int .i64 bf) rfl).1
  have g8 := (row_facts hx1 8 (.slice bla bln blc) rfl).1
  have k8 := (row_facts hx2 8 (.slice blp blq blr) rfl).1
  have g9 := (row_facts hx1 9 (.int .i64 o) rfl).1
  have k9 := (row_facts hx2 9 (.int .i64 o) rfl).1
  have g10 := (row_facts hx1 10 (.int .i64 m) rfl).1
  have k10 := (row_facts hx2 10 (.int .i64 m) rfl).1
  have g11 := (row_facts hx1 11 (.int .i64 z) rfl).1
  have k11 := (row_facts hx2 11 (.int .i64 z) rfl).1
  have g12 := (row_facts hx1 12 (.int .u8 yk) rfl).1
  have k12 := (row_facts hx2 12 (.int .u8 yk) rfl).1
  have g13 := (row_facts hx1 13 (.string yg) rfl).1
  have k13 := (row_facts hx2 13 (.string yg) rfl).1
  have g14 := (row_facts hx1 14 (.string ym) rfl).1
  have k14 := (row_facts hx2 14 (.string ym) rfl).1
  have g15 := (row_facts hx1 15 (.int .i64 yn) rfl).1
  have k15 := (row_facts hx2 15 (.int .i64 yn) rfl).1
  have g16 := (row_facts hx1 16 (.slice yla yln ylc) rfl).1
  have k16 := (row_facts hx2 16 (.slice ylp ylq ylr) rfl).1
  have g17 := (row_facts hx1 17 (.string yqt) rfl).1
  have k17 := (row_facts hx2 17 (.string yqt) rfl).1
  have g18 := (row_facts hx1 18 (.int .i64 yqp) rfl).1
  have k18 := (row_facts hx2 18 (.int .i64 yqp) rfl).1
  have g19 := (row_facts hx1 19 (.int .i64 yo) rfl).1
  have k19 := (row_facts hx2 19 (.int .i64 yo) rfl).1
  have g20 := (row_facts hx1 20 (.int .i64 yu) rfl).1
  have k20 := (row_facts hx2 20 (.int .i64 yu) rfl).1
  have g21 := (row_facts hx1 21 (.int .i64 yc) rfl).1
  have k21 := (row_facts hx2 21 (.int .i64 yc) rfl).1
  have g22 := (row_facts hx1 22 (.int .i64 ya) rfl).1
  have k22 := (row_facts hx2 22 (.int .i64 ya) rfl).1
  clear hx1 hx2
  rw [HW.out] at g0 k0 g1 k1 g2 k2 g3 k3 g4 k4 g5 k5 g6 k6 g7 k7 g8 k8 g9 k9 g10 k10 g11 k11 g12 k12 g13 k13 g14 k14 g15 k15 g16 k16 g17 k17 g18 k18 g19 k19 g20 k20 g21 k21 g22 k22
  go_enter Tryz.func22, Tryz.ntmps22
  go_wp2_with fail
  rw [← HW.out]
  refine (HC0.out _ HBW.out).mono ?_
  rintro e w1 ⟨rfl, hb⟩
  have HB1 := hide (HB0.out.trans (hb.mono HB0.out.size))
  clear hb
  clear g0 k0 g1 k1 g2 k2 g3 k3 g4 k4 g5 k5 g6 k6 g7 k7 g8 k8 g9 k9 g10 k10 g11 k11 g12 k12 g13 k13 g14 k14 g15 k15 g16 k16 g17 k17 g18 k18 g19 k19 g20 k20 g21 k21 g22 k22
  have hx1 := (HB1.out.block _ (hp_lt HBX.out.1)).trans HBX.out.1
  have hx2 := (HB1.out.block _ (hp_lt HBX.out.2)).trans HBX.out.2
  have g0 := (row_facts hx1 0 (.int .u8 k) rfl).1
  have k0 := (row_facts hx2 0 (.int .u8 k) rfl).1
  have g1 := (row_facts hx1 1 (.int .i64 c) rfl).1
  have k1 := (row_facts hx2 1 (.int .i64 c) rfl).1
  have g2 := (row_facts hx1 2 (.int .i64 d) rfl).1
  have k2 := (row_facts hx2 2 (.int .i64 d) rfl).1
  have g3 := (row_facts hx1 3 (.string t) rfl).1
  have k3 := (row_facts hx2 3 (.string t) rfl).1
  have g4 := (row_facts hx1 4 (.int .i64 p) rfl).1
  have k4 := (row_facts hx2 4 (.int .i64 p) rfl).1
  have g5 := (row_facts hx1 5 (.int .i64 bp) rfl).1
  have k5 := (row_facts hx2 5 (.int .i64 bp) rfl).1
  have g6 := (row_facts hx1 6 (.int .i64 be) rfl).1
  have k6 := (row_facts hx2 6 (.int .i64 be) rfl).1
  have g7 := (row_facts hx1 7 (.int .i64 bf) rfl).1
  have k7 := (row_facts hx2 7 (.int .i64 bf) rfl).1
  have g8 := (row_facts hx1 8 (.slice bla bln blc) rfl).1
  have k8 := (row_facts hx2 8 (.slice blp blq blr) rfl).1
  have g9 := (row_facts hx1 9 (.int .i64 o) rfl).1
  have k9 := (row_facts hx2 9 (.int .i64 o) rfl).1
  have g10 := (row_facts hx1 10 (.int .i64 m) rfl).1
  have k10 := (row_facts hx2 10 (.int .i64 m) rfl).1
  have g11 := (row_facts hx1 11 (.int .i64 z) rfl).1
  have k11 := (row_facts hx2 11 (.int .i64 z) rfl).1
  have g12 := (row_facts hx1 12 (.int .u8 yk) rfl).1
  have k12 := (row_facts hx2 12 (.int .u8 yk) rfl).1
  have g13 := (row_facts hx1 13 (.string yg) rfl).1
  have k13 := (row_facts hx2 13 (.string yg) rfl).1
  have g14 := (row_facts hx1 14 (.string ym) rfl).1
  have k14 := (row_facts hx2 14 (.string ym) rfl).1
  have g15 := (row_facts hx1 15 (.int .i64 yn) rfl).1
  have k15 := (row_facts hx2 15 (.int .i64 yn) rfl).1
  have g16 := (row_facts hx1 16 (.slice yla yln ylc) rfl).1
  have k16 := (row_facts hx2 16 (.slice ylp ylq ylr) rfl).1
  have g17 := (row_facts hx1 17 (.string yqt) rfl).1
  have k17 := (row_facts hx2 17 (.string yqt) rfl).1
  have g18 := (row_facts hx1 18 (.int .i64 yqp) rfl).1
  have k18 := (row_facts hx2 18 (.int .i64 yqp) rfl).1
  have g19 := (row_facts hx1 19 (.int .i64 yo) rfl).1
  have k19 := (row_facts hx2 19 (.int .i64 yo) rfl).1
  have g20 := (row_facts hx1 20 (.int .i64 yu) rfl).1
  have k20 := (row_facts hx2 20 (.int .i64 yu) rfl).1
  have g21 := (row_facts hx1 21 (.int .i64 yc) rfl).1
  have k21 := (row_facts hx2 21 (.int .i64 yc) rfl).1
  have g22 := (row_facts hx1 22 (.int .i64 ya) rfl).1
  have k22 := (row_facts hx2 22 (.int .i64 ya) rfl).1
  clear hx1 hx2
  go_wp2_with fail
  refine (HC1.out _ (HBW.out.trans (HB1.out.mono HBW.out.size))).mono ?_
  rintro e w2 ⟨rfl, hb⟩
  have HB2 := hide (HB1.out.trans (hb.mono HB1.out.size))
  clear hb
  clear g0 k0 g1 k1 g2 k2 g3 k3 g4 k4 g5 k5 g6 k6 g7 k7 g8 k8 g9 k9 g10 k10 g11 k11 g12 k12 g13 k13 g14 k14 g15 k15 g16 k16 g17 k17 g18 k18 g19 k19 g20 k20 g21 k21 g22 k22
  have hx1 := (HB2.out.block _ (hp_lt HBX.out.1)).trans HBX.out.1
  have hx2 := (HB2.out.block _ (hp_lt HBX.out.2)).trans HBX.out.2
  have g0 := (row_facts hx1 0 (.int .u8 k) rfl).1
  have k0 := (row_facts hx2 0 (.int .u8 k) rfl).1
  have g1 := (row_facts hx1 1 (.int .i64 c) rfl).1
  have k1 := (row_facts hx2 1 (.int .i64 c) rfl).1
  have g2 := (row_facts hx1 2 (.int .i64 d) rfl).1
  have k2 := (row_facts hx2 2 (.int .i64 d) rfl).1
  have g3 := (row_facts hx1 3 (.string t) rfl).1
  have k3 := (row_facts hx2 3 (.string t) rfl).1
  have g4 := (row_facts hx1 4 (.int .i64 p) rfl).1
  have k4 := (row_facts hx2 4 (.int .i64 p) rfl).1
  have g5 := (row_facts hx1 5 (.int .i64 bp) rfl).1
  have k5 := (row_facts hx2 5 (.int .i64 bp) rfl).1
  have g6 := (row_facts hx1 6 (.int .i64 be) rfl).1
  have k6 := (row_facts hx2 6 (.int .i64 be) rfl).1
  have g7 := (row_facts hx1 7 (.int .i64 bf) rfl).1
  have k7 := (row_facts hx2 7 (.int .i64 bf) rfl).1
  have g8 := (row_facts hx1 8 (.slice bla bln blc) rfl).1
  have k8 := (row_facts hx2 8 (.slice blp blq blr) rfl).1
  have g9 := (row_facts hx1 9 (.int .i64 o) rfl).1
  have k9 := (row_facts hx2 9 (.int .i64 o) rfl).1
  have g10 := (row_facts hx1 10 (.int .i64 m) rfl).1
  have k10 := (row_facts hx2 10 (.int .i64 m) rfl).1
  have g11 := (row_facts hx1 11 (.int .i64 z) rfl).1
  have k11 := (row_facts hx2 11 (.int .i64 z) rfl).1
  have g12 := (row_facts hx1 12 (.int .u8 yk) rfl).1
  have k12 := (row_facts hx2 12 (.int .u8 yk) rfl).1
  have g13 := (row_facts hx1 13 (.string yg) rfl).1
  have k13 := (row_facts hx2 13 (.string yg) rfl).1
  have g14 := (row_facts hx1 14 (.string ym) rfl).1
  have k14 := (row_facts hx2 14 (.string ym) rfl).1
  have g15 := (row_facts hx1 15 (.int .i64 yn) rfl).1
  have k15 := (row_facts hx2 15 (.int .i64 yn) rfl).1
  have g16 := (row_facts hx1 16 (.slice yla yln ylc) rfl).1
  have k16 := (row_facts hx2 16 (.slice ylp ylq ylr) rfl).1
  have g17 := (row_facts hx1 17 (.string yqt) rfl).1
  have k17 := (row_facts hx2 17 (.string yqt) rfl).1
  have g18 := (row_facts hx1 18 (.int .i64 yqp) rfl).1
  have k18 := (row_facts hx2 18 (.int .i64 yqp) rfl).1
  have g19 := (row_facts hx1 19 (.int .i64 yo) rfl).1
  have k19 := (row_facts hx2 19 (.int .i64 yo) rfl).1
  have g20 := (row_facts hx1 20 (.int .i64 yu) rfl).1
  have k20 := (row_facts hx2 20 (.int .i64 yu) rfl).1
  have g21 := (row_facts hx1 21 (.int .i64 yc) rfl).1
  have k21 := (row_facts hx2 21 (.int .i64 yc) rfl).1
  have g22 := (row_facts hx1 22 (.int .i64 ya) rfl).1
  have k22 := (row_facts hx2 22 (.int .i64 ya) rfl).1
  clear hx1 hx2
  go_wp2_with fail
  go_ret
  exact ⟨rfl, HBW.out.trans (HB2.out.mono HBW.out.size)⟩

set_option maxHeartbeats 4000000 in
theorem lresponse_eq {x : Cod.Response} {cs ds : List Value} (hx0 : AResponse w x cs) (hy0 : AResponse w x ds) : Calls Tryz.prog 25 #[.agg cs.toArray, .agg ds.toArray] w fun e w' => e = .returned (.bool true) ∧ Below w.heap.size w w' := by
  obtain ⟨k, c, d, r, p, o, s, z, x, l, ⟨yr, yp, ye, yn, yk, yl⟩⟩ := x
  obtain ⟨_, _, rfl, ⟨rfl, hk⟩, ⟨_, _, rfl, ⟨rfl, hc⟩, ⟨_, _, rfl, ⟨rfl, hd⟩, ⟨_, _, rfl, ⟨rfl, hr⟩, ⟨_, _, rfl, ⟨rfl, hp⟩, ⟨_, _, rfl, ⟨rfl, ho⟩, ⟨_, _, rfl, ⟨rfl, hs⟩, ⟨_, _, rfl, ⟨rfl, hz⟩, ⟨_, _, rfl, rfl, ⟨_, _, rfl, ⟨la, ln, lc, rfl, hl⟩, ⟨_, _, rfl, ⟨rfl, hyr⟩, ⟨_, _, rfl, ⟨rfl, hyp⟩, ⟨_, _, rfl, ⟨rfl, hye⟩, ⟨_, _, rfl, ⟨rfl, hyn⟩, ⟨_, _, rfl, ⟨rfl, hyk⟩, ⟨yla, yln, ylc, rfl, hyl⟩⟩⟩⟩⟩⟩⟩⟩⟩⟩⟩⟩⟩⟩⟩⟩ := hx0
  obtain ⟨_, _, rfl, ⟨rfl, _⟩, ⟨_, _, rfl, ⟨rfl, _⟩, ⟨_, _, rfl, ⟨rfl, _⟩, ⟨_, _, rfl, ⟨rfl, _⟩, ⟨_, _, rfl, ⟨rfl, _⟩, ⟨_, _, rfl, ⟨rfl, _⟩, ⟨_, _, rfl, ⟨rfl, _⟩, ⟨_, _, rfl, ⟨rfl, _⟩, ⟨_, _, rfl, rfl, ⟨_, _, rfl, ⟨lp, lq, lr, rfl, kl⟩, ⟨_, _, rfl, ⟨rfl, _⟩, ⟨_, _, rfl, ⟨rfl, _⟩, ⟨_, _, rfl, ⟨rfl, _⟩, ⟨_, _, rfl, ⟨rfl, _⟩, ⟨_, _, rfl, ⟨rfl, _⟩, ⟨ylp, ylq, ylr, rfl, kyl⟩⟩⟩⟩⟩⟩⟩⟩⟩⟩⟩⟩⟩⟩⟩⟩ := hy0
  have hek : (k == k) = true := by simp
  have hec : (c == c) = true := by simp
  have hed : (d == d) = true := by simp
  have her : (r == r) = true := by simp
  have hep : (p == p) = true := by simp
  have heo : (o == o) = true := by simp
  have hes : (s == s) = true := by simp
  have hez : (z == z) = true := by simp
  have hex : (x == x) = true := by simp
  have heyr : (yr == yr) = true := by simp
  have heyp : (yp == yp) = true := by simp
  have heye : (ye == ye) = true := by simp
  have heyn : (yn == yn) = true := by simp
  have heyk : (yk == yk) = true := by simp
  have hb2 := (fresh w (.cells #[.int .u8 k, .int .i64 c, .int .i64 d, .int .i64 r, .int .i64 p, .int .i64 o, .int .i64 s, .int .i64 z, .bool x, .slice la ln lc, .int .i64 yr, .int .i64 yp, .int .i64 ye, .int .i64 yn, .int .u8 yk, .slice yla yln ylc] (72 : TypeId))).alloc (by simp) (.cells #[.int .u8 k, .int .i64 c, .int .i64 d, .int .i64 r, .int .i64 p, .int .i64 o, .int .i64 s, .int .i64 z, .bool x, .slice lp lq lr, .int .i64 yr, .int .i64 yp, .int .i64 ye, .int .i64 yn, .int .u8 yk, .slice ylp ylq ylr] (72 : TypeId))
  obtain ⟨W, HW⟩ : ∃ W, Hid (W = (w.alloc (.cells #[.int .u8 k, .int .i64 c, .int .i64 d, .int .i64 r, .int .i64 p, .int .i64 o, .int .i64 s, .int .i64 z, .bool x, .slice la ln lc, .int .i64 yr, .int .i64 yp, .int .i64 ye, .int .i64 yn, .int .u8 yk, .slice yla yln ylc] (72 : TypeId))).alloc (.cells #[.int .u8 k, .int .i64 c, .int .i64 d, .int .i64 r, .int .i64 p, .int .i64 o, .int .i64 s, .int .i64 z, .bool x, .slice lp lq lr, .int .i64 yr, .int .i64 yp, .int .i64 ye, .int .i64 yn, .int .u8 yk, .slice ylp ylq ylr] (72 : TypeId))) := ⟨_, hide rfl⟩
  have hbW : Below w.heap.size w W := by rw [HW.out]; exact hb2
  have hbx := boxes2r w (.cells #[.int .u8 k, .int .i64 c, .int .i64 d, .int .i64 r, .int .i64 p, .int .i64 o, .int .i64 s, .int .i64 z, .bool x, .slice la ln lc, .int .i64 yr, .int .i64 yp, .int .i64 ye, .int .i64 yn, .int .u8 yk, .slice yla yln ylc] (72 : TypeId)) (.cells #[.int .u8 k, .int .i64 c, .int .i64 d, .int .i64 r, .int .i64 p, .int .i64 o, .int .i64 s, .int .i64 z, .bool x, .slice lp lq lr, .int .i64 yr, .int .i64 yp, .int .i64 ye, .int .i64 yn, .int .u8 yk, .slice ylp ylq ylr] (72 : TypeId))
  rw [← HW.out] at hbx
  have HBX := hide hbx
  have HBW := hide hbW
  clear hb2 hbx hbW
  have HC0 := hide (fun V (hV : Below w.heap.size w V) => llists_eq (w := V) (hl.keep rBytes hV) (kl.keep rBytes hV))
  have HC1 : Hid (∀ V, Below w.heap.size w V → Calls Tryz.prog 78 #[.agg #[.int .i64 yr, .int .i64 yp, .int .i64 ye, .int .i64 yn, .int .u8 yk, .slice yla yln ylc], .agg #[.int .i64 yr, .int .i64 yp, .int .i64 ye, .int .i64 yn, .int .u8 yk, .slice ylp ylq ylr]] V fun e w' => e = .returned (.bool true) ∧ Below V.heap.size V w') := hide (fun V hV => kanswer_eq (w := V) (cs := [.int .i64 yr, .int .i64 yp, .int .i64 ye, .int .i64 yn, .int .u8 yk, .slice yla yln ylc]) (ds := [.int .i64 yr, .int .i64 yp, .int .i64 ye, .int .i64 yn, .int .u8 yk, .slice ylp ylq ylr]) (show AAnswer V _ _ from ⟨_, _, rfl, ⟨rfl, hyr⟩, ⟨_, _, rfl, ⟨rfl, hyp⟩, ⟨_, _, rfl, ⟨rfl, hye⟩, ⟨_, _, rfl, ⟨rfl, hyn⟩, ⟨_, _, rfl, ⟨rfl, hyk⟩, ⟨_, _, _, rfl, hyl.keep rPlace hV⟩⟩⟩⟩⟩⟩) (show AAnswer V _ _ from ⟨_, _, rfl, ⟨rfl, hyr⟩, ⟨_, _, rfl, ⟨rfl, hyp⟩, ⟨_, _, rfl, ⟨rfl, hye⟩, ⟨_, _, rfl, ⟨rfl, hyn⟩, ⟨_, _, rfl, ⟨rfl, hyk⟩, ⟨_, _, _, rfl, kyl.keep rPlace hV⟩⟩⟩⟩⟩⟩))
  clear hl kl hyl kyl
  have HB0 := hide (Below.refl W.heap.size W)
  have hx1 := (HB0.out.block _ (hp_lt HBX.out.1)).trans HBX.out.1
  have hx2 := (HB0.out.block _ (hp_lt HBX.out.2)).trans HBX.out.2
  have g0 := (row_facts hx1 0 (.int .u8 k) rfl).1
  have k0 := (row_facts hx2 0 (.int .u8 k) rfl).1
  have g1 := (row_facts hx1 1 (.int .i64 c) rfl).1
  have k1 := (row_facts hx2 1 (.int .i64 c) rfl).1
  have g2 := (row_facts hx1 2 (.int .i64 d) rfl).1
  have k2 := (row_facts hx2 2 (.int .i64 d) rfl).1
  have g3 := (row_facts hx1 3 (.int .i64 r) rfl).1
  have k3 := (row_facts hx2 3 (.int .i64 r) rfl).1
  have g4 := (row_facts hx1 4 (.int .i64 p) rfl).1
  have k4 := (row_facts hx2 4 (.int .i64 p) rfl).1
  have g5 := (row_facts hx1 5 (.int .i64 o) rfl).1
  have k5 := (row_facts hx2 5 (.int .i64 o) rfl).1
  have g6 := (row_facts hx1 6 (.int .i64 s) rfl).1
  have k6 := (row_facts hx2 6 (.int .i64 s) rfl).1
  have g7 := (row_facts hx1 7 (.int .i64 z) rfl).1
  have k7 := (row_facts hx2 7 (.int .i64 z) rfl).1
  have g8 := (row_facts hx1 8 (.bool x) rfl).1
  have k8 := (row_facts hx2 8 (.bool x) rfl).1
  have g9 := (row_facts hx1 9 (.slice la ln lc) rfl).1
  have k9 := (row_facts hx2 9 (.slice lp lq lr) rfl).1
  have g10 := (row_facts hx1 10 (.int .i64 yr) rfl).1
  have k10 := (row_facts hx2 10 (.int .i64 yr) rfl).1
  have g11 := (row_facts hx1 11 (.int .i64 yp) rfl).1
  have k11 := (row_facts hx2 11 (.int .i64 yp) rfl).1
  have g12 := (row_facts hx1 12 (.int .i64 ye) rfl).1
  have k12 := (row_facts hx2 12 (.int .i64 ye) rfl).1
  have g13 := (row_facts hx1 13 (.int .i64 yn) rfl).1
  have k13 := (row_facts hx2 13 (.int .i64 yn) rfl).1
  have g14 := (row_facts hx1 14 (.int .u8 yk) rfl).1
  have k14 := (row_facts hx2 14 (.int .u8 yk) rfl).1
  have g15 := (row_facts hx1 15 (.slice yla yln ylc) rfl).1
  have k15 := (row_facts hx2 15 (.slice ylp ylq ylr) rfl).1
  clear hx1 hx2
  rw [HW.out] at g0 k0 g1 k1 g2 k2 g3 k3 g4 k4 g5 k5 g6 k6 g7 k7 g8 k8 g9 k9 g10 k10 g11 k11 g12 k12 g13 k13 g14 k14 g15 k15
  go_enter Tryz.func25, Tryz.ntmps25
  go_wp2_with fail
  rw [← HW.out]
  refine (HC0.out _ HBW.out).mono ?_
  rintro e w1 ⟨rfl, hb⟩
  have HB1 := hide (HB0.out.trans (hb.mono HB0.out.size))
  clear hb
  clear g0 k0 g1 k1 g2 k2 g3 k3 g4 k4 g5 k5 g6 k6 g7 k7 g8 k8 g9 k9 g10 k10 g11 k11 g12 k12 g13 k13 g14 k14 g15 k15
  have hx1 := (HB1.out.block _ (hp_lt HBX.out.1)).trans HBX.out.1
  have hx2 := (HB1.out.block _ (hp_lt HBX.out.2)).trans HBX.out.2
  have g0 := (row_facts hx1 0 (.int .u8 k) rfl).1
  have k0 := (row_facts hx2 0 (.int .u8 k) rfl).1
  have g1 := (row_facts hx1 1 (.int .i64 c) rfl).1
  have k1 := (row_facts hx2 1 (.int .i64 c) rfl).1
  have g2 := (row_facts hx1 2 (.int .i64 d) rfl).1
  have k2 := (row_facts hx2 2 (.int .i64 d) rfl).1
  have g3 := (row_facts hx1 3 (.int .i64 r) rfl).1
  have k3 := (row_facts hx2 3 (.int .i64 r) rfl).1
  have g4 := (row_facts hx1 4 (.int .i64 p) rfl).1
  have k4 := (row_facts hx2 4 (.int .i64 p) rfl).1
  have g5 := (row_facts hx1 5 (.int .i64 o) rfl).1
  have k5 := (row_facts hx2 5 (.int .i64 o) rfl).1
  have g6 := (row_facts hx1 6 (.int .i64 s) rfl).1
  have k6 := (row_facts hx2 6 (.int .i64 s) rfl).1
  have g7 := (row_facts hx1 7 (.int .i64 z) rfl).1
  have k7 := (row_facts hx2 7 (.int .i64 z) rfl).1
  have g8 := (row_facts hx1 8 (.bool x) rfl).1
  have k8 := (row_facts hx2 8 (.bool x) rfl).1
  have g9 := (row_facts hx1 9 (.slice la ln lc) rfl).1
  have k9 := (row_facts hx2 9 (.slice lp lq lr) rfl).1
  have g10 := (row_facts hx1 10 (.int .i64 yr) rfl).1
  have k10 := (row_facts hx2 10 (.int .i64 yr) rfl).1
  have g11 := (row_facts hx1 11 (.int .i64 yp) rfl).1
  have k11 := (row_facts hx2 11 (.int .i64 yp) rfl).1
  have g12 := (row_facts hx1 12 (.int .i64 ye) rfl).1
  have k12 := (row_facts hx2 12 (.int .i64 ye) rfl).1
  have g13 := (row_facts hx1 13 (.int .i64 yn) rfl).1
  have k13 := (row_facts hx2 13 (.int .i64 yn) rfl).1
  have g14 := (row_facts hx1 14 (.int .u8 yk) rfl).1
  have k14 := (row_facts hx2 14 (.int .u8 yk) rfl).1
  have g15 := (row_facts hx1 15 (.slice yla yln ylc) rfl).1
  have k15 := (row_facts hx2 15 (.slice ylp ylq ylr) rfl).1
  clear hx1 hx2
  go_wp2_with fail
  refine (HC1.out _ (HBW.out.trans (HB1.out.mono HBW.out.size))).mono ?_
  rintro e w2 ⟨rfl, hb⟩
  have HB2 := hide (HB1.out.trans (hb.mono HB1.out.size))
  clear hb
  clear g0 k0 g1 k1 g2 k2 g3 k3 g4 k4 g5 k5 g6 k6 g7 k7 g8 k8 g9 k9 g10 k10 g11 k11 g12 k12 g13 k13 g14 k14 g15 k15
  have hx1 := (HB2.out.block _ (hp_lt HBX.out.1)).trans HBX.out.1
  have hx2 := (HB2.out.block _ (hp_lt HBX.out.2)).trans HBX.out.2
  have g0 := (row_facts hx1 0 (.int .u8 k) rfl).1
  have k0 := (row_facts hx2 0 (.int .u8 k) rfl).1
  have g1 := (row_facts hx1 1 (.int .i64 c) rfl).1
  have k1 := (row_facts hx2 1 (.int .i64 c) rfl).1
  have g2 := (row_facts hx1 2 (.int .i64 d) rfl).1
  have k2 := (row_facts hx2 2 (.int .i64 d) rfl).1
  have g3 := (row_facts hx1 3 (.int .i64 r) rfl).1
  have k3 := (row_facts hx2 3 (.int .i64 r) rfl).1
  have g4 := (row_facts hx1 4 (.int .i64 p) rfl).1
  have k4 := (row_facts hx2 4 (.int .i64 p) rfl).1
  have g5 := (row_facts hx1 5 (.int .i64 o) rfl).1
  have k5 := (row_facts hx2 5 (.int .i64 o) rfl).1
  have g6 := (row_facts hx1 6 (.int .i64 s) rfl).1
  have k6 := (row_facts hx2 6 (.int .i64 s) rfl).1
  have g7 := (row_facts hx1 7 (.int .i64 z) rfl).1
  have k7 := (row_facts hx2 7 (.int .i64 z) rfl).1
  have g8 := (row_facts hx1 8 (.bool x) rfl).1
  have k8 := (row_facts hx2 8 (.bool x) rfl).1
  have g9 := (row_facts hx1 9 (.slice la ln lc) rfl).1
  have k9 := (row_facts hx2 9 (.slice lp lq lr) rfl).1
  have g10 := (row_facts hx1 10 (.int .i64 yr) rfl).1
  have k10 := (row_facts hx2 10 (.int .i64 yr) rfl).1
  have g11 := (row_facts hx1 11 (.int .i64 yp) rfl).1
  have k11 := (row_facts hx2 11 (.int .i64 yp) rfl).1
  have g12 := (row_facts hx1 12 (.int .i64 ye) rfl).1
  have k12 := (row_facts hx2 12 (.int .i64 ye) rfl).1
  have g13 := (row_facts hx1 13 (.int .i64 yn) rfl).1
  have k13 := (row_facts hx2 13 (.int .i64 yn) rfl).1
  have g14 := (row_facts hx1 14 (.int .u8 yk) rfl).1
  have k14 := (row_facts hx2 14 (.int .u8 yk) rfl).1
  have g15 := (row_facts hx1 15 (.slice yla yln ylc) rfl).1
  have k15 := (row_facts hx2 15 (.slice ylp ylq ylr) rfl).1
  clear hx1 hx2
  go_wp2_with fail
  go_ret
  exact ⟨rfl, HBW.out.trans (HB2.out.mono HBW.out.size)⟩

set_option maxHeartbeats 4000000 in
theorem lraft_eq {x : Cod.Raft} {cs ds : List Value} (hx0 : ARaft w x cs) (hy0 : ARaft w x ds) : Calls Tryz.prog 28 #[.agg cs.toArray, .agg ds.toArray] w fun e w' => e = .returned (.bool true) ∧ Below w.heap.size w w' := by
  obtain ⟨_, k, f, t, m, i, o, c, r, x, l, y⟩ := x
  obtain ⟨_, _, rfl, ⟨g, rfl, rfl, hg⟩, ⟨_, _, rfl, ⟨rfl, hk⟩, ⟨_, _, rfl, ⟨rfl, hf⟩, ⟨_, _, rfl, ⟨rfl, ht⟩, ⟨_, _, rfl, ⟨rfl, hm⟩, ⟨_, _, rfl, ⟨rfl, hi⟩, ⟨_, _, rfl, ⟨rfl, ho⟩, ⟨_, _, rfl, ⟨rfl, hc⟩, ⟨_, _, rfl, ⟨rfl, hr⟩, ⟨_, _, rfl, rfl, ⟨_, _, rfl, ⟨la, ln, lc, rfl, hl⟩, ⟨ya, yn, yc, rfl, hy⟩⟩⟩⟩⟩⟩⟩⟩⟩⟩⟩⟩ := hx0
  obtain ⟨_, _, rfl, ⟨gw, rfl, eg, _⟩, ⟨_, _, rfl, ⟨rfl, _⟩, ⟨_, _, rfl, ⟨rfl, _⟩, ⟨_, _, rfl, ⟨rfl, _⟩, ⟨_, _, rfl, ⟨rfl, _⟩, ⟨_, _, rfl, ⟨rfl, _⟩, ⟨_, _, rfl, ⟨rfl, _⟩, ⟨_, _, rfl, ⟨rfl, _⟩, ⟨_, _, rfl, ⟨rfl, _⟩, ⟨_, _, rfl, rfl, ⟨_, _, rfl, ⟨lp, lq, lr, rfl, kl⟩, ⟨yp, yq, yr, rfl, ky⟩⟩⟩⟩⟩⟩⟩⟩⟩⟩⟩⟩ := hy0
  obtain rfl : g = gw := by rw [← str_sb gw, eg, str_sb]
  have hsg : (g.toList == g.toList) = true := by simp
  have hek : (k == k) = true := by simp
  have hef : (f == f) = true := by simp
  have het : (t == t) = true := by simp
  have hem : (m == m) = true := by simp
  have hei : (i == i) = true := by simp
  have heo : (o == o) = true := by simp
  have hec : (c == c) = true := by simp
  have her : (r == r) = true := by simp
  have hex : (x == x) = true := by simp
  have hb2 := (fresh w (.cells #[.string g, .int .u8 k, .int .i64 f, .int .i64 t, .int .i64 m, .int .i64 i, .int .i64 o, .int .i64 c, .int .i64 r, .bool x, .slice la ln lc, .slice ya yn yc] (79 : TypeId))).alloc (by simp) (.cells #[.string g, .int .u8 k, .int .i64 f, .int .i64 t, .int .i64 m, .int .i64 i, .int .i64 o, .int .i64 c, .int .i64 r, .bool x, .slice lp lq lr, .slice yp yq yr] (79 : TypeId))
  obtain ⟨W, HW⟩ : ∃ W, Hid (W = (w.alloc (.cells #[.string g, .int .u8 k, .int .i64 f, .int .i64 t, .int .i64 m, .int .i64 i, .int .i64 o, .int .i64 c, .int .i64 r, .bool x, .slice la ln lc, .slice ya yn yc] (79 : TypeId))).alloc (.cells #[.string g, .int .u8 k, .int .i64 f, .int .i64 t, .int .i64 m, .int .i64 i, .int .i64 o, .int .i64 c, .int .i64 r, .bool x, .slice lp lq lr, .slice yp yq yr] (79 : TypeId))) := ⟨_, hide rfl⟩
  have hbW : Below w.heap.size w W := by rw [HW.out]; exact hb2
  have hbx := boxes2r w (.cells #[.string g, .int .u8 k, .int .i64 f, .int .i64 t, .int .i64 m, .int .i64 i, .int .i64 o, .int .i64 c, .int .i64 r, .bool x, .slice la ln lc, .slice ya yn yc] (79 : TypeId)) (.cells #[.string g, .int .u8 k, .int .i64 f, .int .i64 t, .int .i64 m, .int .i64 i, .int .i64 o, .int .i64 c, .int .i64 r, .bool x, .slice lp lq lr, .slice yp yq yr] (79 : TypeId))
  rw [← HW.out] at hbx
  have HBX := hide hbx
  have HBW := hide hbW
  clear hb2 hbx hbW
  have HC0 := hide (fun V (hV : Below w.heap.size w V) => lentries_eq (w := V) (hl.keep rEntry hV) (kl.keep rEntry hV))
  have HC1 := hide (fun V (hV : Below w.heap.size w V) => same_true (w := V) rfl (hy.keep hV) (ky.keep hV))
  clear hl kl hy ky
  have HB0 := hide (Below.refl W.heap.size W)
  have hx1 := (HB0.out.block _ (hp_lt HBX.out.1)).trans HBX.out.1
  have hx2 := (HB0.out.block _ (hp_lt HBX.out.2)).trans HBX.out.2
  have g0 := (row_facts hx1 0 (.string g) rfl).1
  have k0 := (row_facts hx2 0 (.string g) rfl).1
  have g1 := (row_facts hx1 1 (.int .u8 k) rfl).1
  have k1 := (row_facts hx2 1 (.int .u8 k) rfl).1
  have g2 := (row_facts hx1 2 (.int .i64 f) rfl).1
  have k2 := (row_facts hx2 2 (.int .i64 f) rfl).1
  have g3 := (row_facts hx1 3 (.int .i64 t) rfl).1
  have k3 := (row_facts hx2 3 (.int .i64 t) rfl).1
  have g4 := (row_facts hx1 4 (.int .i64 m) rfl).1
  have k4 := (row_facts hx2 4 (.int .i64 m) rfl).1
  have g5 := (row_facts hx1 5 (.int .i64 i) rfl).1
  have k5 := (row_facts hx2 5 (.int .i64 i) rfl).1
  have g6 := (row_facts hx1 6 (.int .i64 o) rfl).1
  have k6 := (row_facts hx2 6 (.int .i64 o) rfl).1
  have g7 := (row_facts hx1 7 (.int .i64 c) rfl).1
  have k7 := (row_facts hx2 7 (.int .i64 c) rfl).1
  have g8 := (row_facts hx1 8 (.int .i64 r) rfl).1
  have k8 := (row_facts hx2 8 (.int .i64 r) rfl).1
  have g9 := (row_facts hx1 9 (.bool x) rfl).1
  have k9 := (row_facts hx2 9 (.bool x) rfl).1
  have g10 := (row_facts hx1 10 (.slice la ln lc) rfl).1
  have k10 := (row_facts hx2 10 (.slice lp lq lr) rfl).1
  have g11 := (row_facts hx1 11 (.slice ya yn yc) rfl).1
  have k11 := (row_facts hx2 11 (.slice yp yq yr) rfl).1
  clear hx1 hx2
  rw [HW.out] at g0 k0 g1 k1 g2 k2 g3 k3 g4 k4 g5 k5 g6 k6 g7 k7 g8 k8 g9 k9 g10 k10 g11 k11
  go_enter Tryz.func28, Tryz.ntmps28
  go_wp2_with fail
  rw [← HW.out]
  refine (HC0.out _ HBW.out).mono ?_
  rintro e w1 ⟨rfl, hb⟩
  have HB1 := hide (HB0.out.trans (hb.mono HB0.out.size))
  clear hb
  clear g0 k0 g1 k1 g2 k2 g3 k3 g4 k4 g5 k5 g6 k6 g7 k7 g8 k8 g9 k9 g10 k10 g11 k11
  have hx1 := (HB1.out.block _ (hp_lt HBX.out.1)).trans HBX.out.1
  have hx2 := (HB1.out.block _ (hp_lt HBX.out.2)).trans HBX.out.2
  have g0 := (row_facts hx1 0 (.string g) rfl).1
  have k0 := (row_facts hx2 0 (.string g) rfl).1
  have g1 := (row_facts hx1 1 (.int .u8 k) rfl).1
  have k1 := (row_facts hx2 1 (.int .u8 k) rfl).1
  have g2 := (row_facts hx1 2 (.int .i64 f) rfl).1
  have k2 := (row_facts hx2 2 (.int .i64 f) rfl).1
  have g3 := (row_facts hx1 3 (.int .i64 t) rfl).1
  have k3 := (row_facts hx2 3 (.int .i64 t) rfl).1
  have g4 := (row_facts hx1 4 (.int .i64 m) rfl).1
  have k4 := (row_facts hx2 4 (.int .i64 m) rfl).1
  have g5 := (row_facts hx1 5 (.int .i64 i) rfl).1
  have k5 := (row_facts hx2 5 (.int .i64 i) rfl).1
  have g6 := (row_facts hx1 6 (.int .i64 o) rfl).1
  have k6 := (row_facts hx2 6 (.int .i64 o) rfl).1
  have g7 := (row_facts hx1 7 (.int .i64 c) rfl).1
  have k7 := (row_facts hx2 7 (.int .i64 c) rfl).1
  have g8 := (row_facts hx1 8 (.int .i64 r) rfl).1
  have k8 := (row_facts hx2 8 (.int .i64 r) rfl).1
  have g9 := (row_facts hx1 9 (.bool x) rfl).1
  have k9 := (row_facts hx2 9 (.bool x) rfl).1
  have g10 := (row_facts hx1 10 (.slice la ln lc) rfl).1
  have k10 := (row_facts hx2 10 (.slice lp lq lr) rfl).1
  have g11 := (row_facts hx1 11 (.slice ya yn yc) rfl).1
  have k11 := (row_facts hx2 11 (.slice yp yq yr) rfl).1
  clear hx1 hx2
  go_wp2_with fail
  refine (HC1.out _ (HBW.out.trans (HB1.out.mono HBW.out.size))).mono ?_
  rintro e w2 ⟨rfl, rfl⟩
  have HB2 := HB1
  clear g0 k0 g1 k1 g2 k2 g3 k3 g4 k4 g5 k5 g6 k6 g7 k7 g8 k8 g9 k9 g10 k10 g11 k11
  have hx1 := (HB2.out.block _ (hp_lt HBX.out.1)).trans HBX.out.1
  have hx2 := (HB2.out.block _ (hp_lt HBX.out.2)).trans HBX.out.2
  have g0 := (row_facts hx1 0 (.string g) rfl).1
  have k0 := (row_facts hx2 0 (.string g) rfl).1
  have g1 := (row_facts hx1 1 (.int .u8 k) rfl).1
  have k1 := (row_facts hx2 1 (.int .u8 k) rfl).1
  have g2 := (row_facts hx1 2 (.int .i64 f) rfl).1
  have k2 := (row_facts hx2 2 (.int .i64 f) rfl).1
  have g3 := (row_facts hx1 3 (.int .i64 t) rfl).1
  have k3 := (row_facts hx2 3 (.int .i64 t) rfl).1
  have g4 := (row_facts hx1 4 (.int .i64 m) rfl).1
  have k4 := (row_facts hx2 4 (.int .i64 m) rfl).1
  have g5 := (row_facts hx1 5 (.int .i64 i) rfl).1
  have k5 := (row_facts hx2 5 (.int .i64 i) rfl).1
  have g6 := (row_facts hx1 6 (.int .i64 o) rfl).1
  have k6 := (row_facts hx2 6 (.int .i64 o) rfl).1
  have g7 := (row_facts hx1 7 (.int .i64 c) rfl).1
  have k7 := (row_facts hx2 7 (.int .i64 c) rfl).1
  have g8 := (row_facts hx1 8 (.int .i64 r) rfl).1
  have k8 := (row_facts hx2 8 (.int .i64 r) rfl).1
  have g9 := (row_facts hx1 9 (.bool x) rfl).1
  have k9 := (row_facts hx2 9 (.bool x) rfl).1
  have g10 := (row_facts hx1 10 (.slice la ln lc) rfl).1
  have k10 := (row_facts hx2 10 (.slice lp lq lr) rfl).1
  have g11 := (row_facts hx1 11 (.slice ya yn yc) rfl).1
  have k11 := (row_facts hx2 11 (.slice yp yq yr) rfl).1
  clear hx1 hx2
  go_wp2_with fail
  go_ret
  exact ⟨rfl, HBW.out.trans (HB2.out.mono HBW.out.size)⟩

end

end Go.Proofs.YtnimfkcnkkjlkaaGreat

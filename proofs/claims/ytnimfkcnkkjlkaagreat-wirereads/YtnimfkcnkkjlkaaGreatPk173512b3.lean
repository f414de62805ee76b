/-
  Texts put into one.
-/
import Derived.Test.YtnimfkcnkkjlkaaGreatPkb39a30be
import Derived.Test.YtnimfkcnkkjlkaaGreatPk19cc588b

/-
  Commands: the document's bytes.
-/
namespace Go.Proofs.YtnimfkcnkkjlkaaGreat
open Go.RowKit
set_option maxRecDepth 100000
set_option linter.unusedVariables false

theorem APartC.ref {w : World} {x : Cod.PartC} {cs : List Value} (h : APartC w x cs) (hroom : (Cod.thing Cod.part 1 x).length ≤ 140737488355328) : Calls Tryz.prog 57 #[.agg cs.toArray] w (Pd w (Cod.thing Cod.part 1 x)) := by
  obtain ⟨k, ⟨bp, be, bf, bl⟩, o⟩ := x
  obtain ⟨_, _, rfl, ⟨rfl, hk⟩, ⟨_, _, rfl, ⟨_, _, rfl, ⟨rfl, hbp⟩, ⟨_, _, rfl, ⟨rfl, hbe⟩, ⟨_, _, rfl, ⟨rfl, hbf⟩, ⟨bla, bln, blc, rfl, hbl⟩⟩⟩⟩, ⟨rfl, ho⟩⟩⟩ := h
  exact part_any k bp be bf o hk hbp hbe hbf ho bla bln blc bl w hbl hroom

theorem AMetaC.ref {w : World} {x : Cod.MetaC} {cs : List Value} (h : AMetaC w x cs) (hroom : (Cod.thing Cod.meta' 2 x).length ≤ 140737488355328) : Calls Tryz.prog 63 #[.agg cs.toArray] w (Pd w (Cod.thing Cod.meta' 2 x)) := by
  obtain ⟨k, _, _, n, l, ⟨_, qp⟩, o, u, c, a⟩ := x
  obtain ⟨_, _, rfl, ⟨rfl, hk⟩, ⟨_, _, rfl, ⟨g, rfl, rfl, hg⟩, ⟨_, _, rfl, ⟨m, rfl, rfl, hm⟩, ⟨_, _, rfl, ⟨rfl, hn⟩, ⟨_, _, rfl, ⟨la, ln, lc, rfl, hl⟩, ⟨_, _, rfl, ⟨_, _, rfl, ⟨qt, rfl, rfl, hqt⟩, ⟨rfl, hqp⟩⟩, ⟨_, _, rfl, ⟨rfl, ho⟩, ⟨_, _, rfl, ⟨rfl, hu⟩, ⟨_, _, rfl, ⟨rfl, hc⟩, ⟨rfl, ha⟩⟩⟩⟩⟩⟩⟩⟩⟩⟩ := h
  exact meta_any k hk g m n hn la ln lc l hl qt qp hqp o ho u hu c hc a ha hroom

end Go.Proofs.YtnimfkcnkkjlkaaGreat

/-
  Requests, answers and messages: the document's bytes.
-/
namespace Go.Proofs.YtnimfkcnkkjlkaaGreat
open Go.RowKit
set_option maxRecDepth 100000
set_option linter.unusedVariables false

theorem ARequest.ref {w : World} {x : Cod.Request} {cs : List Value} (h : ARequest w x cs) (hroom : (Cod.thing Cod.request 5 x).length ≤ 140737488355328) : Calls Tryz.prog 69 #[.agg cs.toArray] w (Pd w (Cod.thing Cod.request 5 x)) := by
  obtain ⟨k, c, d, _, p, ⟨bp, be, bf, bl⟩, o, m, z, ⟨yk, _, _, yn, yl, ⟨_, yqp⟩, yo, yu, yc, ya⟩⟩ := x
  obtain ⟨_, _, rfl, ⟨rfl, hk⟩, ⟨_, _, rfl, ⟨rfl, hc⟩, ⟨_, _, rfl, ⟨rfl, hd⟩, ⟨_, _, rfl, ⟨t, rfl, rfl, ht⟩, ⟨_, _, rfl, ⟨rfl, hp⟩, ⟨_, _, rfl, ⟨_, _, rfl, ⟨rfl, hbp⟩, ⟨_, _, rfl, ⟨rfl, hbe⟩, ⟨_, _, rfl, ⟨rfl, hbf⟩, ⟨bla, bln, blc, rfl, hbl⟩⟩⟩⟩, ⟨_, _, rfl, ⟨rfl, ho⟩, ⟨_, _, rfl, ⟨rfl, hm⟩, ⟨_, _, rfl, ⟨rfl, hz⟩, ⟨_, _, rfl, ⟨rfl, hyk⟩, ⟨_, _, rfl, ⟨yg, rfl, rfl, hyg⟩, ⟨_, _, rfl, ⟨ym, rfl, rfl, hym⟩, ⟨_, _, rfl, ⟨rfl, hyn⟩, ⟨_, _, rfl, ⟨yla, yln, ylc, rfl, hyl⟩, ⟨_, _, rfl, ⟨_, _, rfl, ⟨yqt, rfl, rfl, hyqt⟩, ⟨rfl, hyqp⟩⟩, ⟨_, _, rfl, ⟨rfl, hyo⟩, ⟨_, _, rfl, ⟨rfl, hyu⟩, ⟨_, _, rfl, ⟨rfl, hyc⟩, ⟨rfl, hya⟩⟩⟩⟩⟩⟩⟩⟩⟩⟩⟩⟩⟩⟩⟩⟩⟩⟩⟩ := h
  exact request_any k hk c hc d hd t p hp bp hbp be hbe bf hbf bla bln blc bl hbl o ho m hm z hz yk hyk yg ym yn hyn yla yln ylc yl hyl yqt yqp hyqp yo hyo yu hyu yc hyc ya hya hroom

theorem AResponse.ref {w : World} {x : Cod.Response} {cs : List Value} (h : AResponse w x cs) (hroom : (Cod.thing Cod.response 6 x).length ≤ 140737488355328) : Calls Tryz.prog 76 #[.agg cs.toArray] w (Pd w (Cod.thing Cod.response 6 x)) := by
  obtain ⟨k, c, d, r, p, o, s, z, x, l, ⟨yr, yp, ye, yn, yk, yl⟩⟩ := x
  obtain ⟨_, _, rfl, ⟨rfl, hk⟩, ⟨_, _, rfl, ⟨rfl, hc⟩, ⟨_, _, rfl, ⟨rfl, hd⟩, ⟨_, _, rfl, ⟨rfl, hr⟩, ⟨_, _, rfl, ⟨rfl, hp⟩, ⟨_, _, rfl, ⟨rfl, ho⟩, ⟨_, _, rfl, ⟨rfl, hs⟩, ⟨_, _, rfl, ⟨rfl, hz⟩, ⟨_, _, rfl, rfl, ⟨_, _, rfl, ⟨la, ln, lc, rfl, hl⟩, ⟨_, _, rfl, ⟨rfl, hyr⟩, ⟨_, _, rfl, ⟨rfl, hyp⟩, ⟨_, _, rfl, ⟨rfl, hye⟩, ⟨_, _, rfl, ⟨rfl, hyn⟩, ⟨_, _, rfl, ⟨rfl, hyk⟩, ⟨yla, yln, ylc, rfl, hyl⟩⟩⟩⟩⟩⟩⟩⟩⟩⟩⟩⟩⟩⟩⟩⟩ := h
  exact response_any k hk c hc d hd r hr p hp o ho s hs z hz x la ln lc l hl yr hyr yp hyp ye hye yn hyn yk hyk yla yln ylc yl hyl hroom

theorem ARaft.ref {w : World} {x : Cod.Raft} {cs : List Value} (h : ARaft w x cs) (hroom : (Cod.thing Cod.raft 7 x).length ≤ 140737488355328) : Calls Tryz.prog 84 #[.agg cs.toArray] w (Pd w (Cod.thing Cod.raft 7 x)) := by
  obtain ⟨_, k, f, t, m, i, o, c, r, x, l, y⟩ := x
  obtain ⟨_, _, rfl, ⟨g, rfl, rfl, hg⟩, ⟨_, _, rfl, ⟨rfl, hk⟩, ⟨_, _, rfl, ⟨rfl, hf⟩, ⟨_, _, rfl, ⟨rfl, ht⟩, ⟨_, _, rfl, ⟨rfl, hm⟩, ⟨_, _, rfl, ⟨rfl, hi⟩, ⟨_, _, rfl, ⟨rfl, ho⟩, ⟨_, _, rfl, ⟨rfl, hc⟩, ⟨_, _, rfl, ⟨rfl, hr⟩, ⟨_, _, rfl, rfl, ⟨_, _, rfl, ⟨la, ln, lc, rfl, hl⟩, ⟨ya, yn, yc, rfl, hy⟩⟩⟩⟩⟩⟩⟩⟩⟩⟩⟩⟩ := h
  exact raft_any g k hk f hf t ht m hm i hi o ho c hc r hr x la ln lc l hl ya yn yc y hy hroom

end Go.Proofs.YtnimfkcnkkjlkaaGreat

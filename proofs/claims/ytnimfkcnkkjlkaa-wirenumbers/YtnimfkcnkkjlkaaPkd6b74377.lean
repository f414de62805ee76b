/-
  Commands put.
-/
import Derived.Test.YtnimfkcnkkjlkaaPk0fcb8420
import Derived.Test.YtnimfkcnkkjlkaaPke73b9e83
import Derived.Test.YtnimfkcnkkjlkaaPkd164c265
namespace Go.Proofs.Ytnimfkcnkkjlkaa
open Go.RowKit
set_option maxRecDepth 100000
set_option linter.unusedVariables false

theorem APartC.len {w : World} {x : Cod.PartC} {cs : List Value} (h : APartC w x cs) : cs.length = 6 := by
  obtain ⟨k, ⟨bp, be, bf, bl⟩, o⟩ := x
  obtain ⟨_, _, rfl, ⟨rfl, hk⟩, ⟨_, _, rfl, ⟨_, _, rfl, ⟨rfl, hbp⟩, ⟨_, _, rfl, ⟨rfl, hbe⟩, ⟨_, _, rfl, ⟨rfl, hbf⟩, ⟨bla, bln, blc, rfl, hbl⟩⟩⟩⟩, ⟨rfl, ho⟩⟩⟩ := h
  rfl

theorem APartC.put {w : World} {x : Cod.PartC} {cs : List Value} (h : APartC w x cs) : Calls Try.prog 13 #[.agg cs.toArray] w (Pq w 60000 (Cod.thing Cod.part 1 x)) := by
  obtain ⟨k, ⟨bp, be, bf, bl⟩, o⟩ := x
  obtain ⟨_, _, rfl, ⟨rfl, hk⟩, ⟨_, _, rfl, ⟨_, _, rfl, ⟨rfl, hbp⟩, ⟨_, _, rfl, ⟨rfl, hbe⟩, ⟨_, _, rfl, ⟨rfl, hbf⟩, ⟨bla, bln, blc, rfl, hbl⟩⟩⟩⟩, ⟨rfl, ho⟩⟩⟩ := h
  exact putPart_any k hk bp hbp be hbe bf hbf bla bln blc bl hbl o ho

theorem APartC.ref {w : World} {x : Cod.PartC} {cs : List Value} (h : APartC w x cs) (hroom : (Cod.thing Cod.part 1 x).length ≤ 140737488355328) : Calls Try.prog 15 #[.agg cs.toArray] w (Pd w (Cod.thing Cod.part 1 x)) := by
  obtain ⟨k, ⟨bp, be, bf, bl⟩, o⟩ := x
  obtain ⟨_, _, rfl, ⟨rfl, hk⟩, ⟨_, _, rfl, ⟨_, _, rfl, ⟨rfl, hbp⟩, ⟨_, _, rfl, ⟨rfl, hbe⟩, ⟨_, _, rfl, ⟨rfl, hbf⟩, ⟨bla, bln, blc, rfl, hbl⟩⟩⟩⟩, ⟨rfl, ho⟩⟩⟩ := h
  exact part_any k bp be bf o hk hbp hbe hbf ho bla bln blc bl w hbl hroom

theorem AMetaC.len {w : World} {x : Cod.MetaC} {cs : List Value} (h : AMetaC w x cs) : cs.length = 11 := by
  obtain ⟨k, _, _, n, l, ⟨_, qp⟩, o, u, c, a⟩ := x
  obtain ⟨_, _, rfl, ⟨rfl, hk⟩, ⟨_, _, rfl, ⟨g, rfl, rfl, hg⟩, ⟨_, _, rfl, ⟨m, rfl, rfl, hm⟩, ⟨_, _, rfl, ⟨rfl, hn⟩, ⟨_, _, rfl, ⟨la, ln, lc, rfl, hl⟩, ⟨_, _, rfl, ⟨_, _, rfl, ⟨qt, rfl, rfl, hqt⟩, ⟨rfl, hqp⟩⟩, ⟨_, _, rfl, ⟨rfl, ho⟩, ⟨_, _, rfl, ⟨rfl, hu⟩, ⟨_, _, rfl, ⟨rfl, hc⟩, ⟨rfl, ha⟩⟩⟩⟩⟩⟩⟩⟩⟩⟩ := h
  rfl

theorem AMetaC.put {w : World} {x : Cod.MetaC} {cs : List Value} (h : AMetaC w x cs) : Calls Try.prog 16 #[.agg cs.toArray] w (Pq w 60000 (Cod.thing Cod.meta' 2 x)) := by
  obtain ⟨k, _, _, n, l, ⟨_, qp⟩, o, u, c, a⟩ := x
  obtain ⟨_, _, rfl, ⟨rfl, hk⟩, ⟨_, _, rfl, ⟨g, rfl, rfl, hg⟩, ⟨_, _, rfl, ⟨m, rfl, rfl, hm⟩, ⟨_, _, rfl, ⟨rfl, hn⟩, ⟨_, _, rfl, ⟨la, ln, lc, rfl, hl⟩, ⟨_, _, rfl, ⟨_, _, rfl, ⟨qt, rfl, rfl, hqt⟩, ⟨rfl, hqp⟩⟩, ⟨_, _, rfl, ⟨rfl, ho⟩, ⟨_, _, rfl, ⟨rfl, hu⟩, ⟨_, _, rfl, ⟨rfl, hc⟩, ⟨rfl, ha⟩⟩⟩⟩⟩⟩⟩⟩⟩⟩ := h
  exact putMeta_any k hk g hg m hm n hn la ln lc l hl qt hqt qp hqp o ho u hu c hc a ha

theorem AMetaC.ref {w : World} {x : Cod.MetaC} {cs : List Value} (h : AMetaC w x cs) (hroom : (Cod.thing Cod.meta' 2 x).length ≤ 140737488355328) : Calls Try.prog 17 #[.agg cs.toArray] w (Pd w (Cod.thing Cod.meta' 2 x)) := by
  obtain ⟨k, _, _, n, l, ⟨_, qp⟩, o, u, c, a⟩ := x
  obtain ⟨_, _, rfl, ⟨rfl, hk⟩, ⟨_, _, rfl, ⟨g, rfl, rfl, hg⟩, ⟨_, _, rfl, ⟨m, rfl, rfl, hm⟩, ⟨_, _, rfl, ⟨rfl, hn⟩, ⟨_, _, rfl, ⟨la, ln, lc, rfl, hl⟩, ⟨_, _, rfl, ⟨_, _, rfl, ⟨qt, rfl, rfl, hqt⟩, ⟨rfl, hqp⟩⟩, ⟨_, _, rfl, ⟨rfl, ho⟩, ⟨_, _, rfl, ⟨rfl, hu⟩, ⟨_, _, rfl, ⟨rfl, hc⟩, ⟨rfl, ha⟩⟩⟩⟩⟩⟩⟩⟩⟩⟩ := h
  exact meta_any k hk g m n hn la ln lc l hl qt qp hqp o ho u hu c hc a ha hroom

end Go.Proofs.Ytnimfkcnkkjlkaa

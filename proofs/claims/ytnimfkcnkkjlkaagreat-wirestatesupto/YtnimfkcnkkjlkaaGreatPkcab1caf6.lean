/-
  States put.
-/
import Derived.Test.YtnimfkcnkkjlkaaGreatPk5b23f0be
import Derived.Test.YtnimfkcnkkjlkaaGreatPkd605c4d4
import Derived.Test.YtnimfkcnkkjlkaaGreatPk20150bd2
namespace Go.Proofs.YtnimfkcnkkjlkaaGreat
open Go.RowKit
set_option maxRecDepth 100000
set_option linter.unusedVariables false

theorem APartS.len {w : World} {x : Cod.PartS} {cs : List Value} (h : APartS w x cs) : cs.length = 4 := by
  obtain ⟨a, z, y, l⟩ := x
  obtain ⟨_, _, rfl, ⟨rfl, ha⟩, ⟨_, _, rfl, ⟨rfl, hz⟩, ⟨_, _, rfl, ⟨ya, yn, yc, rfl, hy⟩, ⟨la, ln, lc, rfl, hl⟩⟩⟩⟩ := h
  rfl

theorem APartS.put {w : World} {x : Cod.PartS} {cs : List Value} (h : APartS w x cs) : Calls Tryz.prog 6 #[.agg cs.toArray] w (Pq w 60000 (Cod.thing Cod.parts 3 x)) := by
  obtain ⟨a, z, y, l⟩ := x
  obtain ⟨_, _, rfl, ⟨rfl, ha⟩, ⟨_, _, rfl, ⟨rfl, hz⟩, ⟨_, _, rfl, ⟨ya, yn, yc, rfl, hy⟩, ⟨la, ln, lc, rfl, hl⟩⟩⟩⟩ := h
  exact putParts_any a ha z hz ya yn yc y hy la ln lc l hl

theorem APartS.ref {w : World} {x : Cod.PartS} {cs : List Value} (h : APartS w x cs) (hroom : (Cod.thing Cod.parts 3 x).length ≤ 140737488355328) : Calls Tryz.prog 8 #[.agg cs.toArray] w (Pd w (Cod.thing Cod.parts 3 x)) := by
  obtain ⟨a, z, y, l⟩ := x
  obtain ⟨_, _, rfl, ⟨rfl, ha⟩, ⟨_, _, rfl, ⟨rfl, hz⟩, ⟨_, _, rfl, ⟨ya, yn, yc, rfl, hy⟩, ⟨la, ln, lc, rfl, hl⟩⟩⟩⟩ := h
  exact parts_any a ha z hz ya yn yc y hy la ln lc l hl hroom

theorem AMetaS.len {w : World} {x : Cod.MetaS} {cs : List Value} (h : AMetaS w x cs) : cs.length = 5 := by
  obtain ⟨o, t, y, g, l⟩ := x
  obtain ⟨_, _, rfl, ⟨rfl, ho⟩, ⟨_, _, rfl, ⟨ta, tn, tc, rfl, ht⟩, ⟨_, _, rfl, ⟨ya, yn, yc, rfl, hy⟩, ⟨_, _, rfl, ⟨ga, gn, gc, rfl, hg⟩, ⟨la, ln, lc, rfl, hl⟩⟩⟩⟩⟩ := h
  rfl

theorem AMetaS.put {w : World} {x : Cod.MetaS} {cs : List Value} (h : AMetaS w x cs) : Calls Tryz.prog 9 #[.agg cs.toArray] w (Pq w 60000 (Cod.thing Cod.metas 4 x)) := by
  obtain ⟨o, t, y, g, l⟩ := x
  obtain ⟨_, _, rfl, ⟨rfl, ho⟩, ⟨_, _, rfl, ⟨ta, tn, tc, rfl, ht⟩, ⟨_, _, rfl, ⟨ya, yn, yc, rfl, hy⟩, ⟨_, _, rfl, ⟨ga, gn, gc, rfl, hg⟩, ⟨la, ln, lc, rfl, hl⟩⟩⟩⟩⟩ := h
  exact putMetas_any o ho ta tn tc t ht ya yn yc y hy ga gn gc g hg la ln lc l hl

theorem AMetaS.ref {w : World} {x : Cod.MetaS} {cs : List Value} (h : AMetaS w x cs) (hroom : (Cod.thing Cod.metas 4 x).length ≤ 140737488355328) : Calls Tryz.prog 10 #[.agg cs.toArray] w (Pd w (Cod.thing Cod.metas 4 x)) := by
  obtain ⟨o, t, y, g, l⟩ := x
  obtain ⟨_, _, rfl, ⟨rfl, ho⟩, ⟨_, _, rfl, ⟨ta, tn, tc, rfl, ht⟩, ⟨_, _, rfl, ⟨ya, yn, yc, rfl, hy⟩, ⟨_, _, rfl, ⟨ga, gn, gc, rfl, hg⟩, ⟨la, ln, lc, rfl, hl⟩⟩⟩⟩⟩ := h
  exact metas_any o ho ta tn tc t ht ya yn yc y hy ga gn gc g hg la ln lc l hl hroom

end Go.Proofs.YtnimfkcnkkjlkaaGreat

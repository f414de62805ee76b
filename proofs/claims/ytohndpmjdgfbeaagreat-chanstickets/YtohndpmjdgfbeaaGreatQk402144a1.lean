/-
  ChansTickets: its operations, opened.
-/
import Derived.Test.YtohndpmjdgfbeaaGreatQk1d322cf3
import Derived.Test.YtohndpmjdgfbeaaGreatOpr
namespace Go.Proofs.YtohndpmjdgfbeaaGreat.chansTickets
open Go.ChangeShapes Go.WideShapes Go.ChangeAt Go.RowKit
set_option maxRecDepth 100000
theorem walk {w : World} {ga : Option Addr} {gn gcap : Nat} {gs : List (Int × Int × Int)} (hG : Lr CH.opc 3 (fun _ => True) w ga gn gcap gs) :
    Calls Tryz.prog 7 #[.slice ga gn gcap] w fun e w' => e = .returned (.bool true) ∧ Below w.heap.size w w' := CH.chansTickets_any hG
theorem open_ops {H : Type} {enc : TypeId × Value → H} {W : World} {a : Option Addr} {len cap : Nat} {d : DataW H} {p : List MemPlace}
    (h : DataW.Trod enc Tryz.prog W 0 (fun _ => true) true 98 (.slice a len cap) d p) : ∃ xs, Lr CH.opc 3 (fun _ => True) W a len cap xs ∧ ((d = .nil ∧ len = 0) ∨ ∃ es rs : List (DataW H), es.length = len ∧ d = .slice es rs) :=
  open_rows CH.opc 3 (fun _ => True) Tryz.underlying98 (by kernel_rfl) (by omega) (fun _ => rfl) (fun fuel cs x hd => by
    have hs : Tryz.prog.cellsOf 102 = 3 := by kernel_rfl
    have hs3 : Tryz.prog.cellsOf 3 = 1 := by kernel_rfl
    obtain ⟨xs, m, _, _, hl2, hxl, hpart⟩ := DataW.trod_array Tryz.underlying102 hd
    rw [hs] at hl2
    rw [hs3] at hpart
    have p0 := hpart 0 (by omega)
    have p1 := hpart 1 (by omega)
    have p2 := hpart 2 (by omega)
    rw [List.getElem?_eq_getElem (by omega)] at p0 p1 p2
    obtain ⟨z0, e0, _, _⟩ := DataW.trod_int Tryz.underlying3 p0
    obtain ⟨z1, e1, _, _⟩ := DataW.trod_int Tryz.underlying3 p1
    obtain ⟨z2, e2, _, _⟩ := DataW.trod_int Tryz.underlying3 p2
    refine ⟨(z0, z1, z2), ?_, trivial⟩
    match cs, hl2, e0, e1, e2 with
    | [u, v, t], _, e0, e1, e2 =>
      simp at e0 e1 e2
      rw [e0, e1, e2]
      rfl) h
end Go.Proofs.YtohndpmjdgfbeaaGreat.chansTickets

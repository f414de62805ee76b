/-
  A disk of one's own: Rename, Remove, SyncNames.
-/
import Derived.Test.YtiijfgidfcfjoaaDsn
namespace Go.Proofs.Ytiijfgidfcfjoaa
open Go.RowKit
set_option maxRecDepth 100000

section
variable {w W : World} {R : Nat} {d : Dsk} {K : Nat} {s t : ByteArray}

theorem aw_rename (h : Aw w R d W) (hf : Few d K) (hs : s.size ≤ 64) (ht : 1 ≤ t.size ∧ t.size ≤ 64) (h0 : 1 ≤ d.find s) :
    Calls Try.prog 16 #[.pointer (some ⟨R, 0, none⟩), .string s, .string t] W fun e w' => e = .returned (.int .i64 (d.rename s t).1) ∧ Aw w R (d.rename s t).2 w' := by
  obtain ⟨L, ⟨o, a1, a2⟩, a3, a5⟩ := h
  have hk := hf.k
  refine (rename_go a1 a2 hf.std (by omega) hf.last hs ht h0).mono ?_
  rintro e w' ⟨rfl, L', b1, b2, b3⟩
  exact ⟨rfl, Aw.step a3 a5 b1 b2 b3⟩

theorem aw_remove (h : Aw w R d W) (hf : Few d K) (hs : s.size ≤ 64) (h0 : 1 ≤ d.find s) :
    Calls Try.prog 19 #[.pointer (some ⟨R, 0, none⟩), .string s] W fun e w' => e = .returned (.int .i64 (d.remove s).1) ∧ Aw w R (d.remove s).2 w' := by
  obtain ⟨L, ⟨o, a1, a2⟩, a3, a5⟩ := h
  have hk := hf.k
  refine (remove_go a1 a2 hf.std (by omega) hf.last hs h0).mono ?_
  rintro e w' ⟨rfl, L', b1, b2, b3⟩
  exact ⟨rfl, Aw.step a3 a5 b1 b2 b3⟩

theorem aw_syncNames (h : Aw w R d W) (hf : Few d K) :
    Calls Try.prog 21 #[.pointer (some ⟨R, 0, none⟩)] W fun e w' => e = .returned (.int .i64 d.syncNames.1) ∧ Aw w R d.syncNames.2 w' := by
  obtain ⟨L, ⟨o, a1, a2⟩, a3, a5⟩ := h
  have hk := hf.k
  refine (syncNames_go a1 a2 hf.dur (by omega) hf.last).mono ?_
  rintro e w' ⟨rfl, L', b1, b2, b3⟩
  exact ⟨rfl, Aw.step a3 a5 b1 b2 b3⟩
end

end Go.Proofs.Ytiijfgidfcfjoaa

/-
  CspNone: choices.
-/
import Derived.Test.YtnljgkemplebhaaCsn
namespace Go.Proofs.Ytnljgkemplebhaa
open Go.RowKit QI
set_option maxRecDepth 100000
set_option linter.unusedSimpArgs false

theorem ent61 : Ent 61 := fun _ _ => by go_simp

/-- A block that a runtime does not have. -/
theorem Rp.cell {w w' : World} {a a' : Ad} {s s' : Rs} (x : Rp w a s w' a' s') {g : Nat} {o : Obj} (hg : w.heap[g]? = some o) (hn : ¬ own a s g) : w'.heap[g]? = some o ∧ ¬ own a' s' g :=
  ⟨(x.x.tb.block _ (heap_lt hg) hn).trans hg, fun hk => (x.x.own hk).elim hn (fun h => by have := heap_lt hg; omega)⟩

/-- A variable that a runtime does not have is turned. -/
theorem Rt.var {w : World} {a : Ad} {s : Rs} (h : Rt w a s) {g : Nat} (hn : ¬ own a s g) (hq : g ≠ a.Q) (v : Value) : Rt (w.setCell ⟨g, 0, none⟩ v) a s :=
  h.tb (S := fun k => k = g) (Tb.set g 0 v rfl) (fun k hk e => by
    subst e
    rcases hk with hk | hk
    · exact hn hk
    · exact hq hk)

theorem set_other {w : World} {g k : Nat} (v : Value) {o : Obj} (h : w.heap[k]? = some o) (hne : k ≠ g) : (w.setCell ⟨g, 0, none⟩ v).heap[k]? = some o := (Below.heap_setCell w ⟨g, 0, none⟩ v k (by simpa using hne)).trans h
theorem set_same {w : World} {g : Nat} {x : Value} {t : TypeId} (v : Value) (h : w.heap[g]? = some (.cells #[x] t (0, 0))) : (w.setCell ⟨g, 0, none⟩ v).heap[g]? = some (.cells #[v] t (0, 0)) := by
  rw [heap_setCell_same w g 0 _ _ v h]
  rfl

set_option maxHeartbeats 1000000 in
theorem choices1 {X W : World} {a : Ad} {s : Rs} {i b gr ga gb : Nat} (rt : Rt X a s) (hr : s.run = some i) (hl : s.left = 14) (er : X.heap[gr]? = some (.cells #[.pointer (some ⟨a.R, 0, none⟩)] (26 : TypeId) (0, 0))) (ea : X.heap[ga]? = some (.cells #[.int .i64 (-1)] 3 (0, 0))) (eb : X.heap[gb]? = some (.cells #[.int .i64 (-1)] 3 (0, 0))) (na : ¬ own a s ga ∧ ga ≠ a.Q) (nb : ¬ own a s gb ∧ gb ≠ a.Q) (nr : ¬ own a s gr) (hab : ga ≠ gb) (hB : Below W.heap.size W X) (hlo : ∀ k, own a s k ∨ k = a.Q → W.heap.size ≤ k) (hga : W.heap.size ≤ ga) (hgb : W.heap.size ≤ gb) :
    Calls Try.prog 61 #[.pointer (some ⟨b, 0, none⟩), .pointer (some ⟨gr, 0, none⟩), .pointer (some ⟨ga, 0, none⟩), .pointer (some ⟨gb, 0, none⟩)] X fun e w2 => e = .returned (.tuple #[]) ∧ Hid (Rt w2 a ((s.take 3).take 5) ∧ w2.heap[ga]? = some (.cells #[.int .i64 2] 3 (0, 0)) ∧ w2.heap[gb]? = some (.cells #[.int .i64 4] 3 (0, 0)) ∧ Below W.heap.size W w2) := by
  have hra : gr ≠ ga := ne_type er ea (by decide)
  have hrb : gr ≠ gb := ne_type er eb (by decide)
  have c0 : X.cell? ⟨gr, 0, none⟩ = some (.pointer (some ⟨a.R, 0, none⟩)) := cell_of_row X _ 0 _ _ _ er
  have HC : Hid (∀ V, Below X.heap.size X V → Calls Try.prog 37 #[.pointer (some ⟨a.R, 0, none⟩), .int .i64 3] V fun e w7 => e = .returned (.int .i64 2) ∧ w7.cell? ⟨gr, 0, none⟩ = some (.pointer (some ⟨a.R, 0, none⟩)) ∧
      Hid (∀ V', Below w7.heap.size w7 V' → Calls Try.prog 37 #[.pointer (some ⟨a.R, 0, none⟩), .int .i64 5] V' fun e w8 => e = .returned (.int .i64 4) ∧ w8.cell? ⟨gr, 0, none⟩ = some (.pointer (some ⟨a.R, 0, none⟩)) ∧ w8.cell? ⟨ga, 0, none⟩ = some (.int .i64 (-1)) ∧ w8.frozen? ⟨ga, 0, none⟩ = false ∧
        (w8.setCell ⟨ga, 0, none⟩ (.int .i64 2)).cell? ⟨gr, 0, none⟩ = some (.pointer (some ⟨a.R, 0, none⟩)) ∧ (w8.setCell ⟨ga, 0, none⟩ (.int .i64 2)).cell? ⟨gb, 0, none⟩ = some (.int .i64 (-1)) ∧ (w8.setCell ⟨ga, 0, none⟩ (.int .i64 2)).frozen? ⟨gb, 0, none⟩ = false ∧
        ((w8.setCell ⟨ga, 0, none⟩ (.int .i64 2)).setCell ⟨gb, 0, none⟩ (.int .i64 4)).cell? ⟨gr, 0, none⟩ = some (.pointer (some ⟨a.R, 0, none⟩)) ∧
        Hid (Rt ((w8.setCell ⟨ga, 0, none⟩ (.int .i64 2)).setCell ⟨gb, 0, none⟩ (.int .i64 4)) a ((s.take 3).take 5) ∧ ((w8.setCell ⟨ga, 0, none⟩ (.int .i64 2)).setCell ⟨gb, 0, none⟩ (.int .i64 4)).heap[ga]? = some (.cells #[.int .i64 2] 3 (0, 0)) ∧ ((w8.setCell ⟨ga, 0, none⟩ (.int .i64 2)).setCell ⟨gb, 0, none⟩ (.int .i64 4)).heap[gb]? = some (.cells #[.int .i64 4] 3 (0, 0)) ∧ Below W.heap.size W ((w8.setCell ⟨ga, 0, none⟩ (.int .i64 2)).setCell ⟨gb, 0, none⟩ (.int .i64 4))))) := hide (fun V hV => by
    have C3 := choice_yes (rt.below hV) hr 3 (by omega) (by omega)
    rw [hl] at C3
    refine C3.mono ?_
    rintro e w7 ⟨rfl, x7⟩
    obtain ⟨er7, nr7⟩ := x7.cell ((hV.block _ (heap_lt er)).trans er) nr
    obtain ⟨ea7, na7⟩ := x7.cell ((hV.block _ (heap_lt ea)).trans ea) na.1
    obtain ⟨eb7, nb7⟩ := x7.cell ((hV.block _ (heap_lt eb)).trans eb) nb.1
    obtain ⟨hB7, hlo7⟩ := x7.low (hB.trans (hV.mono hB.size)) hlo
    refine ⟨rfl, cell_of_row w7 _ 0 _ _ _ er7, hide (fun V' hV' => ?_)⟩
    have C5 := choice_yes (x7.rt.below hV') (s := s.take 3) hr 5 (by omega) (by omega)
    rw [show (s.take 3).left = 4 by simp [Rs.take, hl]] at C5
    refine C5.mono ?_
    rintro e w8 ⟨rfl, x8⟩
    obtain ⟨er8, nr8⟩ := x8.cell ((hV'.block _ (heap_lt er7)).trans er7) nr7
    obtain ⟨ea8, na8⟩ := x8.cell ((hV'.block _ (heap_lt ea7)).trans ea7) na7
    obtain ⟨eb8, nb8⟩ := x8.cell ((hV'.block _ (heap_lt eb7)).trans eb7) nb7
    obtain ⟨hB8, hlo8⟩ := x8.low (hB7.trans (hV'.mono hB7.size)) hlo7
    have er9 := set_other (.int .i64 2) er8 hra
    have ea9 := set_same (.int .i64 2) ea8
    have eb9 := set_other (.int .i64 2) eb8 (fun e => hab e.symm)
    have er10 := set_other (.int .i64 4) er9 hrb
    have ea10 := set_other (.int .i64 4) ea9 hab
    have eb10 := set_same (.int .i64 4) eb9
    refine ⟨rfl, cell_of_row w8 _ 0 _ _ _ er8, cell_of_row w8 _ 0 _ _ _ ea8, frozen_of_row w8 _ 0 _ _ ea8, cell_of_row _ _ 0 _ _ _ er9, cell_of_row _ _ 0 _ _ _ eb9, frozen_of_row _ _ 0 _ _ eb9, cell_of_row _ _ 0 _ _ _ er10, hide ⟨(x8.rt.var na8 na.2 _).var nb8 nb.2 _, ea10, eb10, ?_⟩⟩
    exact (hB8.setCell hga _).setCell hgb _)
  clear rt hr hl er ea eb na nb nr hab hB hlo hra hrb hga hgb
  obtain ⟨R, hR⟩ : ∃ R, Hid (R = a.R) := ⟨_, hide rfl⟩
  rw [← hR.out] at c0 HC
  go_enter Try.func61, Try.ntmps61
  go_wp2_with fail
  go_region_held3 (fun V => V.cell? ⟨gr, 0, none⟩ = some (.pointer (some ⟨R, 0, none⟩)))
    (first | exact c0 | exact s7 | exact s8 | exact k1 | exact k4)
    (first | (go_at_call_of 37 (Value.int .i64 3); refine (HC.out _ ?_).mono ?_; exact (Below.refl _ X).drew; rintro e w7 ⟨rfl, s7, HC5⟩) | (go_at_call 37; refine (HC5.out _ ?_).mono ?_; exact Below.refl _ _; rintro e w8 ⟨rfl, s8, j1, j2, k1, k2, k3, k4, HF⟩))
  go_end0
  exact ⟨rfl, HF⟩

end Go.Proofs.Ytnljgkemplebhaa

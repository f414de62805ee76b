/-
  What the document's own Decode of this layer does.
-/
import Derived.Test.YtelfckhiafnniaaRre
import Derived.Test.YtelfckhiafnniaaRfu
import Derived.Test.YtelfckhiafnniaaOru
namespace Go.Proofs.Ytelfckhiafnniaa
open Go.RowKit

theorem gets_step {zs t : List Int} (hb : ∀ z ∈ zs, 0 ≤ z ∧ z ≤ 255) {x v : Nat} (hv : v < 18446744073709551616) (h : zs.drop x = vb v ++ t) : gB zs (x : Int) = true ∧ gN zs (x : Int) = v ∧ gE zs (x : Int) = x + (vb v).length ∧ zs.drop (gE zs (x : Int)) = t := by
  have hg := gv_intro hb hv (x := x) ⟨t, h.symm⟩
  unfold gB gN gE
  rw [hg]
  refine ⟨rfl, rfl, by simp, ?_⟩
  simp only [Int.toNat_natCast]
  rw [← List.drop_drop, h, List.drop_left]

theorem gE_le {zs : List Int} (hb : ∀ z ∈ zs, 0 ≤ z ∧ z ≤ 255) {x : Nat} (h : gB zs (x : Int) = true) : gE zs (x : Int) ≤ zs.length := by
  unfold gB at h
  unfold gE
  cases hg : gv zs (x : Int) with
  | none => rw [hg] at h; cases h
  | some v =>
    obtain ⟨h1, h2, _, h4⟩ := gv_some hb hg
    have := h4.length_le
    rw [List.length_drop] at this
    simp only [Int.toNat_natCast] at this ⊢
    omega

theorem fit_head {zs : List Int} {c : Bt} (hb : ∀ z ∈ zs, 0 ≤ z ∧ z ≤ 255) (hr : Right c) (hd : Bd c) (h : zs.drop 12 = body c) :
    (gB zs 12 = true ∧ gB zs (gE zs 12 : Nat) = true ∧ gB zs (gE zs (gE zs 12 : Nat) : Nat) = true ∧ gB zs (gE zs (gE zs (gE zs 12 : Nat) : Nat) : Nat) = true) ∧
    gN zs 12 = fo c.pid ∧ gN zs (gE zs 12 : Nat) = fo c.ep ∧ gN zs (gE zs (gE zs 12 : Nat) : Nat) = fo c.first ∧ gN zs (gE zs (gE zs (gE zs 12 : Nat) : Nat) : Nat) = c.recs.length ∧ zs.drop (gE zs (gE zs (gE zs (gE zs 12 : Nat) : Nat) : Nat)) = rbs c.recs := by
  have hc := hr.count
  obtain ⟨a1, a2, _, a4⟩ := gets_step hb (x := 12) (fo_lt hd.pid.1 hd.pid.2) h
  obtain ⟨b1, b2, _, b4⟩ := gets_step hb (fo_lt hd.ep.1 hd.ep.2) a4
  obtain ⟨c1, c2, _, c4⟩ := gets_step hb (fo_lt hd.first.1 hd.first.2) b4
  obtain ⟨d1, d2, _, d4⟩ := gets_step hb (by omega) c4
  exact ⟨⟨a1, b1, c1, d1⟩, a2, b2, c2, d2, d4⟩

/-- The state of the document's loop. -/
structure Rf (w : World) (p e f : Int) (u : Value) (rs : List (Value × List Int)) (wr : World) : Prop where
  bel : Below w.heap.size w wr
  res : wr.heap[w.heap.size]? = some (.cells #[.int .i64 0, .int .i64 0, .int .i64 0, .slice none 0 0] 28 (0, 0))
  bat : wr.heap[w.heap.size + 1]? = some (.cells #[.int .i64 p, .int .i64 e, .int .i64 f, u] 28 (0, 0))
  ll : LL wr (w.heap.size + 2) u rs

section
variable {w W w5 : World} {p e f : Int} {u : Value} {rs : List (Value × List Int)}

theorem Rf.keep (h : Rf w p e f u rs W) (hb : Below W.heap.size W w5) : Rf w p e f u rs w5 :=
  ⟨h.bel.trans (hb.mono h.bel.size), (hb.block _ (some_lt h.res)).trans h.res, (hb.block _ (some_lt h.bat)).trans h.bat, h.ll.keep hb⟩

theorem Rf.c3 (h : Rf w p e f u rs W) : W.cell? ⟨w.heap.size + 1, 3, none⟩ = some u := (row4 h.bat).2.2.2.1

theorem Rf.turn {v5 : Value} {l5 : List Int} (h : Rf w p e f u rs W) (hv : w5.ownsRow W.heap.size 5 1 v5 l5.length (U l5)) (hby : ∀ z ∈ l5, 0 ≤ z ∧ z ≤ 255) (hb : Below W.heap.size W w5) :
    w5.cell? ⟨w.heap.size + 1, 3, none⟩ = some u ∧ (w5.alloc (.cells #[v5] 22)).cell? ⟨w.heap.size + 1, 3, none⟩ = some u ∧ (w5.alloc (.cells #[v5] 22)).ownsRow (w.heap.size + 2) 22 1 u rs.length (rs.map (·.1)) ∧ w.heap.size + 2 ≤ w5.heap.size + 1 ∧
      ∀ (v6 : Value) (w6 : World), w6.ownsRow (w.heap.size + 2) 22 1 v6 (rs.length + 1) (rs.map (·.1) ++ [v5]) → (w5.alloc (.cells #[v5] 22)).grownBy w6 u.ownBlock →
        w6.cell? ⟨w.heap.size + 1, 3, none⟩ = some u ∧ w6.frozen? ⟨w.heap.size + 1, 3, none⟩ = false ∧ Rf w p e f v6 (rs ++ [(v5, l5)]) (w6.setCell ⟨w.heap.size + 1, 3, none⟩ v6) := by
  have h5 := h.keep hb
  have hs5 := hb.size
  have hsW := some_lt h.bat
  obtain ⟨t1, t2, t3, t4⟩ := list_turn h5.bat h5.ll hv (by omega) (fun r hr x hx => ((h.ll.row r hr).lt x hx).2) hby
  refine ⟨t1, t2, t3, by omega, fun v6 w6 h6 hg => ?_⟩
  obtain ⟨c6, f6, hX, hL, hB⟩ := t4 v6 w6 h6 hg
  have hub : ∀ k, u.ownBlock = some k → w.heap.size + 2 ≤ k := fun k hk => own_from h.ll.own hk
  refine ⟨c6, f6, h5.bel.trans (hB.below (fun i hi => ?_) h5.bel.size), (hB.block _ (some_lt h5.res) (fun hh => ?_)).trans h5.res, hX, hL⟩
  · rcases hi with rfl | hi
    · omega
    · have := hub i hi
      omega
  · rcases hh with hh | hh
    · omega
    · have := hub _ hh
      omega

end

/-- What the loop has taken off, against a batch that might be. -/
def Fit (zs : List Int) (k x : Nat) (rs : List (Value × List Int)) : Prop := ∀ base c, I64 base → Right c → Bd c → zs = enc base c → k ≤ c.recs.length ∧ rs.map (·.2) = c.recs.take k ∧ zs.drop x = rbs (c.recs.drop k)

theorem rbs_drop {l : List (List Int)} {k : Nat} (h : k < l.length) : rbs (l.drop k) = vb (l.getD k []).length ++ (l.getD k [] ++ rbs (l.drop (k + 1))) := by
  rw [List.drop_eq_getElem_cons h]
  simp [rbs, rb, List.getD, List.getElem?_eq_getElem h]

/-- A batch that might be has one record more. -/
theorem Fit.next {zs : List Int} {k x N : Nat} {rs : List (Value × List Int)} (h : Fit zs k x rs) (hb : ∀ z ∈ zs, 0 ≤ z ∧ z ≤ 255) (hN : ∀ base c, I64 base → Right c → Bd c → zs = enc base c → N = c.recs.length) (hlt : k < N) :
    ∀ base c, I64 base → Right c → Bd c → zs = enc base c → gB zs (x : Int) = true ∧ gN zs (x : Int) ≤ 1024 ∧ gE zs (x : Int) + gN zs (x : Int) ≤ zs.length ∧ gN zs (x : Int) = (c.recs.getD k []).length ∧ (zs.drop (gE zs (x : Int))).take (gN zs (x : Int)) = c.recs.getD k [] ∧ zs.drop (gE zs (x : Int) + gN zs (x : Int)) = rbs (c.recs.drop (k + 1)) := by
  intro base c h1 h2 h3 h4
  have hn := hN base c h1 h2 h3 h4
  obtain ⟨_, _, hd⟩ := h base c h1 h2 h3 h4
  rw [rbs_drop (by omega)] at hd
  have hm : (c.recs.getD k []).length ≤ 1024 := h2.size _ (by simp [List.getD, List.getElem?_eq_getElem (show k < c.recs.length by omega)])
  obtain ⟨a1, a2, a3, a4⟩ := gets_step hb (by omega) hd
  have hl := congrArg List.length a4
  have hle := gE_le hb a1
  rw [List.length_drop, List.length_append] at hl
  refine ⟨a1, by omega, by omega, a2, ?_, ?_⟩
  · rw [a4, a2, List.take_left]
  · rw [← List.drop_drop, a4, a2, List.drop_left]

theorem Fit.step {zs : List Int} {k x N : Nat} {rs : List (Value × List Int)} {v5 : Value} (h : Fit zs k x rs) (hb : ∀ z ∈ zs, 0 ≤ z ∧ z ≤ 255) (hN : ∀ base c, I64 base → Right c → Bd c → zs = enc base c → N = c.recs.length) (hlt : k < N) :
    Fit zs (k + 1) (gE zs (x : Int) + gN zs (x : Int)) (rs ++ [(v5, (zs.drop (gE zs (x : Int))).take (gN zs (x : Int)))]) := by
  intro base c h1 h2 h3 h4
  have hn := hN base c h1 h2 h3 h4
  obtain ⟨_, hm, _⟩ := h base c h1 h2 h3 h4
  obtain ⟨_, _, _, _, a5, a6⟩ := h.next hb hN hlt base c h1 h2 h3 h4
  refine ⟨by omega, ?_, a6⟩
  rw [List.map_append, hm, bss_snoc c.recs k (by omega)]
  simp only [List.map_cons, List.map_nil, a5]

end Go.Proofs.Ytelfckhiafnniaa

/-
  Drop, Deliver; New.
-/
import Derived.Test.YthakbelcefogaaaNtb
namespace Go.Proofs.Ythakbelcefogaaa
open Go.RowKit
set_option maxRecDepth 100000

/-- What Drop answers, and leaves; Deliver leaves the same. -/
def Nt.drpN (n : Nt) (k : Int) : Nt := if (lk n.m k).isSome then n.drop k else n

set_option maxHeartbeats 1000000 in
theorem drop_any {w : World} {R M : Nat} {n : Nt} {k : Int} (h : Nw w R M n) (hk : I6 k) :
    Calls Try.prog 12 #[.pointer (some ⟨R, 0, none⟩), .int .i64 k] w fun e w' => e = .returned (.int .i64 (n.findE k)) ∧ Nw w' R M (n.drpN k) ∧ Tb (fun k => k = R ∨ k = M) w w' := by
  have C := find_any h hk
  obtain ⟨s, hs⟩ : ∃ s, Hid (s = strOfNums (n.findA k).bd) := ⟨_, hide rfl⟩
  have hv : (n.findA k).val = .agg #[.int .i64 (n.findA k).fr, .int .i64 (n.findA k).to, .string s] := by rw [hs.out]; rfl
  by_cases hs : (lk n.m k).isSome = true
  · have e0 : n.findE k = 0 := by simp [Nt.findE, hs]
    have HP : Hid (∀ w' o, Below w.heap.size w w' → (w'.alloc o).cell? ⟨R, 1, none⟩ = some (.map (some M)) ∧ ∃ X, (∀ ty, (Builtin.delete_ #[(54 : TypeId), 3] ty #[.map (some M), .int .i64 k]).run Try.prog (w'.alloc o) = .ok (.tuple #[]) X) ∧ Nw X R M (n.drpN k) ∧ Tb (fun k => k = R ∨ k = M) w X) := hide (fun w' o hb => by
      have hb' : Below w.heap.size w (w'.alloc o) := hb.alloc hb.size o
      obtain ⟨X, h1, h2, h3⟩ := (h.below hb').delete hk 0
      exact ⟨(h.below hb').c 1, X, fun ty => h1, by unfold Nt.drpN; rw [if_pos hs]; exact h2, (Tb.of_fresh (S := fun k => k = R ∨ k = M) hb').trans (Tb.turned (S := fun k => k = M) h3 rfl) (fun _ _ h => .inr h)⟩)
    rw [e0] at C ⊢
    rw [hv] at C
    clear h hv e0 hs
    go_enter Try.func12, Try.ntmps12
    go_wp2_with fail
    refine C.mono ?_
    rintro e w1 ⟨rfl, hb⟩
    obtain ⟨c1, X, d1, d2, d3⟩ := HP.out w1 (Obj.cells #[.int .i64 (n.findA k).fr, .int .i64 (n.findA k).to, .string s] (73 : TypeId)) hb
    go_wp2_with fail
    go_ret
    exact ⟨rfl, d2, d3⟩
  · have e0 : n.findE k = 100 := by simp [Nt.findE, hs]
    have fin : Hid (∀ w' o, Below w.heap.size w w' → Nw (w'.alloc o) R M (n.drpN k) ∧ Tb (fun k => k = R ∨ k = M) w (w'.alloc o)) := hide (fun w' o hb => ⟨by unfold Nt.drpN; rw [if_neg hs]; exact h.below (hb.alloc hb.size o), Tb.of_fresh (hb.alloc hb.size o)⟩)
    rw [e0] at C ⊢
    rw [hv] at C
    clear h hv e0 hs
    go_enter Try.func12, Try.ntmps12
    go_wp2_with fail
    refine C.mono ?_
    rintro e w1 ⟨rfl, hb⟩
    go_wp2_with fail
    go_ret
    exact ⟨rfl, fin.out w1 _ hb⟩

/-- An answer that is none. -/
def noPt : Pt := ⟨0, 0, 0, none, 0, 0⟩

set_option maxHeartbeats 1000000 in
theorem deliver_no {w : World} {R M : Nat} {n : Nt} {k : Int} (h : Nw w R M n) (hk : I6 k) (hf : lk n.m k = none) :
    Calls Try.prog 13 #[.pointer (some ⟨R, 0, none⟩), .int .i64 k] w fun e w' => e = .returned (.tuple #[noPt.val, .int .i64 100]) ∧ Below w.heap.size w w' := by
  obtain ⟨W, HW⟩ : ∃ W, Hid (W = w.alloc (.cells #[.int .i64 0, .int .i64 0, .int .i64 0, .slice none 0 0] (31 : TypeId))) := ⟨_, hide rfl⟩
  have bA : Below w.heap.size w W := by rw [HW.out]; exact (Below.refl _ w).alloc (Nat.le_refl _) _
  have hsW : W.heap.size = w.heap.size + 1 := by rw [HW.out]; simp
  have hWh : W.heap[w.heap.size]? = some (.cells #[.int .i64 0, .int .i64 0, .int .i64 0, .slice none 0 0] (31 : TypeId) (0, 0)) := by rw [HW.out]; exact heap_alloc_new w _
  have C := find_any (h.below bA) hk
  have e0 : n.findE k = 100 := by simp [Nt.findE, hf]
  have eA : n.findA k = ⟨0, 0, []⟩ := by simp [Nt.findA, hf]
  rw [e0, eA] at C
  have hv : Pk.val ⟨0, 0, []⟩ = .agg #[.int .i64 0, .int .i64 0, .string ⟨#[]⟩] := rfl
  rw [hv] at C
  have FB : Hid (∀ w1 o cs, Below W.heap.size W w1 → (w1.alloc o).heap[w.heap.size]? = some (.cells #[.int .i64 0, .int .i64 0, .int .i64 0, .slice none 0 0] (31 : TypeId) (0, 0)) ∧ Below w.heap.size w ((w1.alloc o).setRow w.heap.size cs)) := hide (fun w1 o cs hb => by
    have hb2 : Below W.heap.size W (w1.alloc o) := hb.alloc hb.size o
    exact ⟨(hb2.block _ (by omega)).trans hWh, below_setRow (bA.trans (hb2.mono (by omega))) (Nat.le_refl _) _⟩)
  clear h hf e0 eA hv bA hsW hWh
  go_enter Try.func13, Try.ntmps13
  go_wp2_with fail
  rw [← HW.out]
  refine C.mono ?_
  rintro e w1 ⟨rfl, hb⟩
  obtain ⟨g1, g2⟩ := FB.out w1 (Obj.cells #[.int .i64 0, .int .i64 0, .string ⟨#[]⟩] (73 : TypeId)) #[.int .i64 0, .int .i64 0, .int .i64 0, .slice none 0 0] hb
  go_wp2_with (refine wpList_store_rowTo rfl (31 : TypeId) (.tmp 4) (.tmp 16) rfl rfl w.heap.size #[.int .i64 0, .int .i64 0, .int .i64 0, .slice none 0 0] (by simp [Act.eval]) (by simp [Act.eval]) (31 : TypeId) _ g1 size31 rfl (by simp [Value.oneCell']) ?_)
  refine bodyPost_ret (v := .tuple #[noPt.val, .int .i64 100]) (results_cell_tmp Try.results13 _ _ w.heap.size (31 : TypeId) _ (0, 0) _ _ rfl rfl (setRow_heap _ _ _ _ (31 : TypeId) (0, 0) g1) Try.underlying31 rfl size31) rfl ?_
  exact ⟨rfl, g2⟩

set_option maxHeartbeats 1000000 in
theorem deliver_yes {w : World} {R M : Nat} {n : Nt} {k : Int} {p : Pk} (h : Nw w R M n) (hk : I6 k) (hf : lk n.m k = some p) :
    Calls Try.prog 13 #[.pointer (some ⟨R, 0, none⟩), .int .i64 k] w fun e w' => ∃ t : Pt, e = .returned (.tuple #[t.val, .int .i64 0]) ∧ t.Is w' w.heap.size k p ∧ Nw w' R M (n.drop k) ∧ Tb (fun k => k = R ∨ k = M) w w' := by
  obtain ⟨W, HW⟩ : ∃ W, Hid (W = w.alloc (.cells #[.int .i64 0, .int .i64 0, .int .i64 0, .slice none 0 0] (31 : TypeId))) := ⟨_, hide rfl⟩
  have bA : Below w.heap.size w W := by rw [HW.out]; exact (Below.refl _ w).alloc (Nat.le_refl _) _
  have hsW : W.heap.size = w.heap.size + 1 := by rw [HW.out]; simp
  have hWh : W.heap[w.heap.size]? = some (.cells #[.int .i64 0, .int .i64 0, .int .i64 0, .slice none 0 0] (31 : TypeId) (0, 0)) := by rw [HW.out]; exact heap_alloc_new w _
  have hW := h.below bA
  have hpk : p.Ok := h.ok.pk _ (lk_mem hf)
  have C := find_any hW hk
  have e0 : n.findE k = 0 := by simp [Nt.findE, hf]
  have eA : n.findA k = p := by simp [Nt.findA, hf]
  rw [e0, eA] at C
  obtain ⟨s, hs⟩ : ∃ s, Hid (s = strOfNums p.bd) := ⟨_, hide rfl⟩
  have hv : p.val = .agg #[.int .i64 p.fr, .int .i64 p.to, .string s] := by rw [hs.out]; rfl
  have HR := h.lt
  have HM := h.mlt
  have HT : Hid (∀ w3 : World, Calls Try.prog 35 #[.agg #[.int .i64 p.fr, .int .i64 p.to, .string s], .int .i64 k] w3 fun e w' => ∃ t : Pt, e = .returned t.val ∧ t.Is w' w3.heap.size k p ∧ Below w3.heap.size w3 w') := hide (fun w3 => by rw [← hv]; exact told_any hpk)
  -- behind the find, the delete, the telling
  have HP : Hid (∀ w1, Below W.heap.size W w1 → (w1.alloc (.cells #[.int .i64 p.fr, .int .i64 p.to, .string s] (73 : TypeId))).cell? ⟨R, 1, none⟩ = some (.map (some M)) ∧
      ∃ X, (∀ ty, (Builtin.delete_ #[(54 : TypeId), 3] ty #[.map (some M), .int .i64 k]).run Try.prog (w1.alloc (.cells #[.int .i64 p.fr, .int .i64 p.to, .string s] (73 : TypeId))) = .ok (.tuple #[]) X) ∧ X.heap[w1.heap.size]? = some (.cells #[.int .i64 p.fr, .int .i64 p.to, .string s] (73 : TypeId) (0, 0)) ∧
      ∀ (t : Pt) (Y : World), t.Is Y X.heap.size k p → Below X.heap.size X Y → ∃ old, Y.heap[w.heap.size]? = some (.cells old (31 : TypeId) (0, 0)) ∧ old.size = 4 ∧
        t.Is (Y.setRow w.heap.size t.cells.toArray) w.heap.size k p ∧ Nw (Y.setRow w.heap.size t.cells.toArray) R M (n.drop k) ∧ Tb (fun k => k = R ∨ k = M) w (Y.setRow w.heap.size t.cells.toArray)) := hide (fun w1 hb => by
    have hb2 : Below W.heap.size W (w1.alloc (.cells #[.int .i64 p.fr, .int .i64 p.to, .string s] (73 : TypeId))) := hb.alloc hb.size _
    have hN := hW.below hb2
    obtain ⟨X, h1, h2, h3⟩ := hN.delete hk 0
    have h1s := hb.size
    have tX : Tb (fun k => k = R ∨ k = M) (w1.alloc (.cells #[.int .i64 p.fr, .int .i64 p.to, .string s] (73 : TypeId))) X := Tb.turned h3 (.inr rfl)
    have hXs := tX.size
    have hal : (w1.alloc (.cells #[.int .i64 p.fr, .int .i64 p.to, .string s] (73 : TypeId))).heap.size = w1.heap.size + 1 := by simp
    rw [hal] at hXs
    refine ⟨hN.c 1, X, fun ty => h1, (tX.block _ (by simp) (fun e => by omega)).trans (heap_alloc_new w1 _), fun t Y ht hY => ?_⟩
    have hYs := hY.size
    have tY : Tb (fun k => k = R ∨ k = M) w Y := ((Tb.of_fresh (S := fun k => k = R ∨ k = M) (bA.trans (hb2.mono (by omega)))).trans tX (fun _ _ h => h)).trans (Tb.of_fresh (S := fun k => k = R ∨ k = M) hY) (fun _ _ h => h)
    have tWY : Tb (fun k => k = R ∨ k = M) W Y := ((Tb.of_fresh (S := fun k => k = R ∨ k = M) hb2).trans tX (fun _ _ h => h)).trans (Tb.of_fresh (S := fun k => k = R ∨ k = M) hY) (fun _ _ h => h)
    refine ⟨_, (tWY.block _ (by omega) (fun e => by omega)).trans hWh, rfl, ?_, ?_, ?_⟩
    · have := ht.heap (w' := Y.setRow w.heap.size t.cells.toArray) (fun g _ hg _ => setRow_other _ _ _ _ (by omega))
      obtain ⟨g, e1, e2, e3⟩ := this.new
      exact ⟨this.no, this.fr, this.to, this.bd, g, e1, by omega, e3⟩
    · exact (h2.below hY).heap (setRow_other _ _ _ _ (by omega)) (setRow_other _ _ _ _ (by omega))
    · exact tY.trans (T := fun k => k = w.heap.size) ⟨rfl, rfl, rfl, by simp, fun k _ hne => setRow_other _ _ _ _ hne⟩ (fun i hi e => by omega))
  rw [hv] at C
  clear h hf e0 eA hv bA hsW hWh hW hpk HR HM
  go_enter Try.func13, Try.ntmps13
  go_wp2_with fail
  rw [← HW.out]
  refine C.mono ?_
  rintro e w1 ⟨rfl, hb⟩
  obtain ⟨c1, X, d1, d2, d3⟩ := HP.out w1 hb
  have x0 := cell_of_row X w1.heap.size 0 _ (73 : TypeId) (0, 0) d2
  have x1 := cell_of_row X w1.heap.size 1 _ (73 : TypeId) (0, 0) d2
  have x2 := cell_of_row X w1.heap.size 2 _ (73 : TypeId) (0, 0) d2
  simp only [List.getElem?_toArray, List.getElem?_cons_succ, List.getElem?_cons_zero] at x0 x1 x2
  go_wp2_with fail
  refine (HT.out X).mono ?_
  rintro e Y ⟨t, rfl, hy1, hy2⟩
  obtain ⟨old, g1, g2, g3, g4, g5⟩ := d3 t Y hy1 hy2
  obtain ⟨tc, htc⟩ : ∃ tc, Hid (tc = t.cells.toArray) := ⟨_, hide rfl⟩
  have htv : t.val = .agg tc := by rw [htc.out]; rfl
  have hsz : tc.size = 4 := by rw [htc.out]; rfl
  have hone : tc.all (·.oneCell') = true := by rw [htc.out]; simp [Pt.cells, Value.oneCell']
  rw [htv]
  go_wp2_with (refine wpList_store_rowTo rfl (31 : TypeId) (.tmp 4) (.tmp 25) rfl rfl w.heap.size tc (by simp [Act.eval]) (by simp [Act.eval]) (31 : TypeId) old g1 (by rw [size31, hsz]) (by rw [g2, hsz]) hone ?_)
  refine bodyPost_ret (v := .tuple #[.agg tc, .int .i64 0]) (results_cell_tmp Try.results13 _ _ w.heap.size (31 : TypeId) _ (0, 0) _ _ rfl rfl (setRow_heap _ _ _ _ (31 : TypeId) (0, 0) g1) Try.underlying31 rfl (by rw [size31, hsz])) rfl ?_
  rw [htc.out]
  exact ⟨t, rfl, g3, g4, g5⟩

end Go.Proofs.Ythakbelcefogaaa

/-
  The document's world of tasks: wake.
-/
import Derived.Test.YtennciddjkijaaaCud
namespace Go.Proofs.Ytennciddjkijaaa
open Go.RowKit QI
set_option maxRecDepth 100000
set_option linter.unusedSimpArgs false

section
variable {w w' : World} {L C : Nat} {pv tv lv ev : Value} {σ σ' : Sg} {D : Nat → Prop}

theorem rwake_low {k : Int} (C : Nat) (why : Int) (hk : k < 0) :
    Calls Try.prog 49 #[.pointer (some ⟨C, 0, none⟩), .int .i64 k, .int .i64 why] w fun e w' => e = .returned (.int .i64 152) ∧ w' = w := by
  go_enter Try.func49, Try.ntmps49
  go_wp2_with fail
  go_ret
  exact ⟨rfl, rfl⟩

theorem rwake_high {i : Nat} (h : Rf w L C pv σ D) (why : Int) (hk : σ.tk.length ≤ i) :
    Calls Try.prog 49 #[.pointer (some ⟨C, 0, none⟩), .int .i64 i, .int .i64 why] w fun e w' => e = .returned (.int .i64 152) ∧ w' = w := by
  obtain ⟨tv, lv, ev, m, hd⟩ := h.ex
  obtain ⟨ta, tc, rfl⟩ := row_val m.tr
  have c1 : w.cell? ⟨C, 1, none⟩ = some (.slice ta σ.tk.length tc) := cell_of_row w C 1 _ _ _ m.blk
  obtain ⟨T, hT⟩ : ∃ T, Hid (T = σ.tk.length) := ⟨_, hide rfl⟩
  rw [← hT.out] at c1 hk
  have hii : ¬ (i : Int) < (T : Int) := by omega
  have hii' : (T : Int) ≤ (i : Int) := by omega
  clear h m hd
  go_enter Try.func49, Try.ntmps49
  go_wp2_with fail
  go_ret
  exact ⟨rfl, rfl⟩

theorem rwake_no {i : Nat} {p : Pt} (h : Rf w L C pv σ D) (why : Int) (htl : σ.tk.length ≤ 1000000) (hi : σ.tk[i]? = some p) (h3 : p.st ≠ 3) :
    Calls Try.prog 49 #[.pointer (some ⟨C, 0, none⟩), .int .i64 i, .int .i64 why] w fun e w' => e = .returned (.int .i64 152) ∧ w' = w := by
  obtain ⟨tv, lv, ev, m, hd⟩ := h.ex
  obtain ⟨g, cap, rfl, hc, hset⟩ := m.tasks hi
  have c1 : w.cell? ⟨C, 1, none⟩ = some (.slice (some ⟨g, 0, none⟩) σ.tk.length cap) := cell_of_row w C 1 _ _ _ m.blk
  have d2' : w.cell? ⟨g, i * 4 + 2, none⟩ = some (.int .i64 p.st) := (hc 2 (by omega)).1
  have il : i < σ.tk.length := (List.getElem?_eq_some_iff.1 hi).1
  obtain ⟨T, hT⟩ : ∃ T, Hid (T = σ.tk.length) := ⟨_, hide rfl⟩
  rw [← hT.out] at c1 il htl
  have hii : (i : Int) < (T : Int) := by omega
  have hT9 : (T : Int) ≤ 9223372036854775807 := by omega
  generalize p.st = st at *
  have q0 : ((st : Int) != 3) = true := by rw [bne_iff_ne]; omega
  clear h m hd hc hset hi
  go_enter Try.func49, Try.ntmps49
  go_wp2_with fail
  go_ret
  exact ⟨rfl, rfl⟩

set_option maxHeartbeats 1000000 in
theorem rwake_yes {i : Nat} {p : Pt} (h : Rf w L C pv σ D) (hL : L ≤ w.heap.size) (hl : σ.line.length ≤ 1000000) (why : Int) (htl : σ.tk.length ≤ 1000000) (hi : σ.tk[i]? = some p) (h3 : p.st = 3) :
    Calls Try.prog 49 #[.pointer (some ⟨C, 0, none⟩), .int .i64 i, .int .i64 why] w fun e w' => e = .returned (.int .i64 0) ∧ ∃ D', Rf w' L C pv (σ.gets i { p with why := why }) D' ∧ Fx w D w' D' := by
  obtain ⟨tv, lv, ev, m, hd⟩ := h.ex
  obtain ⟨g, cap, rfl, hc, hset⟩ := m.tasks hi
  have c1 : w.cell? ⟨C, 1, none⟩ = some (.slice (some ⟨g, 0, none⟩) σ.tk.length cap) := cell_of_row w C 1 _ _ _ m.blk
  obtain ⟨d2, f2⟩ := hc 2 (by omega)
  have d2' : w.cell? ⟨g, i * 4 + 2, none⟩ = some (.int .i64 3) := by rw [d2, ← show ((3 : Nat) : Int) = 3 from rfl, ← h3]; rfl
  obtain ⟨d3, f3⟩ := hc 3 (by omega)
  have d3' : w.cell? ⟨g, i * 4 + 3, none⟩ = some (.int .i64 p.why) := d3
  obtain ⟨m1, t1⟩ := hset 2 (.int .i64 1) { p with st := 1 } (by omega) rfl
  have il : i < σ.tk.length := (List.getElem?_eq_some_iff.1 hi).1
  obtain ⟨X, hX⟩ : ∃ X, Hid (X = w.setCell ⟨g, i * 4 + 2, none⟩ (.int .i64 1)) := ⟨_, hide rfl⟩
  rw [← hX.out] at m1 t1
  have hi1 : (σ.put i { p with st := 1 }).tk[i]? = some { p with st := 1 } := by simp [Sg.put, il]
  obtain ⟨g', cap', hg, hc1, hset1⟩ := m1.tasks hi1
  simp only [Value.slice.injEq, Option.some.injEq, Addr.mk.injEq] at hg
  obtain ⟨⟨rfl, _, _⟩, _, rfl⟩ := hg
  obtain ⟨e3, x3⟩ := hc1 3 (by omega)
  have e3' : X.cell? ⟨g, i * 4 + 3, none⟩ = some (.int .i64 p.why) := e3
  obtain ⟨m2, t2⟩ := hset1 3 (.int .i64 why) { p with st := 1, why := why } (by omega) rfl
  obtain ⟨X2, hX2⟩ : ∃ X2, Hid (X2 = X.setCell ⟨g, i * 4 + 3, none⟩ (.int .i64 why)) := ⟨_, hide rfl⟩
  rw [← hX2.out] at m2 t2
  have hpp : (σ.put i { p with st := 1 }).put i { p with st := 1, why := why } = σ.put i { p with st := 1, why := why } := by simp [Sg.put]
  rw [hpp] at m2
  have b3 : Below X2.heap.size X2 X2.drew := (Below.refl _ X2).drew
  obtain ⟨X3, hX3⟩ : ∃ X3, Hid (X3 = X2.drew) := ⟨_, hide rfl⟩
  rw [← hX3.out] at b3
  have m3 := m2.tb (S := fun _ => False) (Tb.of_fresh b3) (fun _ _ h => h)
  have t3 : Tb (dom15 C (.slice (some ⟨g, 0, none⟩) σ.tk.length cap) lv ev) X2 X3 := Tb.of_fresh b3
  have hz := t1.size
  have hz2 := t2.size
  have hz3 := t3.size
  have hLX : L ≤ X3.heap.size := by omega
  obtain ⟨la, lc, hlv, k1, Y, hY, la', lc', V, r1, k2, k3, Z, hZ, mZ, tZ, dZ⟩ := m3.line hLX hl (i : Int)
  have HF : Hid (∃ D', Rf Z L C pv (σ.gets i { p with why := why }) D' ∧ Fx w D Z D') := hide ⟨_, ⟨_, _, _, mZ, fun k => Iff.rfl⟩, ⟨(((t1.trans t2 (fun k _ e => e)).trans t3 (fun k _ e => e)).trans tZ (fun k _ e => e)).mono (fun k _ hk => (hd k).2 hk), fun k hk => (dZ k hk).elim (fun h' => .inl ((hd k).2 h')) (fun h' => .inr (by omega))⟩⟩
  have hlq : (σ.put i { p with st := 1, why := why }).line.length = σ.line.length := rfl
  rw [hlq] at k1 r1 k2 hZ
  obtain ⟨N, hN⟩ : ∃ N, Hid (N = σ.line.length) := ⟨_, hide rfl⟩
  obtain ⟨T, hT⟩ : ∃ T, Hid (T = σ.tk.length) := ⟨_, hide rfl⟩
  rw [← hN.out] at k1 r1 k2 hZ
  have cX : X.cell? ⟨C, 1, none⟩ = some (.slice (some ⟨g, 0, none⟩) σ.tk.length cap) := by
    have := cell_of_row X C 1 _ _ _ m1.blk
    simpa [Sg.put] using this
  rw [← hT.out] at c1 il htl cX
  have hii : (i : Int) < (T : Int) := by omega
  have hT9 : (T : Int) ≤ 9223372036854775807 := by omega
  obtain ⟨G, hG⟩ : ∃ G, Hid (G = X3.heap.size) := ⟨_, hide rfl⟩
  rw [← hG.out] at r1
  have HG : Hid (X3.heap.size = G) := hide hG.out.symm
  clear h hL hl m m1 m2 m3 t1 t2 t3 b3 hz3 hset hset1 hc hc1 hd mZ tZ dZ d2 d3 e3 hLX hi hi1 hz hz2 hpp
  go_enter Try.func49, Try.ntmps49
  go_wp2_with fail
  go_region
  rw [← hX.out, ← hX2.out, ← hX3.out]
  go_wp2_with (first | (rw [← hY.out, HG.out]) | (at_builtin; refine wpList_append_run rfl (34 : TypeId) (.tmp 48) (.tmp 50) rfl (.slice la N lc) (.slice (some ⟨G, 0, none⟩) 1 1) (.slice la' (N + 1) lc') (by simp [Act.eval]) (by simp [Act.eval]) r1 ?_))
  rw [← hZ.out]
  go_ret
  exact ⟨rfl, HF.out⟩
end

end Go.Proofs.Ytennciddjkijaaa

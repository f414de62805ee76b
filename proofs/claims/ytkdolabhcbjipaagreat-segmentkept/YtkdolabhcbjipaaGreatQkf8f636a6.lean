/-
  Read of a disk.
-/
import Derived.Test.YtkdolabhcbjipaaGreatQk4631174f
namespace Go.Proofs.YtkdolabhcbjipaaGreat
open Go.RowKit
set_option maxRecDepth 100000

theorem flat_U (r : List (List Int)) : r.flatMap U = U r.flatten := by
  induction r with
  | nil => rfl
  | cons y r ih => rw [List.flatMap_cons, List.flatten_cons, U_append, ih]

theorem flat_len {r : List (List Int)} (h : ∀ x ∈ r, x.length = 64) : r.flatten.length = 64 * r.length := by
  induction r with
  | nil => rfl
  | cons y r ih => rw [List.flatten_cons, List.length_append, h y (by simp), ih (fun x hx => h x (by simp [hx])), List.length_cons]; omega

theorem row_below {w0 w w' : World} {base n : Nat} {e : TypeId} {v : Value} {xs : List Value} (hb : Below base w0 w) (h : w.ownsRow base e 1 v n xs) (hg : w.grownBy w' v.ownBlock) (hs : base ≤ w.heap.size) : Below base w0 w' :=
  ⟨hg.os.trans hb.os, hg.tape.trans hb.tape, hg.output.trans hb.output, Nat.le_trans hb.size hg.size, fun i hi => (hg.block i (by omega) (fun e => by
    have := (h.lt i e.symm).1
    omega)).trans (hb.block i hi)⟩

/-- What a file has. -/
def Dsk.bytes (d : Dsk) (s : ByteArray) : List Int := ((lk d.std.rw (d.find s)).getD []).flatten

set_option maxHeartbeats 1000000 in
theorem read_no {w : World} {L : Lb} {R : Nat} {o : Ob} {d : Dsk} {s : ByteArray} (h : Di w L R o d.dur d.std d.l) (hs : s.size ≤ 9223372036854775807) (h0 : d.find s = 0) :
    Calls Tryz.prog 11 #[.pointer (some ⟨R, 0, none⟩), .string s] w fun e w' => e = .returned (.tuple #[.slice none 0 0, .int .i64 70]) ∧ w' = w := by
  have hf := find_any h hs
  rw [show (lk d.std.nm s.data.toList).getD 0 = 0 from h0] at hf
  clear h
  go_enter Tryz.func11, Tryz.ntmps11
  go_wp2_with (go_at_call 42; refine hf.mono ?_; rintro e w1 ⟨rfl, hw1⟩; subst w1)
  go_ret2
  exact ⟨rfl, rfl⟩

set_option maxHeartbeats 2000000 in
theorem read_yes {w : World} {L : Lb} {R : Nat} {o : Ob} {d : Dsk} {K : Nat} {s : ByteArray} (h : Di w L R o d.dur d.std d.l) (hsy : Says o d) (hm : Sm d.std K) (hs : s.size ≤ 9223372036854775807) (h0 : d.find s ≠ 0) (hdn : d.down = false) :
    Calls Tryz.prog 11 #[.pointer (some ⟨R, 0, none⟩), .string s] w fun e w' => ∃ v, e = .returned (.tuple #[v, .int .i64 0]) ∧ w'.ownsRow w.heap.size 5 1 v (d.bytes s).length (U (d.bytes s)) ∧ Below w.heap.size w w' := by
  have hf := find_any h hs
  obtain ⟨F, hF⟩ : ∃ F, F = d.find s := ⟨_, rfl⟩
  have hf6 := hm.fileOf s.data.toList
  rw [show (lk d.std.nm s.data.toList).getD 0 = F from hF.symm] at hf hf6
  rw [← hF] at h0
  rw [if_neg h0] at hf
  unfold Dsk.bytes
  rw [← hF]
  have c4 : w.cell? ⟨R, 4, none⟩ = some (.map (some o.sr)) := h.oj.c 4
  have c9 : w.cell? ⟨R, 9, none⟩ = some (.bool false) := by rw [h.oj.c 9, ← hdn, ← hsy.down]; rfl
  obtain ⟨v, hlook, hown, _⟩ := h.std.rw.find Tryz.underlying52 zero74 hf6
  have hrun := (hlook w rfl).1
  obtain ⟨r, hr⟩ : ∃ r, r = (lk d.std.rw F).getD [] := ⟨_, rfl⟩
  have hrl := hm.at F
  rw [← hr] at hown hrl ⊢
  obtain ⟨N, hN⟩ : ∃ N, Hid (N = r.length) := ⟨_, hide rfl⟩
  have hN2 : N ≤ 4096 := by rw [hN.out]; exact hrl.1
  rw [← hN.out] at hown
  obtain ⟨ad, cap, rfl⟩ := row_val hown
  have hcap : N ≤ cap ∧ cap ≤ 9223372036854775807 := by
    rcases hown.2 with ⟨h1, h2⟩ | ⟨g, c, cur, h1, _, _, hn, hc, _⟩
    · simp only [Value.slice.injEq] at h1; omega
    · simp only [Value.slice.injEq] at h1; unfold maxLen at hc; omega
  obtain ⟨hcap1, hcap2⟩ := hcap
  obtain ⟨i0, hi, hz0, hz1, hz2⟩ := info_parts info5
  obtain ⟨M, hM⟩ : ∃ M, M = madeCells (Value.int .u8 0).cells (((N : Int) * 64).toNat * i0.size) := ⟨_, rfl⟩
  have hMs : M.size = 64 * N := by rw [hM, size_madeCells, hz1]; simp; omega
  have hmk : (Instr.makeSlice (30 : TypeId) (.int .i64 0) (.int .i64 ((N : Int) * 64))).run Tryz.prog w = .ok (.slice (some ⟨w.heap.size, 0, none⟩) 0 (64 * N)) (w.alloc (.cells M 5)) := by
    have h := run_make (P := Tryz.prog) w (30 : TypeId) 5 i0 (.int .u8 0) Tryz.underlying30 hi hz0 .i64 .i64 0 ((N : Int) * 64) (by omega) (by omega) (by rw [hz2]; omega) (by omega)
    rw [← hM] at h
    have e : ((N : Int) * 64).toNat = 64 * N := by omega
    rw [e] at h
    simpa using h
  have hom : (w.alloc (.cells M 5)).ownsRow w.heap.size 5 1 (.slice (some ⟨w.heap.size, 0, none⟩) 0 (64 * N)) 0 [] := World.ownsRow_made w M (64 * N) (Nat.le_refl _) (by unfold maxLen; omega) (by omega)
  have HO := hide hown
  have HR := hide hrl
  have HOM := hide hom
  clear h hm hsy hlook hown hrl hr hF hM hMs hom
  go_enter Tryz.func11, Tryz.ntmps11
  go_wp2_with (go_at_call 42; refine hf.mono ?_; rintro e w1 ⟨rfl, hw1⟩; subst w1)
  go_loopw [9, 37] (fun bv iv wr => ∃ k : Nat, k ≤ N ∧ iv = .int .i64 k ∧ Hid (wr.ownsRow w.heap.size 5 1 bv (64 * k) (U (r.take k).flatten)) ∧ Below w.heap.size w wr) (fun _ iv _ => N - (intOf iv).toNat)
  case atStart => exact ⟨0, Nat.zero_le _, rfl, hide (by simpa [U] using HOM.out), (Below.refl _ w).alloc (Nat.le_refl _) _⟩
  case round =>
    obtain ⟨k, hk, rfl, ho, hb⟩ := hrel
    have hsz := hb.size
    by_cases hlt : k < N
    · obtain ⟨g, hg⟩ : ∃ g, ad = some ⟨g, 0, none⟩ := by
        rcases HO.out.2 with ⟨h1, h2⟩ | ⟨g, c, cur, h1, _⟩
        · omega
        · simp only [Value.slice.injEq] at h1
          exact ⟨g, h1.1⟩
      subst hg
      have hkr : k < r.length := by rw [← hN.out]; exact hlt
      have hx64 := (HR.out.2 r[k] (List.getElem_mem _)).1
      have hBk : Bs wr (some ⟨g, k * 64, none⟩) 64 64 r[k] := by
        refine ⟨hx64, Nat.le_refl _, by omega, (HR.out.2 r[k] (List.getElem_mem _)).2, (fun h => by cases h), fun _ => ⟨g, k * 64, rfl, fun i hi => ?_⟩⟩
        have hc := HO.out.cells (g := g) rfl (k * 64 + i) (.int .u8 (r[k].getD i 0)) (by
          have e1 : r.flatMap U = (r.take k).flatMap U ++ ((r.drop k).flatMap U) := by rw [← List.flatMap_append, List.take_append_drop]
          have e2 : ((r.take k).flatMap U).length = k * 64 := by
            rw [flat_U, U_length, flat_len (fun x hx => (HR.out.2 x (List.mem_of_mem_take hx)).1), List.length_take]
            omega
          rw [e1, List.getElem?_append_right (by omega), e2, Nat.add_sub_cancel_left, List.drop_eq_getElem_cons hkr, List.flatMap_cons, List.getElem?_append_left (by rw [U_length]; omega)]
          simp [U, List.getD, List.getElem?_eq_getElem (show i < r[k].length by omega)])
        rw [Addr.add_mid, Nat.zero_add] at hc
        rw [hb.cell (cell_lt hc)]
        exact hc
      have HBk := hide hBk
      obtain ⟨x, hx⟩ : ∃ x, Hid (x = r[k]) := ⟨_, hide rfl⟩
      rw [← hx.out] at HBk
      clear hBk
      go_wp2_with (at_builtin; refine wpList_append_val rfl (.tmp 40) (.tmp 44) (30 : TypeId) rfl w.heap.size 5 i0 Tryz.underlying30 hi hz0 hz1 hz2 _ (64 * k) _ rfl ho.out (some ⟨g, k * 64, none⟩) 64 64 x (by simp [Act.eval]) HBk.out (by omega) (by omega) ?_; intro v1 w2 hown1 hgrow1; have ho1 := hide hown1; clear hown1)
      go_roundw
      case rel =>
        refine ⟨k + 1, by omega, by simp, hide ?_, row_below hb ho.out hgrow1 hsz⟩
        have h := ho1.out
        rw [← U_append] at h
        have e : (r.take (k + 1)).flatten = (r.take k).flatten ++ x := by rw [hx.out, List.take_succ_eq_append_getElem hkr, List.flatten_append, List.flatten_singleton]
        rw [e]
        exact h
      case measure => simp [intOf]; omega
    · obtain rfl : k = N := by omega
      go_wp2_with fail
      go_ret2
      have e : r.take k = r := List.take_of_length_le (by rw [← hN.out]; exact Nat.le_refl _)
      have e2 : r.flatten.length = 64 * k := by rw [flat_len (fun x hx => (HR.out.2 x hx).1), ← hN.out]
      refine ⟨_, rfl, ?_, hb⟩
      rw [e2]
      have h := ho.out
      rw [e] at h
      exact h

end Go.Proofs.YtkdolabhcbjipaaGreat

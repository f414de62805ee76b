/-
  A list of packets whose bodies lie apart; their rows, with marks.
-/
import Derived.Test.YthakbelcefogaaaNte
import Derived.Test.YthakbelcefogaaaAqb
import Derived.Test.YthakbelcefogaaaSam
import Derived.Test.YthakbelcefogaaaCpy
namespace Go.Proofs.Ythakbelcefogaaa
open Go.RowKit
set_option maxRecDepth 100000

/-- Bodies that lie apart. -/
def Dt (ts : List Pt) : Prop := ts.Pairwise fun s t => ∀ g h : Nat, s.a = some ⟨g, 0, none⟩ → t.a = some ⟨h, 0, none⟩ → g ≠ h

theorem Dt.more {ts : List Pt} {w Y : World} {base : Nat} {v : Value} {l : List (Int × Pk)} {t : Pt} {k : Int} {p : Pk} (h : Dt ts) (hT : Tr w base v ts l) (ht : t.Is Y w.heap.size k p) : Dt (ts ++ [t]) := by
  refine List.pairwise_append.2 ⟨h, by simp, fun s hs u hu g g' e1 e2 => ?_⟩
  simp only [List.mem_singleton] at hu
  subst hu
  obtain ⟨i, hi, hsi⟩ := List.mem_iff_getElem.1 hs
  have hil : i < l.length := by rw [← hT.len]; exact hi
  have his := hT.is i s l[i] (by rw [← hsi]; exact List.getElem?_eq_getElem hi) (List.getElem?_eq_getElem hil)
  obtain ⟨x, h1, _, h3⟩ := his.new
  obtain ⟨y, h4, h5, _⟩ := ht.new
  rw [h1] at e1
  rw [h4] at e2
  simp only [Option.some.injEq, Addr.mk.injEq, and_true] at e1 e2
  have := heap_lt h3
  omega

/-- A body's row, with its mark. -/
theorem Pt.Is.om {w : World} {base : Nat} {t : Pt} {k : Int} {p : Pk} (h : t.Is w base k p) : Aq.Om w base (.slice t.a t.ln t.cap) t.ln ((bytesRow (strOfNums p.bd) t.cap).toList.take t.ln) := by
  obtain ⟨g, h1, h2, h3⟩ := h.new
  have hl := h.bd.len
  have hle := h.bd.le
  have hre := h.bd.reach
  have hs : (bytesRow (strOfNums p.bd) t.cap).size = t.cap := by
    have e : (strOfNums p.bd).data.size = (strOfNums p.bd).size := rfl
    unfold bytesRow
    rw [Array.size_append, Array.size_map, Array.size_replicate, e, str_size, hl]
    omega
  refine ⟨by rw [List.length_take, Array.length_toList, hs]; omega, .inr ⟨g, t.cap, _, _, by rw [h1], h2, h3, fun i hi => ?_, hle, by unfold maxLen; omega, hs, rfl⟩⟩
  rw [hs]
  simp only
  omega

set_option maxHeartbeats 2000000 in
theorem list_apart {w : World} {R M : Nat} {n : Nt} (h : Nw w R M n) :
    Calls Try.prog 14 #[.pointer (some ⟨R, 0, none⟩)] w fun e w' => ∃ v ts, e = .returned v ∧ Tr w' w.heap.size v ts n.m ∧ Below w.heap.size w w' ∧ Dt ts := by
  have hr := made_yes h
  have c1 : w.cell? ⟨R, 1, none⟩ = some (.map (some M)) := h.c 1
  obtain ⟨D, hD, hsz, hgt⟩ := h.map
  have hfew := h.ok.few
  have hI : ∀ p ∈ n.m, I6 p.1 := fun p hp => by have h1 := h.ok.num p hp; have h2 := h.ok.last; unfold I6; omega
  have hperm := keys_net hD h.ok.un hI hgt
  have CK := callsIn_wide.1 (keys_at (some M) w)
  have CS := callsIn_wide.1 (sorted_at M _ D _ w hD.own (by rw [hsz]; unfold maxLen; omega) (by rw [hsz]; omega))
  have HP := hide hperm
  have HU : Hid ((n.m.map (·.1)).Pairwise (· < ·)) := hide (List.pairwise_map.2 h.ok.up)
  obtain ⟨N, hN⟩ : ∃ N, Hid (N = n.m.length) := ⟨_, hide rfl⟩
  have H := hide h
  have hN256 : N ≤ 256 := by rw [hN.out]; exact hfew
  clear hperm hgt hsz hD hI hfew h
  go_enter Try.func14, Try.ntmps14
  go_wp2_with fail
  refine hr.mono ?_
  rintro e w1 ⟨rfl, hw1⟩
  subst w1
  go_wp2_with fail
  refine CK.mono ?_
  rintro e w2 ⟨rfl, rfl⟩
  go_wp2_with fail
  refine CS.mono ?_
  rintro e w3 ⟨v, ss, rfl, hS, hrow, _, hb⟩
  rw [sorted_eq (hS.trans HP.out.symm) HU.out] at hrow
  have hl : ss.length = N := by rw [(hS.trans HP.out.symm).length_eq, List.length_map, hN.out]
  rw [hl] at hrow
  have hb3 : Below w.heap.size w w3 := ((Below.refl _ w).alloc (Nat.le_refl _) _).trans (hb.mono (by simp))
  have hs3 := hb3.size
  obtain ⟨ad, cap, rfl⟩ := row_val hrow
  have hkey : Hid (∀ i (hi : i < n.m.length), ∃ g, ad = some ⟨g, 0, none⟩ ∧ w3.cell? ⟨g, i, none⟩ = some (.int .i64 n.m[i].1)) := hide (fun i hi => by
    rcases hrow.2 with ⟨e1, e2⟩ | ⟨g, c, cur, e1, _⟩
    · have := hN.out; omega
    · simp only [Value.slice.injEq] at e1
      refine ⟨g, e1.1, ?_⟩
      have := hrow.cells (g := g) (by rw [e1.1]; rfl) i (.int .i64 n.m[i].1) (by simp [encZ, hi])
      simpa [Addr.add_mid] using this)
  have hcap : N ≤ cap ∧ cap ≤ 9223372036854775807 := by
    rcases hrow.2 with ⟨h1, h2⟩ | ⟨g, c, cur, h1, _, _, hn, hc, _⟩
    · simp only [Value.slice.injEq] at h1; omega
    · simp only [Value.slice.injEq] at h1; unfold maxLen at hc; omega
  obtain ⟨hcap1, hcap2⟩ := hcap
  have T0 : Tr w3 w3.heap.size (.slice none 0 0) [] [] := ⟨World.ownsRow_nil _ _ _ _, rfl, by simp⟩
  clear hS hrow hb CS CK hl
  go_wp2_with fail
  go_loopw [3, 16] (fun x i wr => ∃ (j : Nat) (ts : List Pt), j ≤ N ∧ i = .int .i64 (j : Int) ∧ Hid (Tr wr w3.heap.size x ts (n.m.take j) ∧ Below w3.heap.size w3 wr) ∧ Hid (Dt ts))
    (fun _ i _ => N - (intOf i).toNat)
  case atStart => exact ⟨0, [], by omega, rfl, hide ⟨T0, Below.refl _ _⟩, hide List.Pairwise.nil⟩
  case round =>
    obtain ⟨j, ts, hj, rfl, hT, hDt⟩ := hrel
    have hbw : Below w.heap.size w wr := hb3.trans (hT.out.2.mono hs3)
    have hws := hT.out.2.size
    by_cases hjN : j < N
    · have hjm : j < n.m.length := by rw [← hN.out]; exact hjN
      obtain ⟨g, rfl, hkc⟩ := hkey.out j hjm
      have hNw := H.out.below hbw
      obtain ⟨k1, k2, k3⟩ := hNw.at j hjm
      have kc : wr.cell? ⟨g, j, none⟩ = some (.int .i64 n.m[j].1) := by rw [hT.out.2.cell (cell_lt hkc)]; exact hkc
      obtain ⟨q, hq⟩ : ∃ q, Hid (q = n.m[j]) := ⟨_, hide rfl⟩
      rw [← hq.out] at k1 k2 k3 kc
      obtain ⟨s, hs⟩ : ∃ s, Hid (s = strOfNums q.2.bd) := ⟨_, hide rfl⟩
      have hv : q.2.val = .agg #[.int .i64 q.2.fr, .int .i64 q.2.to, .string s] := by rw [hs.out]; rfl
      have c2 : wr.cell? ⟨R, 1, none⟩ = some (.map (some M)) := hNw.c 1
      have hlook := hNw.look k1 k2
      have CT := told_any (w := wr) (k := q.1) k3
      rw [hv] at hlook CT
      have HN : Hid (∀ (t : Pt) (Y : World), t.Is Y wr.heap.size q.1 q.2 → Below wr.heap.size wr Y → ∃ v' Z, (∀ ty, (Builtin.append_ #[(34 : TypeId), (34 : TypeId)] ty #[u3, .slice (some ⟨Y.heap.size, 0, none⟩) 1 1]).run Try.prog (Y.alloc (.cells #[.int .i64 t.no, .int .i64 t.fr, .int .i64 t.to, .slice t.a t.ln t.cap] (31 : TypeId))) = .ok v' Z) ∧ Hid (Tr Z w3.heap.size v' (ts ++ [t]) (n.m.take (j + 1)) ∧ Below w3.heap.size w3 Z) ∧ Hid (Dt (ts ++ [t]))) := hide (fun t Y ht hY => by
        obtain ⟨v', Z, r1, r2, r3⟩ := hT.out.1.next (q := q) hws hY ht (by rw [List.length_take]; omega)
        refine ⟨v', Z, r1, hide ⟨?_, hT.out.2.trans r3⟩, hide (hDt.out.more hT.out.1 ht)⟩
        rw [List.take_succ_eq_append_getElem hjm, ← hq.out]
        exact r2)
      have hxl : Hid ((n.m.take j).length = j) := hide (by rw [List.length_take]; omega)
      obtain ⟨xa, xc, hx⟩ := row_val hT.out.1.row
      rw [hxl.out] at hx
      subst hx
      have HT := hide hT
      clear hT hNw k1 k2 k3 hv hkc hbw hws hkey
      go_wp2_with fail
      refine CT.mono ?_
      rintro e Y ⟨t, rfl, ht1, ht2⟩
      obtain ⟨v', Z, r1, r2, r3⟩ := HN.out t Y ht1 ht2
      have htv : t.val = .agg #[.int .i64 t.no, .int .i64 t.fr, .int .i64 t.to, .slice t.a t.ln t.cap] := rfl
      rw [htv]
      clear ht1 ht2 htv
      go_wp2_with (at_builtin; refine wpList_append_run rfl (34 : TypeId) (.tmp 20) (.tmp 29) rfl (.slice xa j xc) (.slice (some ⟨Y.heap.size, 0, none⟩) 1 1) v' (by simp [Act.eval]) (by simp [Act.eval]) (r1 _) ?_)
      go_roundw
      case rel => exact ⟨j + 1, ts ++ [t], by omega, by simp, r2, r3⟩
      case measure => simp [intOf]; omega
    · have hjN' : j = N := by omega
      have fin : Hid (∃ ts, Tr wr w.heap.size u3 ts n.m ∧ Below w.heap.size w wr ∧ Dt ts) := hide ⟨ts, by
        have := hT.out.1.less hs3
        rw [List.take_of_length_le (by rw [← hN.out]; omega)] at this
        exact this, hbw, hDt.out⟩
      obtain ⟨xa, xc, hx⟩ := row_val hT.out.1.row
      clear hT hbw hws hkey
      subst hjN'
      go_wp2_with fail
      go_ret
      obtain ⟨ts, f1, f2, f3⟩ := fin.out
      exact ⟨_, ts, rfl, f1, f2, f3⟩

end Go.Proofs.Ythakbelcefogaaa

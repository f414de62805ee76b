/-
  SamePackets, of two lists that tell the same packets.
-/
import Derived.Test.YthakbelcefogaaaNtu
import Derived.Deep.QuietTactic
import Derived.BigQuiet
namespace Go.Proofs.Ythakbelcefogaaa
open Go.RowKit
set_option maxRecDepth 100000

theorem Pl.at {w : World} {F : Nat → Prop} {a : Option Addr} {n cap : Nat} {ts : List Pt} {l : List (Int × Pk)} (h : Pl w F a n cap ts l) (i : Nat) (hi : i < l.length) : ∃ b off t, a = some ⟨b, off, none⟩ ∧ w.cell? ⟨b, off + i * 4, none⟩ = some (.int .i64 l[i].1) ∧ w.cell? ⟨b, off + i * 4 + 1, none⟩ = some (.int .i64 l[i].2.fr) ∧ w.cell? ⟨b, off + i * 4 + 2, none⟩ = some (.int .i64 l[i].2.to) ∧ w.cell? ⟨b, off + i * 4 + 3, none⟩ = some (.slice (Pt.a t) (Pt.ln t) (Pt.cap t)) ∧ Bs w (Pt.a t) (Pt.ln t) (Pt.cap t) l[i].2.bd := by
  have hl := h.len
  have ht := h.tl
  have hit : i < ts.length := by omega
  obtain ⟨b, off, ha⟩ := h.spot (by omega)
  obtain ⟨_, hc⟩ := h.lies (by omega) b off ha
  obtain ⟨e1, e2, e3, e4, _⟩ := h.is i ts[i] l[i] (List.getElem?_eq_getElem hit) (List.getElem?_eq_getElem hi)
  have c := fun j (hj : j < 4) u hu => hc (i * 4 + j) u (by rw [cells_at ts i hit j hj]; exact hu)
  refine ⟨b, off, ts[i], ha, ?_, ?_, ?_, ?_, e4⟩
  · have := c 0 (by omega) _ rfl; rw [e1] at this; exact this
  · have := c 1 (by omega) _ rfl; rw [e2] at this; exact this
  · have := c 2 (by omega) _ rfl; rw [e3] at this; exact this
  · exact c 3 (by omega) _ rfl

set_option maxHeartbeats 2000000 in
theorem samePackets_true {w : World} {F G : Nat → Prop} {a c : Option Addr} {n cap dap : Nat} {ts us : List Pt} {l : List (Int × Pk)} (h : Pl w F a n cap ts l) (k : Pl w G c n dap us l) :
    Calls Try.prog 21 #[.slice a n cap, .slice c n dap] w fun e w' => e = .returned (.bool true) ∧ ∃ q, w' = w.drewN q := by
  have hlen : Hid (l.length = n) := hide h.len
  have h2 := h.le
  have h3 := h.reach
  have k2 := k.le
  have k3 := k.reach
  have H := hide h
  have K := hide k
  clear h k
  go_enter Try.func21, Try.ntmps21
  go_wp2_with fail
  go_loopw [5] (fun i wr => ∃ j q : Nat, j ≤ n ∧ i = .int .i64 (j : Int) ∧ Hid (wr = w.drewN q)) (fun i _ => n - (intOf i).toNat)
  case atStart => exact ⟨0, 0, Nat.zero_le _, rfl, hide rfl⟩
  case round =>
    obtain ⟨j, q, hj, rfl, hwr⟩ := hrel
    by_cases hjn : j < n
    · have hjl : j < l.length := by rw [hlen.out]; exact hjn
      have hb : Below w.heap.size w wr := by rw [hwr.out]; exact below_drewN (Below.refl _ w) q
      obtain ⟨b, off, t, rfl, c0, c1, c2, c3, hB⟩ := (H.out.keep hb).at j hjl
      obtain ⟨b', off', u, rfl, d0, d1, d2, d3, hB'⟩ := (K.out.keep hb).at j hjl
      obtain ⟨x0, e0⟩ : ∃ x, Hid (x = l[j].1) := ⟨_, hide rfl⟩
      obtain ⟨x1, e1⟩ : ∃ x, Hid (x = l[j].2.fr) := ⟨_, hide rfl⟩
      obtain ⟨x2, e2⟩ : ∃ x, Hid (x = l[j].2.to) := ⟨_, hide rfl⟩
      rw [← e0.out] at c0 d0
      rw [← e1.out] at c1 d1
      rw [← e2.out] at c2 d2
      have CS := fun m => same_true rfl (hB.keep (below_drewN (Below.refl _ wr) m)) (hB'.keep (below_drewN (Below.refl _ wr) m))
      clear hB hB' hb
      go_wp2_with fail
      go_quiet (first | (go_at_call 25; exact Calls.quiet_of_same (CS _)))
      go_wp2_with fail
      go_roundw
      case rel => exact ⟨j + 1, q + nq, by omega, by simp, hide (by rw [hwr.out, World.drewN_drewN])⟩
      case measure => simp [intOf]; omega
    · have hjz : ¬ ((j : Int) < (n : Int)) := by omega
      go_wp2_with fail
      go_ret
      exact ⟨rfl, q, hwr.out⟩

end Go.Proofs.Ythakbelcefogaaa

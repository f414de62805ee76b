/-
  CspTurns: the law's world behind a variable.
-/
import Derived.Test.YtennciddjkijaaaCsk
import Derived.Test.YtennciddjkijaaaCop
namespace Go.Proofs.Ytennciddjkijaaa
open Go.RowKit QI
set_option maxRecDepth 100000
set_option linter.unusedSimpArgs false

/-- The law's world between steps, with the variable g that has it. -/
def In (W : World) (g B R : Nat) (pa : Option Addr) (m pcap : Nat) (ps : List (List Dop)) (σ : Sg) (N : Nat) (X : World) : Prop :=
  X.heap[g]? = some (.cells #[.pointer (some ⟨B, 0, none⟩)] (25 : TypeId) (0, 0)) ∧ W.heap.size ≤ g ∧ Below W.heap.size W X ∧ ∃ F D bs, Wt X W.heap.size B pa m pcap ps (fun k => k < W.heap.size) R bs σ N F D ∧ (∀ k, D k → W.heap.size ≤ k) ∧ ¬ D g

section
variable {W X Y : World} {g B R : Nat} {pa : Option Addr} {m pcap : Nat} {ps : List (List Dop)} {σ : Sg} {N : Nat}
theorem In.g0 (h : In W g B R pa m pcap ps σ N X) : X.cell? ⟨g, 0, none⟩ = some (.pointer (some ⟨B, 0, none⟩)) := cell_of_row X g 0 _ _ _ h.1
theorem In.cB0 (h : In W g B R pa m pcap ps σ N X) : X.cell? ⟨B, 0, none⟩ = some (.pointer (some ⟨R, 0, none⟩)) := by
  obtain ⟨_, _, _, F, D, bs, wt, _⟩ := h
  exact wt.c0
theorem In.cB1 (h : In W g B R pa m pcap ps σ N X) : X.cell? ⟨B, 1, none⟩ = some (.slice pa m pcap) := by
  obtain ⟨_, _, _, F, D, bs, wt, _⟩ := h
  exact wt.c1
theorem In.bel (h : In W g B R pa m pcap ps σ N X) : Below W.heap.size W X := h.2.2.1
theorem In.lt (h : In W g B R pa m pcap ps σ N X) : g < X.heap.size := heap_lt h.1
theorem In.tb {S : Nat → Prop} (h : In W g B R pa m pcap ps σ N X) (t : Tb S X Y) (hs : ∀ k, S k → X.heap.size ≤ k) : In W g B R pa m pcap ps σ N Y := by
  obtain ⟨hg, hL, hb, F, D, bs, wt, hD, hn⟩ := h
  have hDl : ∀ k, D k → k < X.heap.size := fun k hk => by
    obtain ⟨l, wd⟩ := wt.wd
    exact (wd.lt hk).2
  refine ⟨(t.block _ (heap_lt hg) (fun e => by have := hs g e; have := heap_lt hg; omega)).trans hg, hL, hb.trans (t.below (fun i e => by have := hs i e; have := hb.size; omega) hb.size), F, D, bs, wt.tb t (fun k hk e => ?_), hD, hn⟩
  have h1 := hs k e
  rcases hk with hk | hk
  · have := hDl k hk; omega
  · have := hb.size; omega
theorem In.below (h : In W g B R pa m pcap ps σ N X) (hb : Below X.heap.size X Y) : In W g B R pa m pcap ps σ N Y := h.tb (S := fun _ => False) (Tb.of_fresh hb) (fun _ h => h.elim)
theorem In.on {F D F' D' : Nat → Prop} {bs bs' : List Nat} {σ' : Sg} {N' : Nat} (h : In W g B R pa m pcap ps σ N X) (hD : ∀ k, D k → W.heap.size ≤ k) (hn : ¬ D g) (wt : Wt Y W.heap.size B pa m pcap ps (fun k => k < W.heap.size) R bs' σ' N' F' D') (wx : Wx X F D bs Y F' D' bs') : In W g B R pa m pcap ps σ' N' Y := by
  have hb := h.bel
  refine ⟨(wx.tb.block _ h.lt hn).trans h.1, h.2.1, hb.trans (wx.tb.below hD hb.size), F', D', bs', wt, fun k hk => (wx.dom k hk).elim (hD k) (fun h' => Nat.le_trans hb.size h'), fun hk => (wx.dom g hk).elim hn (fun h' => by have := h.lt; omega)⟩
theorem In.spawn (h : In W g B R pa m pcap ps σ N X) (hN : N ≤ 1000) {prog : Nat} (hp : prog < m) :
    Calls Try.prog 9 #[.pointer (some ⟨B, 0, none⟩), .int .i64 prog] X fun e w' => ∃ x, e = .returned (.int .i64 x) ∧ In W g B R pa m pcap ps (σ.spawn prog) (N + 1) w' := by
  obtain ⟨_, _, _, F, D, bs, wt, hD, hn⟩ := id h
  refine (wt.spawn hN hp).mono ?_
  rintro e w' ⟨rfl, F', D', bs', wt', wx⟩
  exact ⟨_, rfl, h.on hD hn wt' wx⟩
theorem In.step (h : In W g B R pa m pcap ps σ N X) (hN : N ≤ 400) (p : Nat) (hp : p ≤ 18446744073709551615) :
    Calls Try.prog 11 #[.pointer (some ⟨R, 0, none⟩), .int .u64 p] X fun e w' => e = .returned (.bool (decide (σ.line ≠ []))) ∧ In W g B R pa m pcap ps (σ.step ps p) (N + 1) w' := by
  obtain ⟨_, _, _, F, D, bs, wt, hD, hn⟩ := id h
  refine (wstep wt hN p hp).mono ?_
  rintro e w' ⟨rfl, F', D', bs', wt', wx⟩
  exact ⟨rfl, h.on hD hn wt' wx⟩
theorem In.turns (h : In W g B R pa m pcap ps σ N X) (hN : N ≤ 1000) : Calls Try.prog 40 #[.pointer (some ⟨g, 0, none⟩)] X fun e w' => e = .returned (.int .i64 σ.cnt) ∧ Below X.heap.size X w' := by
  obtain ⟨_, _, _, F, D, bs, wt, hD, hn⟩ := id h
  exact turns_any wt hN h.g0
theorem In.ready (h : In W g B R pa m pcap ps σ N X) : Calls Try.prog 14 #[.pointer (some ⟨R, 0, none⟩)] X fun e w' => ∃ p cap, e = .returned (.slice p σ.line.length cap) ∧ w'.ownsRow X.heap.size 3 1 (.slice p σ.line.length cap) σ.line.length (QI.W σ.line) ∧ Below X.heap.size X w' := by
  obtain ⟨_, _, _, F, D, bs, wt, _⟩ := h
  exact wt.ready
theorem In.parked (h : In W g B R pa m pcap ps σ N X) : Calls Try.prog 20 #[.pointer (some ⟨R, 0, none⟩)] X fun e w' => ∃ p cap, e = .returned (.slice p σ.pkd.length cap) ∧ w'.ownsRow X.heap.size 3 1 (.slice p σ.pkd.length cap) σ.pkd.length (QI.W σ.pkd) ∧ Below X.heap.size X w' := by
  obtain ⟨_, _, _, F, D, bs, wt, _⟩ := h
  exact wt.parked
/-- What is asked of the tasks. -/
theorem In.tasks (h : In W g B R pa m pcap ps σ N X) : ∃ tp tc, X.cell? ⟨B, 2, none⟩ = some (.slice tp σ.tk.length tc) ∧ σ.tk.length ≤ N ∧ ∀ i p, σ.tk[i]? = some p → ∃ gt b, tp = some ⟨gt, 0, none⟩ ∧ X.cell? ⟨gt, i, none⟩ = some (.pointer (some ⟨b, 0, none⟩)) ∧ Calls Try.prog 16 #[.pointer (some ⟨b, 0, none⟩)] X fun e w' => e = .returned (.bool (decide (p.st = 0))) ∧ w' = X := by
  obtain ⟨_, _, _, F, D, bs, wt, _⟩ := h
  obtain ⟨tp, tc, hc, hl, hcell⟩ := wt.c2
  refine ⟨tp, tc, hc, wt.tl, fun i p hp => ?_⟩
  have hi : i < σ.tk.length := (List.getElem?_eq_some_iff.1 hp).1
  obtain ⟨gt, hgt, hx⟩ := hcell (by omega)
  have hb : bs[i]? = some bs[i] := List.getElem?_eq_getElem (by omega)
  exact ⟨gt, bs[i], hgt, hx i _ hb, wt.over hb hp⟩
theorem In.ids (h : In W g B R pa m pcap ps σ N X) : (σ.line ++ σ.pkd).Nodup ∧ ∀ x, x ∈ σ.line ++ σ.pkd ↔ ∃ (i : Nat) (p : Pt), x = (i : Int) ∧ σ.tk[i]? = some p ∧ p.st ≠ 0 := by
  obtain ⟨_, _, _, F, D, bs, wt, _⟩ := h
  exact wt.ids
/-- No more than the tasks are. -/
theorem ids_few {σ : Sg} (hn : (σ.line ++ σ.pkd).Nodup) (hm : ∀ x, x ∈ σ.line ++ σ.pkd ↔ ∃ (i : Nat) (p : Pt), x = (i : Int) ∧ σ.tk[i]? = some p ∧ p.st ≠ 0) : (σ.line ++ σ.pkd).length ≤ σ.tk.length := by
  have h1 : (σ.line ++ σ.pkd) ⊆ (List.range σ.tk.length).map Int.ofNat := fun x hx => by
    obtain ⟨i, p, rfl, hp, _⟩ := (hm x).1 hx
    exact List.mem_map.2 ⟨i, List.mem_range.2 (List.getElem?_eq_some_iff.1 hp).1, rfl⟩
  have := hn.length_le_of_subset h1
  simpa using this

/-- What is appended: Ready's list, and Parked's behind it. -/
theorem In.both (h : In W g B R pa m pcap ps σ N X) (hN : N ≤ 1000) :
    Calls Try.prog 14 #[.pointer (some ⟨R, 0, none⟩)] X fun e w6 => ∃ p6 c6, e = .returned (.slice p6 σ.line.length c6) ∧ (w6.cell? ⟨g, 0, none⟩ = some (.pointer (some ⟨B, 0, none⟩)) ∧ w6.cell? ⟨B, 0, none⟩ = some (.pointer (some ⟨R, 0, none⟩))) ∧
      Hid (Calls Try.prog 20 #[.pointer (some ⟨R, 0, none⟩)] w6 fun e w7 => ∃ p7 c7, e = .returned (.slice p7 σ.pkd.length c7) ∧ (w7.cell? ⟨g, 0, none⟩ = some (.pointer (some ⟨B, 0, none⟩)) ∧ w7.cell? ⟨B, 0, none⟩ = some (.pointer (some ⟨R, 0, none⟩))) ∧
        Hid (∃ p8 c8 w8, (Builtin.append_ #[(34 : TypeId), (34 : TypeId)] (34 : TypeId) #[.slice p6 σ.line.length c6, .slice p7 σ.pkd.length c7]).run Try.prog w7 = .ok (.slice p8 (σ.line.length + σ.pkd.length) c8) w8 ∧ (w8.cell? ⟨g, 0, none⟩ = some (.pointer (some ⟨B, 0, none⟩)) ∧ w8.cell? ⟨B, 0, none⟩ = some (.pointer (some ⟨R, 0, none⟩))) ∧
          Hid (w8.ownsRow X.heap.size 3 1 (.slice p8 (σ.line.length + σ.pkd.length) c8) (σ.line.length + σ.pkd.length) (QI.W (σ.line ++ σ.pkd)) ∧ Below X.heap.size X w8))) := by
  refine h.ready.mono ?_
  rintro e w6 ⟨p6, c6, rfl, o6, b6⟩
  have h6 := h.below b6
  refine ⟨p6, c6, rfl, ⟨h6.g0, h6.cB0⟩, hide ?_⟩
  refine h6.parked.mono ?_
  rintro e w7 ⟨p7, c7, rfl, o7, b7⟩
  have h7 := h6.below b7
  refine ⟨p7, c7, rfl, ⟨h7.g0, h7.cB0⟩, hide ?_⟩
  obtain ⟨t3, ht3⟩ := Option.map_eq_some_iff.1 infoE
  simp only [Prod.mk.injEq] at ht3
  have hfew := ids_few h.ids.1 h.ids.2
  rw [List.length_append] at hfew
  obtain ⟨_, _, _, htl, _⟩ := h.tasks
  have o6' : w7.ownsRow X.heap.size 3 1 (.slice p6 σ.line.length c6) σ.line.length (QI.W σ.line) := row_tb (S := fun _ => False) o6 (Tb.of_fresh b7) (fun _ _ h => h)
  obtain ⟨v', w8, r1, r2, r3, _⟩ := run_append_rows (P := Try.prog) (w := w7) X.heap.size (34 : TypeId) (34 : TypeId) 3 t3 ((Value.int .i64) 0) 1 8 Try.underlying34 ht3.1 ht3.2.1 ht3.2.2.1 ht3.2.2.2 (by simp [Value.cells]) (by omega) _ _ _ o6' _ _ _ _ o7 (W_one _) (by unfold maxLen; omega) (by omega) (Nat.le_trans b6.size b7.size)
  obtain ⟨p8, c8, rfl⟩ := row_val r2
  rw [← W_append] at r2
  have t8 : Tb (fun k => X.heap.size ≤ k) w7 w8 := Tb.of_grown r3 (fun k e => (o6'.lt k e).1)
  have b8 : Below X.heap.size X w8 := (b6.trans (b7.mono b6.size)).trans (t8.below (fun _ h => h) (Nat.le_trans b6.size b7.size))
  have h8 := h.below b8
  exact ⟨p8, c8, w8, r1, ⟨h8.g0, h8.cB0⟩, hide ⟨r2, b8⟩⟩
end

end Go.Proofs.Ytennciddjkijaaa

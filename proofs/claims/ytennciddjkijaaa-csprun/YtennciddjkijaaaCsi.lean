/-
  The law's world between steps: what is asked of it.
-/
import Derived.Test.YtennciddjkijaaaCsh
import Derived.Test.YtennciddjkijaaaQvsI
namespace Go.Proofs.Ytennciddjkijaaa
open Go.RowKit QI
set_option maxRecDepth 100000
set_option linter.unusedSimpArgs false

def Sg.pkd (σ : Sg) : List Int := ((List.range σ.tk.length).map Int.ofNat).filter fun k => decide ((σ.tk.getD k.toNat pt0).st = 3)

section
variable {w w' : World} {L B : Nat} {σ : Sg} {F D Pb : Nat → Prop} {R : Nat} {bs : List Nat} {left : Nat} {pa : Option Addr} {np pcap N : Nat} {ps : List (List Dop)} {pv tv ev : Value} {a : Ad} {s : Rs}

theorem Wm.live (m : Wm w L B pv a s σ F tv ev) {i : Nat} {t : Tc} {p : Pt} (hi : s.ts[i]? = some t) (hp : σ.tk[i]? = some p) : s.live i = (p.st != 0) := by
  have ht := m.cl i t p hi hp
  rw [live_goes hi]
  have hle := ht.le
  have : p.st = 0 ∨ p.st = 1 ∨ p.st = 2 ∨ p.st = 3 := by omega
  rcases this with e | e | e | e
  · simp [Tc.goes, ht.r0 e, e, on]
  · simp [Tc.goes, (ht.r1 e).1.on, e]
  · simp [(ht.r2 e).1, e]
  · simp [Tc.goes, (ht.r3 e).2.on, e]
theorem Wm.pkd (m : Wm w L B pv a s σ F tv ev) : s.parked = σ.pkd := by
  unfold Rs.parked Sg.pkd
  rw [m.len]
  refine List.filter_congr (fun k hk => ?_)
  obtain ⟨i, hi, rfl⟩ := List.mem_map.1 hk
  have hil := List.mem_range.1 hi
  have hp : σ.tk[i]? = some σ.tk[i] := List.getElem?_eq_getElem hil
  have hil2 : i < s.ts.length := by rw [m.len]; exact hil
  have ht : s.ts[i]? = some s.ts[i] := List.getElem?_eq_getElem hil2
  have hs := m.cl i _ _ ht hp
  have hle := hs.le
  have h4 : σ.tk[i].st = 0 ∨ σ.tk[i].st = 1 ∨ σ.tk[i].st = 2 ∨ σ.tk[i].st = 3 := by omega
  simp only [Rs.pk, List.getD]
  show (s.ts[(i : Int).toNat]?.map fun t => on t.wk).getD false = decide ((σ.tk[(i : Int).toNat]?.getD pt0).st = 3)
  rw [Int.toNat_natCast, ht, hp]
  rcases h4 with e | e | e | e
  · simp [e, (hs.r0 e).2.2, on]
  · simp [e, (hs.r1 e).2, on]
  · simp [e, (hs.r2 e).2.2, on]
  · simp [e, (hs.r3 e).2.on]

theorem Wt.c0 (h : Wt w L B pa np pcap ps Pb R bs σ N F D) : w.cell? ⟨B, 0, none⟩ = some (.pointer (some ⟨R, 0, none⟩)) := by
  obtain ⟨l, wd⟩ := h.wd
  exact wd.c0
theorem Wt.c1 (h : Wt w L B pa np pcap ps Pb R bs σ N F D) : w.cell? ⟨B, 1, none⟩ = some (.slice pa np pcap) := by
  obtain ⟨l, wd⟩ := h.wd
  exact wd.c1
theorem Wt.c2 (h : Wt w L B pa np pcap ps Pb R bs σ N F D) : ∃ p cap, w.cell? ⟨B, 2, none⟩ = some (.slice p σ.tk.length cap) ∧ bs.length = σ.tk.length ∧ (0 < σ.tk.length → ∃ g, p = some ⟨g, 0, none⟩ ∧ ∀ k b, bs[k]? = some b → w.cell? ⟨g, k, none⟩ = some (.pointer (some ⟨b, 0, none⟩))) := by
  obtain ⟨l, wd⟩ := h.wd
  exact wd.c2
theorem flat_get (l : List (Int × Int × Int)) (k : Nat) {e : Int × Int × Int} (hk : l[k]? = some e) : (l.flatMap evc)[k * 3]? = some (.int .i64 e.1) ∧ (l.flatMap evc)[k * 3 + 1]? = some (.int .i64 e.2.1) ∧ (l.flatMap evc)[k * 3 + 2]? = some (.int .i64 e.2.2) := by
  induction l generalizing k with
  | nil => simp at hk
  | cons x l ih =>
    cases k with
    | zero =>
      simp only [List.getElem?_cons_zero, Option.some.injEq] at hk
      subst hk
      simp [evc]
    | succ k =>
      simp only [List.getElem?_cons_succ] at hk
      have h3 : (evc x).length = 3 := rfl
      obtain ⟨q1, q2, q3⟩ := ih k hk
      simp only [List.flatMap_cons]
      refine ⟨?_, ?_, ?_⟩
      · rw [List.getElem?_append_right (by omega), h3, show (k + 1) * 3 - 3 = k * 3 by omega]; exact q1
      · rw [List.getElem?_append_right (by omega), h3, show (k + 1) * 3 + 1 - 3 = k * 3 + 1 by omega]; exact q2
      · rw [List.getElem?_append_right (by omega), h3, show (k + 1) * 3 + 2 - 3 = k * 3 + 2 by omega]; exact q3
theorem Wt.c3 (h : Wt w L B pa np pcap ps Pb R bs σ N F D) : ∃ p cap, w.cell? ⟨B, 3, none⟩ = some (.slice p σ.ev.length cap) ∧ (0 < σ.ev.length → ∃ g, p = some ⟨g, 0, none⟩ ∧ L ≤ g ∧ ∀ k e, σ.ev[k]? = some e → w.cell? ⟨g, k * 3, none⟩ = some (.int .i64 e.1) ∧ w.cell? ⟨g, k * 3 + 1, none⟩ = some (.int .i64 e.2.1) ∧ w.cell? ⟨g, k * 3 + 2, none⟩ = some (.int .i64 e.2.2)) := by
  obtain ⟨l, wd⟩ := h.wd
  obtain ⟨a, s, tv, ev, m, _⟩ := wd.ex
  have htr := m.er
  obtain ⟨p, cap, rfl⟩ := row_val htr
  refine ⟨p, cap, cell_of_row w B 3 _ _ _ m.blk, fun hn => ?_⟩
  rcases htr.2 with ⟨e, _⟩ | ⟨g, c, cur, e, hLg, hh, h1, h2, h3, h4⟩
  · simp only [Value.slice.injEq] at e; omega
  · simp only [Value.slice.injEq] at e
    obtain ⟨rfl, _, rfl⟩ := e
    refine ⟨g, rfl, hLg, fun k x hk => ?_⟩
    have hkl : k < σ.ev.length := (List.getElem?_eq_some_iff.1 hk).1
    obtain ⟨q1, q2, q3⟩ := flat_get σ.ev k hk
    rw [← h4, List.getElem?_take] at q1 q2 q3
    rw [if_pos (by omega)] at q1 q2 q3
    exact ⟨by rw [cell_of_row w g _ _ _ _ hh]; simpa using q1, by rw [cell_of_row w g _ _ _ _ hh]; simpa using q2, by rw [cell_of_row w g _ _ _ _ hh]; simpa using q3⟩

theorem Wt.spawn (h : Wt w L B pa np pcap ps Pb R bs σ N F D) (hN : N ≤ 1000) {prog : Nat} (hp : prog < np) :
    Calls Try.prog 9 #[.pointer (some ⟨B, 0, none⟩), .int .i64 prog] w fun e w' => e = .returned (.int .i64 (if σ.opn = 256 then 5 else 0)) ∧ ∃ F' D' bs', Wt w' L B pa np pcap ps Pb R bs' (σ.spawn prog) (N + 1) F' D' ∧ Wx w F D bs w' F' D' bs' := by
  obtain ⟨l, wd⟩ := h.wd
  have hb := (Bnd.mk h.ok h.tl h.el : Bnd np N N (2 * N) σ).spawn hp
  refine (wspawn wd h.low (by have := h.tl; omega) prog).mono ?_
  rintro e w' ⟨rfl, F', D', bs', wd', wx'⟩
  exact ⟨rfl, F', D', bs', ⟨⟨l, wd'⟩, h.pg.step wx', wx'.low h.low, fun p hp => ⟨Nat.le_succ_of_le (hb.ok p hp).1, (hb.ok p hp).2⟩, hb.tl, by have := hb.el; omega, h.np1, h.psl⟩, wx'⟩

theorem Wt.ready (h : Wt w L B pa np pcap ps Pb R bs σ N F D) :
    Calls Try.prog 14 #[.pointer (some ⟨R, 0, none⟩)] w fun e w' => ∃ p cap, e = .returned (.slice p σ.line.length cap) ∧ w'.ownsRow w.heap.size 3 1 (.slice p σ.line.length cap) σ.line.length (W σ.line) ∧ Below w.heap.size w w' := by
  obtain ⟨l, wd⟩ := h.wd
  obtain ⟨a, s, tv, ev, m, q1, _⟩ := wd.ex
  subst q1
  have := readys_any m.rt
  rw [m.ln] at this
  exact this

theorem Wt.parked (h : Wt w L B pa np pcap ps Pb R bs σ N F D) :
    Calls Try.prog 20 #[.pointer (some ⟨R, 0, none⟩)] w fun e w' => ∃ p cap, e = .returned (.slice p σ.pkd.length cap) ∧ w'.ownsRow w.heap.size 3 1 (.slice p σ.pkd.length cap) σ.pkd.length (W σ.pkd) ∧ Below w.heap.size w w' := by
  obtain ⟨l, wd⟩ := h.wd
  obtain ⟨a, s, tv, ev, m, q1, _⟩ := wd.ex
  subst q1
  have := parked_any m.rt
  rw [m.pkd] at this
  exact this

theorem Wt.over (h : Wt w L B pa np pcap ps Pb R bs σ N F D) {i b : Nat} {p : Pt} (hb : bs[i]? = some b) (hp : σ.tk[i]? = some p) :
    Calls Try.prog 16 #[.pointer (some ⟨b, 0, none⟩)] w fun e w' => e = .returned (.bool (decide (p.st = 0))) ∧ w' = w := by
  obtain ⟨l, wd⟩ := h.wd
  obtain ⟨a, s, tv, ev, m, q1, q2, _⟩ := wd.ex
  subst q2
  obtain ⟨t, hi, rfl⟩ := m.task hb
  have := over_any m.rt hi
  rw [m.live hi hp] at this
  have e : (!(p.st != 0)) = decide (p.st = 0) := by
    by_cases h0 : p.st = 0 <;> simp [h0]
  rw [e] at this
  exact this

theorem Wt.wake (h : Wt w L B pa np pcap ps Pb R bs σ N F D) {i b : Nat} {p : Pt} (hb : bs[i]? = some b) (hp : σ.tk[i]? = some p) (hs : p.st = 3) (why : Int) :
    Calls Try.prog 32 #[.pointer (some ⟨b, 0, none⟩), .int .i64 why] w fun e w' => e = .returned (.int .i64 0) ∧ ∃ F' D', Wt w' L B pa np pcap ps Pb R bs (σ.gets i { p with why := why }) N F' D' ∧ Wx w F D bs w' F' D' bs := by
  obtain ⟨l, wd⟩ := h.wd
  have hb2 := (Bnd.mk h.ok h.tl h.el : Bnd np N N (2 * N) σ).gets i (q := { p with why := why }) (h.ok p (List.mem_of_getElem? hp))
  refine (wwake_yes wd h.low hb hp hs why).mono ?_
  rintro e w' ⟨rfl, _, F', D', wd', wx'⟩
  exact ⟨rfl, F', D', ⟨⟨l, wd'⟩, h.pg.step wx', wx'.low h.low, hb2.ok, hb2.tl, hb2.el, h.np1, h.psl⟩, wx'⟩

def sg0 : Sg := ⟨[], [], []⟩

/-- The law's world at first. -/
theorem Wt.new (hB : w.heap[B]? = some (.cells #[.pointer (some ⟨a.R, 0, none⟩), .slice pa np pcap, .slice none 0 0, .slice none 0 0] (31 : TypeId) (0, 0))) (hr : Rt w a rs0) (hlo : ∀ k, own a rs0 k ∨ k = a.Q → L ≤ k) (hLB : L ≤ B) (hL : L ≤ w.heap.size) (hp : Pgs Pb w pa np pcap ps) (hlt : ∀ k, Pb k → k < w.heap.size) (hap : ∀ k, Pb k → ¬ (own a rs0 k ∨ k = a.Q) ∧ k ≠ B) (hnp : 0 < np ∧ np ≤ 1000) :
    ∃ F D, Wt w L B pa np pcap ps Pb a.R [] sg0 0 F D ∧ (∀ k, D k → L ≤ k) ∧ ∀ k, D k → own a rs0 k ∨ k = a.Q ∨ k = B := by
  have m : Wm w L B (.slice pa np pcap) a rs0 sg0 (fun _ => False) (.slice none 0 0) (.slice none 0 0) := ⟨hB, hr, ⟨by simp [rs0], .inl ⟨rfl, rfl⟩⟩, ⟨by simp [sg0], .inl ⟨rfl, rfl⟩⟩, fun k hk => by
    rcases hk with hk | hk | rfl
    · exact hlo k (.inl hk)
    · exact hlo k (.inr hk)
    · exact hLB, fun k hk => hk.elim, rfl, rfl, fun i t p hi => by simp [rs0] at hi⟩
  refine ⟨fun _ => False, dom B a rs0 (fun _ => False) (.slice none 0 0) (.slice none 0 0), ⟨⟨0, ⟨a, rs0, _, _, m, rfl, rfl, rfl, rfl, fun k => Iff.rfl⟩⟩, ⟨hp, hlt, fun k hk hd => ?_⟩, hL, fun p hp => by simp [sg0] at hp, by simp [sg0], by simp [sg0], hnp, hp.len⟩, fun k hk => (m.dom_lt hk).1, fun k hk => ?_⟩
  rotate_left
  · rcases hk with h1 | h1 | h1 | h1 | h1 | h1
    · exact .inl h1
    · exact .inr (.inl h1)
    · exact .inr (.inr h1)
    · cases h1
    · cases h1
    · exact h1.elim
  rcases hd with h1 | h1 | h1 | h1 | h1 | h1
  · exact (hap k hk).1 (.inl h1)
  · exact (hap k hk).1 (.inr h1)
  · exact (hap k hk).2 h1
  · cases h1
  · cases h1
  · exact h1
end

end Go.Proofs.Ytennciddjkijaaa

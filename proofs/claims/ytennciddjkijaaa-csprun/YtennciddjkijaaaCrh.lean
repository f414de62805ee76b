/-
  A runtime: Step.
-/
import Derived.Test.YtennciddjkijaaaCrg
namespace Go.Proofs.Ytennciddjkijaaa
open Go.RowKit QI
set_option maxRecDepth 100000
set_option linter.unusedSimpArgs false

section
variable {w : World} {a : Ad} {s : Rs} {i : Nat} {t : Tc}

theorem step_none {p : Option Addr} (C : Calls Try.prog 36 #[.pointer p] w fun e w' => e = .returned (.bool false) ∧ w' = w) (z : Int) :
    Calls Try.prog 11 #[.pointer p, .int .u64 z] w fun e w' => e = .returned (.bool false) ∧ w' = w := by
  go_enter Try.func11, Try.ntmps11
  go_wp2_with fail
  refine C.mono ?_
  rintro e w1 ⟨rfl, hw1⟩
  subst w1
  go_wp2_with fail
  go_ret
  exact ⟨rfl, rfl⟩

/-- A Step within a turn. -/
theorem step_in (h : Rt w a s) {k : Nat} (hr : s.run = some k) (z : Int) :
    Calls Try.prog 11 #[.pointer (some ⟨a.R, 0, none⟩), .int .u64 z] w fun e w' => e = .returned (.bool false) ∧ w' = w := by
  have C := rmade_yes (b := a.R) (h.m.cR 0)
  have c4 : w.cell? ⟨a.R, 4, none⟩ = some (.pointer (some ⟨s.adr k, 0, none⟩)) := by
    have := h.m.cR 4
    simpa [rcs, Rs.rp, hr] using this
  clear h hr
  generalize s.adr k = b at *
  generalize a.R = r at *
  go_enter Try.func11, Try.ntmps11
  go_wp2_with fail
  refine C.mono ?_
  rintro e w1 ⟨rfl, hw1⟩
  subst w1
  go_wp2_with fail
  go_ret
  exact ⟨rfl, rfl⟩

/-- A Step where none is ready. -/
theorem step_no (h : Rt w a s) (hr : s.run = none) (hl : s.line = []) (z : Int) :
    Calls Try.prog 11 #[.pointer (some ⟨a.R, 0, none⟩), .int .u64 z] w fun e w' => e = .returned (.bool false) ∧ w' = w := by
  have C := rmade_yes (b := a.R) (h.m.cR 0)
  have c4 : w.cell? ⟨a.R, 4, none⟩ = some (.pointer none) := by
    have := h.m.cR 4
    simpa [rcs, Rs.rp, hr] using this
  have c1 : w.cell? ⟨a.R, 1, none⟩ = some (.pointer (some ⟨a.Q, 0, none⟩)) := h.m.cR 1
  obtain ⟨N, hd, q⟩ := h.m.qu
  rw [hl] at q
  have CP := pick_no (slen_yes h.m.sd q) z
  clear h hr hl q
  generalize a.R = r at *
  generalize a.Q = q at *
  go_enter Try.func11, Try.ntmps11
  go_wp2_with fail
  refine C.mono ?_
  rintro e w1 ⟨rfl, hw1⟩
  subst w1
  go_wp2_with fail
  refine CP.mono ?_
  rintro e w1 ⟨rfl, hw1⟩
  subst w1
  go_wp2_with fail
  go_ret
  exact ⟨rfl, rfl⟩

set_option maxHeartbeats 1000000 in
theorem step_yes (h : Rt w a s) (hr : s.run = none) (p : Nat) (hp : p ≤ 18446744073709551615) {j : Nat} (hj : Hid (j = p % s.line.length)) (hji : s.line[j]? = some (i : Int)) (hi : s.ts[i]? = some t) {fn : Nat} {caps : Array Value} (hnx : t.nx = .func (.func fn) #[] caps) (hen : Ent fn) (Φ : World → Ad → Rs → Prop)
    (HC : ∀ X a1, Rp w a s X a1 (s.begin i j ⟨t.b, .nilFunc, t.wk⟩ (p / s.line.length)) → Calls Try.prog fn caps X fun e w2 => e = .returned (.tuple #[]) ∧ ∃ a2 s2 t2, Rt w2 a2 s2 ∧ s2.run = some i ∧ s2.ts[i]? = some t2 ∧ t2.b = t.b ∧ a2.R = a.R ∧ Φ w2 a2 s2) :
    Calls Try.prog 11 #[.pointer (some ⟨a.R, 0, none⟩), .int .u64 p] w fun e w' => e = .returned (.bool true) ∧ ∃ w2 a2 s2, Φ w2 a2 s2 ∧ Rp w2 a2 s2 w' a2 s2.done := by
  have C := rmade_yes (b := a.R) (h.m.cR 0)
  have c4 : w.cell? ⟨a.R, 4, none⟩ = some (.pointer none) := by
    have := h.m.cR 4
    simpa [rcs, Rs.rp, hr] using this
  have c1 : w.cell? ⟨a.R, 1, none⟩ = some (.pointer (some ⟨a.Q, 0, none⟩)) := h.m.cR 1
  obtain ⟨N, hd, q⟩ := h.m.qu
  have hjl : j < s.line.length := (List.getElem?_eq_some_iff.1 hji).1
  have hn0 : 0 < s.line.length := by omega
  have hgd : s.line.getD j 0 = (i : Int) := by simp [List.getD, hji]
  have CP := pick_yes h.m.sd q hn0 p hp
  rw [← hj.out, hgd] at CP
  have hdl : p / s.line.length ≤ 18446744073709551615 := Nat.le_trans (Nat.div_le_self _ _) hp
  have hgo : t.goes = true := by simp [Tc.goes, hnx, on]
  have hin : (i : Int) ∈ s.lives := h.ok.sub (List.mem_of_getElem? hji)
  have HT : Hid (∀ w1, Qt w w1 a.U a.G (s.line.eraseIdx j) → w1.cell? ⟨a.R, 2, none⟩ = some (.map (some a.M)) ∧ (Instr.lookup (59 : TypeId) (.map (some a.M)) (.int .i64 (i : Int)) false).run Try.prog w1 = .ok (.pointer (some ⟨t.b, 0, none⟩)) w1 ∧
      Calls Try.prog 45 #[.pointer (some ⟨a.R, 0, none⟩), .pointer (some ⟨t.b, 0, none⟩), .int .u64 (p / s.line.length : Nat)] w1 fun e w' => e = .returned (.tuple #[]) ∧ ∃ w2 a2 s2, Φ w2 a2 s2 ∧ Rp w2 a2 s2 w' a2 s2.done) := hide (by
    intro w1 k
    obtain ⟨G', hg, m1, t1⟩ := h.m.turn k
    have had : ({ s with line := s.line.eraseIdx j } : Rs).adr i = t.b := adr_of hi
    refine ⟨m1.cR 2, ?_, ?_⟩
    · have := m1.mp.look (h.ok.id hi) hin
      simpa [had] using this
    · refine turn_any m1 hi hnx hen (p / s.line.length) Φ (fun X mX tX => ?_)
      have x1 : Rx w a s X { a with G := G' } (s.begin i j ⟨t.b, .nilFunc, t.wk⟩ (p / s.line.length)) := by
        refine ⟨rfl, rfl, rfl, rfl, hg, ⟨[], by simp [Rs.begin, map_set hi], by simp⟩, t1.trans tX (fun k hk e => ?_)⟩
        have x0 : Rx w a s w1 { a with G := G' } { s with line := s.line.eraseIdx j } := ⟨rfl, rfl, rfl, rfl, hg, ⟨[], by simp, by simp⟩, t1⟩
        exact (x0.own e).elim id (fun h' => by omega)
      refine HC X _ ⟨⟨?_, h.ok.begin hji hi rfl rfl hr hdl⟩, x1⟩
      rw [lives_begin hi hgo hr]
      exact mX)
  clear h hr hji hi hnx hen HC q hjl hn0 hgd hgo hin hp
  obtain ⟨r, hr⟩ : ∃ r, Hid (r = a.R) := ⟨_, hide rfl⟩
  obtain ⟨qq, hq⟩ : ∃ q, Hid (q = a.Q) := ⟨_, hide rfl⟩
  obtain ⟨M, hM⟩ : ∃ M, Hid (M = a.M) := ⟨_, hide rfl⟩
  obtain ⟨b, hb⟩ : ∃ b, Hid (b = t.b) := ⟨_, hide rfl⟩
  obtain ⟨D, hD⟩ : ∃ D, Hid (D = p / s.line.length) := ⟨_, hide rfl⟩
  rw [← hr.out] at C c1 c4 HT ⊢
  rw [← hq.out] at c1 CP
  rw [← hM.out, ← hb.out, ← hD.out] at HT
  rw [← hD.out] at CP hdl
  generalize s.line.eraseIdx j = l' at *
  go_enter Try.func11, Try.ntmps11
  go_wp2_with fail
  refine C.mono ?_
  rintro e w1 ⟨rfl, hw1⟩
  subst w1
  go_wp2_with fail
  refine CP.mono ?_
  rintro e w1 ⟨rfl, k⟩
  obtain ⟨d2, hlk, CT⟩ := HT.out w1 k
  have HCT := hide CT
  clear HT k CT CP C c1 c4
  go_wp2_with fail
  refine HCT.out.mono ?_
  rintro e w3 ⟨rfl, hF⟩
  have HF := hide hF
  clear hF HCT
  go_wp2_with fail
  go_ret
  exact ⟨rfl, HF.out⟩
end

end Go.Proofs.Ytennciddjkijaaa

/-
  CspNone: a task that was spawned has its first turn; choices, many.
-/
import Derived.Test.YtnljgkemplebhaaCsj
namespace Go.Proofs.Ytnljgkemplebhaa
open Go.RowKit QI
set_option maxRecDepth 100000
set_option linter.unusedSimpArgs false

theorem first58 {X : World} {g1 g2 b : Nat} {fn : Nat} {caps : Array Value} (hen : Ent fn) (e1 : X.heap[g1]? = some (.cells #[.func (.func fn) #[] caps] (55 : TypeId) (0, 0))) (e2 : X.heap[g2]? = some (.cells #[.pointer (some ⟨b, 0, none⟩)] (44 : TypeId) (0, 0))) (Ψ : World → Prop) (hC : Calls Try.prog fn (#[.pointer (some ⟨b, 0, none⟩)] ++ caps) X fun e w' => e = .returned (.tuple #[]) ∧ Ψ w') :
    Calls Try.prog 58 #[.pointer (some ⟨g1, 0, none⟩), .pointer (some ⟨g2, 0, none⟩)] X fun e w' => e = .returned (.tuple #[]) ∧ Ψ w' := by
  have d1 : X.cell? ⟨g1, 0, none⟩ = some (.func (.func fn) #[] caps) := cell_of_row X _ 0 _ _ _ e1
  have d2 : X.cell? ⟨g2, 0, none⟩ = some (.pointer (some ⟨b, 0, none⟩)) := cell_of_row X _ 0 _ _ _ e2
  have HC := hide hC
  clear hC e1 e2
  unfold Ent at hen
  go_enter Try.func58, Try.ntmps58
  go_wp2_with fail
  refine HC.out.mono ?_
  rintro e w1 ⟨rfl, hΨ⟩
  go_wp2_with fail
  go_end0
  exact ⟨rfl, hΨ⟩

/-- The first turn of a task that was spawned: it stands at place j of the line. -/
theorem step_spawned {w : World} {a : Ad} {s : Rs} (h : Rt w a s) (hr : s.run = none) (p : Nat) (hp : p ≤ 18446744073709551615) {j i b g1 g2 : Nat} {wk : Value} (hj : Hid (j = p % s.line.length)) (hji : s.line[j]? = some (i : Int)) (hi : s.ts[i]? = some ⟨b, spv g1 g2, wk⟩) {fn : Nat} {caps : Array Value} (hen : Ent fn)
    (e1 : w.heap[g1]? = some (.cells #[.func (.func fn) #[] caps] (55 : TypeId) (0, 0))) (e2 : w.heap[g2]? = some (.cells #[.pointer (some ⟨b, 0, none⟩)] (44 : TypeId) (0, 0))) (n1 : ¬ own a s g1) (n2 : ¬ own a s g2) (Φ : World → Ad → Rs → Prop)
    (HC : ∀ X a1, Rp w a s X a1 (s.begin i j ⟨b, .nilFunc, wk⟩ (p / s.line.length)) → Calls Try.prog fn (#[.pointer (some ⟨b, 0, none⟩)] ++ caps) X fun e w2 => e = .returned (.tuple #[]) ∧ ∃ a2 s2 t2, Rt w2 a2 s2 ∧ s2.run = some i ∧ s2.ts[i]? = some t2 ∧ t2.b = b ∧ a2.R = a.R ∧ Φ w2 a2 s2) :
    Calls Try.prog 11 #[.pointer (some ⟨a.R, 0, none⟩), .int .u64 p] w fun e w' => e = .returned (.bool true) ∧ ∃ w2 a2 s2, Φ w2 a2 s2 ∧ Rp w2 a2 s2 w' a2 s2.done :=
  step_yes h hr p hp hj hji hi (fn := 58) (caps := #[.pointer (some ⟨g1, 0, none⟩), .pointer (some ⟨g2, 0, none⟩)]) rfl ent58 Φ (fun X a1 x =>
    first58 hen ((x.x.tb.block _ (heap_lt e1) n1).trans e1) ((x.x.tb.block _ (heap_lt e2) n2).trans e2) _ (HC X a1 x))

/-- All tasks are over. -/
structure Ov (s : Rs) (n : Nat) : Prop where
  run : s.run = none
  line : s.line = []
  len : s.ts.length = n
  nil : ∀ t ∈ s.ts, t.nx = .nilFunc ∧ t.wk = .nilFunc
theorem Ov.lives {s : Rs} {n : Nat} (h : Ov s n) : s.lives = [] := by
  apply List.eq_nil_of_length_eq_zero
  unfold Rs.lives
  rw [List.length_map, List.length_eq_zero_iff, List.filter_eq_nil_iff]
  intro i hi
  have hl := List.mem_range.1 hi
  have ht : s.ts[i]? = some s.ts[i] := List.getElem?_eq_getElem hl
  rw [live_goes ht, h.run]
  have := h.nil _ (List.getElem_mem hl)
  simp [Tc.goes, this.1, this.2, on]

theorem ent62 : Ent 62 := fun _ _ => by go_simp
theorem many1 (X : World) (v : Value) : Calls Try.prog 62 #[v] X fun e w' => e = .returned (.tuple #[]) ∧ w' = X := by
  go_enter Try.func62, Try.ntmps62
  go_wp2_with fail
  go_end0
  exact ⟨rfl, rfl⟩

/-- What is left of a Spawn and of that task's only turn. -/
theorem Rp.low {w w' : World} {a a' : Ad} {s s' : Rs} (x : Rp w a s w' a' s') {W : World} (hb : Below W.heap.size W w) (hlo : ∀ k, own a s k ∨ k = a.Q → W.heap.size ≤ k) : Below W.heap.size W w' ∧ ∀ k, own a' s' k ∨ k = a'.Q → W.heap.size ≤ k := by
  refine ⟨hb.trans (x.x.tb.below (fun k hk => hlo k (.inl hk)) hb.size), fun k hk => ?_⟩
  rcases hk with hk | hk
  · exact (x.x.own hk).elim (fun h => hlo k (.inl h)) (fun h => Nat.le_trans hb.size h)
  · rw [hk, x.x.Q]; exact hlo _ (.inr rfl)

set_option maxHeartbeats 1000000 in
theorem many_any (w : World) : Calls Try.prog 35 #[] w fun e w' => e = .returned (.bool true) ∧ Below w.heap.size w w' := by
  have CN := new_any w
  go_enter Try.func35, Try.ntmps35
  go_wp2_with fail
  refine CN.mono ?_
  rintro e w1 ⟨a, rfl, rt, hlo, hb1⟩
  obtain ⟨R, hR⟩ : ∃ R, Hid (R = a.R) := ⟨_, hide rfl⟩
  have H0 : Hid (∃ a s, Rt w1 a s ∧ Ov s 0 ∧ a.R = R ∧ Below w.heap.size w w1 ∧ ∀ k, own a s k ∨ k = a.Q → w.heap.size ≤ k) := hide ⟨a, rs0, rt, ⟨rfl, rfl, rfl, by simp [rs0]⟩, hR.out.symm, hb1, hlo⟩
  rw [← hR.out]
  clear rt hlo hb1 CN
  go_wp2_with fail
  go_loopw [2] (fun iv wr => ∃ i : Nat, i ≤ 300 ∧ iv = .int .i64 i ∧ Hid (∃ a s, Rt wr a s ∧ Ov s i ∧ a.R = R ∧ Below w.heap.size w wr ∧ ∀ k, own a s k ∨ k = a.Q → w.heap.size ≤ k)) (fun iv _ => 300 - (intOf iv).toNat)
  case atStart => exact ⟨0, by omega, rfl, H0⟩
  case round =>
    obtain ⟨i, hi, rfl, hin⟩ := hrel
    obtain ⟨a, s, rt, ov, hRa, hb, hlo⟩ := hin.out
    by_cases hlt : i < 300
    · have CS := spawn_yes rt (by rw [ov.lives]; simp) (by rw [ov.len]; omega) (.func 62) #[] #[]
      rw [hRa] at CS
      have HC : Hid (∀ b w2, SpP wr a s (.func (.func 62) #[] #[]) b w2 → Calls Try.prog 11 #[.pointer (some ⟨R, 0, none⟩), .int .u64 0] w2 fun e w' => e = .returned (.bool true) ∧ Hid (∃ a s, Rt w' a s ∧ Ov s (i + 1) ∧ a.R = R ∧ Below w.heap.size w w' ∧ ∀ k, own a s k ∨ k = a.Q → w.heap.size ≤ k)) := hide (by
        rintro b w2 ⟨a2, g1, g2, x, hbw, z1, z2, z3, z4, z5, z6⟩
        obtain ⟨hb2, hlo2⟩ := x.low hb hlo
        have hln : (s.spawn b (spv g1 g2)).line = [(i : Int)] := by simp [Rs.spawn, ov.line, ov.len]
        have hti : (s.spawn b (spv g1 g2)).ts[i]? = some ⟨b, spv g1 g2, .nilFunc⟩ := by simp [Rs.spawn, ← ov.len]
        have hst := step_spawned x.rt (by simp [Rs.spawn, ov.run]) 0 (by omega) (j := 0) (i := i) (hide (by simp)) (by rw [hln]; rfl) hti ent62 z3 z4 z5 z6 (fun w3 a3 s3 => s3 = (s.spawn b (spv g1 g2)).begin i 0 ⟨b, .nilFunc, .nilFunc⟩ 0 ∧ a3.R = R ∧ Below w.heap.size w w3 ∧ ∀ k, own a3 s3 k ∨ k = a3.Q → w.heap.size ≤ k) (fun X a1 x1 => by
          rw [Nat.zero_div] at x1
          obtain ⟨hb3, hlo3⟩ := x1.low hb2 hlo2
          refine (many1 X _).mono ?_
          rintro e w' ⟨rfl, rfl⟩
          exact ⟨rfl, a1, _, ⟨b, .nilFunc, .nilFunc⟩, x1.rt, rfl, by simp [Rs.begin, get_set hti], rfl, x1.x.R, rfl, x1.x.R.trans (x.x.R.trans hRa), hb3, hlo3⟩)
        rw [x.x.R, hRa] at hst
        refine hst.mono ?_
        rintro e w' ⟨rfl, w3, a3, s3, ⟨hs3, hR3, hb3, hlo3⟩, x3⟩
        obtain ⟨hb4, hlo4⟩ := x3.low hb3 hlo3
        refine ⟨rfl, hide ⟨a3, s3.done, x3.rt, ⟨rfl, ?_, ?_, fun t ht => ?_⟩, hR3, hb4, hlo4⟩⟩
        · rw [hs3]; show (s.spawn b (spv g1 g2)).line.eraseIdx 0 = []; rw [hln]; rfl
        · rw [hs3]; simp [Rs.done, Rs.begin, Rs.spawn, ov.len]
        · rw [hs3] at ht
          have ht' : t ∈ (s.spawn b (spv g1 g2)).ts.set i ⟨b, .nilFunc, .nilFunc⟩ := ht
          have e : (s.spawn b (spv g1 g2)).ts.set i ⟨b, .nilFunc, .nilFunc⟩ = s.ts ++ [⟨b, .nilFunc, .nilFunc⟩] := by simp [Rs.spawn, ← ov.len]
          rw [e] at ht'
          rcases List.mem_append.1 ht' with h1 | h1
          · exact ov.nil t h1
          · simp only [List.mem_singleton] at h1
            subst h1
            exact ⟨rfl, rfl⟩)
      have HCS := hide CS
      have hw1 : IntKind.i64.wrap ((i : Int) + 1) = ((i + 1 : Nat) : Int) := by rw [IntKind.wrap_i64]; omega
      have hi3 : (i : Int) < 300 := by omega
      clear CS rt ov hRa hb hlo hin
      go_wp2_with fail
      refine HCS.out.mono ?_
      rintro e w2 ⟨b, rfl, hsp⟩
      have HC2 := hide (HC.out b w2 hsp)
      clear HC HCS hsp
      go_wp2_with fail
      refine HC2.out.mono ?_
      rintro e w3 ⟨rfl, hN⟩
      clear HC2
      go_wp2_with fail
      go_roundw
      case rel => exact ⟨i + 1, by omega, by go_num, hN⟩
      case measure => simp [intOf]; omega
    · obtain rfl : i = 300 := by omega
      have CR := readys_any rt
      rw [ov.line, hRa] at CR
      have HB := hide hb
      simp only [List.length_nil] at CR
      clear rt ov hRa hb hlo hin
      go_wp2_with fail
      refine CR.mono ?_
      rintro e w2 ⟨p, cap, rfl, _, hb2⟩
      have HB2 : Hid (Below w.heap.size w w2) := hide (HB.out.trans (hb2.mono HB.out.size))
      clear hb2
      go_wp2_with fail
      go_ret
      exact ⟨rfl, HB2.out⟩

end Go.Proofs.Ytnljgkemplebhaa

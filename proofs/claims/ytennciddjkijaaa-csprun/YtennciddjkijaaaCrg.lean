/-
  A runtime: a turn, Step. What the task's function does in its turn is asked of the caller.
-/
import Derived.Test.YtennciddjkijaaaCrf
namespace Go.Proofs.Ytennciddjkijaaa
open Go.RowKit QI
set_option maxRecDepth 100000
set_option linter.unusedSimpArgs false

/-- A function of the program that can be entered. -/
def Ent (fn : Nat) : Prop := ∀ (args : Array Value) (w : World), (callFunc fn args).run Try.prog w = .ok (.enter fn args) w

section
variable {w : World} {a : Ad} {s : Rs} {i : Nat} {t : Tc} {ks : List Int}

/-- A turn is over: who has said nothing is taken out of the map. -/
theorem Rt.ends (h : Rt w a s) (hi : s.ts[i]? = some t) (hr : s.run = some i) {X : World} (hX : Hid (X = w.setCell ⟨a.R, 4, none⟩ (.pointer none))) :
    Rm X a s.done s.lives ∧ Tb (fun k => k = a.R) w X ∧ (t.goes = true → Rp w a s X a s.done) ∧
    (t.goes = false → ∃ O, (∀ ty, (Builtin.delete_ #[(59 : TypeId), 3] ty #[.map (some a.M), .int .i64 i]).run Try.prog X.drew = .ok (.tuple #[]) O) ∧ Rp w a s O a s.done) := by
  have tX : Tb (fun k => k = a.R) w X := by rw [hX.out]; exact Tb.set a.R 4 _ rfl
  have rX : Rm X a s.done s.lives := h.m.robj tX (by
    rw [hX.out, heap_setCell_same w a.R 4 _ _ _ h.m.obj]
    rfl) rfl rfl
  have tX' : Tb (own a s) w X := tX.mono (fun k _ e => .inl e)
  refine ⟨rX, tX, fun hg => ?_, fun hg => ?_⟩
  · refine ⟨⟨?_, h.ok.done hi hr⟩, .turn tX' rfl⟩
    have : s.done.lives = s.lives := lives_congr rfl (fun k => by
      simp only [Rs.live, Rs.done, hr]
      by_cases e : i = k
      · subst e
        simp [hi, hg]
      · simp [e])
    rw [this]
    exact rX
  · have hin : (i : Int) ∈ s.lives := mem_lives.2 ⟨i, rfl, (List.getElem?_eq_some_iff.1 hi).1, by rw [live_goes hi]; simp [hr]⟩
    have hm : ∀ x, x ∈ s.done.lives ↔ x ∈ s.lives ∧ x ≠ (i : Int) := fun x => by
      rw [lives_done hi hr]
      simp [hg]
    have hlen : s.done.lives.length + 1 = s.lives.length := by
      have hp : ((i : Int) :: s.done.lives).Perm s.lives := (List.perm_ext_iff_of_nodup (List.nodup_cons.2 ⟨fun hx => ((hm _).1 hx).2 rfl, lives_nodup⟩) lives_nodup).2 (fun x => by
        rw [List.mem_cons, hm]
        constructor
        · rintro (rfl | hx)
          · exact hin
          · exact hx.1
        · intro hx
          by_cases e : x = (i : Int)
          · exact .inl e
          · exact .inr ⟨hx, e⟩)
      have := hp.length_eq
      simpa using this
    have rD := rX.below (Below.refl _ X).drew
    obtain ⟨O, ho, mo, to⟩ := rD.mp.del (h.ok.id hi) hin hlen hm 0
    refine ⟨O, fun ty => ?_, ⟨⟨rD.map to mo, h.ok.done hi hr⟩, .turn (tX'.drew.trans to (fun k _ e => .inr (.inr (.inr (.inl e))))) rfl⟩⟩
    obtain ⟨O', ho', _⟩ := rD.mp.del (ls := s.done.lives) (h.ok.id hi) hin hlen hm ty
    have e1 : (Builtin.delete_ #[(59 : TypeId), 3] ty #[.map (some a.M), .int .i64 i]) = (Builtin.delete_ #[(59 : TypeId), 3] 0 #[.map (some a.M), .int .i64 i]) := rfl
    rw [e1]
    exact ho

set_option maxHeartbeats 1000000 in
theorem turn_any (h : Rm w a s ks) (hi : s.ts[i]? = some t) {fn : Nat} {caps : Array Value} (hnx : t.nx = .func (.func fn) #[] caps) (hen : Ent fn) (left : Nat) (Φ : World → Ad → Rs → Prop)
    (HC : ∀ X, Rm X a ⟨s.ts.set i ⟨t.b, .nilFunc, t.wk⟩, s.line, some i, left⟩ ks → Tb (own a s) w X → Calls Try.prog fn caps X fun e w2 => e = .returned (.tuple #[]) ∧ ∃ a2 s2 t2, Rt w2 a2 s2 ∧ s2.run = some i ∧ s2.ts[i]? = some t2 ∧ t2.b = t.b ∧ a2.R = a.R ∧ Φ w2 a2 s2) :
    Calls Try.prog 45 #[.pointer (some ⟨a.R, 0, none⟩), .pointer (some ⟨t.b, 0, none⟩), .int .u64 left] w fun e w' => e = .returned (.tuple #[]) ∧ ∃ w2 a2 s2, Φ w2 a2 s2 ∧ Rp w2 a2 s2 w' a2 s2.done := by
  have c3 : w.cell? ⟨t.b, 3, none⟩ = some (.func (.func fn) #[] caps) := by rw [← hnx]; exact h.cT hi 3
  have f3 := h.fT hi 3
  obtain ⟨X, hX⟩ : ∃ X, Hid (X = w.setCell ⟨t.b, 3, none⟩ .nilFunc) := ⟨_, hide rfl⟩
  have tX : Tb (fun k => k = t.b) w X := by rw [hX.out]; exact Tb.set t.b 3 _ rfl
  have rX : Rm X a { s with ts := s.ts.set i ⟨t.b, .nilFunc, t.wk⟩ } ks := h.tobj hi rfl tX (by
    rw [hX.out, heap_setCell_same w t.b 3 _ _ _ (h.tk i t hi)]
    rfl)
  have x4 : ∃ v, X.cell? ⟨a.R, 4, none⟩ = some v := ⟨_, rX.cR 4⟩
  have fx4 := rX.fR 4
  obtain ⟨Y, hY⟩ : ∃ Y, Hid (Y = X.setCell ⟨a.R, 4, none⟩ (.pointer (some ⟨t.b, 0, none⟩))) := ⟨_, hide rfl⟩
  have hYR : Y.heap[a.R]? = some (.cells (rcs a ⟨s.ts.set i ⟨t.b, .nilFunc, t.wk⟩, s.line, some i, s.left⟩) (61 : TypeId) (0, 0)) := by
    rw [hY.out, heap_setCell_same X a.R 4 _ _ _ rX.obj]
    have : (⟨s.ts.set i ⟨t.b, .nilFunc, t.wk⟩, s.line, some i, s.left⟩ : Rs).adr i = t.b := by simp [Rs.adr, get_set hi]
    simp [rcs, Rs.rp, this]
  have tY : Tb (fun k => k = a.R) X Y := by rw [hY.out]; exact Tb.set a.R 4 _ rfl
  have rY := rX.robj tY hYR rfl rfl
  have y5 : ∃ v, Y.cell? ⟨a.R, 5, none⟩ = some v := ⟨_, rY.cR 5⟩
  have fy5 := rY.fR 5
  obtain ⟨Z, hZ⟩ : ∃ Z, Hid (Z = Y.setCell ⟨a.R, 5, none⟩ (.int .u64 left)) := ⟨_, hide rfl⟩
  have tZ : Tb (fun k => k = a.R) Y Z := by rw [hZ.out]; exact Tb.set a.R 5 _ rfl
  have rZ : Rm Z a ⟨s.ts.set i ⟨t.b, .nilFunc, t.wk⟩, s.line, some i, left⟩ ks := rY.robj tZ (by
    rw [hZ.out, heap_setCell_same Y a.R 5 _ _ _ hYR]
    rfl) rfl rfl
  have tw : Tb (own a s) w Z := ((tX.mono (fun k _ e => by subst e; exact own_task hi) : Tb (own a s) w X).trans tY (fun k _ e => .inl e)).trans tZ (fun k _ e => .inl e)
  have HCZ := hide (HC Z rZ tw)
  have HT : Hid (∀ (w2 : World) (a2 : Ad) (s2 : Rs) (t2 : Tc), Rt w2 a2 s2 → s2.run = some i → s2.ts[i]? = some t2 → t2.b = t.b → a2.R = a.R →
      ∃ X2 M2, Hid (X2 = w2.setCell ⟨a.R, 4, none⟩ (.pointer none)) ∧ (∃ v, w2.cell? ⟨a.R, 4, none⟩ = some v) ∧ w2.frozen? ⟨a.R, 4, none⟩ = false ∧
        Calls Try.prog 54 #[.pointer (some ⟨t.b, 0, none⟩)] X2 (fun e w' => e = .returned (.bool t2.goes) ∧ w' = X2) ∧
        X2.cell? ⟨a.R, 2, none⟩ = some (.map (some M2)) ∧ X2.cell? ⟨t.b, 2, none⟩ = some (.int .i64 i) ∧
        (t2.goes = true → Rp w2 a2 s2 X2 a2 s2.done) ∧ (t2.goes = false → ∃ O, (∀ ty, (Builtin.delete_ #[(59 : TypeId), 3] ty #[.map (some M2), .int .i64 i]).run Try.prog X2.drew = .ok (.tuple #[]) O) ∧ Rp w2 a2 s2 O a2 s2.done)) := hide (by
    intro w2 a2 s2 t2 r2 hr2 hi2 hb2 hR2
    obtain ⟨q1, q2, q3, q4⟩ := r2.ends hi2 hr2 (X := w2.setCell ⟨a2.R, 4, none⟩ (.pointer none)) (hide rfl)
    rw [← hR2, ← hb2]
    exact ⟨_, a2.M, hide rfl, ⟨_, r2.m.cR 4⟩, r2.m.fR 4, goes_any q1 (r2.ok.fv t2 (List.mem_of_getElem? hi2)) hi2, q1.cR 2, q1.cT hi2 2, q3, q4⟩)
  obtain ⟨v4, hv4⟩ := x4
  obtain ⟨v5, hv5⟩ := y5
  clear HC rZ tw rY rX tX tY tZ hYR h hi hnx
  obtain ⟨b, hb⟩ : ∃ b, Hid (b = t.b) := ⟨_, hide rfl⟩
  obtain ⟨r, hr⟩ : ∃ r, Hid (r = a.R) := ⟨_, hide rfl⟩
  rw [← hb.out] at c3 f3 hX hY HT ⊢
  rw [← hr.out] at fx4 hv4 hY fy5 hv5 hZ HT ⊢
  go_enter Try.func45, Try.ntmps45
  unfold Ent at hen
  go_wp2_with (first | (rw [← hX.out]) | (rw [← hY.out]) | (rw [← hZ.out]))
  refine HCZ.out.mono ?_
  rintro e w2 ⟨rfl, a2, s2, t2, k1, k2, k3, k4, k5, k6⟩
  rw [← hb.out] at k4
  rw [← hr.out] at k5
  obtain ⟨X2, M2, hX2, ⟨u4, hu4⟩, fu4, CG, d2, e2, K1, K2⟩ := HT.out w2 a2 s2 t2 k1 k2 k3 k4 k5
  have K6 := hide k6
  have HK1 := hide K1
  have HK2 := hide K2
  clear HT HCZ k1 k2 k3 k4 k5 k6 K1 K2 c3 f3 fx4 fy5 hv4 hv5 hX hY hZ
  go_wp2_with (first | (rw [← hX2.out]))
  refine CG.mono ?_
  rintro e w3 ⟨rfl, hw3⟩
  subst w3
  clear hu4 fu4 hX2 CG
  cases hg : t2.goes
  · obtain ⟨O, ho, hF⟩ := HK2.out hg
    have HF := hide hF
    clear hF HK1 HK2 hg
    go_wp2_with fail
    go_region
    go_wp2_with fail
    go_end0
    exact ⟨rfl, w2, a2, s2, K6.out, HF.out⟩
  · have HF := hide (HK1.out hg)
    clear HK1 HK2 hg
    go_wp2_with fail
    go_end0
    exact ⟨rfl, w2, a2, s2, K6.out, HF.out⟩
end

end Go.Proofs.Ytennciddjkijaaa

/-
  Texts put into one.
-/
import Derived.Test.YtgjpbekmkhanhaaGreatMx4021a7b1

/-
  A task sends, receives, and has to wait.
-/
namespace Go.Proofs.YtgjpbekmkhanhaaGreat.CH
open Go.RowKit QW
set_option maxRecDepth 100000

section
variable {w : World} {a : Ad} {s : Rs} {i : Nat} {t : Tc} {A : Nat → Bool} {z : Zc} {m : Nat} {σ : Cs} {D : Nat → Prop}

/-- Behind calls that left the runtime as it was. -/
theorem Pked.back {W : World} {D3 : Nat → Prop} (x : Lx w D W D3) (_hlt : ∀ j, own a s j → j < w.heap.size) {v : Int} {f : Value} {nxt : Wv → Cs} {m' : Nat} {w' : World} (h : Pked W a s i t A z m' D3 v f nxt w') : Pked w a s i t A z m' D v f nxt w' := by
  obtain ⟨k, sv, tb, ub, th, D', p, c, r, tt, dm, bl⟩ := h
  have hz := x.tb.size
  refine ⟨k, sv, tb, ub, th, D', p, c, r, (show Tb (fun j => own a s j ∨ D j) w W from x.tb.mono (fun j _ h => .inr h)).trans tt (fun j hj h => ?_), fun j hj => ?_, fun j hj => ⟨by have := (bl j hj).1; omega, (bl j hj).2⟩⟩
  · rcases h with h | h
    · exact .inl h
    · exact (x.dom j h).elim .inr (fun h => by omega)
  · rcases dm j hj with h1 | h1
    · exact x.dom j h1
    · exact .inr (by omega)

set_option maxHeartbeats 2000000 in
theorem recv_park (h : Rt w a s) (hi : s.ts[i]? = some t) (hr : s.run = some i) (hg : t.goes = false) (c : Ch w A z m σ D) (hz : z.rt = a.R) (hc : canR σ none = false) (hm : m + 1 < Mx) (hD : ∀ j, D j → ¬ own a s j ∧ j ≠ a.Q) (hA : ∀ j, w.heap.size ≤ j → A j = true) (f : Fn) (fr fc : Array Value) :
    Calls Tryz.prog 27 #[.pointer (some ⟨t.b, 0, none⟩), .pointer (some ⟨z.C, 0, none⟩), .func f fr fc] w fun e w' => e = .returned (.int .i64 0) ∧ Pked w a s i t A z (m + 1) D 0 (.func f fr fc) (fun x => { σ with rcv := σ.rcv ++ [x] }) w' := by
  obtain ⟨X, n, hX, hn, x0, hb, hxr⟩ := box1 w (.func f fr fc) (68 : TypeId)
  have hbX := hb.out
  have CR := refused_ok (h.below hbX) hi hr hg (c.below hbX) hz
  have he := eql_func_no (P := Tryz.prog) (w := X) f fr fc Tryz.underlying68
  have STEP : Hid (∀ W2, Below X.heap.size X W2 → Calls Tryz.prog 76 #[.pointer (some ⟨z.C, 0, none⟩), .pointer none] W2 fun e W3 => e = .returned (.bool false) ∧ (W3.cell? ⟨z.C, 6, none⟩ = some (.pointer (some ⟨z.RL, 0, none⟩)) ∧ W3.cell? ⟨n, 0, none⟩ = some (.func f fr fc)) ∧ Hid (∀ V, Below W3.heap.size W3 V → Calls Tryz.prog 74 #[.pointer (some ⟨z.RL, 0, none⟩), .pointer (some ⟨t.b, 0, none⟩), .int .i64 0, .func f fr fc] V fun e w' => e = .returned (.int .i64 0) ∧ (w'.cell? ⟨z.C, 6, none⟩ = some (.pointer (some ⟨z.RL, 0, none⟩)) ∧ w'.cell? ⟨n, 0, none⟩ = some (.func f fr fc)) ∧ Hid (Pked w a s i t A z (m + 1) D 0 (.func f fr fc) (fun x => { σ with rcv := σ.rcv ++ [x] }) w'))) := hide (fun W2 hb2 => by
    have b2 : Below w.heap.size w W2 := hbX.trans (hb2.mono hbX.size)
    have hnl : n < X.heap.size := heap_lt hxr.out
    refine (canRecv_any (c.below b2) (kp := none) (.inl rfl)).mono ?_
    rintro e W3 ⟨rfl, D3, c3, x3⟩
    have hnD : ¬ D n := fun e => by have := c.lt e; have := hn.out; omega
    have hW2n : n < W2.heap.size := by have := hb2.size; omega
    have hx3 : W3.heap[n]? = some (.cells #[.func f fr fc] (68 : TypeId) (0, 0)) := (x3.tb.block n hW2n hnD).trans ((hb2.block n hnl).trans hxr.out)
    refine ⟨by rw [hc], ⟨c3.cs.2.2.2.2.2, cell_of_row _ _ 0 _ _ _ hx3⟩, hide (fun V hV => ?_)⟩
    have hz2 := b2.size
    have hz3 := x3.tb.size
    have hzV := hV.size
    have hlt : ∀ j, own a s j → j < w.heap.size := fun j hj => h.m.own_lt hj
    have hql := h.m.sd.lt
    have h3 : Rt W3 a s := (h.below b2).tb x3.tb (fun j hj e => hj.elim (hD j e).1 (fun e' => (hD j e).2 e'))
    have X3 : Lx w D V D3 := ((Lx.fresh D b2).trans x3).trans (Lx.fresh D3 hV)
    refine (rpark (h3.below hV) hi hr hg (c3.below hV) hm (fun j hj => ?_) (fun j hj => hA j (by omega)) 0 f fr fc).mono ?_
    · rcases x3.dom j hj with h1 | h1
      · exact hD j h1
      · refine ⟨fun ho => ?_, fun e => ?_⟩
        · have := hlt j ho; omega
        · subst e; omega
    · rintro e w' ⟨rfl, hp⟩
      have hq := hp
      obtain ⟨_, _, _, _, _, _, _, hc', _, tt, _, _⟩ := hq
      refine ⟨rfl, ⟨hc'.cs.2.2.2.2.2, cell_of_row _ _ 0 _ _ _ ((tt.block n (by have := heap_lt hx3; omega) (fun e => ?_)).trans ((hV.block n (heap_lt hx3)).trans hx3))⟩, hide (hp.back X3 hlt)⟩
      rcases e with e | e
      · have := hlt n e; have := hn.out; omega
      · exact (x3.dom n e).elim hnD (fun h => by omega))
  clear h hi hr hg c hz hc hb hbX hxr hD hA hm
  obtain ⟨tb, htb⟩ : ∃ tb, Hid (tb = t.b) := ⟨_, hide rfl⟩
  rw [← htb.out] at CR STEP ⊢
  go_enter Tryz.func27, Tryz.ntmps27
  go_wp2_with (rw [← hX.out, hn.out])
  refine CR.mono ?_
  rintro e W2 ⟨rfl, hb2⟩
  have CS := STEP.out W2 hb2
  have x2 := (hb2.cell (cell_lt x0)).trans x0
  clear STEP CR hb2 x0
  go_wp2_with fail
  refine CS.mono ?_
  rintro e W3 ⟨rfl, ⟨d6, dn⟩, CN⟩
  clear CS x2
  go_wp2_with fail
  go_region_held3 (fun V => V.cell? ⟨z.C, 6, none⟩ = some (.pointer (some ⟨z.RL, 0, none⟩)) ∧ V.cell? ⟨n, 0, none⟩ = some (.func f fr fc))
    (first | exact ⟨d6, dn⟩ | exact e1)
    (first | (go_at_call 74; refine (CN.out _ ?_).mono ?_; (first | exact (Below.refl _ _).drew | assumption); rintro e W7 ⟨rfl, e1, FIN⟩))
  all_goals
    go_wp2_with fail
    go_ret
    exact ⟨rfl, FIN.out⟩

set_option maxHeartbeats 2000000 in
theorem send_park (h : Rt w a s) (hi : s.ts[i]? = some t) (hr : s.run = some i) (hg : t.goes = false) (c : Ch w A z m σ D) (hz : z.rt = a.R) (hc : canS z σ none = false) (hm : m + 1 < Mx) (hD : ∀ j, D j → ¬ own a s j ∧ j ≠ a.Q) (hA : ∀ j, w.heap.size ≤ j → A j = true) (v : Int) (f : Fn) (fr fc : Array Value) :
    Calls Tryz.prog 26 #[.pointer (some ⟨t.b, 0, none⟩), .pointer (some ⟨z.C, 0, none⟩), .int .i64 v, .func f fr fc] w fun e w' => e = .returned (.int .i64 0) ∧ Pked w a s i t A z (m + 1) D v (.func (.func 75) #[] #[.pointer (some ⟨w.heap.size, 0, none⟩)]) (fun x => { σ with snd := σ.snd ++ [x] }) w' ∧ w'.heap[w.heap.size]? = some (.cells #[.func f fr fc] (67 : TypeId) (0, 0)) := by
  obtain ⟨X, n, hX, hn, x0, hb, hxr⟩ := box1 w (.func f fr fc) (67 : TypeId)
  have hbX := hb.out
  have CR := refused_ok (h.below hbX) hi hr hg (c.below hbX) hz
  have he := eql_func_no (P := Tryz.prog) (w := X) f fr fc Tryz.underlying67
  have STEP : Hid (∀ W2, Below X.heap.size X W2 → Calls Tryz.prog 70 #[.pointer (some ⟨z.C, 0, none⟩), .pointer none] W2 fun e W3 => e = .returned (.bool false) ∧ W3.cell? ⟨z.C, 5, none⟩ = some (.pointer (some ⟨z.SL, 0, none⟩)) ∧ Hid (Calls Tryz.prog 74 #[.pointer (some ⟨z.SL, 0, none⟩), .pointer (some ⟨t.b, 0, none⟩), .int .i64 v, .func (.func 75) #[] #[.pointer (some ⟨n, 0, none⟩)]] W3 fun e w' => e = .returned (.int .i64 0) ∧ Pked w a s i t A z (m + 1) D v (.func (.func 75) #[] #[.pointer (some ⟨w.heap.size, 0, none⟩)]) (fun x => { σ with snd := σ.snd ++ [x] }) w' ∧ w'.heap[w.heap.size]? = some (.cells #[.func f fr fc] (67 : TypeId) (0, 0)))) := hide (fun W2 hb2 => by
    have b2 : Below w.heap.size w W2 := hbX.trans (hb2.mono hbX.size)
    have hnl : n < X.heap.size := heap_lt hxr.out
    refine (canSend_any (c.below b2) (kp := none) (.inl rfl)).mono ?_
    rintro e W3 ⟨rfl, D3, c3, x3⟩
    have hnD : ¬ D n := fun e => by have := c.lt e; have := hn.out; omega
    have hW2n : n < W2.heap.size := by have := hb2.size; omega
    have hx3 : W3.heap[n]? = some (.cells #[.func f fr fc] (67 : TypeId) (0, 0)) := (x3.tb.block n hW2n hnD).trans ((hb2.block n hnl).trans hxr.out)
    refine ⟨by rw [hc], c3.cs.2.2.2.2.1, hide ?_⟩
    have hz2 := b2.size
    have hz3 := x3.tb.size
    have hlt : ∀ j, own a s j → j < w.heap.size := fun j hj => h.m.own_lt hj
    have hql := h.m.sd.lt
    have h3 : Rt W3 a s := (h.below b2).tb x3.tb (fun j hj e => hj.elim (hD j e).1 (fun e' => (hD j e).2 e'))
    have X3 : Lx w D W3 D3 := (Lx.fresh D b2).trans x3
    refine (spark h3 hi hr hg c3 hm (fun j hj => ?_) (fun j hj => hA j (by omega)) v (.func 75) #[] #[.pointer (some ⟨n, 0, none⟩)]).mono ?_
    · rcases x3.dom j hj with h1 | h1
      · exact hD j h1
      · refine ⟨fun ho => ?_, fun e => ?_⟩
        · have := hlt j ho; omega
        · subst e; omega
    · rintro e w' ⟨rfl, hp⟩
      have hq := hp
      obtain ⟨_, _, _, _, _, _, _, _, _, tt, _, _⟩ := hq
      rw [hn.out]
      refine ⟨rfl, hp.back X3 hlt, (tt.block n (heap_lt hx3) (fun e => ?_)).trans hx3⟩
      rcases e with e | e
      · have := hlt n e; have := hn.out; omega
      · exact (x3.dom n e).elim hnD (fun h => by omega))
  clear h hi hr hg c hz hc hb hbX hxr hD hA hm
  obtain ⟨tb, htb⟩ : ∃ tb, Hid (tb = t.b) := ⟨_, hide rfl⟩
  rw [← htb.out] at CR STEP ⊢
  go_enter Tryz.func26, Tryz.ntmps26
  go_wp2_with (rw [← hX.out, hn.out])
  refine CR.mono ?_
  rintro e W2 ⟨rfl, hb2⟩
  have CS := STEP.out W2 hb2
  have x2 := (hb2.cell (cell_lt x0)).trans x0
  clear STEP CR hb2 x0
  go_wp2_with fail
  refine CS.mono ?_
  rintro e W3 ⟨rfl, d5, CN⟩
  clear CS x2
  go_wp2_with fail
  refine CN.out.mono ?_
  rintro e w' ⟨rfl, FIN⟩
  have FIN := hide FIN
  go_wp2_with fail
  go_ret
  exact ⟨rfl, FIN.out⟩
end

end Go.Proofs.YtgjpbekmkhanhaaGreat.CH

/-
  What tasks at channels go on with, by what it does; a task that waits is served.
-/
namespace Go.Proofs.YtgjpbekmkhanhaaGreat.CH
open Go.RowKit QW
set_option maxRecDepth 100000

/-- Memory in which the blocks of F are as they were. -/
def Agr (F : Nat → Prop) (w V : World) : Prop := ∀ k, F k → V.heap[k]? = w.heap[k]?
theorem agr_cell {F : Nat → Prop} {w V : World} (h : Agr F w V) {k : Nat} (hk : F k) {x : Value} {t : TypeId} (hc : w.heap[k]? = some (.cells #[x] t (0, 0))) : V.cell? ⟨k, 0, none⟩ = some x :=
  cell_of_row V k 0 _ _ _ ((h k hk).trans hc)

/-- Functions of nothing, of a bool, of a number and a bool, by what they do. -/
def Go0 (F : Nat → Prop) (w : World) (v : Value) (Q : World → (World → Prop) → Prop) : Prop :=
  ∃ fn caps, v = .func (.func fn) #[] caps ∧ Ent fn ∧ ∀ (V : World) (Ψ : World → Prop), Agr F w V → Q V Ψ → Calls Tryz.prog fn caps V fun e w' => e = .returned (.tuple #[]) ∧ Ψ w'
def Go1 (F : Nat → Prop) (w : World) (v : Value) (P : Bool → World → (World → Prop) → Prop) : Prop :=
  ∃ fn caps, v = .func (.func fn) #[] caps ∧ Ent fn ∧ ∀ (V : World) (ok : Bool) (Ψ : World → Prop), Agr F w V → P ok V Ψ → Calls Tryz.prog fn (#[.bool ok] ++ caps) V fun e w' => e = .returned (.tuple #[]) ∧ Ψ w'
def Go2 (F : Nat → Prop) (w : World) (v : Value) (P : Int → Bool → World → (World → Prop) → Prop) : Prop :=
  ∃ fn caps, v = .func (.func fn) #[] caps ∧ Ent fn ∧ ∀ (V : World) (x : Int) (ok : Bool) (Ψ : World → Prop), Agr F w V → P x ok V Ψ → Calls Tryz.prog fn (#[.int .i64 x, .bool ok] ++ caps) V fun e w' => e = .returned (.tuple #[]) ∧ Ψ w'

section
variable {F F' : Nat → Prop} {w w' : World} {v f : Value} {Q : World → (World → Prop) → Prop} {P1 : Bool → World → (World → Prop) → Prop} {P2 : Int → Bool → World → (World → Prop) → Prop}
theorem Go0.keep (h : Go0 F w v Q) (hk : Agr F w w') (hs : ∀ k, F k → F' k) : Go0 F' w' v Q := by
  obtain ⟨fn, caps, h1, h2, h3⟩ := h
  exact ⟨fn, caps, h1, h2, fun V Ψ ha => h3 V Ψ (fun k hk' => (ha k (hs k hk')).trans (hk k hk'))⟩
theorem Go1.keep (h : Go1 F w v P1) (hk : Agr F w w') (hs : ∀ k, F k → F' k) : Go1 F' w' v P1 := by
  obtain ⟨fn, caps, h1, h2, h3⟩ := h
  exact ⟨fn, caps, h1, h2, fun V ok Ψ ha => h3 V ok Ψ (fun k hk' => (ha k (hs k hk')).trans (hk k hk'))⟩
theorem Go2.keep (h : Go2 F w v P2) (hk : Agr F w w') (hs : ∀ k, F k → F' k) : Go2 F' w' v P2 := by
  obtain ⟨fn, caps, h1, h2, h3⟩ := h
  exact ⟨fn, caps, h1, h2, fun V x ok Ψ ha => h3 V x ok Ψ (fun k hk' => (ha k (hs k hk')).trans (hk k hk'))⟩
theorem Go0.on (h : Go0 F w v Q) : on v = true := by
  obtain ⟨fn, caps, rfl, _⟩ := h
  rfl
theorem Go0.imp {Q' : World → (World → Prop) → Prop} (h : Go0 F w v Q) (hq : ∀ V Ψ, Q' V Ψ → Q V Ψ) : Go0 F w v Q' := by
  obtain ⟨fn, caps, h1, h2, h3⟩ := h
  exact ⟨fn, caps, h1, h2, fun V Ψ ha hq' => h3 V Ψ ha (hq V Ψ hq')⟩
end

theorem entA : Ent 73 := fun _ _ => by go_simp
theorem entB : Ent 75 := fun _ _ => by go_simp
theorem entC : Ent 78 := fun _ _ => by go_simp
theorem entD : Ent 158 := fun _ _ => by go_simp
theorem entE : Ent 128 := fun _ _ => by go_simp
theorem entF : Ent 130 := fun _ _ => by go_simp
theorem entG : Ent 132 := fun _ _ => by go_simp
theorem entH : Ent 133 := fun _ _ => by go_simp

section
variable {F : Nat → Prop} {w : World} {f : Value} {P1 : Bool → World → (World → Prop) → Prop} {P2 : Int → Bool → World → (World → Prop) → Prop} {n g g1 g2 th sv tb ub w1 w2 : Nat} {x : Int} {b : Bool}

theorem nx_send1 (h : Go1 F w f P1) (fn : F n) (fg : F g) (en : w.heap[n]? = some (.cells #[f] (67 : TypeId) (0, 0))) (eg : w.heap[g]? = some (.cells #[.bool b] 4 (0, 0))) : Go0 F w (.func (.func 73) #[] #[.pointer (some ⟨n, 0, none⟩), .pointer (some ⟨g, 0, none⟩)]) (P1 b) := by
  obtain ⟨fn', caps, rfl, hen, hf⟩ := h
  refine ⟨_, _, rfl, entA, fun V Ψ hV hP => ?_⟩
  have d1 := agr_cell hV fn en
  have d2 := agr_cell hV fg eg
  have HC := hide (hf V b Ψ hV hP)
  clear hf hP hV fn fg en eg
  unfold Ent at hen
  go_enter Tryz.func73, Tryz.ntmps73
  go_wp2_with fail
  refine HC.out.mono ?_
  rintro e w1 ⟨rfl, hΨ⟩
  go_wp2_with fail
  go_end0
  exact ⟨rfl, hΨ⟩

theorem nx_recv1 (h : Go2 F w f P2) (fn : F n) (f1 : F g1) (f2 : F g2) (en : w.heap[n]? = some (.cells #[f] (68 : TypeId) (0, 0))) (e1 : w.heap[g1]? = some (.cells #[.int .i64 x] 3 (0, 0))) (e2 : w.heap[g2]? = some (.cells #[.bool b] 4 (0, 0))) : Go0 F w (.func (.func 78) #[] #[.pointer (some ⟨n, 0, none⟩), .pointer (some ⟨g1, 0, none⟩), .pointer (some ⟨g2, 0, none⟩)]) (P2 x b) := by
  obtain ⟨fn', caps, rfl, hen, hf⟩ := h
  refine ⟨_, _, rfl, entC, fun V Ψ hV hP => ?_⟩
  have d1 := agr_cell hV fn en
  have d2 := agr_cell hV f1 e1
  have d3 := agr_cell hV f2 e2
  have HC := hide (hf V x b Ψ hV hP)
  clear hf hP hV fn f1 f2 en e1 e2
  unfold Ent at hen
  go_enter Tryz.func78, Tryz.ntmps78
  go_wp2_with fail
  refine HC.out.mono ?_
  rintro e w1 ⟨rfl, hΨ⟩
  go_wp2_with fail
  go_end0
  exact ⟨rfl, hΨ⟩

theorem go_send2 (h : Go1 F w f P1) (fn : F n) (en : w.heap[n]? = some (.cells #[f] (67 : TypeId) (0, 0))) : Go2 F w (.func (.func 75) #[] #[.pointer (some ⟨n, 0, none⟩)]) (fun _ ok => P1 ok) := by
  obtain ⟨fn', caps, rfl, hen, hf⟩ := h
  refine ⟨_, _, rfl, entB, fun V y ok Ψ hV hP => ?_⟩
  have d1 := agr_cell hV fn en
  have HC := hide (hf V ok Ψ hV hP)
  clear hf hP hV fn en
  unfold Ent at hen
  simp only [List.append_toArray, List.cons_append, List.nil_append]
  go_enter Tryz.func75, Tryz.ntmps75
  go_wp2_with fail
  refine HC.out.mono ?_
  rintro e w1 ⟨rfl, hΨ⟩
  go_wp2_with fail
  go_end0
  exact ⟨rfl, hΨ⟩

/-- What a task that was served goes on with. -/
theorem nx_served (h : Go2 F w f P2) (k1 : F w1) (k2 : F w2) (ks : F sv) (kt : F th) (kg : F g1) (kh : F g2) (e1 : w.heap[w1]? = some (.cells #[pkv sv tb ub] (128 : TypeId) (0, 0))) (e2 : w.heap[w2]? = some (.cells #[.int .i64 0] 3 (0, 0)))
    (es : w.heap[sv]? = some (.cells #[.func (.func 133) #[] #[.pointer (some ⟨th, 0, none⟩), .pointer (some ⟨g1, 0, none⟩), .pointer (some ⟨g2, 0, none⟩)]] (1 : TypeId) (0, 0))) (et : w.heap[th]? = some (.cells #[f] (68 : TypeId) (0, 0))) (eg : w.heap[g1]? = some (.cells #[.int .i64 x] 3 (0, 0))) (eh : w.heap[g2]? = some (.cells #[.bool b] 4 (0, 0))) :
    Go0 F w (.func (.func 158) #[] #[.pointer (some ⟨w1, 0, none⟩), .pointer (some ⟨w2, 0, none⟩)]) (P2 x b) := by
  obtain ⟨fn', caps, rfl, hen, hf⟩ := h
  refine ⟨_, _, rfl, entD, fun V Ψ hV hP => ?_⟩
  have d1 := agr_cell hV k1 e1
  have d2 := agr_cell hV k2 e2
  have ds := agr_cell hV ks es
  have dt := agr_cell hV kt et
  have dg := agr_cell hV kg eg
  have dh := agr_cell hV kh eh
  have HC := hide (hf V x b Ψ hV hP)
  have hb := entE
  have hc := entH
  have he := eql_func_no (P := Tryz.prog) (w := V) (.func 133) #[] #[.pointer (some ⟨th, 0, none⟩), .pointer (some ⟨g1, 0, none⟩), .pointer (some ⟨g2, 0, none⟩)] Tryz.underlying1
  clear hf hP hV k1 k2 ks kt kg kh e1 e2 es et eg eh
  unfold Ent at hen hb hc
  unfold pkv at d1
  have C3 : Calls Tryz.prog 133 #[.pointer (some ⟨th, 0, none⟩), .pointer (some ⟨g1, 0, none⟩), .pointer (some ⟨g2, 0, none⟩)] V fun e w' => e = .returned (.tuple #[]) ∧ Ψ w' := by
    clear d1 d2 ds he
    go_enter Tryz.func133, Tryz.ntmps133
    go_wp2_with fail
    refine HC.out.mono ?_
    rintro e w1 ⟨rfl, hΨ⟩
    go_wp2_with fail
    go_end0
    exact ⟨rfl, hΨ⟩
  have C1 : Calls Tryz.prog 128 #[.int .i64 0, .pointer (some ⟨sv, 0, none⟩), .pointer (some ⟨tb, 0, none⟩), .pointer (some ⟨ub, 0, none⟩)] V fun e w' => e = .returned (.tuple #[]) ∧ Ψ w' := by
    clear d1 d2 dt dg dh
    go_enter Tryz.func128, Tryz.ntmps128
    go_wp2_with fail
    refine C3.mono ?_
    rintro e w1 ⟨rfl, hΨ⟩
    go_wp2_with fail
    go_end0
    exact ⟨rfl, hΨ⟩
  clear C3 HC ds dt dg dh he hen hc
  go_enter Tryz.func158, Tryz.ntmps158
  go_wp2_with fail
  refine C1.mono ?_
  rintro e w1 ⟨rfl, hΨ⟩
  go_wp2_with fail
  go_end0
  exact ⟨rfl, hΨ⟩
end

end Go.Proofs.YtgjpbekmkhanhaaGreat.CH

/-
  A task that waits in a line is served.
-/
namespace Go.Proofs.YtgjpbekmkhanhaaGreat.CH
open Go.RowKit QW
set_option maxRecDepth 100000

/-- What wakes up a task that was served. -/
def wkf (w1 w2 : Nat) : Value := .func (.func 158) #[] #[.pointer (some ⟨w1, 0, none⟩), .pointer (some ⟨w2, 0, none⟩)]

/-- A task of a runtime has got ready by being served. -/
structure Served (w : World) (a : Ad) (s : Rs) (i b k sv tb ub th : Nat) (v : Int) (ok : Bool) (w' : World) : Prop where
  ex : ∃ a' w1 w2 g1 g2, Rt w' a' (s.gets i ⟨b, wkf w1 w2, .nilFunc⟩) ∧ a'.R = a.R ∧ a'.Q = a.Q ∧
    (∀ j, own a' (s.gets i ⟨b, wkf w1 w2, .nilFunc⟩) j → own a s j ∨ w.heap.size ≤ j) ∧ Tb (fun j => own a s j ∨ j = k ∨ j = sv) w w' ∧ Tkt w' k .nilFunc ∧
    w'.heap[w1]? = some (.cells #[pkv sv tb ub] (128 : TypeId) (0, 0)) ∧ w'.heap[w2]? = some (.cells #[.int .i64 0] 3 (0, 0)) ∧
    w'.heap[sv]? = some (.cells #[.func (.func 133) #[] #[.pointer (some ⟨th, 0, none⟩), .pointer (some ⟨g1, 0, none⟩), .pointer (some ⟨g2, 0, none⟩)]] (1 : TypeId) (0, 0)) ∧
    w'.heap[g1]? = some (.cells #[.int .i64 v] 3 (0, 0)) ∧ w'.heap[g2]? = some (.cells #[.bool ok] 4 (0, 0)) ∧
    ∀ j, j = w1 ∨ j = w2 ∨ j = g1 ∨ j = g2 → w.heap.size ≤ j ∧ ¬ own a' (s.gets i ⟨b, wkf w1 w2, .nilFunc⟩) j

set_option maxHeartbeats 4000000 in
theorem serve_parked {w : World} {a : Ad} {s : Rs} {i : Nat} {t : Tc} {k sv tb ub th : Nat} {f : Value} (h : Rt w a s) (hi : s.ts[i]? = some t) (ht : t.wk = pkv sv tb ub) (p : Pkd w k sv tb ub th t.b f) (hbl : ∀ j, Pkd.blocks k sv tb ub th j → ¬ own a s j ∧ j ≠ a.Q) (v0 v : Int) (ok : Bool) :
    Calls Tryz.prog 82 #[.agg #[.pointer (pkw k v0 th sv).tk, .int .i64 (pkw k v0 th sv).val, (pkw k v0 th sv).told], .int .i64 v, .bool ok] w fun e w' => e = .returned (.tuple #[]) ∧ Served w a s i t.b k sv tb ub th v ok w' := by
  refine serve_live (x := pkw k v0 th sv) rfl p.hk rfl entF entG (fun V tV hk => ?_)
  have zV := tV.size
  have nek : k ≠ sv ∧ k ≠ tb := ⟨ty_ne p.hk p.hs (by decide), ty_ne p.hk p.ht (by decide)⟩
  have nes : sv ≠ tb := ty_ne p.hs p.ht (by decide)
  have hV : Rt V a s := h.tb tV (fun j hj e => hj.elim (fun ho => (hbl k (.inl rfl)).1 (e ▸ ho)) (fun hq => (hbl k (.inl rfl)).2 (e ▸ hq)))
  have svV : V.heap[sv]? = some (.cells #[.nilFunc] (1 : TypeId) (0, 0)) := (tV.block _ (heap_lt p.hs) (fun e => nek.1 e.symm)).trans p.hs
  have tbV : V.heap[tb]? = some (.cells #[.pointer (some ⟨t.b, 0, none⟩)] (60 : TypeId) (0, 0)) := (tV.block _ (heap_lt p.ht) (fun e => nek.2 e.symm)).trans p.ht
  obtain ⟨X1, n1, hX1, hn1, x1, bb1, r1⟩ := box1 V (.int .i64 v) 3
  obtain ⟨X2, n2, hX2, hn2, x2, bb2, r2⟩ := box1 X1 (.bool ok) 4
  have hb1 := bb1.out
  have hb2 := bb2.out
  have b12 : Below V.heap.size V X2 := hb1.trans (hb2.mono hb1.size)
  have sv2 : X2.heap[sv]? = some (.cells #[.nilFunc] (1 : TypeId) (0, 0)) := (b12.block _ (heap_lt svV)).trans svV
  have f2 : X2.frozen? ⟨sv, 0, none⟩ = false := frozen_of_row _ _ 0 _ _ sv2
  have c2 : X2.cell? ⟨sv, 0, none⟩ = some .nilFunc := cell_of_row _ _ 0 _ _ _ sv2
  obtain ⟨Y, hY⟩ : ∃ Y, Hid (Y = X2.setCell ⟨sv, 0, none⟩ (.func (.func 133) #[] #[.pointer (some ⟨th, 0, none⟩), .pointer (some ⟨n1, 0, none⟩), .pointer (some ⟨n2, 0, none⟩)])) := ⟨_, hide rfl⟩
  have tY : Tb (fun j => j = sv) X2 Y := by rw [hY.out]; exact Tb.set _ _ _ rfl
  have n1V : n1 = V.heap.size := hn1.out.symm
  have n2X : n2 = X1.heap.size := hn2.out.symm
  have hz1 := hb1.size
  have hz2 := hb2.size
  have l1 := heap_lt r1.out
  have l2 := heap_lt r2.out
  have lsv := heap_lt svV
  have y1 : Y.heap[n1]? = some (.cells #[.int .i64 v] 3 (0, 0)) := (tY.block n1 (by omega) (by omega)).trans ((hb2.block n1 l1).trans r1.out)
  have y2 : Y.heap[n2]? = some (.cells #[.bool ok] 4 (0, 0)) := (tY.block n2 l2 (by omega)).trans r2.out
  have ys : Y.heap[sv]? = some (.cells #[.func (.func 133) #[] #[.pointer (some ⟨th, 0, none⟩), .pointer (some ⟨n1, 0, none⟩), .pointer (some ⟨n2, 0, none⟩)]] (1 : TypeId) (0, 0)) := by
    rw [hY.out, heap_setCell_same X2 sv 0 _ _ _ sv2]
    rfl
  have tVY : Tb (fun j => j = sv) V Y := (Tb.of_fresh (S := fun j => j = sv) b12).trans tY (fun _ _ h => h)
  have hYr : Rt Y a s := hV.tb tVY (fun j hj e => hj.elim (fun ho => (hbl sv (.inr (.inl rfl))).1 (e ▸ ho)) (fun hq => (hbl sv (.inr (.inl rfl))).2 (e ▸ hq)))
  have tbY : Y.cell? ⟨tb, 0, none⟩ = some (.pointer (some ⟨t.b, 0, none⟩)) := cell_of_row _ _ 0 _ _ _ ((tVY.block tb (heap_lt tbV) (fun e => nes e.symm)).trans tbV)
  have kY : Tkt Y k .nilFunc := hk.tb tVY nek.1
  have hole : ∀ j, own a s j → j < w.heap.size := fun j hj => h.m.own_lt hj
  have CW : Hid (Calls Tryz.prog 130 #[.pointer (some ⟨tb, 0, none⟩)] Y fun e w3 => e = .returned (.tuple #[]) ∧ Served w a s i t.b k sv tb ub th v ok w3) := hide (by
    have C := wake_yes hYr hi (f := .func 128) (xs := #[]) ht 0
    have C2 : Calls Tryz.prog 131 #[.pointer (some ⟨t.b, 0, none⟩), .int .i64 0] Y fun e w3 => e = .returned (.int .i64 0) ∧ Served w a s i t.b k sv tb ub th v ok w3 := C.mono (by
      rintro e w3 ⟨rfl, a', w1, w2, hp, k1, k2, e1, e2, o1, o2⟩
      have zY := tVY.size
      have hown : ∀ j, own a' (s.gets i ⟨t.b, wkf w1 w2, .nilFunc⟩) j → own a s j ∨ Y.heap.size ≤ j := fun j hj => hp.x.own hj
      have keep : ∀ j, j < Y.heap.size → ¬ own a s j → w3.heap[j]? = Y.heap[j]? := fun j hj ho => hp.x.tb.block j hj ho
      have no1 : ¬ own a s n1 := fun e => by have := hole n1 e; omega
      have no2 : ¬ own a s n2 := fun e => by have := hole n2 e; omega
      have lY := tY.size
      refine ⟨rfl, ⟨a', w1, w2, n1, n2, hp.rt, hp.x.R, hp.x.Q, fun j hj => (hown j hj).imp id (fun h => by omega), ?_, ?_, e1, e2, (keep sv (heap_lt ys) (hbl sv (.inr (.inl rfl))).1).trans ys, (keep n1 (heap_lt y1) no1).trans y1, (keep n2 (heap_lt y2) no2).trans y2, fun j hj => ?_⟩⟩
      · exact ((tV.mono (S := fun j => j = k) (fun _ _ h => .inr (.inl h))).trans tVY (fun _ _ h => .inr (.inr h))).trans hp.x.tb (fun _ _ h => .inl h)
      · exact kY.tb hp.x.tb (hbl k (.inl rfl)).1
      · rcases hj with rfl | rfl | rfl | rfl
        · exact ⟨by omega, o1⟩
        · exact ⟨by omega, o2⟩
        · exact ⟨by omega, fun e => (hown _ e).elim no1 (fun h => by have := heap_lt y1; omega)⟩
        · exact ⟨by omega, fun e => (hown _ e).elim no2 (fun h => by have := heap_lt y2; omega)⟩)
    clear C
    go_enter Tryz.func130, Tryz.ntmps130
    go_wp2_with fail
    refine C2.mono ?_
    rintro e w3 ⟨rfl, hS⟩
    have hS := hide hS
    go_wp2_with fail
    go_end0
    exact ⟨rfl, hS.out⟩)
  clear h hi ht p hbl tV hk zV nek nes hV svV tbV bb1 r1 bb2 r2 hb1 hb2 b12 sv2 tY n1V n2X hz1 hz2 l1 l2 lsv y1 y2 ys tVY hYr tbY kY hole
  simp only [List.append_toArray, List.cons_append, List.nil_append]
  go_enter Tryz.func132, Tryz.ntmps132
  go_wp2_with (first | (rw [← hX1.out, hn1.out]) | (rw [← hX2.out, hn2.out]) | (rw [← hY.out]))
  go_end0
  exact ⟨rfl, CW.out⟩

end Go.Proofs.YtgjpbekmkhanhaaGreat.CH

/-
  The law's world: what a task says in its turn.
-/
import Derived.Test.YtennciddjkijaaaCsc
namespace Go.Proofs.Ytennciddjkijaaa
open Go.RowKit QI
set_option maxRecDepth 100000
set_option linter.unusedSimpArgs false

section
variable {w w' : World} {L B : Nat} {pv : Value} {a a' : Ad} {s s' : Rs} {σ σ' : Sg} {F F' D : Nat → Prop} {tv ev : Value} {R : Nat} {bs : List Nat} {run : Option Nat} {left : Nat} {i b : Nat} {p : Pt}

theorem pt_set {l : List Pt} (hi : l[i]? = some p) (q : Pt) (k : Nat) : (l.set i q)[k]? = if k = i then some q else l[k]? := by
  have hl : i < l.length := (List.getElem?_eq_some_iff.1 hi).1
  rw [List.getElem?_set]
  by_cases e : i = k
  · subst e; simp [hl]
  · rw [if_neg e, if_neg (fun h => e h.symm)]

/-- The runtime was turned by one of its calls, and what it is now is the tale's next state. -/
theorem Wm.wd (m : Wm w L B pv a s σ F tv ev) (hd : ∀ k, D k ↔ dom B a s F tv ev k) (hx : Rp w a s w' a' s') (hb : s'.ts.map Tc.b = s.ts.map Tc.b) (hL : L ≤ w.heap.size) (hF : ∀ k, F k → F' k) (hF' : ∀ k, F' k → F k ∨ (w.heap.size ≤ k ∧ k < w'.heap.size ∧ ¬ own a' s' k)) (he : σ'.ev = σ.ev) (hln : s'.line = σ'.line) (hlen : s'.ts.length = σ'.tk.length)
    (hcl : (∀ k, F k → w'.heap[k]? = w.heap[k]?) → ∀ i t p, s'.ts[i]? = some t → σ'.tk[i]? = some p → Tst F' w' B s'.run i t p) :
    ∃ D', Wd w' L B pv a.R (s.ts.map Tc.b) σ' s'.run s'.left F' D' ∧ Wx w F D (s.ts.map Tc.b) w' F' D' (s.ts.map Tc.b) := by
  obtain ⟨m', h1, h2, h3⟩ := m.rp hx hb hL hF hF' he hln hlen hcl
  exact ⟨_, ⟨a', s', tv, ev, m', hx.x.R, hb, rfl, rfl, fun k => Iff.rfl⟩, h2.mono (fun k _ hk => (hd k).2 hk), fun k hk => (h1 k hk).elim (fun h' => .inl ((hd k).2 h')) .inr, hF, h3, ⟨[], by simp⟩, fun k hk => (m.fz k hk).2.1⟩

theorem Wm.task (_m : Wm w L B pv a s σ F tv ev) (hb : (s.ts.map Tc.b)[i]? = some b) : ∃ t, s.ts[i]? = some t ∧ t.b = b := by
  rw [List.getElem?_map] at hb
  exact Option.map_eq_some_iff.1 hb

theorem wyield (h : Wd w L B pv R bs σ (some i) left F D) (hL : L ≤ w.heap.size) (hb : bs[i]? = some b) {prog at' h1 h2 h3 h4 : Nat} (hp : σ.tk[i]? = some ⟨prog, at' + 1, 2, 0⟩) (x : Bx F w h1 h2 h3 h4 B b prog at') (ha : at' ≤ 1000000) :
    Calls Try.prog 30 #[.pointer (some ⟨b, 0, none⟩), nxv h1 h2 h3 h4] w fun e w' => e = .returned (.int .i64 0) ∧ ∃ D', Wd w' L B pv R bs (σ.gets i ⟨prog, at' + 1, 2, 0⟩) (some i) left F D' ∧ Wx w F D bs w' F D' bs := by
  obtain ⟨a, s, tv, ev, m, q1, q2, q3, q4, hd⟩ := h.ex
  subst q2
  obtain ⟨t, hi, rfl⟩ := m.task hb
  have ht := m.cl i t _ hi hp
  obtain ⟨_, n1, n2⟩ := ht.r2 rfl
  refine (yield_yes m.rt hi q3 (by simp [Tc.goes, n1, n2, on]) _ _ _).mono ?_
  rintro e w' ⟨rfl, a', x'⟩
  refine ⟨rfl, ?_⟩
  have := m.wd (σ' := σ.gets i ⟨prog, at' + 1, 2, 0⟩) (F' := F) hd x' (map_set hi rfl) hL (fun _ h => h) (fun _ h => .inl h) rfl (by simp [Rs.gets, Sg.gets, m.ln]) (by simp [Rs.gets, Sg.gets, m.len]) (fun hag j u q hj hq => ?_)
  · obtain ⟨D', y1, y2⟩ := this
    have y3 : Wd w' L B pv a.R _ _ s.run s.left F D' := y1
    rw [q1, q3, q4] at y3
    exact ⟨D', y3, y2⟩
  · simp only [Rs.gets, get_set hi] at hj
    simp only [Sg.gets, pt_set hp] at hq
    by_cases e : j = i
    · subst e
      simp only [if_pos, Option.some.injEq] at hj hq
      subst hj hq
      refine ⟨by simp, fun _ => ⟨(nx65 x ha).keep hag (fun _ h => h), n2⟩, fun h => ?_, fun h => ?_, fun h => ?_⟩ <;> simp at h
    · rw [if_neg e] at hj hq
      exact (m.cl j u q hj hq).keep hag (fun _ h => h)

theorem wbusy (h : Wd w L B pv R bs σ (some i) left F D) (hb : bs[i]? = some b) (hp : σ.tk[i]? = some p) (hs : p.st = 1) (f : Fn) (xs ys : Array Value) :
    Calls Try.prog 30 #[.pointer (some ⟨b, 0, none⟩), .func f xs ys] w fun e w' => e = .returned (.int .i64 151) ∧ w' = w := by
  obtain ⟨a, s, tv, ev, m, q1, q2, q3, q4, hd⟩ := h.ex
  subst q2
  obtain ⟨t, hi, rfl⟩ := m.task hb
  have ht := (m.cl i t _ hi hp).r1 hs
  have := yield_no m.rt hi (.inr (by simp [Tc.goes, ht.1.on])) f xs ys
  rw [if_pos q3] at this
  exact this

theorem wpark (h : Wd w L B pv R bs σ (some i) left F D) (hL : L ≤ w.heap.size) (hb : bs[i]? = some b) {prog at' h1 h2 h3 h4 : Nat} (hp : σ.tk[i]? = some ⟨prog, at' + 1, 2, 0⟩) (x : Bx F w h1 h2 h3 h4 B b prog at') (ha : at' ≤ 1000000) :
    Calls Try.prog 27 #[.pointer (some ⟨b, 0, none⟩), wkv h1 h2 h3 h4] w fun e w' => e = .returned (.int .i64 0) ∧ ∃ D', Wd w' L B pv R bs (σ.put i ⟨prog, at' + 1, 3, 0⟩) (some i) left F D' ∧ Wx w F D bs w' F D' bs := by
  obtain ⟨a, s, tv, ev, m, q1, q2, q3, q4, hd⟩ := h.ex
  subst q2
  obtain ⟨t, hi, rfl⟩ := m.task hb
  have ht := m.cl i t _ hi hp
  obtain ⟨_, n1, n2⟩ := ht.r2 rfl
  refine (park_yes m.rt hi q3 (by simp [Tc.goes, n1, n2, on]) _ _ _).mono ?_
  rintro e w' ⟨rfl, x'⟩
  refine ⟨rfl, ?_⟩
  have := m.wd (σ' := σ.put i ⟨prog, at' + 1, 3, 0⟩) (F' := F) hd x' (map_set hi rfl) hL (fun _ h => h) (fun _ h => .inl h) rfl (by simp [Rs.put, Sg.put, m.ln]) (by simp [Rs.put, Sg.put, m.len]) (fun hag j u q hj hq => ?_)
  · obtain ⟨D', y1, y2⟩ := this
    have y3 : Wd w' L B pv a.R _ _ s.run s.left F D' := y1
    rw [q1, q3, q4] at y3
    exact ⟨D', y3, y2⟩
  · simp only [Rs.put, get_set hi] at hj
    simp only [Sg.put, pt_set hp] at hq
    by_cases e : j = i
    · subst e
      simp only [if_pos, Option.some.injEq] at hj hq
      subst hj hq
      refine ⟨by simp, fun h => ?_, fun _ => ⟨n1, (wk66 x ha).keep hag (fun _ h => h)⟩, fun h => ?_, fun h => ?_⟩ <;> simp at h
    · rw [if_neg e] at hj hq
      exact (m.cl j u q hj hq).keep hag (fun _ h => h)

/-- The tasks' slice lies as it lay. -/
def Kt (w w' : World) (B : Nat) : Prop := w'.heap[B]? = w.heap[B]? ∧ ∀ ta n cap, w.cell? ⟨B, 2, none⟩ = some (.slice ta n cap) → ∀ g off, ta = some ⟨g, off, none⟩ → 0 < n → w'.heap[g]? = w.heap[g]?
theorem Wm.kt (m : Wm w L B pv a s σ F tv ev) (x : Rp w a s w' a' s') : Kt w w' B := by
  refine ⟨x.x.tb.block _ (heap_lt m.blk) m.Bn.1, fun ta n cap hc g off hta hn => ?_⟩
  rw [cell_of_row w B 2 _ _ _ m.blk] at hc
  simp only [List.getElem?_toArray, List.getElem?_cons_succ, List.getElem?_cons_zero, Option.some.injEq] at hc
  subst hc
  subst hta
  have hg : (Value.slice (some ⟨g, off, none⟩) n cap).ownBlock = some g := rfl
  exact x.x.tb.block _ (m.tr.lt g hg).2 (m.tvn hg).1

theorem wwake_no (h : Wd w L B pv R bs σ run left F D) (hL : L ≤ w.heap.size) {k : Nat} (hb : bs[k]? = some b) (hp : σ.tk[k]? = some p) (hs : p.st ≠ 3) (why : Int) :
    Calls Try.prog 32 #[.pointer (some ⟨b, 0, none⟩), .int .i64 why] w fun e w' => e = .returned (.int .i64 152) ∧ Kt w w' B ∧ ∃ D', Wd w' L B pv R bs σ run left F D' ∧ Wx w F D bs w' F D' bs := by
  obtain ⟨a, s, tv, ev, m, q1, q2, q3, q4, hd⟩ := h.ex
  subst q2
  obtain ⟨t, hi, rfl⟩ := m.task hb
  have ht := m.cl k t _ hi hp
  have hw : on t.wk = false := by
    have hle := ht.le
    have : p.st = 0 ∨ p.st = 1 ∨ p.st = 2 := by omega
    rcases this with e | e | e
    · rw [(ht.r0 e).2.2]; rfl
    · rw [(ht.r1 e).2]; rfl
    · rw [(ht.r2 e).2.2]; rfl
  refine (wake_no m.rt hi hw why).mono ?_
  rintro e w' ⟨rfl, x'⟩
  refine ⟨rfl, m.kt x', ?_⟩
  have := m.wd (σ' := σ) (F' := F) hd x' rfl hL (fun _ h => h) (fun _ h => .inl h) rfl m.ln m.len (fun hag j u q hj hq => (m.cl j u q hj hq).keep hag (fun _ h => h))
  rw [q1, q3, q4] at this
  exact this

theorem wwake_yes (h : Wd w L B pv R bs σ run left F D) (hL : L ≤ w.heap.size) {k : Nat} (hb : bs[k]? = some b) (hp : σ.tk[k]? = some p) (hs : p.st = 3) (why : Int) :
    Calls Try.prog 32 #[.pointer (some ⟨b, 0, none⟩), .int .i64 why] w fun e w' => e = .returned (.int .i64 0) ∧ Kt w w' B ∧ ∃ F' D', Wd w' L B pv R bs (σ.gets k { p with why := why }) run left F' D' ∧ Wx w F D bs w' F' D' bs := by
  obtain ⟨a, s, tv, ev, m, q1, q2, q3, q4, hd⟩ := h.ex
  subst q2
  obtain ⟨t, hi, rfl⟩ := m.task hb
  have ht := m.cl k t _ hi hp
  obtain ⟨n1, hwk⟩ := ht.r3 hs
  obtain ⟨fn, c1, c2, c3, c4, hv, hen, hf⟩ := id hwk
  refine (wake_yes m.rt hi hv why).mono ?_
  rintro e w' ⟨rfl, a', g1, g2, x', y1, y2, y3, y4, y5, y6⟩
  refine ⟨rfl, m.kt x', ?_⟩
  have hz := x'.x.tb.size
  have l1 := heap_lt y3
  have l2 := heap_lt y4
  refine ⟨fun k => F k ∨ k = g1 ∨ k = g2, ?_⟩
  have := m.wd (σ' := σ.gets k { p with why := why }) (F' := fun k => F k ∨ k = g1 ∨ k = g2) hd x' (map_set hi rfl) hL (fun _ h => .inl h) (fun j hj => ?_) rfl (by simp [Rs.gets, Sg.gets, m.ln]) (by simp [Rs.gets, Sg.gets, m.len]) (fun hag j u q hj hq => ?_)
  · rw [q1, show (s.gets k ⟨t.b, .func (.func 60) #[] #[.pointer (some ⟨g1, 0, none⟩), .pointer (some ⟨g2, 0, none⟩)], .nilFunc⟩).run = run from q3, show (s.gets k ⟨t.b, .func (.func 60) #[] #[.pointer (some ⟨g1, 0, none⟩), .pointer (some ⟨g2, 0, none⟩)], .nilFunc⟩).left = left from q4] at this
    exact this
  · rcases hj with hj | rfl | rfl
    · exact .inl hj
    · exact .inr ⟨y1, l1, y5⟩
    · exact .inr ⟨y2, l2, y6⟩
  · simp only [Rs.gets, get_set hi] at hj
    simp only [Sg.gets, pt_set hp] at hq
    by_cases e : j = k
    · subst e
      simp only [if_pos, Option.some.injEq] at hj hq
      subst hj hq
      refine ⟨by simp, fun _ => ⟨nx60 (v := t.wk) (hwk.keep hag (fun _ h => .inl h)) (.inr (.inl rfl)) (.inr (.inr rfl)) (by rw [hv]; exact y3) y4, rfl⟩, fun h => ?_, fun h => ?_, fun h => ?_⟩ <;> simp at h
    · rw [if_neg e] at hj hq
      exact (m.cl j u q hj hq).keep hag (fun _ h => .inl h)

theorem wchoice_yes (h : Wd w L B pv R bs σ (some i) left F D) (hL : L ≤ w.heap.size) (n : Nat) (hn0 : 0 < n) (hn : n ≤ 9223372036854775807) :
    Calls Try.prog 37 #[.pointer (some ⟨R, 0, none⟩), .int .i64 (n : Int)] w fun e w' => e = .returned (.int .i64 (left % n : Nat)) ∧ ∃ D', Wd w' L B pv R bs σ (some i) (left / n) F D' ∧ Wx w F D bs w' F D' bs := by
  obtain ⟨a, s, tv, ev, m, q1, q2, q3, q4, hd⟩ := h.ex
  subst q2 q1
  have C := choice_yes m.rt q3 n hn0 hn
  rw [q4] at C
  refine C.mono ?_
  rintro e w' ⟨rfl, x'⟩
  refine ⟨rfl, ?_⟩
  have := m.wd (σ' := σ) (F' := F) hd x' rfl hL (fun _ h => h) (fun _ h => .inl h) rfl m.ln m.len (fun hag j u q hj hq => (m.cl j u q hj hq).keep hag (fun _ h => h))
  rw [show (s.take n).run = some i from q3, show (s.take n).left = left / n by simp [Rs.take, q4]] at this
  exact this

theorem wchoice_no (h : Wd w L B pv R bs σ (some i) left F D) (n : Int) (hn : n ≤ 0) :
    Calls Try.prog 37 #[.pointer (some ⟨R, 0, none⟩), .int .i64 n] w fun e w' => e = .returned (.int .i64 0) ∧ w' = w := by
  obtain ⟨a, s, tv, ev, m, q1, q2, q3, q4, hd⟩ := h.ex
  subst q1
  exact choice_no (running_any m.rt) n (.inr hn)

theorem wid (h : Wd w L B pv R bs σ run left F D) (hb : bs[i]? = some b) : Calls Try.prog 15 #[.pointer (some ⟨b, 0, none⟩)] w fun e w' => e = .returned (.int .i64 i) ∧ w' = w := by
  obtain ⟨a, s, tv, ev, m, q1, q2, q3, q4, hd⟩ := h.ex
  subst q2
  obtain ⟨t, hi, rfl⟩ := m.task hb
  exact id_any m.rt hi

/-- As many tasks are not over as the map has. -/
theorem Wm.opn (m : Wm w L B pv a s σ F tv ev) : s.lives.length = σ.opn := by
  have hl : ∀ k, k < s.ts.length → s.live k = ((σ.tk[k]?.map fun p => p.st != 0).getD false) := fun k hk => by
    have hi : s.ts[k]? = some s.ts[k] := List.getElem?_eq_getElem hk
    have hk2 : k < σ.tk.length := by rw [← m.len]; exact hk
    have hp : σ.tk[k]? = some σ.tk[k] := List.getElem?_eq_getElem hk2
    have ht := m.cl k _ _ hi hp
    rw [live_goes hi, hp]
    have hle := ht.le
    have : σ.tk[k].st = 0 ∨ σ.tk[k].st = 1 ∨ σ.tk[k].st = 2 ∨ σ.tk[k].st = 3 := by omega
    rcases this with e | e | e | e
    · simp [Tc.goes, ht.r0 e, e, on]
    · simp [Tc.goes, (ht.r1 e).1.on, e]
    · simp [(ht.r2 e).1, e]
    · simp [Tc.goes, (ht.r3 e).2.on, e]
  unfold Rs.lives Sg.opn
  rw [List.length_map, ← List.countP_eq_length_filter]
  have e1 : (List.range s.ts.length).countP s.live = (List.range σ.tk.length).countP (fun k => (σ.tk[k]?.map fun p => p.st != 0).getD false) := by
    rw [← m.len]
    exact List.countP_congr (fun k hk => by rw [hl k (List.mem_range.1 hk)])
  rw [e1]
  generalize σ.tk = l
  induction l with
  | nil => rfl
  | cons x l ih =>
    rw [List.length_cons, List.range_succ_eq_map, List.countP_cons, List.countP_map, List.countP_cons, ← ih]
    simp [Function.comp_def]
end

end Go.Proofs.Ytennciddjkijaaa

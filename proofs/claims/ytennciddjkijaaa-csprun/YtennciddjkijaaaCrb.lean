/-
  Runtimes as lists: what may be, and what each call makes of them.
-/
import Derived.Test.YtennciddjkijaaaCra
namespace Go.Proofs.Ytennciddjkijaaa
open Go.RowKit QI
set_option maxRecDepth 100000

section
variable {s : Rs}
theorem mem_lives {x : Int} : x ∈ s.lives ↔ ∃ i : Nat, x = (i : Int) ∧ i < s.ts.length ∧ s.live i = true := by
  simp only [Rs.lives, List.mem_map, List.mem_filter, List.mem_range]
  constructor
  · rintro ⟨i, ⟨h1, h2⟩, rfl⟩
    exact ⟨i, rfl, h1, h2⟩
  · rintro ⟨i, rfl, h1, h2⟩
    exact ⟨i, ⟨h1, h2⟩, rfl⟩
theorem lives_nodup : s.lives.Nodup := by
  unfold Rs.lives
  refine List.pairwise_map.2 ?_
  refine List.Pairwise.imp ?_ ((List.nodup_range (n := s.ts.length)).filter s.live)
  intro a b h e
  exact h (Int.ofNat.inj e)
theorem lives_congr {s' : Rs} (hl : s'.ts.length = s.ts.length) (hv : ∀ i, s'.live i = s.live i) : s'.lives = s.lives := by
  unfold Rs.lives
  rw [hl, show s'.live = s.live from funext hv]
theorem live_goes {i : Nat} {t : Tc} (h : s.ts[i]? = some t) : s.live i = (decide (s.run = some i) || t.goes) := by simp [Rs.live, h]
end

/-- A runtime as it may be. -/
structure Rok (s : Rs) : Prop where
  fv : ∀ t ∈ s.ts, Fv t.nx ∧ Fv t.wk
  nd : s.line.Nodup
  mem : ∀ x, x ∈ s.line ↔ ∃ (i : Nat) (t : Tc), x = (i : Int) ∧ s.ts[i]? = some t ∧ on t.nx = true
  one : ∀ t ∈ s.ts, on t.nx = true → on t.wk = false
  runs : ∀ i, s.run = some i → i < s.ts.length
  room : s.lives.length ≤ 256
  many : s.ts.length ≤ 4611686018427387904
  lft : s.left ≤ 18446744073709551615

def Rs.put (s : Rs) (i : Nat) (u : Tc) : Rs := { s with ts := s.ts.set i u }
/-- A new task. -/
def Rs.spawn (s : Rs) (b : Nat) (v : Value) : Rs := { s with ts := s.ts ++ [⟨b, v, .nilFunc⟩], line := s.line ++ [(s.ts.length : Int)] }
/-- A task gets ready. -/
def Rs.gets (s : Rs) (i : Nat) (u : Tc) : Rs := { s with ts := s.ts.set i u, line := s.line ++ [(i : Int)] }
/-- A turn begins: the task at place j of the line. -/
def Rs.begin (s : Rs) (i j : Nat) (u : Tc) (left : Nat) : Rs := { ts := s.ts.set i u, line := s.line.eraseIdx j, run := some i, left := left }
def Rs.done (s : Rs) : Rs := { s with run := none }
def Rs.take (s : Rs) (n : Nat) : Rs := { s with left := s.left / n }

section
variable {s : Rs} {i j : Nat} {t u : Tc} {b left : Nat} {v : Value}
theorem get_set (hi : s.ts[i]? = some t) (u : Tc) (k : Nat) : (s.ts.set i u)[k]? = if k = i then some u else s.ts[k]? := by
  have hl : i < s.ts.length := (List.getElem?_eq_some_iff.1 hi).1
  rw [List.getElem?_set]
  by_cases e : i = k
  · subst e
    simp [hl]
  · rw [if_neg e, if_neg (fun h => e h.symm)]
theorem mem_set (_hi : s.ts[i]? = some t) {u x : Tc} (h : x ∈ s.ts.set i u) : x = u ∨ x ∈ s.ts := (List.mem_or_eq_of_mem_set h).symm
theorem Rok.id (h : Rok s) (hi : s.ts[i]? = some t) : I6 (i : Int) := by
  have := h.many
  have hl : i < s.ts.length := (List.getElem?_eq_some_iff.1 hi).1
  unfold I6
  omega
theorem Rok.notin (h : Rok s) (hi : s.ts[i]? = some t) (hn : on t.nx = false) : (i : Int) ∉ s.line := by
  intro hm
  obtain ⟨k, x, e1, e2, e3⟩ := (h.mem _).1 hm
  obtain rfl : i = k := by omega
  rw [hi] at e2
  cases e2
  rw [hn] at e3
  cases e3
theorem Rok.sub (h : Rok s) : s.line ⊆ s.lives := by
  intro x hx
  obtain ⟨k, y, rfl, e2, e3⟩ := (h.mem _).1 hx
  refine mem_lives.2 ⟨k, rfl, (List.getElem?_eq_some_iff.1 e2).1, ?_⟩
  rw [live_goes e2]
  simp [Tc.goes, e3]
theorem Rok.few (h : Rok s) : s.line.length ≤ 256 := Nat.le_trans (h.nd.length_le_of_subset h.sub) h.room
theorem Rok.less (h : Rok s) (hi : s.ts[i]? = some t) (hn : on t.nx = false) (hv : s.live i = true) : s.line.length < 256 := by
  have hl : i < s.ts.length := (List.getElem?_eq_some_iff.1 hi).1
  have h1 : ((i : Int) :: s.line).Nodup := List.nodup_cons.2 ⟨h.notin hi hn, h.nd⟩
  have h2 : ((i : Int) :: s.line) ⊆ s.lives := by
    intro x hx
    rcases List.mem_cons.1 hx with rfl | hx
    · exact mem_lives.2 ⟨i, rfl, hl, hv⟩
    · exact h.sub hx
  have h3 := h1.length_le_of_subset h2
  have := h.room
  simp only [List.length_cons] at h3
  omega
theorem Rok.less' (h : Rok s) (hr : s.lives.length < 256) : s.line.length < 256 := Nat.lt_of_le_of_lt (h.nd.length_le_of_subset h.sub) hr
theorem lives_put (hi : s.ts[i]? = some t) (hg : s.run = some i ∨ u.goes = t.goes) : (s.put i u).lives = s.lives := by
  refine lives_congr (by simp [Rs.put]) (fun k => ?_)
  simp only [Rs.live, Rs.put, get_set hi]
  by_cases e : k = i
  · subst e
    rcases hg with hg | hg
    · simp [hg]
    · simp [hg, hi]
      rfl
  · simp [e]
    rfl
theorem lives_gets (hi : s.ts[i]? = some t) (hg : s.run = some i ∨ u.goes = t.goes) : (s.gets i u).lives = s.lives := by
  rw [← lives_put hi hg]
  rfl
/-- How a task waits is turned, not whether its next turn is there. -/
theorem Rok.put (h : Rok s) (hi : s.ts[i]? = some t) (hf : Fv u.wk) (hx : u.nx = t.nx) (ho : on u.nx = true → on u.wk = false) (hg : s.run = some i ∨ u.goes = t.goes) : Rok (s.put i u) := by
  refine ⟨fun x hx' => ?_, h.nd, fun x => ?_, fun x hx' => ?_, fun k hk => by simpa [Rs.put] using h.runs k hk, by rw [lives_put hi hg]; exact h.room, by simpa [Rs.put] using h.many, h.lft⟩
  · rcases mem_set hi hx' with rfl | hm
    · exact ⟨by rw [hx]; exact (h.fv t (List.mem_of_getElem? hi)).1, hf⟩
    · exact h.fv x hm
  · rw [show (s.put i u).line = s.line from rfl, h.mem x]
    constructor
    · rintro ⟨k, y, e1, e2, e3⟩
      by_cases e : k = i
      · subst e
        rw [hi] at e2
        cases e2
        exact ⟨k, u, e1, by simp [Rs.put, get_set hi], by rw [hx]; exact e3⟩
      · exact ⟨k, y, e1, by simp [Rs.put, get_set hi, e, e2], e3⟩
    · rintro ⟨k, y, e1, e2, e3⟩
      simp only [Rs.put, get_set hi] at e2
      by_cases e : k = i
      · subst e
        simp only [if_pos, Option.some.injEq] at e2
        subst e2
        exact ⟨k, t, e1, hi, by rw [← hx]; exact e3⟩
      · rw [if_neg e] at e2
        exact ⟨k, y, e1, e2, e3⟩
  · rcases mem_set hi hx' with rfl | hm
    · exact ho
    · exact h.one x hm
theorem Rok.gets (h : Rok s) (hi : s.ts[i]? = some t) (hn : on t.nx = false) (hf : Fv u.nx) (ho : on u.nx = true) (hw : u.wk = .nilFunc) (hg : s.run = some i ∨ u.goes = t.goes) : Rok (s.gets i u) := by
  refine ⟨fun x hx' => ?_, ?_, fun x => ?_, fun x hx' => ?_, fun k hk => by simpa [Rs.gets] using h.runs k hk, by rw [lives_gets hi hg]; exact h.room, by simpa [Rs.gets] using h.many, h.lft⟩
  · rcases mem_set hi hx' with rfl | hm
    · exact ⟨hf, by rw [hw]; exact Fv.nil⟩
    · exact h.fv x hm
  · refine List.nodup_append.2 ⟨h.nd, by simp, fun x hx y hy => ?_⟩
    simp only [List.mem_singleton] at hy
    subst hy
    rintro rfl
    exact h.notin hi hn hx
  · simp only [Rs.gets, List.mem_append, List.mem_singleton, h.mem x, get_set hi]
    constructor
    · rintro (⟨k, y, e1, e2, e3⟩ | rfl)
      · have e : k ≠ i := by
          rintro rfl
          rw [hi] at e2
          cases e2
          rw [hn] at e3
          cases e3
        exact ⟨k, y, e1, by rw [if_neg e]; exact e2, e3⟩
      · exact ⟨i, u, rfl, by simp, ho⟩
    · rintro ⟨k, y, e1, e2, e3⟩
      by_cases e : k = i
      · subst e
        exact .inr e1
      · rw [if_neg e] at e2
        exact .inl ⟨k, y, e1, e2, e3⟩
  · rcases mem_set hi hx' with rfl | hm
    · intro _
      rw [hw]
      rfl
    · exact h.one x hm
theorem lives_spawn (_h : Rok s) (hv : on v = true) : (s.spawn b v).lives = s.lives ++ [(s.ts.length : Int)] := by
  have hlive : ∀ k, k < s.ts.length → (s.spawn b v).live k = s.live k := fun k hk => by
    simp [Rs.live, Rs.spawn, List.getElem?_append_left hk]
    rfl
  unfold Rs.lives
  rw [show (s.spawn b v).ts.length = s.ts.length + 1 by simp [Rs.spawn], List.range_succ, List.filter_append, List.map_append]
  congr 1
  · congr 1
    refine List.filter_congr (fun k hk => hlive k (List.mem_range.1 hk))
  · have : (s.spawn b v).live s.ts.length = true := by
      simp [Rs.live, Rs.spawn, Tc.goes, hv]
    simp [this]
theorem Rok.spawn (h : Rok s) (hf : Fv v) (hv : on v = true) (hr : s.lives.length < 256) (hm : s.ts.length < 4611686018427387904) : Rok (s.spawn b v) := by
  refine ⟨fun x hx => ?_, ?_, fun x => ?_, fun x hx => ?_, fun k hk => by have := h.runs k hk; simp [Rs.spawn]; omega, by rw [lives_spawn h hv]; simp; omega, by simp [Rs.spawn]; omega, h.lft⟩
  · rcases List.mem_append.1 hx with hx | hx
    · exact h.fv x hx
    · simp only [List.mem_singleton] at hx
      subst hx
      exact ⟨hf, Fv.nil⟩
  · refine List.nodup_append.2 ⟨h.nd, by simp, fun x hx y hy => ?_⟩
    simp only [List.mem_singleton] at hy
    subst hy
    rintro rfl
    obtain ⟨k, y, e1, e2, _⟩ := (h.mem _).1 hx
    have := (List.getElem?_eq_some_iff.1 e2).1
    omega
  · simp only [Rs.spawn, List.mem_append, List.mem_singleton, h.mem x]
    constructor
    · rintro (⟨k, y, e1, e2, e3⟩ | rfl)
      · exact ⟨k, y, e1, by rw [List.getElem?_append_left (List.getElem?_eq_some_iff.1 e2).1]; exact e2, e3⟩
      · exact ⟨s.ts.length, ⟨b, v, .nilFunc⟩, rfl, by simp, hv⟩
    · rintro ⟨k, y, e1, e2, e3⟩
      by_cases hk : k < s.ts.length
      · rw [List.getElem?_append_left hk] at e2
        exact .inl ⟨k, y, e1, e2, e3⟩
      · have := (List.getElem?_eq_some_iff.1 e2).1
        simp only [List.length_append, List.length_cons, List.length_nil] at this
        obtain rfl : k = s.ts.length := by omega
        exact .inr e1
  · rcases List.mem_append.1 hx with hx | hx
    · exact h.one x hx
    · simp only [List.mem_singleton] at hx
      subst hx
      exact fun _ => rfl
theorem lives_begin (hi : s.ts[i]? = some t) (hg : t.goes = true) (hr : s.run = none) : (s.begin i j u left).lives = s.lives := by
  refine lives_congr (by simp [Rs.begin]) (fun k => ?_)
  simp only [Rs.live, Rs.begin, get_set hi, hr]
  by_cases e : k = i
  · subst e
    simp [hi, hg]
  · simp [e, show ¬ i = k from fun h => e h.symm]
theorem Rok.begin (h : Rok s) (hj : s.line[j]? = some (i : Int)) (hi : s.ts[i]? = some t) (hu : u.nx = .nilFunc) (hw : u.wk = t.wk) (hr : s.run = none) (hl : left ≤ 18446744073709551615) : Rok (s.begin i j u left) := by
  have hjl : j < s.line.length := (List.getElem?_eq_some_iff.1 hj).1
  have hjx : s.line[j] = (i : Int) := (List.getElem?_eq_some_iff.1 hj).2
  have hg : on t.nx = true := by
    obtain ⟨k, y, e1, e2, e3⟩ := (h.mem _).1 (List.mem_of_getElem? hj)
    obtain rfl : i = k := by omega
    rw [hi] at e2
    cases e2
    exact e3
  have hmem : ∀ x, x ∈ s.line.eraseIdx j ↔ x ∈ s.line ∧ x ≠ (i : Int) := fun x => by
    rw [← hjx, ← List.erase_eq_eraseIdx_of_idxOf (h.nd.idxOf_getElem j hjl), h.nd.mem_erase_iff]
    exact ⟨fun h => ⟨h.2, h.1⟩, fun h => ⟨h.2, h.1⟩⟩
  refine ⟨fun x hx' => ?_, h.nd.sublist (List.eraseIdx_sublist _ _), fun x => ?_, fun x hx' => ?_, fun k hk => ?_, by rw [lives_begin hi (by simp [Tc.goes, hg]) hr]; exact h.room, by simpa [Rs.begin] using h.many, hl⟩
  · rcases mem_set hi hx' with rfl | hm
    · exact ⟨by rw [hu]; exact Fv.nil, by rw [hw]; exact (h.fv t (List.mem_of_getElem? hi)).2⟩
    · exact h.fv x hm
  · simp only [Rs.begin, hmem, h.mem x, get_set hi]
    constructor
    · rintro ⟨⟨k, y, e1, e2, e3⟩, hne⟩
      exact ⟨k, y, e1, by rw [if_neg (by omega)]; exact e2, e3⟩
    · rintro ⟨k, y, e1, e2, e3⟩
      by_cases e : k = i
      · rw [if_pos e] at e2
        cases e2
        rw [hu] at e3
        cases e3
      · rw [if_neg e] at e2
        exact ⟨⟨k, y, e1, e2, e3⟩, by omega⟩
  · rcases mem_set hi hx' with rfl | hm
    · rw [hu]
      intro hh
      cases hh
    · exact h.one x hm
  · simp only [Rs.begin, Option.some.injEq] at hk
    subst hk
    simpa [Rs.begin] using (List.getElem?_eq_some_iff.1 hi).1
theorem lives_done (hi : s.ts[i]? = some t) (hr : s.run = some i) (x : Int) : x ∈ s.done.lives ↔ x ∈ s.lives ∧ (t.goes = true ∨ x ≠ (i : Int)) := by
  rw [mem_lives, mem_lives]
  constructor
  · rintro ⟨k, rfl, h1, h2⟩
    have h3 : (s.ts[k]?.map Tc.goes).getD false = true := by simpa [Rs.live, Rs.done] using h2
    refine ⟨⟨k, rfl, h1, by simp [Rs.live, h3]⟩, ?_⟩
    by_cases e : k = i
    · subst e
      rw [hi] at h3
      exact .inl h3
    · exact .inr (by omega)
  · rintro ⟨⟨k, rfl, h1, h2⟩, h3⟩
    refine ⟨k, rfl, h1, ?_⟩
    by_cases e : k = i
    · subst e
      rcases h3 with h3 | h3
      · simp [Rs.live, Rs.done, hi, h3]
      · exact absurd rfl h3
    · simp only [Rs.live, hr, Option.some.injEq, show ¬ i = k from fun h => e h.symm, decide_false, Bool.false_or] at h2
      simp [Rs.live, Rs.done, h2]
theorem Rok.done (h : Rok s) (hi : s.ts[i]? = some t) (hr : s.run = some i) : Rok s.done := by
  refine ⟨h.fv, h.nd, h.mem, h.one, fun k hk => by simp [Rs.done] at hk, Nat.le_trans (lives_nodup.length_le_of_subset (fun x hx => ((lives_done hi hr x).1 hx).1)) h.room, h.many, h.lft⟩
theorem Rok.take (h : Rok s) (n : Nat) : Rok (s.take n) := ⟨h.fv, h.nd, h.mem, h.one, h.runs, h.room, h.many, Nat.le_trans (Nat.div_le_self _ _) h.lft⟩
end

/-- A runtime in memory, as it may be. -/
structure Rt (w : World) (a : Ad) (s : Rs) : Prop where
  m : Rm w a s s.lives
  ok : Rok s

/-- What a call on a runtime leaves: its own blocks alone were turned, what is new to it is new memory. -/
structure Rx (w : World) (a : Ad) (s : Rs) (w' : World) (a' : Ad) (s' : Rs) : Prop where
  R : a'.R = a.R
  Q : a'.Q = a.Q
  U : a'.U = a.U
  M : a'.M = a.M
  G : a'.G = a.G ∨ w.heap.size ≤ a'.G
  ext : ∃ bs : List Nat, s'.ts.map Tc.b = s.ts.map Tc.b ++ bs ∧ ∀ b ∈ bs, w.heap.size ≤ b
  tb : Tb (own a s) w w'

structure Rp (w : World) (a : Ad) (s : Rs) (w' : World) (a' : Ad) (s' : Rs) : Prop where
  rt : Rt w' a' s'
  x : Rx w a s w' a' s'

section
variable {w w' w'' : World} {a a' a'' : Ad} {s s' s'' : Rs}
theorem Rx.own (h : Rx w a s w' a' s') {k : Nat} (hk : own a' s' k) : own a s k ∨ w.heap.size ≤ k := by
  rcases hk with rfl | rfl | rfl | rfl | ⟨t, ht, rfl⟩
  · exact .inl (.inl h.R)
  · exact .inl (.inr (.inl h.U))
  · exact h.G.elim (fun e => .inl (.inr (.inr (.inl e)))) .inr
  · exact .inl (.inr (.inr (.inr (.inl h.M))))
  · obtain ⟨bs, e, hb⟩ := h.ext
    have : t.b ∈ s.ts.map Tc.b ++ bs := by rw [← e]; exact List.mem_map_of_mem ht
    rcases List.mem_append.1 this with hm | hm
    · obtain ⟨u, hu, e⟩ := List.mem_map.1 hm
      exact .inl (.inr (.inr (.inr (.inr ⟨u, hu, e⟩))))
    · exact .inr (hb _ hm)
theorem Rx.trans (h : Rx w a s w' a' s') (k : Rx w' a' s' w'' a'' s'') : Rx w a s w'' a'' s'' := by
  obtain ⟨b1, e1, h1⟩ := h.ext
  obtain ⟨b2, e2, h2⟩ := k.ext
  have hz := h.tb.size
  refine ⟨k.R.trans h.R, k.Q.trans h.Q, k.U.trans h.U, k.M.trans h.M, ?_, ⟨b1 ++ b2, by rw [e2, e1, List.append_assoc], fun b hb => ?_⟩, h.tb.trans k.tb (fun i hi hT => ?_)⟩
  · rcases k.G with e | e
    · rw [e]; exact h.G
    · exact .inr (by omega)
  · rcases List.mem_append.1 hb with hb | hb
    · exact h1 b hb
    · have := h2 b hb; omega
  · exact (h.own hT).elim id (fun h' => by omega)
theorem Rp.trans (h : Rp w a s w' a' s') (k : Rp w' a' s' w'' a'' s'') : Rp w a s w'' a'' s'' := ⟨k.rt, h.x.trans k.x⟩
theorem Rx.fresh (hb : Below w.heap.size w w') : Rx w a s w' a s := ⟨rfl, rfl, rfl, rfl, .inl rfl, ⟨[], by simp, by simp⟩, Tb.of_fresh hb⟩
/-- Its own blocks turned, its tasks the same ones. -/
theorem Rx.turn (t : Tb (Proofs.Ytennciddjkijaaa.own a s) w w') (e : s'.ts.map Tc.b = s.ts.map Tc.b) : Rx w a s w' a s' := ⟨rfl, rfl, rfl, rfl, .inl rfl, ⟨[], by simp [e], by simp⟩, t⟩
theorem Rt.same (h : Rt w a s) (hb : Below w.heap.size w w') : Rp w a s w' a s := ⟨⟨h.m.below hb, h.ok⟩, .fresh hb⟩
theorem Rt.refl (h : Rt w a s) : Rp w a s w a s := h.same (Below.refl _ _)
theorem Rt.tb {S : Nat → Prop} (h : Rt w a s) (hb : Tb S w w') (hs : ∀ k, Proofs.Ytennciddjkijaaa.own a s k ∨ k = a.Q → ¬ S k) : Rt w' a s := ⟨h.m.tb hb hs, h.ok⟩
theorem Rt.below (h : Rt w a s) (hb : Below w.heap.size w w') : Rt w' a s := ⟨h.m.below hb, h.ok⟩
theorem Rx.adr (h : Rx w a s w' a' s') {i : Nat} {t : Tc} (hi : s.ts[i]? = some t) : ∃ t', s'.ts[i]? = some t' ∧ t'.b = t.b := by
  obtain ⟨bs, e, _⟩ := h.ext
  have h1 : (s'.ts.map Tc.b)[i]? = some t.b := by
    rw [e, List.getElem?_append_left (by simpa using (List.getElem?_eq_some_iff.1 hi).1)]
    simp [hi]
  rw [List.getElem?_map] at h1
  exact Option.map_eq_some_iff.1 h1
theorem map_set {i : Nat} {t u : Tc} (hi : s.ts[i]? = some t) (hb : u.b = t.b) : (s.ts.set i u).map Tc.b = s.ts.map Tc.b := by
  rw [List.map_set, hb]
  apply List.ext_getElem?
  intro k
  rw [List.getElem?_set]
  by_cases e : i = k
  · subst e
    have hl : i < s.ts.length := (List.getElem?_eq_some_iff.1 hi).1
    simp [hl, (List.getElem?_eq_some_iff.1 hi).2]
  · simp [e]
theorem own_task {i : Nat} {t : Tc} (hi : s.ts[i]? = some t) : Proofs.Ytennciddjkijaaa.own a s t.b := .inr (.inr (.inr (.inr ⟨t, List.mem_of_getElem? hi, rfl⟩)))
end

end Go.Proofs.Ytennciddjkijaaa

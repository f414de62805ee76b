/-
  Texts put into one.
-/
import Derived.Test.YtohndpmjdgfbeaaGreatMxc4cad266

/-
  ChansForget: the tickets are made, one by one.
-/
namespace Go.Proofs.YtohndpmjdgfbeaaGreat.CH
open Go.RowKit QW
set_option maxRecDepth 100000
set_option linter.unusedSimpArgs false
set_option linter.unusedVariables false

theorem infoTk : (Tryz.prog.info? (69 : TypeId)).map (fun i => (i.zero, i.size, i.bytes)) = some (some (.pointer none), 1, 8) := by kernel_rfl
def zer : List Int := [0, 0, 0, 0, 0, 0, 0]
abbrev tru : Nat → Bool := fun _ => true

/-- i tickets are made, b is the box of the next, v their row. -/
def Fl (w0 : World) (z : Zc) (GB i b : Nat) (v : Value) (w : World) : Prop :=
  ∃ (Q : Nat → Prop) (K I : Nat → Nat) (D : Nat → Prop), Fo w0 w Q z tru i i K I GB zer (List.range i) D ∧ w.heap[b]? = some (.cells #[.int .i64 i] 3 (0, 0)) ∧ Q b ∧ w.ownsRow w0.heap.size (69 : TypeId) 1 v i ((List.range i).map fun j => .pointer (some ⟨K j, 0, none⟩)) ∧ ∀ g, v.ownBlock = some g → Q g

section
variable {w0 w : World} {z : Zc} {GB i b : Nat} {v : Value}
theorem Fl.step (d : Fl w0 z GB i b v w) (hi : i < 7) {w1 : World} (hk : Tkt w1 w.heap.size F51) (hb1 : Below w.heap.size w w1) :
    ∃ va vc pb c X, v = .slice va i vc ∧ (Builtin.append_ #[(105 : TypeId), (105 : TypeId)] (105 : TypeId) #[.slice va i vc, .slice (some ⟨w1.heap.size, 0, none⟩) 1 1]).run Tryz.prog (w1.alloc (.cells #[.pointer (some ⟨w.heap.size, 0, none⟩)] (69 : TypeId))) = .ok (.slice (some ⟨pb, 0, none⟩) (i + 1) c) X ∧
      X.cell? ⟨b, 0, none⟩ = some (.int .i64 i) ∧ X.cell? ⟨pb, i, none⟩ = some (.pointer (some ⟨w.heap.size, 0, none⟩)) ∧ i + 1 ≤ c ∧ c ≤ 9223372036854775807 ∧
      Hid (Calls Tryz.prog 38 #[.pointer (some ⟨z.C, 0, none⟩), .pointer (some ⟨w.heap.size, 0, none⟩), .func (.func 52) #[] #[.pointer (some ⟨GB, 0, none⟩), .pointer (some ⟨b, 0, none⟩)]] X fun e w' => e = .returned (.int .i64 0) ∧ w'.cell? ⟨b, 0, none⟩ = some (.int .i64 i) ∧ Hid (∀ W, W = w'.alloc (.cells #[.int .i64 ((i + 1 : Nat) : Int)] 3) → Fl w0 z GB (i + 1) w'.heap.size (.slice (some ⟨pb, 0, none⟩) (i + 1) c) W)) := by
  obtain ⟨Q, K, I, D, h, hb, hbQ, hrow, hrQ⟩ := d
  have hlow := h.low
  have h1 := h.below hb1
  have hz1 := hb1.size
  have row1 := row_tb hrow (Tb.of_fresh (S := fun _ => False) hb1) (fun _ _ e => e)
  obtain ⟨ip, e1, e2, e3, e4⟩ := info_all infoTk
  obtain ⟨va, vc, v', X, rfl, run, _, hrow', tX, hown'⟩ := row_app w1 w0.heap.size (105 : TypeId) _ ip _ 1 8 Tryz.underlying105 e1 e2 e3 e4 rfl (by omega) row1 [.pointer (some ⟨w.heap.size, 0, none⟩)] rfl (by simp [Value.oneCell']) (by omega) (by omega) (by omega)
  obtain ⟨pb, c, rfl, c1, c2, hcell⟩ := row_at hrow' (by omega)
  have hzX := tX.size
  have hty : ∀ g, (Value.slice va i vc).ownBlock = some g → ∃ cs, w1.heap[g]? = some (.cells cs (69 : TypeId) (0, 0)) := fun g hg => row_ty row1 hg
  have hX := h1.tb tX (fun k hk => by
    obtain ⟨cs, hcs⟩ := hty k hk
    obtain ⟨q1, q2, q3, q4⟩ := h1.nq k (hrQ k hk)
    exact ⟨q2, q3, fun j hj => ⟨q4 j hj, ty_ne hcs (h1.bx j hj).1 (by decide)⟩, (row1.lt k hk).1, fun f hf => ty_ne hcs hf (by decide) rfl⟩)
  have hbX : X.heap[b]? = some (.cells #[.int .i64 i] 3 (0, 0)) := by
    rw [tX.block b (by have := (h.nq b hbQ).1; omega) (fun e => by
      obtain ⟨cs, hcs⟩ := hty b e
      exact ty_ne hcs ((hb1.block b (h.nq b hbQ).1).trans hb) (by decide) rfl), hb1.block b (h.nq b hbQ).1]
    exact hb
  have hkX : Tkt X w.heap.size F51 := hk.tb tX (fun e => by
    obtain ⟨cs, hcs⟩ := hty _ e
    exact ty_ne hcs hk (by decide) rfl)
  refine ⟨va, vc, pb, c, X, rfl, run, cell_of_row _ _ 0 _ _ _ hbX, hcell i _ (by simp), c1, c2, hide ?_⟩
  have hpb : ∀ g, (Value.slice (some (⟨pb, 0, none⟩ : Addr)) (i + 1) c).ownBlock = some g → Q g ∨ w1.heap.size ≤ g := fun g hg => (hown' g hg).imp (hrQ g) id
  have hmore := hX.more (N := fun k => k = pb) (fun k hk => by
    subst hk
    have hkr : k < X.heap.size := (hrow'.lt k rfl).2
    rcases hpb k rfl with hq | hq
    · obtain ⟨q1, q2, q3, q4⟩ := hX.nq k hq
      exact ⟨hkr, q2, q3, q4⟩
    · exact ⟨hkr, fun e => by have := h1.ch.lt e; omega, fun e => by have := heap_lt h1.gb; omega, fun j hj e => by have := (h1.tk j hj).lt; omega⟩)
  refine (hmore.join (by unfold Mx; omega) hkX rfl (fun j hj e => by have := (h.tk j hj).lt; omega) hlow ?_ hbX (.inl hbQ)).mono ?_
  · rintro (e | e)
    · have := (h.nq _ e).1; omega
    · obtain ⟨cs, hcs⟩ := row_ty hrow' (g := pb) rfl
      rw [← e] at hcs
      exact ty_ne hcs hkX (by decide) rfl
  · rintro e w' ⟨rfl, ⟨D', h'⟩, t'⟩
    have hb' : w'.heap[b]? = some (.cells #[.int .i64 i] 3 (0, 0)) := (t'.block b (heap_lt hbX) (fun e => e (.inl hbQ))).trans hbX
    refine ⟨rfl, cell_of_row _ _ 0 _ _ _ hb', hide (fun W hW => ?_)⟩
    have bW : Below w'.heap.size w' W := by rw [hW]; exact (Below.refl _ w').alloc (Nat.le_refl _) _
    have hW2 : W.heap[w'.heap.size]? = some (.cells #[.int .i64 ((i + 1 : Nat) : Int)] 3 (0, 0)) := by rw [hW]; exact heap_alloc_new w' _
    have hn := (h'.below bW).more (N := fun k => k = w'.heap.size) (fun k hk => by
      subst hk
      exact ⟨heap_lt hW2, fun e => by have := h'.ch.lt e; omega, fun e => by have := heap_lt h'.gb; omega, fun j hj e => by have := (h'.tk j hj).lt; omega⟩)
    have erow : (List.range (i + 1)).map (fun j => Value.pointer (some ⟨ups K i w.heap.size j, 0, none⟩)) = (List.range i).map (fun j => Value.pointer (some ⟨K j, 0, none⟩)) ++ [.pointer (some ⟨w.heap.size, 0, none⟩)] := by
      rw [List.range_succ, List.map_append]
      congr 1
      · exact List.map_congr_left (fun j hj => by rw [ups_ne _ _ (by have := List.mem_range.1 hj; omega)])
      · simp [ups_same]
    refine ⟨fun k => (Q k ∨ k = pb) ∨ k = w'.heap.size, _, _, D', by rw [List.range_succ]; exact hn, hW2, .inr rfl, ?_, fun g hg => .inl (.inr ?_)⟩
    · rw [erow]
      exact row_tb (row_tb hrow' t' (fun g hg e => e (.inr (by cases hg; rfl)))) (Tb.of_fresh (S := fun _ => False) bW) (fun _ _ e => e)
    · cases hg; rfl
end

end Go.Proofs.YtohndpmjdgfbeaaGreat.CH

/-
  ChansForget: who is forgotten, who is served.
-/
namespace Go.Proofs.YtohndpmjdgfbeaaGreat.CH
open Go.RowKit QW
set_option maxRecDepth 100000
set_option linter.unusedSimpArgs false
set_option linter.unusedVariables false

/-- The tickets, their row, and the map of those who are forgotten. -/
def Fm (w0 : World) (z : Zc) (GB n pb M : Nat) (K I : Nat → Nat) (A : Nat → Bool) (g : List Int) (idx : List Nat) (ks : List Int) (V : World) : Prop :=
  ∃ (Q : Nat → Prop) (D : Nat → Prop), Fo w0 V Q z A n n K I GB g idx D ∧ Q pb ∧ Q M ∧ (∀ j, j < n → V.cell? ⟨pb, j, none⟩ = some (.pointer (some ⟨K j, 0, none⟩))) ∧ Mi V M ks ∧ ks.Nodup ∧ (∀ k ∈ ks, ∃ j : Nat, k = (j : Int) ∧ j < n) ∧ pb ≠ M ∧ w0.heap.size ≤ M

section
variable {w0 V V' : World} {z : Zc} {GB n pb M : Nat} {K I : Nat → Nat} {A : Nat → Bool} {g : List Int} {idx : List Nat} {ks : List Int}
theorem lft_congr {ks ls : List Int} (h : ∀ x, x ∈ ks ↔ x ∈ ls) (n : Nat) : lft ks n = lft ls n := by
  unfold lft
  exact List.filter_congr (fun x _ => by simp [h])
theorem Fm.start {Q : Nat → Prop} {D : Nat → Prop} (h : Fo w0 V Q z tru n n K I GB zer (List.range n) D) (hq : Q pb) (hc : ∀ j, j < n → V.cell? ⟨pb, j, none⟩ = some (.pointer (some ⟨K j, 0, none⟩))) (hV : V' = V.alloc (.map #[] 0)) : Fm w0 z GB n pb V.heap.size K I tru zer (lft [] n) [] V' := by
  have b : Below V.heap.size V V' := by rw [hV]; exact (Below.refl _ V).alloc (Nat.le_refl _) _
  have h' := h.below b
  have hs : V'.heap.size = V.heap.size + 1 := by rw [hV]; simp
  rw [lft_nil]
  refine ⟨fun k => Q k ∨ k = V.heap.size, D, h'.more (fun k hk => by
    subst hk
    exact ⟨by omega, fun e => by have := h.ch.lt e; omega, fun e => by have := heap_lt h.gb; omega, fun j hj e => by have := (h.tk j hj).lt; omega⟩), .inl hq, .inr rfl, fun j hj => (b.cell (cell_lt (hc j hj))).trans (hc j hj), ?_, List.nodup_nil, fun k hk => (by cases hk), fun e => by have := (h.nq pb hq).1; omega, h.low⟩
  rw [hV]
  exact ⟨_, Mp.of (World.ownsMap_made V Tryz.prog 3 hold), rfl, fun k _ => rfl⟩
theorem Fm.keep (h : Fm w0 z GB n pb M K I A g idx ks V) {Q : Nat → Prop} (t : Tb (fun k => ¬ Q k) V V') (hp : Q pb) (hM : Q M) : (∀ j, j < n → V'.cell? ⟨pb, j, none⟩ = some (.pointer (some ⟨K j, 0, none⟩))) ∧ Mi V' M ks := by
  obtain ⟨Q0, D, h1, h2, h3, h4, h5, h6⟩ := h
  refine ⟨fun j hj => ?_, h5.tb t (fun e => e hM)⟩
  have hl := cell_lt (h4 j hj)
  rw [cell?_heap (t.block pb hl (fun e => e hp))]
  exact h4 j hj

theorem Fm.row (h : Fm w0 z GB n pb M K I A g idx ks V) {j : Nat} (hj : j < n) : V.cell? ⟨pb, j, none⟩ = some (.pointer (some ⟨K j, 0, none⟩)) := by
  obtain ⟨Q0, D, h1, h2, h3, h4, h5, h6⟩ := h
  exact h4 j hj
theorem Fm.map (h : Fm w0 z GB n pb M K I A g idx ks V) : Mi V M ks := by
  obtain ⟨Q0, D, h1, h2, h3, h4, h5, h6⟩ := h
  exact h5
theorem Fm.bel (h : Fm w0 z GB n pb M K I A g idx ks V) : Below w0.heap.size w0 V := by
  obtain ⟨Q0, D, h1, _⟩ := h
  exact h1.bel
theorem Fm.got (h : Fm w0 z GB n pb M K I A g idx ks V) {j : Nat} (hj : j < 7) : V.cell? ⟨GB, j, none⟩ = some (.int .i64 (g.getD j 0)) := by
  obtain ⟨Q0, D, h1, _⟩ := h
  rw [cell_of_row _ _ j _ _ _ h1.gb]
  have := h1.gl
  simp [List.getD, List.getElem?_eq_getElem (show j < g.length by omega)]
theorem Fm.few (h : Fm w0 z GB n pb M K I A g idx ks V) : ks.length ≤ n ∧ (lft ks n).length + ks.length = n := by
  obtain ⟨Q0, D, h1, h2, h3, h4, h5, h6, h7, _⟩ := h
  have := lft_len h6 h7
  omega

/-- One is forgotten. -/
theorem Fm.forget (h : Fm w0 z GB n pb M K I tru g (lft ks n) ks V) (hn : n ≤ 6) {j : Nat} (hj : j < n) :
    Calls Tryz.prog 37 #[.pointer (some ⟨z.C, 0, none⟩), .pointer (some ⟨K j, 0, none⟩)] V fun e w' => e = .returned (.int .i64 (if (j : Int) ∈ ks then 0 else 1)) ∧ Fm w0 z GB n pb M K I tru g (lft ((j : Int) :: ks) n) ks w' := by
  obtain ⟨Q, D, h1, h2, h3, h4, h5, h6⟩ := id h
  refine (h1.forget (by omega) hj rfl).mono ?_
  rintro e w' ⟨rfl, ⟨D', h'⟩, t⟩
  rw [lft_put] at h'
  obtain ⟨k1, k2⟩ := h.keep t h2 h3
  refine ⟨?_, Q, D', h', h2, h3, k1, k2, h6⟩
  rw [lft_count hj]
  by_cases hm : (j : Int) ∈ ks <;> simp [hm]
/-- It is noted. -/
theorem Fm.note {j : Nat} (h : Fm w0 z GB n pb M K I A g (lft ((j : Int) :: ks) n) ks V) (hn : n ≤ 6) (hj : j < n) :
    ∃ X ls, (Instr.mapUpdate (106 : TypeId) (.map (some M)) (.int .i64 j) (.bool true)).run Tryz.prog V = .ok () X ∧ Fm w0 z GB n pb M K I A g (lft ls n) ls X := by
  obtain ⟨Q, D, h1, h2, h3, h4, h5, h6, h7, h8, h9⟩ := id h
  have hl := h.few.1
  have hI : I6 (j : Int) := ⟨by omega, by omega⟩
  have ht : ∀ {X : World}, Tb (fun i => i = M) V X → Fo w0 X Q z A n n K I GB g (lft ((j : Int) :: ks) n) D ∧ (∀ j, j < n → X.cell? ⟨pb, j, none⟩ = some (.pointer (some ⟨K j, 0, none⟩))) := fun t => by
    obtain ⟨q1, q2, q3, q4⟩ := h1.nq M h3
    refine ⟨h1.tb t (fun k hk => ?_), fun j hj => ?_⟩
    · subst hk
      refine ⟨q2, q3, fun j hj => ⟨q4 j hj, h5.ne (h1.bx j hj).1⟩, h9, fun f hf => h5.ne hf rfl⟩
    · have hc := h4 j hj
      rw [cell?_heap (t.block pb (cell_lt hc) h8)]
      exact hc
  by_cases hm : (j : Int) ∈ ks
  · obtain ⟨X, hr, hX, tX⟩ := h5.put (ys := ks) hI (by omega) (by rw [if_pos hm]) (fun x => ⟨.inl, fun h => h.elim id (fun e => e ▸ hm)⟩)
    obtain ⟨k1, k2⟩ := ht tX
    exact ⟨X, ks, hr, Q, D, by rw [lft_congr (ls := (j : Int) :: ks) (fun x => by simp; intro e; rw [e]; exact hm)]; exact k1, h2, h3, k2, hX, h6, h7, h8, h9⟩
  · obtain ⟨X, hr, hX, tX⟩ := h5.put (ys := (j : Int) :: ks) hI (by omega) (by rw [if_neg hm]; rfl) (fun x => by simp [or_comm])
    obtain ⟨k1, k2⟩ := ht tX
    exact ⟨X, _, hr, Q, D, k1, h2, h3, k2, hX, List.nodup_cons.2 ⟨hm, h6⟩, fun k hk => (List.mem_cons.1 hk).elim (fun e => ⟨j, e, hj⟩) (h7 k), h8, h9⟩
theorem Fm.waits (h : Fm w0 z GB n pb M K I A g idx ks V) :
    Calls Tryz.prog 46 #[.pointer (some ⟨z.C, 0, none⟩)] V fun e w' => e = .returned (.tuple #[.int .i64 0, .int .i64 idx.length]) ∧ Fm w0 z GB n pb M K I A g idx ks w' := by
  obtain ⟨Q, D, h1, h2, h3, h4, h5, h6⟩ := id h
  refine h1.waits.mono ?_
  rintro e w' ⟨rfl, ⟨D', h'⟩, t⟩
  obtain ⟨k1, k2⟩ := h.keep t h2 h3
  exact ⟨rfl, Q, D', h', h2, h3, k1, k2, h6⟩
theorem Fm.sendNo (h : Fm w0 z GB n pb M K I A g [] ks V) (v : Int) :
    Calls Tryz.prog 29 #[.pointer (some ⟨z.C, 0, none⟩), .int .i64 v] V fun e w' => e = .returned (.tuple #[.bool false, .bool false]) ∧ Fm w0 z GB n pb M K I A g [] ks w' := by
  obtain ⟨Q, D, h1, h2, h3, h4, h5, h6⟩ := id h
  refine (h1.sendNo v).mono ?_
  rintro e w' ⟨rfl, ⟨D', h'⟩, t⟩
  obtain ⟨k1, k2⟩ := h.keep t h2 h3
  exact ⟨rfl, Q, D', h', h2, h3, k1, k2, h6⟩
theorem Fm.send {j : Nat} {r : List Nat} (h : Fm w0 z GB n pb M K I A g (j :: r) ks V) (hn : n ≤ 6) (v : Int) :
    Calls Tryz.prog 29 #[.pointer (some ⟨z.C, 0, none⟩), .int .i64 v] V fun e w' => e = .returned (.tuple #[.bool true, .bool true]) ∧ Fm w0 z GB n pb M K I (fire A (K j)) (g.set j v) r ks w' := by
  obtain ⟨Q, D, h1, h2, h3, h4, h5, h6⟩ := id h
  refine (h1.send (by omega) v).mono ?_
  rintro e w' ⟨rfl, ⟨D', h'⟩, t⟩
  obtain ⟨k1, k2⟩ := h.keep t h2 h3
  exact ⟨rfl, Q, D', h', h2, h3, k1, k2, h6⟩
end

/-- Values are sent, one by one. -/
def Fv (w0 : World) (z : Zc) (GB n pb M : Nat) (K I : Nat → Nat) (ks : List Int) (s : Nat) (V : World) : Prop :=
  ∃ A, Fm w0 z GB n pb M K I A ((List.range 7).map (gots ks n s)) ((lft ks n).drop s) ks V

section
variable {w0 V V' : World} {z : Zc} {GB n pb M : Nat} {K I : Nat → Nat} {ks : List Int}
theorem Fv.start (h : Fm w0 z GB n pb M K I tru zer (lft ks n) ks V) : Fv w0 z GB n pb M K I ks 0 V := by
  refine ⟨tru, ?_⟩
  have : (List.range 7).map (gots ks n 0) = zer := by
    rw [show gots ks n 0 = fun _ => 0 from funext (gots_zero ks n)]
    rfl
  rw [this]
  exact h
theorem Fv.send {s : Nat} (h : Fv w0 z GB n pb M K I ks s V) (hn : n ≤ 6) (hs : s < (lft ks n).length) :
    Calls Tryz.prog 29 #[.pointer (some ⟨z.C, 0, none⟩), .int .i64 ((s : Int) + 1)] V fun e w' => e = .returned (.tuple #[.bool true, .bool true]) ∧ Fv w0 z GB n pb M K I ks (s + 1) w' := by
  obtain ⟨A, h⟩ := h
  have hx : (lft ks n)[s]? = some (lft ks n)[s] := List.getElem?_eq_getElem hs
  rw [List.drop_eq_getElem_cons hs] at h
  have hm := mem_lft.1 (List.mem_of_getElem? hx)
  refine (h.send hn ((s : Int) + 1)).mono ?_
  rintro e w' ⟨rfl, h'⟩
  refine ⟨rfl, fire A (K (lft ks n)[s]), ?_⟩
  have e1 : ((List.range 7).map (gots ks n s)).set (lft ks n)[s] ((s : Int) + 1) = (List.range 7).map (gots ks n (s + 1)) := by
    apply List.ext_getElem?
    intro k
    rw [List.getElem?_set, List.getElem?_map, List.getElem?_map]
    by_cases hk : k < 7
    · rw [List.getElem?_range hk]
      simp only [Option.map_some]
      rw [gots_succ ks n s hx k]
      by_cases e : (lft ks n)[s] = k
      · rw [if_pos e, if_pos (by simpa using e ▸ hk), if_pos e.symm]
      · rw [if_neg e, if_neg (fun h => e h.symm)]
    · rw [List.getElem?_eq_none (by simp; omega)]
      simp only [Option.map_none]
      by_cases e : (lft ks n)[s] = k
      · omega
      · rw [if_neg e]
  rw [e1] at h'
  exact h'
theorem Fv.sendNo {s : Nat} (h : Fv w0 z GB n pb M K I ks s V) (hs : (lft ks n).length ≤ s) (v : Int) :
    Calls Tryz.prog 29 #[.pointer (some ⟨z.C, 0, none⟩), .int .i64 v] V fun e w' => e = .returned (.tuple #[.bool false, .bool false]) ∧ Fv w0 z GB n pb M K I ks s w' := by
  obtain ⟨A, h⟩ := h
  have e : (lft ks n).drop s = [] := List.drop_eq_nil_of_le hs
  rw [e] at h
  refine (h.sendNo v).mono ?_
  rintro e' w' ⟨rfl, h'⟩
  exact ⟨rfl, A, by rw [e]; exact h'⟩
theorem Fv.got {s : Nat} (h : Fv w0 z GB n pb M K I ks s V) {j : Nat} (hj : j < 7) : V.cell? ⟨GB, j, none⟩ = some (.int .i64 (gots ks n s j)) := by
  obtain ⟨A, h⟩ := h
  rw [h.got hj]
  simp [List.getD, hj]
theorem Fv.map {s : Nat} (h : Fv w0 z GB n pb M K I ks s V) : Mi V M ks := by
  obtain ⟨A, h⟩ := h
  exact Fm.map h
theorem Fv.bel {s : Nat} (h : Fv w0 z GB n pb M K I ks s V) : Below w0.heap.size w0 V := by
  obtain ⟨A, h⟩ := h
  exact Fm.bel h
/-- What a place is told, as it is looked at. -/
theorem gots_end {s sends i : Nat} (hs : s = min sends (lft ks n).length) (hi : i < n) (hk : (i : Int) ∉ ks) : gots ks n s i = if sends ≤ ahd ks i then 0 else (ahd ks i : Int) + 1 := by
  have hg := (List.getElem?_eq_some_iff.1 (lft_get ks n hi hk)).1
  unfold gots
  by_cases h : sends ≤ ahd ks i
  · rw [if_pos h, if_neg (by omega)]
  · rw [if_neg h, if_pos ⟨hk, hi, by omega⟩]
theorem gots_out {s i : Nat} (hk : (i : Int) ∈ ks) : gots ks n s i = 0 := by
  unfold gots
  rw [if_neg (fun h => h.1 hk)]
end

end Go.Proofs.YtohndpmjdgfbeaaGreat.CH

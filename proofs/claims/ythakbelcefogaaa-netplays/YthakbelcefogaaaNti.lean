/-
  Rows of ints beside a net; the packets that NetOrder sends, and those that are left.
-/
import Derived.Test.YthakbelcefogaaaNte
import Derived.Test.YthakbelcefogaaaFow
import Derived.Test.YthakbelcefogaaaIsm
import Derived.Test.YthakbelcefogaaaPik
import Derived.Test.YthakbelcefogaaaSam
namespace Go.Proofs.Ythakbelcefogaaa
open Go.RowKit
set_option maxRecDepth 100000

theorem info3 : (Try.prog.info? 3).map (fun i => (i.zero, i.size, i.bytes)) = some (some (.int .i64 0), 1, 8) := by kernel_rfl

/-- Ints as cells. -/
def I1 (zs : List Int) : List Value := zs.map (Value.int .i64)
theorem I1_length (zs : List Int) : (I1 zs).length = zs.length := by simp [I1]
theorem I1_append (l m : List Int) : I1 (l ++ m) = I1 l ++ I1 m := by simp [I1]
theorem I1_one (l : List Int) : ∀ u ∈ I1 l, u.oneCell' = true := ints_oneCell .i64 l

theorem own_is {w : World} {base n cap : Nat} {a : Option Addr} {e : TypeId} {zs : List Int} (h : w.ownsRow base e 1 (.slice a n cap) n (I1 zs)) : Is w a n cap zs := by
  have hl : zs.length = n := by have := h.1; rw [I1_length] at this; omega
  have h0 := h
  rcases h.2 with ⟨h1, h0⟩ | ⟨g, cap', cur, h1, _, hh, hc, hm, hs, ht⟩
  · simp only [Value.slice.injEq] at h1
    obtain ⟨rfl, rfl, rfl⟩ := h1
    exact ⟨hl, Nat.le_refl _, by omega, fun h => by omega⟩
  · simp only [Value.slice.injEq] at h1
    obtain ⟨rfl, _, rfl⟩ := h1
    unfold maxLen at hm
    refine ⟨hl, hc, by omega, fun _ => ⟨g, 0, rfl, fun i hi => ?_⟩⟩
    have e1 : (I1 zs)[i]? = some (.int .i64 (zs.getD i 0)) := by simp [I1, List.getD, List.getElem?_eq_getElem (by omega : i < zs.length)]
    have c1 := h0.cells (g := g) rfl _ _ e1
    rwa [Addr.add_mid] at c1

theorem Is.src {w : World} {b off n cap : Nat} {zs : List Int} (h : Is w (some ⟨b, off, none⟩) n cap zs) : ∀ j u, (I1 zs)[j]? = some u → w.cell? ((⟨b, off, none⟩ : Addr).add j) = some u := by
  intro j u hu
  have hl := h.len
  have hj : j < zs.length := by
    rcases Nat.lt_or_ge j zs.length with h | h
    · exact h
    · rw [List.getElem?_eq_none (by rw [I1_length]; exact h)] at hu
      cases hu
  obtain ⟨b', off', e, hc⟩ := h.lies (by omega)
  simp only [Option.some.injEq, Addr.mk.injEq, and_true] at e
  obtain ⟨rfl, rfl⟩ := e
  rw [Addr.add_mid, hc j (by omega), ← hu]
  simp [I1, List.getD, List.getElem?_eq_getElem hj]

set_option maxHeartbeats 400000 in
theorem copyInts_any (a : Option Addr) (n cap : Nat) (zs : List Int) (w : World) (hB : Is w a n cap zs) (hn : n * 8 ≤ 140737488355328) :
    Calls Try.prog 28 #[.slice a n cap] w fun e w' => ∃ c d, e = .returned (.slice c n d) ∧ w'.ownsRow w.heap.size 3 1 (.slice c n d) n (I1 zs) ∧ Below w.heap.size w w' := by
  obtain ⟨i0, hi, hz0, hz1, hz2⟩ := info_parts info3
  by_cases h0 : n = 0
  · subst h0
    have hz : zs = [] := List.eq_nil_of_length_eq_zero hB.len
    subst hz
    go_enter Try.func28, Try.ntmps28
    go_wp2_with (at_builtin; refine wpList_append_zero rfl (.tmp 4) (.tmp 5) (59 : TypeId) rfl 3 i0 Try.underlying59 hi rfl _ _ rfl ?_)
    go_ret
    exact ⟨_, _, rfl, World.ownsRow_nil _ _ _ _, Below.refl _ _⟩
  · obtain ⟨b, off, rfl, hc⟩ := hB.lies (by omega)
    have hl := hB.len
    have HC := hide hB.src
    clear hc
    go_enter Try.func28, Try.ntmps28
    go_wp2_with (at_builtin; refine wpList_append_own _ rfl (.tmp 4) (.tmp 5) (59 : TypeId) rfl w.heap.size 3 i0 (.int .i64 0) 1 8 Try.underlying59 hi hz0 hz1 hz2 rfl (by omega) (.slice none 0 0) 0 [] rfl (World.ownsRow_nil _ _ _ _) ⟨b, off, none⟩ n cap (I1 zs) rfl (by rw [I1_length]; omega) HC.out (ints_oneCell .i64 zs) (by unfold maxLen; omega) (by omega) (Nat.le_refl _) ?_; intro v w1 hown hgrow _; simp only [Nat.zero_add, List.nil_append] at hown)
    obtain ⟨c, d, rfl⟩ := own_val hown
    go_ret
    exact ⟨_, _, rfl, hown, (Below.refl _ _).grown hgrow (Nat.le_refl _) (fun k hk => by cases hk)⟩

/-- A row of other things is no part of a net. -/
theorem Nw.off {w : World} {R M : Nat} {n : Nt} (h : Nw w R M n) {base size k : Nat} {e : TypeId} {v : Value} {xs : List Value} (hr : w.ownsRow base e size v k xs) (he : e ≠ (56 : TypeId)) {g : Nat} (hg : v.ownBlock = some g) : g ≠ R ∧ g ≠ M := by
  rcases hr.2 with ⟨rfl, _⟩ | ⟨g', cap, cur, rfl, _, hh, _⟩
  · cases hg
  · simp only [Value.ownBlock, Option.some.injEq] at hg
    subst hg
    constructor
    · intro e'
      rw [e', h.obj] at hh
      simp only [Option.some.injEq, Obj.cells.injEq] at hh
      exact he hh.2.1.symm
    · intro e'
      obtain ⟨D, hD, _⟩ := h.map
      obtain ⟨es, clock, hb, _⟩ := hD.own
      rw [e', hb] at hh
      cases hh

theorem An.grown {w W Z : World} {R M : Nat} {n : Nt} {row : Option Nat} (h : An w R M n W) (hg : W.grownBy Z row) (hr : ∀ g, row = some g → g ≠ R ∧ g ≠ M ∧ w.heap.size ≤ g) : An w R M n Z :=
  ⟨h.net.heap (hg.block R h.net.lt (fun e => (hr R e.symm).1 rfl)) (hg.block M h.net.mlt (fun e => (hr M e.symm).2.1 rfl)), h.bel.grown hg h.bel.size (fun k hk => (hr k hk).2.2), h.own, h.mown⟩

/-- One int more. -/
theorem ints_next {W : World} {base : Nat} {v : Value} {l : List Int} {k : Nat} (x : Int) (h : W.ownsRow base 3 1 v k (I1 l)) (hb : base ≤ W.heap.size) (hk : k < 1000000) :
    ∃ v' Z, (∀ ty, (Builtin.append_ #[(59 : TypeId), (59 : TypeId)] ty #[v, .slice (some ⟨W.heap.size, 0, none⟩) 1 1]).run Try.prog (W.alloc (.cells #[.int .i64 x] 3)) = .ok v' Z) ∧ Z.ownsRow base 3 1 v' (k + 1) (I1 (l ++ [x])) ∧ (W.alloc (.cells #[.int .i64 x] 3)).grownBy Z v.ownBlock := by
  obtain ⟨i0, hi, hz0, hz1, hz2⟩ := info_parts info3
  have hrow : (W.alloc (.cells #[.int .i64 x] 3)).ownsRow base 3 1 v k (I1 l) := row_tb h ((Tb.refl (fun _ => False) _).alloc _) (fun _ _ h => h)
  obtain ⟨v', Z, hr, ho, hg, _⟩ := run_append_rows (P := Try.prog) base (59 : TypeId) 0 3 i0 (.int .i64 0) 1 8 Try.underlying59 hi hz0 hz1 hz2 rfl (by decide) v _ _ hrow _ 1 [.int .i64 x] 0 (own_one W [.int .i64 x] 1 3 rfl) (by simp [Value.oneCell']) (by unfold maxLen; omega) (by omega) (by simp; omega)
  exact ⟨v', Z, fun ty => hr, by rw [I1_append]; exact ho, hg⟩

/-- The so-manyth body. -/
def Ob (bss : List (List Int)) (k : Int) : Pk := ⟨k - 1, 0, bss.getD (k - 1).toNat []⟩
/-- The net while some are left. -/
def Od (bss : List (List Int)) (l : List Int) (K : Int) : Nt := ⟨l.map (fun k => (k, Ob bss k)), K⟩
def rng (i : Nat) : List Int := (List.range i).map (fun j : Nat => (j : Int) + 1)

theorem rng_length (i : Nat) : (rng i).length = i := by simp [rng]
theorem rng_succ (i : Nat) : rng (i + 1) = rng i ++ [(i : Int) + 1] := by simp [rng, List.range_succ]
theorem rng_up (i : Nat) : (rng i).Pairwise (· < ·) ∧ ∀ k ∈ rng i, 1 ≤ k ∧ k ≤ (i : Int) := by
  induction i with
  | zero => simp [rng]
  | succ i ih =>
    rw [rng_succ]
    refine ⟨List.pairwise_append.2 ⟨ih.1, by simp, fun a ha b hb => ?_⟩, fun k hk => ?_⟩
    · have := ih.2 a ha
      simp only [List.mem_singleton] at hb
      omega
    · rcases List.mem_append.1 hk with h | h
      · have := ih.2 k h
        omega
      · simp only [List.mem_singleton] at h
        omega

theorem od_send (bss : List (List Int)) (i : Nat) (hi : i < 12) (hb : (bss.getD i []).length ≤ 65545) : (Od bss (rng i) i).sendA (bss.getD i []) = ((i : Int) + 1, 0) ∧ (Od bss (rng i) i).sendN i 0 (bss.getD i []) = Od bss (rng (i + 1)) ((i + 1 : Nat) : Int) := by
  have hl : (Od bss (rng i) i).m.length = i := by simp [Od, rng_length]
  unfold Nt.sendA Nt.sendN Nt.putA Nt.putN
  rw [if_neg (by omega), if_neg (by omega), if_neg (by omega), if_neg (by omega)]
  refine ⟨rfl, ?_⟩
  unfold Nt.put
  rw [rng_succ]
  have e : ((i : Int) + 1 - 1).toNat = i := by omega
  simp only [Od, List.map_append, List.map_cons, List.map_nil, Ob, e]
  have e2 : (i : Int) + 1 - 1 = (i : Int) := by omega
  rw [e2]
  simp
theorem od_long (bss : List (List Int)) (l : List Int) (K : Int) (f t : Int) (b : List Int) (hb : ¬ b.length ≤ 65545) : (Od bss l K).sendA b = (0, 3) ∧ (Od bss l K).sendN f t b = Od bss l K := by
  unfold Nt.sendA Nt.sendN
  rw [if_pos (by omega), if_pos (by omega)]
  exact ⟨rfl, rfl⟩

theorem od_lk (bss : List (List Int)) {l : List Int} (K : Int) {k : Int} (h : k ∈ l) : lk (Od bss l K).m k = some (Ob bss k) := by
  simp only [Od]
  induction l with
  | nil => cases h
  | cons x l ih =>
    rw [List.map_cons, lk_cons]
    by_cases e : x = k
    · simp [e]
    · simp only [e, if_false]
      exact ih ((List.mem_cons.1 h).resolve_left (fun h => e h.symm))

theorem filter_erase {l : List Int} (hl : l.Pairwise (· < ·)) (p : Nat) (hp : p < l.length) : l.filter (fun k => !decide (k = l[p])) = l.eraseIdx p := by
  induction l generalizing p with
  | nil => simp at hp
  | cons x l ih =>
    obtain ⟨h1, h2⟩ := List.pairwise_cons.1 hl
    cases p with
    | zero =>
      simp only [List.getElem_cons_zero, List.eraseIdx_cons_zero, List.filter_cons, decide_true, Bool.not_true, Bool.false_eq_true, if_false]
      rw [List.filter_eq_self]
      intro k hk
      have := h1 k hk
      simp
      omega
    | succ p =>
      have hp' : p < l.length := by simpa using hp
      have hx : x ≠ l[p] := fun e => by have := h1 _ (List.getElem_mem hp'); omega
      simp only [List.getElem_cons_succ, List.eraseIdx_cons_succ, List.filter_cons, hx, decide_false, Bool.not_false, if_true]
      rw [ih h2 p hp']

theorem od_drop (bss : List (List Int)) {l : List Int} (K : Int) (hl : l.Pairwise (· < ·)) (p : Nat) (hp : p < l.length) : (Od bss l K).drop l[p] = Od bss (l.eraseIdx p) K := by
  unfold Nt.drop Od dl
  simp only [Nt.mk.injEq, and_true]
  rw [List.filter_map, ← filter_erase hl p hp]
  rfl

/-- append(l[:p:p], l[p+1:]...): what it leaves. -/
theorem erase_run {W : World} {b off n cap p : Nat} {l : List Int} (h : Is W (some ⟨b, off, none⟩) n cap l) (hp : p < n) (hn : n ≤ 1000) (sa : Addr) (hsa : sa = if cap = p + 1 then (⟨b, off, none⟩ : Addr) else ⟨b, off + (p + 1), none⟩) :
    ∃ a' c' Z, (∀ ty, (Builtin.append_ #[(59 : TypeId), (59 : TypeId)] ty #[.slice (some ⟨b, off, none⟩) p p, .slice (some sa) (n - (p + 1)) (cap - (p + 1))]).run Try.prog W = .ok (.slice a' (n - 1) c') Z) ∧ Is Z a' (n - 1) c' (l.eraseIdx p) ∧ (∀ ad, a' = some ad → ad.block = b ∨ W.heap.size ≤ ad.block) ∧ Below W.heap.size W Z := by
  obtain ⟨i0, hi, hz0, hz1, hz2⟩ := info_parts info3
  have hl := h.len
  have hle := h.le
  have hre := h.reach
  have hsrc := h.src
  obtain ⟨b', off', e, hc⟩ := h.lies (by omega)
  simp only [Option.some.injEq, Addr.mk.injEq, and_true] at e
  obtain ⟨rfl, rfl⟩ := e
  have hel : (l.eraseIdx p).length = n - 1 := by rw [List.length_eraseIdx_of_lt (by omega)]; omega
  by_cases h0 : n - (p + 1) = 0
  · have hnp : n - 1 = p := by omega
    refine ⟨some ⟨b, off, none⟩, p, W, fun ty => ?_, ?_, fun ad e => by cases e; exact .inl rfl, Below.refl _ _⟩
    · rw [h0, hnp]
      simp [Builtin.append_, run_underlying Try.underlying59, sizeOf, typeInfo, hi, Builtin.lenOf, Builtin.firstCells, loadCells, loadCellsFrom, storeCells]
    · refine ⟨hel, by omega, by omega, fun _ => ⟨b, off, rfl, fun i hi => ?_⟩⟩
      rw [hc i (by omega)]
      have : (l.eraseIdx p).getD i 0 = l.getD i 0 := by simp [List.getD, List.getElem?_eraseIdx, show i < p by omega]
      rw [this]
  · have e1 : sa = ⟨b, off + (p + 1), none⟩ := by rw [hsa, if_neg (by omega)]
    subst e1
    have xs : ∀ j u, (I1 (l.take p))[j]? = some u → W.cell? ((⟨b, off, none⟩ : Addr).add j) = some u := fun j u hu => hsrc j u (by
      simp only [I1, List.map_take] at hu ⊢
      rw [List.getElem?_take] at hu
      split at hu
      · exact hu
      · cases hu)
    have ys : ∀ j u, (I1 (l.drop (p + 1)))[j]? = some u → W.cell? ((⟨b, off + (p + 1), none⟩ : Addr).add j) = some u := fun j u hu => by
      have := hsrc (p + 1 + j) u (by simp only [I1, List.map_drop] at hu ⊢; rw [List.getElem?_drop] at hu; exact hu)
      rw [Addr.add_mid] at this ⊢
      rw [show off + (p + 1) + j = off + (p + 1 + j) from by omega]
      exact this
    have hr := fun ty => run_append_grow (P := Try.prog) W (59 : TypeId) ty 3 i0 (.int .i64 0) Try.underlying59 hi hz0 ⟨b, off, none⟩ p p (I1 (l.take p)) (by rw [hz1, I1_length, List.length_take]; omega) xs ⟨b, off + (p + 1), none⟩ (n - (p + 1)) (cap - (p + 1)) (I1 (l.drop (p + 1))) (by rw [hz1, I1_length, List.length_drop]; omega) ys (by omega) (by omega) (growslice_fits (by omega) (by rw [hz2]; omega))
    have hsum : p + (n - (p + 1)) = n - 1 := by omega
    rw [hsum] at hr
    have hge := grownCap_ge W (n - 1) p 3
    have hcm : grownCap W (n - 1) p 3 ≤ maxLen := grownCap_le_maxLen W (n - 1) p 3 (by unfold maxLen; omega)
    refine ⟨_, _, _, hr, ?_, fun ad e => by cases e; exact .inr (Nat.le_refl _), ((Below.refl _ W).drew).alloc (Nat.le_refl _) _⟩
    refine ⟨hel, hge, by unfold maxLen at hcm; omega, fun _ => ⟨W.heap.size, 0, rfl, fun i hi => ?_⟩⟩
    rw [cell_of_row _ W.heap.size (0 + i) _ 3 (0, 0) (heap_alloc_new W.drew _)]
    have hcat : I1 (l.take p) ++ I1 (l.drop (p + 1)) = I1 (l.eraseIdx p) := by rw [← I1_append, List.eraseIdx_eq_take_drop_succ]
    rw [← Array.getElem?_toList, Array.toList_append, Array.toList_append]
    simp only [Nat.zero_add]
    rw [hcat, List.getElem?_append_left (by rw [I1_length, hel]; exact hi)]
    simp [I1, List.getD, List.getElem?_eq_getElem (by omega : i < (l.eraseIdx p).length)]

end Go.Proofs.Ythakbelcefogaaa

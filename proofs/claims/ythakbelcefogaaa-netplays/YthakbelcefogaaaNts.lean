/-
  The document's net: lists that are copied and grow; put.
-/
import Derived.Test.YthakbelcefogaaaNtr
import Derived.Test.YthakbelcefogaaaCpy
namespace Go.Proofs.Ythakbelcefogaaa
open Go.RowKit
set_option maxRecDepth 100000

theorem size40 : (Try.prog.info? (40 : TypeId)).map (·.size) = some 2 := by kernel_rfl

theorem results_cell_tmp2 {P : Program} {fn : Func} {p q r : Tmp} {ty : TypeId} (h : fn.results = #[.cell p ty, .tmp q, .tmp r]) (tmps : Array Value) (w : World) (g : Nat) (t : TypeId) (cs : Array Value) (fr : Nat × Nat) (d : TypeDesc) (x y : Value)
    (hp : tmps.getD p undef = .pointer (some ⟨g, 0, none⟩)) (hq : tmps.getD q undef = x) (hr : tmps.getD r undef = y) (hg : w.heap[g]? = some (.cells cs t fr))
    (hu : P.underlying ty = some d) (hd : (match d with | .struct _ | .array _ _ => true | _ => false) = true) (hi : (P.info? ty).map (·.size) = some cs.size) :
    (results fn tmps).run P w = .ok (.tuple #[.agg cs, x, y]) w := by
  have hp' : tmps[p]?.getD undef = .pointer (some ⟨g, 0, none⟩) := by simpa using hp
  have hq' : tmps[q]?.getD undef = x := by simpa using hq
  have hr' : tmps[r]?.getD undef = y := by simpa using hr
  simp [results, h, hp', hq', hr', asAddr, run_loadVar_row w g t ty cs fr d hg hu hd hi]

theorem flat_length (ts : List Pt) : (ts.flatMap Pt.cells).length = ts.length * 4 := by
  induction ts with
  | nil => rfl
  | cons t ts ih => rw [List.flatMap_cons, List.length_append, ih]; simp [Pt.cells]; omega
theorem flat_one (ts : List Pt) : ∀ u ∈ ts.flatMap Pt.cells, u.oneCell' = true := fun u hu => by
  obtain ⟨t, _, h⟩ := List.mem_flatMap.1 hu
  exact t.one u h

/-- append(nil, l...) -/
theorem pl_copy {W : World} {F : Nat → Prop} {a : Option Addr} {n cap : Nat} {ts : List Pt} {l : List (Int × Pk)} (h : Pl W F a n cap ts l) (hn : n ≤ 1000) :
    ∃ v' Z, (∀ ty, (Builtin.append_ #[(34 : TypeId), (34 : TypeId)] ty #[.slice none 0 0, .slice a n cap]).run Try.prog W = .ok v' Z) ∧ Z.ownsRow W.heap.size (31 : TypeId) 4 v' n (ts.flatMap Pt.cells) ∧ Below W.heap.size W Z := by
  obtain ⟨i, z, hi, hz, h1, h2, h3⟩ := info31
  have ht := h.tl
  by_cases h0 : n = 0
  · subst h0
    have hts : ts = [] := List.eq_nil_of_length_eq_zero ht
    subst hts
    refine ⟨.slice none 0 0, W, fun ty => ?_, World.ownsRow_nil _ _ _ _, Below.refl _ _⟩
    cases a <;> simp [Builtin.append_, run_underlying Try.underlying34, sizeOf, typeInfo, hi, Builtin.lenOf, Builtin.firstCells, loadCells, loadCellsFrom]
  · obtain ⟨b, off, rfl⟩ := h.spot (by omega)
    obtain ⟨_, hc⟩ := h.lies (by omega) b off rfl
    obtain ⟨v', Z, hr, ho, hg, _⟩ := run_append_own_at (P := Try.prog) W W.heap.size (34 : TypeId) 0 (31 : TypeId) i z 4 48 Try.underlying34 hi hz h1 h2 h3 (by decide) (.slice none 0 0) 0 [] (World.ownsRow_nil _ _ _ _) ⟨b, off, none⟩ n cap (ts.flatMap Pt.cells) (by rw [flat_length, ht]) (fun j u hu => by rw [Addr.add_mid]; exact hc j u hu) (flat_one ts) (by unfold maxLen; omega) (by omega) (Nat.le_refl _)
    rw [Nat.zero_add, List.nil_append] at ho
    exact ⟨v', Z, fun ty => hr, ho, (Below.refl _ W).grown hg (Nat.le_refl _) (fun k hk => by cases hk)⟩

/-- A row of one's own, read. -/
theorem pl_of_row {Z : World} {F : Nat → Prop} {base n cap : Nat} {a : Option Addr} {ts : List Pt} {l : List (Int × Pk)} (h : Z.ownsRow base (31 : TypeId) 4 (.slice a n cap) n (ts.flatMap Pt.cells)) (hF : ∀ g, base ≤ g → F g) (hl : l.length = n)
    (his : ∀ (i : Nat) (t : Pt) (q : Int × Pk), ts[i]? = some t → l[i]? = some q → t.no = q.1 ∧ t.fr = q.2.fr ∧ t.to = q.2.to ∧ Bs Z t.a t.ln t.cap q.2.bd ∧ ∀ ad, t.a = some ad → F ad.block ∧ ad.block < Z.heap.size) : Pl Z F a n cap ts l := by
  have h1 := h.1
  rw [flat_length] at h1
  rcases h.2 with ⟨hv, h0⟩ | ⟨g, c, cur, hv, hb, hg, hn, hm, _⟩
  · simp only [Value.slice.injEq] at hv
    obtain ⟨rfl, rfl, rfl⟩ := hv
    exact ⟨hl, by omega, Nat.le_refl _, by omega, fun _ => rfl, fun h => by omega, fun h => by omega, his⟩
  · have hcl := h.cells (g := g)
    simp only [Value.slice.injEq] at hv
    obtain ⟨rfl, _, rfl⟩ := hv
    unfold maxLen at hm
    refine ⟨hl, by omega, hn, by omega, fun e => (by cases e), fun _ b off e => ?_, fun _ => ⟨g, 0, rfl⟩, his⟩
    cases e
    refine ⟨hF g hb, fun j u hu => ?_⟩
    have := hcl rfl j u hu
    rw [Addr.add_mid] at this
    exact this

end Go.Proofs.Ythakbelcefogaaa

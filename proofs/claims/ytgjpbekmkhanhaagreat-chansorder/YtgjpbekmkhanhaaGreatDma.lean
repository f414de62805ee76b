/-
  Maps whose elements are held as they are: how they read, what the operations on them do.
-/
import Derived.Test.YtgjpbekmkhanhaaGreatBas
import Derived.Maps.OwnIn
import Derived.Maps.RangeWalk
namespace Go.Proofs.YtgjpbekmkhanhaaGreat
open Go.RowKit
set_option maxRecDepth 100000

/-- An element as it is. -/
def hold (v : Value) : Option (DataW Value × List MemPlace) := some (.held v, [])

/-- What a map has at a key. -/
def gt (D : DataW Value) (k : Lit) : Option Value := match D.atKey k .nil with
  | .held v => some v
  | _ => none

/-- Block b is a map that reads as D. -/
structure Mp (w : World) (kt : TypeId) (b : Nat) (D : DataW Value) : Prop where
  own : w.ownsMap Tryz.prog kt hold b (Maps.size D) D

section
variable {w w' : World} {kt : TypeId} {b n : Nat} {D : DataW Value} {kl : Lit}

theorem Mp.of (h : w.ownsMap Tryz.prog kt hold b n D) : Mp w kt b D := by
  obtain ⟨es, clock, hb, F, hs, rfl⟩ := h
  exact ⟨es, clock, hb, F, by simp [Maps.size, length_sorted], rfl⟩

theorem Mp.lt (h : Mp w kt b D) : b < w.heap.size := h.own.lt
theorem Mp.isMap (h : Mp w kt b D) : Maps.IsMap D := h.own.isMap

theorem Mp.heap (h : Mp w kt b D) (e : w'.heap[b]? = w.heap[b]?) : Mp w' kt b D := by
  obtain ⟨es, clock, hb, r⟩ := h.own
  exact ⟨es, clock, e.trans hb, r⟩

/-- Every element is held. -/
theorem Mp.at (h : Mp w kt b D) (K : Maps.Keyed Tryz.prog kt) {key : Value} (hkey : keyOf Tryz.prog kt key = some kl) : (D.atKey kl .nil = .nil ∧ gt D kl = none ∧ Maps.has D kl = false) ∨ ∃ v, (∀ z, D.atKey kl z = .held v) ∧ gt D kl = some v ∧ Maps.has D kl = true := by
  by_cases hh : Maps.has D kl = true
  · obtain ⟨es, clock, hb, F, _, rfl⟩ := h.own
    obtain ⟨p, hp, hpk⟩ := List.any_eq_true.1 hh
    obtain ⟨x, hx, rfl⟩ := List.mem_map.1 (mem_sorted.1 hp)
    obtain ⟨y, hy⟩ := F.reads x hx
    have hk1 : y.1 = kl := by
      have := WideAt.sameKey_eq hpk
      rwa [WideElems.rg_of hy] at this
    obtain ⟨z, hz, hzd⟩ := WideElems.rd_val hy
    have hv : z.1 = .held x.val := by
      have : hold x.val = some (.held x.val, []) := rfl
      rw [this] at hz
      cases hz
      rfl
    have hat : ∀ zd, (DataW.map ((es.toList.map (WideElems.rg Tryz.prog kt hold)).foldr DataW.insert [])).atKey kl zd = .held x.val := fun zd => by
      rw [(WideShapes.atKey_sorted (es.toList.map (WideElems.rg Tryz.prog kt hold)) (Maps.fit_rising K F) kl (K.key hkey)).2 (WideElems.rg Tryz.prog kt hold x) (List.mem_map.2 ⟨x, hx, rfl⟩) (by rw [WideElems.rg_of hy]; exact hk1), WideElems.rg_of hy, ← hv, ← hzd]
    exact .inr ⟨x.val, hat, by simp [gt, hat], hh⟩
  · have hf : Maps.has D kl = false := by simpa using hh
    have := Maps.atKey_of_not_has hf (.nil : DataW Value)
    exact .inl ⟨this, by simp [gt, this], hf⟩

/-- m[k], of a key that may not be there. -/
theorem Mp.look {t e : TypeId} {z : Value} (h : Mp w kt b D) (K : Maps.Keyed Tryz.prog kt) (ht : Tryz.prog.underlying t = some (.map kt e)) (hz : (zeroValue e).run Tryz.prog w = .ok z w) {key : Value} (hkey : keyOf Tryz.prog kt key = some kl) :
    (Instr.lookup t (.map (some b)) key false).run Tryz.prog w = .ok ((gt D kl).getD z) w := by
  obtain ⟨v, ps, hrun, hv⟩ := h.own.lookup K ht hz (zd := .held z) (zp := []) rfl hkey
  rcases h.at K hkey with ⟨_, h2, h3⟩ | ⟨u, h1, h2, _⟩
  · rw [Maps.atKey_of_not_has h3] at hv
    simp only [hold, Option.some.injEq, Prod.mk.injEq, DataW.held.injEq] at hv
    rw [hrun, h2, hv.1]
    rfl
  · rw [h1] at hv
    simp only [hold, Option.some.injEq, Prod.mk.injEq, DataW.held.injEq] at hv
    rw [hrun, h2, hv.1]
    rfl

theorem Mp.look_ok {t e : TypeId} {z : Value} (h : Mp w kt b D) (K : Maps.Keyed Tryz.prog kt) (ht : Tryz.prog.underlying t = some (.map kt e)) (hz : (zeroValue e).run Tryz.prog w = .ok z w) {key : Value} (hkey : keyOf Tryz.prog kt key = some kl) :
    (Instr.lookup t (.map (some b)) key true).run Tryz.prog w = .ok (.tuple #[(gt D kl).getD z, .bool (gt D kl).isSome]) w := by
  obtain ⟨v, ps, hrun, hv⟩ := h.own.look_ok K ht hz (zd := .held z) (zp := []) rfl hkey
  rcases h.at K hkey with ⟨_, h2, h3⟩ | ⟨u, h1, h2, h3⟩
  · rw [Maps.atKey_of_not_has h3] at hv
    simp only [hold, Option.some.injEq, Prod.mk.injEq, DataW.held.injEq] at hv
    rw [hrun, h2, hv.1, h3]
    rfl
  · rw [h1] at hv
    simp only [hold, Option.some.injEq, Prod.mk.injEq, DataW.held.injEq] at hv
    rw [hrun, h2, hv.1, h3]
    rfl

theorem Mp.store {t e : TypeId} (h : Mp w kt b D) (K : Maps.Keyed Tryz.prog kt) (ht : Tryz.prog.underlying t = some (.map kt e)) (hn : Maps.size D < maxLen) {key : Value} (hkey : keyOf Tryz.prog kt key = some kl) (val : Value) :
    ∃ w', (Instr.mapUpdate t (.map (some b)) key val).run Tryz.prog w = .ok () w' ∧ Mp w' kt b (D.put kl (.held val)) ∧ w.mapTurned w' b := by
  obtain ⟨w', hrun, r1, r2⟩ := h.own.store K ht hn hkey (val := val) (d := .held val) (ps := []) rfl
  exact ⟨w', hrun, .of r1, r2⟩

theorem Mp.drop {t e : TypeId} (h : Mp w kt b D) (K : Maps.Keyed Tryz.prog kt) (ht : Tryz.prog.underlying t = some (.map kt e)) {key : Value} (hkey : keyOf Tryz.prog kt key = some kl) (ty : TypeId) :
    ∃ w', (Builtin.delete_ #[t, kt] ty #[.map (some b), key]).run Tryz.prog w = .ok (.tuple #[]) w' ∧ Mp w' kt b (D.del kl) ∧ w.mapTurned w' b := by
  obtain ⟨w', hrun, r1, r2⟩ := h.own.drop K ht hkey ty
  exact ⟨w', hrun, .of r1, r2⟩

theorem Mp.len {t e : TypeId} (h : Mp w kt b D) (ht : Tryz.prog.underlying t = some (.map kt e)) (ty : TypeId) : (Builtin.len_ #[t] ty #[.map (some b)]).run Tryz.prog w = .ok (.int .i64 (Maps.size D)) w := h.own.len ht ty

theorem gt_put_same (h : Maps.IsMap D) (hk : WideAt.IsKeyLit kl) (v : Value) : gt (D.put kl (.held v)) kl = some v := by
  simp [gt, Maps.atKey_put_same h hk]
theorem gt_put_other {k' : Lit} (hne : k' ≠ kl) (v : Value) : gt (D.put kl (.held v)) k' = gt D k' := by
  simp [gt, Maps.atKey_put_other hne]
theorem gt_del_same : gt (D.del kl) kl = none := by
  simp [gt, Maps.atKey_del_same]
theorem gt_del_other {k' : Lit} (hne : k' ≠ kl) : gt (D.del kl) k' = gt D k' := by
  simp [gt, Maps.atKey_del_other hne]
end

/-! ### Lists of pairs -/
/-- What a list of pairs has at a key. -/
def lk {κ ν : Type} [DecidableEq κ] (l : List (κ × ν)) (k : κ) : Option ν := (l.find? fun p => decide (p.1 = k)).map (·.2)
/-- Without a key. -/
def dl {κ ν : Type} [DecidableEq κ] (l : List (κ × ν)) (k : κ) : List (κ × ν) := l.filter fun p => !decide (p.1 = k)
/-- With a key. -/
def st {κ ν : Type} [DecidableEq κ] (l : List (κ × ν)) (k : κ) (v : ν) : List (κ × ν) := dl l k ++ [(k, v)]
/-- No key twice. -/
def Un {κ ν : Type} (l : List (κ × ν)) : Prop := l.Pairwise fun p q => p.1 ≠ q.1

section
variable {κ ν : Type} [DecidableEq κ] {l : List (κ × ν)} {k k' : κ} {v : ν}

theorem lk_nil : lk ([] : List (κ × ν)) k = none := rfl
theorem lk_cons (p : κ × ν) : lk (p :: l) k = if p.1 = k then some p.2 else lk l k := by
  unfold lk
  rw [List.find?_cons]
  by_cases h : p.1 = k <;> simp [h]
theorem lk_append (m : List (κ × ν)) : lk (l ++ m) k = (lk l k).or (lk m k) := by
  induction l with
  | nil => simp [lk_nil]
  | cons p l ih =>
    rw [List.cons_append, lk_cons, lk_cons, ih]
    by_cases h : p.1 = k <;> simp [h]
theorem lk_dl_same : lk (dl l k) k = none := by
  induction l with
  | nil => rfl
  | cons p l ih =>
    unfold dl at ih ⊢
    rw [List.filter_cons]
    by_cases h : p.1 = k
    · simp [h, ih]
    · simp [h, lk_cons, ih]
theorem lk_dl_other (hne : k' ≠ k) : lk (dl l k) k' = lk l k' := by
  induction l with
  | nil => rfl
  | cons p l ih =>
    unfold dl at ih ⊢
    rw [List.filter_cons]
    by_cases h : p.1 = k
    · have : p.1 ≠ k' := fun e => hne (e.symm.trans h)
      simp only [h, decide_true, Bool.not_true, Bool.false_eq_true, if_false, ih]
      rw [lk_cons, if_neg this]
    · simp only [h, decide_false, Bool.not_false, if_true]
      rw [lk_cons, lk_cons, ih]
theorem lk_st_same : lk (st l k v) k = some v := by
  unfold st
  rw [lk_append, lk_dl_same, lk_cons]
  simp
theorem lk_st_other (hne : k' ≠ k) : lk (st l k v) k' = lk l k' := by
  unfold st
  rw [lk_append, lk_dl_other hne, lk_cons, lk_nil, if_neg (fun e => hne e.symm)]
  simp
theorem lk_none_iff : lk l k = none ↔ ∀ p ∈ l, p.1 ≠ k := by
  unfold lk
  simp
theorem lk_mem (h : lk l k = some v) : (k, v) ∈ l := by
  unfold lk at h
  obtain ⟨p, hp, rfl⟩ := Option.map_eq_some_iff.1 h
  have h1 := List.mem_of_find?_eq_some hp
  have h2 := List.find?_some hp
  simp only [decide_eq_true_eq] at h2
  subst h2
  exact h1
theorem Un.dl (h : Un l) (k : κ) : Un (dl l k) := List.Pairwise.filter _ h
theorem Un.st (h : Un l) (k : κ) (v : ν) : Un (st l k v) := by
  refine List.pairwise_append.2 ⟨h.dl k, by simp, fun p hp q hq => ?_⟩
  simp only [List.mem_singleton] at hq
  subst hq
  simp only [Proofs.YtgjpbekmkhanhaaGreat.dl, List.mem_filter, Bool.not_eq_true', decide_eq_false_iff_not] at hp
  exact hp.2
theorem dl_length (h : Un l) : (dl l k).length + (if (lk l k).isSome then 1 else 0) = l.length := by
  induction l with
  | nil => rfl
  | cons p l ih =>
    obtain ⟨h1, h2⟩ := List.pairwise_cons.1 h
    have ih := ih h2
    by_cases e : p.1 = k
    · have hn : lk l k = none := lk_none_iff.2 (fun q hq => by
        have := h1 q hq
        rw [e] at this
        exact fun x => this x.symm)
      rw [hn] at ih
      simp only [Option.isSome_none, Bool.false_eq_true, if_false, Nat.add_zero] at ih
      rw [lk_cons, if_pos e]
      unfold dl at ih ⊢
      rw [List.filter_cons]
      simp [e, ih]
    · rw [lk_cons, if_neg e]
      unfold dl at ih ⊢
      rw [List.filter_cons]
      simp only [e, decide_false, Bool.not_false, if_true, List.length_cons]
      omega
theorem mem_lk (hu : Un l) (h : (k, v) ∈ l) : lk l k = some v := by
  induction l with
  | nil => cases h
  | cons p l ih =>
    obtain ⟨h1, h2⟩ := List.pairwise_cons.1 hu
    rw [lk_cons]
    rcases List.mem_cons.1 h with e | h'
    · subst e
      simp
    · rw [if_neg (h1 _ h'), ih h2 h']
end

end Go.Proofs.YtgjpbekmkhanhaaGreat

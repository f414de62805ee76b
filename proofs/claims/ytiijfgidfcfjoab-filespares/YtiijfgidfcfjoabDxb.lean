/-
  A file that is put whole on a disk on which all is synced, and synced: the disk as lists.
-/
import Derived.Test.YtiijfgidfcfjoabDxa
namespace Go.Proofs.Ytiijfgidfcfjoab
open Go.RowKit
set_option maxRecDepth 100000
set_option linter.unusedVariables false

/-- A disk on which all is synced. -/
def calm (s : Shp) (m n : Int) : Dsk := ⟨s, s, [], n, m, false, -1, -1, 0⟩

/-- The steps that put sectors, from a place on. -/
def puts (f n : Int) : List (List Int) → Nat → List Stp
  | [], _ => []
  | r :: rs, i => (putStp f (i : Int) r).num (n + (i : Int)) :: puts f n rs (i + 1)

theorem puts_snoc (f n : Int) (rs : List (List Int)) (r : List Int) (i : Nat) : puts f n (rs ++ [r]) i = puts f n rs i ++ [(putStp f ((i + rs.length : Nat) : Int) r).num (n + ((i + rs.length : Nat) : Int))] := by
  induction rs generalizing i with
  | nil => simp [puts]
  | cons x rs ih =>
    simp only [List.cons_append, puts, ih, List.length_cons]
    rw [show i + 1 + rs.length = i + (rs.length + 1) by omega]

/-- A disk with one file more, whose steps are not synced. -/
def more (s0 : Shp) (m n : Int) (s : ByteArray) (rs : List (List Int)) : Dsk :=
  ⟨s0, ⟨st s0.nm s.data.toList (m + 1), st s0.rw (m + 1) rs⟩, (madeStp (m + 1) s).num (n + 1) :: puts (m + 1) (n + 2) rs 0, n + 1 + (rs.length : Int), m + 1, false, -1, -1, 0⟩

theorem st_st {κ ν : Type} [DecidableEq κ] (l : List (κ × ν)) (k : κ) (v u : ν) : st (st l k v) k u = st l k u := by
  unfold st dl
  rw [List.filter_append, List.filter_filter]
  simp

theorem putIn_last (r : List (List Int)) (d : List Int) : putIn r r.length d = r ++ [d] := by
  unfold putIn
  rw [show r.length + 1 - r.length = 1 by omega]
  simp

/-- What a synced disk is to be, so that a new file goes on it. -/
structure Cl (s0 : Shp) (m : Int) (s : ByteArray) : Prop where
  pos : 0 ≤ m
  nm : lk s0.nm s.data.toList = none
  rw : lk s0.rw (m + 1) = none
  no : lk s0.rw 0 = none
  few : s0.nm.length < 200

section
variable {s0 : Shp} {m n : Int} {s : ByteArray} {rs : List (List Int)} {r : List Int}

theorem Cl.makes (h : Cl s0 m s) (k : Int) : s0.does ((madeStp (m + 1) s).num k) = ⟨st s0.nm s.data.toList (m + 1), st s0.rw (m + 1) []⟩ := by
  unfold Shp.does
  simp only [madeStp, Stp.num, Shp.take, if_true]
  rw [h.nm]
  simp only [Option.getD_none]
  rw [dl_none (lk_none_iff.1 h.nm), dl_none (lk_none_iff.1 h.no)]

theorem does_put (nm : List (List UInt8 × Int)) (l : List (Int × List (List Int))) (f k : Int) (x : List (List Int)) (d : List Int) : (⟨nm, st l f x⟩ : Shp).does ((putStp f ((x.length : Nat) : Int) d).num k) = ⟨nm, st l f (x ++ [d])⟩ := by
  unfold Shp.does
  rw [if_neg (by simp [putStp, Stp.num]), if_pos (by simp [putStp, Stp.num])]
  simp only [putStp, Stp.num, Shp.put]
  rw [lk_st_same]
  simp only [Int.toNat_natCast]
  rw [putIn_last, st_st]

theorem fold_puts (nm : List (List UInt8 × Int)) (l : List (Int × List (List Int))) (f k : Int) : ∀ (ys x : List (List Int)), (puts f k ys x.length).foldl Shp.does ⟨nm, st l f x⟩ = ⟨nm, st l f (x ++ ys)⟩ := by
  intro ys
  induction ys with
  | nil => intro x; simp [puts]
  | cons y ys ih =>
    intro x
    simp only [puts, List.foldl_cons]
    rw [does_put]
    have := ih (x ++ [y])
    rw [List.length_append, List.length_singleton] at this
    rw [this, List.append_assoc]
    rfl

theorem scs_puts (f k : Int) : ∀ (ys : List (List Int)) (i : Nat), scs (puts f k ys i) f = puts f k ys i := by
  intro ys
  induction ys with
  | nil => intro i; rfl
  | cons y ys ih =>
    intro i
    have := ih (i + 1)
    unfold scs at this ⊢
    simp only [puts]
    rw [List.filter_cons, if_pos (by simp [Stp.sec, putStp, Stp.num]), this]

theorem nms_puts (f k : Int) : ∀ (ys : List (List Int)) (i : Nat), nms (puts f k ys i) = [] := by
  intro ys
  induction ys with
  | nil => intro i; rfl
  | cons y ys ih =>
    intro i
    have := ih (i + 1)
    unfold nms at this ⊢
    simp only [puts]
    rw [List.filter_cons, if_neg (by simp [Stp.sec, putStp, Stp.num]), this]

theorem offS_puts (f k : Int) : ∀ (ys : List (List Int)) (i : Nat), offS (puts f k ys i) f = [] := by
  intro ys
  induction ys with
  | nil => intro i; rfl
  | cons y ys ih =>
    intro i
    have := ih (i + 1)
    unfold offS at this ⊢
    simp only [puts]
    rw [List.filter_cons, if_neg (by simp [Stp.sec, putStp, Stp.num]), this]

theorem put_first (h : Cl s0 m s) (hs : 1 ≤ s.size ∧ s.size ≤ 64) : (calm s0 m n).put s 0 64 r = (0, more s0 m n s [r]) := by
  have hf : (calm s0 m n).find s = 0 := by unfold Dsk.find calm; rw [h.nm]; rfl
  have hfew := h.few
  unfold Dsk.put
  rw [hf, if_neg (by simp only [calm]; rw [h.no]; simp; omega), if_neg (by simp only [calm]; omega)]
  have hb : (calm s0 m n).begin = (0, calm s0 m n) := rfl
  rw [hb]
  simp only [ne_eq, not_true_eq_false, if_false, if_true]
  unfold Dsk.do more
  simp only [calm, List.nil_append]
  congr 1
  have e3 : (⟨st s0.nm s.data.toList (m + 1), st s0.rw (m + 1) []⟩ : Shp).does (putStp (m + 1) 0 r) = ⟨st s0.nm s.data.toList (m + 1), st s0.rw (m + 1) [r]⟩ := by
    have := does_put (st s0.nm s.data.toList (m + 1)) s0.rw (m + 1) 0 [] r
    exact this
  rw [Dsk.mk.injEq]
  refine ⟨rfl, ?_, ?_, ?_, rfl, rfl, rfl, rfl, rfl⟩
  · have e4 : s0.does (madeStp (m + 1) s) = ⟨st s0.nm s.data.toList (m + 1), st s0.rw (m + 1) []⟩ := h.makes 0
    rw [e4]
    exact e3
  · simp only [puts, List.cons_append, List.nil_append]
    rw [show n + 1 + 1 = n + 2 + ((0 : Nat) : Int) by omega]
    rfl
  · simp

theorem put_next (h : Cl s0 m s) (hs : 1 ≤ s.size ∧ s.size ≤ 64) (hr : rs.length < 4096) : (more s0 m n s rs).put s (rs.length : Int) 64 r = (0, more s0 m n s (rs ++ [r])) := by
  have hf : (more s0 m n s rs).find s = m + 1 := by unfold Dsk.find more; simp only; rw [lk_st_same]; rfl
  have hm := h.pos
  unfold Dsk.put
  rw [hf, if_neg (by simp only [more]; rw [lk_st_same]; simp; omega), if_neg (by omega)]
  have hb : (more s0 m n s rs).begin = (0, more s0 m n s rs) := rfl
  rw [hb]
  simp only [ne_eq, not_true_eq_false, if_false]
  rw [if_neg (by omega)]
  unfold Dsk.do more
  congr 1
  rw [Dsk.mk.injEq]
  refine ⟨rfl, ?_, ?_, ?_, rfl, rfl, rfl, rfl, rfl⟩
  · exact does_put _ _ _ 0 _ _
  · rw [puts_snoc]
    simp only [List.cons_append, Nat.zero_add]
    have e : n + 1 + (rs.length : Int) + 1 = n + 2 + (rs.length : Int) := by omega
    rw [e]
  · simp
    omega

theorem sync_more (h : Cl s0 m s) : (more s0 m n s rs).sync s = (0, calm ⟨st s0.nm s.data.toList (m + 1), st s0.rw (m + 1) rs⟩ (m + 1) (n + 1 + (rs.length : Int))) := by
  have hf : (more s0 m n s rs).find s = m + 1 := by unfold Dsk.find more; simp only; rw [lk_st_same]; rfl
  have hm := h.pos
  unfold Dsk.sync
  rw [hf, if_neg (by omega)]
  have hb : (more s0 m n s rs).begin = (0, more s0 m n s rs) := rfl
  rw [hb]
  simp only [ne_eq, not_true_eq_false, if_false]
  have hn : nms (more s0 m n s rs).l = [(madeStp (m + 1) s).num (n + 1)] := by
    have := nms_puts (m + 1) (n + 2) rs 0
    unfold nms at this ⊢
    simp only [more]
    rw [List.filter_cons, if_pos (by simp [Stp.sec, madeStp, Stp.num]), this]
  have ht : toMake (m + 1) [(madeStp (m + 1) s).num (n + 1)] = 1 := by
    unfold toMake
    simp [List.findIdx?_cons, Stp.makes, madeStp, Stp.num]
  have ho : offN 1 (more s0 m n s rs).l = puts (m + 1) (n + 2) rs 0 := by
    simp only [more, offN]
    rw [if_neg (by simp [Stp.sec, madeStp, Stp.num])]
  unfold Dsk.settled
  rw [hn, ht, ho, scs_puts, offS_puts]
  simp only [List.take_succ_cons, List.take_zero, List.foldl_cons, List.foldl_nil]
  have e1 : (more s0 m n s rs).dur = s0 := rfl
  rw [e1, h.makes]
  have e2 := fold_puts (st s0.nm s.data.toList (m + 1)) s0.rw (m + 1) (n + 2) rs []
  simp only [List.length_nil, List.nil_append] at e2
  rw [e2]
  rfl

/-- Rows of sectors. -/
def Gx (rs : List (List Int)) : Prop := rs.length ≤ 4096 ∧ ∀ x ∈ rs, x.length = 64 ∧ ∀ z ∈ x, 0 ≤ z ∧ z ≤ 255

theorem Sm.st {s0 : Shp} {K : Nat} (h : Sm s0 K) {k : List UInt8} {f : Int} (hf : I6 f) {rs : List (List Int)} (hr : Gx rs) : Sm ⟨st s0.nm k f, st s0.rw f rs⟩ (K + 1) := by
  refine ⟨Nat.le_trans (st_le _ _ _) (by have := h.nm; omega), Nat.le_trans (st_le _ _ _) (by have := h.rw; omega), fun p hp => ?_, fun p hp => ?_⟩
  · unfold Go.Proofs.Ytiijfgidfcfjoab.st dl at hp
    rcases List.mem_append.1 hp with hp | hp
    · exact h.file p ((List.mem_filter.1 hp).1)
    · simp only [List.mem_singleton] at hp
      subst hp
      exact hf
  · unfold Go.Proofs.Ytiijfgidfcfjoab.st dl at hp
    rcases List.mem_append.1 hp with hp | hp
    · exact h.row p ((List.mem_filter.1 hp).1)
    · simp only [List.mem_singleton] at hp
      subst hp
      exact hr

theorem file_st {s0 : Shp} (h : ∀ p ∈ s0.nm, 0 ≤ p.2) {k : List UInt8} {f : Int} (hf : 0 ≤ f) : ∀ p ∈ st s0.nm k f, 0 ≤ p.2 := by
  intro p hp
  unfold st dl at hp
  rcases List.mem_append.1 hp with hp | hp
  · exact h p ((List.mem_filter.1 hp).1)
  · simp only [List.mem_singleton] at hp
    subst hp
    exact hf

theorem few_calm {K : Nat} (h : Sm s0 K) (hK : K < 1000) (hm : 0 ≤ m ∧ m ≤ 1000) (hn : n ≤ 10000) (hp : ∀ p ∈ s0.nm, 0 ≤ p.2) : Few (calm s0 m n) K :=
  ⟨h, h, by omega, by simp only [calm]; omega, by simp only [calm]; omega, hp⟩

theorem few_more {K : Nat} (h : Sm s0 K) (hK : K < 1000) (hm : 0 ≤ m ∧ m ≤ 1000) (hn : n ≤ 10000) (hp : ∀ p ∈ s0.nm, 0 ≤ p.2) (hr : Gx rs) : Few (more s0 m n s rs) (K + 1) :=
  ⟨Sm.st h ⟨by omega, by omega⟩ hr, ⟨Nat.le_trans h.nm (by omega), Nat.le_trans h.rw (by omega), h.file, h.row⟩, by omega, by have := hr.1; simp only [more]; omega, by simp only [more]; omega, file_st hp (by omega)⟩
end

end Go.Proofs.Ytiijfgidfcfjoab

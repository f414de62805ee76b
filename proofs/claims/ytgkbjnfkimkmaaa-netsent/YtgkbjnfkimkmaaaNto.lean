/-
  What NetSent keeps: the net, who owns which number, how many of each there are; in lists, and in memory.
-/
import Derived.Test.YtgkbjnfkimkmaaaNtk
namespace Go.Proofs.Ytgkbjnfkimkmaaa.netSent
open Go.RowKit Go.Proofs.Ytgkbjnfkimkmaaa
set_option maxRecDepth 100000

def Bp (κ : Nat) : Pk := ⟨(κ : Int), (κ : Int) + 1, bod κ⟩
theorem bp_ok (κ : Nat) (h : κ ≤ 1000) : (Bp κ).Ok := ⟨by unfold I6 Bp; simp only; omega, by unfold I6 Bp; simp only; omega, by show (bod κ).length ≤ 65545; rw [bod_length]; omega, bod_byte κ⟩

def sm (l : List Int) : Int := l.foldr (· + ·) 0
theorem sm_append (l m : List Int) : sm (l ++ m) = sm l + sm m := by
  induction l with
  | nil => simp [sm]
  | cons x l ih => simp only [sm, List.cons_append, List.foldr_cons] at ih ⊢; omega
theorem sm_set (l : List Int) (k : Nat) (d : Int) (hk : k < l.length) : sm (l.set k (l.getD k 0 + d)) = sm l + d := by
  induction l generalizing k with
  | nil => simp at hk
  | cons x l ih =>
    cases k with
    | zero => simp [sm]; omega
    | succ k =>
      have := ih k (by simpa using hk)
      simp only [sm, List.set_cons_succ, List.foldr_cons, List.getD_cons_succ] at this ⊢
      omega

/-- What holds ahead of each round. -/
structure Iv (i s : Nat) (cp own : List Int) (n : Nt) (lost dd : Nat) : Prop where
  hi : i ≤ 100
  hs : s ≤ i
  last : 0 ≤ n.last ∧ n.last ≤ (i : Int)
  cl : cp.length = s
  cb : ∀ c ∈ cp, -(i : Int) ≤ c ∧ c ≤ (i : Int)
  ol : own.length = 400
  pk : ∀ q ∈ n.m, 1 ≤ q.1 ∧ q.1 ≤ n.last ∧ ∃ κ : Nat, κ < s ∧ q.2 = Bp κ ∧ own.getD q.1.toNat 0 = (κ : Int) + 1
  s1 : sm cp = (n.m.length : Int) + dd
  s2 : n.last = sm cp + lost
  ll : lost ≤ i
  dl : dd ≤ i

section
variable {i s : Nat} {cp own : List Int} {n : Nt} {lost dd : Nat}

theorem Iv.few (h : Iv i s cp own n lost dd) : n.m.length ≤ 100 := by
  have := h.s1; have := h.s2; have := h.last; have := h.hi; omega

theorem cb_set {cp : List Int} {i κ : Nat} {d : Int} (hd : d = 1 ∨ d = -1) (h : ∀ c ∈ cp, -(i : Int) ≤ c ∧ c ≤ (i : Int)) : ∀ c ∈ cp.set κ (cp.getD κ 0 + d), -((i + 1 : Nat) : Int) ≤ c ∧ c ≤ ((i + 1 : Nat) : Int) := by
  intro c hc
  have hg : -(i : Int) ≤ cp.getD κ 0 ∧ cp.getD κ 0 ≤ (i : Int) := by
    cases e : cp[κ]? with
    | none => simp [List.getD, e]
    | some x => simpa [List.getD, e] using h x (List.mem_of_getElem? e)
  rcases List.mem_or_eq_of_mem_set hc with h1 | h1
  · have := h c h1; omega
  · omega

theorem Iv.send (h : Iv i s cp own n lost dd) (hi : i < 100) : Iv (i + 1) (s + 1) (cp ++ [1]) (own.set (n.last + 1).toNat ((s : Int) + 1)) (n.put (Bp s)) lost dd := by
  have hl := h.last
  refine ⟨by omega, by have := h.hs; omega, by simp only [Nt.put]; omega, by simp [h.cl], fun c hc => ?_, by simp [h.ol], fun q hq => ?_, ?_, ?_, by have := h.ll; omega, by have := h.dl; omega⟩
  · rcases List.mem_append.1 hc with h1 | h1
    · have := h.cb c h1; omega
    · simp only [List.mem_singleton] at h1; omega
  · rcases List.mem_append.1 hq with h1 | h1
    · obtain ⟨a1, a2, κ, a3, a4, a5⟩ := h.pk q h1
      refine ⟨a1, by simp only [Nt.put]; omega, κ, by omega, a4, ?_⟩
      rw [← a5]
      simp only [List.getD, List.getElem?_set]
      rw [if_neg (by omega)]
    · simp only [List.mem_singleton] at h1
      subst h1
      refine ⟨by simp only; omega, by simp only [Nt.put]; omega, s, by omega, rfl, ?_⟩
      have : (n.last + 1).toNat < own.length := by rw [h.ol]; have := h.hi; omega
      simp [List.getD, this]
  · rw [sm_append, h.s1]
    simp [Nt.put, sm]
    omega
  · have := h.s2
    rw [sm_append]
    simp only [Nt.put, sm, List.foldr_cons, List.foldr_nil] at this ⊢
    omega

theorem Iv.look (h : Iv i s cp own n lost dd) {q : Int × Pk} (hq : q ∈ n.m) (hn : n.Ok) : ∃ κ ν : Nat, κ < s ∧ q = ((ν : Int), Bp κ) ∧ 1 ≤ ν ∧ (ν : Int) ≤ n.last ∧ own.getD ν 0 = (κ : Int) + 1 ∧ lk n.m (ν : Int) = some (Bp κ) := by
  obtain ⟨a1, a2, κ, a3, a4, a5⟩ := h.pk q hq
  obtain ⟨k, p⟩ := q
  simp only at a1 a2 a4 a5
  subst a4
  refine ⟨κ, k.toNat, a3, by rw [Int.toNat_of_nonneg (by omega)], by omega, by omega, a5, ?_⟩
  rw [Int.toNat_of_nonneg (by omega)]
  exact mem_lk hn.un hq

theorem len_drop (hn : n.Ok) {k : Int} (hk : (lk n.m k).isSome = true) : ((n.drop k).m.length : Int) = (n.m.length : Int) - 1 := by
  have := dl_length (k := k) hn.un
  rw [hk] at this
  simp only [if_true] at this
  simp only [Nt.drop]
  omega

theorem Iv.deliver (h : Iv i s cp own n lost dd) (hn : n.Ok) {k : Int} (hk : (lk n.m k).isSome = true) (hi : i < 100) : Iv (i + 1) s cp own (n.drop k) lost (dd + 1) := by
  have hl := len_drop hn hk
  refine ⟨by omega, by have := h.hs; omega, by have := h.last; simp only [Nt.drop]; omega, h.cl, fun c hc => by have := h.cb c hc; omega, h.ol, fun q hq => h.pk q (List.mem_filter.1 hq).1, ?_, h.s2, by have := h.ll; omega, by have := h.dl; omega⟩
  have := h.s1
  rw [hl]
  omega

theorem Iv.drop (h : Iv i s cp own n lost dd) (hn : n.Ok) {k : Int} (hk : (lk n.m k).isSome = true) (hi : i < 100) {κ : Nat} (hκ : κ < s) : Iv (i + 1) s (cp.set κ (cp.getD κ 0 + -1)) own (n.drop k) (lost + 1) dd := by
  have hl := len_drop hn hk
  have hs := sm_set cp κ (-1) (by rw [h.cl]; exact hκ)
  refine ⟨by omega, by have := h.hs; omega, by have := h.last; simp only [Nt.drop]; omega, by simp [h.cl], cb_set (.inr rfl) h.cb, h.ol, fun q hq => h.pk q (List.mem_filter.1 hq).1, ?_, ?_, by have := h.ll; omega, by have := h.dl; omega⟩
  · have := h.s1
    rw [hl, hs]
    omega
  · have := h.s2
    rw [hs]
    simp only [Nt.drop]
    omega

theorem Iv.double (h : Iv i s cp own n lost dd) {κ : Nat} (hκ : κ < s) (hi : i < 100) : Iv (i + 1) s (cp.set κ (cp.getD κ 0 + 1)) (own.set (n.last + 1).toNat ((κ : Int) + 1)) (n.put (Bp κ)) lost dd := by
  have hl := h.last
  have hs := sm_set cp κ 1 (by rw [h.cl]; exact hκ)
  refine ⟨by omega, by have := h.hs; omega, by simp only [Nt.put]; omega, by simp [h.cl], cb_set (.inl rfl) h.cb, by simp [h.ol], fun q hq => ?_, ?_, ?_, by have := h.ll; omega, by have := h.dl; omega⟩
  · rcases List.mem_append.1 hq with h1 | h1
    · obtain ⟨a1, a2, κ', a3, a4, a5⟩ := h.pk q h1
      refine ⟨a1, by simp only [Nt.put]; omega, κ', by omega, a4, ?_⟩
      rw [← a5]
      simp only [List.getD, List.getElem?_set]
      rw [if_neg (by omega)]
    · simp only [List.mem_singleton] at h1
      subst h1
      refine ⟨by simp only; omega, by simp only [Nt.put]; omega, κ, hκ, rfl, ?_⟩
      have : (n.last + 1).toNat < own.length := by rw [h.ol]; have := h.hi; omega
      simp [List.getD, this]
  · rw [hs, h.s1]
    simp [Nt.put]
    omega
  · have := h.s2
    rw [hs]
    simp only [Nt.put]
    omega
end

end Go.Proofs.Ytgkbjnfkimkmaaa.netSent

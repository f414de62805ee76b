/-
  Batches of records as functions on lists: their bytes, and how they are taken off; nothing of the program.
-/
import Derived.Test.YtelfckhiafnniaaVin
import Derived.Test.YtelfckhiafnniaaCrc
namespace Go.Proofs.Ytelfckhiafnniaa
open Go.RowKit

/-- A batch. -/
structure Bt where
  pid : Int
  ep : Int
  first : Int
  recs : List (List Int)

/-- One record's bytes; those of several. -/
def rb (r : List Int) : List Int := vb r.length ++ r
def rbs : List (List Int) → List Int
  | [] => []
  | r :: l => rb r ++ rbs l

def body (b : Bt) : List Int := vb (fo b.pid) ++ (vb (fo b.ep) ++ (vb (fo b.first) ++ (vb b.recs.length ++ rbs b.recs)))
def ub (base : Int) : Nat := (base % 18446744073709551616).toNat
def enc (base : Int) (b : Bt) : List Int := be 8 (ub base) ++ (be 4 (more 0 (body b)) ++ body b)

/-- A batch that may be. -/
structure Right (b : Bt) : Prop where
  count : b.recs.length ≤ 256
  size : ∀ r ∈ b.recs, r.length ≤ 1024

def I64 (n : Int) : Prop := -9223372036854775808 ≤ n ∧ n ≤ 9223372036854775807

/-- Numbers and bytes in their bounds. -/
structure Bd (b : Bt) : Prop where
  pid : I64 b.pid
  ep : I64 b.ep
  first : I64 b.first
  byte : ∀ r ∈ b.recs, ∀ z ∈ r, 0 ≤ z ∧ z ≤ 255

theorem rbs_append (l m : List (List Int)) : rbs (l ++ m) = rbs l ++ rbs m := by
  induction l with
  | nil => rfl
  | cons r l ih => simp [rbs, ih]

theorem rbs_one (r : List Int) : rbs [r] = rb r := by simp [rbs]

theorem rb_byte {r : List Int} (h : ∀ z ∈ r, 0 ≤ z ∧ z ≤ 255) : ∀ z ∈ rb r, 0 ≤ z ∧ z ≤ 255 := fun z hz => (List.mem_append.1 hz).elim (vb_byte _ z) (h z)

theorem rbs_byte {l : List (List Int)} (h : ∀ r ∈ l, ∀ z ∈ r, 0 ≤ z ∧ z ≤ 255) : ∀ z ∈ rbs l, 0 ≤ z ∧ z ≤ 255 := by
  induction l with
  | nil => intro z hz; cases hz
  | cons r l ih =>
    intro z hz
    rcases List.mem_append.1 hz with hz | hz
    · exact rb_byte (h r (by simp)) z hz
    · exact ih (fun r hr => h r (by simp [hr])) z hz

theorem body_byte {b : Bt} (h : ∀ r ∈ b.recs, ∀ z ∈ r, 0 ≤ z ∧ z ≤ 255) : ∀ z ∈ body b, 0 ≤ z ∧ z ≤ 255 := by
  intro z hz
  unfold body at hz
  rcases List.mem_append.1 hz with hz | hz
  · exact vb_byte _ z hz
  rcases List.mem_append.1 hz with hz | hz
  · exact vb_byte _ z hz
  rcases List.mem_append.1 hz with hz | hz
  · exact vb_byte _ z hz
  rcases List.mem_append.1 hz with hz | hz
  · exact vb_byte _ z hz
  · exact rbs_byte h z hz

theorem enc_byte {base : Int} {b : Bt} (h : ∀ r ∈ b.recs, ∀ z ∈ r, 0 ≤ z ∧ z ≤ 255) : ∀ z ∈ enc base b, 0 ≤ z ∧ z ≤ 255 := by
  intro z hz
  rcases List.mem_append.1 hz with hz | hz
  · exact be_byte _ _ z hz
  rcases List.mem_append.1 hz with hz | hz
  · exact be_byte _ _ z hz
  · exact body_byte h z hz

theorem enc_length (base : Int) (b : Bt) : (enc base b).length = 12 + (body b).length := by
  simp [enc, be_length]
  omega

theorem vb_small {n : Nat} (h : n ≤ 16383) : (vb n).length ≤ 2 := vb_len_le 1 n (by omega)

theorem rbs_length {l : List (List Int)} (h : ∀ r ∈ l, r.length ≤ 1024) : (rbs l).length ≤ 1026 * l.length := by
  induction l with
  | nil => simp [rbs]
  | cons r l ih =>
    have h1 := ih (fun r hr => h r (by simp [hr]))
    have h2 := h r (by simp)
    have h3 := vb_small (n := r.length) (by omega)
    simp only [rbs, rb, List.length_append, List.length_cons]
    omega

theorem body_length {b : Bt} (h : Right b) (hb : Bd b) : 4 ≤ (body b).length ∧ (body b).length ≤ 300000 := by
  have h1 := rbs_length h.size
  have h2 := h.count
  have h3 := vb_len10 (fo_lt hb.pid.1 hb.pid.2)
  have h4 := vb_len10 (fo_lt hb.ep.1 hb.ep.2)
  have h5 := vb_len10 (fo_lt hb.first.1 hb.first.2)
  have h6 := vb_small (n := b.recs.length) (by omega)
  have p3 := vb_pos (fo b.pid)
  have p4 := vb_pos (fo b.ep)
  have p5 := vb_pos (fo b.first)
  have p6 := vb_pos b.recs.length
  simp only [body, List.length_append]
  omega

/-- Two numbers at one place are one. -/
theorem vb_app (m : Nat) : ∀ (n : Nat) (x y : List Int), vb m ++ x = vb n ++ y → m = n ∧ x = y := by
  induction m using Nat.strongRecOn with
  | _ m ih =>
    intro n x y h
    by_cases hm : m < 128
    · by_cases hn : n < 128
      · rw [vb_lt hm, vb_lt hn] at h
        simp only [List.cons_append, List.nil_append, List.cons.injEq] at h
        exact ⟨by omega, h.2⟩
      · rw [vb_lt hm, vb_ge (by omega)] at h
        simp only [List.cons_append, List.nil_append, List.cons.injEq] at h
        omega
    · by_cases hn : n < 128
      · rw [vb_ge (by omega), vb_lt hn] at h
        simp only [List.cons_append, List.nil_append, List.cons.injEq] at h
        omega
      · rw [vb_ge (n := m) (by omega), vb_ge (n := n) (by omega)] at h
        simp only [List.cons_append, List.cons.injEq] at h
        obtain ⟨h1, h2⟩ := ih (m / 128) (by omega) (n / 128) x y h.2
        exact ⟨by omega, h2⟩

theorem rbs_app (l : List (List Int)) : ∀ (m : List (List Int)) (x y : List Int), l.length = m.length → rbs l ++ x = rbs m ++ y → l = m ∧ x = y := by
  induction l with
  | nil =>
    intro m x y hl h
    have : m = [] := List.eq_nil_of_length_eq_zero hl.symm
    subst this
    exact ⟨rfl, h⟩
  | cons r l ih =>
    intro m x y hl h
    cases m with
    | nil => cases hl
    | cons q m =>
      simp only [rbs, rb, List.append_assoc] at h
      obtain ⟨h1, h2⟩ := vb_app _ _ _ _ h
      obtain ⟨h3, h4⟩ := List.append_inj h2 h1
      obtain ⟨h5, h6⟩ := ih m x y (by simpa using hl) h4
      exact ⟨by rw [h3, h5], h6⟩

theorem fo_inj {m n : Int} (h : fo m = fo n) : m = n := by rw [← unfo_fo m, ← unfo_fo n, h]

/-- Two bodies at one place are one. -/
theorem body_app {b c : Bt} {x y : List Int} (h : body b ++ x = body c ++ y) : b = c ∧ x = y := by
  simp only [body, List.append_assoc] at h
  obtain ⟨h1, h⟩ := vb_app _ _ _ _ h
  obtain ⟨h2, h⟩ := vb_app _ _ _ _ h
  obtain ⟨h3, h⟩ := vb_app _ _ _ _ h
  obtain ⟨h4, h⟩ := vb_app _ _ _ _ h
  obtain ⟨h5, h6⟩ := rbs_app _ _ _ _ h4 h
  cases b
  cases c
  refine ⟨?_, h6⟩
  simp only [Bt.mk.injEq]
  exact ⟨fo_inj h1, fo_inj h2, fo_inj h3, h5⟩

theorem ub_lt (base : Int) : ub base < 18446744073709551616 := by unfold ub; omega

theorem ub_inj {m n : Int} (hm : I64 m) (hn : I64 n) (h : ub m = ub n) : m = n := by
  unfold ub at h
  unfold I64 at hm hn
  omega

theorem be_inj {k u v : Nat} (hu : u < 256 ^ k) (hv : v < 256 ^ k) (h : be k u = be k v) : u = v := by
  have := congrArg un h
  rwa [un_be, un_be, Nat.mod_eq_of_lt hu, Nat.mod_eq_of_lt hv] at this

theorem enc_inj {base base' : Int} {b c : Bt} (h1 : I64 base) (h2 : I64 base') (h : enc base b = enc base' c) : base = base' ∧ b = c := by
  unfold enc at h
  obtain ⟨h3, h⟩ := List.append_inj h (by rw [be_length, be_length])
  obtain ⟨_, h⟩ := List.append_inj h (by rw [be_length, be_length])
  have h4 := body_app (x := []) (y := []) (by simpa using h)
  exact ⟨ub_inj h1 h2 (be_inj (by have := ub_lt base; omega) (by have := ub_lt base'; omega) h3), h4.1⟩

/-- The bytes of a batch, with more behind, are no other's. -/
theorem enc_more {base base' : Int} {b c : Bt} {x : List Int} (h : enc base b ++ x = enc base' c) : x = [] := by
  unfold enc at h
  rw [List.append_assoc, List.append_assoc] at h
  obtain ⟨_, h⟩ := List.append_inj h (by rw [be_length, be_length])
  obtain ⟨_, h⟩ := List.append_inj h (by rw [be_length, be_length])
  exact (body_app (y := []) (by simpa using h)).2

/-- What is taken off: from none (it went wrong), or from what is there yet. -/
def tk : Option (List Int) → Nat × Option (List Int)
  | none => (0, none)
  | some l => match getv l with
    | none => (0, none)
    | some v => (v, some (l.drop (vb v).length))

def tku (most : Nat) (s : Option (List Int)) : Nat × Option (List Int) := if (tk s).1 ≤ most then tk s else (0, none)

def tkr (s : Option (List Int)) : List Int × Option (List Int) := match (tku 1024 s).2 with
  | none => ([], none)
  | some l => if (tku 1024 s).1 ≤ l.length then (l.take (tku 1024 s).1, some (l.drop (tku 1024 s).1)) else ([], none)

def tks : Nat → Option (List Int) → List (List Int) × Option (List Int)
  | 0, s => ([], s)
  | k + 1, s => ((tks k s).1 ++ [(tkr (tks k s).2).1], (tkr (tks k s).2).2)

theorem tk_of {l t : List Int} {v : Nat} (hb : ∀ z ∈ l, 0 ≤ z ∧ z ≤ 255) (hv : v < 18446744073709551616) (h : l = vb v ++ t) : tk (some l) = (v, some t) := by
  have e : getv l = some v := (getv_iff hb v).2 ⟨hv, t, h.symm⟩
  simp only [tk, e]
  rw [h, List.drop_left]

theorem tk_none : tk none = (0, none) := rfl

theorem tk_is {s : Option (List Int)} {t : List Int} (hb : ∀ l, s = some l → ∀ z ∈ l, 0 ≤ z ∧ z ≤ 255) (h : (tk s).2 = some t) : ∃ l, s = some l ∧ l = vb (tk s).1 ++ t ∧ (tk s).1 < 18446744073709551616 := by
  cases s with
  | none => cases h
  | some l =>
    refine ⟨l, rfl, ?_⟩
    unfold tk at h ⊢
    cases e : getv l with
    | none => simp [e] at h
    | some v =>
      simp only [e, Option.some.injEq] at h ⊢
      obtain ⟨hv, y, hy⟩ := (getv_iff (hb l rfl) v).1 e
      rw [← hy, List.drop_left] at h
      exact ⟨by rw [← h, hy], hv⟩

theorem tku_of {l t : List Int} {v most : Nat} (hb : ∀ z ∈ l, 0 ≤ z ∧ z ≤ 255) (hv : v < 18446744073709551616) (h : l = vb v ++ t) (hm : v ≤ most) : tku most (some l) = (v, some t) := by
  unfold tku
  rw [tk_of hb hv h, if_pos hm]

theorem tku_is {s : Option (List Int)} {t : List Int} {most : Nat} (hb : ∀ l, s = some l → ∀ z ∈ l, 0 ≤ z ∧ z ≤ 255) (h : (tku most s).2 = some t) : ∃ l, s = some l ∧ l = vb (tku most s).1 ++ t ∧ (tku most s).1 < 18446744073709551616 ∧ (tku most s).1 ≤ most := by
  unfold tku at h ⊢
  split at h
  · next hm =>
    rw [if_pos hm]
    obtain ⟨l, h1, h2, h3⟩ := tk_is hb h
    exact ⟨l, h1, h2, h3, hm⟩
  · cases h

theorem tkr_of {r t : List Int} (hb : ∀ z ∈ rb r ++ t, 0 ≤ z ∧ z ≤ 255) (hr : r.length ≤ 1024) : tkr (some (rb r ++ t)) = (r, some t) := by
  unfold tkr
  have e := tku_of (v := r.length) (most := 1024) (t := r ++ t) hb (by omega) (by simp [rb]) hr
  rw [e]
  simp

theorem tkr_is {s : Option (List Int)} {t : List Int} (hb : ∀ l, s = some l → ∀ z ∈ l, 0 ≤ z ∧ z ≤ 255) (h : (tkr s).2 = some t) : s = some (rb (tkr s).1 ++ t) ∧ (tkr s).1.length ≤ 1024 := by
  unfold tkr at h ⊢
  cases e : (tku 1024 s).2 with
  | none => simp [e] at h
  | some l =>
    simp only [e] at h ⊢
    split at h
    · next hl =>
      rw [if_pos hl]
      obtain ⟨m, h1, h2, h3, h4⟩ := tku_is hb e
      simp only [Option.some.injEq] at h
      have hn : (l.take (tku 1024 s).1).length = (tku 1024 s).1 := by simp; omega
      refine ⟨?_, by rw [hn]; exact h4⟩
      unfold rb
      rw [hn, ← h, List.append_assoc, List.take_append_drop, ← h2]
      exact h1
    · cases h

theorem tks_of (k : Nat) : ∀ (l : List (List Int)) (t : List Int), l.length = k → (∀ z ∈ rbs l ++ t, 0 ≤ z ∧ z ≤ 255) → (∀ r ∈ l, r.length ≤ 1024) → tks k (some (rbs l ++ t)) = (l, some t) := by
  induction k with
  | zero =>
    intro l t hl _ _
    have : l = [] := List.eq_nil_of_length_eq_zero hl
    subst this
    rfl
  | succ k ih =>
    intro l t hl hb hr
    have hne : l ≠ [] := by intro e; subst e; cases hl
    obtain ⟨m, r, rfl⟩ : ∃ m r, l = m ++ [r] := ⟨l.dropLast, l.getLast hne, (List.dropLast_concat_getLast hne).symm⟩
    rw [rbs_append, rbs_one, List.append_assoc] at hb ⊢
    have e := ih m (rb r ++ t) (by simpa using hl) hb (fun q hq => hr q (by simp [hq]))
    have e2 := tkr_of (r := r) (t := t) (fun z hz => hb z (List.mem_append.2 (.inr hz))) (hr r (by simp))
    simp only [tks, e, e2]

/-- What there is yet are bytes. -/
def Bya (s : Option (List Int)) : Prop := ∀ l, s = some l → ∀ z ∈ l, 0 ≤ z ∧ z ≤ 255

theorem tks_len (k : Nat) (s : Option (List Int)) : (tks k s).1.length = k := by
  induction k with
  | zero => rfl
  | succ k ih => simp [tks, ih]

theorem tk_byt {s : Option (List Int)} (h : Bya s) : Bya (tk s).2 := by
  intro t ht z hz
  obtain ⟨l, h1, h2, _⟩ := tk_is h ht
  exact h l h1 z (by rw [h2]; exact List.mem_append.2 (.inr hz))

theorem tku_byt {s : Option (List Int)} {most : Nat} (h : Bya s) : Bya (tku most s).2 := by
  intro t ht z hz
  obtain ⟨l, h1, h2, _⟩ := tku_is h ht
  exact h l h1 z (by rw [h2]; exact List.mem_append.2 (.inr hz))

theorem tkr_byt {s : Option (List Int)} (h : Bya s) : Bya (tkr s).2 ∧ ∀ z ∈ (tkr s).1, 0 ≤ z ∧ z ≤ 255 := by
  refine ⟨fun t ht z hz => ?_, ?_⟩
  · obtain ⟨h1, _⟩ := tkr_is h ht
    exact h _ h1 z (List.mem_append.2 (.inr hz))
  · unfold tkr
    cases e : (tku 1024 s).2 with
    | none => simp
    | some l =>
      simp only
      split
      · exact fun z hz => tku_byt h l e z (List.mem_of_mem_take hz)
      · simp

theorem tks_byt {s : Option (List Int)} (h : Bya s) (k : Nat) : Bya (tks k s).2 ∧ ∀ r ∈ (tks k s).1, ∀ z ∈ r, 0 ≤ z ∧ z ≤ 255 := by
  induction k with
  | zero => exact ⟨h, by simp [tks]⟩
  | succ k ih =>
    have h1 := tkr_byt ih.1
    refine ⟨h1.1, fun r hr => ?_⟩
    simp only [tks, List.mem_append, List.mem_singleton] at hr
    rcases hr with hr | rfl
    · exact ih.2 r hr
    · exact h1.2

theorem tks_is {s : Option (List Int)} (hb : Bya s) (k : Nat) : ∀ t, (tks k s).2 = some t → s = some (rbs (tks k s).1 ++ t) ∧ ∀ r ∈ (tks k s).1, r.length ≤ 1024 := by
  induction k with
  | zero =>
    intro t h
    exact ⟨by simpa [tks, rbs] using h, by simp [tks]⟩
  | succ k ih =>
    intro t h
    obtain ⟨h1, h2⟩ := tkr_is (tks_byt hb k).1 h
    obtain ⟨h3, h4⟩ := ih _ h1
    refine ⟨?_, fun r hr => ?_⟩
    · simp only [tks]
      rw [rbs_append, rbs_one, List.append_assoc]
      exact h3
    · simp only [tks, List.mem_append, List.mem_singleton] at hr
      rcases hr with hr | rfl
      · exact h4 r hr
      · exact h2

theorem tkr_none : tkr none = ([], none) := rfl

theorem tks_none (k : Nat) : (tks k none).2 = none := by
  induction k with
  | zero => rfl
  | succ k ih => simp [tks, ih, tkr_none]

/-- All that is taken off one body: the batch, and what is left. -/
def s1 (l : List Int) : Option (List Int) := (tk (some l)).2
def s2 (l : List Int) : Option (List Int) := (tk (s1 l)).2
def s3 (l : List Int) : Option (List Int) := (tk (s2 l)).2
def cnt (l : List Int) : Nat := (tku 256 (s3 l)).1
def s4 (l : List Int) : Option (List Int) := (tku 256 (s3 l)).2
def bt (l : List Int) : Bt := ⟨unfo (tk (some l)).1, unfo (tk (s1 l)).1, unfo (tk (s2 l)).1, (tks (cnt l) (s4 l)).1⟩
def left (l : List Int) : Option (List Int) := (tks (cnt l) (s4 l)).2

theorem unfo_i64 {m : Nat} (h : m < 18446744073709551616) : I64 (unfo m) := by
  unfold I64 unfo
  split <;> omega

theorem fo_unfo (m : Nat) : fo (unfo m) = m := by
  unfold fo unfo
  by_cases h : m % 2 = 1
  · rw [if_pos h, if_pos (by omega)]
    omega
  · rw [if_neg h, if_neg (by omega)]
    omega

/-- What was taken off whole is a right batch with just these bytes. -/
theorem left_is {l : List Int} (hb : ∀ z ∈ l, 0 ≤ z ∧ z ≤ 255) (h : left l = some []) : body (bt l) = l ∧ Right (bt l) ∧ Bd (bt l) := by
  have b0 : Bya (some l) := fun m hm z hz => hb z (by cases hm; exact hz)
  have b1 : Bya (s1 l) := tk_byt b0
  have b2 : Bya (s2 l) := tk_byt b1
  have b3 : Bya (s3 l) := tk_byt b2
  have b4 : Bya (s4 l) := tku_byt b3
  obtain ⟨h1, h2⟩ := tks_is b4 (cnt l) [] h
  rw [List.append_nil] at h1
  obtain ⟨l3, h3, h4, h5, h6⟩ := tku_is (most := 256) b3 h1
  obtain ⟨l2, h7, h8, h9⟩ := tk_is b2 h3
  obtain ⟨l1, h10, h11, h12⟩ := tk_is b1 h7
  obtain ⟨l0, h13, h14, h15⟩ := tk_is b0 h10
  cases h13
  have hlen := tks_len (cnt l) (s4 l)
  refine ⟨?_, ⟨?_, h2⟩, ⟨unfo_i64 h15, unfo_i64 h12, unfo_i64 h9, (tks_byt b4 _).2⟩⟩
  · simp only [body, bt, fo_unfo, hlen]
    conv => rhs; rw [h14, h11, h8, h4]
    rfl
  · simp only [bt, hlen]
    exact h6

theorem left_of {b : Bt} (hr : Right b) (hd : Bd b) : left (body b) = some [] ∧ bt (body b) = b := by
  have hb := body_byte hd.byte
  have hc := hr.count
  have b0 : Bya (some (body b)) := fun m hm z hz => hb z (by cases hm; exact hz)
  have e1 : tk (some (body b)) = (fo b.pid, some (vb (fo b.ep) ++ (vb (fo b.first) ++ (vb b.recs.length ++ rbs b.recs)))) := tk_of hb (fo_lt hd.pid.1 hd.pid.2) rfl
  have f1 : s1 (body b) = some (vb (fo b.ep) ++ (vb (fo b.first) ++ (vb b.recs.length ++ rbs b.recs))) := by unfold s1; rw [e1]
  have b1 : Bya (s1 (body b)) := tk_byt b0
  rw [f1] at b1
  have e2 := tk_of (b1 _ rfl) (fo_lt hd.ep.1 hd.ep.2) rfl
  have f2 : s2 (body b) = some (vb (fo b.first) ++ (vb b.recs.length ++ rbs b.recs)) := by unfold s2; rw [f1, e2]
  have b2 := tk_byt b1
  rw [e2] at b2
  have e3 := tk_of (b2 _ rfl) (fo_lt hd.first.1 hd.first.2) rfl
  have f3 : s3 (body b) = some (vb b.recs.length ++ rbs b.recs) := by unfold s3; rw [f2, e3]
  have b3 := tk_byt b2
  rw [e3] at b3
  have e4 := tku_of (most := 256) (v := b.recs.length) (b3 _ rfl) (by omega) rfl hc
  have f4 : s4 (body b) = some (rbs b.recs) := by unfold s4; rw [f3, e4]
  have c4 : cnt (body b) = b.recs.length := by unfold cnt; rw [f3, e4]
  have e5 := tks_of b.recs.length b.recs [] rfl (by rw [List.append_nil]; exact rbs_byte hd.byte) hr.size
  rw [List.append_nil] at e5
  refine ⟨?_, ?_⟩
  · unfold left
    rw [f4, c4, e5]
  · unfold bt
    rw [f4, c4, e5, f1, f2, e1, e2, e3, unfo_fo, unfo_fo, unfo_fo]

/-- What could not be taken off whole is no right batch's. -/
theorem left_not {l : List Int} (h : left l ≠ some []) {b : Bt} (hr : Right b) (hd : Bd b) : body b ≠ l := by
  intro e
  subst e
  exact h (left_of hr hd).1

end Go.Proofs.Ytelfckhiafnniaa

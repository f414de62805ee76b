/-
  Texts put into one.
-/
import Derived.Test.YtkdolabhcbjipaaGreatMx45a616f7
import Derived.Test.YtkdolabhcbjipaaGreatMx819a4435
import Derived.Test.YtkdolabhcbjipaaGreatQkf8f636a6

/-
  Disks whose numbers stay small, armed or not; a sync does not raise them.
-/
namespace Go.Proofs.YtkdolabhcbjipaaGreat
open Go.RowKit
set_option maxRecDepth 100000
set_option linter.unusedVariables false

theorem Sm.wide {s : Shp} {K K' : Nat} (h : Sm s K) (hk : K ≤ K') : Sm s K' := ⟨Nat.le_trans h.nm hk, Nat.le_trans h.rw hk, h.file, h.row⟩

theorem mem_dl {κ ν : Type} [DecidableEq κ] {l : List (κ × ν)} {k : κ} {p : κ × ν} (h : p ∈ dl l k) : p ∈ l := (List.mem_filter.1 h).1

theorem mem_st {κ ν : Type} [DecidableEq κ] {l : List (κ × ν)} {k : κ} {v : ν} {p : κ × ν} (h : p ∈ st l k v) : p ∈ l ∨ p = (k, v) := by
  rcases List.mem_append.1 h with h | h
  · exact .inl (mem_dl h)
  · exact .inr (by simpa using h)

theorem file_does {s : Shp} {m : Int} (h : ∀ p ∈ s.nm, 1 ≤ p.2 ∧ p.2 ≤ m) {t : Stp} (ht : t.Ok) (hm : t.file ≤ m) : ∀ p ∈ (s.does t).nm, 1 ≤ p.2 ∧ p.2 ≤ m := by
  have hf := ht.file.1
  intro p hp
  unfold Shp.does at hp
  split at hp
  · rcases mem_st hp with h1 | rfl
    · exact h p (mem_dl h1)
    · exact ⟨hf, hm⟩
  · split at hp
    · unfold Shp.put at hp
      split at hp
      · exact h p hp
      · exact h p hp
    · split at hp
      · unfold Shp.cut at hp
        split at hp
        · exact h p hp
        · split at hp
          · exact h p hp
          · exact h p hp
      · split at hp
        · split at hp
          · rcases mem_st hp with h1 | rfl
            · exact h p (mem_dl (mem_dl h1))
            · exact ⟨hf, hm⟩
          · exact h p hp
        · split at hp
          · exact h p (mem_dl hp)
          · exact h p hp

theorem filed_fold {m : Int} : ∀ (ts : List Stp), (∀ t ∈ ts, t.Ok ∧ t.file ≤ m) → ∀ s : Shp, (∀ p ∈ s.nm, 1 ≤ p.2 ∧ p.2 ≤ m) → ∀ p ∈ (ts.foldl Shp.does s).nm, 1 ≤ p.2 ∧ p.2 ≤ m := by
  intro ts
  induction ts with
  | nil => exact fun _ _ h => h
  | cons t ts ih => exact fun ht s hs => ih (fun x hx => ht x (by simp [hx])) _ (file_does hs (ht t (by simp)).1 (ht t (by simp)).2)

theorem nle_does {s : Shp} {t : Stp} (h : ∀ p ∈ s.nm, p.1.length ≤ 64) (ht : t.Ok) : ∀ p ∈ (s.does t).nm, p.1.length ≤ 64 := by
  have h1 : t.name.data.toList.length ≤ 64 := ht.name
  have h2 : t.to.data.toList.length ≤ 64 := ht.to
  intro p hp
  unfold Shp.does at hp
  split at hp
  · rcases mem_st hp with h3 | rfl
    · exact h p (mem_dl h3)
    · exact h1
  · split at hp
    · unfold Shp.put at hp
      split at hp
      · exact h p hp
      · exact h p hp
    · split at hp
      · unfold Shp.cut at hp
        split at hp
        · exact h p hp
        · split at hp
          · exact h p hp
          · exact h p hp
      · split at hp
        · split at hp
          · rcases mem_st hp with h3 | rfl
            · exact h p (mem_dl (mem_dl h3))
            · exact h2
          · exact h p hp
        · split at hp
          · exact h p (mem_dl hp)
          · exact h p hp

theorem nam_fold : ∀ (ts : List Stp), (∀ t ∈ ts, t.Ok) → ∀ s : Shp, (∀ p ∈ s.nm, p.1.length ≤ 64) → ∀ p ∈ (ts.foldl Shp.does s).nm, p.1.length ≤ 64 := by
  intro ts
  induction ts with
  | nil => exact fun _ _ h => h
  | cons t ts ih => exact fun ht s hs => ih (fun x hx => ht x (by simp [hx])) _ (nle_does hs (ht t (by simp)))

theorem Sm.empty : Sm ⟨[], []⟩ 10 := ⟨by simp, by simp, by simp, by simp⟩

structure Few (d : Dsk) (K : Nat) : Prop where
  std : Sm d.std K
  dur : Sm d.dur K
  k : K < 1000000000
  last : d.last < 900000000
  made : 0 ≤ d.made ∧ d.made < 900000000
  file : ∀ p ∈ d.std.nm, 0 ≤ p.2

/-- A crash that keeps some steps. -/
def Dsk.crash (d : Dsk) (ks : List Bool) : Dsk := ⟨(kep d.l ks).foldl Shp.does d.dur, (kep d.l ks).foldl Shp.does d.dur, [], 0, d.made, false, -1, -1, d.failure⟩

/-- What a read tells. -/
def Dsk.read (d : Dsk) (s : ByteArray) : Int := if d.find s = 0 then 70 else if d.down then 6 else 0

structure Bw (d : Dsk) (K : Nat) : Prop where
  std : Sm d.std K
  dur : ∃ D, Sm d.dur D ∧ D + d.l.length ≤ K
  last : 0 ≤ d.last ∧ d.last ≤ (K : Int)
  made : 0 ≤ d.made ∧ d.made ≤ (K : Int)
  file : ∀ p ∈ d.std.nm, 1 ≤ p.2 ∧ p.2 ≤ d.made
  filed : ∀ p ∈ d.dur.nm, 1 ≤ p.2 ∧ p.2 ≤ d.made
  ok : ∀ t ∈ d.l, t.Ok ∧ t.file ≤ d.made
  nam : ∀ p ∈ d.std.nm, p.1.length ≤ 64
  namd : ∀ p ∈ d.dur.nm, p.1.length ≤ 64

theorem offN_len : ∀ (n : Nat) (l : List Stp), ((nms l).take n).length + (offN n l).length = l.length
  | 0, l => by simp [offN]
  | n + 1, [] => by simp [offN, nms]
  | n + 1, t :: l => by
    unfold offN
    cases hs : t.sec with
    | true =>
      have := offN_len (n + 1) l
      simp only [nms, List.filter_cons, hs, Bool.not_true, Bool.false_eq_true, if_false, if_true, List.length_cons] at this ⊢
      omega
    | false =>
      have := offN_len n l
      simp only [nms, List.filter_cons, hs, Bool.not_false, Bool.false_eq_true, if_false, if_true, List.take_succ_cons, List.length_cons] at this ⊢
      omega
theorem offS_len (l : List Stp) (f : Int) : (scs l f).length + (offS l f).length = l.length := by
  induction l with
  | nil => rfl
  | cons t l ih =>
    simp only [scs, offS, List.filter_cons] at ih ⊢
    cases (t.sec && decide (t.file = f)) <;> simp only [Bool.not_true, Bool.not_false, if_true, Bool.false_eq_true, if_false, List.length_cons] <;> omega

section
variable {d : Dsk} {K : Nat}

theorem bw_new : Bw newDsk 10 := ⟨Sm.empty, ⟨10, Sm.empty, by simp [newDsk]⟩, by decide, by decide, by simp [newDsk], by simp [newDsk], by simp [newDsk], by simp [newDsk], by simp [newDsk]⟩

theorem Bw.durs (h : Bw d K) : Sm d.dur K := by
  obtain ⟨D, h1, h2⟩ := h.dur
  exact h1.wide (by omega)
theorem Bw.few (h : Bw d K) (hK : K < 900000) : Few d K :=
  ⟨h.std, h.durs, by omega, by have := h.last; omega, by have := h.made; omega, fun p hp => by have := (h.file p hp).1; omega⟩
theorem Bw.pos (h : Bw d K) : ∀ p ∈ d.std.nm, 0 ≤ p.2 := fun p hp => by have := (h.file p hp).1; omega

theorem Bw.wide {K' : Nat} (h : Bw d K) (hk : K ≤ K') : Bw d K' := by
  obtain ⟨D, h1, h2⟩ := h.dur
  exact ⟨h.std.wide hk, ⟨D, h1, by omega⟩, by have := h.last; omega, by have := h.made; omega, h.file, h.filed, h.ok, h.nam, h.namd⟩

theorem Bw.same (h : Bw d K) {d' : Dsk} (h1 : d'.dur = d.dur) (h2 : d'.std = d.std) (h3 : d'.l = d.l) (h4 : d'.last = d.last) (h5 : d'.made = d.made) : Bw d' K :=
  ⟨by rw [h2]; exact h.std, by rw [h1, h3]; exact h.dur, by rw [h4]; exact h.last, by rw [h5]; exact h.made, by rw [h2, h5]; exact h.file, by rw [h1, h5]; exact h.filed, by rw [h3, h5]; exact h.ok, by rw [h2]; exact h.nam, by rw [h1]; exact h.namd⟩

theorem Bw.begin (h : Bw d K) : Bw d.begin.2 K := by
  obtain ⟨p1, p2, p3, p4, p5⟩ := begin_parts d
  exact h.same p1 p2 p3 p4 p5

theorem Bw.do (h : Bw d K) (hK : K < 900000) {u : Stp} (hu : u.Ok) (hf : u.file ≤ d.made) : Bw (d.do u) (K + 1) := by
  have hl := h.last
  obtain ⟨D, h1, h2⟩ := h.dur
  refine ⟨h.std.does hu, ⟨D, h1, by simp only [Dsk.do, List.length_append, List.length_singleton]; omega⟩, by simp only [Dsk.do]; omega, by have := h.made; simp only [Dsk.do]; omega, file_does h.file hu hf, h.filed, fun x hx => ?_, nle_does h.nam hu, h.namd⟩
  rcases List.mem_append.1 hx with hx | hx
  · exact h.ok x hx
  · simp only [List.mem_singleton] at hx
    subst hx
    exact ⟨hu.num (by omega), hf⟩

theorem Bw.find (h : Bw d K) (s : ByteArray) : 0 ≤ d.find s ∧ d.find s ≤ d.made ∧ (d.find s ≠ 0 → s.size ≤ 64) := by
  have hm := h.made
  unfold Dsk.find
  cases hl : lk d.std.nm s.data.toList with
  | none => simp; omega
  | some f =>
    have h1 := h.file _ (lk_mem hl)
    have h2 := h.nam _ (lk_mem hl)
    simp only at h1 h2
    simp only [Option.getD_some]
    exact ⟨by omega, by omega, fun _ => h2⟩

theorem Bw.rows (h : Bw d K) (f : Int) : ((lk d.std.rw f).getD []).length ≤ 4096 ∧ ∀ x ∈ (lk d.std.rw f).getD [], x.length = 64 ∧ ∀ z ∈ x, 0 ≤ z ∧ z ≤ 255 := h.std.at f

theorem Bw.put (h : Bw d K) (hK : K < 800000) {s : ByteArray} {at' : Int} {data : List Int} (hd : data.length = 64) (hb : ∀ z ∈ data, 0 ≤ z ∧ z ≤ 255) : Bw (d.put s at' 64 data).2 (K + 3) := by
  have hm := h.made
  have hf := h.find s
  have hbg := h.begin
  obtain ⟨p1, p2, p3, p4, p5⟩ := begin_parts d
  have hrl := (h.rows (d.find s)).1
  unfold Dsk.put
  split
  · exact h.wide (by omega)
  · rename_i h1
    split
    · exact h.wide (by omega)
    · rename_i h2
      split
      · exact hbg.wide (by omega)
      · have hs : 1 ≤ s.size ∧ s.size ≤ 64 := Decidable.not_not.1 (fun e => h1 (.inl e))
        have ha0 : 0 ≤ at' := by
          have : ¬ at' < 0 := fun e => h1 (.inr (.inr (.inl e)))
          omega
        have ha1 : at' ≤ 4095 := by
          have e1 : ¬ ((lk d.std.rw (d.find s)).getD []).length < at' := fun e => h1 (.inr (.inr (.inr e)))
          have e2 : ¬ at' = 4096 := fun e => h2 (.inl e)
          omega
        split
        · have h3 : Bw ({ d.begin.2 with made := d.begin.2.made + 1 } : Dsk) (K + 1) := by
            obtain ⟨D, q1, q2⟩ := hbg.dur
            exact ⟨hbg.std.wide (by omega), ⟨D, q1, by simp only; omega⟩, by have := hbg.last; simp only; omega, by have := hbg.made; simp only; omega, fun p hp => by have := hbg.file p hp; simp only; omega, fun p hp => by have := hbg.filed p hp; simp only; omega, fun t ht => ⟨(hbg.ok t ht).1, by have := (hbg.ok t ht).2; simp only; omega⟩, hbg.nam, hbg.namd⟩
          have hbm := hbg.made
          have h4 := h3.do (by omega) (madeStp_ok (f := d.begin.2.made + 1) (s := s) ⟨by omega, by omega⟩ hs.2) (by simp [madeStp])
          exact h4.do (by omega) (putStp_ok (f := d.begin.2.made + 1) (at' := at') (d := data) ⟨by omega, by omega⟩ ⟨ha0, ha1⟩ (by omega) hb) (by simp [putStp, Dsk.do])
        · rename_i hne
          exact (hbg.do (by omega) (putStp_ok (f := d.find s) ⟨by omega, by omega⟩ ⟨ha0, ha1⟩ (by omega) hb) (by simp only [putStp]; rw [p5]; omega)).wide (by omega)

theorem Bw.cut (h : Bw d K) (hK : K < 900000) (s : ByteArray) (n : Int) : Bw (d.cut s n).2 (K + 1) := by
  have hm := h.made
  have hf := h.find s
  have hbg := h.begin
  obtain ⟨p1, p2, p3, p4, p5⟩ := begin_parts d
  have hrl := (h.rows (d.find s)).1
  unfold Dsk.cut
  split
  · exact h.wide (by omega)
  · split
    · exact h.wide (by omega)
    · split
      · exact hbg.wide (by omega)
      · exact hbg.do hK (cutStp_ok (f := d.find s) ⟨by omega, by omega⟩ ⟨by omega, by omega⟩) (by simp only [cutStp]; rw [p5]; omega)

theorem Bw.settled (h : Bw d K) (f : Int) : Bw (d.settled f) K := by
  obtain ⟨D, h1, h2⟩ := h.dur
  have l1 := offN_len (toMake f (nms d.l)) d.l
  have l2 := offS_len (offN (toMake f (nms d.l)) d.l) f
  have hof := offN_sub (toMake f (nms d.l)) d.l
  have hok1 : ∀ t ∈ (nms d.l).take (toMake f (nms d.l)), t.Ok ∧ t.file ≤ d.made := fun t ht => h.ok t (List.mem_filter.1 (List.mem_of_mem_take ht)).1
  have hok2 : ∀ t ∈ scs (offN (toMake f (nms d.l)) d.l) f, t.Ok ∧ t.file ≤ d.made := fun t ht => h.ok t (hof.subset (List.mem_filter.1 ht).1)
  have hsm := fold_sm (fold_sm h1 _ (fun t ht => (hok1 t ht).1)) _ (fun t ht => (hok2 t ht).1)
  refine ⟨h.std, ⟨_, hsm, by simp only [Dsk.settled]; omega⟩, h.last, h.made, h.file, ?_, fun t ht => h.ok t (hof.subset (List.mem_filter.1 ht).1), h.nam, ?_⟩
  · exact filed_fold _ hok2 _ (filed_fold _ hok1 _ h.filed)
  · exact nam_fold _ (fun t ht => (hok2 t ht).1) _ (nam_fold _ (fun t ht => (hok1 t ht).1) _ h.namd)

theorem Bw.sync (h : Bw d K) (s : ByteArray) : Bw (d.sync s).2 K := by
  unfold Dsk.sync
  split
  · exact h
  · split
    · exact h.begin
    · exact h.begin.settled _

theorem Bw.crash (h : Bw d K) (ks : List Bool) : Bw (d.crash ks) K := by
  obtain ⟨D, h1, h2⟩ := h.dur
  have hm := h.made
  have hk := (kep_sub d.l ks).length_le
  have hok : ∀ t ∈ kep d.l ks, t.Ok ∧ t.file ≤ d.made := fun t ht => h.ok t ((kep_sub d.l ks).subset ht)
  have hs := fold_sm h1 _ (fun t ht => (hok t ht).1)
  have hf := filed_fold _ hok _ h.filed
  have hn := nam_fold _ (fun t ht => (hok t ht).1) _ h.namd
  exact ⟨hs.wide (by omega), ⟨_, hs, by simp only [Dsk.crash, List.length_nil]; omega⟩, by simp only [Dsk.crash]; omega, by simp only [Dsk.crash]; omega, hf, hf, by simp [Dsk.crash], hn, hn⟩

theorem Bw.arm (h : Bw d K) (n : Int) : Bw (d.arm n).2 K := by
  unfold Dsk.arm
  split
  · exact h
  · exact h.same rfl rfl rfl rfl rfl
theorem Bw.fail (h : Bw d K) (n e : Int) : Bw (d.fail n e).2 K := by
  unfold Dsk.fail
  split
  · exact h
  · exact h.same rfl rfl rfl rfl rfl
end

end Go.Proofs.YtkdolabhcbjipaaGreat

/-
  A file that is put whole on a disk on which all is synced, and synced: the disk as lists.
-/
namespace Go.Proofs.YtkdolabhcbjipaaGreat
open Go.RowKit
set_option maxRecDepth 100000
set_option linter.unusedVariables false

/-- A disk on which all is synced. -/
def calm (s : Shp) (m n : Int) : Dsk := ⟨s, s, [], n, m, false, -1, -1, 0⟩

/-- The steps that put sectors, from a place on. -/
def puts (f n : Int) : List (List Int) → Nat → List Stp
  | [], _ => []
  | r :: rs, i => (putStp f (i : Int) r).num (n + (i : Int)) :: puts f n rs (i + 1)

theorem puts_snoc (f n : Int) (rs : List (List Int)) (r : List Int) (i : Nat) : puts f n (rs ++ [r]) i = puts f n rs i ++ [(putStp f ((i + rs.length : Nat) : Int) r).num (n + ((i + rs.length : Nat) : Int))] := by
  induction rs generalizing i with
  | nil => simp [puts]
  | cons x rs ih =>
    simp only [List.cons_append, puts, ih, List.length_cons]
    rw [show i + 1 + rs.length = i + (rs.length + 1) by omega]

/-- A disk with one file more, whose steps are not synced. -/
def more (s0 : Shp) (m n : Int) (s : ByteArray) (rs : List (List Int)) : Dsk :=
  ⟨s0, ⟨st s0.nm s.data.toList (m + 1), st s0.rw (m + 1) rs⟩, (madeStp (m + 1) s).num (n + 1) :: puts (m + 1) (n + 2) rs 0, n + 1 + (rs.length : Int), m + 1, false, -1, -1, 0⟩

theorem st_st {κ ν : Type} [DecidableEq κ] (l : List (κ × ν)) (k : κ) (v u : ν) : st (st l k v) k u = st l k u := by
  unfold st dl
  rw [List.filter_append, List.filter_filter]
  simp

theorem putIn_last (r : List (List Int)) (d : List Int) : putIn r r.length d = r ++ [d] := by
  unfold putIn
  rw [show r.length + 1 - r.length = 1 by omega]
  simp

/-- What a synced disk is to be, so that a new file goes on it. -/
structure Cl (s0 : Shp) (m : Int) (s : ByteArray) : Prop where
  pos : 0 ≤ m
  nm : lk s0.nm s.data.toList = none
  rw : lk s0.rw (m + 1) = none
  no : lk s0.rw 0 = none
  few : s0.nm.length < 200

section
variable {s0 : Shp} {m n : Int} {s : ByteArray} {rs : List (List Int)} {r : List Int}

theorem Cl.makes (h : Cl s0 m s) (k : Int) : s0.does ((madeStp (m + 1) s).num k) = ⟨st s0.nm s.data.toList (m + 1), st s0.rw (m + 1) []⟩ := by
  unfold Shp.does
  simp only [madeStp, Stp.num, Shp.take, if_true]
  rw [h.nm]
  simp only [Option.getD_none]
  rw [dl_none (lk_none_iff.1 h.nm), dl_none (lk_none_iff.1 h.no)]

theorem does_put (nm : List (List UInt8 × Int)) (l : List (Int × List (List Int))) (f k : Int) (x : List (List Int)) (d : List Int) : (⟨nm, st l f x⟩ : Shp).does ((putStp f ((x.length : Nat) : Int) d).num k) = ⟨nm, st l f (x ++ [d])⟩ := by
  unfold Shp.does
  rw [if_neg (by simp [putStp, Stp.num]), if_pos (by simp [putStp, Stp.num])]
  simp only [putStp, Stp.num, Shp.put]
  rw [lk_st_same]
  simp only [Int.toNat_natCast]
  rw [putIn_last, st_st]

theorem fold_puts (nm : List (List UInt8 × Int)) (l : List (Int × List (List Int))) (f k : Int) : ∀ (ys x : List (List Int)), (puts f k ys x.length).foldl Shp.does ⟨nm, st l f x⟩ = ⟨nm, st l f (x ++ ys)⟩ := by
  intro ys
  induction ys with
  | nil => intro x; simp [puts]
  | cons y ys ih =>
    intro x
    simp only [puts, List.foldl_cons]
    rw [does_put]
    have := ih (x ++ [y])
    rw [List.length_append, List.length_singleton] at this
    rw [this, List.append_assoc]
    rfl

theorem scs_puts (f k : Int) : ∀ (ys : List (List Int)) (i : Nat), scs (puts f k ys i) f = puts f k ys i := by
  intro ys
  induction ys with
  | nil => intro i; rfl
  | cons y ys ih =>
    intro i
    have := ih (i + 1)
    unfold scs at this ⊢
    simp only [puts]
    rw [List.filter_cons, if_pos (by simp [Stp.sec, putStp, Stp.num]), this]

theorem nms_puts (f k : Int) : ∀ (ys : List (List Int)) (i : Nat), nms (puts f k ys i) = [] := by
  intro ys
  induction ys with
  | nil => intro i; rfl
  | cons y ys ih =>
    intro i
    have := ih (i + 1)
    unfold nms at this ⊢
    simp only [puts]
    rw [List.filter_cons, if_neg (by simp [Stp.sec, putStp, Stp.num]), this]

theorem offS_puts (f k : Int) : ∀ (ys : List (List Int)) (i : Nat), offS (puts f k ys i) f = [] := by
  intro ys
  induction ys with
  | nil => intro i; rfl
  | cons y ys ih =>
    intro i
    have := ih (i + 1)
    unfold offS at this ⊢
    simp only [puts]
    rw [List.filter_cons, if_neg (by simp [Stp.sec, putStp, Stp.num]), this]

theorem put_first (h : Cl s0 m s) (hs : 1 ≤ s.size ∧ s.size ≤ 64) : (calm s0 m n).put s 0 64 r = (0, more s0 m n s [r]) := by
  have hf : (calm s0 m n).find s = 0 := by unfold Dsk.find calm; rw [h.nm]; rfl
  have hfew := h.few
  unfold Dsk.put
  rw [hf, if_neg (by simp only [calm]; rw [h.no]; simp; omega), if_neg (by simp only [calm]; omega)]
  have hb : (calm s0 m n).begin = (0, calm s0 m n) := rfl
  rw [hb]
  simp only [ne_eq, not_true_eq_false, if_false, if_true]
  unfold Dsk.do more
  simp only [calm, List.nil_append]
  congr 1
  have e3 : (⟨st s0.nm s.data.toList (m + 1), st s0.rw (m + 1) []⟩ : Shp).does (putStp (m + 1) 0 r) = ⟨st s0.nm s.data.toList (m + 1), st s0.rw (m + 1) [r]⟩ := by
    have := does_put (st s0.nm s.data.toList (m + 1)) s0.rw (m + 1) 0 [] r
    exact this
  rw [Dsk.mk.injEq]
  refine ⟨rfl, ?_, ?_, ?_, rfl, rfl, rfl, rfl, rfl⟩
  · have e4 : s0.does (madeStp (m + 1) s) = ⟨st s0.nm s.data.toList (m + 1), st s0.rw (m + 1) []⟩ := h.makes 0
    rw [e4]
    exact e3
  · simp only [puts, List.cons_append, List.nil_append]
    rw [show n + 1 + 1 = n + 2 + ((0 : Nat) : Int) by omega]
    rfl
  · simp

theorem put_next (h : Cl s0 m s) (hs : 1 ≤ s.size ∧ s.size ≤ 64) (hr : rs.length < 4096) : (more s0 m n s rs).put s (rs.length : Int) 64 r = (0, more s0 m n s (rs ++ [r])) := by
  have hf : (more s0 m n s rs).find s = m + 1 := by unfold Dsk.find more; simp only; rw [lk_st_same]; rfl
  have hm := h.pos
  unfold Dsk.put
  rw [hf, if_neg (by simp only [more]; rw [lk_st_same]; simp; omega), if_neg (by omega)]
  have hb : (more s0 m n s rs).begin = (0, more s0 m n s rs) := rfl
  rw [hb]
  simp only [ne_eq, not_true_eq_false, if_false]
  rw [if_neg (by omega)]
  unfold Dsk.do more
  congr 1
  rw [Dsk.mk.injEq]
  refine ⟨rfl, ?_, ?_, ?_, rfl, rfl, rfl, rfl, rfl⟩
  · exact does_put _ _ _ 0 _ _
  · rw [puts_snoc]
    simp only [List.cons_append, Nat.zero_add]
    have e : n + 1 + (rs.length : Int) + 1 = n + 2 + (rs.length : Int) := by omega
    rw [e]
  · simp
    omega

theorem sync_more (h : Cl s0 m s) : (more s0 m n s rs).sync s = (0, calm ⟨st s0.nm s.data.toList (m + 1), st s0.rw (m + 1) rs⟩ (m + 1) (n + 1 + (rs.length : Int))) := by
  have hf : (more s0 m n s rs).find s = m + 1 := by unfold Dsk.find more; simp only; rw [lk_st_same]; rfl
  have hm := h.pos
  unfold Dsk.sync
  rw [hf, if_neg (by omega)]
  have hb : (more s0 m n s rs).begin = (0, more s0 m n s rs) := rfl
  rw [hb]
  simp only [ne_eq, not_true_eq_false, if_false]
  have hn : nms (more s0 m n s rs).l = [(madeStp (m + 1) s).num (n + 1)] := by
    have := nms_puts (m + 1) (n + 2) rs 0
    unfold nms at this ⊢
    simp only [more]
    rw [List.filter_cons, if_pos (by simp [Stp.sec, madeStp, Stp.num]), this]
  have ht : toMake (m + 1) [(madeStp (m + 1) s).num (n + 1)] = 1 := by
    unfold toMake
    simp [List.findIdx?_cons, Stp.makes, madeStp, Stp.num]
  have ho : offN 1 (more s0 m n s rs).l = puts (m + 1) (n + 2) rs 0 := by
    simp only [more, offN]
    rw [if_neg (by simp [Stp.sec, madeStp, Stp.num])]
  unfold Dsk.settled
  rw [hn, ht, ho, scs_puts, offS_puts]
  simp only [List.take_succ_cons, List.take_zero, List.foldl_cons, List.foldl_nil]
  have e1 : (more s0 m n s rs).dur = s0 := rfl
  rw [e1, h.makes]
  have e2 := fold_puts (st s0.nm s.data.toList (m + 1)) s0.rw (m + 1) (n + 2) rs []
  simp only [List.length_nil, List.nil_append] at e2
  rw [e2]
  rfl

/-- Rows of sectors. -/
def Gx (rs : List (List Int)) : Prop := rs.length ≤ 4096 ∧ ∀ x ∈ rs, x.length = 64 ∧ ∀ z ∈ x, 0 ≤ z ∧ z ≤ 255

theorem Sm.st {s0 : Shp} {K : Nat} (h : Sm s0 K) {k : List UInt8} {f : Int} (hf : I6 f) {rs : List (List Int)} (hr : Gx rs) : Sm ⟨st s0.nm k f, st s0.rw f rs⟩ (K + 1) := by
  refine ⟨Nat.le_trans (st_le _ _ _) (by have := h.nm; omega), Nat.le_trans (st_le _ _ _) (by have := h.rw; omega), fun p hp => ?_, fun p hp => ?_⟩
  · unfold Go.Proofs.YtkdolabhcbjipaaGreat.st dl at hp
    rcases List.mem_append.1 hp with hp | hp
    · exact h.file p ((List.mem_filter.1 hp).1)
    · simp only [List.mem_singleton] at hp
      subst hp
      exact hf
  · unfold Go.Proofs.YtkdolabhcbjipaaGreat.st dl at hp
    rcases List.mem_append.1 hp with hp | hp
    · exact h.row p ((List.mem_filter.1 hp).1)
    · simp only [List.mem_singleton] at hp
      subst hp
      exact hr

theorem file_st {s0 : Shp} (h : ∀ p ∈ s0.nm, 0 ≤ p.2) {k : List UInt8} {f : Int} (hf : 0 ≤ f) : ∀ p ∈ st s0.nm k f, 0 ≤ p.2 := by
  intro p hp
  unfold st dl at hp
  rcases List.mem_append.1 hp with hp | hp
  · exact h p ((List.mem_filter.1 hp).1)
  · simp only [List.mem_singleton] at hp
    subst hp
    exact hf

theorem few_calm {K : Nat} (h : Sm s0 K) (hK : K < 1000) (hm : 0 ≤ m ∧ m ≤ 1000) (hn : n ≤ 10000) (hp : ∀ p ∈ s0.nm, 0 ≤ p.2) : Few (calm s0 m n) K :=
  ⟨h, h, by omega, by simp only [calm]; omega, by simp only [calm]; omega, hp⟩

theorem few_more {K : Nat} (h : Sm s0 K) (hK : K < 1000) (hm : 0 ≤ m ∧ m ≤ 1000) (hn : n ≤ 10000) (hp : ∀ p ∈ s0.nm, 0 ≤ p.2) (hr : Gx rs) : Few (more s0 m n s rs) (K + 1) :=
  ⟨Sm.st h ⟨by omega, by omega⟩ hr, ⟨Nat.le_trans h.nm (by omega), Nat.le_trans h.rw (by omega), h.file, h.row⟩, by omega, by have := hr.1; simp only [more]; omega, by simp only [more]; omega, file_st hp (by omega)⟩
end

end Go.Proofs.YtkdolabhcbjipaaGreat

/-
  A disk with one file alone, as lists: its sectors behind puts, cuts, syncs and crashes.
-/
namespace Go.Proofs.YtkdolabhcbjipaaGreat
open Go.RowKit
set_option maxRecDepth 100000
set_option linter.unusedVariables false

/-- A step on a file's sectors. -/
def rstep (r : List (List Int)) (t : Stp) : List (List Int) := if t.kind = 1 then putIn r t.at'.toNat t.data else if t.at' < r.length then r.take t.at'.toNat else r
def rsteps (ts : List Stp) (r : List (List Int)) : List (List Int) := ts.foldl rstep r

/-- A step of a file's sectors. -/
structure Sc (f : Int) (t : Stp) : Prop where
  file : t.file = f
  kind : t.kind = 1 ∨ t.kind = 2

/-- One file alone. -/
def shp (κ : List UInt8) (f : Int) (r : List (List Int)) : Shp := ⟨[(κ, f)], [(f, r)]⟩
def nof : Shp := ⟨[], []⟩

section
variable {κ : List UInt8} {f : Int} {r : List (List Int)} {t m : Stp} {ts : List Stp}

theorem lk_one {α β : Type} [DecidableEq α] (a : α) (b : β) : lk [(a, b)] a = some b := by rw [lk_cons]; simp
theorem st_one {α β : Type} [DecidableEq α] (a : α) (b c : β) : st [(a, b)] a c = [(a, c)] := by simp [st, dl]
theorem st_nil {α β : Type} [DecidableEq α] (a : α) (c : β) : st ([] : List (α × β)) a c = [(a, c)] := by simp [st, dl]

theorem shp_does (h : Sc f t) : (shp κ f r).does t = shp κ f (rstep r t) := by
  have hf := h.file
  unfold Shp.does rstep
  rcases h.kind with hk | hk
  · rw [if_neg (by omega), if_pos hk, if_pos hk]
    unfold Shp.put shp
    simp only
    rw [hf, lk_one]
    simp only
    rw [st_one]
  · rw [if_neg (by omega), if_neg (by omega), if_pos hk, if_neg (by omega)]
    unfold Shp.cut shp
    simp only
    rw [hf, lk_one]
    simp only
    split
    · rw [st_one]
    · rfl
theorem nof_does (h : Sc f t) : nof.does t = nof := by
  have hf := h.file
  unfold Shp.does
  rcases h.kind with hk | hk
  · rw [if_neg (by omega), if_pos hk]
    rfl
  · rw [if_neg (by omega), if_neg (by omega), if_pos hk]
    rfl
theorem nof_made (h0 : m.kind = 0) (hf : m.file = f) (hn : m.name.data.toList = κ) : nof.does m = shp κ f [] := by
  unfold Shp.does
  rw [if_pos h0, hf, hn]
  simp [Shp.take, nof, dl, st_nil, shp]
theorem shp_fold : ∀ (ts : List Stp), (∀ t ∈ ts, Sc f t) → ∀ r, ts.foldl Shp.does (shp κ f r) = shp κ f (rsteps ts r) := by
  intro ts
  induction ts with
  | nil => intro _ r; rfl
  | cons t ts ih => intro h r; rw [List.foldl_cons, shp_does (h t (by simp)), ih (fun x hx => h x (by simp [hx]))]; rfl
theorem nof_fold : ∀ (ts : List Stp), (∀ t ∈ ts, Sc f t) → ts.foldl Shp.does nof = nof := by
  intro ts
  induction ts with
  | nil => intro _; rfl
  | cons t ts ih => intro h; rw [List.foldl_cons, nof_does (h t (by simp)), ih (fun x hx => h x (by simp [hx]))]

theorem Sc.sec (h : Sc f t) : t.sec = true := by
  unfold Stp.sec
  rcases h.kind with hk | hk <;> simp [hk]
theorem sc_nms (h : ∀ t ∈ ts, Sc f t) : nms ts = [] := by
  unfold nms
  rw [List.filter_eq_nil_iff]
  intro t ht
  simp [(h t ht).sec]
theorem sc_scs (h : ∀ t ∈ ts, Sc f t) : scs ts f = ts := by
  unfold scs
  rw [List.filter_eq_self]
  intro t ht
  simp [(h t ht).sec, (h t ht).file]
theorem sc_offS (h : ∀ t ∈ ts, Sc f t) : offS ts f = [] := by
  unfold offS
  rw [List.filter_eq_nil_iff]
  intro t ht
  simp [(h t ht).sec, (h t ht).file]
theorem rsteps_snoc (ts : List Stp) (t : Stp) (r : List (List Int)) : rsteps (ts ++ [t]) r = rstep (rsteps ts r) t := by unfold rsteps; rw [List.foldl_append]; rfl
theorem rstep_num (r : List (List Int)) (t : Stp) (n : Int) : rstep r (t.num n) = rstep r t := rfl
end

/-- A file, with what a crash is sure to find of it: none, if its making is not durable. -/
structure Fx (κ : List UInt8) (f : Int) (d : Dsk) (rd : Option (List (List Int))) (rs : List (List Int)) : Prop where
  std : d.std = shp κ f rs
  made : d.made = f
  pos : 1 ≤ f
  how : (∃ r, rd = some r ∧ d.dur = shp κ f r ∧ (∀ t ∈ d.l, Sc f t) ∧ rsteps d.l r = rs) ∨
    (rd = none ∧ d.dur = nof ∧ ∃ m ss, d.l = m :: ss ∧ m.kind = 0 ∧ m.file = f ∧ m.name.data.toList = κ ∧ (∀ t ∈ ss, Sc f t) ∧ rsteps ss [] = rs)
/-- No file. -/
structure Fn (d : Dsk) : Prop where
  std : d.std = nof
  dur : d.dur = nof
  l : d.l = []
  made : 0 ≤ d.made

section
variable {s : ByteArray} {f : Int} {d : Dsk} {rd : Option (List (List Int))} {rs : List (List Int)}

theorem Fx.find (h : Fx s.data.toList f d rd rs) : d.find s = f := by unfold Dsk.find; rw [h.std]; simp [shp, lk_one]
theorem Fx.rows (h : Fx s.data.toList f d rd rs) : (lk d.std.rw (d.find s)).getD [] = rs := by rw [h.find, h.std]; simp [shp, lk_one]
theorem Fx.same {κ : List UInt8} {d' : Dsk} (h : Fx κ f d rd rs) (h1 : d'.dur = d.dur) (h2 : d'.std = d.std) (h3 : d'.l = d.l) (h5 : d'.made = d.made) : Fx κ f d' rd rs :=
  ⟨h2.trans h.std, h5.trans h.made, h.pos, by rw [h1, h3]; exact h.how⟩
theorem Fx.begin {κ : List UInt8} (h : Fx κ f d rd rs) : Fx κ f d.begin.2 rd rs := by
  obtain ⟨p1, p2, p3, p4, p5⟩ := begin_parts d
  exact h.same p1 p2 p3 p5
theorem Fx.do {κ : List UInt8} (h : Fx κ f d rd rs) {t : Stp} (ht : Sc f t) : Fx κ f (d.do t) rd (rstep rs t) := by
  refine ⟨by simp only [Dsk.do]; rw [h.std, shp_does ht], h.made, h.pos, ?_⟩
  have hn : Sc f (t.num (d.last + 1)) := ⟨ht.file, ht.kind⟩
  rcases h.how with ⟨r, h1, h2, h3, h4⟩ | ⟨h1, h2, m, ss, h3, h4, h5, h6, h7, h8⟩
  · refine .inl ⟨r, h1, h2, fun x hx => ?_, by simp only [Dsk.do]; rw [rsteps_snoc, h4, rstep_num]⟩
    rcases List.mem_append.1 hx with hx | hx
    · exact h3 x hx
    · rw [List.mem_singleton.1 hx]; exact hn
  · refine .inr ⟨h1, h2, m, ss ++ [t.num (d.last + 1)], by simp only [Dsk.do]; rw [h3]; rfl, h4, h5, h6, fun x hx => ?_, by rw [rsteps_snoc, h8, rstep_num]⟩
    rcases List.mem_append.1 hx with hx | hx
    · exact h7 x hx
    · rw [List.mem_singleton.1 hx]; exact hn

/-- A sector is put, or the disk refuses. -/
theorem Fx.put (h : Fx s.data.toList f d rd rs) (hs : 1 ≤ s.size ∧ s.size ≤ 64) {i : Nat} (hi : i ≤ rs.length) (hi2 : i < 4096) (data : List Int) :
    (d.begin.1 ≠ 0 ∧ d.put s (i : Int) 64 data = d.begin) ∨ (d.begin.1 = 0 ∧ (d.put s (i : Int) 64 data).1 = 0 ∧ (d.put s (i : Int) 64 data).2 = d.begin.2.do (putStp f (i : Int) data) ∧ Fx s.data.toList f (d.put s (i : Int) 64 data).2 rd (putIn rs i data)) := by
  have hf := h.find
  have hr := h.rows
  have hp := h.pos
  have e : d.put s (i : Int) 64 data = if d.begin.1 ≠ 0 then d.begin else (0, d.begin.2.do (putStp f (i : Int) data)) := by
    unfold Dsk.put
    rw [hr, hf, if_neg (by
      rintro (x | x | x | x)
      · exact x hs
      · exact x rfl
      · omega
      · omega), if_neg (by omega), if_neg (by omega : ¬ f = 0)]
  by_cases h0 : d.begin.1 = 0
  · refine .inr ⟨h0, by rw [e, if_neg (by simp [h0])], by rw [e, if_neg (by simp [h0])], ?_⟩
    rw [e, if_neg (by simp [h0])]
    have := h.begin.do (t := putStp f (i : Int) data) ⟨rfl, .inl rfl⟩
    simpa [rstep, putStp] using this
  · exact .inl ⟨h0, by rw [e, if_pos h0]⟩

theorem Fx.cut (h : Fx s.data.toList f d rd rs) {n : Nat} (hn : n ≤ rs.length) :
    (d.begin.1 ≠ 0 ∧ d.cut s (n : Int) = d.begin) ∨ (d.begin.1 = 0 ∧ (d.cut s (n : Int)).1 = 0 ∧ (d.cut s (n : Int)).2 = d.begin.2.do (cutStp f (n : Int)) ∧ Fx s.data.toList f (d.cut s (n : Int)).2 rd (rs.take n)) := by
  have hf := h.find
  have hr := h.rows
  have hp := h.pos
  have e : d.cut s (n : Int) = if d.begin.1 ≠ 0 then d.begin else (0, d.begin.2.do (cutStp f (n : Int))) := by
    unfold Dsk.cut
    rw [hr, hf, if_neg (by omega), if_neg (by omega)]
  by_cases h0 : d.begin.1 = 0
  · refine .inr ⟨h0, by rw [e, if_neg (by simp [h0])], by rw [e, if_neg (by simp [h0])], ?_⟩
    rw [e, if_neg (by simp [h0])]
    have := h.begin.do (t := cutStp f (n : Int)) ⟨rfl, .inr rfl⟩
    have e2 : rstep rs (cutStp f (n : Int)) = rs.take n := by
      unfold rstep cutStp
      simp only
      rw [if_neg (by omega)]
      split
      · simp
      · rw [List.take_of_length_le (by omega)]
    rwa [e2] at this
  · exact .inl ⟨h0, by rw [e, if_pos h0]⟩

theorem Fx.sync (h : Fx s.data.toList f d rd rs) :
    (d.begin.1 ≠ 0 ∧ d.sync s = d.begin) ∨ (d.begin.1 = 0 ∧ (d.sync s).1 = 0 ∧ Fx s.data.toList f (d.sync s).2 (some rs) rs ∧ (d.sync s).2.l = []) := by
  have hf := h.find
  have hp := h.pos
  have e : d.sync s = if d.begin.1 ≠ 0 then d.begin else (0, d.begin.2.settled f) := by
    unfold Dsk.sync
    rw [hf, if_neg (by omega)]
  by_cases h0 : d.begin.1 = 0
  · have hb := h.begin
    rw [e, if_neg (by simp [h0])]
    refine .inr ⟨h0, rfl, ?_⟩
    generalize d.begin.2 = d at hb
    rcases hb.how with ⟨r, h1, h2, h3, h4⟩ | ⟨h1, h2, m, ss, h3, h4, h5, h6, h7, h8⟩
    · have e1 : d.settled f = { d with dur := shp s.data.toList f rs, l := [] } := by
        unfold Dsk.settled
        rw [sc_nms h3]
        have e3 : toMake f ([] : List Stp) = 0 := rfl
        rw [e3]
        have e4 : offN 0 d.l = d.l := by cases d.l <;> rfl
        rw [e4, sc_scs h3, sc_offS h3, List.take_zero, List.foldl_nil, h2, shp_fold _ h3, h4]
      rw [e1]
      exact ⟨⟨hb.std, hb.made, hb.pos, .inl ⟨rs, rfl, rfl, by simp, rfl⟩⟩, rfl⟩
    · have hms : m.sec = false := by unfold Stp.sec; simp [h4]
      have hn : nms d.l = [m] := by
        rw [h3]
        have := sc_nms h7
        unfold nms at this ⊢
        rw [List.filter_cons, hms, this]
        rfl
      have e1 : d.settled f = { d with dur := shp s.data.toList f rs, l := [] } := by
        unfold Dsk.settled
        have e3 : toMake f [m] = 1 := by
          have : m.makes f = true := by simp [Stp.makes, h4, h5]
          unfold toMake
          simp [List.findIdx?_cons, this]
        have e4 : offN 1 (m :: ss) = ss := by
          unfold offN
          rw [hms]
          cases ss <;> rfl
        rw [hn, e3, h3, e4, sc_scs h7, sc_offS h7, show [m].take 1 = [m] from rfl, List.foldl_cons, List.foldl_nil, h2, nof_made h4 h5 h6, shp_fold _ h7, h8]
      rw [e1]
      exact ⟨⟨hb.std, hb.made, hb.pos, .inl ⟨rs, rfl, rfl, by simp, rfl⟩⟩, rfl⟩
  · exact .inl ⟨h0, by rw [e, if_pos h0]⟩

/-- A crash: what is sure, and any of the steps. -/
theorem Fx.crash (h : Fx s.data.toList f d rd rs) (ks : List Bool) :
    (∃ r ts, rd = some r ∧ (∀ t ∈ d.l, Sc f t) ∧ ts.Sublist d.l ∧ rsteps d.l r = rs ∧ Fx s.data.toList f (d.crash ks) (some (rsteps ts r)) (rsteps ts r)) ∨
    (rd = none ∧ ((∃ m ss ts, d.l = m :: ss ∧ (∀ t ∈ ss, Sc f t) ∧ ts.Sublist ss ∧ rsteps ss [] = rs ∧ Fx s.data.toList f (d.crash ks) (some (rsteps ts [])) (rsteps ts [])) ∨ Fn (d.crash ks))) := by
  rcases h.how with ⟨r, h1, h2, h3, h4⟩ | ⟨h1, h2, m, ss, h3, h4, h5, h6, h7, h8⟩
  · have hk := kep_sub d.l ks
    have hks : ∀ t ∈ kep d.l ks, Sc f t := fun t ht => h3 t (hk.subset ht)
    have e : (kep d.l ks).foldl Shp.does d.dur = shp s.data.toList f (rsteps (kep d.l ks) r) := by rw [h2, shp_fold _ hks]
    exact .inl ⟨r, kep d.l ks, h1, h3, hk, h4, ⟨e, h.made, h.pos, .inl ⟨_, rfl, e, by simp [Dsk.crash], rfl⟩⟩⟩
  · refine .inr ⟨h1, ?_⟩
    have hd : d.crash ks = ⟨(kep d.l ks).foldl Shp.does d.dur, (kep d.l ks).foldl Shp.does d.dur, [], 0, d.made, false, -1, -1, d.failure⟩ := rfl
    have hm := h.made
    have hp := h.pos
    cases ks with
    | nil =>
      refine .inr ⟨?_, ?_, rfl, by rw [hd]; simp only; omega⟩
      · rw [hd, kep_nil]; exact h2
      · rw [hd, kep_nil]; exact h2
    | cons b ks =>
      have hk := kep_sub ss ks
      have hks : ∀ t ∈ kep ss ks, Sc f t := fun t ht => h7 t (hk.subset ht)
      cases b with
      | true =>
        have e : (kep d.l (true :: ks)).foldl Shp.does d.dur = shp s.data.toList f (rsteps (kep ss ks) []) := by
          rw [h3, h2]
          show ([m] ++ kep ss ks).foldl Shp.does nof = _
          rw [List.foldl_append, List.foldl_cons, List.foldl_nil, nof_made h4 h5 h6, shp_fold _ hks]
        exact .inl ⟨m, ss, kep ss ks, h3, h7, hk, h8, ⟨e, h.made, h.pos, .inl ⟨_, rfl, e, by simp [Dsk.crash], rfl⟩⟩⟩
      | false =>
        have e : (kep d.l (false :: ks)).foldl Shp.does d.dur = nof := by
          rw [h3, h2]
          show ([] ++ kep ss ks).foldl Shp.does nof = _
          rw [List.nil_append, nof_fold _ hks]
        exact .inr ⟨e, e, rfl, by rw [hd]; simp only; omega⟩
end

end Go.Proofs.YtkdolabhcbjipaaGreat

/-
  Texts put into one.
-/
import Derived.Test.YtgbboaedhpaocaaGreatMxcb0a4d53
import Derived.Test.YtgbboaedhpaocaaGreatMxdee3a256
import Derived.Test.YtgbboaedhpaocaaGreatMx37523535

/-
  A disk with one file alone, as lists: its sectors behind puts, cuts, syncs and crashes.
-/
namespace Go.Proofs.YtgbboaedhpaocaaGreat
open Go.RowKit
set_option maxRecDepth 100000
set_option maxRecDepth 100000
set_option linter.unusedVariables false

/-- A step on a file's sectors. -/
def rstep (r : List (List Int)) (t : Stp) : List (List Int) := if t.kind = 1 then putIn r t.at'.toNat t.data else if t.at' < r.length then r.take t.at'.toNat else r
def rsteps (ts : List Stp) (r : List (List Int)) : List (List Int) := ts.foldl rstep r

/-- A step of a file's sectors. -/
structure Sc (f : Int) (t : Stp) : Prop where
  file : t.file = f
  kind : t.kind = 1 ∨ t.kind = 2

/-- One file alone. -/
def shp (κ : List UInt8) (f : Int) (r : List (List Int)) : Shp := ⟨[(κ, f)], [(f, r)]⟩
def nof : Shp := ⟨[], []⟩

section
variable {κ : List UInt8} {f : Int} {r : List (List Int)} {t m : Stp} {ts : List Stp}

theorem lk_one {α β : Type} [DecidableEq α] (a : α) (b : β) : lk [(a, b)] a = some b := by rw [lk_cons]; simp
theorem st_one {α β : Type} [DecidableEq α] (a : α) (b c : β) : st [(a, b)] a c = [(a, c)] := by simp [st, dl]
theorem st_nil {α β : Type} [DecidableEq α] (a : α) (c : β) : st ([] : List (α × β)) a c = [(a, c)] := by simp [st, dl]

theorem shp_does (h : Sc f t) : (shp κ f r).does t = shp κ f (rstep r t) := by
  have hf := h.file
  unfold Shp.does rstep
  rcases h.kind with hk | hk
  · rw [if_neg (by omega), if_pos hk, if_pos hk]
    unfold Shp.put shp
    simp only
    rw [hf, lk_one]
    simp only
    rw [st_one]
  · rw [if_neg (by omega), if_neg (by omega), if_pos hk, if_neg (by omega)]
    unfold Shp.cut shp
    simp only
    rw [hf, lk_one]
    simp only
    split
    · rw [st_one]
    · rfl
theorem nof_does (h : Sc f t) : nof.does t = nof := by
  have hf := h.file
  unfold Shp.does
  rcases h.kind with hk | hk
  · rw [if_neg (by omega), if_pos hk]
    rfl
  · rw [if_neg (by omega), if_neg (by omega), if_pos hk]
    rfl
theorem nof_made (h0 : m.kind = 0) (hf : m.file = f) (hn : m.name.data.toList = κ) : nof.does m = shp κ f [] := by
  unfold Shp.does
  rw [if_pos h0, hf, hn]
  simp [Shp.take, nof, dl, st_nil, shp]
theorem shp_fold : ∀ (ts : List Stp), (∀ t ∈ ts, Sc f t) → ∀ r, ts.foldl Shp.does (shp κ f r) = shp κ f (rsteps ts r) := by
  intro ts
  induction ts with
  | nil => intro _ r; rfl
  | cons t ts ih => intro h r; rw [List.foldl_cons, shp_does (h t (by simp)), ih (fun x hx => h x (by simp [hx]))]; rfl
theorem nof_fold : ∀ (ts : List Stp), (∀ t ∈ ts, Sc f t) → ts.foldl Shp.does nof = nof := by
  intro ts
  induction ts with
  | nil => intro _; rfl
  | cons t ts ih => intro h; rw [List.foldl_cons, nof_does (h t (by simp)), ih (fun x hx => h x (by simp [hx]))]

theorem Sc.sec (h : Sc f t) : t.sec = true := by
  unfold Stp.sec
  rcases h.kind with hk | hk <;> simp [hk]
theorem sc_nms (h : ∀ t ∈ ts, Sc f t) : nms ts = [] := by
  unfold nms
  rw [List.filter_eq_nil_iff]
  intro t ht
  simp [(h t ht).sec]
theorem sc_scs (h : ∀ t ∈ ts, Sc f t) : scs ts f = ts := by
  unfold scs
  rw [List.filter_eq_self]
  intro t ht
  simp [(h t ht).sec, (h t ht).file]
theorem sc_offS (h : ∀ t ∈ ts, Sc f t) : offS ts f = [] := by
  unfold offS
  rw [List.filter_eq_nil_iff]
  intro t ht
  simp [(h t ht).sec, (h t ht).file]
theorem rsteps_snoc (ts : List Stp) (t : Stp) (r : List (List Int)) : rsteps (ts ++ [t]) r = rstep (rsteps ts r) t := by unfold rsteps; rw [List.foldl_append]; rfl
theorem rstep_num (r : List (List Int)) (t : Stp) (n : Int) : rstep r (t.num n) = rstep r t := rfl
end

/-- A file, with what a crash is sure to find of it: none, if its making is not durable. -/
structure Fx (κ : List UInt8) (f : Int) (d : Dsk) (rd : Option (List (List Int))) (rs : List (List Int)) : Prop where
  std : d.std = shp κ f rs
  made : d.made = f
  pos : 1 ≤ f
  how : (∃ r, rd = some r ∧ d.dur = shp κ f r ∧ (∀ t ∈ d.l, Sc f t) ∧ rsteps d.l r = rs) ∨
    (rd = none ∧ d.dur = nof ∧ ∃ m ss, d.l = m :: ss ∧ m.kind = 0 ∧ m.file = f ∧ m.name.data.toList = κ ∧ (∀ t ∈ ss, Sc f t) ∧ rsteps ss [] = rs)
/-- No file. -/
structure Fn (d : Dsk) : Prop where
  std : d.std = nof
  dur : d.dur = nof
  l : d.l = []
  made : 0 ≤ d.made

section
variable {s : ByteArray} {f : Int} {d : Dsk} {rd : Option (List (List Int))} {rs : List (List Int)}

theorem Fx.find (h : Fx s.data.toList f d rd rs) : d.find s = f := by unfold Dsk.find; rw [h.std]; simp [shp, lk_one]
theorem Fx.rows (h : Fx s.data.toList f d rd rs) : (lk d.std.rw (d.find s)).getD [] = rs := by rw [h.find, h.std]; simp [shp, lk_one]
theorem Fx.same {κ : List UInt8} {d' : Dsk} (h : Fx κ f d rd rs) (h1 : d'.dur = d.dur) (h2 : d'.std = d.std) (h3 : d'.l = d.l) (h5 : d'.made = d.made) : Fx κ f d' rd rs :=
  ⟨h2.trans h.std, h5.trans h.made, h.pos, by rw [h1, h3]; exact h.how⟩
theorem Fx.begin {κ : List UInt8} (h : Fx κ f d rd rs) : Fx κ f d.begin.2 rd rs := by
  obtain ⟨p1, p2, p3, p4, p5⟩ := begin_parts d
  exact h.same p1 p2 p3 p5
theorem Fx.do {κ : List UInt8} (h : Fx κ f d rd rs) {t : Stp} (ht : Sc f t) : Fx κ f (d.do t) rd (rstep rs t) := by
  refine ⟨by simp only [Dsk.do]; rw [h.std, shp_does ht], h.made, h.pos, ?_⟩
  have hn : Sc f (t.num (d.last + 1)) := ⟨ht.file, ht.kind⟩
  rcases h.how with ⟨r, h1, h2, h3, h4⟩ | ⟨h1, h2, m, ss, h3, h4, h5, h6, h7, h8⟩
  · refine .inl ⟨r, h1, h2, fun x hx => ?_, by simp only [Dsk.do]; rw [rsteps_snoc, h4, rstep_num]⟩
    rcases List.mem_append.1 hx with hx | hx
    · exact h3 x hx
    · rw [List.mem_singleton.1 hx]; exact hn
  · refine .inr ⟨h1, h2, m, ss ++ [t.num (d.last + 1)], by simp only [Dsk.do]; rw [h3]; rfl, h4, h5, h6, fun x hx => ?_, by rw [rsteps_snoc, h8, rstep_num]⟩
    rcases List.mem_append.1 hx with hx | hx
    · exact h7 x hx
    · rw [List.mem_singleton.1 hx]; exact hn

/-- A sector is put, or the disk refuses. -/
theorem Fx.put (h : Fx s.data.toList f d rd rs) (hs : 1 ≤ s.size ∧ s.size ≤ 64) {i : Nat} (hi : i ≤ rs.length) (hi2 : i < 4096) (data : List Int) :
    (d.begin.1 ≠ 0 ∧ d.put s (i : Int) 64 data = d.begin) ∨ (d.begin.1 = 0 ∧ (d.put s (i : Int) 64 data).1 = 0 ∧ (d.put s (i : Int) 64 data).2 = d.begin.2.do (putStp f (i : Int) data) ∧ Fx s.data.toList f (d.put s (i : Int) 64 data).2 rd (putIn rs i data)) := by
  have hf := h.find
  have hr := h.rows
  have hp := h.pos
  have e : d.put s (i : Int) 64 data = if d.begin.1 ≠ 0 then d.begin else (0, d.begin.2.do (putStp f (i : Int) data)) := by
    unfold Dsk.put
    rw [hr, hf, if_neg (by
      rintro (x | x | x | x)
      · exact x hs
      · exact x rfl
      · omega
      · omega), if_neg (by omega), if_neg (by omega : ¬ f = 0)]
  by_cases h0 : d.begin.1 = 0
  · refine .inr ⟨h0, by rw [e, if_neg (by simp [h0])], by rw [e, if_neg (by simp [h0])], ?_⟩
    rw [e, if_neg (by simp [h0])]
    have := h.begin.do (t := putStp f (i : Int) data) ⟨rfl, .inl rfl⟩
    simpa [rstep, putStp] using this
  · exact .inl ⟨h0, by rw [e, if_pos h0]⟩

theorem Fx.cut (h : Fx s.data.toList f d rd rs) {n : Nat} (hn : n ≤ rs.length) :
    (d.begin.1 ≠ 0 ∧ d.cut s (n : Int) = d.begin) ∨ (d.begin.1 = 0 ∧ (d.cut s (n : Int)).1 = 0 ∧ (d.cut s (n : Int)).2 = d.begin.2.do (cutStp f (n : Int)) ∧ Fx s.data.toList f (d.cut s (n : Int)).2 rd (rs.take n)) := by
  have hf := h.find
  have hr := h.rows
  have hp := h.pos
  have e : d.cut s (n : Int) = if d.begin.1 ≠ 0 then d.begin else (0, d.begin.2.do (cutStp f (n : Int))) := by
    unfold Dsk.cut
    rw [hr, hf, if_neg (by omega), if_neg (by omega)]
  by_cases h0 : d.begin.1 = 0
  · refine .inr ⟨h0, by rw [e, if_neg (by simp [h0])], by rw [e, if_neg (by simp [h0])], ?_⟩
    rw [e, if_neg (by simp [h0])]
    have := h.begin.do (t := cutStp f (n : Int)) ⟨rfl, .inr rfl⟩
    have e2 : rstep rs (cutStp f (n : Int)) = rs.take n := by
      unfold rstep cutStp
      simp only
      rw [if_neg (by omega)]
      split
      · simp
      · rw [List.take_of_length_le (by omega)]
    rwa [e2] at this
  · exact .inl ⟨h0, by rw [e, if_pos h0]⟩

theorem Fx.sync (h : Fx s.data.toList f d rd rs) :
    (d.begin.1 ≠ 0 ∧ d.sync s = d.begin) ∨ (d.begin.1 = 0 ∧ (d.sync s).1 = 0 ∧ Fx s.data.toList f (d.sync s).2 (some rs) rs ∧ (d.sync s).2.l = []) := by
  have hf := h.find
  have hp := h.pos
  have e : d.sync s = if d.begin.1 ≠ 0 then d.begin else (0, d.begin.2.settled f) := by
    unfold Dsk.sync
    rw [hf, if_neg (by omega)]
  by_cases h0 : d.begin.1 = 0
  · have hb := h.begin
    rw [e, if_neg (by simp [h0])]
    refine .inr ⟨h0, rfl, ?_⟩
    generalize d.begin.2 = d at hb
    rcases hb.how with ⟨r, h1, h2, h3, h4⟩ | ⟨h1, h2, m, ss, h3, h4, h5, h6, h7, h8⟩
    · have e1 : d.settled f = { d with dur := shp s.data.toList f rs, l := [] } := by
        unfold Dsk.settled
        rw [sc_nms h3]
        have e3 : toMake f ([] : List Stp) = 0 := rfl
        rw [e3]
        have e4 : offN 0 d.l = d.l := by cases d.l <;> rfl
        rw [e4, sc_scs h3, sc_offS h3, List.take_zero, List.foldl_nil, h2, shp_fold _ h3, h4]
      rw [e1]
      exact ⟨⟨hb.std, hb.made, hb.pos, .inl ⟨rs, rfl, rfl, by simp, rfl⟩⟩, rfl⟩
    · have hms : m.sec = false := by unfold Stp.sec; simp [h4]
      have hn : nms d.l = [m] := by
        rw [h3]
        have := sc_nms h7
        unfold nms at this ⊢
        rw [List.filter_cons, hms, this]
        rfl
      have e1 : d.settled f = { d with dur := shp s.data.toList f rs, l := [] } := by
        unfold Dsk.settled
        have e3 : toMake f [m] = 1 := by
          have : m.makes f = true := by simp [Stp.makes, h4, h5]
          unfold toMake
          simp [List.findIdx?_cons, this]
        have e4 : offN 1 (m :: ss) = ss := by
          unfold offN
          rw [hms]
          cases ss <;> rfl
        rw [hn, e3, h3, e4, sc_scs h7, sc_offS h7, show [m].take 1 = [m] from rfl, List.foldl_cons, List.foldl_nil, h2, nof_made h4 h5 h6, shp_fold _ h7, h8]
      rw [e1]
      exact ⟨⟨hb.std, hb.made, hb.pos, .inl ⟨rs, rfl, rfl, by simp, rfl⟩⟩, rfl⟩
  · exact .inl ⟨h0, by rw [e, if_pos h0]⟩

/-- A crash: what is sure, and any of the steps. -/
theorem Fx.crash (h : Fx s.data.toList f d rd rs) (ks : List Bool) :
    (∃ r ts, rd = some r ∧ (∀ t ∈ d.l, Sc f t) ∧ ts.Sublist d.l ∧ rsteps d.l r = rs ∧ Fx s.data.toList f (d.crash ks) (some (rsteps ts r)) (rsteps ts r)) ∨
    (rd = none ∧ ((∃ m ss ts, d.l = m :: ss ∧ (∀ t ∈ ss, Sc f t) ∧ ts.Sublist ss ∧ rsteps ss [] = rs ∧ Fx s.data.toList f (d.crash ks) (some (rsteps ts [])) (rsteps ts [])) ∨ Fn (d.crash ks))) := by
  rcases h.how with ⟨r, h1, h2, h3, h4⟩ | ⟨h1, h2, m, ss, h3, h4, h5, h6, h7, h8⟩
  · have hk := kep_sub d.l ks
    have hks : ∀ t ∈ kep d.l ks, Sc f t := fun t ht => h3 t (hk.subset ht)
    have e : (kep d.l ks).foldl Shp.does d.dur = shp s.data.toList f (rsteps (kep d.l ks) r) := by rw [h2, shp_fold _ hks]
    exact .inl ⟨r, kep d.l ks, h1, h3, hk, h4, ⟨e, h.made, h.pos, .inl ⟨_, rfl, e, by simp [Dsk.crash], rfl⟩⟩⟩
  · refine .inr ⟨h1, ?_⟩
    have hd : d.crash ks = ⟨(kep d.l ks).foldl Shp.does d.dur, (kep d.l ks).foldl Shp.does d.dur, [], 0, d.made, false, -1, -1, d.failure⟩ := rfl
    have hm := h.made
    have hp := h.pos
    cases ks with
    | nil =>
      refine .inr ⟨?_, ?_, rfl, by rw [hd]; simp only; omega⟩
      · rw [hd, kep_nil]; exact h2
      · rw [hd, kep_nil]; exact h2
    | cons b ks =>
      have hk := kep_sub ss ks
      have hks : ∀ t ∈ kep ss ks, Sc f t := fun t ht => h7 t (hk.subset ht)
      cases b with
      | true =>
        have e : (kep d.l (true :: ks)).foldl Shp.does d.dur = shp s.data.toList f (rsteps (kep ss ks) []) := by
          rw [h3, h2]
          show ([m] ++ kep ss ks).foldl Shp.does nof = _
          rw [List.foldl_append, List.foldl_cons, List.foldl_nil, nof_made h4 h5 h6, shp_fold _ hks]
        exact .inl ⟨m, ss, kep ss ks, h3, h7, hk, h8, ⟨e, h.made, h.pos, .inl ⟨_, rfl, e, by simp [Dsk.crash], rfl⟩⟩⟩
      | false =>
        have e : (kep d.l (false :: ks)).foldl Shp.does d.dur = nof := by
          rw [h3, h2]
          show ([] ++ kep ss ks).foldl Shp.does nof = _
          rw [List.nil_append, nof_fold _ hks]
        exact .inr ⟨e, e, rfl, by rw [hd]; simp only; omega⟩
end

end Go.Proofs.YtgbboaedhpaocaaGreat

/-
  What a crash leaves of a file: of each sector what some stream between two has there; so its stream is between these two.
-/
namespace Go.Proofs.YtgbboaedhpaocaaGreat
open Go.RowKit
set_option maxRecDepth 100000
set_option maxRecDepth 100000
set_option linter.unusedVariables false

/-- A sector says that it has these data. -/
def Hol (s : List Int) (x : List Int) : Prop := fil s = x.length ∧ (s.drop 2).take (fil s) = x

theorem hol_sec (zs : List Int) (i : Nat) : Hol (sec zs i) (dat zs i) := ⟨fil_sec zs i, sec_data zs i⟩
theorem hol_zero : Hol (List.replicate 64 0) [] := ⟨rfl, rfl⟩

/-- Of each sector what some stream between the two has there. -/
structure Hd (Zl Zh : List Int) (r : List (List Int)) : Prop where
  len : nsec Zl.length ≤ r.length
  at' : ∀ i (h : i < r.length), ∃ Z, Zl <+: Z ∧ Z <+: Zh ∧ Hol r[i] (dat Z i)

theorem nsec_mono {a b : Nat} (h : a ≤ b) : nsec a ≤ nsec b := by unfold nsec; omega
theorem dat_beyond {Z : List Int} {i : Nat} (h : nsec Z.length ≤ i) : dat Z i = [] := by
  unfold dat
  rw [List.drop_of_length_le (by unfold nsec at h; omega), List.take_nil]

theorem Hd.wide {Zl Zl' Zh Zh' : List Int} {r : List (List Int)} (h : Hd Zl Zh r) (h1 : Zl' <+: Zl) (h2 : Zh <+: Zh') : Hd Zl' Zh' r :=
  ⟨Nat.le_trans (nsec_mono h1.length_le) h.len, fun i hi => by obtain ⟨Z, a, b, c⟩ := h.at' i hi; exact ⟨Z, h1.trans a, b.trans h2, c⟩⟩

/-- A step between the two. -/
def Btw (Zl Zh : List Int) (t : Stp) : Prop := (t.kind = 1 ∧ ∃ Z i, Zl <+: Z ∧ Z <+: Zh ∧ t.at' = ((i : Nat) : Int) ∧ t.data = sec Z i) ∨ (t.kind = 2 ∧ (nsec Zl.length : Int) ≤ t.at')

theorem Btw.wide {Zl Zl' Zh Zh' : List Int} {t : Stp} (h : Btw Zl Zh t) (h1 : Zl' <+: Zl) (h2 : Zh <+: Zh') : Btw Zl' Zh' t := by
  rcases h with ⟨a, Z, i, b, c, e, g⟩ | ⟨a, b⟩
  · exact .inl ⟨a, Z, i, h1.trans b, c.trans h2, e, g⟩
  · exact .inr ⟨a, by have := nsec_mono h1.length_le; omega⟩

theorem putIn_len (r : List (List Int)) (k : Nat) (x : List Int) : (putIn r k x).length = max r.length (k + 1) := by
  unfold putIn
  rw [List.length_set, List.length_append, List.length_replicate]
  omega
theorem putIn_at (r : List (List Int)) (k : Nat) (x : List Int) (i : Nat) (h : i < (putIn r k x).length) : (putIn r k x)[i] = if i = k then x else if h2 : i < r.length then r[i] else List.replicate 64 0 := by
  by_cases e : i = k
  · rw [if_pos e]
    simp only [putIn]
    rw [List.getElem_set, if_pos e.symm]
  · rw [if_neg e]
    simp only [putIn]
    rw [List.getElem_set, if_neg (fun x => e x.symm), List.getElem_append]
    by_cases h2 : i < r.length
    · rw [dif_pos h2, dif_pos h2]
    · rw [dif_neg h2, dif_neg h2, List.getElem_replicate]

theorem Hd.step {Zl Zh : List Int} {r : List (List Int)} {t : Stp} (h : Hd Zl Zh r) (hlh : Zl <+: Zh) (ht : Btw Zl Zh t) : Hd Zl Zh (rstep r t) := by
  unfold rstep
  rcases ht with ⟨hk, Z, i, a, b, e, g⟩ | ⟨hk, hn⟩
  · rw [if_pos hk, e, g, Int.toNat_natCast]
    have hl := putIn_len r i (sec Z i)
    refine ⟨by have := h.len; omega, fun j hj => ?_⟩
    rw [putIn_at]
    by_cases e1 : j = i
    · rw [if_pos e1, e1]
      exact ⟨Z, a, b, hol_sec Z i⟩
    · rw [if_neg e1]
      by_cases e2 : j < r.length
      · rw [dif_pos e2]
        exact h.at' j e2
      · rw [dif_neg e2]
        exact ⟨Zl, List.prefix_refl _, hlh, by rw [dat_beyond (by have := h.len; omega)]; exact hol_zero⟩
  · rw [if_neg (by omega)]
    split
    · refine ⟨by rw [List.length_take]; have := h.len; omega, fun j hj => ?_⟩
      rw [List.getElem_take]
      exact h.at' j (by rw [List.length_take] at hj; omega)
    · exact h

theorem Hd.steps {Zl Zh : List Int} (hlh : Zl <+: Zh) : ∀ (ts : List Stp) (r : List (List Int)), Hd Zl Zh r → (∀ t ∈ ts, Btw Zl Zh t) → Hd Zl Zh (rsteps ts r) := by
  intro ts
  induction ts with
  | nil => exact fun r h _ => h
  | cons t ts ih => exact fun r h ht => ih _ (h.step hlh (ht t (by simp))) (fun x hx => ht x (by simp [hx]))

/-- A prefix's data at a place are a prefix of the data there. -/
theorem dat_pre {Z Z' : List Int} (h : Z <+: Z') (i : Nat) : dat Z i <+: Z'.drop (62 * i) := by
  obtain ⟨t, rfl⟩ := h
  unfold dat
  by_cases hi : 62 * i ≤ Z.length
  · rw [List.drop_append_of_le_length hi]
    exact (List.take_prefix _ _).trans (List.prefix_append _ _)
  · rw [List.drop_of_length_le (by omega)]
    simp

/-- The stream of such sectors, from a place on. -/
theorem strm_from {Zl Zh : List Int} : ∀ (rs : List (List Int)) (k : Nat), (∀ i (h : i < rs.length), ∃ Z, Zl <+: Z ∧ Z <+: Zh ∧ Hol rs[i] (dat Z (k + i))) → strm rs <+: Zh.drop (62 * k) ∧ (nsec Zl.length ≤ k + rs.length → Zl.drop (62 * k) <+: strm rs)
  | [], k, _ => by
    refine ⟨by simp [strm], fun h => ?_⟩
    simp only [List.length_nil, Nat.add_zero] at h
    rw [List.drop_of_length_le (by unfold nsec at h; omega)]
    simp
  | s :: rs, k, h => by
    obtain ⟨Z, a, b, c1, c2⟩ := h 0 (by simp)
    simp only [List.getElem_cons_zero, Nat.add_zero] at c1 c2
    have hp := dat_pre b k
    have hl := dat_length Z k
    obtain ⟨i1, i2⟩ := strm_from rs (k + 1) (fun i hi => by
      have := h (i + 1) (by simp; omega)
      simp only [List.getElem_cons_succ] at this
      rw [show k + 1 + i = k + (i + 1) from by omega]
      exact this)
    have hal := a.length_le
    unfold strm
    rw [c2]
    by_cases hf : fil s < 62
    · rw [if_pos hf, List.append_nil]
      refine ⟨hp, fun _ => ?_⟩
      -- the stream ends here: what the lesser one has from here on is shorter than a sector
      have hz : Zl.drop (62 * k) <+: Z.drop (62 * k) := by
        obtain ⟨t, rfl⟩ := a
        by_cases hi : 62 * k ≤ Zl.length
        · rw [List.drop_append_of_le_length hi]; exact List.prefix_append _ _
        · rw [List.drop_of_length_le (by omega)]; simp
      have hz2 : dat Z k = Z.drop (62 * k) := by
        unfold dat
        refine List.take_of_length_le ?_
        rw [List.length_drop]
        omega
      rw [hz2]
      exact hz
    · rw [if_neg hf]
      have h62 : (dat Z k).length = 62 := by have := dat_le Z k; omega
      have e62 : Zh.drop (62 * k) = dat Z k ++ Zh.drop (62 * (k + 1)) := by
        obtain ⟨t, ht⟩ := hp
        have : Zh.drop (62 * (k + 1)) = t := by
          rw [show 62 * (k + 1) = 62 * k + 62 from by omega, ← List.drop_drop, ← ht, ← h62, List.drop_left' rfl]
        rw [this, ht]
      refine ⟨?_, fun hn => ?_⟩
      · rw [e62]
        exact (List.prefix_append_right_inj _).2 i1
      · have i3 := i2 (by simp only [List.length_cons] at hn; omega)
        have hpl := dat_pre (a.trans b) k
        by_cases hlong : 62 * k + 62 ≤ Zl.length
        · have e1 : dat Zl k = dat Z k := by
            have h1 : (dat Zl k).length = 62 := by rw [dat_length]; omega
            obtain ⟨t1, q1⟩ := hpl
            obtain ⟨t2, q2⟩ := hp
            have : (dat Zl k ++ t1).take 62 = (dat Z k ++ t2).take 62 := by rw [q1, q2]
            rwa [List.take_left' h1, List.take_left' h62] at this
          have e2 : Zl.drop (62 * k) = dat Z k ++ Zl.drop (62 * (k + 1)) := by
            rw [← e1, dat, show 62 * (k + 1) = 62 * k + 62 from by omega, ← List.drop_drop, List.take_append_drop]
          rw [e2]
          exact (List.prefix_append_right_inj _).2 i3
        · have hz : Zl.drop (62 * k) <+: dat Z k := by
            obtain ⟨t, rfl⟩ := a
            unfold dat
            by_cases hi : 62 * k ≤ Zl.length
            · rw [List.drop_append_of_le_length hi, List.take_append, List.take_of_length_le (by rw [List.length_drop]; omega)]
              exact List.prefix_append _ _
            · rw [List.drop_of_length_le (by omega)]; simp
          exact hz.trans (List.prefix_append _ _)

/-- The stream is between the two. -/
theorem Hd.strm {Zl Zh : List Int} {r : List (List Int)} (h : Hd Zl Zh r) : strm r <+: Zh ∧ Zl <+: strm r := by
  have := strm_from r 0 (fun i hi => by rw [Nat.zero_add]; exact h.at' i hi)
  simp only [Nat.mul_zero, List.drop_zero, Nat.zero_add] at this
  exact ⟨this.1, this.2 h.len⟩

/-- The frames of a beginning are a beginning of the frames. -/
theorem frs_pre : ∀ (bs : List (List Int)), (∀ b ∈ bs, b.length ≤ 65536) → ∀ m, ∃ k, k ≤ bs.length ∧ frs ((flat bs).take m) = bs.take k
  | [], _, m => ⟨0, Nat.le_refl _, by simp [flat, frs_nil]⟩
  | b :: bs, h, m => by
    have hb := h b (by simp)
    by_cases hm : 4 + b.length ≤ m
    · obtain ⟨k, hk, e⟩ := frs_pre bs (fun x hx => h x (by simp [hx])) (m - (4 + b.length))
      refine ⟨k + 1, by simp; omega, ?_⟩
      rw [flat_cons, List.take_append, List.take_of_length_le (by rw [fr_length]; exact hm), fr_length]
      have := frs_of_flat (bs := [b]) (by simpa using hb) ((flat bs).take (m - (4 + b.length)))
      rw [show flat [b] = fr b from by simp [flat]] at this
      rw [this, e]
      rfl
    · refine ⟨0, Nat.zero_le _, ?_⟩
      rw [flat_cons, List.take_append_of_le_length (by rw [fr_length]; omega), List.take_zero]
      by_cases h4 : m < 4
      · exact frs_few (by rw [List.length_take]; omega)
      · have hl : ((fr b).take m).length = m := by rw [List.length_take, fr_length]; omega
        have hu : un (((fr b).take m).take 4) = b.length := by
          rw [List.take_take, Nat.min_eq_left (by omega), fr, List.take_left' (be_length 4 _), un_be, Nat.mod_eq_of_lt (by omega)]
        rw [frs_eq, if_neg (by omega), if_neg (by omega), if_pos (by omega)]

/-- The frames of what is between. -/
theorem frs_between {bs : List (List Int)} {n : Nat} {zs : List Int} (h : ∀ b ∈ bs, b.length ≤ 65536) (hl : flat (bs.take n) <+: zs) (hh : zs <+: flat bs) : ∃ k, min n bs.length ≤ k ∧ k ≤ bs.length ∧ frs zs = bs.take k := by
  have e : zs = (flat bs).take zs.length := List.prefix_iff_eq_take.1 hh
  obtain ⟨k, hk, e2⟩ := frs_pre bs h zs.length
  rw [← e] at e2
  obtain ⟨t, ht⟩ := hl
  have e3 := frs_of_flat (bs := bs.take n) (fun b hb => h b (List.mem_of_mem_take hb)) t
  rw [ht, e2] at e3
  have := congrArg List.length e3
  rw [List.length_append, List.length_take, List.length_take] at this
  exact ⟨k, by omega, hk, e2⟩

end Go.Proofs.YtgbboaedhpaocaaGreat

/-
  A disk with one file and nothing armed: what Open, Append and Sync leave of the file.
-/
namespace Go.Proofs.YtgbboaedhpaocaaGreat
open Go.RowKit
set_option maxRecDepth 100000
set_option maxRecDepth 100000
set_option linter.unusedVariables false

/-- Nothing is armed. -/
structure Qt (d : Dsk) : Prop where
  down : d.down = false
  armed : d.armed = -1
  failing : d.failing = -1

theorem Qt.begin {d : Dsk} (h : Qt d) : d.begin.1 = 0 ∧ Qt d.begin.2 := by
  have e : d.begin = (0, { d with armed := lessed d.armed, failing := lessed d.failing }) := by
    unfold Dsk.begin
    rw [if_neg (by rw [h.down]; simp), if_neg (by rw [h.armed]; decide), if_neg (by rw [h.failing]; decide)]
  rw [e]
  exact ⟨rfl, h.down, by simp only; rw [h.armed]; rfl, by simp only; rw [h.failing]; rfl⟩
theorem Qt.same {d d' : Dsk} (h : Qt d) (h1 : d'.down = d.down) (h2 : d'.armed = d.armed) (h3 : d'.failing = d.failing) : Qt d' := ⟨h1.trans h.down, h2.trans h.armed, h3.trans h.failing⟩
theorem Qt.do {d : Dsk} (h : Qt d) (t : Stp) : Qt (d.do t) := h.same rfl rfl rfl
theorem Qt.settled {d : Dsk} (h : Qt d) (f : Int) : Qt (d.settled f) := h.same rfl rfl rfl
theorem qt_crash (d : Dsk) (ks : List Bool) : Qt (d.crash ks) := ⟨rfl, rfl, rfl⟩

/-- There is the file. -/
def Fy (s : ByteArray) (d : Dsk) (rs : List (List Int)) : Prop := Qt d ∧ ∃ f rd, Fx s.data.toList f d rd rs
/-- The file, or none. -/
def Fq (s : ByteArray) (d : Dsk) (rs : List (List Int)) : Prop := Fy s d rs ∨ (Qt d ∧ Fn d ∧ rs = [])

theorem fq_new (s : ByteArray) : Fq s newDsk [] := .inr ⟨⟨rfl, rfl, rfl⟩, ⟨rfl, rfl, rfl, by decide⟩, rfl⟩

theorem putIn_get {r : List (List Int)} {k : Nat} {x : List Int} (hk : k ≤ r.length) (i : Nat) : (putIn r k x)[i]? = if i = k then some x else r[i]? := by
  have hl := putIn_len r k x
  by_cases e : i = k
  · rw [if_pos e, List.getElem?_eq_getElem (by omega), putIn_at, if_pos e]
  · rw [if_neg e]
    by_cases h2 : i < r.length
    · rw [List.getElem?_eq_getElem (by omega), putIn_at, if_neg e, dif_pos h2, List.getElem?_eq_getElem h2]
    · rw [List.getElem?_eq_none (by omega), List.getElem?_eq_none (by omega)]

section
variable {s : ByteArray} {d : Dsk} {rs : List (List Int)}

theorem Fn.find (h : Fn d) : d.find s = 0 := by unfold Dsk.find; rw [h.std]; rfl
theorem Fq.qt (h : Fq s d rs) : Qt d := h.elim (fun h => h.1) (fun h => h.1)
theorem Fq.held (h : Fq s d rs) : d.held s = rs ∧ ¬ (d.read s ≠ 0 ∧ d.read s ≠ 70) := by
  rcases h with ⟨hq, f, rd, h⟩ | ⟨hq, h, rfl⟩
  · have hp := h.pos
    have e : d.read s = 0 := by unfold Dsk.read; rw [h.find, if_neg (by omega), hq.down]; rfl
    exact ⟨by unfold Dsk.held; rw [if_pos e, h.rows], by rw [e]; simp⟩
  · have e : d.read s = 70 := by unfold Dsk.read; rw [h.find, if_pos rfl]
    exact ⟨by unfold Dsk.held; rw [e]; rfl, by rw [e]; simp⟩

theorem Fy.put (h : Fy s d rs) (hs : 1 ≤ s.size ∧ s.size ≤ 64) {i : Nat} (hi : i ≤ rs.length) (hi2 : i < 4096) (data : List Int) : (d.put s (i : Int) 64 data).1 = 0 ∧ Fy s (d.put s (i : Int) 64 data).2 (putIn rs i data) := by
  obtain ⟨hq, f, rd, h⟩ := h
  obtain ⟨b1, b2⟩ := hq.begin
  rcases h.put hs hi hi2 data with ⟨a, _⟩ | ⟨_, a, b, c⟩
  · exact absurd b1 a
  · exact ⟨a, by rw [b]; exact b2.do _, f, rd, c⟩

theorem Fn.put (hq : Qt d) (h : Fn d) (hs : 1 ≤ s.size ∧ s.size ≤ 64) (data : List Int) : (d.put s ((0 : Nat) : Int) 64 data).1 = 0 ∧ Fy s (d.put s ((0 : Nat) : Int) 64 data).2 (putIn [] 0 data) := by
  obtain ⟨b1, b2⟩ := hq.begin
  obtain ⟨p1, p2, p3, p4, p5⟩ := begin_parts d
  have hm := h.made
  have e : d.put s ((0 : Nat) : Int) 64 data = (0, (({ d.begin.2 with made := d.begin.2.made + 1 } : Dsk).do (madeStp (d.begin.2.made + 1) s)).do (putStp (d.begin.2.made + 1) ((0 : Nat) : Int) data)) := by
    unfold Dsk.put
    rw [h.find, h.std, if_neg (by
      rintro (x | x | x | x)
      · exact x hs
      · exact x rfl
      · omega
      · simp at x; omega), if_neg (by
      rintro (x | x)
      · omega
      · simp [nof] at x), if_neg (by rw [b1]; simp), if_pos rfl]
  rw [e]
  refine ⟨rfl, ⟨b2.down, b2.armed, b2.failing⟩, d.begin.2.made + 1, none, ?_, rfl, by rw [p5]; omega, .inr ⟨rfl, ?_, (madeStp (d.begin.2.made + 1) s).num (d.begin.2.last + 1), [(putStp (d.begin.2.made + 1) ((0 : Nat) : Int) data).num (d.begin.2.last + 1 + 1)], ?_, rfl, rfl, rfl, ?_, rfl⟩⟩
  · simp only [Dsk.do]
    rw [p2, h.std, nof_made (f := d.begin.2.made + 1) (κ := s.data.toList) rfl rfl rfl]
    exact shp_does (κ := s.data.toList) (f := d.begin.2.made + 1) (r := []) (t := putStp (d.begin.2.made + 1) ((0 : Nat) : Int) data) ⟨rfl, .inl rfl⟩
  · simp only [Dsk.do]
    rw [p1, h.dur]
  · simp only [Dsk.do]
    rw [p3, h.l]
    rfl
  · intro t ht
    rw [List.mem_singleton.1 ht]
    exact ⟨rfl, .inl rfl⟩

theorem Fq.put (h : Fq s d rs) (hs : 1 ≤ s.size ∧ s.size ≤ 64) {i : Nat} (hi : i ≤ rs.length) (hi2 : i < 4096) (data : List Int) : (d.put s (i : Int) 64 data).1 = 0 ∧ Fy s (d.put s (i : Int) 64 data).2 (putIn rs i data) := by
  rcases h with h | ⟨hq, h, rfl⟩
  · exact h.put hs hi hi2 data
  · obtain rfl : i = 0 := by simpa using hi
    exact h.put hq hs data

theorem Fy.sputs (hs : 1 ≤ s.size ∧ s.size ≤ 64) (zs : List Int) : ∀ (n f : Nat) (d : Dsk) (rs : List (List Int)), Fy s d rs → f ≤ rs.length → f + n ≤ 4096 → ∃ rs', (Dsk.sputs s zs (List.range' f n) d).1 = 0 ∧ Fy s (Dsk.sputs s zs (List.range' f n) d).2 rs' ∧ rs'.length = max rs.length (f + n) ∧
    (∀ i, (i < f ∨ f + n ≤ i) → rs'[i]? = rs[i]?) ∧ (∀ i, f ≤ i → i < f + n → rs'[i]? = some (sec zs i)) := by
  intro n
  induction n with
  | zero => intro f d rs h hf hn; exact ⟨rs, rfl, h, by omega, fun _ _ => rfl, fun i a b => by omega⟩
  | succ n ih =>
    intro f d rs h hf hn
    obtain ⟨a, b⟩ := h.put hs hf (by omega) (sec zs f)
    have e : Dsk.sputs s zs (List.range' f (n + 1)) d = Dsk.sputs s zs (List.range' (f + 1) n) (d.put s (f : Int) 64 (sec zs f)).2 := by
      rw [List.range'_succ]
      show (if (d.put s (f : Int) 64 (sec zs f)).1 = 0 then _ else _) = _
      rw [if_pos a]
    have hl := putIn_len rs f (sec zs f)
    obtain ⟨rs', i1, i2, i3, i4, i5⟩ := ih (f + 1) _ _ b (by omega) (by omega)
    rw [e]
    refine ⟨rs', i1, i2, by omega, fun i hi => ?_, fun i h1 h2 => ?_⟩
    · rw [i4 i (by omega), putIn_get hf, if_neg (by omega)]
    · by_cases c : i = f
      · rw [i4 i (by omega), putIn_get hf, if_pos c, c]
      · exact i5 i (by omega) (by omega)

theorem Fq.sputs (h : Fq s d rs) (hs : 1 ≤ s.size ∧ s.size ≤ 64) (zs : List Int) {n f : Nat} (hf : f ≤ rs.length) (hn0 : 0 < n) (hn : f + n ≤ 4096) : ∃ rs', (Dsk.sputs s zs (List.range' f n) d).1 = 0 ∧ Fy s (Dsk.sputs s zs (List.range' f n) d).2 rs' ∧ rs'.length = max rs.length (f + n) ∧
    (∀ i, (i < f ∨ f + n ≤ i) → rs'[i]? = rs[i]?) ∧ (∀ i, f ≤ i → i < f + n → rs'[i]? = some (sec zs i)) := by
  obtain ⟨n, rfl⟩ : ∃ m, n = m + 1 := ⟨n - 1, by omega⟩
  obtain ⟨a, b⟩ := h.put hs hf (by omega) (sec zs f)
  have e : Dsk.sputs s zs (List.range' f (n + 1)) d = Dsk.sputs s zs (List.range' (f + 1) n) (d.put s (f : Int) 64 (sec zs f)).2 := by
    rw [List.range'_succ]
    show (if (d.put s (f : Int) 64 (sec zs f)).1 = 0 then _ else _) = _
    rw [if_pos a]
  have hl := putIn_len rs f (sec zs f)
  obtain ⟨rs', i1, i2, i3, i4, i5⟩ := Fy.sputs hs zs n (f + 1) _ _ b (by omega) (by omega)
  rw [e]
  refine ⟨rs', i1, i2, by omega, fun i hi => ?_, fun i h1 h2 => ?_⟩
  · rw [i4 i (by omega), putIn_get hf, if_neg (by omega)]
  · by_cases c : i = f
    · rw [i4 i (by omega), putIn_get hf, if_pos c, c]
    · exact i5 i (by omega) (by omega)

theorem Fy.cut (h : Fy s d rs) {n : Nat} (hn : n ≤ rs.length) : (d.cut s (n : Int)).1 = 0 ∧ Fy s (d.cut s (n : Int)).2 (rs.take n) := by
  obtain ⟨hq, f, rd, h⟩ := h
  obtain ⟨b1, b2⟩ := hq.begin
  rcases h.cut hn with ⟨a, _⟩ | ⟨_, a, b, c⟩
  · exact absurd b1 a
  · exact ⟨a, by rw [b]; exact b2.do _, f, rd, c⟩

theorem Fy.sync (h : Fy s d rs) : (d.sync s).1 = 0 ∧ Fy s (d.sync s).2 rs ∧ Fy s ((d.sync s).2.crash []) rs := by
  obtain ⟨hq, f, rd, h⟩ := h
  obtain ⟨b1, b2⟩ := hq.begin
  have hp := h.pos
  rcases h.sync with ⟨a, _⟩ | ⟨_, a, b, c⟩
  · exact absurd b1 a
  · have e : (d.sync s).2 = d.begin.2.settled f := by
      unfold Dsk.sync
      rw [h.find, if_neg (by omega), if_neg (by rw [b1]; simp)]
    refine ⟨a, ⟨by rw [e]; exact b2.settled f, f, _, b⟩, qt_crash _ _, f, some rs, ?_⟩
    · rcases b.crash [] with ⟨r, ts, e1, _, e3, _, e5⟩ | ⟨e1, _⟩
      · rw [c] at e3
        have : ts = [] := List.sublist_nil.1 e3
        subst this
        cases e1
        exact e5
      · cases e1

/-- A sector that is full has its part of the stream. -/
theorem strm_hol : ∀ (rs : List (List Int)) (i : Nat), (∀ r ∈ rs, r.length = 64) → 62 * (i + 1) ≤ (strm rs).length → ∃ h : i < rs.length, Hol rs[i] (dat (strm rs) i)
  | [], i, _, hl => by simp [strm] at hl
  | x :: rs, i, h, hl => by
    have hx : x.length = 64 := h x (by simp)
    have h62 : fil x ≤ 62 := by unfold fil; split <;> omega
    have ht : ((x.drop 2).take (fil x)).length = fil x := by rw [List.length_take, List.length_drop]; omega
    have hf : fil x = 62 := by
      simp only [strm, List.length_append, ht] at hl
      by_cases c : fil x < 62
      · rw [if_pos c] at hl
        simp at hl
        omega
      · omega
    have e : strm (x :: rs) = (x.drop 2).take 62 ++ strm rs := by simp only [strm]; rw [hf, if_neg (by omega)]
    rw [hf] at ht
    rw [e] at hl ⊢
    rw [List.length_append, ht] at hl
    match i with
    | 0 =>
      refine ⟨by simp, ?_⟩
      have e2 : dat ((x.drop 2).take 62 ++ strm rs) 0 = (x.drop 2).take 62 := by unfold dat; rw [Nat.mul_zero, List.drop_zero, List.take_append_of_le_length (by omega), List.take_of_length_le (by omega)]
      rw [e2]
      exact ⟨by rw [ht]; exact hf, by simp only [List.getElem_cons_zero]; rw [hf]⟩
    | i + 1 =>
      obtain ⟨h1, h2⟩ := strm_hol rs i (fun r hr => h r (by simp [hr])) (by omega)
      refine ⟨by simp; omega, ?_⟩
      have e2 : dat ((x.drop 2).take 62 ++ strm rs) (i + 1) = dat (strm rs) i := by
        unfold dat
        rw [List.drop_append, List.drop_of_length_le (by omega), ht, show 62 * (i + 1) - 62 = 62 * i by omega, List.nil_append]
      rw [e2]
      simpa using h2

theorem dat_full {Z Y : List Int} (h : Z <+: Y) {i : Nat} (hi : 62 * (i + 1) ≤ Z.length) : dat Z i = dat Y i := by
  obtain ⟨t, rfl⟩ := h
  unfold dat
  rw [List.drop_append_of_le_length (by omega), List.take_append_of_le_length (by rw [List.length_drop]; omega)]

theorem Hd.self {Z : List Int} {r : List (List Int)} (h : Hd Z Z r) {i : Nat} (hi : i < r.length) : Hol r[i] (dat Z i) := by
  obtain ⟨Y, a, b, c⟩ := h.at' i hi
  obtain rfl : Y = Z := b.eq_of_length_le a.length_le
  exact c
theorem hd_of {Z : List Int} {r : List (List Int)} (hl : nsec Z.length ≤ r.length) (h : ∀ i (hi : i < r.length), Hol r[i] (dat Z i)) : Hd Z Z r := ⟨hl, fun i hi => ⟨Z, List.prefix_refl _, List.prefix_refl _, h i hi⟩⟩
theorem strm_hd {Z : List Int} {r : List (List Int)} (h : Hd Z Z r) : strm r = Z := by
  obtain ⟨a, b⟩ := h.strm
  exact a.eq_of_length_le b.length_le

theorem rows_eq {a b : List (List Int)} (ha : ∀ r ∈ a, r.length = 64) (hb : ∀ r ∈ b, r.length = 64) (h : a.flatten = b.flatten) : a = b := by
  have l1 := rows_len a ha
  have l2 := rows_len b hb
  rw [h] at l1
  refine List.ext_getElem (by omega) (fun i h1 h2 => ?_)
  rw [← rows_at a ha i h1, ← rows_at b hb i h2, h]

/-- Open of a file of whatever sectors: its frames, and sectors that are of these frames alone. -/
theorem Fq.opn {K : Nat} (h : Fq s d rs) (hs : 1 ≤ s.size ∧ s.size ≤ 64) (hb : Bw d K) : (d.opn s).1 = 0 ∧ d.frames s = frs (strm rs) ∧ ∃ rs', Fq s (d.opn s).2 rs' ∧ Hd (flat (d.frames s)) (flat (d.frames s)) rs' := by
  obtain ⟨e1, e2⟩ := h.held
  have hw := held_bw hb s
  rw [e1] at hw
  have h64 : ∀ r ∈ rs, r.length = 64 := fun r hr => (hw.2 r hr).1
  have hby := strm_byte (fun r hr => (hw.2 r hr).2)
  have hfr : d.frames s = frs (strm rs) := by unfold Dsk.frames; rw [e1]
  obtain ⟨Z, hZ⟩ : ∃ Z, Z = flat (d.frames s) := ⟨_, rfl⟩
  have hpre : Z <+: strm rs := by
    have := frs_take hby
    rw [← hfr, ← hZ] at this
    rw [← this]
    exact List.take_prefix _ _
  have hZl : Z.length ≤ 62 * rs.length := Nat.le_trans hpre.length_le (strm_le rs)
  unfold Dsk.opn
  rw [if_neg e2, ← hZ, e1]
  by_cases hc : rs.flatten = clean Z
  · rw [if_pos hc]
    have e : rs = secs Z := rows_eq h64 (secs_64 Z) hc
    refine ⟨rfl, hfr, rs, h, hd_of (by rw [e, secs_length]; exact Nat.le_refl _) (fun i hi => ?_)⟩
    have : rs[i] = sec Z i := by subst e; simp [secs]
    rw [this]
    exact hol_sec Z i
  · rw [if_neg hc]
    have hy : Fy s d rs := by
      rcases h with h | ⟨_, _, h0⟩
      · exact h
      · exfalso
        apply hc
        rw [hZ, hfr, h0]
        rfl
    have hn0 : nsec Z.length ≤ rs.length := by unfold nsec; omega
    obtain ⟨r1, s1, s2, s3, s4, s5⟩ := Fy.sputs hs Z (nsec Z.length - Z.length / 62) (Z.length / 62) d rs hy (by omega) (by have := hw.1; unfold nsec at hn0 ⊢; omega)
    have hsum : Z.length / 62 + (nsec Z.length - Z.length / 62) = nsec Z.length := by unfold nsec; omega
    rw [hsum] at s3 s4 s5
    obtain ⟨c1, c2⟩ := s2.cut (n := nsec Z.length) (by omega)
    obtain ⟨y1, y2, _⟩ := c2.sync
    have el : d.leave s Z = ((d.sput s Z (Z.length / 62)).2.cut s (nsec Z.length : Int)).2.sync s := by
      unfold Dsk.leave
      rw [if_neg (by unfold Dsk.sput; rw [s1]; simp), if_neg (by unfold Dsk.sput; rw [c1]; simp)]
    rw [el]
    refine ⟨y1, hfr, _, .inl y2, hd_of (by rw [List.length_take]; omega) (fun i hi => ?_)⟩
    rw [List.length_take] at hi
    rw [List.getElem_take]
    by_cases ci : i < Z.length / 62
    · have hg := s4 i (.inl ci)
      rw [List.getElem?_eq_getElem (by omega), List.getElem?_eq_getElem (by omega)] at hg
      obtain ⟨_, hh⟩ := strm_hol rs i h64 (by have := hpre.length_le; omega)
      rw [Option.some.inj hg, dat_full hpre (by omega)]
      exact hh
    · have hg := s5 i (by omega) (by omega)
      rw [List.getElem?_eq_getElem (by omega)] at hg
      rw [Option.some.inj hg]
      exact hol_sec Z i

theorem Fq.sapp {bs : List (List Int)} {b : List Int} (h : Fq s d rs) (hs : 1 ≤ s.size ∧ s.size ≤ 64) (hd : Hd (flat bs) (flat bs) rs) (hb : b.length ≤ 65536) (hm : nsec (flat bs ++ fr b).length ≤ 4096) :
    ∃ d' rs', d.sapp s bs false b = ⟨bs.length, 0, d', bs ++ [b], false⟩ ∧ Fy s d' rs' ∧ Hd (flat (bs ++ [b])) (flat (bs ++ [b])) rs' := by
  have ef : flat (bs ++ [b]) = flat bs ++ fr b := by rw [flat_app, flat_cons, flat_nil, List.append_nil]
  obtain ⟨Z, hZ⟩ : ∃ Z, Z = flat bs := ⟨_, rfl⟩
  obtain ⟨Y, hY⟩ : ∃ Y, Y = flat bs ++ fr b := ⟨_, rfl⟩
  have hYl : Y.length = Z.length + (4 + b.length) := by rw [hY, hZ, List.length_append, fr_length]
  have hpre : Z <+: Y := by rw [hY, hZ]; exact List.prefix_append _ _
  rw [ef, ← hY]
  rw [← hZ] at hd
  rw [← hY] at hm
  have hl := hd.len
  have hsum : Z.length / 62 + (nsec Y.length - Z.length / 62) = nsec Y.length := by unfold nsec; omega
  obtain ⟨r1, s1, s2, s3, s4, s5⟩ := h.sputs hs Y (n := nsec Y.length - Z.length / 62) (f := Z.length / 62) (by unfold nsec at hl; omega) (by unfold nsec; omega) (by omega)
  rw [hsum] at s3 s4 s5
  refine ⟨_, r1, ?_, s2, hd_of (by omega) (fun i hi => ?_)⟩
  · unfold Dsk.sapp
    rw [← hY, ← hZ, if_neg (by simp), if_neg (by omega), if_neg (by omega), if_neg (by unfold Dsk.sput; rw [s1]; simp)]
    rfl
  · by_cases c1 : i < Z.length / 62
    · have hg := s4 i (.inl c1)
      have hi2 : i < rs.length := by unfold nsec at hl; omega
      rw [List.getElem?_eq_getElem hi, List.getElem?_eq_getElem hi2] at hg
      rw [Option.some.inj hg, ← dat_full hpre (by omega)]
      exact hd.self hi2
    · by_cases c2 : i < nsec Y.length
      · have hg := s5 i (by omega) c2
        rw [List.getElem?_eq_getElem hi] at hg
        rw [Option.some.inj hg]
        exact hol_sec Y i
      · have hi2 : i < rs.length := by omega
        have hg := s4 i (.inr (by omega))
        rw [List.getElem?_eq_getElem hi, List.getElem?_eq_getElem hi2] at hg
        rw [Option.some.inj hg, dat_beyond (Z := Y) (by omega)]
        have := hd.self hi2
        rwa [dat_beyond (Z := Z) (by have := nsec_mono (a := Z.length) (b := Y.length) (by omega); omega)] at this
end

end Go.Proofs.YtgbboaedhpaocaaGreat

/-
  Disks with small numbers, armed or not: every call, whatever it is handed.
-/
import Derived.Test.YtikhgjnjlkaobaaPk415491ff
import Derived.Test.YtikhgjnjlkaobaaPk23124aaa
namespace Go.Proofs.Ytikhgjnjlkaobaa
open Go.RowKit
set_option maxRecDepth 100000
set_option maxRecDepth 100000
set_option linter.unusedVariables false

structure Bz (d : Dsk) (K : Nat) : Prop where
  std : Sm d.std K
  dur : Sm d.dur K
  last : 0 ≤ d.last ∧ d.last ≤ (K : Int)
  made : 0 ≤ d.made ∧ d.made ≤ (K : Int)
  file : ∀ p ∈ d.std.nm, 1 ≤ p.2 ∧ p.2 ≤ d.made
  filed : ∀ p ∈ d.dur.nm, 1 ≤ p.2 ∧ p.2 ≤ d.made
  ok : ∀ t ∈ d.l, t.Ok ∧ t.file ≤ d.made
  len : (d.l.length : Int) ≤ d.last
  nam : ∀ p ∈ d.std.nm, p.1.length ≤ 64
  namd : ∀ p ∈ d.dur.nm, p.1.length ≤ 64

theorem nle_does {s : Shp} {t : Stp} (h : ∀ p ∈ s.nm, p.1.length ≤ 64) (ht : t.Ok) : ∀ p ∈ (s.does t).nm, p.1.length ≤ 64 := by
  have h1 : t.name.data.toList.length ≤ 64 := ht.name
  have h2 : t.to.data.toList.length ≤ 64 := ht.to
  intro p hp
  unfold Shp.does at hp
  split at hp
  · rcases mem_st hp with h3 | rfl
    · exact h p (mem_dl h3)
    · exact h1
  · split at hp
    · unfold Shp.put at hp
      split at hp
      · exact h p hp
      · exact h p hp
    · split at hp
      · unfold Shp.cut at hp
        split at hp
        · exact h p hp
        · split at hp
          · exact h p hp
          · exact h p hp
      · split at hp
        · split at hp
          · rcases mem_st hp with h3 | rfl
            · exact h p (mem_dl (mem_dl h3))
            · exact h2
          · exact h p hp
        · split at hp
          · exact h p (mem_dl hp)
          · exact h p hp

theorem nam_fold : ∀ (ts : List Stp), (∀ t ∈ ts, t.Ok) → ∀ s : Shp, (∀ p ∈ s.nm, p.1.length ≤ 64) → ∀ p ∈ (ts.foldl Shp.does s).nm, p.1.length ≤ 64 := by
  intro ts
  induction ts with
  | nil => exact fun _ _ h => h
  | cons t ts ih => exact fun ht s hs => ih (fun x hx => ht x (by simp [hx])) _ (nle_does hs (ht t (by simp)))

section
variable {d : Dsk} {K : Nat}

theorem bz_new : Bz newDsk 10 := ⟨Sm.empty, Sm.empty, by decide, by decide, by simp [newDsk], by simp [newDsk], by simp [newDsk], by decide, by simp [newDsk], by simp [newDsk]⟩

theorem Bz.few (h : Bz d K) (hK : K < 900000) : Few d K :=
  ⟨h.std, h.dur, by omega, by have := h.last; omega, by have := h.made; omega, fun p hp => by have := (h.file p hp).1; omega⟩

theorem Bz.wide {K' : Nat} (h : Bz d K) (hk : K ≤ K') : Bz d K' :=
  ⟨h.std.wide hk, h.dur.wide hk, by have := h.last; omega, by have := h.made; omega, h.file, h.filed, h.ok, h.len, h.nam, h.namd⟩

theorem Bz.same (h : Bz d K) {d' : Dsk} (h1 : d'.dur = d.dur) (h2 : d'.std = d.std) (h3 : d'.l = d.l) (h4 : d'.last = d.last) (h5 : d'.made = d.made) : Bz d' K :=
  ⟨by rw [h2]; exact h.std, by rw [h1]; exact h.dur, by rw [h4]; exact h.last, by rw [h5]; exact h.made, by rw [h2, h5]; exact h.file, by rw [h1, h5]; exact h.filed, by rw [h3, h5]; exact h.ok, by rw [h3, h4]; exact h.len, by rw [h2]; exact h.nam, by rw [h1]; exact h.namd⟩

theorem Bz.begin (h : Bz d K) : Bz d.begin.2 K := by
  obtain ⟨p1, p2, p3, p4, p5⟩ := begin_parts d
  exact h.same p1 p2 p3 p4 p5

theorem Bz.do (h : Bz d K) (hK : K < 900000) {u : Stp} (hu : u.Ok) (hf : u.file ≤ d.made) : Bz (d.do u) (K + 1) := by
  have hl := h.last
  refine ⟨h.std.does hu, h.dur.wide (by omega), by simp only [Dsk.do]; omega, by have := h.made; simp only [Dsk.do]; omega, file_does h.file hu hf, h.filed, fun x hx => ?_, by have := h.len; simp only [Dsk.do, List.length_append, List.length_singleton]; omega, nle_does h.nam hu, h.namd⟩
  rcases List.mem_append.1 hx with hx | hx
  · exact h.ok x hx
  · simp only [List.mem_singleton] at hx
    subst hx
    exact ⟨hu.num (by omega), hf⟩

theorem Bz.find (h : Bz d K) (s : ByteArray) : 0 ≤ d.find s ∧ d.find s ≤ d.made ∧ (d.find s ≠ 0 → s.size ≤ 64) := by
  have hm := h.made
  unfold Dsk.find
  cases hl : lk d.std.nm s.data.toList with
  | none => simp; omega
  | some f =>
    have h1 := h.file _ (lk_mem hl)
    have h2 := h.nam _ (lk_mem hl)
    simp only at h1 h2
    simp only [Option.getD_some]
    exact ⟨by omega, by omega, fun _ => h2⟩

theorem Bz.put (h : Bz d K) (hK : K < 800000) {s : ByteArray} {at' : Int} {n : Nat} {data : List Int} (hd : data.length = n) (hb : ∀ z ∈ data, 0 ≤ z ∧ z ≤ 255) : Bz (d.put s at' n data).2 (K + 3) := by
  have hm := h.made
  have hf := h.find s
  have hbg := h.begin
  obtain ⟨p1, p2, p3, p4, p5⟩ := begin_parts d
  have hrl : ((lk d.std.rw (d.find s)).getD []).length ≤ 4096 := by
    cases hl : lk d.std.rw (d.find s) with
    | none => simp
    | some r => exact (h.std.row _ (lk_mem hl)).1
  unfold Dsk.put
  split
  · exact h.wide (by omega)
  · rename_i h1
    split
    · exact h.wide (by omega)
    · rename_i h2
      split
      · exact hbg.wide (by omega)
      · have hs : 1 ≤ s.size ∧ s.size ≤ 64 := by
          have : ¬ ¬ (1 ≤ s.size ∧ s.size ≤ 64) := fun e => h1 (.inl e)
          exact Decidable.not_not.1 this
        have hn : n = 64 := Decidable.not_not.1 (fun e => h1 (.inr (.inl e)))
        have ha0 : 0 ≤ at' := by
          have : ¬ at' < 0 := fun e => h1 (.inr (.inr (.inl e)))
          omega
        have ha1 : at' ≤ 4095 := by
          have e1 : ¬ ((lk d.std.rw (d.find s)).getD []).length < at' := fun e => h1 (.inr (.inr (.inr e)))
          have e2 : ¬ at' = 4096 := fun e => h2 (.inl e)
          omega
        split
        · have h3 : Bz ({ d.begin.2 with made := d.begin.2.made + 1 } : Dsk) (K + 1) := ⟨hbg.std.wide (by omega), hbg.dur.wide (by omega), by have := hbg.last; simp only; omega, by have := hbg.made; simp only; omega, fun p hp => by have := hbg.file p hp; simp only; omega, fun p hp => by have := hbg.filed p hp; simp only; omega, fun t ht => ⟨(hbg.ok t ht).1, by have := (hbg.ok t ht).2; simp only; omega⟩, hbg.len, hbg.nam, hbg.namd⟩
          have hbm := hbg.made
          have h4 := h3.do (by omega) (madeStp_ok (f := d.begin.2.made + 1) (s := s) ⟨by omega, by omega⟩ hs.2) (by simp [madeStp])
          exact h4.do (by omega) (putStp_ok (f := d.begin.2.made + 1) (at' := at') (d := data) ⟨by omega, by omega⟩ ⟨ha0, ha1⟩ (by omega) hb) (by simp [putStp, Dsk.do])
        · rename_i hne
          exact (hbg.do (by omega) (putStp_ok (f := d.find s) ⟨by omega, by omega⟩ ⟨ha0, ha1⟩ (by omega) hb) (by simp only [putStp]; rw [p5]; omega)).wide (by omega)

theorem Bz.cut (h : Bz d K) (hK : K < 900000) (s : ByteArray) (n : Int) : Bz (d.cut s n).2 (K + 3) := by
  have hm := h.made
  have hf := h.find s
  have hbg := h.begin
  obtain ⟨p1, p2, p3, p4, p5⟩ := begin_parts d
  have hrl : ((lk d.std.rw (d.find s)).getD []).length ≤ 4096 := by
    cases hl : lk d.std.rw (d.find s) with
    | none => simp
    | some r => exact (h.std.row _ (lk_mem hl)).1
  unfold Dsk.cut
  split
  · exact h.wide (by omega)
  · split
    · exact h.wide (by omega)
    · split
      · exact hbg.wide (by omega)
      · exact (hbg.do hK (cutStp_ok (f := d.find s) ⟨by omega, by omega⟩ ⟨by omega, by omega⟩) (by simp only [cutStp]; rw [p5]; omega)).wide (by omega)

theorem Bz.remove (h : Bz d K) (hK : K < 900000) (s : ByteArray) : Bz (d.remove s).2 (K + 3) := by
  have hm := h.made
  have hf := h.find s
  have hbg := h.begin
  obtain ⟨p1, p2, p3, p4, p5⟩ := begin_parts d
  unfold Dsk.remove
  split
  · exact h.wide (by omega)
  · rename_i h0
    split
    · exact hbg.wide (by omega)
    · exact (hbg.do hK (remStp_ok (f := d.find s) (s := s) ⟨by omega, by omega⟩ (hf.2.2 h0)) (by simp only [remStp]; rw [p5]; omega)).wide (by omega)

theorem Bz.rename (h : Bz d K) (hK : K < 900000) (s t : ByteArray) : Bz (d.rename s t).2 (K + 3) := by
  have hm := h.made
  have hf := h.find s
  have hbg := h.begin
  obtain ⟨p1, p2, p3, p4, p5⟩ := begin_parts d
  unfold Dsk.rename
  split
  · exact h.wide (by omega)
  · rename_i h1
    have ht : 1 ≤ t.size ∧ t.size ≤ 64 := Decidable.not_not.1 h1
    split
    · exact h.wide (by omega)
    · rename_i h0
      split
      · exact hbg.wide (by omega)
      · split
        · exact hbg.wide (by omega)
        · exact (hbg.do hK (renStp_ok (f := d.find s) (s := s) (t := t) ⟨by omega, by omega⟩ (hf.2.2 h0) ht.2) (by simp only [renStp]; rw [p5]; omega)).wide (by omega)

theorem Bz.settled (h : Bz d K) (f : Int) : Bz (d.settled f) (K + K + K) := by
  have hl := h.last
  have hle := h.len
  have hsub : (nms d.l).length ≤ d.l.length := List.length_filter_le _ _
  have hof := offN_sub (toMake f (nms d.l)) d.l
  have hof2 := hof.length_le
  have hok1 : ∀ t ∈ (nms d.l).take (toMake f (nms d.l)), t.Ok ∧ t.file ≤ d.made := fun t ht => h.ok t (List.mem_filter.1 (List.mem_of_mem_take ht)).1
  have hok2 : ∀ t ∈ scs (offN (toMake f (nms d.l)) d.l) f, t.Ok ∧ t.file ≤ d.made := fun t ht => h.ok t (hof.subset (List.mem_filter.1 ht).1)
  have hs1 : ((nms d.l).take (toMake f (nms d.l))).length ≤ (nms d.l).length := by rw [List.length_take]; omega
  have hs2 : (scs (offN (toMake f (nms d.l)) d.l) f).length ≤ (offN (toMake f (nms d.l)) d.l).length := List.length_filter_le _ _
  have hs3 : (offS (offN (toMake f (nms d.l)) d.l) f).length ≤ (offN (toMake f (nms d.l)) d.l).length := List.length_filter_le _ _
  refine ⟨h.std.wide (by omega), ?_, by simp only [Dsk.settled]; omega, by have := h.made; simp only [Dsk.settled]; omega, h.file, ?_, fun t ht => h.ok t (hof.subset (List.mem_filter.1 ht).1), by simp only [Dsk.settled]; omega, h.nam, ?_⟩
  · exact (fold_sm (fold_sm h.dur _ (fun t ht => (hok1 t ht).1)) _ (fun t ht => (hok2 t ht).1)).wide (by omega)
  · exact filed_fold _ hok2 _ (filed_fold _ hok1 _ h.filed)
  · exact nam_fold _ (fun t ht => (hok2 t ht).1) _ (nam_fold _ (fun t ht => (hok1 t ht).1) _ h.namd)

theorem Bz.sync (h : Bz d K) (s : ByteArray) : Bz (d.sync s).2 (K + K + K) := by
  unfold Dsk.sync
  split
  · exact h.wide (by omega)
  · split
    · exact h.begin.wide (by omega)
    · exact h.begin.settled _

theorem Bz.syncNames (h : Bz d K) : Bz d.syncNames.2 (K + K) := by
  have hbg := h.begin
  unfold Dsk.syncNames
  split
  · exact hbg.wide (by omega)
  · generalize d.begin.2 = d at hbg
    have hl := hbg.last
    have hle := hbg.len
    have hsub : (nms d.l).length ≤ d.l.length := List.length_filter_le _ _
    have hof := offN_sub (nms d.l).length d.l
    have hof2 := hof.length_le
    have hok : ∀ t ∈ nms d.l, t.Ok ∧ t.file ≤ d.made := fun t ht => hbg.ok t (List.mem_filter.1 ht).1
    exact ⟨hbg.std.wide (by omega), (fold_sm hbg.dur _ (fun t ht => (hok t ht).1)).wide (by omega), by simp only [Dsk.named]; omega, by have := hbg.made; simp only [Dsk.named]; omega, hbg.file, filed_fold _ hok _ hbg.filed, fun t ht => hbg.ok t (hof.subset ht), by simp only [Dsk.named]; omega, hbg.nam, nam_fold _ (fun t ht => (hok t ht).1) _ hbg.namd⟩

theorem Bz.crash (h : Bz d K) (ks : List Bool) : Bz (d.crash ks) (K + K) := by
  have hl := h.last
  have hle := h.len
  have hm := h.made
  have hk := (kep_sub d.l ks).length_le
  have hok : ∀ t ∈ kep d.l ks, t.Ok ∧ t.file ≤ d.made := fun t ht => h.ok t ((kep_sub d.l ks).subset ht)
  have hs := (fold_sm h.dur _ (fun t ht => (hok t ht).1)).wide (K' := K + K) (by omega)
  have hf := filed_fold _ hok _ h.filed
  have hn := nam_fold _ (fun t ht => (hok t ht).1) _ h.namd
  exact ⟨hs, hs, by simp only [Dsk.crash]; omega, by simp only [Dsk.crash]; omega, hf, hf, by simp [Dsk.crash], by simp [Dsk.crash], hn, hn⟩

theorem Bz.arm (h : Bz d K) (n : Int) : Bz (d.arm n).2 K := by
  unfold Dsk.arm
  split
  · exact h
  · exact h.same rfl rfl rfl rfl rfl
theorem Bz.fail (h : Bz d K) (n e : Int) : Bz (d.fail n e).2 K := by
  unfold Dsk.fail
  split
  · exact h
  · exact h.same rfl rfl rfl rfl rfl
end

/-- What a read tells. -/
def Dsk.read (d : Dsk) (s : ByteArray) : Int := if d.find s = 0 then 70 else if d.down then 6 else 0

section
variable {w W V : World} {R : Nat} {d : Dsk} {vs : List Value} {K : Nat} {s t : ByteArray}

theorem Kr.refl : Kr vs W W := fun v hv base size n e xs ho => ho

theorem az_put {v : Value} {at' : Int} {n : Nat} {data : List Int} (h : Ax w vs R d W) (hb : Tb (fun _ => False) W V) (hv : V.ownsRow W.heap.size 5 1 v n (U data)) (hby : ∀ z ∈ data, 0 ≤ z ∧ z ≤ 255) (hz : Bz d K) (hK : K < 800000) (hs : s.size ≤ 9223372036854775807) :
    Calls Try.prog 9 #[.pointer (some ⟨R, 0, none⟩), .string s, .int .i64 at', v] V fun e w' => e = .returned (.int .i64 (d.put s at' n data).1) ∧ Ax w vs R (d.put s at' n data).2 w' ∧ Kr vs V w' := by
  have hf := hz.few (by omega)
  obtain ⟨a, cap, rfl⟩ := row_val hv
  by_cases h1 : ¬ (1 ≤ s.size ∧ s.size ≤ 64) ∨ n ≠ 64 ∨ at' < 0 ∨ ((lk d.std.rw (d.find s)).getD []).length < at'
  · have hk := h.kept hb
    obtain ⟨L, ⟨o, a1, a2⟩, a3, a6, a5⟩ := hk
    have hc := row_cap hv
    refine (put_arg (a := a) (cap := cap) a1 hf.std hs (by omega) h1).mono ?_
    rintro e w' ⟨rfl, rfl⟩
    have e2 : d.put s at' n data = (2, d) := by unfold Dsk.put; rw [if_pos h1]
    rw [e2]
    exact ⟨rfl, h.kept hb, Kr.refl⟩
  · have hn : n = 64 := Decidable.not_not.1 (fun e => h1 (.inr (.inl e)))
    have hs' : 1 ≤ s.size ∧ s.size ≤ 64 := Decidable.not_not.1 (fun e => h1 (.inl e))
    have h01 : 0 ≤ at' := by
      have : ¬ at' < 0 := fun e => h1 (.inr (.inr (.inl e)))
      omega
    have h02 : at' ≤ ((lk d.std.rw (d.find s)).getD []).length := by
      have : ¬ ((lk d.std.rw (d.find s)).getD []).length < at' := fun e => h1 (.inr (.inr (.inr e)))
      omega
    subst hn
    by_cases h2 : at' = 4096 ∨ (d.find s = 0 ∧ 256 ≤ d.std.nm.length)
    · have hk := h.kept hb
      obtain ⟨L, ⟨o, a1, a2⟩, a3, a6, a5⟩ := hk
      refine (put_full (a := a) (cap := cap) a1 hf.std hs' h01 h02 h2).mono ?_
      rintro e w' ⟨rfl, rfl⟩
      have e2 : d.put s at' 64 data = (5, d) := by unfold Dsk.put; rw [if_neg h1, if_pos h2]
      rw [e2]
      exact ⟨rfl, h.kept hb, Kr.refl⟩
    · exact ax_put h hb hv hby hf hs' h01 h02 h2

theorem az_cut {n : Int} (h : Ax w vs R d W) (hz : Bz d K) (hK : K < 800000) (hs : s.size ≤ 9223372036854775807) (hn : n ≤ 9223372036854775807) :
    Calls Try.prog 18 #[.pointer (some ⟨R, 0, none⟩), .string s, .int .i64 n] W fun e w' => e = .returned (.int .i64 (d.cut s n).1) ∧ Ax w vs R (d.cut s n).2 w' ∧ Kr vs W w' := by
  have hax := h
  obtain ⟨L, ⟨o, a1, a2⟩, a3, a6, a5⟩ := h
  have hf := hz.few (by omega)
  have hk := hf.k
  by_cases h0 : d.find s = 0
  · refine (cut_no a1 hs h0).mono ?_
    rintro e w' ⟨rfl, rfl⟩
    have e2 : d.cut s n = (70, d) := by unfold Dsk.cut; rw [if_pos h0]
    rw [e2]
    exact ⟨rfl, hax, Kr.refl⟩
  · by_cases h1 : n < 0 ∨ ((lk d.std.rw (d.find s)).getD []).length < n
    · refine (cut_arg a1 hf.std hs h0 h1).mono ?_
      rintro e w' ⟨rfl, rfl⟩
      have e2 : d.cut s n = (2, d) := by unfold Dsk.cut; rw [if_neg h0, if_pos h1]
      rw [e2]
      exact ⟨rfl, hax, Kr.refl⟩
    · have hfd := hz.find s
      refine (cut_go a1 a2 hf.std (by omega) hf.last (hfd.2.2 h0) (by omega) (by omega) (by omega)).mono ?_
      rintro e w' ⟨rfl, L', b1, b2, b3⟩
      exact ⟨rfl, Ax.step a3 a6 a5 b1 b2 b3⟩

theorem az_remove (h : Ax w vs R d W) (hz : Bz d K) (hK : K < 800000) (hs : s.size ≤ 9223372036854775807) :
    Calls Try.prog 19 #[.pointer (some ⟨R, 0, none⟩), .string s] W fun e w' => e = .returned (.int .i64 (d.remove s).1) ∧ Ax w vs R (d.remove s).2 w' ∧ Kr vs W w' := by
  have hax := h
  obtain ⟨L, ⟨o, a1, a2⟩, a3, a6, a5⟩ := h
  have hf := hz.few (by omega)
  have hk := hf.k
  by_cases h0 : d.find s = 0
  · refine (remove_no a1 hs h0).mono ?_
    rintro e w' ⟨rfl, rfl⟩
    have e2 : d.remove s = (70, d) := by unfold Dsk.remove; rw [if_pos h0]
    rw [e2]
    exact ⟨rfl, hax, Kr.refl⟩
  · have hfd := hz.find s
    refine (remove_go a1 a2 hf.std (by omega) hf.last (hfd.2.2 h0) (by omega)).mono ?_
    rintro e w' ⟨rfl, L', b1, b2, b3⟩
    exact ⟨rfl, Ax.step a3 a6 a5 b1 b2 b3⟩

theorem az_rename (h : Ax w vs R d W) (hz : Bz d K) (hK : K < 800000) (hs : s.size ≤ 9223372036854775807) (ht : t.size ≤ 9223372036854775807) :
    Calls Try.prog 16 #[.pointer (some ⟨R, 0, none⟩), .string s, .string t] W fun e w' => e = .returned (.int .i64 (d.rename s t).1) ∧ Ax w vs R (d.rename s t).2 w' ∧ Kr vs W w' := by
  have hax := h
  obtain ⟨L, ⟨o, a1, a2⟩, a3, a6, a5⟩ := h
  have hf := hz.few (by omega)
  have hk := hf.k
  by_cases h1 : ¬ (1 ≤ t.size ∧ t.size ≤ 64)
  · refine (rename_arg a1.oj ht h1).mono ?_
    rintro e w' ⟨rfl, rfl⟩
    have e2 : d.rename s t = (2, d) := by unfold Dsk.rename; rw [if_pos h1]
    rw [e2]
    exact ⟨rfl, hax, Kr.refl⟩
  · have ht' : 1 ≤ t.size ∧ t.size ≤ 64 := Decidable.not_not.1 h1
    by_cases h0 : d.find s = 0
    · refine (rename_no a1 hs ht' h0).mono ?_
      rintro e w' ⟨rfl, rfl⟩
      have e2 : d.rename s t = (70, d) := by unfold Dsk.rename; rw [if_neg h1, if_pos h0]
      rw [e2]
      exact ⟨rfl, hax, Kr.refl⟩
    · have hfd := hz.find s
      refine (rename_go a1 a2 hf.std (by omega) hf.last (hfd.2.2 h0) ht' (by omega)).mono ?_
      rintro e w' ⟨rfl, L', b1, b2, b3⟩
      exact ⟨rfl, Ax.step a3 a6 a5 b1 b2 b3⟩

theorem az_sync (h : Ax w vs R d W) (hz : Bz d K) (hK : K < 800000) (hs : s.size ≤ 9223372036854775807) :
    Calls Try.prog 15 #[.pointer (some ⟨R, 0, none⟩), .string s] W fun e w' => e = .returned (.int .i64 (d.sync s).1) ∧ Ax w vs R (d.sync s).2 w' ∧ Kr vs W w' := by
  by_cases h0 : d.find s = 0
  · refine (ax_sync_no h hs h0).mono ?_
    rintro e w' ⟨rfl, rfl⟩
    have e2 : d.sync s = (70, d) := by unfold Dsk.sync; rw [if_pos h0]
    rw [e2]
    exact ⟨rfl, h, Kr.refl⟩
  · exact ax_sync h (hz.few (by omega)) hs h0

theorem az_arm {n : Int} (h : Ax w vs R d W) (hn : n ≤ 9223372036854775807) :
    Calls Try.prog 20 #[.pointer (some ⟨R, 0, none⟩), .int .i64 n] W fun e w' => e = .returned (.int .i64 (d.arm n).1) ∧ Ax w vs R (d.arm n).2 w' ∧ Kr vs W w' := by
  obtain ⟨L, ⟨o, a1, a2⟩, a3, a6, a5⟩ := h
  refine (arm_any a1 a2 hn).mono ?_
  rintro e w' ⟨rfl, b2, b3⟩
  exact ⟨rfl, Ax.step a3 a6 a5 (Lx.refl _ _) b2 b3⟩

theorem az_fail {n e : Int} (h : Ax w vs R d W) (hn : n ≤ 9223372036854775807) :
    Calls Try.prog 22 #[.pointer (some ⟨R, 0, none⟩), .int .i64 n, .int .i64 e] W fun x w' => x = .returned (.int .i64 (d.fail n e).1) ∧ Ax w vs R (d.fail n e).2 w' ∧ Kr vs W w' := by
  have hax := h
  obtain ⟨L, ⟨o, a1, a2⟩, a3, a6, a5⟩ := h
  by_cases h0 : n < 0 ∨ (e ≠ 4 ∧ e ≠ 5)
  · refine (fail_no a1.oj h0).mono ?_
    rintro x w' ⟨rfl, rfl⟩
    have e2 : d.fail n e = (2, d) := by unfold Dsk.fail; rw [if_pos h0]
    rw [e2]
    exact ⟨rfl, hax, Kr.refl⟩
  · refine (fail_go (n := n) (e := e) a1 a2 (by omega) (by omega)).mono ?_
    rintro x w' ⟨rfl, b2, b3⟩
    have e2 : d.fail n e = (0, { d with failing := n, failure := e }) := by unfold Dsk.fail; rw [if_neg h0]
    rw [e2]
    exact ⟨rfl, Ax.step a3 a6 a5 (Lx.refl _ _) b2 b3⟩
end

set_option maxHeartbeats 1000000 in
theorem read_down {w : World} {L : Lb} {R : Nat} {o : Ob} {d : Dsk} {s : ByteArray} (h : Di w L R o d.dur d.std d.l) (hsy : Says o d) (hs : s.size ≤ 9223372036854775807) (h0 : d.find s ≠ 0) (hdn : d.down = true) :
    Calls Try.prog 13 #[.pointer (some ⟨R, 0, none⟩), .string s] w fun e w' => e = .returned (.tuple #[.slice none 0 0, .int .i64 6]) ∧ w' = w := by
  have hf := find_any h hs
  obtain ⟨F, hF⟩ : ∃ F, F = d.find s := ⟨_, rfl⟩
  rw [show (lk d.std.nm s.data.toList).getD 0 = F from hF.symm] at hf
  rw [← hF] at h0
  rw [if_neg h0] at hf
  have c9 : w.cell? ⟨R, 9, none⟩ = some (.bool true) := by rw [h.oj.c 9, ← hdn, ← hsy.down]; rfl
  clear h hF hsy
  go_enter Try.func13, Try.ntmps13
  go_wp2_with (go_at_call 45; refine hf.mono ?_; rintro e w1 ⟨rfl, hw1⟩; subst w1)
  go_ret2
  exact ⟨rfl, rfl⟩

theorem az_read {w W : World} {R : Nat} {d : Dsk} {vs : List Value} {K : Nat} {s : ByteArray} (h : Ax w vs R d W) (hz : Bz d K) (hK : K < 800000) (hs : s.size ≤ 9223372036854775807) :
    Calls Try.prog 13 #[.pointer (some ⟨R, 0, none⟩), .string s] W fun e w' => ∃ a n cap, e = .returned (.tuple #[.slice a n cap, .int .i64 (d.read s)]) ∧ (if d.read s = 0 then d.bytes s else []).length = n ∧ w'.ownsRow W.heap.size 5 1 (.slice a n cap) n (U (if d.read s = 0 then d.bytes s else [])) ∧ Tb (fun _ => False) W w' := by
  obtain ⟨L, ⟨o, a1, a2⟩, a3, a6, a5⟩ := h
  have hf := hz.few (by omega)
  by_cases h0 : d.find s = 0
  · refine (read_no a1 hs h0).mono ?_
    rintro e w' ⟨rfl, rfl⟩
    have e2 : d.read s = 70 := by unfold Dsk.read; rw [if_pos h0]
    rw [e2]
    exact ⟨none, 0, 0, rfl, rfl, World.ownsRow_nil _ _ _ _, Tb.refl _ _⟩
  · cases hdn : d.down with
    | true =>
      refine (read_down a1 a2 hs h0 hdn).mono ?_
      rintro e w' ⟨rfl, rfl⟩
      have e2 : d.read s = 6 := by unfold Dsk.read; rw [if_neg h0, hdn]; rfl
      rw [e2]
      exact ⟨none, 0, 0, rfl, rfl, World.ownsRow_nil _ _ _ _, Tb.refl _ _⟩
    | false =>
      refine (read_yes a1 a2 hf.std hs h0 hdn).mono ?_
      rintro e w' ⟨v, rfl, r, b⟩
      have e2 : d.read s = 0 := by unfold Dsk.read; rw [if_neg h0, hdn]; rfl
      rw [e2]
      obtain ⟨a, c, rfl⟩ := row_val r
      exact ⟨a, _, c, rfl, by simp, by simpa using r, Tb.of_fresh b⟩

end Go.Proofs.Ytikhgjnjlkaobaa

/-
  Texts put into one.
-/
import Derived.Test.YtkdolabhcbjipaaGreatMx4e101307
import Derived.Test.YtkdolabhcbjipaaGreatMx298a5823
import Derived.Deep.RegionHeld3

/-
  A disk with one file and nothing armed: what Open, Append and Sync leave of the file.
-/
namespace Go.Proofs.YtkdolabhcbjipaaGreat
open Go.RowKit
set_option maxRecDepth 100000
set_option linter.unusedVariables false

/-- Nothing is armed. -/
structure Qt (d : Dsk) : Prop where
  down : d.down = false
  armed : d.armed = -1
  failing : d.failing = -1

theorem Qt.begin {d : Dsk} (h : Qt d) : d.begin.1 = 0 ∧ Qt d.begin.2 := by
  have e : d.begin = (0, { d with armed := lessed d.armed, failing := lessed d.failing }) := by
    unfold Dsk.begin
    rw [if_neg (by rw [h.down]; simp), if_neg (by rw [h.armed]; decide), if_neg (by rw [h.failing]; decide)]
  rw [e]
  exact ⟨rfl, h.down, by simp only; rw [h.armed]; rfl, by simp only; rw [h.failing]; rfl⟩
theorem Qt.same {d d' : Dsk} (h : Qt d) (h1 : d'.down = d.down) (h2 : d'.armed = d.armed) (h3 : d'.failing = d.failing) : Qt d' := ⟨h1.trans h.down, h2.trans h.armed, h3.trans h.failing⟩
theorem Qt.do {d : Dsk} (h : Qt d) (t : Stp) : Qt (d.do t) := h.same rfl rfl rfl
theorem Qt.settled {d : Dsk} (h : Qt d) (f : Int) : Qt (d.settled f) := h.same rfl rfl rfl
theorem qt_crash (d : Dsk) (ks : List Bool) : Qt (d.crash ks) := ⟨rfl, rfl, rfl⟩

/-- There is the file. -/
def Fy (s : ByteArray) (d : Dsk) (rs : List (List Int)) : Prop := Qt d ∧ ∃ f rd, Fx s.data.toList f d rd rs
/-- The file, or none. -/
def Fq (s : ByteArray) (d : Dsk) (rs : List (List Int)) : Prop := Fy s d rs ∨ (Qt d ∧ Fn d ∧ rs = [])

theorem fq_new (s : ByteArray) : Fq s newDsk [] := .inr ⟨⟨rfl, rfl, rfl⟩, ⟨rfl, rfl, rfl, by decide⟩, rfl⟩

theorem putIn_get {r : List (List Int)} {k : Nat} {x : List Int} (hk : k ≤ r.length) (i : Nat) : (putIn r k x)[i]? = if i = k then some x else r[i]? := by
  have hl := putIn_len r k x
  by_cases e : i = k
  · rw [if_pos e, List.getElem?_eq_getElem (by omega), putIn_at, if_pos e]
  · rw [if_neg e]
    by_cases h2 : i < r.length
    · rw [List.getElem?_eq_getElem (by omega), putIn_at, if_neg e, dif_pos h2, List.getElem?_eq_getElem h2]
    · rw [List.getElem?_eq_none (by omega), List.getElem?_eq_none (by omega)]

section
variable {s : ByteArray} {d : Dsk} {rs : List (List Int)}

theorem Fn.find (h : Fn d) : d.find s = 0 := by unfold Dsk.find; rw [h.std]; rfl
theorem Fq.qt (h : Fq s d rs) : Qt d := h.elim (fun h => h.1) (fun h => h.1)
theorem Fq.held (h : Fq s d rs) : d.held s = rs ∧ ¬ (d.read s ≠ 0 ∧ d.read s ≠ 70) := by
  rcases h with ⟨hq, f, rd, h⟩ | ⟨hq, h, rfl⟩
  · have hp := h.pos
    have e : d.read s = 0 := by unfold Dsk.read; rw [h.find, if_neg (by omega), hq.down]; rfl
    exact ⟨by unfold Dsk.held; rw [if_pos e, h.rows], by rw [e]; simp⟩
  · have e : d.read s = 70 := by unfold Dsk.read; rw [h.find, if_pos rfl]
    exact ⟨by unfold Dsk.held; rw [e]; rfl, by rw [e]; simp⟩

theorem Fy.put (h : Fy s d rs) (hs : 1 ≤ s.size ∧ s.size ≤ 64) {i : Nat} (hi : i ≤ rs.length) (hi2 : i < 4096) (data : List Int) : (d.put s (i : Int) 64 data).1 = 0 ∧ Fy s (d.put s (i : Int) 64 data).2 (putIn rs i data) := by
  obtain ⟨hq, f, rd, h⟩ := h
  obtain ⟨b1, b2⟩ := hq.begin
  rcases h.put hs hi hi2 data with ⟨a, _⟩ | ⟨_, a, b, c⟩
  · exact absurd b1 a
  · exact ⟨a, by rw [b]; exact b2.do _, f, rd, c⟩

theorem Fn.put (hq : Qt d) (h : Fn d) (hs : 1 ≤ s.size ∧ s.size ≤ 64) (data : List Int) : (d.put s ((0 : Nat) : Int) 64 data).1 = 0 ∧ Fy s (d.put s ((0 : Nat) : Int) 64 data).2 (putIn [] 0 data) := by
  obtain ⟨b1, b2⟩ := hq.begin
  obtain ⟨p1, p2, p3, p4, p5⟩ := begin_parts d
  have hm := h.made
  have e : d.put s ((0 : Nat) : Int) 64 data = (0, (({ d.begin.2 with made := d.begin.2.made + 1 } : Dsk).do (madeStp (d.begin.2.made + 1) s)).do (putStp (d.begin.2.made + 1) ((0 : Nat) : Int) data)) := by
    unfold Dsk.put
    rw [h.find, h.std, if_neg (by
      rintro (x | x | x | x)
      · exact x hs
      · exact x rfl
      · omega
      · simp at x; omega), if_neg (by
      rintro (x | x)
      · omega
      · simp [nof] at x), if_neg (by rw [b1]; simp), if_pos rfl]
  rw [e]
  refine ⟨rfl, ⟨b2.down, b2.armed, b2.failing⟩, d.begin.2.made + 1, none, ?_, rfl, by rw [p5]; omega, .inr ⟨rfl, ?_, (madeStp (d.begin.2.made + 1) s).num (d.begin.2.last + 1), [(putStp (d.begin.2.made + 1) ((0 : Nat) : Int) data).num (d.begin.2.last + 1 + 1)], ?_, rfl, rfl, rfl, ?_, rfl⟩⟩
  · simp only [Dsk.do]
    rw [p2, h.std, nof_made (f := d.begin.2.made + 1) (κ := s.data.toList) rfl rfl rfl]
    exact shp_does (κ := s.data.toList) (f := d.begin.2.made + 1) (r := []) (t := putStp (d.begin.2.made + 1) ((0 : Nat) : Int) data) ⟨rfl, .inl rfl⟩
  · simp only [Dsk.do]
    rw [p1, h.dur]
  · simp only [Dsk.do]
    rw [p3, h.l]
    rfl
  · intro t ht
    rw [List.mem_singleton.1 ht]
    exact ⟨rfl, .inl rfl⟩

theorem Fq.put (h : Fq s d rs) (hs : 1 ≤ s.size ∧ s.size ≤ 64) {i : Nat} (hi : i ≤ rs.length) (hi2 : i < 4096) (data : List Int) : (d.put s (i : Int) 64 data).1 = 0 ∧ Fy s (d.put s (i : Int) 64 data).2 (putIn rs i data) := by
  rcases h with h | ⟨hq, h, rfl⟩
  · exact h.put hs hi hi2 data
  · obtain rfl : i = 0 := by simpa using hi
    exact h.put hq hs data

theorem Fy.sputs (hs : 1 ≤ s.size ∧ s.size ≤ 64) (zs : List Int) : ∀ (n f : Nat) (d : Dsk) (rs : List (List Int)), Fy s d rs → f ≤ rs.length → f + n ≤ 4096 → ∃ rs', (Dsk.sputs s zs (List.range' f n) d).1 = 0 ∧ Fy s (Dsk.sputs s zs (List.range' f n) d).2 rs' ∧ rs'.length = max rs.length (f + n) ∧
    (∀ i, (i < f ∨ f + n ≤ i) → rs'[i]? = rs[i]?) ∧ (∀ i, f ≤ i → i < f + n → rs'[i]? = some (sec zs i)) := by
  intro n
  induction n with
  | zero => intro f d rs h hf hn; exact ⟨rs, rfl, h, by omega, fun _ _ => rfl, fun i a b => by omega⟩
  | succ n ih =>
    intro f d rs h hf hn
    obtain ⟨a, b⟩ := h.put hs hf (by omega) (sec zs f)
    have e : Dsk.sputs s zs (List.range' f (n + 1)) d = Dsk.sputs s zs (List.range' (f + 1) n) (d.put s (f : Int) 64 (sec zs f)).2 := by
      rw [List.range'_succ]
      show (if (d.put s (f : Int) 64 (sec zs f)).1 = 0 then _ else _) = _
      rw [if_pos a]
    have hl := putIn_len rs f (sec zs f)
    obtain ⟨rs', i1, i2, i3, i4, i5⟩ := ih (f + 1) _ _ b (by omega) (by omega)
    rw [e]
    refine ⟨rs', i1, i2, by omega, fun i hi => ?_, fun i h1 h2 => ?_⟩
    · rw [i4 i (by omega), putIn_get hf, if_neg (by omega)]
    · by_cases c : i = f
      · rw [i4 i (by omega), putIn_get hf, if_pos c, c]
      · exact i5 i (by omega) (by omega)

theorem Fq.sputs (h : Fq s d rs) (hs : 1 ≤ s.size ∧ s.size ≤ 64) (zs : List Int) {n f : Nat} (hf : f ≤ rs.length) (hn0 : 0 < n) (hn : f + n ≤ 4096) : ∃ rs', (Dsk.sputs s zs (List.range' f n) d).1 = 0 ∧ Fy s (Dsk.sputs s zs (List.range' f n) d).2 rs' ∧ rs'.length = max rs.length (f + n) ∧
    (∀ i, (i < f ∨ f + n ≤ i) → rs'[i]? = rs[i]?) ∧ (∀ i, f ≤ i → i < f + n → rs'[i]? = some (sec zs i)) := by
  obtain ⟨n, rfl⟩ : ∃ m, n = m + 1 := ⟨n - 1, by omega⟩
  obtain ⟨a, b⟩ := h.put hs hf (by omega) (sec zs f)
  have e : Dsk.sputs s zs (List.range' f (n + 1)) d = Dsk.sputs s zs (List.range' (f + 1) n) (d.put s (f : Int) 64 (sec zs f)).2 := by
    rw [List.range'_succ]
    show (if (d.put s (f : Int) 64 (sec zs f)).1 = 0 then _ else _) = _
    rw [if_pos a]
  have hl := putIn_len rs f (sec zs f)
  obtain ⟨rs', i1, i2, i3, i4, i5⟩ := Fy.sputs hs zs n (f + 1) _ _ b (by omega) (by omega)
  rw [e]
  refine ⟨rs', i1, i2, by omega, fun i hi => ?_, fun i h1 h2 => ?_⟩
  · rw [i4 i (by omega), putIn_get hf, if_neg (by omega)]
  · by_cases c : i = f
    · rw [i4 i (by omega), putIn_get hf, if_pos c, c]
    · exact i5 i (by omega) (by omega)

theorem Fy.cut (h : Fy s d rs) {n : Nat} (hn : n ≤ rs.length) : (d.cut s (n : Int)).1 = 0 ∧ Fy s (d.cut s (n : Int)).2 (rs.take n) := by
  obtain ⟨hq, f, rd, h⟩ := h
  obtain ⟨b1, b2⟩ := hq.begin
  rcases h.cut hn with ⟨a, _⟩ | ⟨_, a, b, c⟩
  · exact absurd b1 a
  · exact ⟨a, by rw [b]; exact b2.do _, f, rd, c⟩

theorem Fy.sync (h : Fy s d rs) : (d.sync s).1 = 0 ∧ Fy s (d.sync s).2 rs ∧ Fy s ((d.sync s).2.crash []) rs := by
  obtain ⟨hq, f, rd, h⟩ := h
  obtain ⟨b1, b2⟩ := hq.begin
  have hp := h.pos
  rcases h.sync with ⟨a, _⟩ | ⟨_, a, b, c⟩
  · exact absurd b1 a
  · have e : (d.sync s).2 = d.begin.2.settled f := by
      unfold Dsk.sync
      rw [h.find, if_neg (by omega), if_neg (by rw [b1]; simp)]
    refine ⟨a, ⟨by rw [e]; exact b2.settled f, f, _, b⟩, qt_crash _ _, f, some rs, ?_⟩
    · rcases b.crash [] with ⟨r, ts, e1, _, e3, _, e5⟩ | ⟨e1, _⟩
      · rw [c] at e3
        have : ts = [] := List.sublist_nil.1 e3
        subst this
        cases e1
        exact e5
      · cases e1

/-- A sector that is full has its part of the stream. -/
theorem strm_hol : ∀ (rs : List (List Int)) (i : Nat), (∀ r ∈ rs, r.length = 64) → 62 * (i + 1) ≤ (strm rs).length → ∃ h : i < rs.length, Hol rs[i] (dat (strm rs) i)
  | [], i, _, hl => by simp [strm] at hl
  | x :: rs, i, h, hl => by
    have hx : x.length = 64 := h x (by simp)
    have h62 : fil x ≤ 62 := by unfold fil; split <;> omega
    have ht : ((x.drop 2).take (fil x)).length = fil x := by rw [List.length_take, List.length_drop]; omega
    have hf : fil x = 62 := by
      simp only [strm, List.length_append, ht] at hl
      by_cases c : fil x < 62
      · rw [if_pos c] at hl
        simp at hl
        omega
      · omega
    have e : strm (x :: rs) = (x.drop 2).take 62 ++ strm rs := by simp only [strm]; rw [hf, if_neg (by omega)]
    rw [hf] at ht
    rw [e] at hl ⊢
    rw [List.length_append, ht] at hl
    match i with
    | 0 =>
      refine ⟨by simp, ?_⟩
      have e2 : dat ((x.drop 2).take 62 ++ strm rs) 0 = (x.drop 2).take 62 := by unfold dat; rw [Nat.mul_zero, List.drop_zero, List.take_append_of_le_length (by omega), List.take_of_length_le (by omega)]
      rw [e2]
      exact ⟨by rw [ht]; exact hf, by simp only [List.getElem_cons_zero]; rw [hf]⟩
    | i + 1 =>
      obtain ⟨h1, h2⟩ := strm_hol rs i (fun r hr => h r (by simp [hr])) (by omega)
      refine ⟨by simp; omega, ?_⟩
      have e2 : dat ((x.drop 2).take 62 ++ strm rs) (i + 1) = dat (strm rs) i := by
        unfold dat
        rw [List.drop_append, List.drop_of_length_le (by omega), ht, show 62 * (i + 1) - 62 = 62 * i by omega, List.nil_append]
      rw [e2]
      simpa using h2

theorem dat_full {Z Y : List Int} (h : Z <+: Y) {i : Nat} (hi : 62 * (i + 1) ≤ Z.length) : dat Z i = dat Y i := by
  obtain ⟨t, rfl⟩ := h
  unfold dat
  rw [List.drop_append_of_le_length (by omega), List.take_append_of_le_length (by rw [List.length_drop]; omega)]

theorem Hd.self {Z : List Int} {r : List (List Int)} (h : Hd Z Z r) {i : Nat} (hi : i < r.length) : Hol r[i] (dat Z i) := by
  obtain ⟨Y, a, b, c⟩ := h.at' i hi
  obtain rfl : Y = Z := b.eq_of_length_le a.length_le
  exact c
theorem hd_of {Z : List Int} {r : List (List Int)} (hl : nsec Z.length ≤ r.length) (h : ∀ i (hi : i < r.length), Hol r[i] (dat Z i)) : Hd Z Z r := ⟨hl, fun i hi => ⟨Z, List.prefix_refl _, List.prefix_refl _, h i hi⟩⟩
theorem strm_hd {Z : List Int} {r : List (List Int)} (h : Hd Z Z r) : strm r = Z := by
  obtain ⟨a, b⟩ := h.strm
  exact a.eq_of_length_le b.length_le

theorem rows_eq {a b : List (List Int)} (ha : ∀ r ∈ a, r.length = 64) (hb : ∀ r ∈ b, r.length = 64) (h : a.flatten = b.flatten) : a = b := by
  have l1 := rows_len a ha
  have l2 := rows_len b hb
  rw [h] at l1
  refine List.ext_getElem (by omega) (fun i h1 h2 => ?_)
  rw [← rows_at a ha i h1, ← rows_at b hb i h2, h]

/-- Open of a file of whatever sectors: its frames, and sectors that are of these frames alone. -/
theorem Fq.opn {K : Nat} (h : Fq s d rs) (hs : 1 ≤ s.size ∧ s.size ≤ 64) (hb : Bw d K) : (d.opn s).1 = 0 ∧ d.frames s = frs (strm rs) ∧ ∃ rs', Fq s (d.opn s).2 rs' ∧ Hd (flat (d.frames s)) (flat (d.frames s)) rs' := by
  obtain ⟨e1, e2⟩ := h.held
  have hw := held_bw hb s
  rw [e1] at hw
  have h64 : ∀ r ∈ rs, r.length = 64 := fun r hr => (hw.2 r hr).1
  have hby := strm_byte (fun r hr => (hw.2 r hr).2)
  have hfr : d.frames s = frs (strm rs) := by unfold Dsk.frames; rw [e1]
  obtain ⟨Z, hZ⟩ : ∃ Z, Z = flat (d.frames s) := ⟨_, rfl⟩
  have hpre : Z <+: strm rs := by
    have := frs_take hby
    rw [← hfr, ← hZ] at this
    rw [← this]
    exact List.take_prefix _ _
  have hZl : Z.length ≤ 62 * rs.length := Nat.le_trans hpre.length_le (strm_le rs)
  unfold Dsk.opn
  rw [if_neg e2, ← hZ, e1]
  by_cases hc : rs.flatten = clean Z
  · rw [if_pos hc]
    have e : rs = secs Z := rows_eq h64 (secs_64 Z) hc
    refine ⟨rfl, hfr, rs, h, hd_of (by rw [e, secs_length]; exact Nat.le_refl _) (fun i hi => ?_)⟩
    have : rs[i] = sec Z i := by subst e; simp [secs]
    rw [this]
    exact hol_sec Z i
  · rw [if_neg hc]
    have hy : Fy s d rs := by
      rcases h with h | ⟨_, _, h0⟩
      · exact h
      · exfalso
        apply hc
        rw [hZ, hfr, h0]
        rfl
    have hn0 : nsec Z.length ≤ rs.length := by unfold nsec; omega
    obtain ⟨r1, s1, s2, s3, s4, s5⟩ := Fy.sputs hs Z (nsec Z.length - Z.length / 62) (Z.length / 62) d rs hy (by omega) (by have := hw.1; unfold nsec at hn0 ⊢; omega)
    have hsum : Z.length / 62 + (nsec Z.length - Z.length / 62) = nsec Z.length := by unfold nsec; omega
    rw [hsum] at s3 s4 s5
    obtain ⟨c1, c2⟩ := s2.cut (n := nsec Z.length) (by omega)
    obtain ⟨y1, y2, _⟩ := c2.sync
    have el : d.leave s Z = ((d.sput s Z (Z.length / 62)).2.cut s (nsec Z.length : Int)).2.sync s := by
      unfold Dsk.leave
      rw [if_neg (by unfold Dsk.sput; rw [s1]; simp), if_neg (by unfold Dsk.sput; rw [c1]; simp)]
    rw [el]
    refine ⟨y1, hfr, _, .inl y2, hd_of (by rw [List.length_take]; omega) (fun i hi => ?_)⟩
    rw [List.length_take] at hi
    rw [List.getElem_take]
    by_cases ci : i < Z.length / 62
    · have hg := s4 i (.inl ci)
      rw [List.getElem?_eq_getElem (by omega), List.getElem?_eq_getElem (by omega)] at hg
      obtain ⟨_, hh⟩ := strm_hol rs i h64 (by have := hpre.length_le; omega)
      rw [Option.some.inj hg, dat_full hpre (by omega)]
      exact hh
    · have hg := s5 i (by omega) (by omega)
      rw [List.getElem?_eq_getElem (by omega)] at hg
      rw [Option.some.inj hg]
      exact hol_sec Z i

theorem Fq.sapp {bs : List (List Int)} {b : List Int} (h : Fq s d rs) (hs : 1 ≤ s.size ∧ s.size ≤ 64) (hd : Hd (flat bs) (flat bs) rs) (hb : b.length ≤ 65536) (hm : nsec (flat bs ++ fr b).length ≤ 4096) :
    ∃ d' rs', d.sapp s bs false b = ⟨bs.length, 0, d', bs ++ [b], false⟩ ∧ Fy s d' rs' ∧ Hd (flat (bs ++ [b])) (flat (bs ++ [b])) rs' := by
  have ef : flat (bs ++ [b]) = flat bs ++ fr b := by rw [flat_app, flat_cons, flat_nil, List.append_nil]
  obtain ⟨Z, hZ⟩ : ∃ Z, Z = flat bs := ⟨_, rfl⟩
  obtain ⟨Y, hY⟩ : ∃ Y, Y = flat bs ++ fr b := ⟨_, rfl⟩
  have hYl : Y.length = Z.length + (4 + b.length) := by rw [hY, hZ, List.length_append, fr_length]
  have hpre : Z <+: Y := by rw [hY, hZ]; exact List.prefix_append _ _
  rw [ef, ← hY]
  rw [← hZ] at hd
  rw [← hY] at hm
  have hl := hd.len
  have hsum : Z.length / 62 + (nsec Y.length - Z.length / 62) = nsec Y.length := by unfold nsec; omega
  obtain ⟨r1, s1, s2, s3, s4, s5⟩ := h.sputs hs Y (n := nsec Y.length - Z.length / 62) (f := Z.length / 62) (by unfold nsec at hl; omega) (by unfold nsec; omega) (by omega)
  rw [hsum] at s3 s4 s5
  refine ⟨_, r1, ?_, s2, hd_of (by omega) (fun i hi => ?_)⟩
  · unfold Dsk.sapp
    rw [← hY, ← hZ, if_neg (by simp), if_neg (by omega), if_neg (by omega), if_neg (by unfold Dsk.sput; rw [s1]; simp)]
    rfl
  · by_cases c1 : i < Z.length / 62
    · have hg := s4 i (.inl c1)
      have hi2 : i < rs.length := by unfold nsec at hl; omega
      rw [List.getElem?_eq_getElem hi, List.getElem?_eq_getElem hi2] at hg
      rw [Option.some.inj hg, ← dat_full hpre (by omega)]
      exact hd.self hi2
    · by_cases c2 : i < nsec Y.length
      · have hg := s5 i (by omega) c2
        rw [List.getElem?_eq_getElem hi] at hg
        rw [Option.some.inj hg]
        exact hol_sec Y i
      · have hi2 : i < rs.length := by omega
        have hg := s4 i (.inr (by omega))
        rw [List.getElem?_eq_getElem hi, List.getElem?_eq_getElem hi2] at hg
        rw [Option.some.inj hg, dat_beyond (Z := Y) (by omega)]
        have := hd.self hi2
        rwa [dat_beyond (Z := Z) (by have := nsec_mono (a := Z.length) (b := Y.length) (by omega); omega)] at this
end

end Go.Proofs.YtkdolabhcbjipaaGreat

/-
  A disk that may refuse at any operation: what a crash may leave of the file lies between two streams.
-/
namespace Go.Proofs.YtkdolabhcbjipaaGreat
open Go.RowKit
set_option maxRecDepth 100000
set_option linter.unusedVariables false

/-- Whatever a crash keeps, each sector of the file is of a stream between the two. -/
def Kd (s : ByteArray) (d : Dsk) (Zl Zh : List Int) (rs : List (List Int)) : Prop :=
  Zl <+: Zh ∧ ((∃ f rd, Fx s.data.toList f d rd rs ∧ ((∃ r, rd = some r ∧ Hd Zl Zh r ∧ rsteps d.l r = rs ∧ ∀ t ∈ d.l, Btw Zl Zh t) ∨ (rd = none ∧ Zl = [] ∧ ∃ m ss, d.l = m :: ss ∧ rsteps ss [] = rs ∧ ∀ t ∈ ss, Btw Zl Zh t))) ∨ (Fn d ∧ rs = [] ∧ Zl = []))

section
variable {s : ByteArray} {d : Dsk} {Zl Zh : List Int} {rs : List (List Int)}

theorem hd_nil (Zh : List Int) : Hd [] Zh [] := ⟨by simp [nsec], fun i h => by simp at h⟩

theorem kd_new (s : ByteArray) (Zh : List Int) : Kd s newDsk [] Zh [] := ⟨List.nil_prefix, .inr ⟨⟨rfl, rfl, rfl, by decide⟩, rfl, rfl⟩⟩

/-- What stands is between the two as well. -/
theorem Kd.now (h : Kd s d Zl Zh rs) : Hd Zl Zh rs := by
  obtain ⟨h0, ⟨f, rd, h1, ⟨r, e, h2, h3, h4⟩ | ⟨e, rfl, m, ss, h2, h3, h4⟩⟩ | ⟨h1, rfl, rfl⟩⟩ := h
  · rw [← h3]
    exact Hd.steps h0 d.l r h2 h4
  · rw [← h3]
    exact Hd.steps h0 ss [] (hd_nil Zh) h4
  · exact hd_nil Zh

theorem Kd.frames {bs : List (List Int)} {n : Nat} (h : Kd s d (flat (bs.take n)) (flat bs) rs) (hb : ∀ b ∈ bs, b.length ≤ 65536) : ∃ k, min n bs.length ≤ k ∧ k ≤ bs.length ∧ frs (strm rs) = bs.take k :=
  frs_between hb h.now.strm.2 h.now.strm.1

theorem Kd.wide {Zl' Zh' : List Int} (h : Kd s d Zl Zh rs) (h1 : Zl' <+: Zl) (h2 : Zh <+: Zh') : Kd s d Zl' Zh' rs := by
  obtain ⟨h0, hh⟩ := h
  refine ⟨(h1.trans h0).trans h2, ?_⟩
  rcases hh with ⟨f, rd, k1, ⟨r, e, k2, k3, k4⟩ | ⟨e, rfl, m, ss, k2, k3, k4⟩⟩ | ⟨k1, k2, rfl⟩
  · exact .inl ⟨f, rd, k1, .inl ⟨r, e, k2.wide h1 h2, k3, fun t ht => (k4 t ht).wide h1 h2⟩⟩
  · exact .inl ⟨f, rd, k1, .inr ⟨e, List.prefix_nil.1 h1, m, ss, k2, k3, fun t ht => (k4 t ht).wide h1 h2⟩⟩
  · exact .inr ⟨k1, k2, List.prefix_nil.1 h1⟩

theorem Kd.same {d' : Dsk} (h : Kd s d Zl Zh rs) (e1 : d'.dur = d.dur) (e2 : d'.std = d.std) (e3 : d'.l = d.l) (e5 : d'.made = d.made) : Kd s d' Zl Zh rs := by
  obtain ⟨h0, hh⟩ := h
  refine ⟨h0, ?_⟩
  rw [e3]
  rcases hh with ⟨f, rd, k1, k2⟩ | ⟨k1, k2⟩
  · exact .inl ⟨f, rd, k1.same e1 e2 e3 e5, k2⟩
  · exact .inr ⟨⟨e2.trans k1.std, e1.trans k1.dur, e3.trans k1.l, by rw [e5]; exact k1.made⟩, k2⟩
theorem Kd.begin (h : Kd s d Zl Zh rs) : Kd s d.begin.2 Zl Zh rs := by
  obtain ⟨p1, p2, p3, p4, p5⟩ := begin_parts d
  exact h.same p1 p2 p3 p5

theorem btw_num {t : Stp} {n : Int} (h : Btw Zl Zh t) : Btw Zl Zh (t.num n) := h

/-- A step of the file. -/
theorem Kd.do {f : Int} {rd : Option (List (List Int))} {t : Stp} (hx : Fx s.data.toList f d rd rs) (h : Kd s d Zl Zh rs) (ht : Sc f t) (hb : Btw Zl Zh t) : Kd s (d.do t) Zl Zh (rstep rs t) := by
  obtain ⟨h0, hh⟩ := h
  refine ⟨h0, .inl ?_⟩
  rcases hh with ⟨f', rd', k1, k2⟩ | ⟨k1, k2, k3⟩
  · have hf : f' = f := by have := k1.made; have := hx.made; omega
    subst hf
    refine ⟨f', rd', k1.do ht, ?_⟩
    rcases k2 with ⟨r, e, k2, k3, k4⟩ | ⟨e, rfl, m, ss, k2, k3, k4⟩
    · refine .inl ⟨r, e, k2, by simp only [Dsk.do]; rw [rsteps_snoc, k3, rstep_num], fun x hx => ?_⟩
      rcases List.mem_append.1 hx with hx | hx
      · exact k4 x hx
      · rw [List.mem_singleton.1 hx]; exact btw_num hb
    · refine .inr ⟨e, rfl, m, ss ++ [t.num (d.last + 1)], by simp only [Dsk.do]; rw [k2]; rfl, by rw [rsteps_snoc, k3, rstep_num], fun x hx => ?_⟩
      rcases List.mem_append.1 hx with hx | hx
      · exact k4 x hx
      · rw [List.mem_singleton.1 hx]; exact btw_num hb
  · have := hx.find
    rw [k1.find] at this
    have := hx.pos
    omega

/-- A sector of a stream between the two is put, or the disk refuses. -/
theorem Kd.put {Z : List Int} (h : Kd s d Zl Zh rs) (hs : 1 ≤ s.size ∧ s.size ≤ 64) {i : Nat} (hi : i ≤ rs.length) (hi2 : i < 4096) (h1 : Zl <+: Z) (h2 : Z <+: Zh) :
    ((d.put s (i : Int) 64 (sec Z i)).1 ≠ 0 ∧ Kd s (d.put s (i : Int) 64 (sec Z i)).2 Zl Zh rs) ∨ ((d.put s (i : Int) 64 (sec Z i)).1 = 0 ∧ Kd s (d.put s (i : Int) 64 (sec Z i)).2 Zl Zh (putIn rs i (sec Z i))) := by
  have hk := h
  obtain ⟨h0, hh⟩ := h
  rcases hh with ⟨f, rd, k1, k2⟩ | ⟨k1, rfl, rfl⟩
  · rcases k1.put hs hi hi2 (sec Z i) with ⟨a, b⟩ | ⟨a, b, c, e⟩
    · rw [b]
      exact .inl ⟨a, hk.begin⟩
    · refine .inr ⟨b, ?_⟩
      rw [c]
      have := Kd.do (t := putStp f (i : Int) (sec Z i)) k1.begin hk.begin ⟨rfl, .inl rfl⟩ (.inl ⟨rfl, Z, i, h1, h2, rfl, rfl⟩)
      simpa [rstep, putStp] using this
  · obtain rfl : i = 0 := by simpa using hi
    obtain ⟨p1, p2, p3, p4, p5⟩ := begin_parts d
    have hm := k1.made
    have e : d.put s ((0 : Nat) : Int) 64 (sec Z 0) = if d.begin.1 ≠ 0 then d.begin else (0, (({ d.begin.2 with made := d.begin.2.made + 1 } : Dsk).do (madeStp (d.begin.2.made + 1) s)).do (putStp (d.begin.2.made + 1) ((0 : Nat) : Int) (sec Z 0))) := by
      unfold Dsk.put
      rw [k1.find, k1.std, if_neg (by
        rintro (x | x | x | x)
        · exact x hs
        · exact x rfl
        · omega
        · simp at x; omega), if_neg (by
        rintro (x | x)
        · omega
        · simp [nof] at x), if_pos (rfl : (0 : Int) = 0)]
    rw [e]
    by_cases b1 : d.begin.1 = 0
    · rw [if_neg (by simp [b1])]
      refine .inr ⟨rfl, h0, .inl ⟨d.begin.2.made + 1, none, ⟨?_, rfl, by rw [p5]; omega, .inr ⟨rfl, ?_, (madeStp (d.begin.2.made + 1) s).num (d.begin.2.last + 1), [(putStp (d.begin.2.made + 1) ((0 : Nat) : Int) (sec Z 0)).num (d.begin.2.last + 1 + 1)], ?_, rfl, rfl, rfl, ?_, rfl⟩⟩, .inr ⟨rfl, rfl, (madeStp (d.begin.2.made + 1) s).num (d.begin.2.last + 1), [(putStp (d.begin.2.made + 1) ((0 : Nat) : Int) (sec Z 0)).num (d.begin.2.last + 1 + 1)], ?_, rfl, ?_⟩⟩⟩
      · simp only [Dsk.do]
        rw [p2, k1.std, nof_made (f := d.begin.2.made + 1) (κ := s.data.toList) rfl rfl rfl]
        exact shp_does (κ := s.data.toList) (f := d.begin.2.made + 1) (r := []) (t := putStp (d.begin.2.made + 1) ((0 : Nat) : Int) (sec Z 0)) ⟨rfl, .inl rfl⟩
      · simp only [Dsk.do]
        rw [p1, k1.dur]
      · simp only [Dsk.do]
        rw [p3, k1.l]
        rfl
      · intro t ht
        rw [List.mem_singleton.1 ht]
        exact ⟨rfl, .inl rfl⟩
      · simp only [Dsk.do]
        rw [p3, k1.l]
        rfl
      · intro t ht
        rw [List.mem_singleton.1 ht]
        exact .inl ⟨rfl, Z, 0, h1, h2, rfl, rfl⟩
    · rw [if_pos b1]
      exact .inl ⟨b1, hk.begin⟩

/-- A cut that leaves the lower stream, or the disk refuses. -/
theorem Kd.cut (h : Kd s d Zl Zh rs) {n : Nat} (hn : n ≤ rs.length) (hl : nsec Zl.length ≤ n) :
    ((d.cut s (n : Int)).1 ≠ 0 ∧ Kd s (d.cut s (n : Int)).2 Zl Zh rs) ∨ ((d.cut s (n : Int)).1 = 0 ∧ Kd s (d.cut s (n : Int)).2 Zl Zh (rs.take n)) := by
  have hk := h
  obtain ⟨h0, hh⟩ := h
  rcases hh with ⟨f, rd, k1, k2⟩ | ⟨k1, rfl, rfl⟩
  · rcases k1.cut hn with ⟨a, b⟩ | ⟨a, b, c, e⟩
    · rw [b]
      exact .inl ⟨a, hk.begin⟩
    · refine .inr ⟨b, ?_⟩
      rw [c]
      have := Kd.do (t := cutStp f (n : Int)) k1.begin hk.begin ⟨rfl, .inr rfl⟩ (.inr ⟨rfl, by show (nsec Zl.length : Int) ≤ (n : Int); omega⟩)
      have e2 : rstep rs (cutStp f (n : Int)) = rs.take n := by
        unfold rstep cutStp
        simp only
        rw [if_neg (by omega)]
        split
        · simp
        · rw [List.take_of_length_le (by omega)]
      rwa [e2] at this
  · have e : d.cut s (n : Int) = (70, d) := by unfold Dsk.cut; rw [k1.find, if_pos rfl]
    rw [e]
    exact .inl ⟨by simp, hk⟩

/-- A sync: what stands is what a crash leaves, or the disk refuses (or there is no file). -/
theorem Kd.sync {Z Z' : List Int} (h : Kd s d Zl Zh rs) (h1 : Hd Z Z' rs) (h2 : Z <+: Z') :
    ((d.sync s).1 ≠ 0 ∧ Kd s (d.sync s).2 Zl Zh rs) ∨ ((d.sync s).1 = 0 ∧ Kd s (d.sync s).2 Z Z' rs ∧ (d.sync s).2.l = []) := by
  have hk := h
  obtain ⟨h0, hh⟩ := h
  rcases hh with ⟨f, rd, k1, k2⟩ | ⟨k1, rfl, rfl⟩
  · rcases k1.sync with ⟨a, b⟩ | ⟨a, b, c, e⟩
    · rw [b]
      exact .inl ⟨a, hk.begin⟩
    · exact .inr ⟨b, ⟨h2, .inl ⟨f, some rs, c, .inl ⟨rs, rfl, h1, by rw [e]; rfl, by rw [e]; simp⟩⟩⟩, e⟩
  · have e : d.sync s = (70, d) := by unfold Dsk.sync; rw [k1.find, if_pos rfl]
    rw [e]
    exact .inl ⟨by simp, hk⟩

/-- Sectors of a stream between the two are put; where none is refused, they stand. -/
theorem Kd.sputs (hs : 1 ≤ s.size ∧ s.size ≤ 64) {Z : List Int} (h1 : Zl <+: Z) (h2 : Z <+: Zh) : ∀ (n f : Nat) (d : Dsk) (rs : List (List Int)), Kd s d Zl Zh rs → f ≤ rs.length → f + n ≤ 4096 → ∃ rs', Kd s (Dsk.sputs s Z (List.range' f n) d).2 Zl Zh rs' ∧
    ((Dsk.sputs s Z (List.range' f n) d).1 = 0 → rs'.length = max rs.length (f + n) ∧ (∀ i, (i < f ∨ f + n ≤ i) → rs'[i]? = rs[i]?) ∧ (∀ i, f ≤ i → i < f + n → rs'[i]? = some (sec Z i))) := by
  intro n
  induction n with
  | zero => intro f d rs h hf hn; exact ⟨rs, h, fun _ => ⟨by omega, fun _ _ => rfl, fun i a b => by omega⟩⟩
  | succ n ih =>
    intro f d rs h hf hn
    have e0 : Dsk.sputs s Z (List.range' f (n + 1)) d = if (d.put s (f : Int) 64 (sec Z f)).1 = 0 then Dsk.sputs s Z (List.range' (f + 1) n) (d.put s (f : Int) 64 (sec Z f)).2 else d.put s (f : Int) 64 (sec Z f) := by
      rw [List.range'_succ]
      rfl
    rcases h.put hs hf (by omega) h1 h2 with ⟨a, b⟩ | ⟨a, b⟩
    · rw [e0, if_neg a]
      exact ⟨rs, b, fun e => absurd e a⟩
    · rw [e0, if_pos a]
      have hl := putIn_len rs f (sec Z f)
      obtain ⟨rs', i2, i3⟩ := ih (f + 1) _ _ b (by omega) (by omega)
      refine ⟨rs', i2, fun e => ?_⟩
      obtain ⟨j3, j4, j5⟩ := i3 e
      refine ⟨by omega, fun i hi => ?_, fun i h1 h2 => ?_⟩
      · rw [j4 i (by omega), putIn_get hf, if_neg (by omega)]
      · by_cases c : i = f
        · rw [j4 i (by omega), putIn_get hf, if_pos c, c]
        · exact j5 i (by omega) (by omega)

/-- Nothing but a beginning is left of a file; or the disk refuses at some step. -/
theorem Kd.leave {Z : List Int} (h : Kd s d Zl Zh rs) (hs : 1 ≤ s.size ∧ s.size ≤ 64) (h1 : Zl <+: Z) (h2 : Z <+: Zh) (hrow : ∀ i, 62 * (i + 1) ≤ Z.length → ∃ hi : i < rs.length, Hol rs[i] (dat Z i)) (hn : nsec Z.length ≤ rs.length) (h4 : rs.length ≤ 4096) :
    ∃ rs', ((d.leave s Z).1 ≠ 0 ∧ Kd s (d.leave s Z).2 Zl Zh rs') ∨ ((d.leave s Z).1 = 0 ∧ Kd s (d.leave s Z).2 Z Z rs' ∧ (d.leave s Z).2.l = [] ∧ rs'.length ≤ rs.length) := by
  have hsum : Z.length / 62 + (nsec Z.length - Z.length / 62) = nsec Z.length := by unfold nsec; omega
  obtain ⟨r1, s2, s6⟩ := Kd.sputs hs h1 h2 (nsec Z.length - Z.length / 62) (Z.length / 62) d rs h (by unfold nsec at hn; omega) (by omega)
  rw [hsum] at s6
  have ep : d.sput s Z (Z.length / 62) = Dsk.sputs s Z (List.range' (Z.length / 62) (nsec Z.length - Z.length / 62)) d := rfl
  rw [← ep] at s2 s6
  unfold Dsk.leave
  by_cases a1 : (d.sput s Z (Z.length / 62)).1 = 0
  · rw [if_neg (by simp [a1])]
    obtain ⟨s3, s4, s5⟩ := s6 a1
    have hl1 : r1.length = rs.length := by omega
    rcases s2.cut (n := nsec Z.length) (by omega) (nsec_mono h1.length_le) with ⟨a2, b2⟩ | ⟨a2, b2⟩
    · rw [if_pos a2]
      exact ⟨_, .inl ⟨a2, b2⟩⟩
    · rw [if_neg (by simp [a2])]
      have hd : Hd Z Z (r1.take (nsec Z.length)) := hd_of (by rw [List.length_take]; omega) (fun i hi => by
        rw [List.length_take] at hi
        rw [List.getElem_take]
        by_cases ci : i < Z.length / 62
        · have hg := s4 i (.inl ci)
          obtain ⟨hi3, hh⟩ := hrow i (by omega)
          rw [List.getElem?_eq_getElem (by omega), List.getElem?_eq_getElem hi3] at hg
          rw [Option.some.inj hg]
          exact hh
        · have hg := s5 i (by omega) (by omega)
          rw [List.getElem?_eq_getElem (by omega)] at hg
          rw [Option.some.inj hg]
          exact hol_sec Z i)
      rcases b2.sync hd (List.prefix_refl _) with ⟨a3, b3⟩ | ⟨a3, b3, c3⟩
      · exact ⟨_, .inl ⟨a3, b3⟩⟩
      · exact ⟨_, .inr ⟨a3, b3, c3, by rw [List.length_take]; omega⟩⟩
  · rw [if_pos a1]
    exact ⟨_, .inl ⟨a1, s2⟩⟩

/-- A crash. -/
theorem Kd.crash (h : Kd s d Zl Zh rs) (ks : List Bool) : ∃ rs', Kd s (d.crash ks) Zl Zh rs' ∧ Qt (d.crash ks) := by
  obtain ⟨h0, hh⟩ := h
  rcases hh with ⟨f, rd, k1, k2⟩ | ⟨k1, rfl, rfl⟩
  · rcases k1.crash ks with ⟨r, ts, e1, e2, e3, e4, e5⟩ | ⟨e1, ⟨m, ss, ts, e2, e3, e4, e5, e6⟩ | e2⟩
    · rcases k2 with ⟨r', g1, g2, g3, g4⟩ | ⟨g1, _⟩
      · rw [e1] at g1
        cases g1
        have hH := Hd.steps h0 ts r g2 (fun t ht => g4 t (e3.subset ht))
        exact ⟨_, ⟨h0, .inl ⟨f, _, e5, .inl ⟨_, rfl, hH, rfl, by simp [Dsk.crash]⟩⟩⟩, qt_crash d ks⟩
      · rw [e1] at g1; cases g1
    · rcases k2 with ⟨r', g1, _⟩ | ⟨g1, rfl, m', ss', g2, g3, g4⟩
      · rw [e1] at g1; cases g1
      · rw [e2] at g2
        cases g2
        have hH := Hd.steps h0 ts [] (hd_nil Zh) (fun t ht => g4 t (e4.subset ht))
        exact ⟨_, ⟨h0, .inl ⟨f, _, e6, .inl ⟨_, rfl, hH, rfl, by simp [Dsk.crash]⟩⟩⟩, qt_crash d ks⟩
    · rcases k2 with ⟨r', g1, _⟩ | ⟨g1, rfl, _⟩
      · rw [e1] at g1; cases g1
      · exact ⟨[], ⟨h0, .inr ⟨e2, rfl, rfl⟩⟩, qt_crash d ks⟩
  · have e : kep d.l ks = [] := by rw [k1.l]; cases ks <;> rfl
    refine ⟨[], ⟨h0, .inr ⟨⟨?_, ?_, rfl, k1.made⟩, rfl, rfl⟩⟩, qt_crash d ks⟩
    · show (kep d.l ks).foldl Shp.does d.dur = nof
      rw [e]; exact k1.dur
    · show (kep d.l ks).foldl Shp.does d.dur = nof
      rw [e]; exact k1.dur
end

end Go.Proofs.YtkdolabhcbjipaaGreat

/-
  Truncate of a segment.
-/
namespace Go.Proofs.YtkdolabhcbjipaaGreat
open Go.RowKit
set_option maxRecDepth 100000
set_option linter.unusedVariables false

structure Trd where
  err : Int
  d : Dsk
  bs : List (List Int)
  br : Bool
/-- What Truncate does. -/
def Dsk.strunc (d : Dsk) (s : ByteArray) (bs : List (List Int)) (br : Bool) (n : Int) : Trd :=
  if br then ⟨4, d, bs, true⟩ else if n < 0 ∨ (bs.length : Int) < n then ⟨2, d, bs, false⟩ else if n = bs.length then ⟨0, d, bs, false⟩
  else if (d.leave s (flat (bs.take n.toNat))).1 ≠ 0 then ⟨(d.leave s (flat (bs.take n.toNat))).1, (d.leave s (flat (bs.take n.toNat))).2, bs, true⟩ else ⟨0, (d.leave s (flat (bs.take n.toNat))).2, bs.take n.toNat, false⟩

theorem U_take (zs : List Int) (k : Nat) : (U zs).take k = U (zs.take k) := by simp [U]
theorem Nn_take (l : List Nat) (k : Nat) : (Nn l).take k = Nn (l.take k) := by simp [Nn]

/-- A segment with the first of its frames alone. -/
theorem Sg.cut {X Y : World} {R S n g ge sc ec F B : Nat} {nm : ByteArray} {bs : List (List Int)} (h : Sg X R S nm (.slice (some ⟨g, 0, none⟩) F sc) (.slice (some ⟨ge, 0, none⟩) B ec) bs false) (hF : F = (flat bs).length) (hB : B = bs.length) (hn : n ≤ B)
    (hb : Tb (fun k => k = S) X Y) (ho : Y.heap[S]? = some (.cells #[.pointer (some ⟨S, 0, none⟩), .pointer (some ⟨R, 0, none⟩), .string nm, .slice (some ⟨g, 0, none⟩) (edAt bs n) sc, .slice (some ⟨ge, 0, none⟩) n ec, .bool false] (75 : TypeId) (0, 0))) :
    Sg Y R S nm (.slice (some ⟨g, 0, none⟩) (edAt bs n) sc) (.slice (some ⟨ge, 0, none⟩) n ec) (bs.take n) false := by
  subst hF
  subst hB
  have h1 := row_tb h.str hb (fun k hk e => h.not_row h.str (by decide) hk e)
  have h2 := row_tb h.ends hb (fun k hk e => h.not_row h.ends (by decide) hk e)
  have h3 := own_take h1 (edAt_le bs n)
  have h4 := own_take h2 hn
  rw [U_take, flat_take] at h3
  rw [Nn_take, eds_take] at h4
  have e1 : (flat (bs.take n)).length = edAt bs n := rfl
  have e2 : (bs.take n).length = n := by rw [List.length_take]; omega
  refine ⟨ho, by rw [e1]; exact h3, by rw [e2]; exact h4, fun b hb => h.byte b (List.mem_of_mem_take hb), fun b hb => h.short b (List.mem_of_mem_take hb), ?_⟩
  have := h.most
  have := edAt_le bs n
  rw [e1]
  unfold nsec at *
  omega

set_option maxHeartbeats 4000000 in
theorem trunc_on {w W : World} {P : Nat → Prop} {R S : Nat} {d : Dsk} {K : Nat} {nm : ByteArray} {bs : List (List Int)} {br : Bool} {n : Int} (h : Sgx w P R S d nm bs br W) (hz : Bw d K) (hK : K + 13000 < 600000) (hs : nm.size ≤ 1000000) (hn63 : n ≤ 9223372036854775807) :
    Calls Tryz.prog 15 #[.pointer (some ⟨S, 0, none⟩), .int .i64 n] W fun e W' => e = .returned (.int .i64 (d.strunc nm bs br n).err) ∧ Sgx w P R S (d.strunc nm bs br n).d nm (d.strunc nm bs br n).bs (d.strunc nm bs br n).br W' ∧ No P W W' := by
  have HX := hide h
  obtain ⟨Q, sv, ev, h1, h2, h3, h4, h5, h6, h7⟩ := h
  have QX : Qx w P Q R d W := ⟨h1, h2, h3⟩
  have hrf := refused_any h4
  have hF4 := flat_len4 bs
  have hmost := h4.most
  have hF5 : (flat bs).length ≤ 253952 := by unfold nsec at hmost; omega
  cases br with
  | true =>
    have hsd : Hid (d.strunc nm bs true n = ⟨4, d, bs, true⟩) := hide (by unfold Dsk.strunc; rw [if_pos rfl])
    clear h1 h4
    go_enter Tryz.func15, Tryz.ntmps15
    go_wp2_with (go_at_call 33; refine hrf.mono ?_; rintro e w1 ⟨rfl, hw1⟩; subst w1)
    go_ret
    rw [hsd.out]
    exact ⟨rfl, HX.out, No.refl⟩
  | false =>
    obtain ⟨ea, ec, rfl⟩ := row_val h4.ends
    have c4 : W.cell? ⟨S, 4, none⟩ = some (.slice ea bs.length ec) := h4.c 4
    obtain ⟨B, hB⟩ : ∃ B, Hid (B = bs.length) := ⟨_, hide rfl⟩
    rw [← hB.out] at c4
    by_cases hneg : n < 0
    · have hsd : Hid (d.strunc nm bs false n = ⟨2, d, bs, false⟩) := hide (by unfold Dsk.strunc; rw [if_neg (by simp), if_pos (.inl hneg)])
      clear h1 h4
      go_enter Tryz.func15, Tryz.ntmps15
      go_wp2_with (go_at_call 33; refine hrf.mono ?_; rintro e w1 ⟨rfl, hw1⟩; subst w1)
      go_ret
      rw [hsd.out]
      exact ⟨rfl, HX.out, No.refl⟩
    · by_cases hbig : (B : Int) < n
      · have hsd : Hid (d.strunc nm bs false n = ⟨2, d, bs, false⟩) := hide (by unfold Dsk.strunc; rw [if_neg (by simp), if_pos (.inr (by rw [← hB.out]; exact hbig))])
        clear h1 h4
        go_enter Tryz.func15, Tryz.ntmps15
        go_wp2_with (go_at_call 33; refine hrf.mono ?_; rintro e w1 ⟨rfl, hw1⟩; subst w1)
        go_ret
        rw [hsd.out]
        exact ⟨rfl, HX.out, No.refl⟩
      · obtain ⟨N, rfl⟩ : ∃ N : Nat, n = N := ⟨n.toNat, by omega⟩
        by_cases hall : N = B
        · subst hall
          have hsd : Hid (d.strunc nm bs false (N : Int) = ⟨0, d, bs, false⟩) := hide (by unfold Dsk.strunc; rw [if_neg (by simp), if_neg (by rw [← hB.out]; omega), if_pos (by rw [← hB.out])])
          clear h1 h4
          go_enter Tryz.func15, Tryz.ntmps15
          go_wp2_with (go_at_call 33; refine hrf.mono ?_; rintro e w1 ⟨rfl, hw1⟩; subst w1)
          go_ret
          rw [hsd.out]
          exact ⟨rfl, HX.out, No.refl⟩
        · have hNB : N < B := by omega
          have hNl : N < bs.length := by rw [← hB.out]; exact hNB
          obtain ⟨g, sc, rfl⟩ := own_shape h4.str (by omega)
          have hends := h4.ends
          rw [← hB.out] at hends
          obtain ⟨ge, ec', he⟩ := own_shape hends (by omega)
          simp only [Value.slice.injEq] at he
          obtain ⟨rfl, _, rfl⟩ := he
          obtain ⟨F, hF⟩ : ∃ F, Hid (F = (flat bs).length) := ⟨_, hide rfl⟩
          obtain ⟨E, hE⟩ : ∃ E, Hid (E = edAt bs N) := ⟨_, hide rfl⟩
          have hB9 : B ≤ 1000000 := by rw [hB.out]; omega
          have hEF : E ≤ F := by rw [hE.out, hF.out]; exact edAt_le bs N
          have hS : Sg W R S nm (.slice (some ⟨g, 0, none⟩) F sc) (.slice (some ⟨ge, 0, none⟩) B ec) bs false := by rw [hF.out, hB.out]; exact h4
          have hsc := own_caps h4.str
          have hec := own_caps hends
          rw [← hF.out] at hsc hF5
          have hsc1 := hsc.1
          have hsc2 := hsc.2
          have hec1 := hec.1
          have hec2 := hec.2
          have c1 : W.cell? ⟨S, 1, none⟩ = some (.pointer (some ⟨R, 0, none⟩)) := h4.c 1
          have c2 : W.cell? ⟨S, 2, none⟩ = some (.string nm) := h4.c 2
          have c3 : W.cell? ⟨S, 3, none⟩ = some (.slice (some ⟨g, 0, none⟩) F sc) := hS.c 3
          have CE := fun (X : World) (hX : X.ownsRow 0 3 1 (.slice (some ⟨ge, 0, none⟩) B ec) B (Nn (eds bs))) => endOf_any (n := N) hX hB.out (by omega) (by omega)
          rw [← hE.out] at CE
          obtain ⟨r, hr⟩ : ∃ r, Hid (r = d.leave nm (flat (bs.take N))) := ⟨_, hide rfl⟩
          have hsd : Hid (d.strunc nm bs false (N : Int) = if r.1 ≠ 0 then ⟨r.1, r.2, bs, true⟩ else ⟨0, r.2, bs.take N, false⟩) := hide (by unfold Dsk.strunc; have hb' := hB.out; rw [if_neg (by simp), if_neg (by omega), if_neg (by omega), Int.toNat_natCast, ← hr.out])
          have HS := hide hS
          have HQX := hide QX
          have hq5 := h6 g rfl
          have hq6 := h7 ge rfl
          clear h1 h4 QX hS hsc hec hmost
          go_enter Tryz.func15, Tryz.ntmps15
          go_wp2_with (go_at_call 33; refine hrf.mono ?_; rintro e w1 ⟨rfl, hw1⟩; subst w1)
          go_quiet (first | (go_at_call 29; exact Calls.quiet_of_same (CE _ (by first | exact hends | assumption))))
          obtain ⟨V, hV⟩ : ∃ V, V = W.drewN nq := ⟨_, rfl⟩
          have bV : Below W.heap.size W V := by rw [hV]; exact ⟨rfl, rfl, rfl, Nat.le_refl _, fun _ _ => rfl⟩
          rw [← hV]
          clear hV
          have hSV := HS.out.tb (Tb.of_fresh (S := fun _ => False) bV) (fun h => h) (fun _ _ h => h) (fun _ _ h => h)
          have tdr : Tb (fun _ => False) W V.drew := (Tb.of_fresh bV).drew
          have hSd := HS.out.tb tdr (fun h => h) (fun _ _ h => h) (fun _ _ h => h)
          have hBd : Bs V.drew (some ⟨g, 0, none⟩) E sc (flat (bs.take N)) := by
            have := hSd.str
            rw [← hF.out] at this
            have := own_bs this (flat_byte hSd.byte)
            have := this.head E hEF
            rwa [hE.out, flat_take, ← hE.out] at this
          have C := leave_on (s := nm) (HQX.out.ay.kept tdr) hz (by unfold nsec; omega) (by omega) hBd (fun b off _ e => by cases e; exact .inr hq5) (by omega)
          rw [← hr.out] at C
          have d1 : V.cell? ⟨S, 1, none⟩ = some (.pointer (some ⟨R, 0, none⟩)) := hSV.c 1
          have d2 : V.cell? ⟨S, 2, none⟩ = some (.string nm) := hSV.c 2
          have FIN : Hid (∀ X, Ay w (fun g => P g ∨ Q g) R r.2 X → No (fun g => P g ∨ Q g) V.drew X → Sg X R S nm (.slice (some ⟨g, 0, none⟩) F sc) (.slice (some ⟨ge, 0, none⟩) B ec) bs false ∧ (Sgx w P R S r.2 nm bs true (X.setCell ⟨S, 5, none⟩ (.bool true)) ∧ No P W (X.setCell ⟨S, 5, none⟩ (.bool true))) ∧
              (∀ Y, Tb (fun k => k = S) X Y → Y.heap[S]? = some (.cells #[.pointer (some ⟨S, 0, none⟩), .pointer (some ⟨R, 0, none⟩), .string nm, .slice (some ⟨g, 0, none⟩) E sc, .slice (some ⟨ge, 0, none⟩) N ec, .bool false] (75 : TypeId) (0, 0)) → Sgx w P R S r.2 nm (bs.take N) false Y ∧ No P W Y)) := hide (fun X a1 a2 => by
            have g1 := hSd.tb a2 (fun hn => hn (.inr h5)) (fun k hk hn => hn (.inr (h6 k hk))) (fun k hk hn => hn (.inr (h7 k hk)))
            have g2 : No P W X := (No.of tdr).trans (a2.less (fun g hg => .inl hg))
            have hSw : w.heap.size ≤ S := Nat.not_lt.1 (fun hl => h2 S h5 (h3 S hl))
            have ax : ∀ Y, Tb (fun k => k = S) X Y → Ay w (fun g => P g ∨ Q g) R r.2 Y ∧ No P W Y := fun Y hst =>
              ⟨(a1.on (hst.mono (fun k _ e => by rw [e]; exact ⟨.inr h5, hSw⟩))).less (fun g hg => .inl hg) (fun g hg => .inl (h3 g hg)), g2.trans (hst.mono (fun k _ e hp => by rw [e] at hp; exact h2 S h5 hp))⟩
            have hst : Tb (fun k => k = S) X (X.setCell ⟨S, 5, none⟩ (.bool true)) := Tb.set (S := fun k => k = S) S 5 _ rfl
            refine ⟨g1, ⟨⟨Q, .slice (some ⟨g, 0, none⟩) F sc, .slice (some ⟨ge, 0, none⟩) B ec, (ax _ hst).1, h2, h3, g1.brk true, h5, fun k hk => h6 k hk, fun k hk => h7 k hk⟩, (ax _ hst).2⟩, fun Y hY hob => ⟨⟨Q, .slice (some ⟨g, 0, none⟩) E sc, .slice (some ⟨ge, 0, none⟩) N ec, (ax Y hY).1, h2, h3, ?_, h5, fun k hk => h6 k hk, fun k hk => h7 k hk⟩, (ax Y hY).2⟩⟩
            rw [hE.out] at hob ⊢
            exact g1.cut hF.out hB.out (by omega) hY hob)
          clear hSV hSd hBd tdr
          go_wp2_with fail
          go_region_held3 (fun V => V.cell? ⟨S, 1, none⟩ = some (.pointer (some ⟨R, 0, none⟩)) ∧ V.cell? ⟨S, 2, none⟩ = some (.string nm))
            (first | exact ⟨d1, d2⟩ | exact ⟨g1.c 1, g1.c 2⟩)
            (first | (go_at_call 31; refine C.mono ?_; rintro e X ⟨rfl, a1, a2⟩; obtain ⟨g1, g3, g4⟩ := FIN.out X a1 a2))
          have c5 : X.cell? ⟨S, 5, none⟩ = some (.bool false) := g1.c 5
          have x4 : X.cell? ⟨S, 4, none⟩ = some (.slice (some ⟨ge, 0, none⟩) B ec) := g1.c 4
          have x3 : X.cell? ⟨S, 3, none⟩ = some (.slice (some ⟨g, 0, none⟩) F sc) := g1.c 3
          have f5 := g1.free 5
          have f4 := g1.free 4
          have f3 := g1.free 3
          have HO := hide g1.obj
          have G3 := hide g3
          have G4 := hide g4
          clear a1 a2 g1 g3 g4 C c1 c2 d1 d2 CE
          by_cases h0 : r.1 = 0
          · rw [h0]
            go_wp2_with fail
            go_region
            all_goals
              go_wp2_with fail
              go_ret
              rw [hsd.out, if_neg (by simp [h0])]
              refine ⟨rfl, ?_⟩
              refine G4.out _ ((Tb.set (S := fun k => k = S) S _ _ rfl).trans (Tb.set (S := fun k => k = S) S _ _ rfl) (fun _ _ h => h)).drew ?_
              exact heap_setCell_same _ S _ _ (75 : TypeId) _ (heap_setCell_same X S _ _ (75 : TypeId) _ HO.out)
          · have e0 : (r.1 == 0) = false := by simpa using h0
            go_wp2_with fail
            go_ret
            rw [hsd.out, if_pos h0]
            exact ⟨rfl, G3.out.1, G3.out.2⟩

end Go.Proofs.YtkdolabhcbjipaaGreat

/-
  The segment's calls on a disk that may refuse: which frames a crash may leave.
-/
namespace Go.Proofs.YtkdolabhcbjipaaGreat
open Go.RowKit
set_option maxRecDepth 100000
set_option linter.unusedVariables false

/-- A segment with frames bs upon a disk: at least the first n are sure, whatever a crash keeps. -/
structure Kg (s : ByteArray) (d : Dsk) (bs : List (List Int)) (n : Nat) (rs : List (List Int)) : Prop where
  kd : Kd s d (flat (bs.take n)) (flat bs) rs
  hd : Hd (flat bs) (flat bs) rs
  len : rs.length ≤ 4096

section
variable {s : ByteArray} {d : Dsk} {bs : List (List Int)} {n : Nat} {rs : List (List Int)}

theorem flat_pre (bs : List (List Int)) (n : Nat) : flat (bs.take n) <+: flat bs := by
  rw [← flat_take]
  exact List.take_prefix _ _
theorem flat_pre2 (bs : List (List Int)) {m n : Nat} (h : m ≤ n) : flat (bs.take m) <+: flat (bs.take n) := by
  have := flat_pre (bs.take n) m
  rwa [List.take_take, Nat.min_eq_left h] at this

/-- The rows of a file that are full. -/
theorem Hd.row {Z Y : List Int} {rs : List (List Int)} (h : Hd Y Y rs) (hp : Z <+: Y) : (∀ i, 62 * (i + 1) ≤ Z.length → ∃ hi : i < rs.length, Hol rs[i] (dat Z i)) ∧ nsec Z.length ≤ rs.length := by
  have hl := h.len
  have := nsec_mono hp.length_le
  refine ⟨fun i hi => ?_, by omega⟩
  have hi2 : i < rs.length := by unfold nsec at this hl; omega
  refine ⟨hi2, ?_⟩
  rw [dat_full hp hi]
  exact h.self hi2

/-- Append: at least as many are sure as before. -/
theorem Kg.sapp {b : List Int} (h : Kg s d bs n rs) (hs : 1 ≤ s.size ∧ s.size ≤ 64) (hn : n ≤ bs.length) (hb : b.length ≤ 65536) (hm : nsec (flat bs ++ fr b).length ≤ 4096) :
    ∃ rs', ((d.sapp s bs false b).err = 0 ∧ (d.sapp s bs false b).at' = bs.length ∧ (d.sapp s bs false b).bs = bs ++ [b] ∧ (d.sapp s bs false b).br = false ∧ Kg s (d.sapp s bs false b).d (bs ++ [b]) n rs') ∨
      ((d.sapp s bs false b).err ≠ 0 ∧ (d.sapp s bs false b).br = true ∧ (d.sapp s bs false b).bs = bs ∧ Kd s (d.sapp s bs false b).d (flat ((bs ++ [b]).take n)) (flat (bs ++ [b])) rs') := by
  have ef : flat (bs ++ [b]) = flat bs ++ fr b := by rw [flat_app, flat_cons, flat_nil, List.append_nil]
  have et : (bs ++ [b]).take n = bs.take n := List.take_append_of_le_length hn
  obtain ⟨Z, hZ⟩ : ∃ Z, Z = flat bs := ⟨_, rfl⟩
  obtain ⟨Y, hY⟩ : ∃ Y, Y = flat bs ++ fr b := ⟨_, rfl⟩
  have hYl : Y.length = Z.length + (4 + b.length) := by rw [hY, hZ, List.length_append, fr_length]
  have hpre : Z <+: Y := by rw [hY, hZ]; exact List.prefix_append _ _
  have hd := h.hd
  have hlen := h.len
  rw [← hZ] at hd
  rw [← hY] at hm
  have hl := hd.len
  have hk : Kd s d (flat (bs.take n)) Y rs := h.kd.wide (List.prefix_refl _) (by rw [← hZ]; exact hpre)
  have hsum : Z.length / 62 + (nsec Y.length - Z.length / 62) = nsec Y.length := by unfold nsec; omega
  obtain ⟨r1, s2, s6⟩ := Kd.sputs hs (Z := Y) (hk.1) (List.prefix_refl _) (nsec Y.length - Z.length / 62) (Z.length / 62) d rs hk (by unfold nsec at hl; omega) (by omega)
  rw [hsum] at s6
  have ep : d.sput s Y (Z.length / 62) = Dsk.sputs s Y (List.range' (Z.length / 62) (nsec Y.length - Z.length / 62)) d := rfl
  rw [← ep] at s2 s6
  have e0 : d.sapp s bs false b = if (d.sput s Y (Z.length / 62)).1 ≠ 0 then ⟨0, (d.sput s Y (Z.length / 62)).1, (d.sput s Y (Z.length / 62)).2, bs, true⟩ else ⟨bs.length, 0, (d.sput s Y (Z.length / 62)).2, bs ++ [b], false⟩ := by
    unfold Dsk.sapp
    rw [← hY, ← hZ, if_neg (by simp), if_neg (by omega), if_neg (by omega)]
  rw [e0]
  by_cases a1 : (d.sput s Y (Z.length / 62)).1 = 0
  · rw [if_neg (by simp [a1])]
    obtain ⟨s3, s4, s5⟩ := s6 a1
    refine ⟨r1, .inl ⟨rfl, rfl, rfl, rfl, by rw [et, ef, ← hY]; exact s2, ?_, by omega⟩⟩
    rw [ef, ← hY]
    refine hd_of (by omega) (fun i hi => ?_)
    by_cases c1 : i < Z.length / 62
    · have hg := s4 i (.inl c1)
      have hi2 : i < rs.length := by unfold nsec at hl; omega
      rw [List.getElem?_eq_getElem hi, List.getElem?_eq_getElem hi2] at hg
      rw [Option.some.inj hg, ← dat_full hpre (by omega)]
      exact hd.self hi2
    · by_cases c2 : i < nsec Y.length
      · have hg := s5 i (by omega) c2
        rw [List.getElem?_eq_getElem hi] at hg
        rw [Option.some.inj hg]
        exact hol_sec Y i
      · have hi2 : i < rs.length := by omega
        have hg := s4 i (.inr (by omega))
        rw [List.getElem?_eq_getElem hi, List.getElem?_eq_getElem hi2] at hg
        rw [Option.some.inj hg, dat_beyond (Z := Y) (by omega)]
        have := hd.self hi2
        rwa [dat_beyond (Z := Z) (by have := nsec_mono (a := Z.length) (b := Y.length) (by omega); omega)] at this
  · rw [if_pos a1]
    refine ⟨r1, .inr ⟨a1, rfl, rfl, ?_⟩⟩
    rw [et, ef, ← hY]
    exact s2

/-- Sync: all are sure, or the segment is broken, and what was sure is. -/
theorem Kg.ssync (h : Kg s d bs n rs) (h70 : d.find s ≠ 0 → (d.sync s).1 ≠ 70) :
    ((d.ssync s false).1 = 0 ∧ (d.ssync s false).2.2 = false ∧ Kg s (d.ssync s false).2.1 bs bs.length rs) ∨ ((d.ssync s false).1 ≠ 0 ∧ (d.ssync s false).2.2 = true ∧ Kd s (d.ssync s false).2.1 (flat (bs.take n)) (flat bs) rs) := by
  have et : bs.take bs.length = bs := List.take_length
  unfold Dsk.ssync
  rw [if_neg (by simp)]
  by_cases a : (d.sync s).1 = 70
  · rw [if_pos a]
    refine .inl ⟨rfl, rfl, ?_⟩
    obtain ⟨h0, hh⟩ := h.kd
    rcases hh with ⟨f, rd, k1, k2⟩ | ⟨k1, k2, k3⟩
    · exact absurd a (h70 (by rw [k1.find]; have := k1.pos; omega))
    · have e : d.sync s = (70, d) := by unfold Dsk.sync; rw [k1.find, if_pos rfl]
      have hbs : flat bs = [] := by
        have := h.hd.len
        rw [k2] at this
        exact List.eq_nil_of_length_eq_zero (by simp [nsec] at this; omega)
      rw [e]
      refine ⟨⟨by rw [et]; exact List.prefix_refl _, .inr ⟨k1, k2, by rw [et]; exact hbs⟩⟩, h.hd, h.len⟩
  · rw [if_neg a]
    rcases h.kd.sync h.hd (List.prefix_refl _) with ⟨c1, c2⟩ | ⟨c1, c2, c3⟩
    · exact .inr ⟨c1, by simpa using c1, c2⟩
    · exact .inl ⟨c1, by simpa using c1, by rw [et]; exact c2, h.hd, h.len⟩

/-- Truncate: what stays is sure; or the segment is broken, and what was sure of it is. -/
theorem Kg.strunc {m : Nat} (h : Kg s d bs n rs) (hs : 1 ≤ s.size ∧ s.size ≤ 64) (hm : m < bs.length) :
    ∃ rs', ((d.strunc s bs false (m : Int)).err = 0 ∧ (d.strunc s bs false (m : Int)).br = false ∧ (d.strunc s bs false (m : Int)).bs = bs.take m ∧ Kg s (d.strunc s bs false (m : Int)).d (bs.take m) m rs') ∨
      ((d.strunc s bs false (m : Int)).err ≠ 0 ∧ (d.strunc s bs false (m : Int)).br = true ∧ (d.strunc s bs false (m : Int)).bs = bs ∧ Kd s (d.strunc s bs false (m : Int)).d (flat (bs.take (min n m))) (flat bs) rs') := by
  have e0 : d.strunc s bs false (m : Int) = if (d.leave s (flat (bs.take m))).1 ≠ 0 then ⟨(d.leave s (flat (bs.take m))).1, (d.leave s (flat (bs.take m))).2, bs, true⟩ else ⟨0, (d.leave s (flat (bs.take m))).2, bs.take m, false⟩ := by
    unfold Dsk.strunc
    rw [if_neg (by simp), if_neg (by omega), if_neg (by omega), Int.toNat_natCast]
  have hk : Kd s d (flat (bs.take (min n m))) (flat bs) rs := h.kd.wide (flat_pre2 bs (by omega)) (List.prefix_refl _)
  obtain ⟨p1, p2⟩ := h.hd.row (flat_pre bs m)
  obtain ⟨rs', a⟩ := hk.leave hs (flat_pre2 bs (by omega : min n m ≤ m)) (flat_pre bs m) p1 p2 h.len
  rw [e0]
  rcases a with ⟨a1, a2⟩ | ⟨a1, a2, a3, a4⟩
  · rw [if_pos a1]
    exact ⟨rs', .inr ⟨a1, rfl, rfl, a2⟩⟩
  · rw [if_neg (by simp [a1])]
    refine ⟨rs', .inl ⟨rfl, rfl, rfl, ?_, a2.now, Nat.le_trans a4 h.len⟩⟩
    rw [List.take_take, Nat.min_self]
    exact a2
end

end Go.Proofs.YtkdolabhcbjipaaGreat

/-
  Open on a disk that may refuse: which frames are told, and what is sure then.
-/
namespace Go.Proofs.YtkdolabhcbjipaaGreat
open Go.RowKit
set_option maxRecDepth 100000
set_option linter.unusedVariables false

section
variable {s : ByteArray} {d : Dsk} {Zl Zh : List Int} {rs : List (List Int)}

theorem flat_none {bs : List (List Int)} (h : flat bs = []) : bs = [] := by
  cases bs with
  | nil => rfl
  | cons b bs =>
    have := congrArg List.length h
    rw [flat_cons, List.length_append, fr_length] at this
    simp at this

/-- What is read of the file is what stands; or the power is gone. -/
theorem Kd.held (h : Kd s d Zl Zh rs) : (d.held s = rs ∧ ¬ (d.read s ≠ 0 ∧ d.read s ≠ 70)) ∨ (d.read s = 6 ∧ d.down = true) := by
  obtain ⟨_, ⟨f, rd, k1, _⟩ | ⟨k1, rfl, _⟩⟩ := h
  · have hp := k1.pos
    cases hd : d.down with
    | false =>
      have e : d.read s = 0 := by unfold Dsk.read; rw [k1.find, if_neg (by omega), hd]; rfl
      exact .inl ⟨by unfold Dsk.held; rw [if_pos e, k1.rows], by rw [e]; simp⟩
    | true =>
      have e : d.read s = 6 := by unfold Dsk.read; rw [k1.find, if_neg (by omega), hd]; rfl
      exact .inr ⟨e, rfl⟩
  · have e : d.read s = 70 := by unfold Dsk.read; rw [k1.find, if_pos rfl]
    exact .inl ⟨by unfold Dsk.held; rw [e]; rfl, by rw [e]; simp⟩

/-- Open behind a crash: it is refused, and what was sure is; or it tells a beginning with all that was sure, and all of it is sure. -/
theorem Kd.opn {K n : Nat} {bs : List (List Int)} (h : Kd s d (flat (bs.take n)) (flat bs) rs) (hs : 1 ≤ s.size ∧ s.size ≤ 64) (hb : ∀ b ∈ bs, b.length ≤ 65536) (hbw : Bw d K) (hl : d.l = []) :
    ((d.opn s).1 ≠ 0 ∧ ∃ rs', Kd s (d.opn s).2 (flat (bs.take n)) (flat bs) rs') ∨ ((d.opn s).1 = 0 ∧ ∃ k rs', min n bs.length ≤ k ∧ k ≤ bs.length ∧ d.frames s = bs.take k ∧ Kg s (d.opn s).2 (bs.take k) k rs' ∧ (d.opn s).2.l = []) := by
  rcases h.held with ⟨e1, e2⟩ | ⟨e1, _⟩
  · obtain ⟨k, hk1, hk2, hf⟩ := h.frames hb
    have hw := held_bw hbw s
    rw [e1] at hw
    have h64 : ∀ r ∈ rs, r.length = 64 := fun r hr => (hw.2 r hr).1
    have hby := strm_byte (fun r hr => (hw.2 r hr).2)
    have hfr : d.frames s = bs.take k := by unfold Dsk.frames; rw [e1]; exact hf
    obtain ⟨Z, hZ⟩ : ∃ Z, Z = flat (bs.take k) := ⟨_, rfl⟩
    have hpre : Z <+: strm rs := by
      have := frs_take hby
      rw [hf, ← hZ] at this
      rw [← this]
      exact List.take_prefix _ _
    have hZl : Z.length ≤ 62 * rs.length := Nat.le_trans hpre.length_le (strm_le rs)
    have hlow : flat (bs.take n) <+: Z := by
      have : bs.take n = bs.take (min n bs.length) := by
        rcases Nat.le_total n bs.length with c | c
        · rw [Nat.min_eq_left c]
        · rw [Nat.min_eq_right c, List.take_length, List.take_of_length_le c]
      rw [this, hZ]
      exact flat_pre2 bs hk1
    have htt : (bs.take k).take k = bs.take k := by rw [List.take_take, Nat.min_self]
    unfold Dsk.opn
    rw [if_neg e2, hfr, ← hZ, e1]
    by_cases hc : rs.flatten = clean Z
    · rw [if_pos hc]
      have e : rs = secs Z := rows_eq h64 (secs_64 Z) hc
      have hd : Hd Z Z rs := hd_of (by rw [e, secs_length]; exact Nat.le_refl _) (fun i hi => by
        have : rs[i] = sec Z i := by subst e; simp [secs]
        rw [this]
        exact hol_sec Z i)
      refine .inr ⟨rfl, k, rs, hk1, hk2, rfl, ⟨?_, by rw [← hZ]; exact hd, hw.1⟩, hl⟩
      rw [htt, ← hZ]
      refine ⟨List.prefix_refl _, ?_⟩
      obtain ⟨_, ⟨f, rd, k1, ⟨r, q1, q2, q3, q4⟩ | ⟨q1, q2, m, ss, q3, _⟩⟩ | ⟨k1, q1, q2⟩⟩ := h
      · rw [hl] at q3
        have q3' : r = rs := q3
        subst q3'
        exact .inl ⟨f, rd, k1, .inl ⟨r, q1, hd, by rw [hl]; rfl, by rw [hl]; simp⟩⟩
      · rw [hl] at q3
        cases q3
      · refine .inr ⟨k1, q1, ?_⟩
        have := hd.len
        rw [q1] at this
        exact List.eq_nil_of_length_eq_zero (by simp [nsec] at this; omega)
    · rw [if_neg hc]
      obtain ⟨rs', a⟩ := h.leave hs hlow (by rw [hZ]; exact flat_pre bs k) (fun i hi => by
        have := hpre.length_le
        have hi2 : i < rs.length := by omega
        obtain ⟨_, hh⟩ := strm_hol rs i h64 (by omega)
        refine ⟨hi2, ?_⟩
        rw [dat_full hpre hi]
        exact hh) (by unfold nsec; omega) hw.1
      rcases a with ⟨a1, a2⟩ | ⟨a1, a2, a3, a4⟩
      · exact .inl ⟨a1, rs', a2⟩
      · refine .inr ⟨a1, k, rs', hk1, hk2, rfl, ⟨?_, by rw [← hZ]; exact a2.now, Nat.le_trans a4 hw.1⟩, a3⟩
        rw [htt, ← hZ]
        exact a2
  · left
    have e : d.opn s = (6, d) := by unfold Dsk.opn; rw [e1, if_pos (by simp)]
    rw [e]
    exact ⟨by simp, rs, h⟩

/-- A quiet disk refuses no opening. -/
theorem Kd.fq (h : Kd s d Zl Zh rs) (hq : Qt d) : Fq s d rs := by
  obtain ⟨_, ⟨f, rd, k1, _⟩ | ⟨k1, rfl, _⟩⟩ := h
  · exact .inl ⟨hq, f, rd, k1⟩
  · exact .inr ⟨hq, k1, rfl⟩
end

end Go.Proofs.YtkdolabhcbjipaaGreat

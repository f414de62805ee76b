/-
  Segments as functions on lists of bytes: the frames that are whole in a stream, where they end, the sectors of a clean file, the stream of sectors.
-/
import Derived.Test.YtkdolabhcbjipaaGreatFpa
namespace Go.Proofs.YtkdolabhcbjipaaGreat
open Go.RowKit
set_option maxRecDepth 100000

/-! ### Frames -/
def wf : Nat → List Int → List (List Int)
  | 0, _ => []
  | k + 1, zs =>
    if zs.length < 4 then []
    else if 65536 < un (zs.take 4) then []
    else if zs.length < 4 + un (zs.take 4) then []
    else (zs.drop 4).take (un (zs.take 4)) :: wf k (zs.drop (4 + un (zs.take 4)))

theorem wf_enough (k : Nat) : ∀ (j : Nat) (zs : List Int), zs.length ≤ k → zs.length ≤ j → wf k zs = wf j zs := by
  induction k with
  | zero =>
    intro j zs h1 _
    cases j with
    | zero => rfl
    | succ j => simp [wf]; omega
  | succ k ih =>
    intro j zs h1 h2
    cases j with
    | zero => simp [wf]; omega
    | succ j =>
      simp only [wf]
      rw [ih j (zs.drop (4 + un (zs.take 4)))]
      · simp; omega
      · simp; omega

/-- The frames that are whole in a stream. -/
def frs (zs : List Int) : List (List Int) := wf zs.length zs

theorem frs_eq (zs : List Int) : frs zs =
    if zs.length < 4 then []
    else if 65536 < un (zs.take 4) then []
    else if zs.length < 4 + un (zs.take 4) then []
    else (zs.drop 4).take (un (zs.take 4)) :: frs (zs.drop (4 + un (zs.take 4))) := by
  unfold frs
  rw [wf_enough zs.length (zs.length + 1) zs (Nat.le_refl _) (Nat.le_succ _)]
  simp only [wf]
  rw [wf_enough zs.length _ (zs.drop (4 + un (zs.take 4))) (by simp) (Nat.le_refl _)]

theorem frs_few {zs : List Int} (h : zs.length < 4) : frs zs = [] := by rw [frs_eq, if_pos h]
theorem frs_nil : frs [] = [] := frs_few (by simp)
theorem frs_long {zs : List Int} (h : 4 ≤ zs.length) (h2 : 65536 < un (zs.take 4)) : frs zs = [] := by rw [frs_eq, if_neg (by omega), if_pos h2]
theorem frs_one {zs : List Int} {m : Nat} (hm : un (zs.take 4) = m) (h1 : m ≤ 65536) (h2 : 4 + m ≤ zs.length) : frs zs = (zs.drop 4).take m :: frs (zs.drop (4 + m)) := by
  subst hm
  rw [frs_eq, if_neg (by omega), if_neg (by omega), if_neg (by omega)]

theorem frs_app (k : Nat) : ∀ (x y : List Int) (bs : List (List Int)) (r : List Int), x.length ≤ k → parse x = some (bs, r) → frs (x ++ y) = bs ++ frs (r ++ y) := by
  induction k with
  | zero =>
    intro x y bs r h hp
    have : x = [] := List.eq_nil_of_length_eq_zero (by omega)
    subst this
    rw [parse_few (by simp)] at hp
    cases hp
    simp
  | succ k ih =>
    intro x y bs r h hp
    by_cases c1 : x.length < 4
    · rw [parse_few c1] at hp
      cases hp
      simp
    · have e : (x ++ y).take 4 = x.take 4 := by rw [List.take_append_of_le_length (by omega)]
      by_cases c2 : 65536 < un (x.take 4)
      · rw [parse_long (by omega) c2] at hp
        cases hp
      · by_cases c3 : x.length < 4 + un (x.take 4)
        · rw [parse_begun (by omega) (by omega) c3] at hp
          cases hp
          simp
        · rw [parse_one (zs := x) rfl (by omega) (by omega)] at hp
          cases hq : parse (x.drop (4 + un (x.take 4))) with
          | none => rw [hq] at hp; cases hp
          | some q =>
            obtain ⟨b2, r2⟩ := q
            rw [hq, ahead_some] at hp
            cases hp
            rw [frs_one (zs := x ++ y) (m := un (x.take 4)) (by rw [e]) (by omega) (by simp; omega)]
            rw [List.drop_append_of_le_length (by omega), List.drop_append_of_le_length (by omega), List.take_append_of_le_length (by simp; omega), ih _ y b2 r (by simp; omega) hq]
            rfl

theorem frs_more {x y : List Int} {bs : List (List Int)} {r : List Int} (h : parse x = some (bs, r)) : frs (x ++ y) = bs ++ frs (r ++ y) := frs_app x.length x y bs r (Nat.le_refl _) h

/-- What is left has no whole frame. -/
theorem parse_idem (k : Nat) : ∀ (x : List Int) (bs : List (List Int)) (r : List Int), x.length ≤ k → parse x = some (bs, r) → parse r = some ([], r) := by
  induction k with
  | zero =>
    intro x bs r h hp
    rw [parse_few (by omega)] at hp
    cases hp
    exact parse_few (by omega)
  | succ k ih =>
    intro x bs r h hp
    by_cases c1 : x.length < 4
    · rw [parse_few c1] at hp
      cases hp
      exact parse_few c1
    · by_cases c2 : 65536 < un (x.take 4)
      · rw [parse_long (by omega) c2] at hp
        cases hp
      · by_cases c3 : x.length < 4 + un (x.take 4)
        · rw [parse_begun (by omega) (by omega) c3] at hp
          cases hp
          exact parse_begun (by omega) (by omega) c3
        · rw [parse_one (zs := x) rfl (by omega) (by omega)] at hp
          cases hq : parse (x.drop (4 + un (x.take 4))) with
          | none => rw [hq] at hp; cases hp
          | some q =>
            obtain ⟨b2, r2⟩ := q
            rw [hq, ahead_some] at hp
            cases hp
            exact ih _ b2 r (by simp; omega) hq

theorem parse_left {x r : List Int} {bs : List (List Int)} (h : parse x = some (bs, r)) : parse r = some ([], r) := parse_idem x.length x bs r (Nat.le_refl _) h

/-- Of bytes with no whole frame. -/
theorem frs_left {r : List Int} (h : parse r = some ([], r)) : frs r = [] := by
  by_cases c1 : r.length < 4
  · exact frs_few c1
  · by_cases c2 : 65536 < un (r.take 4)
    · exact frs_long (by omega) c2
    · by_cases c3 : r.length < 4 + un (r.take 4)
      · rw [frs_eq, if_neg (by omega), if_neg (by omega), if_pos c3]
      · rw [parse_one (zs := r) rfl (by omega) (by omega)] at h
        cases hq : parse (r.drop (4 + un (r.take 4))) with
        | none => rw [hq] at h; cases h
        | some q => rw [hq] at h; obtain ⟨b2, r2⟩ := q; rw [ahead_some] at h; cases h

theorem frs_whole {x r : List Int} {bs : List (List Int)} (h : parse x = some (bs, r)) : frs x = bs := by
  have := frs_more (y := []) h
  rw [List.append_nil, List.append_nil, frs_left (parse_left h), List.append_nil] at this
  exact this

/-- A length that may not be, in a short piece: no frame is whole there, whatever comes behind. -/
theorem frs_bad {r p : List Int} (t : List Int) (h : parse r = some ([], r)) (hp : p.length ≤ 4) (hb : parse (r ++ p) = none) : frs (r ++ p ++ t) = [] := by
  have hl : (r ++ p).length = r.length + p.length := List.length_append
  by_cases c1 : (r ++ p).length < 4
  · rw [parse_few c1] at hb; cases hb
  · by_cases c2 : 65536 < un ((r ++ p).take 4)
    · exact frs_long (by simp; omega) (by rw [List.take_append_of_le_length (by omega)]; exact c2)
    · by_cases c3 : (r ++ p).length < 4 + un ((r ++ p).take 4)
      · rw [parse_begun (by omega) (by omega) c3] at hb; cases hb
      · rw [parse_one (zs := r ++ p) rfl (by omega) (by omega)] at hb
        exfalso
        have hs : ((r ++ p).drop (4 + un ((r ++ p).take 4))).length < 4 := by
          rw [List.length_drop, hl]
          by_cases c4 : r.length < 4
          · omega
          · have e : (r ++ p).take 4 = r.take 4 := by rw [List.take_append_of_le_length (by omega)]
            rw [e]
            rw [e] at c2 c3
            by_cases c5 : r.length < 4 + un (r.take 4)
            · omega
            · rw [parse_one (zs := r) rfl (by omega) (by omega)] at h
              cases hq : parse (r.drop (4 + un (r.take 4))) with
              | none => rw [hq] at h; cases h
              | some q => rw [hq] at h; obtain ⟨b2, r2⟩ := q; rw [ahead_some] at h; cases h
        rw [parse_few hs] at hb
        cases hb

theorem flat_app (x y : List (List Int)) : flat (x ++ y) = flat x ++ flat y := by simp [flat]
theorem flat_nil : flat [] = [] := rfl
theorem flat_cons (b : List Int) (bs : List (List Int)) : flat (b :: bs) = fr b ++ flat bs := by simp [flat]

theorem fr_byte {b : List Int} (h : ∀ z ∈ b, 0 ≤ z ∧ z ≤ 255) : ∀ z ∈ fr b, 0 ≤ z ∧ z ≤ 255 := fun z hz => by
  rcases List.mem_append.1 hz with hz | hz
  · exact be_byte 4 b.length z hz
  · exact h z hz

theorem flat_byte {bs : List (List Int)} (h : ∀ b ∈ bs, ∀ z ∈ b, 0 ≤ z ∧ z ≤ 255) : ∀ z ∈ flat bs, 0 ≤ z ∧ z ≤ 255 := by
  induction bs with
  | nil => simp [flat]
  | cons b bs ih =>
    rw [flat_cons]
    intro z hz
    rcases List.mem_append.1 hz with hz | hz
    · exact fr_byte (h b (by simp)) z hz
    · exact ih (fun c hc => h c (by simp [hc])) z hz

theorem be_un (k : Nat) : ∀ l : List Int, l.length = k → (∀ z ∈ l, 0 ≤ z ∧ z ≤ 255) → be k (un l) = l := by
  induction k with
  | zero =>
    intro l hl _
    have : l = [] := List.eq_nil_of_length_eq_zero hl
    subst this
    rfl
  | succ k ih =>
    intro l hl hb
    have hne : l ≠ [] := by intro e; subst e; cases hl
    obtain ⟨m, z, rfl⟩ : ∃ m z, l = m ++ [z] := ⟨l.dropLast, l.getLast hne, (List.dropLast_concat_getLast hne).symm⟩
    have hz := hb z (by simp)
    have hm := ih m (by simpa using hl) (fun y hy => hb y (by simp [hy]))
    rw [un_snoc]
    show be k ((un m * 256 + z.toNat) / 256) ++ [(((un m * 256 + z.toNat) % 256 : Nat) : Int)] = m ++ [z]
    have e1 : (un m * 256 + z.toNat) / 256 = un m := by omega
    have e2 : (((un m * 256 + z.toNat) % 256 : Nat) : Int) = z := by omega
    rw [e1, e2, hm]

/-- The frames of a stream are its begin. -/
theorem frs_flat (k : Nat) : ∀ (zs : List Int), zs.length ≤ k → (∀ z ∈ zs, 0 ≤ z ∧ z ≤ 255) → zs.take (flat (frs zs)).length = flat (frs zs) ∧ (flat (frs zs)).length ≤ zs.length ∧ (∀ b ∈ frs zs, b.length ≤ 65536) ∧ (∀ b ∈ frs zs, ∀ z ∈ b, 0 ≤ z ∧ z ≤ 255) := by
  induction k with
  | zero =>
    intro zs h _
    have : zs = [] := List.eq_nil_of_length_eq_zero (by omega)
    subst this
    simp [frs_nil, flat]
  | succ k ih =>
    intro zs h hb
    by_cases c1 : zs.length < 4
    · simp [frs_few c1, flat]
    · by_cases c2 : 65536 < un (zs.take 4)
      · simp [frs_long (by omega) c2, flat]
      · by_cases c3 : zs.length < 4 + un (zs.take 4)
        · rw [frs_eq, if_neg (by omega), if_neg (by omega), if_pos c3]
          simp [flat]
        · obtain ⟨m, hm⟩ : ∃ m, m = un (zs.take 4) := ⟨_, rfl⟩
          rw [← hm] at c2 c3
          rw [frs_one hm.symm (by omega) (by omega)]
          obtain ⟨i1, i2, i3, i4⟩ := ih (zs.drop (4 + m)) (by simp; omega) (fun z hz => hb z (List.mem_of_mem_drop hz))
          have hbl : ((zs.drop 4).take m).length = m := by simp; omega
          have hfr : fr ((zs.drop 4).take m) = zs.take (4 + m) := by
            rw [fr, hbl, hm, be_un 4 (zs.take 4) (by simp; omega) (fun z hz => hb z (List.mem_of_mem_take hz)), ← hm]
            rw [List.take_add]
          have hl : (flat ((zs.drop 4).take m :: frs (zs.drop (4 + m)))).length = 4 + m + (flat (frs (zs.drop (4 + m)))).length := by
            rw [flat_cons, List.length_append, fr_length, hbl]
          rw [List.length_drop] at i2
          refine ⟨?_, by rw [hl]; omega, ?_, ?_⟩
          · rw [hl, flat_cons, hfr, List.take_add, i1]
          · intro b hx
            rcases List.mem_cons.1 hx with rfl | hx
            · omega
            · exact i3 b hx
          · intro b hx
            rcases List.mem_cons.1 hx with rfl | hx
            · exact fun z hz => hb z (List.mem_of_mem_drop (List.mem_of_mem_take hz))
            · exact i4 b hx

section
variable {zs : List Int} (hb : ∀ z ∈ zs, 0 ≤ z ∧ z ≤ 255)
theorem frs_take (hb : ∀ z ∈ zs, 0 ≤ z ∧ z ≤ 255) : zs.take (flat (frs zs)).length = flat (frs zs) := (frs_flat _ zs (Nat.le_refl _) hb).1
theorem frs_le (hb : ∀ z ∈ zs, 0 ≤ z ∧ z ≤ 255) : (flat (frs zs)).length ≤ zs.length := (frs_flat _ zs (Nat.le_refl _) hb).2.1
theorem frs_short (hb : ∀ z ∈ zs, 0 ≤ z ∧ z ≤ 255) : ∀ b ∈ frs zs, b.length ≤ 65536 := (frs_flat _ zs (Nat.le_refl _) hb).2.2.1
theorem frs_byte (hb : ∀ z ∈ zs, 0 ≤ z ∧ z ≤ 255) : ∀ b ∈ frs zs, ∀ z ∈ b, 0 ≤ z ∧ z ≤ 255 := (frs_flat _ zs (Nat.le_refl _) hb).2.2.2
end

theorem frs_of_flat {bs : List (List Int)} (h : ∀ b ∈ bs, b.length ≤ 65536) (t : List Int) : frs (flat bs ++ t) = bs ++ frs t := by
  have := frs_more (y := t) (parse_flat bs h [] (by simp))
  simpa using this

/-! ### Where frames end -/
def eds (bs : List (List Int)) : List Nat := (List.range bs.length).map fun i => (flat (bs.take (i + 1))).length

theorem eds_length (bs : List (List Int)) : (eds bs).length = bs.length := by simp [eds]
theorem eds_snoc (bs : List (List Int)) (b : List Int) : eds (bs ++ [b]) = eds bs ++ [(flat (bs ++ [b])).length] := by
  unfold eds
  rw [List.length_append, List.length_singleton, List.range_succ, List.map_append]
  congr 1
  · refine List.map_congr_left fun i hi => ?_
    rw [List.take_append_of_le_length (by have := List.mem_range.1 hi; omega)]
  · simp only [List.map_cons, List.map_nil]
    rw [List.take_of_length_le (by simp)]
theorem eds_get (bs : List (List Int)) (i : Nat) (h : i < bs.length) : (eds bs)[i]? = some (flat (bs.take (i + 1))).length := by
  simp [eds, h]
theorem eds_take (bs : List (List Int)) (n : Nat) : (eds bs).take n = eds (bs.take n) := by
  unfold eds
  rw [← List.map_take, List.take_range, List.length_take]
  refine List.map_congr_left fun i hi => ?_
  have := List.mem_range.1 hi
  rw [List.take_take]
  congr 3
  omega
/-- Where the first n end. -/
def edAt (bs : List (List Int)) (n : Nat) : Nat := (flat (bs.take n)).length
theorem edAt_le (bs : List (List Int)) (n : Nat) : edAt bs n ≤ (flat bs).length := by
  have := flat_app (bs.take n) (bs.drop n)
  rw [List.take_append_drop] at this
  rw [this]
  simp [edAt]
theorem flat_take (bs : List (List Int)) (n : Nat) : (flat bs).take (edAt bs n) = flat (bs.take n) := by
  have := flat_app (bs.take n) (bs.drop n)
  rw [List.take_append_drop] at this
  rw [this, edAt, List.take_left' rfl]
theorem edAt_succ (bs : List (List Int)) (i : Nat) (h : i < bs.length) : edAt bs (i + 1) = edAt bs i + 4 + bs[i].length := by
  unfold edAt
  rw [List.take_add_one, List.getElem?_eq_getElem h]
  simp only [Option.toList_some]
  rw [flat_snoc, List.length_append, fr_length]
  omega
/-- The body of a frame, in the stream. -/
theorem flat_body (bs : List (List Int)) (i : Nat) (h : i < bs.length) : ((flat bs).drop (edAt bs i + 4)).take (bs[i].length) = bs[i] := by
  have e : bs = bs.take i ++ bs[i] :: bs.drop (i + 1) := by
    rw [← List.drop_eq_getElem_cons h, List.take_append_drop]
  have f : flat bs = flat (bs.take i) ++ (fr bs[i] ++ flat (bs.drop (i + 1))) := by
    conv => lhs; rw [e]
    rw [flat_app, flat_cons]
  rw [f, ← List.drop_drop, List.drop_left' (show (flat (bs.take i)).length = edAt bs i from rfl), fr, List.append_assoc, List.drop_left' (be_length 4 _), List.take_left' rfl]

/-! ### Sectors -/
/-- How many sectors a stream of so many bytes needs. -/
def nsec (n : Nat) : Nat := (n + 61) / 62
/-- A sector's data. -/
def dat (zs : List Int) (i : Nat) : List Int := (zs.drop (62 * i)).take 62
/-- The sector of a clean file at a place. -/
def sec (zs : List Int) (i : Nat) : List Int := ((dat zs i).length : Int) :: 0 :: (dat zs i ++ List.replicate (62 - (dat zs i).length) 0)
/-- The sectors of a clean file. -/
def secs (zs : List Int) : List (List Int) := (List.range (nsec zs.length)).map (sec zs)

theorem dat_length (zs : List Int) (i : Nat) : (dat zs i).length = min 62 (zs.length - 62 * i) := by simp [dat]
theorem dat_le (zs : List Int) (i : Nat) : (dat zs i).length ≤ 62 := by rw [dat_length]; omega
theorem sec_length (zs : List Int) (i : Nat) : (sec zs i).length = 64 := by
  have := dat_le zs i
  simp only [sec, List.length_cons, List.length_append, List.length_replicate]
  omega
theorem sec_byte {zs : List Int} (hb : ∀ z ∈ zs, 0 ≤ z ∧ z ≤ 255) (i : Nat) : ∀ z ∈ sec zs i, 0 ≤ z ∧ z ≤ 255 := by
  have := dat_le zs i
  intro z hz
  rcases List.mem_cons.1 hz with rfl | hz
  · omega
  · rcases List.mem_cons.1 hz with rfl | hz
    · omega
    · rcases List.mem_append.1 hz with hz | hz
      · exact hb z (List.mem_of_mem_drop (List.mem_of_mem_take hz))
      · rw [(List.mem_replicate.1 hz).2]; omega
theorem secs_length (zs : List Int) : (secs zs).length = nsec zs.length := by simp [secs]
theorem secs_get (zs : List Int) (i : Nat) (h : i < nsec zs.length) : (secs zs)[i]? = some (sec zs i) := by simp [secs, h]

/-! ### The stream of a file -/
/-- How far a sector is filled. -/
def fil (s : List Int) : Nat := if 62 < s.headD 0 then 0 else (s.headD 0).toNat
def strm : List (List Int) → List Int
  | [] => []
  | s :: rs => (s.drop 2).take (fil s) ++ if fil s < 62 then [] else strm rs

theorem strm_le (rs : List (List Int)) : (strm rs).length ≤ 62 * rs.length := by
  induction rs with
  | nil => simp [strm]
  | cons s rs ih =>
    have : fil s ≤ 62 := by unfold fil; split <;> omega
    simp only [strm, List.length_append, List.length_take, List.length_cons]
    split
    · simp; omega
    · omega
theorem strm_byte {rs : List (List Int)} (h : ∀ r ∈ rs, ∀ z ∈ r, 0 ≤ z ∧ z ≤ 255) : ∀ z ∈ strm rs, 0 ≤ z ∧ z ≤ 255 := by
  induction rs with
  | nil => simp [strm]
  | cons s rs ih =>
    intro z hz
    simp only [strm] at hz
    rcases List.mem_append.1 hz with hz | hz
    · exact h s (by simp) z (List.mem_of_mem_drop (List.mem_of_mem_take hz))
    · split at hz
      · simp at hz
      · exact ih (fun r hr => h r (by simp [hr])) z hz

theorem fil_sec (zs : List Int) (i : Nat) : fil (sec zs i) = (dat zs i).length := by
  have := dat_le zs i
  have e : (sec zs i).headD 0 = ((dat zs i).length : Int) := rfl
  unfold fil
  rw [e, if_neg (by omega)]
  simp
theorem sec_data (zs : List Int) (i : Nat) : ((sec zs i).drop 2).take (fil (sec zs i)) = dat zs i := by
  rw [fil_sec]
  simp [sec]

end Go.Proofs.YtkdolabhcbjipaaGreat

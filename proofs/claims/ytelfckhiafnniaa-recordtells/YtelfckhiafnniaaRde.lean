/-
  What Decode of the program's record does.
-/
import Derived.Test.YtelfckhiafnniaaRbo
import Derived.Test.YtelfckhiafnniaaRee
namespace Go.Proofs.Ytelfckhiafnniaa
open Go.RowKit

theorem be_un (k : Nat) : ∀ l : List Int, l.length = k → (∀ z ∈ l, 0 ≤ z ∧ z ≤ 255) → be k (un l) = l := by
  induction k with
  | zero =>
    intro l hl _
    have : l = [] := List.eq_nil_of_length_eq_zero hl
    subst this
    rfl
  | succ k ih =>
    intro l hl hb
    have hne : l ≠ [] := by intro e; subst e; cases hl
    obtain ⟨m, z, rfl⟩ : ∃ m z, l = m ++ [z] := ⟨l.dropLast, l.getLast hne, (List.dropLast_concat_getLast hne).symm⟩
    have hz := hb z (by simp)
    have hm := ih m (by simpa using hl) (fun y hy => hb y (by simp [hy]))
    rw [un_snoc]
    show be k ((un m * 256 + z.toNat) / 256) ++ [(((un m * 256 + z.toNat) % 256 : Nat) : Int)] = m ++ [z]
    have e1 : (un m * 256 + z.toNat) / 256 = un m := by omega
    have e2 : (((un m * 256 + z.toNat) % 256 : Nat) : Int) = z := by omega
    rw [e1, e2, hm]

/-- What Decode tells: the batch whose bytes these are; else nothing. -/
def Dec (zs : List Int) (base : Int) (b : Bt) (er : Int) : Prop :=
  (er = 0 ∧ zs.length ≤ 60000 ∧ I64 base ∧ Right b ∧ Bd b ∧ zs = enc base b) ∨
  (er = 50 ∧ base = 0 ∧ b = ⟨0, 0, 0, []⟩ ∧ ∀ base b, I64 base → Right b → Bd b → zs.length ≤ 60000 → zs ≠ enc base b)

theorem Dec.eq {zs : List Int} {base base' : Int} {b b' : Bt} {er er' : Int} (h : Dec zs base b er) (h' : Dec zs base' b' er') : base = base' ∧ b = b' ∧ er = er' := by
  rcases h with ⟨h1, h2, h3, h4, h5, h6⟩ | ⟨h1, h2, h3, h4⟩
  · rcases h' with ⟨k1, k2, k3, k4, k5, k6⟩ | ⟨k1, k2, k3, k4⟩
    · obtain ⟨e1, e2⟩ := enc_inj h3 k3 (h6.symm.trans k6)
      exact ⟨e1, e2, h1.trans k1.symm⟩
    · exact absurd h6 (k4 base b h3 h4 h5 h2)
  · rcases h' with ⟨k1, k2, k3, k4, k5, k6⟩ | ⟨k1, k2, k3, k4⟩
    · exact absurd k6 (h4 base' b' k3 k4 k5 k2)
    · exact ⟨h2.trans k2.symm, h3.trans k3.symm, h1.trans k1.symm⟩

theorem enc_drop (base : Int) (b : Bt) : (enc base b).drop 12 = body b := by
  unfold enc
  rw [← List.append_assoc, List.drop_left' (by simp [be_length])]

theorem enc_sum (base : Int) (b : Bt) : ((enc base b).drop 8).take 4 = be 4 (more 0 (body b)) := by
  unfold enc
  rw [List.drop_left' (be_length _ _), List.take_left' (be_length _ _)]

theorem enc_base (base : Int) (b : Bt) : (enc base b).take 8 = be 8 (ub base) := by
  unfold enc
  rw [List.take_left' (be_length _ _)]

theorem wrap_back (x : Nat) (h : x < 18446744073709551616) : I64 (IntKind.i64.wrap (x : Int)) ∧ ub (IntKind.i64.wrap (x : Int)) = x := by
  rw [IntKind.wrap_i64]
  unfold I64 ub
  omega

/-- Bytes that say themselves. -/
theorem enc_of {zs : List Int} (hb : ∀ z ∈ zs, 0 ≤ z ∧ z ≤ 255) (h12 : 12 ≤ zs.length) {b : Bt} (hbody : body b = zs.drop 12) (hsum : un ((zs.drop 8).take 4) = more 0 (zs.drop 12)) :
    zs = enc (IntKind.i64.wrap (un (zs.take 8) : Int)) b := by
  have hlt := un_lt (zs.take 8) (take_byte hb _)
  rw [List.length_take, Nat.min_eq_left (by omega)] at hlt
  unfold enc
  rw [(wrap_back _ (by omega)).2, hbody, be_un 8 _ (by simp; omega) (take_byte hb _), ← hsum, be_un 4 _ (by simp; omega) (take_byte (drop_byte hb _) _)]
  have e : zs.drop 12 = (zs.drop 8).drop 4 := by rw [List.drop_drop]
  rw [e, List.take_append_drop, List.take_append_drop]

theorem onum_yes {zs : List Int} {p k : Nat} (h : p + k ≤ zs.length) : onum zs p k = un ((zs.drop p).take k) := by
  unfold onum
  rw [if_pos (by simp [wit]; omega), Int.toNat_natCast]

/-- The result variable written. -/
abbrev put4 (W : World) (g : Nat) (x0 x1 x2 x3 : Value) : World := (((W.setCell ⟨g, 0, none⟩ x0).setCell ⟨g, 1, none⟩ x1).setCell ⟨g, 2, none⟩ x2).setCell ⟨g, 3, none⟩ x3

theorem below_put4 {n : Nat} {w W : World} (h : Below n w W) {g : Nat} (hg : n ≤ g) (x0 x1 x2 x3 : Value) : Below n w (put4 W g x0 x1 x2 x3) :=
  (((h.setCell (p := ⟨g, 0, none⟩) hg _).setCell (p := ⟨g, 1, none⟩) hg _).setCell (p := ⟨g, 2, none⟩) hg _).setCell (p := ⟨g, 3, none⟩) hg _

theorem LL.put4 {W : World} {base g : Nat} {u : Value} {rs : List (Value × List Int)} (h : LL W base u rs) (hg : g < base) (x0 x1 x2 x3 : Value) : LL (put4 W g x0 x1 x2 x3) base u rs := by
  have st : ∀ (W : World) (i : Nat) (x : Value), LL W base u rs → LL (W.setCell ⟨g, i, none⟩ x) base u rs := by
    intro W i x h
    refine h.bar (Bar.set W g i x) (fun b hb hh => ?_) (fun r hr b hb hh => ?_)
    · have := own_from h.own hb
      omega
    · have := own_from (h.row r hr) hb
      omega
  exact st _ 3 _ (st _ 2 _ (st _ 1 _ (st _ 0 _ h)))

/-- What is asked of Decode. -/
def DecP (w : World) (zs : List Int) (e : Ending) (w' : World) : Prop := Below w.heap.size w w' ∧ ∃ (base : Int) (b : Bt) (er : Int) (v : Value) (rs : List (Value × List Int)), e = .returned (.tuple #[.int .i64 base, bv b.pid b.ep b.first v, .int .i64 er]) ∧ Dec zs base b er ∧ LL w' w.heap.size v rs ∧ rs.map (·.2) = b.recs

theorem zero_dec {w : World} {n : Nat} {W : World} {zs : List Int} (hb : Below w.heap.size w W) (hz : zs.length = n) (h : ∀ base b, I64 base → Right b → Bd b → n ≤ 60000 → zs ≠ enc base b) :
    DecP w zs (.returned (.tuple #[.int .i64 0, .agg #[.int .i64 0, .int .i64 0, .int .i64 0, .slice none 0 0], .int .i64 50])) (put4 W w.heap.size (.int .i64 0) (.int .i64 0) (.int .i64 0) (.slice none 0 0)) :=
  ⟨below_put4 hb (Nat.le_refl _) _ _ _ _, 0, ⟨0, 0, 0, []⟩, 50, .slice none 0 0, [], rfl, .inr ⟨rfl, rfl, rfl, by rw [hz]; exact h⟩, LL.nil _ _, rfl⟩

set_option maxRecDepth 100000 in
set_option maxHeartbeats 4000000 in
theorem decode_any (a : Option Addr) (n cap : Nat) (zs : List Int) (w : World) (hB : Bs w a n cap zs) :
    Calls Try.prog 10 #[.slice a n cap] w (DecP w zs) := by
  have hlen := hB.len
  have hle := hB.le
  have hre := hB.reach
  have hb0 := fresh w (.cells #[.int .i64 0, .int .i64 0, .int .i64 0, .slice none 0 0] 28)
  have hB0 := hB.keep hb0
  have C1 := u64_any a n cap zs 0 _ hB0
  have C2 := u32_any a n cap zs 8 _ hB0
  obtain ⟨W, hW⟩ : ∃ W, W = w.alloc (.cells #[.int .i64 0, .int .i64 0, .int .i64 0, .slice none 0 0] 28) := ⟨_, rfl⟩
  have hres : W.heap[w.heap.size]? = some (.cells #[.int .i64 0, .int .i64 0, .int .i64 0, .slice none 0 0] 28 (0, 0)) := by rw [hW]; exact heap_alloc_new w _
  have hsz : W.heap.size = w.heap.size + 1 := by rw [hW]; simp
  rw [← hW] at hb0 hB0 C1 C2
  have hback : ∀ (w1 : World), Below W.heap.size W w1 → Below w.heap.size w w1 := fun w1 h => hb0.trans (h.mono (by omega))
  by_cases hshort : n < 12
  · have hno : ∀ base b, I64 base → Right b → Bd b → n ≤ 60000 → zs ≠ enc base b := by
      intro base b _ hr hd _ e
      have := congrArg List.length e
      rw [enc_length] at this
      have := body_length hr hd
      omega
    have hw : wit n 8 4 = false := by simp [wit]; omega
    rw [hw] at C2
    go_enter Try.func10, Try.ntmps10
    go_wp2_with fail
    rw [← hW]
    clear hW
    refine C1.mono ?_
    rintro e w1 ⟨rfl, hw1⟩
    subst hw1
    go_wp2_with fail
    refine C2.mono ?_
    rintro e w2 ⟨rfl, hw2⟩
    subst hw2
    obtain ⟨r0, r1, r2, r3, g0, g1, g2, g3⟩ := row4 hres
    go_wp2_with fail
    refine bodyPost_ret (v := .tuple #[.int .i64 0, .agg #[.int .i64 0, .int .i64 0, .int .i64 0, .slice none 0 0], .int .i64 50]) (by simp [results, Try.results10, go_sem, r0, r1, r2, r3]) rfl ?_
    exact zero_dec hb0 hlen hno
  · have hw : wit n 8 4 = true := by simp [wit]; omega
    rw [hw] at C2
    have HY : Hid (onum zs 8 4 = un ((zs.drop 8).take 4)) := hide (onum_yes (p := 8) (k := 4) (by omega))
    have HX : Hid (onum zs 0 8 = un (zs.take 8)) := hide (by have := onum_yes (zs := zs) (p := 0) (k := 8) (by omega); simpa using this)
    have hYlt := onum_lt hB.byte 8 4
    generalize wit n 0 8 = t0 at C1
    generalize onum zs 0 8 = X at C1 HX
    generalize onum zs 8 4 = Y at C2 HY hYlt
    obtain ⟨B, O, rfl, _⟩ := hB.lies (by omega)
    obtain ⟨r0, r1, r2, r3, g0, g1, g2, g3⟩ := row4 hres
    by_cases hlong : 60000 < n
    · go_enter Try.func10, Try.ntmps10
      go_wp2_with fail
      rw [← hW]
      clear hW
      refine C1.mono ?_
      rintro e w1 ⟨rfl, hw1⟩
      subst hw1
      go_wp2_with fail
      refine C2.mono ?_
      rintro e w2 ⟨rfl, hw2⟩
      subst hw2
      go_wp2_with fail
      refine bodyPost_ret (v := .tuple #[.int .i64 0, .agg #[.int .i64 0, .int .i64 0, .int .i64 0, .slice none 0 0], .int .i64 50]) (by simp [results, Try.results10, go_sem, r0, r1, r2, r3]) rfl ?_
      exact zero_dec hb0 hlen (fun _ _ _ _ _ h => by omega)
    · have hP : ∃ O', Bs W (some ⟨B, O', none⟩) (n - 12) (cap - 12) (zs.drop 12) ∧ (if cap = 12 then O' = O else O' = O + 12) := by
        by_cases c12 : cap = 12
        · have e : zs.drop 12 = [] := List.drop_eq_nil_of_le (by omega)
          rw [e, show n - 12 = 0 by omega]
          exact ⟨O, Bs.zero W _ _ (by omega), by rw [if_pos c12]⟩
        · exact ⟨O + 12, hB0.drop 12 (by omega), by rw [if_neg c12]⟩
      obtain ⟨O', hP, hif⟩ := hP
      have CC := crc_any _ _ _ _ W hP
      have hml := more_lt 0 (zs.drop 12)
      have HM : Hid (∀ M, M = more 0 (zs.drop 12) → Y ≠ M → ∀ base b, I64 base → Right b → Bd b → n ≤ 60000 → zs ≠ enc base b) := hide (by
        intro M hM hne base b _ _ _ _ e
        apply hne
        rw [hM, HY.out, e, enc_sum, enc_drop, un_be, Nat.mod_eq_of_lt (by have := more_lt 0 (body b); omega)])
      obtain ⟨M, hM⟩ : ∃ M, M = more 0 (zs.drop 12) := ⟨_, rfl⟩
      rw [← hM] at CC hml
      have HMM := hide hM
      clear hM
      have hgo : ∀ (w3 : World), Below W.heap.size W w3 → w3.cell? ⟨w.heap.size, 0, none⟩ = some (.int .i64 0) ∧ w3.cell? ⟨w.heap.size, 1, none⟩ = some (.int .i64 0) ∧ w3.cell? ⟨w.heap.size, 2, none⟩ = some (.int .i64 0) ∧ w3.cell? ⟨w.heap.size, 3, none⟩ = some (.slice none 0 0) ∧
          w3.frozen? ⟨w.heap.size, 0, none⟩ = false ∧ w3.frozen? ⟨w.heap.size, 1, none⟩ = false ∧ w3.frozen? ⟨w.heap.size, 2, none⟩ = false ∧ w3.frozen? ⟨w.heap.size, 3, none⟩ = false := fun w3 h => row4 ((h.block _ (by omega)).trans hres)
      have HGO := hide hgo
      clear hgo
      have HW := hide hW
      clear hW r0 r1 r2 r3 g0 g1 g2 g3
      by_cases hsum : Y = M
      · have hne : ((Y : Int) != (M : Int)) = false := by simp [hsum]
        have CB := fun w3 (h : Below W.heap.size W w3) => batch_any B O' (n - 12) (cap - 12) (zs.drop 12) w3 (hP.keep h) (by omega)
        have HCB := hide CB
        have HNOT : Hid (left (zs.drop 12) ≠ some [] → ∀ base b, I64 base → Right b → Bd b → n ≤ 60000 → zs ≠ enc base b) := hide (by
          intro hl base b _ hr hd _ e
          exact left_not hl hr hd (by rw [e, enc_drop]))
        have HFIN : Hid (∀ (w3 w4 : World) {va : Option Addr} {vn vc : Nat} {rs : List (Value × List Int)}, Below W.heap.size W w3 → Below w3.heap.size w3 w4 → left (zs.drop 12) = some [] → LL w4 w3.heap.size (.slice va vn vc) rs → rs.map (·.2) = (bt (zs.drop 12)).recs →
            DecP w zs (.returned (.tuple #[.int .i64 (IntKind.i64.wrap (X : Int)), .agg #[.int .i64 (bt (zs.drop 12)).pid, .int .i64 (bt (zs.drop 12)).ep, .int .i64 (bt (zs.drop 12)).first, .slice va vn vc], .int .i64 0]))
              ((put4 (w4.alloc (.cells #[.int .i64 (bt (zs.drop 12)).pid, .int .i64 (bt (zs.drop 12)).ep, .int .i64 (bt (zs.drop 12)).first, .slice va vn vc] 28)) w.heap.size (.int .i64 (bt (zs.drop 12)).pid) (.int .i64 (bt (zs.drop 12)).ep) (.int .i64 (bt (zs.drop 12)).first) (.slice va vn vc)).drew)) := hide (by
          intro w3 w4 va vn vc rs hb3 hb4 hl hL hr
          have hb4' : Below W.heap.size W w4 := hb3.trans (hb4.mono hb3.size)
          obtain ⟨k1, k2, k3⟩ := left_is (drop_byte hB.byte 12) hl
          have hs3 := hb3.size
          have hXlt := un_lt (zs.take 8) (take_byte hB.byte _)
          rw [List.length_take, Nat.min_eq_left (by omega)] at hXlt
          refine ⟨(below_put4 (hback _ (hb4'.alloc hb4'.size _)) (Nat.le_refl _) _ _ _ _).drew, _, bt (zs.drop 12), 0, .slice va vn vc, rs, rfl, .inl ⟨rfl, by omega, ?_, k2, k3, ?_⟩, (((hL.keep (fresh w4 _)).put4 (by omega) _ _ _ _).keep ((Below.refl _ _).drew)).less (by omega), hr⟩
          · rw [HX.out]
            exact (wrap_back _ (by omega)).1
          · rw [HX.out]
            exact enc_of hB.byte (by omega) k1 (by rw [← HY.out, ← HMM.out, hsum]))
        clear CB
        by_cases c12 : cap = 12
        · rw [if_pos c12] at hif
          subst hif
          subst c12
          obtain rfl : n = 12 := by omega
          simp only [Nat.sub_self] at HCB CC
          go_enter Try.func10, Try.ntmps10
          go_wp2_with fail
          rw [← HW.out]
          refine C1.mono ?_
          rintro e w1 ⟨rfl, hw1⟩
          subst hw1
          go_wp2_with fail
          refine C2.mono ?_
          rintro e w2 ⟨rfl, hw2⟩
          subst hw2
          go_wp2_with fail
          refine CC.mono ?_
          rintro e w3 ⟨rfl, hb3⟩
          obtain ⟨r0, r1, r2, r3, g0, g1, g2, g3⟩ := HGO.out w3 hb3
          go_wp2_with fail
          refine (HCB.out w3 hb3).mono ?_
          rintro e w4 ⟨hb4, ⟨hleft, v4, rs4, rfl, hL4, hr4⟩ | ⟨hleft, rfl⟩⟩
          · obtain ⟨va, vc, hv4⟩ := own_val hL4.own
            generalize rs4.length = vn at hv4
            subst hv4
            have hb4' : Below w2.heap.size w2 w4 := hb3.trans (hb4.mono hb3.size)
            have HF := hide (HFIN.out w3 w4 hb3 hb4 hleft hL4 hr4)
            clear hL4 hr4 hleft
            generalize bt (zs.drop 12) = b4 at HF
            obtain ⟨r0, r1, r2, r3, g0, g1, g2, g3⟩ := HGO.out _ (hb4'.alloc hb4'.size (.cells #[.int .i64 b4.pid, .int .i64 b4.ep, .int .i64 b4.first, .slice va vn vc] 28))
            go_wp2_with fail
            go_region
            all_goals
              go_wp2_with fail
              refine bodyPost_ret (v := .tuple #[.int .i64 (IntKind.i64.wrap (X : Int)), .agg #[.int .i64 b4.pid, .int .i64 b4.ep, .int .i64 b4.first, .slice va vn vc], .int .i64 0]) (by simp [results, Try.results10, go_sem, r0, r1, r2, r3]; exact (IntWalk.i64_left _).symm) rfl ?_
              exact HF.out
          · have hb4' : Below w2.heap.size w2 w4 := hb3.trans (hb4.mono hb3.size)
            obtain ⟨r0, r1, r2, r3, g0, g1, g2, g3⟩ := HGO.out _ (hb4'.alloc hb4'.size (.cells #[.int .i64 0, .int .i64 0, .int .i64 0, .slice none 0 0] 28))
            have HZ := hide (zero_dec (hback _ (hb4'.alloc hb4'.size (.cells #[.int .i64 0, .int .i64 0, .int .i64 0, .slice none 0 0] 28))) hlen (HNOT.out hleft))
            go_wp2_with fail
            refine bodyPost_ret (v := .tuple #[.int .i64 0, .agg #[.int .i64 0, .int .i64 0, .int .i64 0, .slice none 0 0], .int .i64 50]) (by simp [results, Try.results10, go_sem, r0, r1, r2, r3]) rfl ?_
            exact HZ.out
        · rw [if_neg c12] at hif
          subst hif
          go_enter Try.func10, Try.ntmps10
          go_wp2_with fail
          rw [← HW.out]
          refine C1.mono ?_
          rintro e w1 ⟨rfl, hw1⟩
          subst hw1
          go_wp2_with fail
          refine C2.mono ?_
          rintro e w2 ⟨rfl, hw2⟩
          subst hw2
          go_wp2_with fail
          refine CC.mono ?_
          rintro e w3 ⟨rfl, hb3⟩
          obtain ⟨r0, r1, r2, r3, g0, g1, g2, g3⟩ := HGO.out w3 hb3
          go_wp2_with fail
          refine (HCB.out w3 hb3).mono ?_
          rintro e w4 ⟨hb4, ⟨hleft, v4, rs4, rfl, hL4, hr4⟩ | ⟨hleft, rfl⟩⟩
          · obtain ⟨va, vc, hv4⟩ := own_val hL4.own
            generalize rs4.length = vn at hv4
            subst hv4
            have hb4' : Below w2.heap.size w2 w4 := hb3.trans (hb4.mono hb3.size)
            have HF := hide (HFIN.out w3 w4 hb3 hb4 hleft hL4 hr4)
            clear hL4 hr4 hleft
            generalize bt (zs.drop 12) = b4 at HF
            obtain ⟨r0, r1, r2, r3, g0, g1, g2, g3⟩ := HGO.out _ (hb4'.alloc hb4'.size (.cells #[.int .i64 b4.pid, .int .i64 b4.ep, .int .i64 b4.first, .slice va vn vc] 28))
            go_wp2_with fail
            go_region
            all_goals
              go_wp2_with fail
              refine bodyPost_ret (v := .tuple #[.int .i64 (IntKind.i64.wrap (X : Int)), .agg #[.int .i64 b4.pid, .int .i64 b4.ep, .int .i64 b4.first, .slice va vn vc], .int .i64 0]) (by simp [results, Try.results10, go_sem, r0, r1, r2, r3]; exact (IntWalk.i64_left _).symm) rfl ?_
              exact HF.out
          · have hb4' : Below w2.heap.size w2 w4 := hb3.trans (hb4.mono hb3.size)
            obtain ⟨r0, r1, r2, r3, g0, g1, g2, g3⟩ := HGO.out _ (hb4'.alloc hb4'.size (.cells #[.int .i64 0, .int .i64 0, .int .i64 0, .slice none 0 0] 28))
            have HZ := hide (zero_dec (hback _ (hb4'.alloc hb4'.size (.cells #[.int .i64 0, .int .i64 0, .int .i64 0, .slice none 0 0] 28))) hlen (HNOT.out hleft))
            go_wp2_with fail
            refine bodyPost_ret (v := .tuple #[.int .i64 0, .agg #[.int .i64 0, .int .i64 0, .int .i64 0, .slice none 0 0], .int .i64 50]) (by simp [results, Try.results10, go_sem, r0, r1, r2, r3]) rfl ?_
            exact HZ.out
      · have hne : ((Y : Int) != (M : Int)) = true := by simp; omega
        have HN := hide (HM.out M HMM.out hsum)
        by_cases c12 : cap = 12
        · rw [if_pos c12] at hif
          subst hif
          subst c12
          obtain rfl : n = 12 := by omega
          simp only [Nat.sub_self] at CC
          go_enter Try.func10, Try.ntmps10
          go_wp2_with fail
          rw [← HW.out]
          refine C1.mono ?_
          rintro e w1 ⟨rfl, hw1⟩
          subst hw1
          go_wp2_with fail
          refine C2.mono ?_
          rintro e w2 ⟨rfl, hw2⟩
          subst hw2
          go_wp2_with fail
          refine CC.mono ?_
          rintro e w3 ⟨rfl, hb3⟩
          obtain ⟨r0, r1, r2, r3, g0, g1, g2, g3⟩ := HGO.out w3 hb3
          go_wp2_with fail
          refine bodyPost_ret (v := .tuple #[.int .i64 0, .agg #[.int .i64 0, .int .i64 0, .int .i64 0, .slice none 0 0], .int .i64 50]) (by simp [results, Try.results10, go_sem, r0, r1, r2, r3]) rfl ?_
          exact zero_dec (hback _ hb3) hlen HN.out
        · rw [if_neg c12] at hif
          subst hif
          go_enter Try.func10, Try.ntmps10
          go_wp2_with fail
          rw [← HW.out]
          refine C1.mono ?_
          rintro e w1 ⟨rfl, hw1⟩
          subst hw1
          go_wp2_with fail
          refine C2.mono ?_
          rintro e w2 ⟨rfl, hw2⟩
          subst hw2
          go_wp2_with fail
          refine CC.mono ?_
          rintro e w3 ⟨rfl, hb3⟩
          obtain ⟨r0, r1, r2, r3, g0, g1, g2, g3⟩ := HGO.out w3 hb3
          go_wp2_with fail
          refine bodyPost_ret (v := .tuple #[.int .i64 0, .agg #[.int .i64 0, .int .i64 0, .int .i64 0, .slice none 0 0], .int .i64 50]) (by simp [results, Try.results10, go_sem, r0, r1, r2, r3]) rfl ?_
          exact zero_dec (hback _ hb3) hlen HN.out

end Go.Proofs.Ytelfckhiafnniaa

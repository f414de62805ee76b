/-
  The document's Place, Ready, Pick; a sched with a row beside it.
-/
import Derived.Test.YtnnmlndjcaeegaaScc
import Derived.Test.YtnnmlndjcaeegaaQvsI
import Derived.Test.YtnnmlndjcaeegaaSop
namespace Go.Proofs.Ytnnmlndjcaeegaa.QI
open Go.RowKit
set_option maxRecDepth 20000
set_option linter.unusedSimpArgs false

/-- A sched and a row beside it, both made behind W0. -/
structure Tw (W0 w : World) (Q R G : Nat) (ys : List Int) (v : Value) (xs : List Int) : Prop where
  s : Sd w Q R
  q : W0.heap.size ≤ Q
  t : Two W0 w R G ys v xs

section
variable {W0 w w' : World} {Q R G : Nat} {ys zs xs : List Int} {v v' : Value}
theorem Tw.turn (h : Tw W0 w Q R G ys v xs) (k : Qt w w' R G zs) : ∃ G', Tw W0 w' Q R G' zs v xs := by
  obtain ⟨_, _, q0⟩ := h.t.ex
  obtain ⟨G', t'⟩ := h.t.turn k
  exact ⟨G', h.s.turn q0 k, h.q, t'⟩
theorem Tw.below (h : Tw W0 w Q R G ys v xs) (hb : Below w.heap.size w w') : Tw W0 w' Q R G ys v xs := ⟨h.s.below hb, h.q, h.t.below hb⟩
theorem Tw.drew (h : Tw W0 w Q R G ys v xs) (m : Nat) : Tw W0 (w.drewN m) Q R G ys v xs := h.below (below_drewN (Below.refl _ w) m)
theorem Tw.fresh (h : Tw W0 w Q R G ys v xs) (ho : w'.ownsRow w.heap.size 3 1 v' zs.length (W zs)) (hb : Below w.heap.size w w') : Tw W0 w' Q R G ys v' zs := ⟨h.s.below hb, h.q, h.t.fresh ho hb⟩
theorem Tw.sn (h : Tw W0 w Q R G ys v xs) : Sn W0 w Q R G ys := ⟨h.s, h.t.ex, h.t.r, h.t.g, h.q, h.t.bel⟩
end

/-- The first place of a number; below 0: it is not there. -/
def plI (xs : List Int) (id : Int) : Int := if id ∈ xs then (xs.idxOf id : Int) else -1

theorem take_idx {xs : List Int} {id : Int} {k : Nat} (hk : k < xs.length) (hn : id ∉ xs.take k) (he : xs.getD k 0 = id) : plI xs id = (k : Int) := by
  have hx : xs[k] = id := by simpa [List.getD, List.getElem?_eq_getElem hk] using he
  have hm : id ∈ xs := by rw [← hx]; exact List.getElem_mem hk
  unfold plI
  rw [if_pos hm]
  have e : xs = xs.take k ++ xs.drop k := (List.take_append_drop k xs).symm
  have hd : xs.drop k = id :: xs.drop (k + 1) := by rw [List.drop_eq_getElem_cons hk, hx]
  have hl : (xs.take k).length = k := by rw [List.length_take]; omega
  conv => lhs; rw [e]
  rw [List.idxOf_append, if_neg hn, hd, List.idxOf_cons_self, hl]
  simp

set_option maxHeartbeats 1000000 in
theorem place_any {w : World} {a : Option Addr} {n cap : Nat} {xs : List Int} (hA : Ls w a n cap xs) (id : Int) :
    Calls Try.prog 11 #[.slice a n cap, .int .i64 id] w fun e w' => e = .returned (.int .i64 (plI xs id)) ∧ w' = w := by
  have hea := hA.le
  have hra := hA.reach
  have HL := hide hA.len
  have HA := hide hA
  clear hA
  go_enter Try.func11, Try.ntmps11
  go_wp2_with fail
  go_loopw [5] (fun i wr => ∃ k : Nat, k ≤ n ∧ i = .int .i64 k ∧ wr = w ∧ Hid (id ∉ xs.take k)) (fun i _ => n - (intOf i).toNat)
  case atStart => exact ⟨0, Nat.zero_le _, rfl, rfl, hide (by simp)⟩
  case round =>
    obtain ⟨k, hk, rfl, hwr, hno⟩ := hrel
    subst hwr
    by_cases hlt : k < n
    · have hkx : k < xs.length := by rw [HL.out]; exact hlt
      obtain ⟨b1, o1, rfl, hc1⟩ := HA.out.lies (by omega)
      have hk1 := hc1 k hlt
      clear hc1
      have hsn : Hid (id ∈ xs.take (k + 1) ↔ id ∈ xs.take k ∨ id = xs.getD k 0) := hide (by
        rw [List.take_succ_eq_append_getElem hkx, List.mem_append]
        simp only [List.mem_singleton, List.getD, List.getElem?_eq_getElem hkx, Option.getD_some])
      have hid : Hid (xs.getD k 0 = id → plI xs id = (k : Int)) := hide (take_idx hkx hno.out)
      generalize xs.getD k 0 = x at *
      by_cases hx : x = id
      · subst hx
        have he := hide (hid.out rfl)
        clear hid hsn hkx
        go_wp2_with fail
        go_ret
        exact ⟨by rw [he.out]; rfl, rfl⟩
      · clear hid hkx
        go_wp2_with fail
        go_roundw
        case rel => exact ⟨k + 1, by omega, by go_num, (by simp), hide (fun h => by
          rcases hsn.out.1 h with h | h
          · exact hno.out h
          · exact hx h.symm)⟩
        case measure => simp [intOf]; omega
    · obtain rfl : k = n := by omega
      go_wp2_with fail
      go_ret
      have := hno.out
      rw [List.take_of_length_le (by rw [HL.out]; exact Nat.le_refl _)] at this
      exact ⟨by unfold plI; rw [if_neg this]; rfl, rfl⟩

/-- The first k things without the one at place i. -/
theorem wo_take {xs : List Int} {i : Int} {k : Nat} (hk : k < xs.length) (hne : (k : Int) ≠ i) : wo (xs.take (k + 1)) i = wo (xs.take k) i ++ [xs.getD k 0] := by
  have e : xs.take (k + 1) = xs.take k ++ [xs.getD k 0] := by
    rw [List.take_succ_eq_append_getElem hk]
    simp [List.getD, List.getElem?_eq_getElem hk]
  have hl : (xs.take k).length = k := by rw [List.length_take]; omega
  have hl' : (xs.take (k + 1)).length = k + 1 := by rw [List.length_take]; omega
  unfold wo
  rw [hl, hl']
  by_cases h : 0 ≤ i ∧ i < (k : Int)
  · rw [if_pos (by omega), if_pos h, e, List.eraseIdx_append_of_lt_length (by rw [hl]; omega)]
  · rw [if_neg h, if_neg (by omega), e]

theorem wo_skip {xs : List Int} {k : Nat} (hk : k < xs.length) : wo (xs.take (k + 1)) (k : Int) = wo (xs.take k) (k : Int) := by
  have e : xs.take (k + 1) = xs.take k ++ [xs.getD k 0] := by
    rw [List.take_succ_eq_append_getElem hk]
    simp [List.getD, List.getElem?_eq_getElem hk]
  have hl : (xs.take k).length = k := by rw [List.length_take]; omega
  have hl' : (xs.take (k + 1)).length = k + 1 := by rw [List.length_take]; omega
  unfold wo
  rw [hl, hl', if_pos (by omega), if_neg (by omega), e, Int.toNat_natCast, List.eraseIdx_append_of_length_le (by omega), hl]
  simp

theorem wo_length_le (xs : List Int) (i : Int) : (wo xs i).length ≤ xs.length := by
  unfold wo
  split
  · rw [List.length_eraseIdx]
    split <;> omega
  · exact Nat.le_refl _

set_option maxHeartbeats 1000000 in
theorem without_any {w : World} {a : Option Addr} {n cap : Nat} {xs : List Int} (hA : Ls w a n cap xs) (hn : n ≤ Mx) (i : Int) :
    Calls Try.prog 13 #[.slice a n cap, .int .i64 i] w fun e w' => ∃ v, e = .returned v ∧ w'.ownsRow w.heap.size 3 1 v (wo xs i).length (W (wo xs i)) ∧ Below w.heap.size w w' := by
  obtain ⟨i0, hi, hz0, hz1, hz2⟩ := info_parts infoE
  have hla := hA.len
  have hea := hA.le
  have hra := hA.reach
  unfold Mx at hn
  have HL := hide hla
  have HA := hide hA
  clear hla hA
  go_enter Try.func13, Try.ntmps13
  go_wp2_with fail
  go_loopw [5, 6] (fun v j wr => ∃ k : Nat, k ≤ n ∧ j = .int .i64 k ∧ Hid (wr.ownsRow w.heap.size 3 1 v (wo (xs.take k) i).length (W (wo (xs.take k) i))) ∧ Below w.heap.size w wr) (fun _ j _ => n - (intOf j).toNat)
  case atStart =>
    have e : wo (xs.take 0) i = [] := by
      unfold wo
      rw [List.take_zero, if_neg (by simp only [List.length_nil]; omega)]
    exact ⟨0, Nat.zero_le _, rfl, hide (by rw [e]; exact ⟨rfl, .inl ⟨rfl, rfl⟩⟩), Below.refl _ _⟩
  case round =>
    obtain ⟨k, hk, rfl, hown, hb⟩ := hrel
    by_cases hlt : k < n
    · have hkx : k < xs.length := by rw [HL.out]; exact hlt
      by_cases hik : (k : Int) = i
      · have HO : Hid (wr.ownsRow w.heap.size 3 1 u5 (wo (xs.take (k + 1)) i).length (W (wo (xs.take (k + 1)) i))) := hide (by rw [← hik, wo_skip hkx, hik]; exact hown.out)
        subst hik
        clear hown hkx
        go_wp2_with fail
        go_roundw
        case rel => exact ⟨k + 1, by omega, by go_num, HO, hb⟩
        case measure => simp [intOf]; omega
      · obtain ⟨b1, o1, rfl, hc1⟩ := (HA.out.keep hb).lies (by omega)
        have hk1 := hc1 k hlt
        have hsn := wo_take hkx hik
        have hml : (wo (xs.take k) i).length ≤ k := Nat.le_trans (wo_length_le _ _) (List.length_take_le _ _)
        have HS := hide hsn
        clear hc1 hsn
        generalize xs.getD k 0 = x at *
        generalize wo (xs.take k) i = ys at *
        obtain ⟨m, hm⟩ : ∃ m, Hid (m = ys.length) := ⟨_, hide rfl⟩
        rw [← hm.out] at hml hown
        have hwl := hb.size
        have FB : Hid (∀ w6, (wr.alloc (.cells #[.int .i64 x] 3)).grownBy w6 u5.ownBlock → Below w.heap.size w w6) := hide (fun w6 h2 => (hb.alloc hwl _).grown h2 (by simp; omega) (fun y hy => (hown.out.lt y hy).1))
        have HO5 := hide (hown.out.alloc (.cells #[.int .i64 x] 3))
        clear hown hkx
        go_wp2_with (at_builtin; refine wpList_append_own _ rfl _ _ 25 rfl w.heap.size 3 i0 (.int .i64 0) 1 8 Try.underlying25 hi hz0 hz1 hz2 rfl (by omega) _ _ _ rfl HO5.out ⟨_, 0, none⟩ 1 1 [.int .i64 x] rfl rfl (cell_one_new _ _ _) (by simp [Value.oneCell']) (by unfold maxLen; omega) (by omega) (by simp; omega) ?_; intro v6 w6 hown6 hgrow6 _)
        have HO6 := hide hown6
        have HB6 := hide (FB.out w6 hgrow6)
        clear hown6 hgrow6
        go_roundw
        case rel => exact ⟨k + 1, by omega, by go_num, hide (by rw [HS.out, W_append, W_one', List.length_append, ← hm.out]; exact HO6.out), HB6.out⟩
        case measure => simp [intOf]; omega
    · obtain rfl : k = n := by omega
      have HO := hown
      clear hown
      go_wp2_with fail
      go_ret
      rw [List.take_of_length_le (by rw [HL.out]; exact Nat.le_refl _)] at HO
      exact ⟨_, rfl, HO.out, hb⟩

set_option maxHeartbeats 2000000 in
theorem Tw.refready {W0 w : World} {Q R G : Nat} {ys xs : List Int} {a : Option Addr} {n cap : Nat} (h : Tw W0 w Q R G ys (.slice a n cap) xs) (hl : xs.length = n) (hn : n ≤ 256) (id : Int) :
    Calls Try.prog 7 #[.slice a n cap, .int .i64 id] w fun e w' => ∃ va vc, e = .returned (.tuple #[.slice va (rdL xs id).length vc, .int .i64 (rdE xs id)]) ∧ Tw W0 w' Q R G ys (.slice va (rdL xs id).length vc) (rdL xs id) ∧ Below w.heap.size w w' := by
  have ho := h.t.row
  rw [hl] at ho
  have hA := own_ls ho
  have hea := hA.le
  have hra := hA.reach
  by_cases h0 : id < 0
  · have e1 : rdE xs id = 2 := if_pos h0
    have e2 : rdL xs id = xs := if_neg (by rw [e1]; decide)
    rw [e1, e2, hl]
    have HF := hide h
    clear e1 e2 h ho hA hl
    go_enter Try.func7, Try.ntmps7
    go_wp2_with fail
    go_ret2
    exact ⟨a, cap, rfl, HF.out, Below.refl _ _⟩
  · have CP := place_any hA id
    by_cases h1 : id ∈ xs
    · have e1 : rdE xs id = 151 := by unfold rdE; rw [if_neg h0, if_pos h1]
      have e2 : rdL xs id = xs := if_neg (by rw [e1]; decide)
      rw [e1, e2, hl]
      unfold plI at CP
      rw [if_pos h1] at CP
      have HF := hide h
      clear e1 e2 h ho hA hl h1
      generalize xs.idxOf id = ix at *
      go_enter Try.func7, Try.ntmps7
      go_wp2_with fail
      refine CP.mono ?_
      rintro e w1 ⟨rfl, hw1⟩
      subst w1
      go_wp2_with fail
      go_ret2
      exact ⟨a, cap, rfl, HF.out, Below.refl _ _⟩
    · unfold plI at CP
      rw [if_neg h1] at CP
      by_cases h2 : 256 ≤ xs.length
      · have e1 : rdE xs id = 5 := by unfold rdE; rw [if_neg h0, if_neg h1, if_pos h2]
        have e2 : rdL xs id = xs := if_neg (by rw [e1]; decide)
        rw [e1, e2, hl]
        have HF := hide h
        obtain rfl : n = 256 := by omega
        clear e1 e2 h ho hA hl h1 h2 hn
        go_enter Try.func7, Try.ntmps7
        go_wp2_with fail
        refine CP.mono ?_
        rintro e w1 ⟨rfl, hw1⟩
        subst w1
        go_wp2_with fail
        go_ret2
        exact ⟨a, cap, rfl, HF.out, Below.refl _ _⟩
      · have e1 : rdE xs id = 0 := by unfold rdE; rw [if_neg h0, if_neg h1, if_neg h2]
        have e2 : rdL xs id = xs ++ [id] := if_pos e1
        rw [e1, e2]
        obtain ⟨i0, hi, hz0, hz1, hz2⟩ := info_parts infoE
        obtain ⟨v1, w1, hr1, o1, g1, _⟩ := run_append_rows (P := Try.prog) (w := w) w.heap.size 25 25 3 i0 (.int .i64 0) 1 8 Try.underlying25 hi hz0 hz1 hz2 rfl (by omega) (.slice none 0 0) 0 [] ⟨rfl, .inl ⟨rfl, rfl⟩⟩ (.slice a n cap) n (W xs) W0.heap.size ho (W_one xs) (by unfold maxLen; omega) (by omega) (Nat.le_refl _)
        have b1 : Below w.heap.size w w1 := (Below.refl _ w).grown g1 (Nat.le_refl _) (fun y hy => by cases hy)
        rw [List.nil_append] at o1
        have o1' := o1.alloc (.cells #[.int .i64 id] 3)
        obtain ⟨v2, w2, hr2, o2, g2, _⟩ := run_append_rows (P := Try.prog) (w := w1.alloc (.cells #[.int .i64 id] 3)) w.heap.size 25 25 3 i0 (.int .i64 0) 1 8 Try.underlying25 hi hz0 hz1 hz2 rfl (by omega) v1 (0 + n) (W xs) o1' (.slice (some ⟨w1.heap.size, 0, none⟩) 1 1) 1 (W [id]) 0 (one_row w1 id) (W_one [id]) (by unfold maxLen; omega) (by omega) (by have := b1.size; simp; omega)
        have b2 : Below w.heap.size w w2 := (b1.alloc b1.size _).grown g2 (by have := b1.size; simp; omega) (fun y hy => (o1'.lt y hy).1)
        rw [← W_append] at o2
        obtain ⟨va, vc, rfl⟩ := row_val o2
        have el : (xs ++ [id]).length = n + 1 := by simp [hl]
        have HF : Hid (Tw W0 w2 Q R G ys (.slice va (n + 1) vc) (xs ++ [id])) := hide (by
          rw [Nat.zero_add] at o2
          exact h.fresh (by rw [el]; exact o2) b2)
        have HE := hide el
        have HB := hide b2
        have hr2' : (Builtin.append_ #[25, 25] 25 #[v1, .slice (some ⟨w1.heap.size, 0, none⟩) 1 1]).run Try.prog (w1.alloc (.cells #[.int .i64 id] 3)) = .ok (.slice va (n + 1) vc) w2 := by
          rw [Nat.zero_add] at hr2
          exact hr2
        have hni : ¬ (n : Int) = 256 := by omega
        clear e1 e2 h ho hA hl h1 h2 o1 o1' o2 g1 g2 b1 b2 hr2 el
        go_enter Try.func7, Try.ntmps7
        go_wp2_with fail
        refine CP.mono ?_
        rintro e w3 ⟨rfl, hw3⟩
        subst w3
        go_wp2_with (first
          | (at_builtin; refine wpList_append_run rfl 25 (.tmp 19) (.tmp 20) rfl _ _ _ rfl rfl hr1 ?_)
          | (at_builtin; refine wpList_append_run rfl 25 (.tmp 22) (.tmp 24) rfl _ _ _ rfl rfl hr2' ?_))
        go_ret2
        exact ⟨va, vc, by rw [HE.out]; rfl, by rw [HE.out]; exact HF.out, HB.out⟩

set_option maxHeartbeats 2000000 in
theorem Tw.refpick {W0 w : World} {Q R G : Nat} {ys xs : List Int} {a : Option Addr} {n cap : Nat} (h : Tw W0 w Q R G ys (.slice a n cap) xs) (hl : xs.length = n) (hn : n ≤ 256) (hn0 : 0 < n) (p : Nat) (hp : p ≤ 18446744073709551615) :
    Calls Try.prog 9 #[.slice a n cap, .int .u64 p] w fun e w' => ∃ va vc, e = .returned (.tuple #[.slice va (n - 1) vc, .int .i64 (xs.getD (p % n) 0), .int .u64 (p / n : Nat), .bool true]) ∧ Tw W0 w' Q R G ys (.slice va (n - 1) vc) (xs.eraseIdx (p % n)) ∧ Below w.heap.size w w' := by
  have ho := h.t.row
  rw [hl] at ho
  have hA := own_ls ho
  have hea := hA.le
  have hra := hA.reach
  have hlt : p % n < n := Nat.mod_lt _ hn0
  have hdl : p / n ≤ p := Nat.div_le_self _ _
  have ht : (p : Int).tmod (n : Int) = ((p % n : Nat) : Int) := by
    rw [Int.tmod_eq_emod_of_nonneg (by omega)]
    simp
  have hd : (p : Int).tdiv (n : Int) = ((p / n : Nat) : Int) := by
    rw [Int.tdiv_eq_ediv_of_nonneg (by omega)]
    simp
  obtain ⟨b0, off0, rfl, hc⟩ := hA.lies hn0
  have hck := hc (p % n) hlt
  have hel : (xs.eraseIdx (p % n)).length = n - 1 := by
    rw [List.length_eraseIdx, if_pos (by omega)]
    omega
  have HW : Hid (∀ V, Below w.heap.size w V → Calls Try.prog 13 #[.slice (some ⟨b0, off0, none⟩) n cap, .int .i64 ((p % n : Nat) : Int)] V fun e w' => ∃ va vc, e = .returned (.slice va (n - 1) vc) ∧ Hid (Tw W0 w' Q R G ys (.slice va (n - 1) vc) (xs.eraseIdx (p % n))) ∧ Hid (Below w.heap.size w w') ∧ w'.cell? ⟨b0, off0 + p % n, none⟩ = some (.int .i64 (xs.getD (p % n) 0))) := hide (fun V hV => (without_any (hA.keep hV) (by unfold Mx; omega) ((p % n : Nat) : Int)).mono (by
    rintro e w' ⟨v, rfl, o, b⟩
    rw [show wo xs ((p % n : Nat) : Int) = xs.eraseIdx (p % n) from by
      unfold wo
      rw [if_pos (by omega), Int.toNat_natCast]] at o
    obtain ⟨va, vc, rfl⟩ := row_val o
    have hb := hV.trans (b.mono hV.size)
    have s5 := (h.below hV).fresh o b
    rw [hel] at s5
    exact ⟨va, vc, by rw [hel], hide s5, hide hb, (hb.cell (cell_lt hck)).trans hck⟩))
  generalize xs.eraseIdx (p % n) = zs at *
  generalize xs.getD (p % n) 0 = x at *
  obtain ⟨KK, hKK⟩ : ∃ KK, Hid (KK = p % n) := ⟨_, hide rfl⟩
  rw [← hKK.out] at HW ht hlt hck
  obtain ⟨D, hD⟩ : ∃ D, Hid (D = p / n) := ⟨_, hide rfl⟩
  rw [← hD.out] at hd hdl ⊢
  have hrem : ∀ V : World, (Op.intDiv .rem .u64 (p : Int) (n : Int)).run Try.prog V = .ok (.int .u64 (KK : Int)) V := fun V => by
    simp [Op.intDiv, ht, show n ≠ 0 by omega]
  have hquo : ∀ V : World, (Op.intDiv .quo .u64 (p : Int) (n : Int)).run Try.prog V = .ok (.int .u64 (D : Int)) V := fun V => by
    have : IntKind.u64.wrap (D : Int) = D := by simp [IntKind.wrap, IntKind.signed, IntKind.bits]; omega
    simp [Op.intDiv, hd, this, show n ≠ 0 by omega]
  have hwD : IntKind.u64.wrap (D : Int) = D := by simp [IntKind.wrap, IntKind.signed, IntKind.bits]; omega
  have hne : n ≠ 0 := by omega
  have h00 : ((n : Int) == 0) = false := by rw [beq_eq_false_iff_ne]; omega
  clear h ho hA hc hl hel
  go_enter Try.func9, Try.ntmps9
  go_wp2_with fail
  refine wp_region_held_drew (S := fun V => V.cell? ⟨b0, off0 + KK, none⟩ = some (.int .i64 x)) (by kernel_rfl) hck (fun hHeld => ?_)
  try simp only [List.size_toArray, List.length_cons, List.length_nil, Nat.reduceAdd]
  refine wpAnyH_take (i := 0) (v := (.slice (some ⟨b0, off0, none⟩) n cap)) rfl (by kernel_rfl) (by kernel_rfl) (by kernel_rfl) (fun _ _ _ h => h) (Or.inl ⟨by rfl, ?hy⟩) hHeld ?_
  case hy => (intro V hV; go_simp <;> first | done | rfl | (try simp_all; done) | omega)
  simp only [Act.put, List.getElem_toArray, List.getElem_cons_succ, List.getElem_cons_zero, List.setIfInBounds_toArray, List.set_cons_succ, List.set_cons_zero]
  refine wpAnyH_take (i := 1) (v := (.int .i64 (KK : Int))) rfl (by kernel_rfl) (by kernel_rfl) (by kernel_rfl) (fun _ _ _ h => h) (Or.inl ⟨by rfl, ?hy⟩) hHeld ?_
  case hy => (intro V hV; go_simp <;> first | done | rfl | (try simp_all; done) | omega)
  simp only [Act.put, List.getElem_toArray, List.getElem_cons_succ, List.getElem_cons_zero, List.setIfInBounds_toArray, List.set_cons_succ, List.set_cons_zero]
  refine wpAnyH_take (i := 3) (v := (.slice (some ⟨b0, off0, none⟩) n cap)) rfl (by kernel_rfl) (by kernel_rfl) (by kernel_rfl) (fun _ _ _ h => h) (Or.inl ⟨by rfl, ?hy⟩) hHeld ?_
  case hy => (intro V hV; go_simp <;> first | done | rfl | (try simp_all; done) | omega)
  simp only [Act.put, List.getElem_toArray, List.getElem_cons_succ, List.getElem_cons_zero, List.setIfInBounds_toArray, List.set_cons_succ, List.set_cons_zero]
  refine wpAnyH_take (i := 4) (v := (.int .i64 (KK : Int))) rfl (by kernel_rfl) (by kernel_rfl) (by kernel_rfl) (fun _ _ _ h => h) (Or.inl ⟨by rfl, ?hy⟩) hHeld ?_
  case hy => (intro V hV; go_simp <;> first | done | rfl | (try simp_all; done) | omega)
  simp only [Act.put, List.getElem_toArray, List.getElem_cons_succ, List.getElem_cons_zero, List.setIfInBounds_toArray, List.set_cons_succ, List.set_cons_zero]
  refine wpAnyH_take (i := 5) (v := (.pointer (some ⟨b0, off0 + KK, none⟩))) rfl (by kernel_rfl) (by kernel_rfl) (by kernel_rfl) (fun _ _ _ h => h) (Or.inl ⟨by rfl, ?hy⟩) hHeld ?_
  case hy => (intro V hV; go_simp <;> first | done | rfl | (try simp_all; done) | omega)
  simp only [Act.put, List.getElem_toArray, List.getElem_cons_succ, List.getElem_cons_zero, List.setIfInBounds_toArray, List.set_cons_succ, List.set_cons_zero]
  refine wpAnyH_take (i := 6) (v := (.int .i64 x)) rfl (by kernel_rfl) (by kernel_rfl) (by kernel_rfl) (fun _ _ _ h => h) (Or.inl ⟨by rfl, ?hy⟩) hHeld ?_
  case hy => (intro V hV; go_simp <;> first | done | rfl | (try simp_all; done) | omega)
  simp only [Act.put, List.getElem_toArray, List.getElem_cons_succ, List.getElem_cons_zero, List.setIfInBounds_toArray, List.set_cons_succ, List.set_cons_zero]
  refine wpAnyH_take (i := 7) (v := (.int .u64 (p : Int))) rfl (by kernel_rfl) (by kernel_rfl) (by kernel_rfl) (fun _ _ _ h => h) (Or.inl ⟨by rfl, ?hy⟩) hHeld ?_
  case hy => (intro V hV; go_simp <;> first | done | rfl | (try simp_all; done) | omega)
  simp only [Act.put, List.getElem_toArray, List.getElem_cons_succ, List.getElem_cons_zero, List.setIfInBounds_toArray, List.set_cons_succ, List.set_cons_zero]
  refine wpAnyH_take (i := 8) (v := (.int .u64 (n : Int))) rfl (by kernel_rfl) (by kernel_rfl) (by kernel_rfl) (fun _ _ _ h => h) (Or.inl ⟨by rfl, ?hy⟩) hHeld ?_
  case hy => (intro V hV; go_simp <;> first | done | rfl | (try simp_all; done) | omega)
  simp only [Act.put, List.getElem_toArray, List.getElem_cons_succ, List.getElem_cons_zero, List.setIfInBounds_toArray, List.set_cons_succ, List.set_cons_zero]
  refine wpAnyH_take (i := 9) (v := (.int .u64 (D : Int))) rfl (by kernel_rfl) (by kernel_rfl) (by kernel_rfl) (fun _ _ _ h => h) (Or.inl ⟨by rfl, ?hy⟩) hHeld ?_
  case hy => (intro V hV; go_simp <;> first | done | rfl | (try simp_all; done) | omega)
  simp only [Act.put, List.getElem_toArray, List.getElem_cons_succ, List.getElem_cons_zero, List.setIfInBounds_toArray, List.set_cons_succ, List.set_cons_zero]
  refine wpAnyH_ready (rs := [2]) (by kernel_rfl) (by simp) ?_
  refine AllReadyH.cons (by rfl) ?_ AllReadyH.nil
  intro K hK
  refine step_callw (by rfl) 13 #[.slice (some ⟨b0, off0, none⟩) n cap, .int .i64 (KK : Int)] (by go_simp) ?_
  refine (HW.out _ (Below.refl _ _).drew).mono ?_
  rintro e w2 ⟨va, vc, rfl, s2, b2, c2⟩
  refine ⟨_, rfl, ?_⟩
  refine hK.out _ _ c2 (fun hHeld => ?_)
  clear hK K
  simp only [Act.put, List.getElem_toArray, List.getElem_cons_succ, List.getElem_cons_zero, List.setIfInBounds_toArray, List.set_cons_succ, List.set_cons_zero]
  refine wpAnyH_take (i := 10) (v := (.slice va (n - 1) vc)) rfl (by kernel_rfl) (by kernel_rfl) (by kernel_rfl) (fun _ _ _ h => h) (Or.inl ⟨by rfl, ?hy⟩) hHeld ?_
  case hy => (intro V hV; go_simp <;> first | done | rfl | (try simp_all; done) | omega)
  simp only [Act.put, List.getElem_toArray, List.getElem_cons_succ, List.getElem_cons_zero, List.setIfInBounds_toArray, List.set_cons_succ, List.set_cons_zero]
  refine wpAnyH_take (i := 11) (v := (.int .i64 x)) rfl (by kernel_rfl) (by kernel_rfl) (by kernel_rfl) (fun _ _ _ h => h) (Or.inl ⟨by rfl, ?hy⟩) hHeld ?_
  case hy => (intro V hV; go_simp <;> first | done | rfl | (try simp_all; done) | omega)
  simp only [Act.put, List.getElem_toArray, List.getElem_cons_succ, List.getElem_cons_zero, List.setIfInBounds_toArray, List.set_cons_succ, List.set_cons_zero]
  refine wpAnyH_take (i := 12) (v := (.int .u64 (D : Int))) rfl (by kernel_rfl) (by kernel_rfl) (by kernel_rfl) (fun _ _ _ h => h) (Or.inl ⟨by rfl, ?hy⟩) hHeld ?_
  case hy => (intro V hV; go_simp <;> first | done | rfl | (try simp_all; done) | omega)
  simp only [Act.put, List.getElem_toArray, List.getElem_cons_succ, List.getElem_cons_zero, List.setIfInBounds_toArray, List.set_cons_succ, List.set_cons_zero]
  refine wpAnyH_take (i := 13) (v := (.bool true)) rfl (by kernel_rfl) (by kernel_rfl) (by kernel_rfl) (fun _ _ _ h => h) (Or.inl ⟨by rfl, ?hy⟩) hHeld ?_
  case hy => (intro V hV; go_simp <;> first | done | rfl | (try simp_all; done) | omega)
  simp only [Act.put, List.getElem_toArray, List.getElem_cons_succ, List.getElem_cons_zero, List.setIfInBounds_toArray, List.set_cons_succ, List.set_cons_zero]
  refine wpAnyH_done (by kernel_rfl) ?_ _
  try simp only [Act.put, List.getElem_toArray, List.getElem_cons_succ, List.getElem_cons_zero, List.setIfInBounds_toArray, List.set_cons_succ, List.set_cons_zero]
  go_wp2_with fail
  refine bodyPost_ret (v := .tuple #[.slice va (n - 1) vc, .int .i64 x, .int .u64 (D : Int), .bool true]) (by simp [results, Try.results9, go_sem]) rfl ?_
  exact ⟨va, vc, rfl, s2.out, b2.out⟩

theorem refpick_no {w : World} (a : Option Addr) (cap : Nat) (p : Int) :
    Calls Try.prog 9 #[.slice a 0 cap, .int .u64 p] w fun e w' => e = .returned (.tuple #[.slice a 0 cap, .int .i64 0, .int .u64 0, .bool false]) ∧ w' = w := by
  go_enter Try.func9, Try.ntmps9
  go_wp2_with fail
  refine bodyPost_ret (v := .tuple #[.slice a 0 cap, .int .i64 0, .int .u64 0, .bool false]) (by simp [results, Try.results9, go_sem]) rfl ?_
  exact ⟨rfl, rfl⟩

/-- What leaves by number leaves by place. -/
theorem rid_wo {xs : List Int} (hn : xs.Nodup) (id : Int) : rid xs id = wo xs (plI xs id) := by
  unfold plI wo rid
  by_cases h : id ∈ xs
  · have hi : xs.idxOf id < xs.length := List.idxOf_lt_length_iff.2 h
    rw [if_pos h, if_pos (by omega), Int.toNat_natCast, ← List.erase_eq_eraseIdx_of_idxOf (i := xs.idxOf id) rfl, hn.erase_eq_filter]
    apply List.filter_congr
    intro x _
    by_cases hx : x = id <;> simp [hx]
  · rw [if_neg h, if_neg (by omega), List.filter_eq_self]
    intro x hx
    have : x ≠ id := fun e => h (e ▸ hx)
    simp [this]

theorem rid_lt {xs : List Int} (id : Int) : decide ((rid xs id).length < xs.length) = decide (0 ≤ plI xs id) := by
  unfold plI rid
  by_cases h : id ∈ xs
  · rw [if_pos h]
    have : (xs.filter fun x => !decide (x = id)).length < xs.length := by
      apply List.length_filter_lt_length_iff_exists.2
      exact ⟨id, h, by simp⟩
    simp [this]
  · rw [if_neg h]
    have e : (xs.filter fun x => !decide (x = id)) = xs := by
      rw [List.filter_eq_self]
      intro x hx
      have : x ≠ id := fun e => h (e ▸ hx)
      simp [this]
    rw [e]
    simp

theorem rdL_nodup {xs : List Int} (hn : xs.Nodup) (id : Int) : (rdL xs id).Nodup := by
  unfold rdL
  split
  · rename_i h
    have hm : id ∉ xs := by
      intro hm
      unfold rdE at h
      by_cases h0 : id < 0
      · rw [if_pos h0] at h
        omega
      · rw [if_neg h0, if_pos hm] at h
        omega
    rw [List.nodup_append]
    exact ⟨hn, by simp, fun a ha b hb => by
      simp only [List.mem_singleton] at hb
      rintro rfl
      exact hm (hb ▸ ha)⟩
  · exact hn

theorem rdL_length {xs : List Int} (h : xs.length ≤ 256) (id : Int) : (rdL xs id).length ≤ 256 := by
  unfold rdL
  split
  · rename_i he
    have : ¬ 256 ≤ xs.length := by
      intro h2
      unfold rdE at he
      rw [if_pos h2] at he
      split at he
      · omega
      · split at he <;> omega
    simp
    omega
  · exact h

theorem er_nodup {xs : List Int} (hn : xs.Nodup) (i : Nat) : (xs.eraseIdx i).Nodup := hn.sublist (List.eraseIdx_sublist xs i)
theorem rid_nodup {xs : List Int} (hn : xs.Nodup) (id : Int) : (rid xs id).Nodup := hn.sublist List.filter_sublist

end Go.Proofs.Ytnnmlndjcaeegaa.QI

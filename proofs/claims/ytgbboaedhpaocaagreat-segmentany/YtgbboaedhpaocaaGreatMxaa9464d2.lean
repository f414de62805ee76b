/-
  Texts put into one.
-/
import Derived.Test.YtgbboaedhpaocaaGreatMxdee3a256
import Derived.Test.YtgbboaedhpaocaaGreatMx06c25653

/-
  endsOf, endOf.
-/
namespace Go.Proofs.YtgbboaedhpaocaaGreat
open Go.RowKit
set_option maxRecDepth 100000
set_option maxRecDepth 100000
set_option linter.unusedVariables false

/-- Numbers as values. -/
def Nn (xs : List Nat) : List Value := xs.map fun (n : Nat) => Value.int .i64 (n : Int)
theorem Nn_length (xs : List Nat) : (Nn xs).length = xs.length := by simp [Nn]

theorem info3 : (Tryz.prog.info? 3).map (fun i => (i.zero, i.size, i.bytes)) = some (some (.int .i64 0), 1, 8) := by kernel_rfl

set_option maxHeartbeats 1000000 in
theorem endOf_any {w : World} {base : Nat} {a : Option Addr} {k c : Nat} {bs : List (List Int)} {n : Nat} (h : w.ownsRow base 3 1 (.slice a k c) k (Nn (eds bs))) (hk : k = bs.length) (hn : n ≤ k) (hc : k ≤ 1000000000000) :
    Calls Tryz.prog 45 #[.slice a k c, .int .i64 (n : Int)] w fun e w' => e = .returned (.int .i64 (edAt bs n : Int)) ∧ w' = w := by
  by_cases h0 : n = 0
  · subst h0
    have e0 : edAt bs 0 = 0 := rfl
    rw [e0]
    go_enter Tryz.func45, Tryz.ntmps45
    go_wp2_with fail
    go_ret
    exact ⟨rfl, rfl⟩
  · obtain ⟨j, rfl⟩ : ∃ j, n = j + 1 := ⟨n - 1, by omega⟩
    obtain ⟨g, c', e⟩ := own_shape h (by omega)
    simp only [Value.slice.injEq] at e
    obtain ⟨rfl, _, rfl⟩ := e
    have hcell : w.cell? ⟨g, j, none⟩ = some (.int .i64 (edAt bs (j + 1) : Int)) := by
      have := h.cells (g := g) rfl j (.int .i64 (edAt bs (j + 1) : Int)) (by
        rw [Nn, List.getElem?_map, eds_get bs j (by omega)]
        rfl)
      rw [Addr.add_lit, Nat.zero_add] at this
      exact this
    obtain ⟨E, hE⟩ : ∃ E, Hid (E = edAt bs (j + 1)) := ⟨_, hide rfl⟩
    rw [← hE.out] at hcell
    rw [← hE.out]
    have hkc : k ≤ c := by
      rcases h.2 with ⟨h1, _⟩ | ⟨g', cap, cur, h1, _, _, h2, _⟩
      · cases h1
      · simp only [Value.slice.injEq] at h1
        omega
    clear h hk
    go_enter Tryz.func45, Tryz.ntmps45
    go_wp2_with fail
    go_ret
    exact ⟨rfl, rfl⟩

/-- The reader, and the ends so far. -/
structure Es (W : World) (R : Nat) (zs : List Int) (p : Nat) (ev : Value) (bs : List (List Int)) (wr : World) : Prop where
  rd : ∃ lv r, Rd wr W.heap.size R lv r false ∧ parse (zs.take p) = some (bs, r)
  ends : wr.ownsRow W.heap.size 3 1 ev bs.length (Nn (eds bs))
  bel : Below W.heap.size W wr

/-- The same, while bodies that were told are gone through. -/
structure Ei (W : World) (R : Nat) (zs : List Int) (p : Nat) (bs : List (List Int)) (rs : List (Value × List Int)) (v : Value) (k : Nat) (ev : Value) (wr : World) : Prop where
  rd : ∃ lv r, Rd wr W.heap.size R lv r false ∧ parse (zs.take p) = some (bs ++ rs.map (·.2), r)
  ll : LL wr W.heap.size v rs
  ends : wr.ownsRow W.heap.size 3 1 ev (bs.length + k) (Nn (eds (bs ++ (rs.map (·.2)).take k)))
  bel : Below W.heap.size W wr

section
variable {W wr w2 w3 : World} {R p k : Nat} {zs : List Int} {bs : List (List Int)} {rs : List (Value × List Int)} {v ev ev' : Value}

theorem Rd.obj_not {w : World} {base R n base' size : Nat} {lv : Value} {l : List Int} {ended : Bool} (h : Rd w base R lv l ended) {e : TypeId} {x : Value} {xs : List Value} (ho : w.ownsRow base' e size x n xs) (he : e ≠ (179 : TypeId)) : x.ownBlock ≠ some R := by
  intro hx
  rcases ho.2 with ⟨h1, _⟩ | ⟨g, cap, cur, h1, _, hg, _⟩
  · rw [h1] at hx; cases hx
  · rw [h1] at hx
    simp only [Value.ownBlock, Option.some.injEq] at hx
    subst hx
    rw [h.obj] at hg
    cases hg
    exact he rfl

theorem Ei.step (h : Ei W R zs p bs rs v k ev wr) (hk : k < rs.length) {tmp : Obj} (ho : w3.ownsRow W.heap.size 3 1 ev' (bs.length + k + 1) (Nn (eds (bs ++ (rs.map (·.2)).take k)) ++ [.int .i64 ((flat (bs ++ (rs.map (·.2)).take (k + 1))).length : Int)]))
    (hg : (wr.alloc tmp).grownBy w3 ev.ownBlock) : Ei W R zs p bs rs v (k + 1) ev' w3 := by
  obtain ⟨lv, r, h1, h2⟩ := h.rd
  have ha : Below wr.heap.size wr (wr.alloc tmp) := (Below.refl _ wr).alloc (Nat.le_refl _) _
  have hb : Bar (fun g => ev.ownBlock = some g) (wr.alloc tmp) w3 := Bar.of_grown hg
  have he := h.ends.alloc tmp
  refine ⟨⟨lv, r, (h1.keep ha).bar hb (fun e => (h1.keep ha).obj_not he (by decide) e) (fun b hb' e => own_types (h1.keep ha).own he (by decide) hb' e), h2⟩, ?_, ?_, ?_⟩
  · exact (h.ll.keep ha).bar hb (fun b hb' e => own_types (h.ll.keep ha).own he (by decide) hb' e) (fun q hq b hb' e => own_types ((h.ll.keep ha).row q hq) he (by decide) hb' e)
  · have e1 : bs ++ (rs.map (·.2)).take (k + 1) = (bs ++ (rs.map (·.2)).take k) ++ [(rs.map (·.2))[k]'(by simpa using hk)] := by
      rw [List.take_add_one, List.getElem?_eq_getElem (by simpa using hk), List.append_assoc]
      rfl
    rw [e1, eds_snoc, ← e1]
    simpa [Nn, Nat.add_assoc] using ho
  · exact (h.bel.trans (ha.mono h.bel.size)).grown hg (by have := h.bel.size; simp; omega) (fun b e => own_from h.ends e)
end

set_option maxHeartbeats 4000000 in
theorem endsOf_any {W : World} {a : Option Addr} {m cap : Nat} {zs : List Int} (hB : Bs W a m cap zs) (hm : m ≤ 1000000000) :
    Calls Tryz.prog 44 #[.slice a m cap] W fun e W' => ∃ v, e = .returned v ∧ W'.ownsRow W.heap.size 3 1 v (frs zs).length (Nn (eds (frs zs))) ∧ Below W.heap.size W W' := by
  obtain ⟨i0, hi, hz0, hz1, hz2⟩ := info_parts info3
  have hlen := hB.len
  have hle := hB.le
  have hre := hB.reach
  go_enter Tryz.func44, Tryz.ntmps44
  go_wp2_with fail
  refine (rnew_any W).mono ?_
  rintro e w1 ⟨rfl, hR1, hb1⟩
  obtain ⟨R, hRe⟩ : ∃ R, Hid (R = W.heap.size) := ⟨_, hide rfl⟩
  have ES0 : Es W R zs 0 (.slice none 0 0) [] w1 := ⟨⟨_, _, by rw [hRe.out]; exact hR1, by rw [List.take_zero]; exact parse_few (by simp)⟩, World.ownsRow_nil _ _ _ _, hb1⟩
  rw [← hRe.out]
  clear hR1
  go_wp2_with fail
  go_loopw [3, 4, 6] (fun ev ed at' wr => ∃ (p : Nat) (bs : List (List Int)), p ≤ m + 3 ∧ at' = .int .i64 (p : Int) ∧ ed = .int .i64 ((flat bs).length : Int) ∧ Hid (Es W R zs p ev bs wr))
    (fun _ _ at' _ => m + 4 - (intOf at').toNat)
  case atStart => exact ⟨0, [], by omega, rfl, rfl, hide ES0⟩
  case round =>
    obtain ⟨p, bs, hpm, rfl, rfl, hES⟩ := hrel
    by_cases hp : p < m
    · obtain ⟨b, off, rfl, _⟩ := hB.lies (by omega)
      have hbel := hES.out.bel
      obtain ⟨lv, r, hR, hpar⟩ := hES.out.rd
      obtain ⟨q, hq⟩ : ∃ q, Hid (q = min 4 (m - p)) := ⟨_, hide rfl⟩
      have hq1 : q ≤ 4 ∧ p + q ≤ m ∧ 0 < q ∧ (q = 4 ∨ p + q = m) := by rw [hq.out]; omega
      obtain ⟨hq1, hq2, hq3, hq4⟩ := hq1
      have hmm : (min ((p : Int) + 4) (m : Int)).toNat - p = q := by omega
      have hpr := (parse_rest (Nat.le_refl _) hpar).1
      rw [List.length_take] at hpr
      have hmid := (hB.keep hbel).mid p q (by omega)
      have C := feed_any hR hbel.size (some ⟨b, off + p, none⟩) q (cap - p) _ hmid (by omega)
      have hsp : Hid (zs.take (p + q) = zs.take p ++ (zs.drop p).take q) := hide (List.take_add ..)
      have hall : Hid (zs = zs.take p ++ ((zs.drop p).take q ++ zs.drop (p + q))) := hide (by rw [← List.append_assoc, ← List.take_add, List.take_append_drop])
      have hpl : Hid (((zs.drop p).take q).length = q) := hide (by rw [List.length_take, List.length_drop]; omega)
      have hends := hide hES.out.ends
      have HP := hide hpar
      have HR := hide hR
      clear hpar hpr hmid hES hR
      go_wp2_with fail
      refine C.mono ?_
      clear C
      rintro e w2 ⟨hbar, hcase⟩
      have hEnd : w2.ownsRow W.heap.size 3 1 u3 bs.length (Nn (eds bs)) := own_bar hends.out hbar (fun g hg hf => by
        rcases hf with rfl | hf
        · exact HR.out.obj_not hends.out (by decide) hg
        · exact own_types hends.out HR.out.own (by decide) hg hf)
      have hbel2 : Below W.heap.size W w2 := hbel.trans (hbar.below (fun i hi => by
        rcases hi with rfl | hi
        · exact HR.out.from'
        · exact own_from HR.out.own hi) hbel.size)
      rcases hcase with ⟨hno, rfl, hR2⟩ | ⟨v, lv', r2, rs, hpar2, rfl, hR2, hll, _, _⟩
      · have hfin : Hid (frs zs = bs) := hide (by
          have h1 := frs_bad (zs.drop (p + q)) (parse_left HP.out) (by rw [hpl.out]; exact hq1) hno
          have h2 := frs_more (y := (zs.drop p).take q ++ zs.drop (p + q)) HP.out
          rw [← hall.out, ← List.append_assoc, h1, List.append_nil] at h2
          exact h2)
        have HE := hide hEnd
        have HB2 := hide hbel2
        obtain ⟨ea, ec, rfl⟩ := own_val hEnd
        clear hEnd hbel2 hR2 hno hbar hends HP HR hbel
        go_wp2_with fail
        go_ret
        exact ⟨_, rfl, by rw [hfin.out]; exact HE.out, HB2.out⟩
      · have EI0 : Ei W R zs (p + q) bs rs v 0 u3 w2 := ⟨⟨lv', r2, hR2, by rw [hsp.out, parse_some HP.out, hpar2, ahead_some]⟩, hll.less hbel.size, by simpa using hEnd, hbel2⟩
        have HEI := hide EI0
        obtain ⟨va, vc, rfl⟩ := own_val hll.own
        have hX : Hid (frs (zs.take (p + q)) = bs ++ rs.map (·.2)) := hide (frs_whole (by rw [hsp.out, parse_some HP.out, hpar2, ahead_some]))
        have hbyt : ∀ z ∈ zs.take (p + q), 0 ≤ z ∧ z ≤ 255 := fun z hz => hB.byte z (List.mem_of_mem_take hz)
        have hsm : ∀ k, (flat (bs ++ (rs.map (·.2)).take k)).length ≤ m := fun k => by
          have h1 := frs_le hbyt
          rw [hX.out, List.length_take] at h1
          have h2 := edAt_le (bs ++ rs.map (·.2)) (bs.length + k)
          unfold edAt at h2
          rw [List.take_length_add_append] at h2
          omega
        have hcount : bs.length + rs.length ≤ m := by
          have h1 := (parse_rest (Nat.le_refl _) (show parse (zs.take (p + q)) = some (bs ++ rs.map (·.2), r2) by rw [hsp.out, parse_some HP.out, hpar2, ahead_some])).2.1
          rw [List.length_append, List.length_map, List.length_take] at h1
          omega
        have HSM := hide hsm
        clear EI0 hEnd hbel2 hR2 hpar2 hll hbar hends HP HR hbel hsm hbyt
        obtain ⟨wl, hwl⟩ : ∃ wl : World, wl = wr := ⟨_, rfl⟩
        subst hwl
        go_wp2_with fail
        go_loopw [3, 4, 35] (fun ev ed ix wr => ∃ (k : Nat), k ≤ rs.length ∧ ix = .int .i64 (k : Int) ∧ ed = .int .i64 ((flat (bs ++ (rs.map (·.2)).take k)).length : Int) ∧ Hid (Ei W R zs (p + q) bs rs (.slice va rs.length vc) k ev wr))
          (fun _ _ ix _ => rs.length - (intOf ix).toNat)
        case atStart => exact ⟨0, Nat.zero_le _, rfl, by simp, HEI⟩
        case round =>
          obtain ⟨k, hkl, rfl, rfl, hEI⟩ := hrel
          by_cases hk : k < rs.length
          · have hll := hEI.out.ll
            obtain ⟨g, c', hva⟩ := own_shape hll.own (by omega)
            simp only [Value.slice.injEq] at hva
            obtain ⟨rfl, _, rfl⟩ := hva
            have hvc : rs.length ≤ vc := by
              rcases hll.own.2 with ⟨h1, _⟩ | ⟨g', cap', cur, h1, _, _, h2, _⟩
              · cases h1
              · simp only [Value.slice.injEq] at h1
                omega
            have hvr : vc ≤ 9223372036854775807 := by
              rcases hll.own.2 with ⟨h1, _⟩ | ⟨g', cap', cur, h1, _, _, h2, h3, _⟩
              · cases h1
              · simp only [Value.slice.injEq] at h1
                unfold maxLen at h3
                omega
            have hrow := hll.row rs[k] (List.getElem_mem hk)
            obtain ⟨qa, qc, hqv⟩ := own_val hrow
            have hcell : wr.cell? ⟨g, k, none⟩ = some (.slice qa rs[k].2.length qc) := by
              have := hll.own.cells (g := g) rfl k (.slice qa rs[k].2.length qc) (by rw [List.getElem?_map, List.getElem?_eq_getElem hk]; simp [hqv])
              rw [Addr.add_lit, Nat.zero_add] at this
              exact this
            obtain ⟨L, hL⟩ : ∃ L, Hid (L = rs[k].2.length) := ⟨_, hide rfl⟩
            rw [← hL.out] at hcell
            obtain ⟨A, hA⟩ : ∃ A, Hid (A = (flat (bs ++ (rs.map (·.2)).take k)).length) := ⟨_, hide rfl⟩
            have hA1 : A ≤ m := by rw [hA.out]; exact HSM.out k
            have hA2 : Hid ((A : Int) + (4 + (L : Int)) = ((flat (bs ++ (rs.map (·.2)).take (k + 1))).length : Int)) := hide (by
              have e1 : bs ++ (rs.map (·.2)).take (k + 1) = (bs ++ (rs.map (·.2)).take k) ++ [rs[k].2] := by
                rw [List.take_add_one, List.getElem?_eq_getElem (by simpa using hk), List.append_assoc]
                simp
              rw [e1, flat_snoc, List.length_append, fr_length, ← hA.out, ← hL.out]
              omega)
            have hL1 : A + (4 + L) ≤ m := by
              have := HSM.out (k + 1)
              have := hA2.out
              omega
            rw [← hA.out]
            have hends := hEI.out.ends
            have hbs := hEI.out.bel.size
            clear hll hrow hqv
            go_wp2_with (at_builtin; refine wpList_append_own _ rfl (.tmp 44) (.tmp 46) 67 rfl W.heap.size 3 i0 (.int .i64 0) 1 8 Tryz.underlying67 hi hz0 hz1 hz2 rfl (by omega) _ (bs.length + k) _ rfl (hends.alloc _) ⟨_, 0, none⟩ 1 1 [.int .i64 ((A : Int) + (4 + (L : Int)))] rfl rfl (cell_one_new _ _ _) (by simp [Value.oneCell']) (by unfold maxLen; omega) (by omega) (by simp; omega) ?_; intro u w3 hown3 hgrow3 _)
            rw [hA2.out] at hown3
            have HN := hide (hEI.out.step hk hown3 hgrow3)
            clear hown3 hgrow3 hends hEI
            go_roundw
            case rel => exact ⟨k + 1, by omega, by go_num, by rw [← hA2.out], HN⟩
            case measure => simp [intOf]; omega
          · have hke : k = rs.length := by omega
            have hES : Hid (Es W R zs (p + q) u3 (bs ++ rs.map (·.2)) wr) := hide (by
              have h := hEI.out
              rw [hke] at h
              exact ⟨h.rd, by have := h.ends; rwa [List.take_of_length_le (by simp), ← List.length_map (f := fun (x : Value × List Int) => x.2), ← List.length_append] at this, h.bel⟩)
            have hed : Hid (flat (bs ++ (rs.map (·.2)).take k) = flat (bs ++ rs.map (·.2))) := hide (by rw [hke, List.take_of_length_le (by simp)])
            clear hEI
            go_wp2_with fail
            refine ⟨⟨p + 4, bs ++ rs.map (·.2), by omega, by simp, by rw [hed.out], hide ?_⟩, by simp [intOf]; omega⟩
            have h := hES.out
            have e : zs.take (p + 4) = zs.take (p + q) := by
              rcases hq4 with h4 | h4
              · rw [h4]
              · rw [List.take_of_length_le (by omega), List.take_of_length_le (by omega)]
            exact ⟨by rw [e]; exact h.rd, h.ends, h.bel⟩
    · have hfin : Hid (frs zs = bs) := hide (by
        obtain ⟨lv, r, hR, hpar⟩ := hES.out.rd
        rw [List.take_of_length_le (by omega)] at hpar
        exact frs_whole hpar)
      have HE := hide hES.out.ends
      have HB2 := hide hES.out.bel
      obtain ⟨ea, ec, rfl⟩ := own_val hES.out.ends
      clear hES
      go_wp2_with fail
      go_ret
      exact ⟨_, rfl, by rw [hfin.out]; exact HE.out, HB2.out⟩

end Go.Proofs.YtgbboaedhpaocaaGreat

/-
  The calls on a disk beside blocks that are none of its own; leave.
-/
namespace Go.Proofs.YtgbboaedhpaocaaGreat
open Go.RowKit
set_option maxRecDepth 100000
set_option maxRecDepth 100000
set_option linter.unusedVariables false

section
variable {w W V : World} {P : Nat → Prop} {R K : Nat} {d d' : Dsk} {s : ByteArray}

theorem Ay.step {L L' : Lb} (h2 : ∀ g, P g → g < W.heap.size ∧ L g = (0, 0)) (h3 : ∀ g, g < w.heap.size → P g) (h4 : Tb (fun _ => False) w W) (hl : Lx W L L') (hd : Dk V L' R d') (ht : Tl L TD W V) : Ay w P R d' V ∧ No P W V := by
  refine ⟨⟨L', hd, fun g hg => ?_, h3, Tb.trans h4 ht (fun i hi e => ?_)⟩, Tb.mono ht (fun i hi e hp => ?_)⟩
  · have := h2 g hg
    exact ⟨Nat.lt_of_lt_of_le this.1 (Tb.size ht), by rw [hl g this.1]; exact this.2⟩
  · rw [(h2 i (h3 i hi)).2] at e
    exact notTD0 e
  · rw [(h2 i hp).2] at e
    exact notTD0 e

theorem ay_new : Calls Tryz.prog 9 #[] w fun e w' => ∃ R, e = .returned (.pointer (some ⟨R, 0, none⟩)) ∧ w.heap.size ≤ R ∧ Ay w (fun g => g < w.heap.size) R newDsk w' := by
  refine (new_any w).mono ?_
  rintro e w' ⟨R, L, rfl, h1, h2, h3, h4⟩
  exact ⟨R, rfl, h1, L, h2, fun g hg => ⟨Nat.lt_of_lt_of_le hg h4.size, h3 g hg⟩, fun g hg => hg, h4⟩

theorem ay_put {at' : Int} {b off cap : Nat} {data : List Int} (h : Ay w P R d W) (hz : Bw d K) (hK : K < 800000) (hs : s.size ≤ 9223372036854775807) (hB : Bs W (some ⟨b, off, none⟩) 64 cap data) (hP : P b) :
    Calls Tryz.prog 26 #[.pointer (some ⟨R, 0, none⟩), .string s, .int .i64 at', .slice (some ⟨b, off, none⟩) 64 cap] W fun e w' => e = .returned (.int .i64 (d.put s at' 64 data).1) ∧ Ay w P R (d.put s at' 64 data).2 w' ∧ No P W w' := by
  refine (am_put h.am hz.std hK (by have := hz.last; omega) (by have := hz.made; omega) hz.pos hs hB hP).mono ?_
  rintro e w' ⟨rfl, h1, h2, _⟩
  exact ⟨rfl, h1.ay, h2⟩

theorem ay_cut {n : Int} (h : Ay w P R d W) (hz : Bw d K) (hK : K < 800000) (hs : s.size ≤ 9223372036854775807) (hn : n ≤ 9223372036854775807) :
    Calls Tryz.prog 92 #[.pointer (some ⟨R, 0, none⟩), .string s, .int .i64 n] W fun e w' => e = .returned (.int .i64 (d.cut s n).1) ∧ Ay w P R (d.cut s n).2 w' ∧ No P W w' := by
  have hax := h
  obtain ⟨L, ⟨o, a1, a2⟩, a3, a6, a5⟩ := h
  have hf := hz.few (by omega)
  by_cases h0 : d.find s = 0
  · refine (cut_no a1 hs h0).mono ?_
    rintro e w' ⟨rfl, rfl⟩
    have e2 : d.cut s n = (70, d) := by unfold Dsk.cut; rw [if_pos h0]
    rw [e2]
    exact ⟨rfl, hax, No.refl⟩
  · by_cases h1 : n < 0 ∨ ((lk d.std.rw (d.find s)).getD []).length < n
    · refine (cut_arg a1 hf.std hs h0 h1).mono ?_
      rintro e w' ⟨rfl, rfl⟩
      have e2 : d.cut s n = (2, d) := by unfold Dsk.cut; rw [if_neg h0, if_pos h1]
      rw [e2]
      exact ⟨rfl, hax, No.refl⟩
    · have hfd := hz.find s
      refine (cut_go a1 a2 hf.std (by omega) hf.last (hfd.2.2 h0) (by omega) (by omega) (by omega)).mono ?_
      rintro e w' ⟨rfl, L', b1, b2, b3⟩
      exact ⟨rfl, Ay.step a3 a6 a5 b1 b2 b3⟩

theorem ay_sync (h : Ay w P R d W) (hz : Bw d K) (hK : K < 800000) (hs : s.size ≤ 9223372036854775807) :
    Calls Tryz.prog 53 #[.pointer (some ⟨R, 0, none⟩), .string s] W fun e w' => e = .returned (.int .i64 (d.sync s).1) ∧ Ay w P R (d.sync s).2 w' ∧ No P W w' := by
  have hax := h
  obtain ⟨L, ⟨o, a1, a2⟩, a3, a6, a5⟩ := h
  have hf := hz.few (by omega)
  by_cases h0 : d.find s = 0
  · refine (sync_no a1 hs h0).mono ?_
    rintro e w' ⟨rfl, rfl⟩
    have e2 : d.sync s = (70, d) := by unfold Dsk.sync; rw [if_pos h0]
    rw [e2]
    exact ⟨rfl, hax, No.refl⟩
  · refine (sync_go a1 a2 hf.std hf.dur (by omega) hf.last hs h0).mono ?_
    rintro e w' ⟨rfl, L', b1, b2, b3⟩
    exact ⟨rfl, Ay.step a3 a6 a5 b1 b2 b3⟩

theorem ay_arm {n : Int} (h : Ay w P R d W) (hn : n ≤ 9223372036854775807) :
    Calls Tryz.prog 20 #[.pointer (some ⟨R, 0, none⟩), .int .i64 n] W fun e w' => e = .returned (.int .i64 (d.arm n).1) ∧ Ay w P R (d.arm n).2 w' ∧ No P W w' := by
  obtain ⟨L, ⟨o, a1, a2⟩, a3, a6, a5⟩ := h
  refine (arm_any a1 a2 hn).mono ?_
  rintro e w' ⟨rfl, b2, b3⟩
  exact ⟨rfl, Ay.step a3 a6 a5 (Lx.refl _ _) b2 b3⟩

theorem ay_crash {p : Option Addr} {m cap : Nat} {ks : List Bool} (h : Ay w P R d W) (hz : Bw d K) (hK : K < 800000) (hks : ks.length = m) (hcap : m ≤ cap ∧ cap ≤ 9223372036854775807) (hp : Kp W p ks) (hpl : ∀ a, ks ≠ [] → p = some a → P a.block) :
    Calls Tryz.prog 14 #[.pointer (some ⟨R, 0, none⟩), .slice p m cap] W fun e w' => e = .returned (.int .i64 0) ∧ Ay w P R (d.crash ks) w' ∧ No P W w' := by
  obtain ⟨L, ⟨o, a1, a2⟩, a3, a6, a5⟩ := h
  have hf := hz.few (by omega)
  have hl := hf.last
  refine (crash_any a1 (by rw [a2.last]; omega) hf.dur (by omega) hks hcap hp (fun a hne ha => ?_) (fun a hne ha => (a3 _ (hpl a hne ha)).1)).mono ?_
  · rw [(a3 _ (hpl a hne ha)).2]
    unfold TA
    simp
  · rintro e w' ⟨rfl, L', sn, sr, us, b1, b2, b3⟩
    exact ⟨rfl, Ay.step a3 a6 a5 b1 ⟨_, b2, ⟨rfl, a2.made, rfl, rfl, rfl, a2.failure⟩⟩ b3⟩
end

set_option maxHeartbeats 1000000 in
theorem read_down {w : World} {L : Lb} {R : Nat} {o : Ob} {d : Dsk} {s : ByteArray} (h : Di w L R o d.dur d.std d.l) (hsy : Says o d) (hs : s.size ≤ 9223372036854775807) (h0 : d.find s ≠ 0) (hdn : d.down = true) :
    Calls Tryz.prog 15 #[.pointer (some ⟨R, 0, none⟩), .string s] w fun e w' => e = .returned (.tuple #[.slice none 0 0, .int .i64 6]) ∧ w' = w := by
  have hf := find_any h hs
  obtain ⟨F, hF⟩ : ∃ F, F = d.find s := ⟨_, rfl⟩
  rw [show (lk d.std.nm s.data.toList).getD 0 = F from hF.symm] at hf
  rw [← hF] at h0
  rw [if_neg h0] at hf
  have c9 : w.cell? ⟨R, 9, none⟩ = some (.bool true) := by rw [h.oj.c 9, ← hdn, ← hsy.down]; rfl
  clear h hF hsy
  go_enter Tryz.func15, Tryz.ntmps15
  go_wp2_with (go_at_call 58; refine hf.mono ?_; rintro e w1 ⟨rfl, hw1⟩; subst w1)
  go_ret2
  exact ⟨rfl, rfl⟩

/-- What a read tells of a file's sectors. -/
def Dsk.held (d : Dsk) (s : ByteArray) : List (List Int) := if d.read s = 0 then (lk d.std.rw (d.find s)).getD [] else []

theorem ay_read {w W : World} {P : Nat → Prop} {R K : Nat} {d : Dsk} {s : ByteArray} (h : Ay w P R d W) (hz : Bw d K) (hK : K < 800000) (hs : s.size ≤ 9223372036854775807) :
    Calls Tryz.prog 15 #[.pointer (some ⟨R, 0, none⟩), .string s] W fun e w' => ∃ a cap, e = .returned (.tuple #[.slice a (64 * (d.held s).length) cap, .int .i64 (d.read s)]) ∧ w'.ownsRow W.heap.size 5 1 (.slice a (64 * (d.held s).length) cap) (64 * (d.held s).length) (U (d.held s).flatten) ∧ Tb (fun _ => False) W w' := by
  obtain ⟨L, ⟨o, a1, a2⟩, a3, a6, a5⟩ := h
  have hf := hz.few (by omega)
  by_cases h0 : d.find s = 0
  · refine (read_no a1 hs h0).mono ?_
    rintro e w' ⟨rfl, rfl⟩
    have e2 : d.read s = 70 := by unfold Dsk.read; rw [if_pos h0]
    have e3 : d.held s = [] := by unfold Dsk.held; rw [e2]; rfl
    rw [e2, e3]
    exact ⟨none, 0, rfl, World.ownsRow_nil _ _ _ _, Tb.refl _ _⟩
  · cases hdn : d.down with
    | true =>
      refine (read_down a1 a2 hs h0 hdn).mono ?_
      rintro e w' ⟨rfl, rfl⟩
      have e2 : d.read s = 6 := by unfold Dsk.read; rw [if_neg h0, hdn]; rfl
      have e3 : d.held s = [] := by unfold Dsk.held; rw [e2]; rfl
      rw [e2, e3]
      exact ⟨none, 0, rfl, World.ownsRow_nil _ _ _ _, Tb.refl _ _⟩
    | false =>
      refine (read_yes a1 a2 hf.std hs h0 hdn).mono ?_
      rintro e w' ⟨v, rfl, r, b⟩
      have e2 : d.read s = 0 := by unfold Dsk.read; rw [if_neg h0, hdn]; rfl
      have e3 : d.held s = (lk d.std.rw (d.find s)).getD [] := by unfold Dsk.held; rw [e2]; rfl
      have e4 : d.bytes s = (d.held s).flatten := by rw [e3]; rfl
      have e5 : (d.held s).flatten.length = 64 * (d.held s).length := rows_len _ (fun x hx => by rw [e3] at hx; exact ((hz.rows _).2 x hx).1)
      rw [e4, e5] at r
      obtain ⟨a, c, rfl⟩ := row_val r
      rw [e2]
      exact ⟨a, c, rfl, r, Tb.of_fresh b⟩

/-- Of a file that begins with a stream nothing else is left, synced. -/
def Dsk.leave (d : Dsk) (s : ByteArray) (zs : List Int) : Int × Dsk :=
  if (d.sput s zs (zs.length / 62)).1 ≠ 0 then d.sput s zs (zs.length / 62)
  else if ((d.sput s zs (zs.length / 62)).2.cut s (nsec zs.length : Int)).1 ≠ 0 then (d.sput s zs (zs.length / 62)).2.cut s (nsec zs.length : Int)
  else ((d.sput s zs (zs.length / 62)).2.cut s (nsec zs.length : Int)).2.sync s

theorem sput_bw {d : Dsk} {K : Nat} {s : ByteArray} {zs : List Int} (hb : ∀ z ∈ zs, 0 ≤ z ∧ z ≤ 255) (h : Bw d K) (f : Nat) (hK : K + 3 * nsec zs.length < 800000) : Bw (d.sput s zs f).2 (K + 3 * (nsec zs.length - f)) := by
  have := sputs_bw (s := s) hb (List.range' f (nsec zs.length - f)) d K h (by rw [List.length_range']; omega)
  rwa [List.length_range'] at this

theorem leave_bw {d : Dsk} {K : Nat} {s : ByteArray} {zs : List Int} (hb : ∀ z ∈ zs, 0 ≤ z ∧ z ≤ 255) (h : Bw d K) (hK : K + 3 * nsec zs.length < 800000) : Bw (d.leave s zs).2 (K + 4) := by
  have h1 := (sput_bw (s := s) hb h (zs.length / 62) hK).wide (K' := K + 3) (by unfold nsec; omega)
  unfold Dsk.leave
  split
  · exact h1.wide (by omega)
  · split
    · exact h1.cut (by omega) s _
    · exact (h1.cut (by omega) s _).sync s

set_option maxHeartbeats 2000000 in
theorem leave_on {w W : World} {P : Nat → Prop} {R : Nat} {d : Dsk} {K : Nat} {s : ByteArray} {a : Option Addr} {m cap : Nat} {zs : List Int} (h : Ay w P R d W) (hz : Bw d K) (hK : K + 3 * nsec m < 700000) (hs : s.size ≤ 9223372036854775807) (hB : Bs W a m cap zs) (hP : ∀ b off, 0 < m → a = some ⟨b, off, none⟩ → P b) (hm : m ≤ 1000000000) :
    Calls Tryz.prog 47 #[.pointer (some ⟨R, 0, none⟩), .string s, .slice a m cap] W fun e W' => e = .returned (.int .i64 (d.leave s zs).1) ∧ Ay w P R (d.leave s zs).2 W' ∧ No P W W' := by
  have hlen := hB.len
  have hns : nsec m ≤ 1000000000 := by unfold nsec; omega
  have C1 := put_on (from' := m / 62) h hz (by omega) hs hB hP hm (by omega)
  obtain ⟨r1, hr1⟩ : ∃ r1, Hid (r1 = d.sput s zs (m / 62)) := ⟨_, hide rfl⟩
  have hb1 : Bw r1.2 (K + 3) := by
    have := (sput_bw (s := s) hB.byte hz (zs.length / 62) (by rw [hlen]; omega)).wide (K' := K + 3) (by unfold nsec; omega)
    rw [hlen] at this
    rw [hr1.out]
    exact this
  have HL : Hid (d.leave s zs = if r1.1 ≠ 0 then r1 else if (r1.2.cut s (nsec m : Int)).1 ≠ 0 then r1.2.cut s (nsec m : Int) else (r1.2.cut s (nsec m : Int)).2.sync s) := hide (by unfold Dsk.leave; rw [hlen, ← hr1.out])
  rw [← hr1.out] at C1
  have hq : ((m : Int)).tdiv 62 = ((m / 62 : Nat) : Int) := by rw [Int.tdiv_eq_ediv_of_nonneg (by omega)]; omega
  have C51 := sectorsFor_any m (by omega)
  go_enter Tryz.func47, Tryz.ntmps47
  rw [show ((m / 62 : Nat) : Int) = (m : Int) / 62 from by omega] at C1
  obtain ⟨r2, hr2⟩ : ∃ r2, Hid (r2 = r1.2.cut s (nsec m : Int)) := ⟨_, hide rfl⟩
  have hb2 : Bw r2.2 (K + 4) := by rw [hr2.out]; exact hb1.cut (by omega) s _
  rw [← hr2.out] at HL
  have C2 := fun X (hX : Ay w P R r1.2 X) => ay_cut (n := (nsec m : Int)) hX hb1 (by omega) hs (by omega)
  rw [← hr2.out] at C2
  obtain ⟨r3, hr3⟩ : ∃ r3, Hid (r3 = r2.2.sync s) := ⟨_, hide rfl⟩
  rw [← hr3.out] at HL
  have C3 := fun X (hX : Ay w P R r2.2 X) => ay_sync hX hb2 (by omega) hs
  rw [← hr3.out] at C3
  go_wp2_with fail
  refine C1.mono ?_
  rintro e W1 ⟨rfl, h1, n1⟩
  clear C1 hq
  by_cases E1 : r1.1 = 0
  · rw [E1]
    go_wp2_with (go_at_call 51; refine (C51 _).mono ?_; rintro e w2 ⟨rfl, hw2⟩; subst w2)
    refine (C2 _ h1).mono ?_
    rintro e W2 ⟨rfl, h2, n2⟩
    by_cases E2 : r2.1 = 0
    · rw [E2]
      go_wp2_with fail
      refine (C3 _ h2).mono ?_
      rintro e W3 ⟨rfl, h3, n3⟩
      go_wp2_with fail
      go_ret
      rw [HL.out, if_neg (by simp [E1]), if_neg (by simp [E2])]
      exact ⟨rfl, h3, (n1.trans n2).trans n3⟩
    · have e2 : (r2.1 == 0) = false := by simpa using E2
      go_wp2_with fail
      go_ret
      rw [HL.out, if_neg (by simp [E1]), if_pos E2]
      exact ⟨rfl, h2, n1.trans n2⟩
  · have e1 : (r1.1 == 0) = false := by simpa using E1
    go_wp2_with fail
    go_ret
    rw [HL.out, if_pos E1]
    exact ⟨rfl, h1, n1⟩

end Go.Proofs.YtgbboaedhpaocaaGreat

/-
  A segment in memory; Open.
-/
namespace Go.Proofs.YtgbboaedhpaocaaGreat
open Go.RowKit
set_option maxRecDepth 100000
set_option maxRecDepth 100000
set_option linter.unusedVariables false

/-- A segment that Open answered. -/
structure Sg (W : World) (R S : Nat) (nm : ByteArray) (sv ev : Value) (bs : List (List Int)) (br : Bool) : Prop where
  obj : W.heap[S]? = some (.cells #[.pointer (some ⟨S, 0, none⟩), .pointer (some ⟨R, 0, none⟩), .string nm, sv, ev, .bool br] (69 : TypeId) (0, 0))
  str : W.ownsRow 0 5 1 sv (flat bs).length (U (flat bs))
  ends : W.ownsRow 0 3 1 ev bs.length (Nn (eds bs))
  byte : ∀ b ∈ bs, ∀ z ∈ b, 0 ≤ z ∧ z ≤ 255
  short : ∀ b ∈ bs, b.length ≤ 65536
  most : nsec (flat bs).length ≤ 4096

/-- A disk, a segment upon it, and blocks (P) that are neither's. -/
def Sgx (w : World) (P : Nat → Prop) (R S : Nat) (d : Dsk) (nm : ByteArray) (bs : List (List Int)) (br : Bool) (W : World) : Prop :=
  ∃ (Q : Nat → Prop) (sv ev : Value), Ay w (fun g => P g ∨ Q g) R d W ∧ (∀ g, Q g → ¬ P g) ∧ (∀ g, g < w.heap.size → P g) ∧ Sg W R S nm sv ev bs br ∧ Q S ∧ (∀ g, sv.ownBlock = some g → Q g) ∧ (∀ g, ev.ownBlock = some g → Q g)

section
variable {w W V : World} {P : Nat → Prop} {R S : Nat} {d : Dsk} {nm : ByteArray} {sv ev : Value} {bs : List (List Int)} {br : Bool}

theorem Sg.lt (h : Sg W R S nm sv ev bs br) : S < W.heap.size := (Array.getElem?_eq_some_iff.1 h.obj).1
theorem Sg.tb {T : Nat → Prop} (h : Sg W R S nm sv ev bs br) (hb : Tb T W V) (h1 : ¬ T S) (h2 : ∀ g, sv.ownBlock = some g → ¬ T g) (h3 : ∀ g, ev.ownBlock = some g → ¬ T g) : Sg V R S nm sv ev bs br :=
  ⟨(hb.block S h.lt h1).trans h.obj, row_tb h.str hb h2, row_tb h.ends hb h3, h.byte, h.short, h.most⟩

theorem Sgx.ay (h : Sgx w P R S d nm bs br W) : Ay w P R d W := by
  obtain ⟨Q, sv, ev, h1, h2, h3, _⟩ := h
  exact h1.less (fun g hg => .inl hg) h3
theorem Sgx.below (h : Sgx w P R S d nm bs br W) : Below w.heap.size w W := h.ay.below

/-- New memory. -/
theorem Sgx.on (h : Sgx w P R S d nm bs br W) (hb : Tb (fun g => P g ∧ w.heap.size ≤ g) W V) : Sgx w (fun g => P g ∨ (W.heap.size ≤ g ∧ g < V.heap.size)) R S d nm bs br V := by
  obtain ⟨Q, sv, ev, h1, h2, h3, h4, h5, h6, h7⟩ := h
  have h8 := h1.on (hb.mono (fun i _ x => ⟨.inl x.1, x.2⟩))
  refine ⟨Q, sv, ev, h8.less (fun g hg => ?_) (fun g hg => .inl (.inl (h3 g hg))), fun g hg => ?_, fun g hg => .inl (h3 g hg), h4.tb hb (fun x => h2 S h5 x.1) (fun g hg x => h2 g (h6 g hg) x.1) (fun g hg x => h2 g (h7 g hg) x.1), h5, h6, h7⟩
  · rcases hg with (hg | hg) | hg
    · exact .inl (.inl hg)
    · exact .inr hg
    · exact .inl (.inr hg)
  · rintro (hp | hp)
    · exact h2 g hg hp
    · have := h1.lt g (.inr hg)
      omega
theorem Sgx.new (h : Sgx w P R S d nm bs br W) (hb : Tb (fun _ => False) W V) : Sgx w (fun g => P g ∨ (W.heap.size ≤ g ∧ g < V.heap.size)) R S d nm bs br V := h.on (hb.mono (fun _ _ h => h.elim))
theorem Sgx.less {P' : Nat → Prop} (h : Sgx w P R S d nm bs br W) (hp : ∀ g, P' g → P g) (hw : ∀ g, g < w.heap.size → P' g) : Sgx w P' R S d nm bs br W := by
  obtain ⟨Q, sv, ev, h1, h2, h3, h4⟩ := h
  exact ⟨Q, sv, ev, h1.less (fun g hg => hg.imp (hp g) id) (fun g hg => .inl (hw g hg)), fun g hg hp' => h2 g hg (hp g hp'), hw, h4⟩
theorem Sgx.kept (h : Sgx w P R S d nm bs br W) (hb : Tb (fun _ => False) W V) : Sgx w P R S d nm bs br V := (h.new hb).less (fun _ hg => .inl hg) h.ay.old

/-- A call on the disk alone. -/
theorem Sgx.disk {d' : Dsk} (h : Sgx w P R S d nm bs br W) (hk : ∀ Q, Ay w Q R d W → (∀ g, P g → Q g) → Ay w Q R d' V ∧ No Q W V) : Sgx w P R S d' nm bs br V ∧ No P W V := by
  obtain ⟨Q, sv, ev, h1, h2, h3, h4, h5, h6, h7⟩ := h
  obtain ⟨k1, k2⟩ := hk _ h1 (fun g hg => .inl hg)
  exact ⟨⟨Q, sv, ev, k1, h2, h3, h4.tb k2 (fun hn => hn (.inr h5)) (fun g hg hn => hn (.inr (h6 g hg))) (fun g hg hn => hn (.inr (h7 g hg))), h5, h6, h7⟩, k2.less (fun g hg => .inl hg)⟩
end

theorem own_take {w : World} {base n k c : Nat} {e : TypeId} {a : Option Addr} {xs : List Value} (h : w.ownsRow base e 1 (.slice a n c) n xs) (hk : k ≤ n) : w.ownsRow base e 1 (.slice a k c) k (xs.take k) := by
  refine ⟨by rw [List.length_take, h.1]; omega, ?_⟩
  rcases h.2 with ⟨h1, h2⟩ | ⟨g, cap, cur, h1, h2, h3, h4, h5, h6, h7⟩
  · simp only [Value.slice.injEq] at h1
    obtain ⟨rfl, rfl, rfl⟩ := h1
    obtain rfl : k = 0 := by omega
    exact .inl ⟨rfl, rfl⟩
  · simp only [Value.slice.injEq] at h1
    obtain ⟨rfl, _, rfl⟩ := h1
    refine .inr ⟨g, c, cur, rfl, h2, h3, by omega, h5, h6, ?_⟩
    rw [Nat.mul_one] at h7 ⊢
    rw [← h7, List.take_take, Nat.min_eq_left hk]

theorem flat_len4 (bs : List (List Int)) : 4 * bs.length ≤ (flat bs).length := by
  induction bs with
  | nil => simp [flat]
  | cons b bs ih => rw [flat_cons, List.length_append, fr_length, List.length_cons]; omega
theorem edAt_all (bs : List (List Int)) : edAt bs bs.length = (flat bs).length := by unfold edAt; rw [List.take_length]

/-- The frames of a file. -/
def Dsk.frames (d : Dsk) (s : ByteArray) : List (List Int) := frs (strm (d.held s))
/-- What Open does to a disk, and its error. -/
def Dsk.opn (d : Dsk) (s : ByteArray) : Int × Dsk :=
  if d.read s ≠ 0 ∧ d.read s ≠ 70 then (d.read s, d) else if (d.held s).flatten = clean (flat (d.frames s)) then (0, d) else d.leave s (flat (d.frames s))

theorem held_bw {d : Dsk} {K : Nat} (h : Bw d K) (s : ByteArray) : (d.held s).length ≤ 4096 ∧ ∀ x ∈ d.held s, x.length = 64 ∧ ∀ z ∈ x, 0 ≤ z ∧ z ≤ 255 := by
  unfold Dsk.held
  split
  · exact h.rows _
  · exact ⟨by simp, by simp⟩

theorem frames_ok {d : Dsk} {K : Nat} (h : Bw d K) (s : ByteArray) : (∀ b ∈ d.frames s, ∀ z ∈ b, 0 ≤ z ∧ z ≤ 255) ∧ (∀ b ∈ d.frames s, b.length ≤ 65536) ∧ (flat (d.frames s)).length ≤ 62 * 4096 := by
  have hh := held_bw h s
  have hb : ∀ z ∈ strm (d.held s), 0 ≤ z ∧ z ≤ 255 := strm_byte (fun r hr => (hh.2 r hr).2)
  have h1 := frs_le hb
  have h2 := strm_le (d.held s)
  exact ⟨frs_byte hb, frs_short hb, by unfold Dsk.frames; omega⟩

theorem opn_bw {d : Dsk} {K : Nat} (h : Bw d K) (hK : K + 13000 < 700000) (s : ByteArray) : Bw (d.opn s).2 (K + 4) := by
  obtain ⟨f1, f2, f3⟩ := frames_ok h s
  unfold Dsk.opn
  split
  · exact h.wide (by omega)
  · split
    · exact h.wide (by omega)
    · exact leave_bw (flat_byte f1) h (by unfold nsec; omega)

theorem built69 (R : Nat) (nm : ByteArray) (sv ev : Value) (a b : Option Addr) (n m c k : Nat) (hs : sv = .slice a n c) (he : ev = .slice b m k) : Tryz.prog.built (69 : TypeId) [(1, .pointer (some ⟨R, 0, none⟩)), (2, .string nm), (3, sv), (4, ev)] =
    some #[.pointer none, .pointer (some ⟨R, 0, none⟩), .string nm, sv, ev, .bool false] := by
  subst hs
  subst he
  kernel_rfl

theorem own_caps {w : World} {base n c : Nat} {e : TypeId} {a : Option Addr} {xs : List Value} (h : w.ownsRow base e 1 (.slice a n c) n xs) : n ≤ c ∧ c ≤ 9223372036854775807 := by
  rcases h.2 with ⟨h1, _⟩ | ⟨g, cap, cur, h1, _, _, h4, h5, _⟩
  · simp only [Value.slice.injEq] at h1
    omega
  · simp only [Value.slice.injEq] at h1
    unfold maxLen at h5
    omega

/-- A segment is made. -/
theorem seg_made {w X : World} {P P4 : Nat → Prop} {R : Nat} {d : Dsk} {nm : ByteArray} {sv ev : Value} {bs : List (List Int)} (hA : Ay w P4 R d X) (hPP : ∀ g, P g → P4 g) (hw : ∀ g, g < w.heap.size → P g)
    (hs : X.ownsRow 0 5 1 sv (flat bs).length (U (flat bs))) (he : X.ownsRow 0 3 1 ev bs.length (Nn (eds bs))) (h1 : ∀ g, sv.ownBlock = some g → P4 g ∧ ¬ P g) (h2 : ∀ g, ev.ownBlock = some g → P4 g ∧ ¬ P g)
    (hb : ∀ b ∈ bs, ∀ z ∈ b, 0 ≤ z ∧ z ≤ 255) (hsh : ∀ b ∈ bs, b.length ≤ 65536) (hm : nsec (flat bs).length ≤ 4096) :
    Sgx w P R X.heap.size d nm bs false ((X.alloc (.cells #[.pointer none, .pointer (some ⟨R, 0, none⟩), .string nm, sv, ev, .bool false] (69 : TypeId))).setCell ⟨X.heap.size, 0, none⟩ (.pointer (some ⟨X.heap.size, 0, none⟩))) ∧
    No P X ((X.alloc (.cells #[.pointer none, .pointer (some ⟨R, 0, none⟩), .string nm, sv, ev, .bool false] (69 : TypeId))).setCell ⟨X.heap.size, 0, none⟩ (.pointer (some ⟨X.heap.size, 0, none⟩))) := by
  obtain ⟨Y, hY⟩ : ∃ Y, Y = (X.alloc (.cells #[.pointer none, .pointer (some ⟨R, 0, none⟩), .string nm, sv, ev, .bool false] (69 : TypeId))).setCell ⟨X.heap.size, 0, none⟩ (.pointer (some ⟨X.heap.size, 0, none⟩)) := ⟨_, rfl⟩
  have ht : Tb (fun _ => False) X Y := by
    rw [hY]
    exact ((Tb.refl (fun _ => False) X).alloc _).trans (Tb.set (S := fun k => k = X.heap.size) X.heap.size 0 _ rfl) (fun i hi e => by omega)
  have hsz : X.heap.size < Y.heap.size := by rw [hY]; simp [World.setCell]
  rw [← hY]
  have hob : Y.heap[X.heap.size]? = some (.cells #[.pointer (some ⟨X.heap.size, 0, none⟩), .pointer (some ⟨R, 0, none⟩), .string nm, sv, ev, .bool false] (69 : TypeId) (0, 0)) := by
    rw [hY]
    exact heap_setCell_same _ X.heap.size 0 _ (69 : TypeId) _ (heap_alloc_new X _)
  clear hY
  have hn := hA.new ht
  refine ⟨⟨fun g => ¬ P g ∧ (P4 g ∨ g = X.heap.size), sv, ev, hn.less (fun g hg => ?_) (fun g hg => .inl (hw g hg)), fun g hg => hg.1, hw, ⟨hob, row_tb hs ht (fun _ _ h => h), row_tb he ht (fun _ _ h => h), hb, hsh, hm⟩, ⟨fun hp => ?_, .inr rfl⟩, fun g hg => ⟨(h1 g hg).2, .inl (h1 g hg).1⟩, fun g hg => ⟨(h2 g hg).2, .inl (h2 g hg).1⟩⟩, No.of ht⟩
  · rcases hg with hg | ⟨_, hg | hg⟩
    · exact .inl (hPP g hg)
    · exact .inl hg
    · exact .inr ⟨by omega, by omega⟩
  · have := hA.lt _ (hPP _ hp)
    omega

set_option maxHeartbeats 4000000 in
theorem open_on {w W : World} {P : Nat → Prop} {R : Nat} {d : Dsk} {K : Nat} {s : ByteArray} (h : Ay w P R d W) (hz : Bw d K) (hK : K + 13000 < 600000) (hs : s.size ≤ 1000000) :
    Calls Tryz.prog 10 #[.pointer (some ⟨R, 0, none⟩), .string s] W fun e W' => ∃ pv, e = .returned (.tuple #[pv, .int .i64 (d.opn s).1]) ∧ No P W W' ∧ Ay w P R (d.opn s).2 W' ∧
      ((d.opn s).1 = 0 → ∃ S, pv = .pointer (some ⟨S, 0, none⟩) ∧ W.heap.size ≤ S ∧ Sgx w P R S (d.opn s).2 s (d.frames s) false W') ∧ ((d.opn s).1 ≠ 0 → pv = .pointer none) := by
  have hh := held_bw hz s
  obtain ⟨f1, f2, f3⟩ := frames_ok hz s
  have C1 := ay_read h hz (by omega) (by omega : s.size ≤ 9223372036854775807)
  obtain ⟨N, hN⟩ : ∃ N, Hid (N = (d.held s).length) := ⟨_, hide rfl⟩
  rw [← hN.out] at C1 hh
  obtain ⟨E, hE⟩ : ∃ E, Hid (E = d.read s) := ⟨_, hide rfl⟩
  rw [← hE.out] at C1
  have hNl := hh.1
  go_enter Tryz.func10, Tryz.ntmps10
  have hE3 : E = 6 ∨ (E = 0 ∨ E = 70) := by
    rw [hE.out]
    unfold Dsk.read
    split
    · exact .inr (.inr rfl)
    · split
      · exact .inl rfl
      · exact .inr (.inl rfl)
  rcases hE3 with rfl | hE3
  · have ho : Hid (d.opn s = (6, d)) := hide (by unfold Dsk.opn; rw [← hE.out, if_pos (by decide)])
    go_wp2_with fail
    refine C1.mono ?_
    rintro e W1 ⟨a, cap, rfl, hr1, t1⟩
    have F1 := hide (h.kept t1)
    have F2 := hide (No.of (P := P) t1)
    clear hr1 t1
    go_wp2_with fail
    go_ret2
    rw [ho.out]
    exact ⟨_, rfl, F2.out, F1.out, fun e => absurd e (by simp), fun _ => rfl⟩
  · have ho : Hid (d.opn s = if (d.held s).flatten = clean (flat (d.frames s)) then (0, d) else d.leave s (flat (d.frames s))) := hide (by
      unfold Dsk.opn
      rw [← hE.out, if_neg]
      rcases hE3 with e | e <;> rw [e] <;> simp)
    have h64 : ∀ r ∈ d.held s, r.length = 64 := fun r hr => (hh.2 r hr).1
    have hby : ∀ z ∈ (d.held s).flatten, 0 ≤ z ∧ z ≤ 255 := fun z hz => by
      obtain ⟨r, hr, hz⟩ := List.mem_flatten.1 hz
      exact (hh.2 r hr).2 z hz
    have hsb : ∀ z ∈ strm (d.held s), 0 ≤ z ∧ z ≤ 255 := strm_byte (fun r hr => (hh.2 r hr).2)
    have hsl := strm_le (d.held s)
    rw [← hN.out] at hsl
    have hfl : Hid ((strm (d.held s)).take (flat (d.frames s)).length = flat (d.frames s)) := hide (frs_take hsb)
    have hfl2 : (flat (d.frames s)).length ≤ (strm (d.held s)).length := frs_le hsb
    have hct : ∀ k, Dn (d.held s).flatten N k → cat (d.held s).flatten k = strm (d.held s) := fun k hk => cat_strm _ h64 k (by rw [hN.out] at hk; exact hk)
    have HCT := hide hct
    have HBY := hide hby
    have HSB := hide hsb
    obtain ⟨bs, hbs⟩ : ∃ bs, Hid (bs = d.frames s) := ⟨_, hide rfl⟩
    have hbs2 : frs (strm (d.held s)) = bs := hbs.out.symm
    rw [← hbs.out] at ho hfl hfl2 f1 f2 f3
    obtain ⟨zs, hzs⟩ : ∃ zs, Hid (zs = strm (d.held s)) := ⟨_, hide rfl⟩
    rw [← hzs.out] at hfl hfl2 hsl HSB HCT hbs2
    obtain ⟨hs', hhs⟩ : ∃ hs', Hid (hs' = (d.held s).flatten) := ⟨_, hide rfl⟩
    rw [← hhs.out] at HBY HCT ho C1
    have hbl := flat_len4 bs
    have HS2 := hide hbs2
    have FB : Hid (∀ z ∈ flat bs, 0 ≤ z ∧ z ≤ 255) := hide (flat_byte f1)
    have HED := hide (edAt_all bs)
    obtain ⟨B, hB⟩ : ∃ B, Hid (B = bs.length) := ⟨_, hide rfl⟩
    obtain ⟨F, hF⟩ : ∃ F, Hid (F = (flat bs).length) := ⟨_, hide rfl⟩
    obtain ⟨M, hM⟩ : ∃ M, Hid (M = zs.length) := ⟨_, hide rfl⟩
    rw [← hB.out, ← hF.out] at hbl
    rw [← hF.out] at hfl2 f3 hfl
    rw [← hM.out] at hfl2 hsl
    clear hct hby hsb h64 hbs2
    rcases hE3 with rfl | rfl
    all_goals
      go_wp2_with fail
      refine C1.mono ?_
      rintro e W1 ⟨a, cap, rfl, hr1, t1⟩
      have hB1 := own_bs hr1 HBY.out
      go_wp2_with fail
      refine (streamOf_any hB1 (by omega)).mono ?_
      rintro e W2 ⟨sv, k, rfl, hDn, hr2, t2⟩
      rw [HCT.out k hDn, ← hM.out] at hr2
      obtain ⟨sa, sc, rfl⟩ := row_val hr2
      clear hDn
      go_wp2_with fail
      refine (endsOf_any (own_bs hr2 HSB.out) (by omega)).mono ?_
      rintro e W3 ⟨ev, rfl, hr3, t3⟩
      rw [HS2.out, ← hB.out] at hr3
      obtain ⟨ea, ec, rfl⟩ := row_val hr3
      go_wp2_with fail
      refine (endOf_any hr3 hB.out (Nat.le_refl _) (by omega)).mono ?_
      rintro e w3 ⟨rfl, hw3⟩
      subst w3
      rw [hB.out, HED.out, ← hF.out, ← hB.out]
      have hcp := own_caps hr2
      have hsc1 : F ≤ sc := by omega
      have hsc2 := hcp.2
      have s1 := t1.size
      have s2 := t2.size
      have s3 := t3.size
      have hr2' : W3.ownsRow W1.heap.size 5 1 (.slice sa F sc) F (U (flat bs)) := by
        have := own_take (row_tb hr2 (Tb.of_fresh (S := fun _ => False) t3) (fun _ _ h => h)) hfl2
        have e2 : (U zs).take F = U (flat bs) := by rw [← hfl.out]; simp [U]
        rwa [e2] at this
      have CC := isClean_any (own_bs (row_tb (row_tb hr1 (Tb.of_fresh (S := fun _ => False) t2) (fun _ _ h => h)) (Tb.of_fresh (S := fun _ => False) t3) (fun _ _ h => h)) HBY.out) (own_bs hr2' FB.out) (by omega) (by omega)
      have T3 : Tb (fun _ => False) W W3 := (t1.trans (T := fun _ => False) (Tb.of_fresh t2) (fun _ _ h => h)).trans (T := fun _ => False) (Tb.of_fresh t3) (fun _ _ h => h)
      clear hr1 hr2 hB1 hcp
      have HT3 := hide T3
      have HR2 := hide hr2'
      have HR3 := hide hr3
      by_cases hcl : hs' = clean (flat bs)
      · rw [decide_eq_true hcl] at CC
        have ho2 : Hid (d.opn s = (0, d)) := hide (by rw [ho.out, if_pos hcl])
        clear hcl T3 hr2' hr3 t1 t2 t3
        go_wp2_with fail
        refine CC.mono ?_
        rintro e W4 ⟨rfl, t4⟩
        clear CC
        go_wp2_with fail
        refine (clone_any (by omega) W4).mono ?_
        rintro e W5 ⟨rfl, t5⟩
        have hfin := seg_made (P := P) (nm := s) (sv := .slice sa F sc) (ev := .slice ea B ec) (bs := bs) (h.new (HT3.out.trans (T := fun _ => False) ((Tb.of_fresh t4).trans (T := fun _ => False) t5 (fun _ _ h => h)) (fun _ _ h => h))) (fun g hg => .inl hg) h.old
          (by have := row_tb (row_tb HR2.out (Tb.of_fresh (S := fun _ => False) t4) (fun _ _ h => h)) t5 (fun _ _ h => h); rw [← hF.out]; exact own_less this (Nat.zero_le _))
          (by have := row_tb (row_tb HR3.out (Tb.of_fresh (S := fun _ => False) t4) (fun _ _ h => h)) t5 (fun _ _ h => h); rw [← hB.out]; exact own_less this (Nat.zero_le _))
          (fun g hg => by have h5 := HR2.out.lt g hg; have := t4.size; have := t5.size; exact ⟨.inr ⟨by omega, by omega⟩, fun hp => by have := h.lt g hp; omega⟩)
          (fun g hg => by have h5 := HR3.out.lt g hg; have := t4.size; have := t5.size; exact ⟨.inr ⟨by omega, by omega⟩, fun hp => by have := h.lt g hp; omega⟩)
          f1 f2 (by rw [← hF.out]; unfold nsec; omega)
        have HF := hide hfin
        have HN0 := hide (No.of (P := P) (HT3.out.trans (T := fun _ => False) ((Tb.of_fresh t4).trans (T := fun _ => False) t5 (fun _ _ h => h)) (fun _ _ h => h)))
        clear hfin t4 t5
        have hbd := built69 R s (.slice sa F sc) (.slice ea B ec) sa ea F B sc ec rfl rfl
        obtain ⟨X1, hX1⟩ : ∃ X1, X1 = W5.alloc (.cells #[.pointer none, .pointer (some ⟨R, 0, none⟩), .string s, .slice sa F sc, .slice ea B ec, .bool false] (69 : TypeId)) := ⟨_, rfl⟩
        have hX1o : X1.heap[W5.heap.size]? = some (.cells #[.pointer none, .pointer (some ⟨R, 0, none⟩), .string s, .slice sa F sc, .slice ea B ec, .bool false] (69 : TypeId) (0, 0)) := by rw [hX1]; exact heap_alloc_new W5 _
        have c0 : X1.cell? ⟨W5.heap.size, 0, none⟩ = some (.pointer none) := by rw [cell_of_row X1 W5.heap.size 0 _ (69 : TypeId) (0, 0) hX1o]; rfl
        have f0 := frozen_of_row X1 W5.heap.size 0 _ (69 : TypeId) hX1o
        rw [← hX1] at HF
        have HX1 := hide hX1
        clear hX1 hX1o
        go_wp2_with (first | (refine wpList_buildTo rfl (69 : TypeId) #[(1, .tmp 46), (2, .tmp 48), (3, .tmp 49), (4, .tmp 50)] rfl (some 51) rfl #[.pointer none, .pointer (some ⟨R, 0, none⟩), .string s, .slice sa F sc, .slice ea B ec, .bool false] (by simpa [Act.eval, Act.put] using hbd) ?_) | (rw [← HX1.out]))
        go_ret2
        rw [ho2.out, ← hbs.out]
        exact ⟨_, rfl, HN0.out.trans HF.out.2, HF.out.1.ay, fun _ => ⟨_, rfl, Tb.size HN0.out, HF.out.1⟩, fun e => absurd rfl e⟩
      · rw [decide_eq_false hcl] at CC
        obtain ⟨r, hr⟩ : ∃ r, Hid (r = d.leave s (flat bs)) := ⟨_, hide rfl⟩
        have ho2 : Hid (d.opn s = r) := hide (by rw [ho.out, if_neg hcl, hr.out])
        clear hcl T3 hr2' hr3 t1 t2 t3
        go_wp2_with fail
        refine CC.mono ?_
        rintro e W4 ⟨rfl, t4⟩
        clear CC
        have T4 : Tb (fun _ => False) W W4 := HT3.out.trans (T := fun _ => False) (Tb.of_fresh t4) (fun _ _ h => h)
        have hr24 := row_tb HR2.out (Tb.of_fresh (S := fun _ => False) t4) (fun _ _ h => h)
        have hr34 := row_tb HR3.out (Tb.of_fresh (S := fun _ => False) t4) (fun _ _ h => h)
        have s4 := t4.size
        have CL := leave_on (s := s) (h.new T4) hz (by unfold nsec; omega) (by omega) (own_bs hr24 FB.out) (fun b off h0 e => by
          have h5 := HR2.out.lt b (by rw [e]; rfl)
          exact .inr ⟨by omega, by omega⟩) (by omega)
        rw [← hr.out] at CL
        have HT4 := hide T4
        have H24 := hide hr24
        have H34 := hide hr34
        clear T4 hr24 hr34 t4
        go_wp2_with fail
        refine CL.mono ?_
        rintro e W6 ⟨rfl, hA6, n6⟩
        clear CL
        by_cases hr0 : r.1 = 0
        · rw [hr0]
          have HA6 := hide hA6
          have HN6 := hide n6
          clear hA6 n6
          go_wp2_with fail
          refine (clone_any (by omega) W6).mono ?_
          rintro e W5 ⟨rfl, t5⟩
          have hfin := seg_made (P := P) (nm := s) (sv := .slice sa F sc) (ev := .slice ea B ec) (bs := bs) (HA6.out.kept t5) (fun g hg => .inl hg) h.old
            (by have := row_tb (HN6.out.row H24.out (fun g hg => by have h5 := HR2.out.lt g hg; exact .inr ⟨by omega, by omega⟩)) t5 (fun _ _ h => h); rw [← hF.out]; exact own_less this (Nat.zero_le _))
            (by have := row_tb (HN6.out.row H34.out (fun g hg => by have h5 := HR3.out.lt g hg; exact .inr ⟨by omega, by omega⟩)) t5 (fun _ _ h => h); rw [← hB.out]; exact own_less this (Nat.zero_le _))
            (fun g hg => by have h5 := HR2.out.lt g hg; exact ⟨.inr ⟨by omega, by omega⟩, fun hp => by have := h.lt g hp; omega⟩)
            (fun g hg => by have h5 := HR3.out.lt g hg; exact ⟨.inr ⟨by omega, by omega⟩, fun hp => by have := h.lt g hp; omega⟩)
            f1 f2 (by rw [← hF.out]; unfold nsec; omega)
          have HF := hide hfin
          have HN0 := hide (((No.of (P := P) HT4.out).trans (HN6.out.less (fun g hg => .inl hg))).trans (No.of t5))
          clear hfin t5
          have hbd := built69 R s (.slice sa F sc) (.slice ea B ec) sa ea F B sc ec rfl rfl
          obtain ⟨X1, hX1⟩ : ∃ X1, X1 = W5.alloc (.cells #[.pointer none, .pointer (some ⟨R, 0, none⟩), .string s, .slice sa F sc, .slice ea B ec, .bool false] (69 : TypeId)) := ⟨_, rfl⟩
          have hX1o : X1.heap[W5.heap.size]? = some (.cells #[.pointer none, .pointer (some ⟨R, 0, none⟩), .string s, .slice sa F sc, .slice ea B ec, .bool false] (69 : TypeId) (0, 0)) := by rw [hX1]; exact heap_alloc_new W5 _
          have c0 : X1.cell? ⟨W5.heap.size, 0, none⟩ = some (.pointer none) := by rw [cell_of_row X1 W5.heap.size 0 _ (69 : TypeId) (0, 0) hX1o]; rfl
          have f0 := frozen_of_row X1 W5.heap.size 0 _ (69 : TypeId) hX1o
          rw [← hX1] at HF
          have HX1 := hide hX1
          clear hX1 hX1o
          go_wp2_with (first | (refine wpList_buildTo rfl (69 : TypeId) #[(1, .tmp 46), (2, .tmp 48), (3, .tmp 49), (4, .tmp 50)] rfl (some 51) rfl #[.pointer none, .pointer (some ⟨R, 0, none⟩), .string s, .slice sa F sc, .slice ea B ec, .bool false] (by simpa [Act.eval, Act.put] using hbd) ?_) | (rw [← HX1.out]))
          go_ret2
          rw [ho2.out, ← hbs.out]
          exact ⟨_, by rw [hr0]; rfl, HN0.out.trans HF.out.2, HF.out.1.ay, fun _ => ⟨_, rfl, Tb.size HN0.out, HF.out.1⟩, fun e => absurd hr0 e⟩
        · have er : (r.1 == 0) = false := by simpa using hr0
          have HA6 := hide (hA6.less (fun g hg => .inl hg) h.old)
          have HN6 := hide ((No.of (P := P) HT4.out).trans (n6.less (fun g hg => .inl hg)))
          have HR0 := hide hr0
          clear hA6 n6 hr0
          go_wp2_with fail
          go_ret2
          rw [ho2.out]
          exact ⟨_, rfl, HN6.out, HA6.out, fun e => absurd e HR0.out, fun _ => rfl⟩

end Go.Proofs.YtgbboaedhpaocaaGreat

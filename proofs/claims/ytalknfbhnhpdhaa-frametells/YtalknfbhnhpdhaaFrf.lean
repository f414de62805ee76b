/-
  What the document's own Put and Feed, and OverBytes, do.
-/
import Derived.Test.YtalknfbhnhpdhaaFcu
import Derived.Test.YtalknfbhnhpdhaaCpy
import Derived.Test.YtalknfbhnhpdhaaOrn
import Derived.Test.YtalknfbhnhpdhaaOra
namespace Go.Proofs.Ytalknfbhnhpdhaa
open Go.RowKit

set_option maxHeartbeats 400000 in
theorem rput_yes (a : Option Addr) (n cap : Nat) (zs : List Int) (w : World) (hB : Bs w a n cap zs) (hn : n ≤ 65536) :
    Calls Try.prog 18 #[.slice a n cap] w fun e w' => ∃ g d, e = .returned (.tuple #[.slice (some ⟨g, 0, none⟩) (4 + n) d, .int .i64 0]) ∧
      Bs w' (some ⟨g, 0, none⟩) (4 + n) d (fr zs) ∧ Below w.heap.size w w' := by
  obtain ⟨i0, hi, hz0, hz1, hz2⟩ := info_parts info5
  have hl := hB.len
  go_enter Try.func18, Try.ntmps18
  go_wp2_with fail
  refine (radd_any none 0 0 [] n 4 _ (Bs.nil _) (by omega) (by omega) (by omega) (by omega)).mono ?_
  rintro e w1 ⟨g1, d1, rfl, hown1, hb1⟩
  simp only [Nat.zero_add, List.nil_append] at hown1
  have hB1 := hB.keep hb1
  have hs1 := hb1.size
  go_wp2_with (at_builtin; refine wpList_append_bs rfl _ _ 22 rfl w.heap.size 5 i0 Try.underlying22 hi hz0 hz1 hz2 _ 4 _ rfl hown1 _ _ _ zs rfl hB1 (by omega) (by omega) (by omega) ?_; intro g d w' hown hgrow)
  have hbel : Below w.heap.size w w' := hb1.grown hgrow hs1 (fun k hk => own_from hown1 hk)
  clear hgrow hown1
  go_wp2_with fail
  go_ret2
  refine ⟨g, d, rfl, ?_, hbel⟩
  rw [← U_append] at hown
  rw [fr, hl]
  exact own_bs hown (fun z hz => (List.mem_append.1 hz).elim (be_byte _ _ z) (hB.byte z))

set_option maxHeartbeats 400000 in
theorem rput_no (a : Option Addr) (n cap : Nat) (w : World) (hn : 65536 < n) (hr : n ≤ 9223372036854775807) :
    Calls Try.prog 18 #[.slice a n cap] w fun e w' => e = .returned (.tuple #[.slice none 0 0, .int .i64 3]) ∧ w' = w := by
  go_enter Try.func18, Try.ntmps18
  go_wp2_with fail
  go_ret2
  exact ⟨rfl, rfl⟩

set_option maxHeartbeats 400000 in
theorem over_any (base g n d : Nat) (X : List Value) (w : World) (h : w.ownsRow base 5 1 (.slice (some ⟨g, 0, none⟩) (n + 3) d) (n + 3) X) (hn : n ≤ 140737488351232) :
    Calls Try.prog 16 #[.slice (some ⟨g, 0, none⟩) n d] w fun e w' => e = .returned (.tuple #[]) ∧ Bar (fun k => k = g) w w' := by
  have hd : n + 3 ≤ d ∧ d ≤ 9223372036854775807 := by
    rcases h.2 with ⟨h1, _⟩ | ⟨g', c, cur, h1, _, _, h2, h3, _⟩
    · cases h1
    · simp only [Value.slice.injEq] at h1
      obtain ⟨_, _, rfl⟩ := h1
      unfold maxLen at h3
      exact ⟨h2, by omega⟩
  obtain ⟨hd1, hd2⟩ := hd
  go_enter Try.func16, Try.ntmps16
  go_wp2_with fail
  go_loopw [3] (fun i wr => ∃ (k : Nat) (Y : List Value), k ≤ n + 3 ∧ i = .int .i64 k ∧ Hid (wr.ownsRow base 5 1 (.slice (some ⟨g, 0, none⟩) (n + 3) d) (n + 3) Y) ∧ Bar (fun k => k = g) w wr) (fun i _ => n + 3 - (intOf i).toNat)
  case atStart => exact ⟨0, X, Nat.zero_le _, rfl, hide h, Bar.refl _ _⟩
  case round =>
    obtain ⟨k, Y, hk, rfl, hown, hb⟩ := hrel
    by_cases hlt : k < n + 3
    · have hyl : Y.length = n + 3 := by have := hown.out.1; omega
      have hc := hown.out.cells (g := g) rfl k _ (List.getElem?_eq_getElem (by omega : k < Y.length))
      simp only [Addr.add_lit, Nat.zero_add] at hc
      have hf : wr.frozen? ⟨g, k, none⟩ = false := by
        rcases hown.out.2 with ⟨h1, _⟩ | ⟨g', c, cur, h1, _, hg, _⟩
        · cases h1
        · simp only [Value.slice.injEq, Option.some.injEq, Addr.mk.injEq] at h1
          obtain ⟨⟨rfl, _, _⟩, _, rfl⟩ := h1
          exact frozen_of_row wr g k cur 5 hg
      obtain ⟨hs, hg⟩ := hown.out.stored k (.int .u8 (mb 9 k))
      have HS := hide hs
      have HG := hide hg
      clear hs hg
      go_wp2_with (go_at_call 27; refine (mark_any 9 k (by omega) (by omega) _).mono ?_; rintro e w1 ⟨rfl, rfl⟩)
      go_roundw
      case rel => exact ⟨k + 1, _, by omega, by go_num, HS, hb.trans (Bar.of_grown HG.out) (fun i hi => .inl (by simp only [Option.some.injEq] at hi; exact hi.symm))⟩
      case measure => simp [intOf]; omega
    · go_wp2_with fail
      go_end0
      exact ⟨rfl, hb⟩

/-- What a call of Feed makes of what is left: the bodies told, what is left then, whether it has ended, and the error. -/
def step (l : List Int) (ended : Bool) (zs : List Int) : List (List Int) × List Int × Bool × Int :=
  if ended = true then ([], l, true, 30)
  else match parse (l ++ zs) with
    | none => ([], [], true, 30)
    | some (bs, r) => (bs, r, false, 0)

set_option maxRecDepth 100000 in
set_option maxHeartbeats 1000000 in
theorem rfeed_open (lv : Value) (l : List Int) (a : Option Addr) (n cap : Nat) (zs : List Int) (base : Nat) (w : World) (hl : w.ownsRow base 5 1 lv l.length (U l)) (hlb : ∀ z ∈ l, 0 ≤ z ∧ z ≤ 255) (hB : Bs w a n cap zs) (hn : l.length + n ≤ 10000000000000) :
    Calls Try.prog 14 #[.agg #[lv, .bool false], .slice a n cap] w fun e w' => Below w.heap.size w w' ∧
      ((parse (l ++ zs) = none ∧ e = .returned (.tuple #[.agg #[.slice none 0 0, .bool true], .slice none 0 0, .int .i64 30])) ∨
      ∃ lv' v p rs, parse (l ++ zs) = some (rs.map (·.2), (l ++ zs).drop p) ∧ p ≤ l.length + n ∧ e = .returned (.tuple #[.agg #[lv', .bool false], v, .int .i64 0]) ∧ LL w' w.heap.size v rs ∧ w'.ownsRow w.heap.size 5 1 lv' (l.length + n - p) (U ((l ++ zs).drop p))) := by
  obtain ⟨i0, hi, hz0, hz1, hz2⟩ := info_parts info5
  obtain ⟨i1, hi', hy0, hy1, hy2⟩ := info_parts info22
  obtain ⟨la, lc, rfl⟩ := own_val hl
  have hLB := own_bs hl hlb
  go_enter Try.func14, Try.ntmps14
  go_wp2_with fail
  obtain ⟨W1, hW1⟩ : ∃ W1, W1 = (w.alloc (.cells #[.slice la l.length lc, .bool false] 37)).alloc (.cells #[.slice none 0 0, .bool false] 37) := ⟨_, rfl⟩
  rw [← hW1]
  have hb1 : Below w.heap.size w W1 := by
    rw [hW1]
    exact ((fresh w _).alloc (by simp) _)
  have hT1 : W1.heap[w.heap.size + 1]? = some (.cells #[.slice none 0 0, .bool false] 37 (0, 0)) := by
    rw [hW1]
    have := heap_alloc_new (w.alloc (.cells #[.slice la l.length lc, .bool false] 37)) (.cells #[.slice none 0 0, .bool false] 37)
    simpa using this
  have hsz1 : W1.heap.size = w.heap.size + 2 := by rw [hW1]; simp
  have HSZ := hide hsz1
  have hs1 : w.heap.size + 1 < W1.heap.size := by omega
  clear hW1 hsz1
  refine (copy_any _ _ _ l _ (hLB.keep hb1) (by omega)).mono ?_
  rintro e w2 ⟨c2, d2, rfl, hown2, hb2⟩
  have hs2 := hb2.size
  have hB2 := (hB.keep hb1).keep hb2
  go_wp2_with (at_builtin; refine wpList_append_val rfl _ _ 22 rfl W1.heap.size 5 i0 Try.underlying22 hi hz0 hz1 hz2 _ _ _ rfl hown2 _ _ _ _ rfl hB2 (by omega) (by omega) ?_; intro v3 w3 hown3 hgrow3)
  have hb3 : Below W1.heap.size W1 w3 := hb2.grown hgrow3 hs2 (fun x hx => own_from hown2 hx)
  have hs3 := hb3.size
  rw [← U_append] at hown3
  have hAb : ∀ z ∈ l ++ zs, 0 ≤ z ∧ z ≤ 255 := fun z hz => (List.mem_append.1 hz).elim (hlb z) (hB.byte z)
  have hAl : (l ++ zs).length = l.length + n := by rw [List.length_append, hB.len]
  obtain ⟨a3, c3, rfl⟩ := own_val hown3
  have hsh : (a3 = none ∧ c3 = 0) ∨ ∃ g, a3 = some ⟨g, 0, none⟩ := by
    rcases hown3.2 with ⟨e, _⟩ | ⟨g, c, cur, e, _⟩
    · simp only [Value.slice.injEq] at e
      exact .inl ⟨e.1, e.2.2⟩
    · simp only [Value.slice.injEq] at e
      exact .inr ⟨g, e.1⟩
  have HSH := hide hsh
  have hB3 : Bs w3 a3 (l.length + n) c3 (l ++ zs) := own_bs hown3 hAb
  have hT3 : w3.heap[w.heap.size + 1]? = some (.cells #[.slice none 0 0, .bool false] 37 (0, 0)) := (hb3.block _ hs1).trans hT1
  have hb3' : Below w.heap.size w w3 := hb1.trans (hb3.mono (by omega))
  have HT := hide hT3
  clear hgrow3 hown3 hown2 hB2 hb2 hb3 hb1 hT1 hsh hT3 hLB hl hB hlb
  obtain ⟨A, hA⟩ : ∃ A, A = l ++ zs := ⟨_, rfl⟩
  obtain ⟨N, hN⟩ : ∃ N, N = l.length + n := ⟨_, rfl⟩
  rw [← hA, ← hN] at hAl hB3
  rw [← hA] at hAb
  rw [← hN] at hn ⊢
  have HQ := hide (And.intro hA hN)
  clear hA hN
  have hle3 := hB3.le
  have hre3 := hB3.reach
  have hs3' : w.heap.size + 1 < w3.heap.size := by omega
  -- behind the loop
  have hend : ∀ (wr : World) (p : Nat), Below w3.heap.size w3 wr → p ≤ N → wr.cell? ⟨w.heap.size + 1, 0, none⟩ = some (.slice none 0 0) ∧ wr.cell? ⟨w.heap.size + 1, 1, none⟩ = some (.bool false) ∧ wr.frozen? ⟨w.heap.size + 1, 0, none⟩ = false ∧ wr.frozen? ⟨w.heap.size + 1, 1, none⟩ = false := by
    intro wr p hb _
    have hT := (hb.block _ hs3').trans HT.out
    exact ⟨by rw [cell_of_row wr _ 0 _ 37 (0, 0) hT]; rfl, by rw [cell_of_row wr _ 1 _ 37 (0, 0) hT]; rfl, frozen_of_row wr _ 0 _ 37 hT, frozen_of_row wr _ 1 _ 37 hT⟩
  have HE := hide hend
  clear hend
  go_wp2_with fail
  go_loopw [8, 9] (fun ov at' wr => ∃ (p : Nat) (rs : List (Value × List Int)), p ≤ N ∧ 4 * rs.length ≤ p ∧ at' = .int .i64 p ∧ Hid (parse A = ahead (rs.map (·.2)) (parse (A.drop p))) ∧ Hid (LL wr w3.heap.size ov rs) ∧ Below w3.heap.size w3 wr)
    (fun _ at' _ => N - (intOf at').toNat)
  case atStart => exact ⟨0, [], Nat.zero_le _, Nat.le_refl _, rfl, hide (by simp [ahead_nil]), hide (LL.nil _ _), Below.refl _ _⟩
  case round =>
    obtain ⟨p, rs, hp, hrs, rfl, hpar, hll, hb⟩ := hrel
    have hbs := hb.size
    have hBr := hB3.keep hb
    obtain ⟨e1, e2, e3, e4⟩ := HE.out wr p hb hp
    by_cases c1 : p + 4 ≤ N
    · have HN : num A p 4 = un ((A.drop p).take 4) := by
        simp only [num]
        rw [if_pos (by simp [wit]; omega)]
        simp
      have hlt : num A p 4 < 4294967296 := num_lt hAb p 4
      have HN2 := hide HN
      have C := rnum_any a3 N c3 A p 4 wr hBr (by omega) (by omega)
      clear HN
      generalize num A p 4 = m at C hlt HN2
      by_cases c2 : 65536 < m
      · go_wp2_with fail
        refine C.mono ?_
        rintro e w4 ⟨rfl, hw4⟩
        subst hw4
        go_wp2_with fail
        refine bodyPost_ret (v := .tuple #[.agg #[.slice none 0 0, .bool true], .slice none 0 0, .int .i64 30]) (by simp [results, Try.results14, go_sem, e1, e2]) rfl ?_
        refine ⟨((hb3'.trans (hb.mono (by omega))).setCell (p := ⟨w.heap.size + 1, 0, none⟩) (by simp) _).setCell (p := ⟨w.heap.size + 1, 1, none⟩) (by simp) _, .inl ⟨?_, rfl⟩⟩
        rw [← HQ.out.1, hpar.out, parse_long (by simp; omega) (by rw [← HN2.out]; exact c2)]
        rfl
      · by_cases c3' : N < p + 4 + m
        · have hstop : Hid (parse (A.drop p) = some ([], A.drop p)) := hide (parse_begun (by simp; omega) (by rw [← HN2.out]; omega) (by rw [← HN2.out]; simp; omega))
          have hfin : ∀ (w5 : World) (c5 : Option Addr) (d5 : Nat), w5.ownsRow wr.heap.size 5 1 (.slice c5 (N - p) d5) (N - p) (U (A.drop p)) → Below wr.heap.size wr w5 →
              Below w.heap.size w ((w5.setCell ⟨w.heap.size + 1, 0, none⟩ (.slice c5 (N - p) d5)).setCell ⟨w.heap.size + 1, 1, none⟩ (.bool false)) ∧
              LL ((w5.setCell ⟨w.heap.size + 1, 0, none⟩ (.slice c5 (N - p) d5)).setCell ⟨w.heap.size + 1, 1, none⟩ (.bool false)) w.heap.size u8 rs ∧
              ((w5.setCell ⟨w.heap.size + 1, 0, none⟩ (.slice c5 (N - p) d5)).setCell ⟨w.heap.size + 1, 1, none⟩ (.bool false)).ownsRow w.heap.size 5 1 (.slice c5 (N - p) d5) (N - p) (U (A.drop p)) ∧
              w5.cell? ⟨w.heap.size + 1, 0, none⟩ = some (.slice none 0 0) ∧ w5.cell? ⟨w.heap.size + 1, 1, none⟩ = some (.bool false) ∧ w5.frozen? ⟨w.heap.size + 1, 0, none⟩ = false ∧ w5.frozen? ⟨w.heap.size + 1, 1, none⟩ = false := by
            intro w5 c5 d5 k1 k2
            have h5 := HE.out w5 p (hb.trans (k2.mono hbs)) hp
            refine ⟨((hb3'.trans ((hb.trans (k2.mono hbs)).mono (by omega))).setCell (p := ⟨w.heap.size + 1, 0, none⟩) (by simp) _).setCell (p := ⟨w.heap.size + 1, 1, none⟩) (by simp) _, ?_, ?_, h5⟩
            · have hL := hll.out.keep k2
              refine (((hL.bar (Bar.set w5 (w.heap.size + 1) 0 _) (fun b hv e => ?_) (fun q hq b hv e => ?_)).bar (Bar.set _ (w.heap.size + 1) 1 _) (fun b hv e => ?_) (fun q hq b hv e => ?_)).less (by omega))
              · have := own_from hL.own hv
                omega
              · have := own_from (hL.row q hq) hv
                omega
              · have := own_from hL.own hv
                omega
              · have := own_from (hL.row q hq) hv
                omega
            · refine own_less (ownsRow_setCell_other (ownsRow_setCell_other k1 (fun e => ?_) _) (fun e => ?_) _) (by omega)
              · have := own_from k1 e
                simp only at this
                omega
              · have := own_from k1 e
                simp only at this
                omega
          have hpq : parse A = some (rs.map (·.2), A.drop p) := by rw [hpar.out, hstop.out, ahead_some, List.append_nil]
          have HF := hide hfin
          have HPQ := hide hpq
          clear hfin hpq hstop hpar hll
          by_cases c4 : c3 = p
          · omega
          · have hg : ∃ g, a3 = some ⟨g, 0, none⟩ := by
              rcases HSH.out with ⟨_, e⟩ | h
              · omega
              · exact h
            obtain ⟨g, rfl⟩ := hg
            have hP := hBr.mid p (N - p) (by omega)
            rw [List.take_of_length_le (by simp [hAl]), Nat.zero_add] at hP
            go_wp2_with fail
            refine C.mono ?_
            rintro e w4 ⟨rfl, hw4⟩
            subst hw4
            go_wp2_with fail
            refine (copy_any _ _ _ _ _ hP (by omega)).mono ?_
            rintro e w5 ⟨c5, d5, rfl, hown5, hb5⟩
            obtain ⟨f1, f2, f3, f4, f5, f6, f7⟩ := HF.out w5 c5 d5 hown5 hb5
            have F1 := hide f1
            have F2 := hide f2
            have F3 := hide f3
            clear f1 f2 f3 hown5 HF
            go_wp2_with fail
            refine bodyPost_ret (v := .tuple #[.agg #[.slice c5 (N - p) d5, .bool false], u8, .int .i64 0]) (by simp [results, Try.results14, go_sem, f4, f5]) rfl ?_
            refine ⟨F1.out, .inr ⟨.slice c5 (N - p) d5, u8, p, rs, ?_, ?_, rfl, F2.out, ?_⟩⟩
            · rw [← HQ.out.1]; exact HPQ.out
            · rw [← HQ.out.2]; exact hp
            · rw [← HQ.out.1, ← HQ.out.2]; exact F3.out
        · obtain ⟨b, rfl⟩ : ∃ g, a3 = some ⟨g, 0, none⟩ := by
            rcases HSH.out with ⟨_, e⟩ | h
            · omega
            · exact h
          have hstep : Hid (parse A = ahead (rs.map (·.2) ++ [(A.drop (p + 4)).take m]) (parse (A.drop (p + 4 + m)))) := hide (by
            rw [hpar.out, parse_one (zs := A.drop p) HN2.out.symm (by omega) (by simp; omega), ahead_ahead]
            simp only [List.drop_drop, Nat.add_assoc])
          have hlm : ((A.drop (p + 4)).take m).length = m := by simp; omega
          have hfin : ∀ (v u : Value) (w2 w6 : World) (g : Option Addr) (d : Nat), w2.ownsRow wr.heap.size 5 1 (.slice g m d) m (U ((A.drop (p + 4)).take m)) → Below wr.heap.size wr w2 → LL wr w3.heap.size v rs →
              w6.ownsRow w3.heap.size 22 1 u (rs.length + 1) (rs.map (·.1) ++ [.slice g m d]) → (w2.alloc (.cells #[.slice g m d] 22)).grownBy w6 v.ownBlock →
              LL w6 w3.heap.size u (rs ++ [(.slice g m d, (A.drop (p + 4)).take m)]) ∧ Below w3.heap.size w3 w6 := by
            intro v u w2 w6 g d h1 h2 h3 h4 h5
            have hs2 := h2.size
            have h6 := (h3.keep h2).keep ((Below.refl _ w2).alloc (Nat.le_refl _) (.cells #[.slice g m d] 22))
            refine ⟨h6.more (by simp only [List.mem_singleton, forall_eq]; rw [hlm]; exact own_less (h1.alloc _) hbs) (by simp only [List.mem_singleton, forall_eq]; exact take_byte (drop_byte hAb _) _) (by simp) ?_ (by simp) h4 h5, ?_⟩
            · intro r hr s hs
              simp only [List.mem_singleton] at hs
              subst hs
              cases hrb : r.1.ownBlock with
              | none => exact .inl rfl
              | some x =>
                refine .inr (fun e => ?_)
                have := (h3.row r hr).lt x hrb
                have := own_from h1 e.symm
                omega
            · exact (hb.trans ((h2.mono hbs).alloc (by omega) _)).grown h5 (by simp; omega) (fun k hk => own_from h3.own hk)
          have HF := hide hfin
          clear hfin
          by_cases c4 : c3 = p + 4
          · have hm0 : m = 0 := by omega
            have hP : Bs wr (some ⟨b, 0, none⟩) m 0 ((A.drop (p + 4)).take m) := by
              rw [hm0]
              simpa using Bs.zero wr _ 0 (by omega)
            clear hm0
            subst c4
            go_wp2_with fail
            refine C.mono ?_
            rintro e w4 ⟨rfl, hw4⟩
            subst hw4
            go_wp2_with fail
            refine (copy_any _ _ _ _ _ hP (by omega)).mono ?_
            rintro e w5 ⟨g, d, rfl, hown2, hb2⟩
            have hs2 := hb2.size
            have hL2 := (hll.out.keep hb2).own
            go_wp2_with (at_builtin; refine wpList_append_own _ rfl _ _ 28 rfl w3.heap.size 22 i1 (.slice none 0 0) 1 24 Try.underlying28 hi' hy0 hy1 hy2 rfl (by omega) _ rs.length (rs.map (·.1)) rfl (hL2.alloc _) ⟨_, 0, none⟩ 1 1 [.slice g m d] rfl rfl (cell_one_new _ _ _) (by simp [Value.oneCell']) (by unfold maxLen; omega) (by omega) (by simp; omega) ?_; intro u w6 hown6 hgrow6 _)
            have hf := HF.out _ u w5 w6 g d hown2 hb2 hll.out hown6 hgrow6
            clear hgrow6 hown6 hown2 hL2 HF hll
            go_roundw
            case rel => exact ⟨p + 4 + m, _, by omega, by simp; omega, by go_num, by simpa using hstep, hide hf.1, hf.2⟩
            case measure => simp [intOf]; omega
          · have hP := hBr.mid (p + 4) m (by omega)
            rw [Nat.zero_add] at hP
            go_wp2_with fail
            refine C.mono ?_
            rintro e w4 ⟨rfl, hw4⟩
            subst hw4
            go_wp2_with fail
            refine (copy_any _ _ _ _ _ hP (by omega)).mono ?_
            rintro e w5 ⟨g, d, rfl, hown2, hb2⟩
            have hs2 := hb2.size
            have hL2 := (hll.out.keep hb2).own
            go_wp2_with (at_builtin; refine wpList_append_own _ rfl _ _ 28 rfl w3.heap.size 22 i1 (.slice none 0 0) 1 24 Try.underlying28 hi' hy0 hy1 hy2 rfl (by omega) _ rs.length (rs.map (·.1)) rfl (hL2.alloc _) ⟨_, 0, none⟩ 1 1 [.slice g m d] rfl rfl (cell_one_new _ _ _) (by simp [Value.oneCell']) (by unfold maxLen; omega) (by omega) (by simp; omega) ?_; intro u w6 hown6 hgrow6 _)
            have hf := HF.out _ u w5 w6 g d hown2 hb2 hll.out hown6 hgrow6
            clear hgrow6 hown6 hown2 hL2 HF hll
            go_roundw
            case rel => exact ⟨p + 4 + m, _, by omega, by simp; omega, by go_num, by simpa using hstep, hide hf.1, hf.2⟩
            case measure => simp [intOf]; omega
    · have hstop : Hid (parse (A.drop p) = some ([], A.drop p)) := hide (parse_few (by simp; omega))
      have hfin : ∀ (w5 : World) (c5 : Option Addr) (d5 : Nat), w5.ownsRow wr.heap.size 5 1 (.slice c5 (N - p) d5) (N - p) (U (A.drop p)) → Below wr.heap.size wr w5 →
          Below w.heap.size w ((w5.setCell ⟨w.heap.size + 1, 0, none⟩ (.slice c5 (N - p) d5)).setCell ⟨w.heap.size + 1, 1, none⟩ (.bool false)) ∧
          LL ((w5.setCell ⟨w.heap.size + 1, 0, none⟩ (.slice c5 (N - p) d5)).setCell ⟨w.heap.size + 1, 1, none⟩ (.bool false)) w.heap.size u8 rs ∧
          ((w5.setCell ⟨w.heap.size + 1, 0, none⟩ (.slice c5 (N - p) d5)).setCell ⟨w.heap.size + 1, 1, none⟩ (.bool false)).ownsRow w.heap.size 5 1 (.slice c5 (N - p) d5) (N - p) (U (A.drop p)) ∧
          w5.cell? ⟨w.heap.size + 1, 0, none⟩ = some (.slice none 0 0) ∧ w5.cell? ⟨w.heap.size + 1, 1, none⟩ = some (.bool false) ∧ w5.frozen? ⟨w.heap.size + 1, 0, none⟩ = false ∧ w5.frozen? ⟨w.heap.size + 1, 1, none⟩ = false := by
        intro w5 c5 d5 k1 k2
        have h5 := HE.out w5 p (hb.trans (k2.mono hbs)) hp
        refine ⟨((hb3'.trans ((hb.trans (k2.mono hbs)).mono (by omega))).setCell (p := ⟨w.heap.size + 1, 0, none⟩) (by simp) _).setCell (p := ⟨w.heap.size + 1, 1, none⟩) (by simp) _, ?_, ?_, h5⟩
        · have hL := hll.out.keep k2
          refine (((hL.bar (Bar.set w5 (w.heap.size + 1) 0 _) (fun b hv e => ?_) (fun q hq b hv e => ?_)).bar (Bar.set _ (w.heap.size + 1) 1 _) (fun b hv e => ?_) (fun q hq b hv e => ?_)).less (by omega))
          · have := own_from hL.own hv
            omega
          · have := own_from (hL.row q hq) hv
            omega
          · have := own_from hL.own hv
            omega
          · have := own_from (hL.row q hq) hv
            omega
        · refine own_less (ownsRow_setCell_other (ownsRow_setCell_other k1 (fun e => ?_) _) (fun e => ?_) _) (by omega)
          · have := own_from k1 e
            simp only at this
            omega
          · have := own_from k1 e
            simp only at this
            omega
      have hpq : parse A = some (rs.map (·.2), A.drop p) := by rw [hpar.out, hstop.out, ahead_some, List.append_nil]
      have HF := hide hfin
      have HPQ := hide hpq
      clear hfin hpq hstop hpar hll
      by_cases c4 : c3 = p
      · subst c4
        have e0 : N - c3 = 0 := by omega
        rw [e0] at HF
        have hP : Bs wr a3 0 0 (A.drop c3) := by
          rw [List.drop_eq_nil_of_le (by omega)]
          rcases HSH.out with ⟨rfl, _⟩ | ⟨g, rfl⟩
          · exact Bs.nil _
          · exact Bs.zero _ _ _ (by omega)
        clear e0
        go_wp2_with fail
        refine (copy_any _ _ _ _ _ hP (by omega)).mono ?_
        rintro e w5 ⟨c5, d5, rfl, hown5, hb5⟩
        obtain ⟨f1, f2, f3, f4, f5, f6, f7⟩ := HF.out w5 c5 d5 hown5 hb5
        have F1 := hide f1
        have F2 := hide f2
        have F3 := hide f3
        clear f1 f2 f3 hown5 HF
        go_wp2_with fail
        refine bodyPost_ret (v := .tuple #[.agg #[.slice c5 0 d5, .bool false], u8, .int .i64 0]) (by simp [results, Try.results14, go_sem, f4, f5]) rfl ?_
        refine ⟨F1.out, .inr ⟨.slice c5 0 d5, u8, c3, rs, ?_, ?_, rfl, F2.out, ?_⟩⟩
        · rw [← HQ.out.1]; exact HPQ.out
        · rw [← HQ.out.2]; exact hp
        · rw [← HQ.out.1, ← HQ.out.2, show N - c3 = 0 by omega]; exact F3.out
      · have hg : ∃ g, a3 = some ⟨g, 0, none⟩ := by
          rcases HSH.out with ⟨_, e⟩ | h
          · omega
          · exact h
        obtain ⟨g, rfl⟩ := hg
        have hP := hBr.mid p (N - p) (by omega)
        rw [List.take_of_length_le (by simp [hAl]), Nat.zero_add] at hP
        go_wp2_with fail
        refine (copy_any _ _ _ _ _ hP (by omega)).mono ?_
        rintro e w5 ⟨c5, d5, rfl, hown5, hb5⟩
        obtain ⟨f1, f2, f3, f4, f5, f6, f7⟩ := HF.out w5 c5 d5 hown5 hb5
        have F1 := hide f1
        have F2 := hide f2
        have F3 := hide f3
        clear f1 f2 f3 hown5 HF
        go_wp2_with fail
        refine bodyPost_ret (v := .tuple #[.agg #[.slice c5 (N - p) d5, .bool false], u8, .int .i64 0]) (by simp [results, Try.results14, go_sem, f4, f5]) rfl ?_
        refine ⟨F1.out, .inr ⟨.slice c5 (N - p) d5, u8, p, rs, ?_, ?_, rfl, F2.out, ?_⟩⟩
        · rw [← HQ.out.1]; exact HPQ.out
        · rw [← HQ.out.2]; exact hp
        · rw [← HQ.out.1, ← HQ.out.2]; exact F3.out

end Go.Proofs.Ytalknfbhnhpdhaa

/-
  What 'whole' of the program's frame does, for any slice of bytes.
-/
import Derived.Test.YtkdolabhcbjipaaGreatGpu
import Derived.Test.YtkdolabhcbjipaaGreatOnm
import Derived.WalkMore
namespace Go.Proofs.YtkdolabhcbjipaaGreat
open Go.RowKit
set_option maxRecDepth 100000

theorem Bs.mid {w : World} {b off n cap : Nat} {zs : List Int} (hB : Bs w (some ⟨b, off, none⟩) n cap zs) (i m : Nat) (hi : i + m ≤ n) : Bs w (some ⟨b, off + i, none⟩) m (cap - i) ((zs.drop i).take m) := by
  have hl := hB.len
  have hle := hB.le
  have hr := hB.reach
  refine ⟨by simp; omega, by omega, by omega, take_byte (drop_byte hB.byte _) _, fun h => (by cases h), fun h => ?_⟩
  obtain ⟨b', off', ha, hc⟩ := hB.lies (by omega)
  simp only [Option.some.injEq, Addr.mk.injEq, and_true] at ha
  obtain ⟨rfl, rfl⟩ := ha
  refine ⟨_, _, rfl, fun k hk => ?_⟩
  rw [Nat.add_assoc, hc (i + k) (by omega)]
  simp [List.getD, hk]

theorem Bs.zero (w : World) (ad : Addr) (cap : Nat) (hr : cap ≤ 9223372036854775807) : Bs w (some ad) 0 cap [] := ⟨rfl, Nat.zero_le _, hr, by simp, fun h => (by cases h), fun h => by omega⟩

theorem info22 : (Tryz.prog.info? 30).map (fun i => (i.zero, i.size, i.bytes)) = some (some (.slice none 0 0), 1, 24) := by kernel_rfl

set_option maxRecDepth 100000 in
set_option maxHeartbeats 1000000 in
theorem whole_any (a : Option Addr) (n cap : Nat) (zs : List Int) (w : World) (hB : Bs w a n cap zs) (hn : n ≤ 10000000000000) :
    Calls Tryz.prog 75 #[.slice a n cap] w fun e w' => Below w.heap.size w w' ∧ ((parse zs = none ∧ e = .returned (.tuple #[.slice none 0 0, .int .i64 0, .bool false])) ∨
      ∃ v p rs, parse zs = some (rs.map (·.2), zs.drop p) ∧ p ≤ n ∧ e = .returned (.tuple #[v, .int .i64 (p : Nat), .bool true]) ∧ LL w' w.heap.size v rs) := by
  obtain ⟨i0, hi, hz0, hz1, hz2⟩ := info_parts info22
  have hl := hB.len
  have hle := hB.le
  have hr := hB.reach
  go_enter Tryz.func75, Tryz.ntmps75
  go_wp2_with fail
  go_step3
  go_wp2_with fail
  go_step3
  go_wp2_with fail
  go_loopw [5, 6] (fun bv at' wr => ∃ (p : Nat) (rs : List (Value × List Int)), p ≤ n ∧ 4 * rs.length ≤ p ∧ at' = .int .i64 p ∧ Hid (parse zs = ahead (rs.map (·.2)) (parse (zs.drop p))) ∧ Hid (LL wr w.heap.size bv rs) ∧ Below w.heap.size w wr)
    (fun _ at' _ => n - (intOf at').toNat)
  case atStart => exact ⟨0, [], Nat.zero_le _, Nat.le_refl _, rfl, hide (by simp [ahead_nil]), hide (LL.nil _ _), Below.refl _ _⟩
  case round =>
    obtain ⟨p, rs, hp, hrs, rfl, hpar, hll, hb⟩ := hrel
    have hbs := hb.size
    have hBr := hB.keep hb
    have HW : wit n p 4 = decide (p + 4 ≤ n) := by simp only [wit]; congr 1; simp; omega
    have C := u32_any a n cap zs p wr hBr
    rw [HW] at C
    clear HW
    by_cases c1 : p + 4 ≤ n
    · have HN : num zs p 4 = un ((zs.drop p).take 4) := by
        simp only [num]
        rw [if_pos (by simp [wit]; omega)]
        simp
      have hlt : num zs p 4 < 4294967296 := num_lt hB.byte p 4
      have HN2 := hide HN
      clear HN
      generalize num zs p 4 = m at C hlt HN2
      rw [decide_eq_true c1] at C
      by_cases c2 : 65536 < m
      · go_wp2_with (go_at_call 88; refine C.mono ?_; rintro e w1 ⟨rfl, rfl⟩)
        try rw [Exit.noGoto_ret]
        go_ret3
        refine ⟨hb, .inl ⟨?_, rfl⟩⟩
        rw [hpar.out, parse_long (by simp; omega) (by rw [← HN2.out]; exact c2)]
        rfl
      · by_cases c3 : n < p + 4 + m
        · go_wp2_with (go_at_call 88; refine C.mono ?_; rintro e w1 ⟨rfl, rfl⟩)
          try rw [Exit.noGoto_ret]
          go_ret3
          refine ⟨hb, .inr ⟨_, p, rs, ?_, hp, rfl, hll.out⟩⟩
          rw [hpar.out, parse_begun (by simp; omega) (by rw [← HN2.out]; omega) (by rw [← HN2.out]; simp; omega), ahead_some, List.append_nil]
        · obtain ⟨b, off, rfl, _⟩ := hB.lies (by omega)
          have hstep : Hid (parse zs = ahead (rs.map (·.2) ++ [(zs.drop (p + 4)).take m]) (parse (zs.drop (p + 4 + m)))) := hide (by
            rw [hpar.out, parse_one (zs := zs.drop p) HN2.out.symm (by omega) (by simp; omega), ahead_ahead]
            simp only [List.drop_drop, Nat.add_assoc])
          have hP : ∃ ad, Bs wr (some ad) m (cap - (p + 4)) ((zs.drop (p + 4)).take m) ∧ (if cap = p + 4 then ad = ⟨b, off, none⟩ else ad = ⟨b, off + (p + 4), none⟩) := by
            by_cases c4 : cap = p + 4
            · have hm0 : m = 0 := by omega
              subst hm0
              exact ⟨⟨b, off, none⟩, by simpa using Bs.zero wr _ _ (by omega), by simp [c4]⟩
            · exact ⟨_, hBr.mid (p + 4) m (by omega), by rw [if_neg c4]⟩
          obtain ⟨ad, hP, hif⟩ := hP
          have hlm : ((zs.drop (p + 4)).take m).length = m := hP.len
          have hfin : ∀ (v u : Value) (w2 w3 : World) (g d : Nat), w2.ownsRow wr.heap.size 5 1 (.slice (some ⟨g, 0, none⟩) m d) m (U ((zs.drop (p + 4)).take m)) → Below wr.heap.size wr w2 → LL wr w.heap.size v rs →
              w3.ownsRow w.heap.size 30 1 u (rs.length + 1) (rs.map (·.1) ++ [.slice (some ⟨g, 0, none⟩) m d]) → (w2.alloc (.cells #[.slice (some ⟨g, 0, none⟩) m d] 30)).grownBy w3 v.ownBlock →
              LL w3 w.heap.size u (rs ++ [(.slice (some ⟨g, 0, none⟩) m d, (zs.drop (p + 4)).take m)]) ∧ Below w.heap.size w w3 := by
            intro v u w2 w3 g d h1 h2 h3 h4 h5
            have hs2 := h2.size
            have h6 := (h3.keep h2).keep ((Below.refl _ w2).alloc (Nat.le_refl _) (.cells #[.slice (some ⟨g, 0, none⟩) m d] 30))
            refine ⟨h6.more (by simp only [List.mem_singleton, forall_eq]; rw [hlm]; exact own_less (h1.alloc _) hbs) (by simp only [List.mem_singleton, forall_eq]; exact hP.byte) (by simp) ?_ (by simp) h4 h5, ?_⟩
            · intro r hr s hs
              simp only [List.mem_singleton] at hs
              subst hs
              have := own_lt h1
              cases hrb : r.1.ownBlock with
              | none => exact .inl rfl
              | some x =>
                have := (h3.row r hr).lt x hrb
                exact .inr (by simp only [Value.ownBlock, ne_eq, Option.some.injEq]; omega)
            · exact (hb.trans ((h2.mono hbs).alloc (by omega) _)).grown h5 (by simp; omega) (fun k hk => own_from h3.own hk)
          have HF := hide hfin
          clear hfin
          by_cases c4 : cap = p + 4
          · rw [if_pos c4] at hif
            subst hif
            subst c4
            rw [Nat.sub_self] at hP
            go_wp2_with (go_at_call 88; refine C.mono ?_; rintro e w1 ⟨rfl, rfl⟩)
            refine (fcopied_any _ _ _ _ _ hP (by omega)).mono ?_
            rintro e w2 ⟨g, d, rfl, hown2, hb2⟩
            have hs2 := hb2.size
            have hL2 := (hll.out.keep hb2).own
            go_wp2_with (at_builtin; refine wpList_append_own _ rfl (.tmp 37) (.tmp 43) 42 rfl w.heap.size 30 i0 (.slice none 0 0) 1 24 Tryz.underlying42 hi hz0 hz1 hz2 rfl (by omega) _ rs.length (rs.map (·.1)) rfl (hL2.alloc _) ⟨_, 0, none⟩ 1 1 [.slice (some ⟨g, 0, none⟩) m d] rfl rfl (cell_one_new _ _ _) (by simp [Value.oneCell']) (by unfold maxLen; omega) (by omega) (by simp; omega) ?_; intro u w3 hown3 hgrow3 _)
            have hf := HF.out _ u w2 w3 g d hown2 hb2 hll.out hown3 hgrow3
            clear hgrow3 hown3 hown2 hL2 HF hll
            go_roundw
            case rel => exact ⟨p + 4 + m, _, by omega, by simp; omega, by go_num, by simpa using hstep, hide hf.1, hf.2⟩
            case measure => simp [intOf]; omega
          · rw [if_neg c4] at hif
            subst hif
            go_wp2_with (go_at_call 88; refine C.mono ?_; rintro e w1 ⟨rfl, rfl⟩)
            refine (fcopied_any _ _ _ _ _ hP (by omega)).mono ?_
            rintro e w2 ⟨g, d, rfl, hown2, hb2⟩
            have hs2 := hb2.size
            have hL2 := (hll.out.keep hb2).own
            go_wp2_with (at_builtin; refine wpList_append_own _ rfl (.tmp 37) (.tmp 43) 42 rfl w.heap.size 30 i0 (.slice none 0 0) 1 24 Tryz.underlying42 hi hz0 hz1 hz2 rfl (by omega) _ rs.length (rs.map (·.1)) rfl (hL2.alloc _) ⟨_, 0, none⟩ 1 1 [.slice (some ⟨g, 0, none⟩) m d] rfl rfl (cell_one_new _ _ _) (by simp [Value.oneCell']) (by unfold maxLen; omega) (by omega) (by simp; omega) ?_; intro u w3 hown3 hgrow3 _)
            have hf := HF.out _ u w2 w3 g d hown2 hb2 hll.out hown3 hgrow3
            clear hgrow3 hown3 hown2 hL2 HF hll
            go_roundw
            case rel => exact ⟨p + 4 + m, _, by omega, by simp; omega, by go_num, by simpa using hstep, hide hf.1, hf.2⟩
            case measure => simp [intOf]; omega
    · rw [decide_eq_false c1] at C
      go_wp2_with (go_at_call 88; refine C.mono ?_; rintro e w1 ⟨rfl, rfl⟩)
      try rw [Exit.noGoto_ret]
      go_ret3
      refine ⟨hb, .inr ⟨_, p, rs, ?_, hp, rfl, hll.out⟩⟩
      rw [hpar.out, parse_few (by simp; omega), ahead_some, List.append_nil]

end Go.Proofs.YtkdolabhcbjipaaGreat

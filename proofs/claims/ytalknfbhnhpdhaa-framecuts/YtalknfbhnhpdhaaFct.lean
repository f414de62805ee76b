/-
  FrameCuts, walked: frames that are put are told, however their bytes are cut.
-/
import Derived.Test.YtalknfbhnhpdhaaFcu
namespace Go.Proofs.Ytalknfbhnhpdhaa
open Go.RowKit

/-- A list of slices that were handed in: a row of the call's own, of slices that are read in the world W. -/
structure Wl (W w : World) (base : Nat) (v : Value) (bss : List (List Int)) : Prop where
  ex : ∃ vs : List Value, w.ownsRow base 22 1 v bss.length vs ∧ ∀ j, j < bss.length → ∃ c m d, vs[j]? = some (.slice c m d) ∧ Bs W c m d (bss.getD j [])

theorem Wl.nil (W w : World) (base : Nat) : Wl W w base (.slice none 0 0) [] := ⟨[], World.ownsRow_nil _ _ _ _, fun j hj => by simp at hj⟩

theorem Wl.keep {W w w' : World} {base : Nat} {v : Value} {bss : List (List Int)} (h : Wl W w base v bss) (hb : Below w.heap.size w w') : Wl W w' base v bss := by
  obtain ⟨vs, h1, h2⟩ := h.ex
  exact ⟨vs, keep_own h1 hb, h2⟩

/-- It stays while a row of bytes grows. -/
theorem Wl.grow {W w w' : World} {base n : Nat} {v u : Value} {xs : List Value} {bss : List (List Int)} (h : Wl W w base v bss) (hu : w.ownsRow base 5 1 u n xs) (hg : w.grownBy w' u.ownBlock) : Wl W w' base v bss := by
  obtain ⟨vs, h1, h2⟩ := h.ex
  exact ⟨vs, own_bar h1 (Bar.of_grown hg) (fun b hb => own_types h1 hu (by decide) hb), h2⟩

theorem Wl.form {W w : World} {base : Nat} {v : Value} {bss : List (List Int)} (h : Wl W w base v bss) : ∃ a cap, v = .slice a bss.length cap := by
  obtain ⟨vs, h1, _⟩ := h.ex
  exact own_val h1

theorem Wl.rl {W w : World} {base n cap : Nat} {a : Option Addr} {bss : List (List Int)} (h : Wl W w base (.slice a n cap) bss) (hb : Below W.heap.size W w) : Rl w a n cap bss := by
  obtain ⟨vs, h1, h2⟩ := h.ex
  have hl : bss.length = n := by
    obtain ⟨a', c', e⟩ := own_val h1
    simp only [Value.slice.injEq] at e
    exact e.2.1.symm
  subst hl
  have h0 := h1
  rcases h1.2 with ⟨e1, e0⟩ | ⟨g, cap', cur, e1, _, hh, hc, hm, hs, ht⟩
  · simp only [Value.slice.injEq] at e1
    obtain ⟨rfl, _, rfl⟩ := e1
    exact ⟨rfl, by omega, by omega, fun hn => by omega⟩
  · simp only [Value.slice.injEq] at e1
    obtain ⟨rfl, _, rfl⟩ := e1
    refine ⟨rfl, hc, by unfold maxLen at hm; omega, fun hn => ⟨g, 0, rfl, fun i hi => ?_⟩⟩
    obtain ⟨c, m, d, hv, hB⟩ := h2 i hi
    refine ⟨c, m, d, ?_, hB.keep hb⟩
    have hcs := h0.cells (g := g) rfl i _ hv
    have hadd : (⟨g, 0, none⟩ : Addr).add i = ⟨g, 0 + i, none⟩ := by unfold Addr.add; split <;> simp_all
    rw [← hadd, hcs]

theorem take_snoc (bss : List (List Int)) (k : Nat) (hk : k < bss.length) : bss.take (k + 1) = bss.take k ++ [bss.getD k []] := by
  rw [List.take_succ_eq_append_getElem hk]
  simp [List.getD, List.getElem?_eq_getElem hk]

/-- One slice more behind a list of slices. -/
theorem Wl.snoc {W w w' : World} {base k : Nat} {v v' : Value} {bss : List (List Int)} {vs : List Value} (h1 : w.ownsRow base 22 1 v (bss.take k).length vs)
    (h2 : ∀ j, j < (bss.take k).length → ∃ c m d, vs[j]? = some (.slice c m d) ∧ Bs W c m d ((bss.take k).getD j [])) (hk : k < bss.length) {c : Option Addr} {m d : Nat} (hB : Bs W c m d (bss.getD k []))
    (h' : w'.ownsRow base 22 1 v' ((bss.take k).length + 1) (vs ++ [.slice c m d])) : Wl W w' base v' (bss.take (k + 1)) := by
  have hvl : vs.length = k := by have := h1.1; simp at this; omega
  refine ⟨vs ++ [.slice c m d], ?_, fun j hj => ?_⟩
  · rw [show (bss.take (k + 1)).length = (bss.take k).length + 1 by simp; omega]
    exact h'
  · rw [take_snoc bss k hk]
    have hj' : j < k + 1 := by simp at hj; omega
    by_cases e : j < k
    · obtain ⟨c', m', d', e1, e2⟩ := h2 j (by simp; omega)
      refine ⟨c', m', d', by rw [List.getElem?_append_left (by omega)]; exact e1, ?_⟩
      rw [List.getD, List.getElem?_append_left (by simp; omega)]
      exact e2
    · obtain rfl : j = k := by omega
      refine ⟨c, m, d, by rw [List.getElem?_append_right (by omega), hvl]; simp, ?_⟩
      rw [List.getD, List.getElem?_append_right (by simp; omega)]
      simp only [List.length_take, Nat.min_eq_left (Nat.le_of_lt hk), Nat.sub_self]
      exact hB

theorem Rl.byte {w : World} {a : Option Addr} {n cap : Nat} {bss : List (List Int)} (h : Rl w a n cap bss) : ∀ b ∈ bss, ∀ z ∈ b, 0 ≤ z ∧ z ≤ 255 := by
  intro b hb z hz
  obtain ⟨j, hj, rfl⟩ := List.mem_iff_getElem.1 hb
  obtain ⟨_, _, _, hc⟩ := h.lies (by have := h.len; omega)
  obtain ⟨c, m, d, _, hB⟩ := hc j (by have := h.len; omega)
  refine hB.byte z ?_
  simpa [List.getD, List.getElem?_eq_getElem hj] using hz

namespace frameCuts

set_option maxRecDepth 100000 in
set_option maxHeartbeats 2000000 in
theorem walk (a : Option Addr) (n cap : Nat) (bss : List (List Int)) (t : Option Addr) (tn tcap : Nat) (ts : List Int) (c : Option Addr) (cn ccap : Nat) (cuts : List Int) (w : World)
    (hA : Rl w a n cap bss) (hT : Bs w t tn tcap ts) (hC : Is w c cn ccap cuts) :
    Calls Try.prog 5 #[.slice a n cap, .slice t tn tcap, .slice c cn ccap] w fun e w' => e = .returned (.bool true) ∧ Below w.heap.size w w' := by
  obtain ⟨i0, hi, hz0, hz1, hz2⟩ := info_parts info5
  obtain ⟨i1, hi', hy0, hy1, hy2⟩ := info_parts info22
  have hla := hA.len
  have hea := hA.le
  have hra := hA.reach
  go_enter Try.func5, Try.ntmps5
  go_wp2_with fail
  go_loopw [7, 8, 9] (fun av wv i wr => ∃ k : Nat, k ≤ n ∧ k ≤ 30 ∧ i = .int .i64 k ∧ Hid (∀ b ∈ bss.take k, b.length ≤ 65536) ∧ (flat (bss.take k)).length ≤ 65540 * k ∧
      Hid (wr.ownsRow w.heap.size 5 1 av (flat (bss.take k)).length (U (flat (bss.take k)))) ∧ Hid (Wl w wr w.heap.size wv (bss.take k)) ∧ Below w.heap.size w wr)
    (fun _ _ i _ => n - (intOf i).toNat)
  case atStart => exact ⟨0, Nat.zero_le _, by omega, rfl, hide (by simp), by simp [flat], hide (by simpa [flat, U] using World.ownsRow_nil _ _ _ _), hide (by simpa using Wl.nil _ _ _), Below.refl _ _⟩
  case round =>
    obtain ⟨k, hk, hk30, rfl, hsm, hfl, hall, hwant, hb⟩ := hrel
    have hbs := hb.size
    by_cases hlt : k < n ∧ k < 30
    · obtain ⟨hlt, hlt30⟩ := hlt
      obtain ⟨b1, o1, rfl, hc1⟩ := (hA.keep hb).lies (by omega)
      obtain ⟨p1, m1, d1, hk1, hB1⟩ := hc1 k hlt
      obtain ⟨b2, o2, e2, hc2⟩ := hA.lies (by omega)
      simp only [Option.some.injEq, Addr.mk.injEq, and_true] at e2
      obtain ⟨rfl, rfl⟩ := e2
      obtain ⟨p2, m2, d2, hk2, hB2⟩ := hc2 k hlt
      rw [hb.cell (cell_lt hk2), hk2] at hk1
      simp only [Option.some.injEq, Value.slice.injEq] at hk1
      obtain ⟨rfl, rfl, rfl⟩ := hk1
      have hk1 : wr.cell? ⟨b1, o1 + k, none⟩ = some (.slice p2 m2 d2) := by rw [hb.cell (cell_lt hk2), hk2]
      have hkw := hide (fun (w' : World) (h : Below w.heap.size w w') => (h.cell (cell_lt hk2)).trans hk2)
      clear hc1 hc2 hk2
      have hr1 := hB1.reach
      have hle1 := hB1.le
      have hl1 := hB1.len
      by_cases hbig : 65536 < m2
      · go_wp2_with fail
        refine (put_no _ _ _ _ hbig (by omega)).mono ?_
        rintro e w1 ⟨rfl, rfl⟩
        go_wp2_with fail
        refine (awake_any _).mono ?_
        rintro e w2 ⟨rfl, hb2⟩
        go_wp2_with fail
        go_ret
        exact ⟨rfl, hb.trans (hb2.mono hbs)⟩
      · go_wp2_with fail
        refine (put_yes _ _ _ _ _ hB1 (by omega)).mono ?_
        rintro e w1 ⟨g1, e1, rfl, hown1, hb1⟩
        have hs1 := hb1.size
        have hall1 := keep_own hall.out hb1
        have hwant1 := hwant.out.keep hb1
        have hF := own_bs hown1 (fun z hz => (List.mem_append.1 hz).elim (be_byte _ _ z) (hB1.byte z))
        clear hown1 hk1 hall hwant
        go_wp2_with (first
          | (at_builtin; refine wpList_append_val rfl _ _ 22 rfl w.heap.size 5 i0 Try.underlying22 hi hz0 hz1 hz2 _ _ _ rfl hall1 _ _ _ _ rfl hF (by omega) (by omega) ?_; intro v2 w2 hown2 hgrow2; have hb2 : Below w.heap.size w w2 := (hb.trans (hb1.mono hbs)).grown hgrow2 (by omega) (fun x hx => own_from hall1 hx); have hk2 := hkw.out w2 hb2; have hwant2 := hwant1.grow hall1 hgrow2; have hs2 := hb2.size; clear hgrow2; obtain ⟨vs, hvs, hvr⟩ := hwant2.ex; have HVR := hide hvr; clear hvr)
          | (at_builtin; refine wpList_append_own _ rfl _ _ 28 rfl w.heap.size 22 i1 (.slice none 0 0) 1 24 Try.underlying28 hi' hy0 hy1 hy2 rfl (by omega) _ _ _ rfl (hvs.alloc _) ⟨_, 0, none⟩ 1 1 [.slice p2 m2 d2] rfl rfl (cell_one_new _ _ _) (by simp [Value.oneCell']) (by unfold maxLen; simp; omega) (by simp; omega) (by simp; omega) ?_; intro v3 w3 hown3 hgrow3 _))
        have hb3 : Below w.heap.size w w3 := ((hb2.alloc hs2 _).grown hgrow3 (by simp; omega) (fun x hx => own_from hvs hx))
        have ho3 : w3.ownsRow w.heap.size 5 1 v2 (flat (bss.take k ++ [bss.getD k []])).length (U (flat (bss.take k ++ [bss.getD k []]))) := by
          rw [flat_snoc, List.length_append, fr_length, hl1, U_append]
          exact own_bar (hown2.alloc _) (Bar.of_grown hgrow3) (fun b hb => own_types hown2 hvs (by decide) hb)
        have hw3 := Wl.snoc hvs HVR.out (by omega) hB2 hown3
        clear hgrow3 hown3 hown2 hwant2 hwant1 hall1 hvs
        go_roundw
        case rel =>
          refine ⟨k + 1, by omega, by omega, by go_num, hide ?_, ?_, hide ?_, hide hw3, hb3⟩
          · rw [take_snoc bss k (by omega)]
            intro b hb
            rcases List.mem_append.1 hb with h | h
            · exact hsm.out b h
            · simp only [List.mem_singleton] at h
              subst h
              omega
          · rw [take_snoc bss k (by omega), flat_snoc, List.length_append, fr_length, hl1]
            omega
          · rw [take_snoc bss k (by omega)]
            exact ho3
        case measure => simp [intOf]; omega
    · obtain ⟨sn, hsn, hs1, hs2⟩ : ∃ sn : Nat, (if (3 : Int) < (tn : Int) then (3 : Int) else (tn : Int)) = (sn : Int) ∧ sn ≤ tn ∧ sn ≤ 3 := ⟨min tn 3, by split <;> omega, by omega, by omega⟩
      have hsn2 : (if (tn : Int) ≤ 3 then (tn : Int) else 3) = (sn : Int) := by rw [← hsn]; split <;> split <;> omega
      have kmin : ∀ w', (Builtin.min_ #[3, 3] 3 #[.int .i64 tn, .int .i64 3]).run Try.prog w' = .ok (.int .i64 sn) w' := fun w' => by rw [run_min_int2, hsn]
      obtain ⟨bs, hbs'⟩ : ∃ bs, bs = bss.take k := ⟨_, rfl⟩
      rw [← hbs'] at hsm hfl hall hwant
      clear hbs'
      have hTr := hT.keep hb
      have hte := hT.le
      have htr := hT.reach
      have hS := hTr.head sn hs1
      have hend : (k < n ∧ 30 ≤ k) ∨ ¬ k < n := by omega
      clear hlt
      rcases hend with ⟨h1, h2⟩ | h1
      all_goals go_wp2_with (at_builtin; refine wpList_append_val rfl _ _ 22 rfl w.heap.size 5 i0 Try.underlying22 hi hz0 hz1 hz2 _ _ _ rfl hall.out _ _ _ _ rfl hS (by omega) (by omega) ?_; intro v2 w2 hown2 hgrow2)
      all_goals
        have hb2 : Below w.heap.size w w2 := hb.grown hgrow2 (by omega) (fun x hx => own_from hall.out hx)
        have hsz2 := hb2.size
        have hw2 := hwant.out.grow hall.out hgrow2
        obtain ⟨wa, wc, rfl⟩ := hw2.form
        have hWr := hw2.rl hb2
        have hC2 := hC.keep hb2
        have hsl : (ts.take sn).length = sn := hS.len
        have hpA : parse (flat bs ++ ts.take sn) = some (bs, ts.take sn) := parse_flat bs hsm.out _ (by omega)
        rw [← U_append] at hown2
        obtain ⟨a2, c2, rfl⟩ := own_val hown2
        have hpl : a2 = none ∨ ∃ b off, a2 = some ⟨b, off, none⟩ := by
          rcases hown2.2 with ⟨e, _⟩ | ⟨g, cp, cur, e, _⟩
          · simp only [Value.slice.injEq] at e
            exact .inl e.1
          · simp only [Value.slice.injEq] at e
            exact .inr ⟨g, 0, e.1⟩
        have hB2 : Bs w2 a2 ((flat bs).length + sn) c2 (flat bs ++ ts.take sn) := own_bs hown2 (fun z hz => (List.mem_append.1 hz).elim (fun h => by
          simp only [flat, List.mem_flatten, List.mem_map] at h
          obtain ⟨f, ⟨b, hb, rfl⟩, hz⟩ := h
          rcases List.mem_append.1 hz with h | h
          · exact be_byte _ _ z h
          · exact hWr.byte b hb z h) (hS.byte z))
        have hNb : (flat bs).length + sn ≤ 2000000 := by omega
        generalize (flat bs).length + sn = N at hB2 hNb hown2
        generalize flat bs ++ ts.take sn = A at hB2 hpA hown2
        have HPA := hide hpA
        have HPL := hide hpl
        clear hown2 hgrow2 hw2 hwant hall hC hT hA hTr hS hpA hpl hsn hsn2 kmin hfl
        refine (new_any w2).mono ?_
        rintro e w3 ⟨rfl, hR3, hb3⟩
        have hcl := hC2.len
        have hcle := hC2.le
        have hcr := hC2.reach
        have hB2le := hB2.le
        have hB2r := hB2.reach
        go_wp2_with fail
        go_loopw [7, 14, 15] (fun av gv i wx => ∃ (k2 pos M : Nat) (a4 : Option Addr) (c4 : Nat) (lv : Value) (l : List Int) (rs : List (Value × List Int)), k2 ≤ cn ∧ k2 ≤ 60 ∧ i = .int .i64 k2 ∧ Hid (pos + M = N) ∧ av = .slice a4 M c4 ∧
            Hid (a4 = none ∨ ∃ b off, a4 = some ⟨b, off, none⟩) ∧ Bs w2 a4 M c4 (A.drop pos) ∧ Hid (Rd wx w2.heap.size w2.heap.size lv l false) ∧ Hid (LL wx w2.heap.size gv rs) ∧
            Hid (∀ q ∈ rs, ∀ b, q.1.ownBlock = some b → lv.ownBlock ≠ some b) ∧ Hid (parse (A.take pos) = some (rs.map (·.2), l)) ∧ Below w2.heap.size w2 wx)
          (fun _ _ i _ => cn - (intOf i).toNat)
        case atStart => exact ⟨0, 0, N, a2, c2, _, _, [], Nat.zero_le _, by omega, rfl, hide (by omega), rfl, HPL, by simpa using hB2, hide hR3, hide (LL.nil _ _), hide (by simp), hide (by simpa using parse_few (zs := []) (by simp)), hb3⟩
        case round =>
          obtain ⟨k2, pos, M, a4, c4, lv, l, rs, hk2, hk60, rfl, hpm, rfl, hpl4, hB4, hR4, hL4, hsep, hpar, hb4⟩ := hrel
          by_cases hlt2 : k2 < cn ∧ k2 < 60
          · obtain ⟨hlt2, hlt60⟩ := hlt2
            have hbx := hb4.size
            obtain ⟨b5, o5, rfl, hc5⟩ := (hC2.keep hb4).lies (by omega)
            have hcell := hc5 k2 hlt2
            clear hc5
            generalize cuts.getD k2 0 = zc at hcell
            have hle4 := hB4.le
            have hre4 := hB4.reach
            have hM : M ≤ 2000000 := by have := hpm.out; omega
            have PK := pick_any zc (M + 1) wr (by omega) (by have := hpm.out; omega)
            rw [Int.natCast_succ] at PK
            go_wp2_with fail
            refine PK.mono ?_
            rintro e w5 ⟨p, hp, rfl, hw5⟩
            subst hw5
            clear PK
            obtain ⟨b2, r2, hq1, hq2⟩ := parse_piece HPA.out hpar.out p
            have hrest := (parse_rest (Nat.le_refl _) hpar.out)
            have hrest2 := (parse_rest (Nat.le_refl _) hq2)
            have hlen1 : l.length ≤ 2000000 := by have h1 := hrest.1; have := hpm.out; simp at h1; omega
            have hlen2 : rs.length + b2.length ≤ 2000000 := by have h1 := hrest2.2.1; have := hpm.out; simp at h1; omega
            clear hrest hrest2
            have hH := (hB4.keep hb4).head p (by omega)
            have CF := feed_is hR4.out hb4.size hH (by omega) hq1
            have hnew : ∃ a8, (a8 = none ∨ ∃ b off, a8 = some ⟨b, off, none⟩) ∧ Bs w2 a8 (M - p) (c4 - p) (A.drop (pos + p)) ∧ (if c4 = p then a8 = a4 else ∃ b off, a4 = some ⟨b, off, none⟩ ∧ a8 = some ⟨b, off + p, none⟩) := by
              by_cases e : c4 = p
              · subst e
                have hl0 := hB4.len
                refine ⟨a4, hpl4.out, ?_, by rw [if_pos rfl]⟩
                rw [List.drop_eq_nil_of_le (by simp at hl0; omega), show M - c4 = 0 by omega, Nat.sub_self]
                rcases hpl4.out with rfl | ⟨b, off, rfl⟩
                · exact Bs.nil _
                · exact Bs.zero _ _ _ (by omega)
              · rcases hpl4.out with rfl | ⟨b, off, rfl⟩
                · have := hB4.bare rfl
                  omega
                · refine ⟨some ⟨b, off + p, none⟩, .inr ⟨_, _, rfl⟩, ?_, by rw [if_neg e]; exact ⟨b, off, rfl, rfl⟩⟩
                  have := hB4.mid p (M - p) (by omega)
                  rwa [List.take_of_length_le (by have := hB4.len; simp at this ⊢; omega), List.drop_drop] at this
            obtain ⟨a8, hpl8, hB8, hif⟩ := hnew
            have hq2' := hide hq2
            have hpl8' := hide hpl8
            clear hpl8 hq1 hq2 hH
            have hfin : ∀ (w6 w7 : World) (c6 : Option Addr) (d6 : Nat) (lv6 v7 : Value) (rs6 : List (Value × List Int)), rs6.map (·.2) = b2 → Rd w6 w2.heap.size w2.heap.size lv6 r2 false → LL w6 w5.heap.size (.slice c6 b2.length d6) rs6 →
                (∀ b, lv6.ownBlock = some b → lv.ownBlock = some b ∨ w5.heap.size ≤ b) → (∀ q ∈ rs6, ∀ b, q.1.ownBlock = some b → lv6.ownBlock ≠ some b) → Bar (Fd w2.heap.size lv) w5 w6 → Below w2.heap.size w5 w6 →
                LL w6 w2.heap.size u14 rs → w7.ownsRow w2.heap.size 22 1 v7 (rs.length + b2.length) (rs.map (·.1) ++ rs6.map (·.1)) → w6.grownBy w7 u14.ownBlock →
                Rd w7 w2.heap.size w2.heap.size lv6 r2 false ∧ LL w7 w2.heap.size v7 (rs ++ rs6) ∧ (∀ q ∈ rs ++ rs6, ∀ b, q.1.ownBlock = some b → lv6.ownBlock ≠ some b) ∧ Below w2.heap.size w2 w7 := by
              intro w6 w7 c6 d6 lv6 v7 rs6 e1 e2 e3 e4 e5 e6 e7 e8 e9 e10
              have hold : ∀ q ∈ rs, ∀ b, q.1.ownBlock = some b → b < w5.heap.size := fun q hq b hb => ((hL4.out.row q hq).lt b hb).2
              have hnw : ∀ q ∈ rs6, ∀ b, q.1.ownBlock = some b → w5.heap.size ≤ b := fun q hq b hb => own_from (e3.row q hq) hb
              refine ⟨e2.grow e8.own e10, e8.more (fun r hr => own_less (e3.row r hr) hbx) e3.byte e3.apart ?_ (by rw [List.length_append, ← e1, List.length_map]) e9 e10, ?_, ?_⟩
              · intro r hr s hs
                cases hrb : r.1.ownBlock with
                | none => exact .inl rfl
                | some x =>
                  refine .inr (fun e => ?_)
                  have h1 := hold r hr x hrb
                  have h2 := hnw s hs x e.symm
                  omega
              · intro q hq b hb e
                rcases List.mem_append.1 hq with hq | hq
                · rcases e4 b e with h | h
                  · exact hsep.out q hq b hb h
                  · have := hold q hq b hb
                    omega
                · exact e5 q hq b hb e
              · exact (hb4.trans e7).grown e10 (Nat.le_trans hbx e7.size) (fun x hx => own_from e8.own hx)
            have HF := hide hfin
            have hL6' : ∀ w6, Bar (Fd w2.heap.size lv) w5 w6 → LL w6 w2.heap.size u14 rs := fun w6 h => hL4.out.fed hR4.out hsep.out h
            have HL := hide hL6'
            clear hfin hL6' hsep hpar hL4 hR4 hpl4
            by_cases hcp : c4 = p
            · rw [if_pos hcp] at hif
              subst hif
              have hMp : M = p := by omega
              subst hMp
              subst hcp
              rw [Nat.sub_self] at hB8
              go_wp2_with fail
              refine CF.mono ?_
              rintro e w6 ⟨c6, d6, lv6, rs6, rfl, hr6, hR6, hL6, htell, hsep6, hbar6, hb6⟩
              have hG := HL.out w6 hbar6
              have hV := hL6.vl
              have hsz6 := hb6.size
              go_wp2_with (at_builtin; refine wpList_append_lists rfl _ _ 28 rfl w2.heap.size 22 i1 (.slice none 0 0) Try.underlying28 hi' hy0 hy1 hy2 rfl _ rs.length _ rfl hG.own _ _ _ _ rfl hV (by omega) (by omega) ?_; intro v7 w7 hown7 hgrow7)
              obtain ⟨hR7, hL7, hsep7, hb7⟩ := HF.out w6 w7 c6 d6 lv6 v7 rs6 hr6 hR6 hL6 htell hsep6 hbar6 hb6 hG hown7 hgrow7
              clear hgrow7 hown7 hV hG hL6 hR6 htell hsep6 hbar6 HF HL CF
              go_roundw
              case rel => exact ⟨k2 + 1, pos + c4, 0, _, _, lv6, r2, rs ++ rs6, by omega, by omega, by go_num, hide (by have := hpm.out; omega), rfl, hpl8', hB8, hide hR7, hide hL7, hide hsep7, hide (by rw [List.map_append, hr6]; exact hq2'.out), hb7⟩
              case measure => simp [intOf]; omega
            · rw [if_neg hcp] at hif
              obtain ⟨bb, oo, rfl, rfl⟩ := hif
              go_wp2_with fail
              refine CF.mono ?_
              rintro e w6 ⟨c6, d6, lv6, rs6, rfl, hr6, hR6, hL6, htell, hsep6, hbar6, hb6⟩
              have hG := HL.out w6 hbar6
              have hV := hL6.vl
              have hsz6 := hb6.size
              go_wp2_with (at_builtin; refine wpList_append_lists rfl _ _ 28 rfl w2.heap.size 22 i1 (.slice none 0 0) Try.underlying28 hi' hy0 hy1 hy2 rfl _ rs.length _ rfl hG.own _ _ _ _ rfl hV (by omega) (by omega) ?_; intro v7 w7 hown7 hgrow7)
              obtain ⟨hR7, hL7, hsep7, hb7⟩ := HF.out w6 w7 c6 d6 lv6 v7 rs6 hr6 hR6 hL6 htell hsep6 hbar6 hb6 hG hown7 hgrow7
              clear hgrow7 hown7 hV hG hL6 hR6 htell hsep6 hbar6 HF HL CF
              go_roundw
              case rel => exact ⟨k2 + 1, pos + p, M - p, _, _, lv6, r2, rs ++ rs6, by omega, by omega, by go_num, hide (by have := hpm.out; omega), rfl, hpl8', hB8, hide hR7, hide hL7, hide hsep7, hide (by rw [List.map_append, hr6]; exact hq2'.out), hb7⟩
              case measure => simp [intOf]; omega
          · have hbx := hb4.size
            have hle4 := hB4.le
            have hre4 := hB4.reach
            have hM : M ≤ 2000000 := by have := hpm.out; omega
            have hAl := hB4.len
            have hAN := hB2.len
            obtain ⟨b2, r2, hq1, hq2⟩ := parse_piece HPA.out hpar.out M
            rw [List.take_of_length_le (by omega)] at hq1
            rw [List.take_of_length_le (by have := hpm.out; omega), HPA.out] at hq2
            simp only [Option.some.injEq, Prod.mk.injEq] at hq2
            obtain ⟨hqa, hqb⟩ := hq2
            have hrest := (parse_rest (Nat.le_refl _) hpar.out)
            have hlen1 : l.length ≤ 2000000 := by have h1 := hrest.1; have := hpm.out; simp at h1; omega
            have hrest2 := (parse_rest (Nat.le_refl _) HPA.out)
            have hlen2 : rs.length + b2.length ≤ 2000000 := by have h1 := hrest2.2.1; rw [hqa] at h1; simp at h1; omega
            have CF := feed_is hR4.out hb4.size (hB4.keep hb4) (by omega) hq1
            have HQA := hide hqa
            have hr2 : r2.length = sn := by rw [← hqb, hsl]
            have hend2 : (k2 < cn ∧ 60 ≤ k2) ∨ ¬ k2 < cn := by omega
            clear hrest hrest2 hqa hqb hq1 hlt2
            rcases hend2 with ⟨j1, j2⟩ | j1
            all_goals
              go_wp2_with fail
              refine CF.mono ?_
              rintro e w6 ⟨c6, d6, lv6, rs6, rfl, hr6, hR6, hL6, htell, hsep6, hbar6, hb6⟩
              have hG := hL4.out.fed hR4.out hsep.out hbar6
              have hV := hL6.vl
              have hsz6 := hb6.size
              go_wp2_with (at_builtin; refine wpList_append_wanted rfl _ _ 28 rfl w2.heap.size 22 i1 (.slice none 0 0) Try.underlying28 hi' hy0 hy1 hy2 rfl _ rs.length _ rfl hG.own _ _ _ _ rfl hV (by omega) (by omega) ?_; intro v7 w7 hown7 hgrow7)
              have hold : ∀ q ∈ rs, ∀ b, q.1.ownBlock = some b → b < wr.heap.size := fun q hq b hb => ((hL4.out.row q hq).lt b hb).2
              have hnw : ∀ q ∈ rs6, ∀ b, q.1.ownBlock = some b → wr.heap.size ≤ b := fun q hq b hb => own_from (hL6.row q hq) hb
              have hL7 := hG.more (fun r hr => own_less (hL6.row r hr) hbx) hL6.byte hL6.apart (fun r hr s hs => by
                cases hrb : r.1.ownBlock with
                | none => exact .inl rfl
                | some x =>
                  refine .inr (fun e => ?_)
                  have h1 := hold r hr x hrb
                  have h2 := hnw s hs x e.symm
                  omega) (by rw [List.length_append, ← hr6, List.length_map]) hown7 hgrow7
              have hR7 := hR6.grow hG.own hgrow7
              have hb7 : Below w2.heap.size w2 w7 := (hb4.trans hb6).grown hgrow7 (Nat.le_trans hbx hsz6) (fun x hx => own_from hG.own hx)
              obtain ⟨a7, d7, rfl⟩ := own_val hown7
              have hX := hL7.rl
              rw [List.map_append, hr6, ← HQA.out] at hX
              have hY := hWr.keep hb7
              have hs7 := hb7.size
              have CS := lists_any _ _ _ _ _ _ _ _ _ hX hY
              rw [decide_eq_true rfl] at CS
              clear hX hY hL7 hgrow7 hown7 hV hG hL6 hR6 htell hsep6 hbar6 hold hnw CF
              refine CS.mono ?_
              rintro e w8 ⟨rfl, q8, hw8⟩
              have hR8 := hR7.keep (below_drewN (Below.refl _ w7) q8)
              have hb8 := below_drewN hb7 q8
              rw [← hw8] at hR8 hb8
              clear hR7 hb7 hw8 CS
              have hs8 := hb8.size
              have CL := left_any hR8
              rw [hr2] at CL
              go_wp2_with fail
              refine CL.mono ?_
              rintro e w9 ⟨rfl, hw9⟩
              subst hw9
              go_wp2_with fail
              refine (awake_any _).mono ?_
              rintro e w10 ⟨rfl, hb10⟩
              go_wp2_with fail
              go_ret
              exact ⟨rfl, hb2.trans ((hb8.trans (hb10.mono hs8)).mono hsz2)⟩

end frameCuts
end Go.Proofs.Ytalknfbhnhpdhaa

/-
  Feed where it is known what comes out; answers that are fixed (awake).
-/
import Derived.Test.YtalknfbhnhpdhaaFfe
import Derived.Test.YtalknfbhnhpdhaaSam
import Derived.Lib.SlBytesConst
namespace Go.Proofs.Ytalknfbhnhpdhaa
open Go.RowKit

theorem Fd.from' {w : World} {base R : Nat} {lv : Value} {l : List Int} {ended : Bool} (h : Rd w base R lv l ended) {i : Nat} (hi : Fd R lv i) : base ≤ i := by
  rcases hi with rfl | hi
  · exact h.from'
  · exact own_from h.own hi

theorem feed_is {base R : Nat} {lv : Value} {l : List Int} {w : World} (h : Rd w base R lv l false) (hbase : base ≤ w.heap.size) {a : Option Addr} {n cap : Nat} {zs : List Int} (hB : Bs w a n cap zs) (hn : l.length + n ≤ 10000000000000)
    {bs : List (List Int)} {r : List Int} (hp : parse (l ++ zs) = some (bs, r)) :
    Calls Try.prog 9 #[.pointer (some ⟨R, 0, none⟩), .slice a n cap] w fun e w' => ∃ c d lv' rs, e = .returned (.tuple #[.slice c bs.length d, .int .i64 0]) ∧ rs.map (·.2) = bs ∧ Rd w' base R lv' r false ∧ LL w' w.heap.size (.slice c bs.length d) rs ∧
        (∀ b, lv'.ownBlock = some b → lv.ownBlock = some b ∨ w.heap.size ≤ b) ∧ (∀ q ∈ rs, ∀ b, q.1.ownBlock = some b → lv'.ownBlock ≠ some b) ∧ Bar (Fd R lv) w w' ∧ Below base w w' := by
  refine (feed_any h hbase a n cap zs hB hn).mono ?_
  rintro e w' ⟨hb, hc⟩
  rcases hc with ⟨h1, _⟩ | ⟨v, lv', r', rs, h1, rfl, h2, h3, h4, h5⟩
  · rw [h1] at hp
    cases hp
  · rw [h1] at hp
    simp only [Option.some.injEq, Prod.mk.injEq] at hp
    obtain ⟨rfl, rfl⟩ := hp
    obtain ⟨c, d, hv⟩ := own_val h3.own
    subst hv
    rw [List.length_map]
    exact ⟨c, d, lv', rs, rfl, rfl, h2, h3, h4, h5, hb, hb.below (fun i hi => Fd.from' h hi) hbase⟩

theorem feed_not {base R : Nat} {lv : Value} {l : List Int} {w : World} (h : Rd w base R lv l false) (hbase : base ≤ w.heap.size) {a : Option Addr} {n cap : Nat} {zs : List Int} (hB : Bs w a n cap zs) (hn : l.length + n ≤ 10000000000000)
    (hp : parse (l ++ zs) = none) :
    Calls Try.prog 9 #[.pointer (some ⟨R, 0, none⟩), .slice a n cap] w fun e w' => e = .returned (.tuple #[.slice none 0 0, .int .i64 30]) ∧ Rd w' base R (.slice none 0 0) [] true ∧ Bar (Fd R lv) w w' ∧ Below base w w' := by
  refine (feed_any h hbase a n cap zs hB hn).mono ?_
  rintro e w' ⟨hb, hc⟩
  rcases hc with ⟨_, rfl, h2⟩ | ⟨v, lv', r', rs, h1, _⟩
  · exact ⟨rfl, h2, hb, hb.below (fun i hi => Fd.from' h hi) hbase⟩
  · rw [h1] at hp
    cases hp

/-- A text written out as bytes, as a slice. -/
theorem row_mark (w : World) (g : Nat) (hg : w.heap.size = g) (l : List Int) (n : Nat) (fz : Nat × Nat) (hn : l.length = n) (h2 : n ≤ 1000) (hb : ∀ z ∈ l, 0 ≤ z ∧ z ≤ 255) : Bs (w.alloc (.cells (U l).toArray 5 fz)) (some ⟨g, 0, none⟩) n n l := by
  subst hg
  refine ⟨hn, Nat.le_refl _, by omega, hb, fun h => (by cases h), fun _ => ⟨w.heap.size, 0, rfl, fun i hi => ?_⟩⟩
  rw [cell_of_row _ w.heap.size (0 + i) (U l).toArray 5 fz (heap_alloc_new w _)]
  have h2 : i < l.length := by omega
  simp [U, List.getD, List.getElem?_eq_getElem h2]

theorem ex1 : parse ([] ++ [0, 0]) = some ([], [0, 0]) := by decide
theorem ex2 : parse ([0, 0] ++ [0, 1, 97, 0]) = some ([[97]], [0]) := by decide
theorem ex3 : fr [97] = [0, 0, 0, 1, 97] := by decide

theorem fresh (w : World) (o : Obj) : Below w.heap.size w (w.alloc o) := (Below.refl _ w).alloc (Nat.le_refl _) o

set_option maxHeartbeats 1000000 in
theorem awake_any (w : World) : Calls Try.prog 12 #[] w fun e w' => e = .returned (.bool true) ∧ Below w.heap.size w w' := by
  have kc := fun (w : World) (C : Array Value) (n c : Nat) => Lib.run_convert_bytes_const (P := Try.prog) w 22 5 C n c Try.underlying22 Try.underlying5
  go_enter Try.func12, Try.ntmps12
  go_wp2_with fail
  refine (put_yes _ 1 1 [97] _ (row_mark w _ rfl [97] 1 (1, 2) rfl (by decide) (by decide)) (by decide)).mono ?_
  rintro e w1 ⟨g1, d1, rfl, hown1, hb1⟩
  rw [ex3] at hown1
  replace hb1 := (fresh w _).trans (hb1.mono (by simp))
  have hs1 := hb1.size
  have hg1 := own_lt hown1
  have hB1 := own_bs hown1 (by decide)
  clear hown1
  go_wp2_with fail
  refine (new_any w1).mono ?_
  rintro e w2 ⟨rfl, hR2, hb2⟩
  have hs2 := hb2.size
  go_wp2_with fail
  refine (feed_is (hR2.keep (fresh w2 _)) (by simp; omega) (row_lit w2 _ rfl [0, 0] 2 rfl (by decide) (by decide)) (by decide) ex1).mono ?_
  rintro e w3 ⟨c3, d3, l3, r3, rfl, _, hR3, _, _, _, _, hb3⟩
  replace hb3 := hb2.trans (((fresh w2 _).mono hs2).trans hb3)
  have hs3 := hb3.size
  clear hb2 hR2
  go_wp2_with fail
  refine (feed_is (hR3.keep (fresh w3 _)) (by simp; omega) (row_lit w3 _ rfl [0, 1, 97, 0] 4 rfl (by decide) (by decide)) (by decide) ex2).mono ?_
  rintro e w4 ⟨c4, d4, l4, r4, rfl, hr4, hR4, hL4, _, _, _, hb4⟩
  replace hb4 := hb3.trans (((fresh w3 _).mono hs3).trans hb4)
  have hs4 := hb4.size
  have hr := hL4.rl
  rw [hr4] at hr
  clear hb3 hR3 hL4
  have hB4 := hB1.keep hb4
  go_wp2_with fail
  refine (same_true rfl (hB4.alloc _) (row_lit w4 _ rfl [0, 0, 0, 1, 97] 5 rfl (by decide) (by decide))).mono ?_
  rintro e w5 ⟨rfl, hw5⟩
  have hb5 := hb4.trans ((fresh w4 (.cells (U [0, 0, 0, 1, 97]).toArray 5)).mono hs4)
  have hR5 := hR4.keep (fresh w4 (.cells (U [0, 0, 0, 1, 97]).toArray 5))
  have hr5 := hr.keep (fresh w4 (.cells (U [0, 0, 0, 1, 97]).toArray 5))
  rw [← hw5] at hb5 hR5 hr5
  clear hw5 hb4 hR4 hr hB4
  obtain ⟨b, off, rfl, hc⟩ := hr5.lies (by decide)
  obtain ⟨c0, m0, k0, hcell, hBs⟩ := hc 0 (by decide)
  have hm0 : m0 = 1 := hBs.len.symm
  subst hm0
  have ks : (convert 22 9 (.slice c0 1 k0)).run Try.prog w5 = .ok (.string (strOfNums [97])) w5 := run_str 22 5 Try.underlying22 Try.underlying5 hBs 9 Try.underlying9
  have hd := hr5.le
  have hdr := hr5.reach
  rw [Nat.add_zero] at hcell
  have hstr : (strOfNums [97]).toList = [97] := by rw [ByteArray.toList_eq, strOfNums_data]; rfl
  clear hc hr5 hBs
  go_wp2_with (go_at_call 11; refine (left_any hR5).mono ?_; rintro e w6 ⟨rfl, rfl⟩)
  go_ret
  exact ⟨rfl, hb1.trans (hb5.mono hs1)⟩

end Go.Proofs.Ytalknfbhnhpdhaa

/-
  'awake' of the fifth layer's statements.
-/
import Derived.Test.YtelfckhiafnniaaRkb
import Derived.Test.YtelfckhiafnniaaSam
import Derived.Deep.RegionHeld3
import Derived.BigRegion
namespace Go.Proofs.Ytelfckhiafnniaa
open Go.RowKit

def oneB : Bt := ⟨1, 0, 2, [[97]]⟩
theorem one_body : body oneB = [2, 0, 4, 1, 1, 97] := by decide
theorem one_right : Right oneB := ⟨by decide, by decide⟩
theorem one_bd : Bd oneB := ⟨by unfold I64; decide, by unfold I64; decide, by unfold I64; decide, by decide⟩
theorem one_len (base : Int) : (enc base oneB).length = 18 := by rw [enc_length, one_body]; rfl
theorem one_head : (enc 7 oneB).take 8 = [0, 0, 0, 0, 0, 0, 0, 7] := by rw [enc_base]; decide
theorem one_enc (base : Int) : encD base oneB = (enc base oneB, 0) := encD_of one_right (by rw [one_body]; decide)

theorem dec_of {base : Int} {b : Bt} (h1 : I64 base) (h2 : Right b) (h3 : Bd b) (h4 : 12 + (body b).length ≤ 60000) : Dec (enc base b) base b 0 := .inl ⟨rfl, by rw [enc_length]; exact h4, h1, h2, h3, rfl⟩

/-- Decode of the bytes of a batch. -/
theorem decode_yes {a : Option Addr} {n cap : Nat} {base : Int} {b : Bt} {w : World} (hB : Bs w a n cap (enc base b)) (h1 : I64 base) (h2 : Right b) (h3 : Bd b) (h4 : 12 + (body b).length ≤ 60000) :
    Calls Try.prog 10 #[.slice a n cap] w fun e w' => ∃ va vn vc rs, e = .returned (.tuple #[.int .i64 base, bv b.pid b.ep b.first (.slice va vn vc), .int .i64 0]) ∧ LL w' w.heap.size (.slice va vn vc) rs ∧ rs.map (·.2) = b.recs ∧ Below w.heap.size w w' := by
  refine (decode_any a n cap _ w hB).mono ?_
  rintro e w' ⟨hb, base', b', er, v, rs, rfl, hD, hL, hr⟩
  obtain ⟨rfl, rfl, rfl⟩ := hD.eq (dec_of h1 h2 h3 h4)
  obtain ⟨va, vc, hv⟩ := own_val hL.own
  subst hv
  exact ⟨va, _, vc, rs, rfl, hL, hr, hb⟩

theorem belowA {W0 W : World} {o : Obj} (h : Below W0.heap.size W0 W) : Below W0.heap.size W0 (W.alloc o) := h.alloc h.size _
theorem belowD {W0 W : World} (h : Below W0.heap.size W0 W) : Below W0.heap.size W0 W.drew := h.drew
theorem belowT {W0 W W1 : World} (h : Below W0.heap.size W0 W) (k : Below W.heap.size W W1) : Below W0.heap.size W0 W1 := h.trans (k.mono h.size)

theorem new_at (w : World) (o : Obj) (g : Nat) (h : w.heap.size = g) : (w.alloc o).drew.heap[g]? = some o := by subst h; exact heap_alloc_new w o

theorem same_row {W0 : World} {a : Option Addr} {n cap : Nat} {zs : List Int} (h : Bs W0 a n cap zs) (m : Nat) (hm : zs.length = m) (hm2 : m ≤ 1000) (W : World) (g : Nat) (hb : Below W0.heap.size W0 W) (hg : W.heap[g]? = some (.cells (U zs).toArray 5 (0, 0))) :
    Calls Try.prog 22 #[.slice a n cap, .slice (some ⟨g, 0, none⟩) m m] W fun e w' => e = .returned (.bool true) ∧ w' = W :=
  same_true rfl (h.keep hb) (Bs.row hg hm (by omega) h.byte)

set_option maxRecDepth 100000 in
set_option maxHeartbeats 4000000 in
theorem awake_any (w : World) : Calls Try.prog 15 #[] w fun e w' => e = .returned (.bool true) ∧ Below w.heap.size w w' := by
  go_enter Try.func15, Try.ntmps15
  go_wp2_with fail
  refine (one_any w).mono ?_
  rintro e w1 ⟨g1, rfl, hR1, hb1⟩
  have hs1 := hb1.size
  go_wp2_with fail
  refine (encode_any 7 1 0 2 _ _ _ [[97]] w1 hR1 one_bd).mono ?_
  rintro e w2 ⟨v2, rfl, hown2, hb2⟩
  rw [show (⟨1, 0, 2, [[97]]⟩ : Bt) = oneB from rfl, one_enc] at hown2 ⊢
  rw [one_len] at hown2
  obtain ⟨g2, d2, hv2⟩ := own_shape hown2 (by decide)
  subst hv2
  have hs2 := hb2.size
  have hB2 := own_bs hown2 (enc_byte one_bd.byte)
  have hd2 := hB2.le
  have hd2' := hB2.reach
  have hb2' := hb1.trans (hb2.mono hs1)
  clear hown2 hb1 hb2 hR1
  go_wp2_with fail
  refine (decode_yes hB2 (by unfold I64; decide) one_right one_bd (by rw [one_body]; decide)).mono ?_
  rintro e w3 ⟨va, vn, vc, rs, rfl, hL3, hr3, hb3⟩
  rw [show oneB.pid = 1 from rfl, show oneB.ep = 0 from rfl, show oneB.first = 2 from rfl]
  have hs3 := hb3.size
  have hR3 := hL3.rl
  rw [hr3] at hR3
  have hb3' : Below w.heap.size w w3 := hb2'.trans (hb3.mono (by omega))
  have h8 := (hB2.keep hb3).head 8 (by decide)
  rw [one_head] at h8
  have h12 := (hB2.keep hb3).drop 12 (by decide)
  rw [enc_drop, one_body] at h12
  obtain ⟨W0, hW0⟩ : ∃ W0, W0 = w3.alloc (.cells #[.int .i64 1, .int .i64 0, .int .i64 2, .slice va vn vc] 28) := ⟨_, rfl⟩
  have hbW : Below w3.heap.size w3 W0 := by rw [hW0]; exact fresh _ _
  have hx : W0.heap[w3.heap.size]? = some (.cells #[.int .i64 1, .int .i64 0, .int .i64 2, .slice va vn vc] 28 (0, 0)) := by rw [hW0]; exact heap_alloc_new _ _
  have S1 := fun W g => same_row (h8.keep hbW) 8 rfl (by decide) W g
  have S2 := fun W g => same_row (h12.keep hbW) 6 rfl (by decide) W g
  simp only [U, List.map_cons, List.map_nil, Nat.zero_add, Nat.reduceSub] at S1 S2
  have SB : ∀ W g, Below W0.heap.size W0 W → Rl W (some ⟨g, 0, none⟩) 1 1 [[97]] → Calls Try.prog 23 #[.agg #[.int .i64 1, .int .i64 0, .int .i64 2, .slice va vn vc], .agg #[.int .i64 1, .int .i64 0, .int .i64 2, .slice (some ⟨g, 0, none⟩) 1 1]] W fun e w' => e = .returned (.bool true) ∧ Below W.heap.size W w' :=
    fun W g hb hR => ksameb_any 1 0 2 va (some ⟨g, 0, none⟩) vn vc 1 1 [[97]] W ((hR3.keep hbW).keep hb) hR
  have HK : Hid (∀ W, Below W0.heap.size W0 W → Below W0.heap.size W0 W ∧ W.cell? ⟨w3.heap.size, 0, none⟩ = some (.int .i64 1) ∧ W.cell? ⟨w3.heap.size, 1, none⟩ = some (.int .i64 0) ∧ W.cell? ⟨w3.heap.size, 2, none⟩ = some (.int .i64 2) ∧ W.cell? ⟨w3.heap.size, 3, none⟩ = some (.slice va vn vc)) := hide (fun W hb => by
    obtain ⟨a0, a1, a2, a3, _⟩ := row4 ((hb.block _ (some_lt hx)).trans hx)
    exact ⟨hb, a0, a1, a2, a3⟩)
  have HS1 := hide S1
  have HS2 := hide S2
  have HSB := hide SB
  have HEND : Hid (∀ W, Below W0.heap.size W0 W → Below w.heap.size w W) := hide (fun W hb => hb3'.trans ((hbW.trans (hb.mono hbW.size)).mono (by omega)))
  obtain ⟨T, hT⟩ : ∃ T, T = w3.heap.size := ⟨_, rfl⟩
  clear hB2 hb2' hb3 hL3 hr3 S1 S2 SB hx hbW h8 h12 hR3 hb3' hs1 hs2 hs3
  go_wp2_with fail
  rw [← hW0]
  clear hW0
  rw [← hT] at HK ⊢
  clear hT
  have i8 : (8 : Int) ≤ (d2 : Int) := by omega
  have i12 : (12 : Int) ≤ (d2 : Int) := by omega
  have i18 : (18 : Int) ≤ (d2 : Int) := by omega
  have n12 : ¬ d2 = 12 := by omega
  go_region_held3 (fun W => Below W0.heap.size W0 W ∧ W.cell? ⟨T, 0, none⟩ = some (.int .i64 1) ∧ W.cell? ⟨T, 1, none⟩ = some (.int .i64 0) ∧ W.cell? ⟨T, 2, none⟩ = some (.int .i64 2) ∧ W.cell? ⟨T, 3, none⟩ = some (.slice va vn vc))
    ((go_split_ands; refine HK.out _ ?_; repeat (first | assumption | exact Below.refl _ _ | refine belowD ?_ | refine belowA ?_ | refine belowT ?_ hb6 | refine belowT ?_ hb5)))
    (first
      | (go_at_call_of 22 (Value.slice (some ⟨g2, 0, none⟩) 8 d2); refine (HS1.out _ _ ?_ ?_).mono ?_; (go_split_ands; assumption); exact new_at _ _ _ (by simp); rintro e w' ⟨rfl, rfl⟩)
      | (go_at_call 11; refine (one_any _).mono ?_; rintro e w5 ⟨g5, rfl, hR5, hb5⟩)
      | (go_at_call 23; refine (HSB.out _ _ ?_ ?_).mono ?_; (go_split_ands; assumption); exact hR5; rintro e w6 ⟨rfl, hb6⟩)
      | (go_at_call 22; refine (HS2.out _ _ ?_ ?_).mono ?_; (go_split_ands; assumption); exact new_at _ _ _ (by simp); rintro e w' ⟨rfl, rfl⟩))
  all_goals
    go_split_ands
    go_wp2_with fail
    go_ret
    refine ⟨rfl, HEND.out _ ?_⟩
    assumption

end Go.Proofs.Ytelfckhiafnniaa

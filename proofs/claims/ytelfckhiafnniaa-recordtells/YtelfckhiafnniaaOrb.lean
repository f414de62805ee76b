/-
  What the document's own Add does, for any slice of bytes.
-/
import Derived.Test.YtelfckhiafnniaaBas
namespace Go.Proofs.Ytelfckhiafnniaa
open Go.RowKit

theorem rev_byteb (k v : Nat) : ∀ z ∈ (be k v).reverse, 0 ≤ z ∧ z ≤ 255 := fun z hz => be_byte k v z (List.mem_reverse.1 hz)

theorem rev_getb (k v j : Nat) (h1 : 0 < j) (h2 : j ≤ k) : ((be k v).reverse).getD (j - 1) 0 = (be k v).getD (k - j) 0 := by
  have hl := be_length k v
  simp only [List.getD]
  rw [List.getElem?_reverse (by rw [hl]; omega), hl]
  congr 2
  omega

theorem take_nextb (zs : List Int) (k v j : Nat) (h1 : 0 < j) (h2 : j ≤ k) : zs ++ (be k v).take (k - j) ++ [(be k v).getD (k - j) 0] = zs ++ (be k v).take (k - (j - 1)) := by
  have hl := be_length k v
  have hlt : k - j < (be k v).length := by omega
  rw [List.append_assoc, show k - (j - 1) = (k - j) + 1 from by omega, List.take_succ_eq_append_getElem hlt]
  simp [List.getD, List.getElem?_eq_getElem hlt]

theorem get_byteb (k v j : Nat) : 0 ≤ (be k v).getD j 0 ∧ (be k v).getD j 0 ≤ 255 := getD_byte (be_byte k v) j

set_option maxHeartbeats 1000000 in
theorem radd_any (a : Option Addr) (n cap : Nat) (zs : List Int) (v size : Nat) (w : World) (hB : Bs w a n cap zs) (hn : n + size ≤ 140737488355328) (h8 : size ≤ 8) (hs : 0 < size) (hv : v ≤ 18446744073709551615) :
    Calls Try.prog 40 #[.slice a n cap, .int .u64 v, .int .i64 size] w fun e w' => ∃ g d, e = .returned (.slice (some ⟨g, 0, none⟩) (n + size) d) ∧
      w'.ownsRow w.heap.size 5 1 (.slice (some ⟨g, 0, none⟩) (n + size) d) (n + size) (U (zs ++ be size v)) ∧ Below w.heap.size w w' := by
  obtain ⟨i0, hi, hz0, hz1, hz2⟩ := info_parts info5
  go_enter Try.func40, Try.ntmps40
  go_wp2_with fail
  go_loopw [1, 7, 8] (fun x low i wr => ∃ j y : Nat, j ≤ size ∧ i = .int .i64 j ∧ x = .int .u64 y ∧ y ≤ 18446744073709551615 ∧ Hid (y = v / 256 ^ j) ∧ wr.ownsRow w.heap.size 5 1 low j (U (be j v).reverse) ∧ Below w.heap.size w wr)
    (fun _ _ i _ => size - (intOf i).toNat)
  case atStart => exact ⟨0, v, Nat.zero_le _, rfl, rfl, hv, hide (by simp), World.ownsRow_nil _ _ _ _, Below.refl _ _⟩
  case round =>
    obtain ⟨j, y, hj, rfl, rfl, hy2, hy, hown, hb⟩ := hrel
    have hbs := hb.size
    by_cases hlt : j < size
    · go_wp2_with (at_builtin; refine wpList_append_bs rfl (.tmp 16) (.tmp 20) 22 rfl w.heap.size 5 i0 Try.underlying22 hi hz0 hz1 hz2 _ j _ rfl (hown.alloc _) _ _ _ [(y : Int) % 256] rfl (row_lit wr _ rfl [(y : Int) % 256] 1 rfl (by decide) (by simp; omega)) (by omega) (by omega) (by simp; omega) ?_; intro g cc w2 hown2 hgrow)
      go_roundw
      case rel =>
        refine ⟨j + 1, y / 256, by omega, by go_num, by go_num, by omega, hide ?_, ?_, (hb.alloc hbs _).grown hgrow (by simp; omega) (fun k hk => (hown.lt k hk).1)⟩
        · rw [hy.out, Nat.div_div_eq_div_mul, Nat.pow_succ]
        · have e : U (be j v).reverse ++ U [(y : Int) % 256] = U (be (j + 1) v).reverse := by
            rw [be_rev, U_append, ← hy.out]
            rfl
          rw [← e]
          exact hown2
      case measure => simp [intOf]; omega
    · obtain rfl : j = size := by omega
      obtain ⟨wl, hwl⟩ : ∃ wl : World, wl = wr := ⟨_, rfl⟩
      subst hwl
      obtain ⟨gl, dl, hlow⟩ := own_shape hown hs
      subst hlow
      have hL := own_bs hown (rev_byteb j v)
      have hgl := own_lt hown
      have hBr := hB.keep hb
      clear hown hlt hy
      go_wp2_with (at_builtin; refine wpList_append_val rfl (.tmp 24) (.tmp 25) 22 rfl wl.heap.size 5 i0 Try.underlying22 hi hz0 hz1 hz2 (.slice none 0 0) 0 [] rfl (World.ownsRow_nil _ _ _ _) _ _ _ zs rfl hBr (by omega) (Nat.le_refl _) ?_; intro o1 w1 hown1 hgrow1; simp only [Nat.zero_add, List.nil_append] at hown1; have hb1 : Below wl.heap.size wl w1 := (Below.refl _ _).grown hgrow1 (Nat.le_refl _) (fun k hk => by cases hk); clear hgrow1)
      go_loopw [9, 10] (fun out i wx => ∃ k : Nat, k ≤ j ∧ i = .int .i64 ((k : Int) - 1) ∧ wx.ownsRow wl.heap.size 5 1 out (n + (j - k)) (U (zs ++ (be j v).take (j - k))) ∧ Below wl.heap.size wl wx)
        (fun _ i _ => (intOf i + 1).toNat)
      case atStart => exact ⟨j, Nat.le_refl _, rfl, by simpa using hown1, hb1⟩
      case round =>
        obtain ⟨k, hk, rfl, hown, hbx⟩ := hrel
        have hxs := hbx.size
        by_cases hlt : 0 < k
        · obtain ⟨bb, oo, hbo, hcell⟩ := (hL.keep hbx).lies hs
          simp only [Option.some.injEq, Addr.mk.injEq, and_true] at hbo
          obtain ⟨rfl, rfl⟩ := hbo
          have hc := hcell (k - 1) (by omega)
          rw [rev_getb j v k hlt hk, Nat.zero_add] at hc
          have HT := hide (take_nextb zs j v k hlt hk)
          have hz := get_byteb j v (j - k)
          generalize (be j v).getD (j - k) 0 = z at hc HT hz
          obtain ⟨hza, hzb⟩ := hz
          clear hcell
          go_wp2_with (at_builtin; refine wpList_append_bs rfl (.tmp 33) (.tmp 38) 22 rfl wl.heap.size 5 i0 Try.underlying22 hi hz0 hz1 hz2 _ (n + (j - k)) _ rfl (hown.alloc _) _ _ _ [z] rfl (row_lit _ _ rfl [z] 1 rfl (by decide) (by simp; omega)) (by omega) (by omega) (by simp; omega) ?_; intro g2 c2 w2 hown2 hgrow2)
          go_roundw
          case rel =>
            refine ⟨k - 1, by omega, by go_num, ?_, (hbx.alloc hxs _).grown hgrow2 (by simp; omega) (fun q hq => (hown.lt q hq).1)⟩
            rw [← U_append, HT.out] at hown2
            rw [show n + (j - (k - 1)) = n + (j - k) + 1 from by omega]
            exact hown2
          case measure => simp [intOf]; omega
        · obtain rfl : k = 0 := by omega
          simp only [Nat.sub_zero] at hown
          rw [List.take_of_length_le (by rw [be_length]; exact Nat.le_refl _)] at hown
          obtain ⟨g3, d3, hout⟩ := own_shape hown (by omega)
          subst hout
          clear hL hB hBr hown1
          go_wp2_with fail
          go_ret
          refine ⟨g3, d3, rfl, ?_, hb.trans (hbx.mono hbs)⟩
          exact ⟨hown.1, by rcases hown.2 with h | ⟨g, c, cur, h1, h2, r⟩; exact .inl h; exact .inr ⟨g, c, cur, h1, by omega, r⟩⟩

end Go.Proofs.Ytelfckhiafnniaa

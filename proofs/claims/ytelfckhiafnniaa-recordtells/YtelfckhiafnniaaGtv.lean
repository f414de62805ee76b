/-
  What Get does, for any slice of bytes and any place.
-/
import Derived.Test.YtelfckhiafnniaaUpl
namespace Go.Proofs.Ytelfckhiafnniaa
open Go.RowKit Go.Shelf

attribute [local go_sem] Oper.semAt_some

theorem glue (p q k : Nat) (hk : k ≤ 9) (hp : p < 128 ^ k) : p ||| (q * 128 ^ k) % 18446744073709551616 = (p + 128 ^ k * q) % 18446744073709551616 := by
  obtain ⟨i, hi⟩ : ∃ i, i = 7 * k := ⟨_, rfl⟩
  have e : (128 : Nat) ^ k = 2 ^ i := by rw [hi, Nat.pow_mul]
  have e2 : (18446744073709551616 : Nat) = 2 ^ i * 2 ^ (64 - i) := by rw [← Nat.pow_add, show i + (64 - i) = 64 from by omega]
  rw [e] at hp ⊢
  rw [e2, Nat.mul_comm q, Nat.mul_mod_mul_left, Nat.mod_mul, Nat.add_mul_mod_self_left, Nat.mod_eq_of_lt hp, Nat.add_mul_div_left _ _ (by omega), Nat.div_eq_of_lt hp, Nat.zero_add, Nat.or_comm, ← Nat.two_pow_add_eq_or_of_lt hp, Nat.add_comm]

theorem num_step (pre : List Int) (x : Int) (hk : pre.length ≤ 9) : (num pre % 18446744073709551616) ||| ((x % 128).toNat * 128 ^ pre.length) % 18446744073709551616 = num (pre ++ [x]) % 18446744073709551616 := by
  have h := num_lt pre
  have h2 : (128 : Nat) ^ pre.length ≤ 128 ^ 9 := Nat.pow_le_pow_right (by omega) hk
  rw [Nat.mod_eq_of_lt (a := num pre) (by omega), num_snoc]
  exact glue _ _ _ hk h

theorem shift_step {P : Program} (x : Int) (k : Nat) (h0 : 0 ≤ x) (hk : k ≤ 9) (w : World) :
    (Op.shift .shl .u64 (IntKind.u64.wrap (x.tmod 128)) .i64 (IntKind.i64.wrap (7 * (k : Int)))).run P w = .ok (.int .u64 (((x % 128).toNat * 128 ^ k % 18446744073709551616 : Nat) : Int)) w := by
  have e1 : x.tmod 128 = x % 128 := Int.tmod_eq_emod_of_nonneg h0
  have e2 : IntKind.i64.wrap (7 * (k : Int)) = 7 * (k : Int) := by rw [IntKind.wrap_i64]; omega
  have e3 : IntKind.u64.wrap (x % 128) = x % 128 := by simp [IntKind.wrap_u64]; omega
  rw [e1, e3, e2, shift_shl_u64 _ _ _ (by omega) (by omega)]
  have e4 : (7 * (k : Int)).toNat = 7 * k := by omega
  have e5 : ((2 : Int) ^ (7 * k)) = ((128 ^ k : Nat) : Int) := by rw [Int.pow_mul]; simp
  have e6 : x % 128 = (((x % 128).toNat : Nat) : Int) := by omega
  rw [e4, e5]
  simp only [IntKind.wrap_u64, Sem.run_pure]
  congr 2
  rw [e6]
  simp

/-- What a look for a number hands back. -/
def gret (o : Option Nat) (at' : Nat) : Value := match o with | some v => .tuple #[.int .u64 (v : Int), .int .i64 ((at' + (vb v).length : Nat) : Int), .bool true] | none => .tuple #[.int .u64 0, .int .i64 0, .bool false]

theorem getv_upto {l : List Int} (hb : ∀ z ∈ l, 0 ≤ z ∧ z ≤ 255) {v : Nat} (h : getv l = some v) : upto 10 l = vb v ∧ v < 18446744073709551616 := by
  obtain ⟨h1, t, rfl⟩ := (getv_iff hb v).1 h
  exact ⟨upto_vb v 10 t (vb_len10 h1), h1⟩

set_option maxHeartbeats 1000000 in
theorem mayEnd_in (F : Fence) (n : Nat) (h5 : F.fn 68) (hro : F.round = none) (z : Int) (m : Nat) (w : World) :
    CallsIn F n Try.prog 68 #[.int .u8 z, .int .i64 (m : Int)] w fun e w' => e = .returned (.bool (mayEnd z m)) ∧ w' = w := by
  refine callsIn_of_wp Try.func68 rfl h5 ?_ hro
  simp only [Try.ntmps68, List.size_toArray, List.length_cons, List.length_nil, Nat.reduceAdd, Nat.reduceSub, Array.replicate_succ, Array.replicate_zero, List.push_toArray, List.append_toArray, List.nil_append, List.cons_append]
  by_cases h1 : 128 ≤ z
  · have e : mayEnd z m = false := by unfold mayEnd; rw [if_pos h1]
    gi_wp2
    go_ret
    exact ⟨congrArg (fun x => Ending.returned (.bool x)) e.symm, rfl⟩
  · by_cases h2 : m = 10
    · subst h2
      have e : mayEnd z 10 = decide (z = 1) := by unfold mayEnd; rw [if_neg h1, if_pos rfl]
      gi_wp2
      go_ret
      exact ⟨congrArg (fun x => Ending.returned (.bool x)) (by by_cases h : z = 1 <;> simp [h]), rfl⟩
    · have h2' : ¬ (m : Int) = 10 := by omega
      by_cases h3 : 1 < m
      · have e : mayEnd z m = decide (0 < z) := by unfold mayEnd; rw [if_neg h1, if_neg h2, if_pos h3]
        gi_wp2
        go_ret
        exact ⟨rfl, rfl⟩
      · have e : mayEnd z m = true := by unfold mayEnd; rw [if_neg h1, if_neg h2, if_neg h3]
        gi_wp2
        go_ret
        exact ⟨rfl, rfl⟩

theorem get_bad (a : Option Addr) (len cap : Nat) (x : Int) (hx : x < 0 ∨ (len : Int) ≤ x) (w : World) :
    Calls Try.prog 55 #[.slice a len cap, .int .i64 x] w fun e w' => e = .returned (.tuple #[.int .u64 0, .int .i64 0, .bool false]) ∧ w' = w := by
  go_enter Try.func55, Try.ntmps55
  by_cases h : x < 0
  · go_wp2
    go_ret3
    exact ⟨rfl, rfl⟩
  · have h2 : (len : Int) ≤ x := by omega
    go_wp2
    go_ret3
    exact ⟨rfl, rfl⟩

set_option maxRecDepth 100000 in
set_option maxHeartbeats 4000000 in
theorem get_in (F : Fence) (n : Nat) (h3 : F.fn 55) (h4 : F.fn 67) (h5 : F.fn 68) (h6 : F.fn 70) (hro : F.round = none) (hn : 4 ≤ n) (b off len cap at' : Nat) (zs : List Int) (w : World)
    (hB : Bs w (some ⟨b, off, none⟩) len cap zs) (hat : at' < len) :
    CallsIn F n Try.prog 55 #[.slice (some ⟨b, off, none⟩) len cap, .int .i64 (at' : Int)] w fun e W' =>
      e = .returned (gret (getv (zs.drop at')) at') ∧ Below w.heap.size w W' := by
  have h1 : 1 ≤ n := by omega
  have hle := hB.le
  have hre := hB.reach
  have hll := hB.len
  obtain ⟨b', off', ha, hcs⟩ := hB.lies (by omega)
  simp only [Option.some.injEq, Addr.mk.injEq, and_true] at ha
  obtain ⟨rfl, rfl⟩ := ha
  have hbw := cell_lt (hcs 0 (by omega))
  simp only [] at hbw
  refine callsIn_of_wp_marks Try.func55 rfl h3 ?_ hro
  simp only [Try.ntmps55, List.size_toArray, List.length_cons, List.length_nil, Nat.reduceAdd, Nat.reduceSub, Array.replicate_succ, Array.replicate_zero, List.push_toArray, List.append_toArray, List.nil_append, List.cons_append]
  gi_wp2_with (gi_at_call 67; refine (upl_in F (n - 1) h4 hro _ _ _ _).mono ?_; rintro e w4 ⟨rfl, rfl⟩)
  have hN := Boxed.new w 51 (.int .u64 0)
  have hL := Boxed.new (w.alloc (.cells #[.int .u64 0] 51)) 5 (.int .u8 0)
  have hS := Boxed.new ((w.alloc (.cells #[.int .u64 0] 51)).alloc (.cells #[.int .u8 0] 5)) 3 (.int .i64 0)
  have hX := Boxed.new (((w.alloc (.cells #[.int .u64 0] 51)).alloc (.cells #[.int .u8 0] 5)).alloc (.cells #[.int .i64 0] 3)) 22 (.slice (some ⟨b, off + at', none⟩) (len - at') (cap - at'))
  have hB0 : Below w.heap.size w ((((w.alloc (.cells #[.int .u64 0] 51)).alloc (.cells #[.int .u8 0] 5)).alloc (.cells #[.int .i64 0] 3)).alloc (.cells #[.slice (some ⟨b, off + at', none⟩) (len - at') (cap - at')] 22)) :=
    ((((Below.refl _ w).alloc (Nat.le_refl _) _).alloc (by simp) _).alloc (by simp; omega) _).alloc (by simp; omega) _
  replace hN := ((hN.alloc (.cells #[.int .u8 0] 5)).alloc (.cells #[.int .i64 0] 3)).alloc (.cells #[.slice (some ⟨b, off + at', none⟩) (len - at') (cap - at')] 22)
  replace hL := (hL.alloc (.cells #[.int .i64 0] 3)).alloc (.cells #[.slice (some ⟨b, off + at', none⟩) (len - at') (cap - at')] 22)
  replace hS := hS.alloc (.cells #[.slice (some ⟨b, off + at', none⟩) (len - at') (cap - at')] 22)
  have hsz : ((((w.alloc (.cells #[.int .u64 0] 51)).alloc (.cells #[.int .u8 0] 5)).alloc (.cells #[.int .i64 0] 3)).alloc (.cells #[.slice (some ⟨b, off + at', none⟩) (len - at') (cap - at')] 22)).heap.size = w.heap.size + 4 := by simp
  simp only [World.size_alloc] at hL hS hX
  obtain ⟨W0, hW0⟩ : ∃ W0, ((((w.alloc (.cells #[.int .u64 0] 51)).alloc (.cells #[.int .u8 0] 5)).alloc (.cells #[.int .i64 0] 3)).alloc (.cells #[.slice (some ⟨b, off + at', none⟩) (len - at') (cap - at')] 22)) = W0 := ⟨_, rfl⟩
  rw [hW0] at hN hL hS hX hB0 hsz ⊢
  clear hW0
  refine wpIn_rangeFunc_ownG hro h1 (gf := 70) (lb := #[.pointer (some ⟨w.heap.size + 1 + 1 + 1, 0, none⟩)]) rfl h6 (enters_of Try.func70 (by kernel_rfl) rfl)
    (upl_stops F (n - 1) h6 hro (by omega) (w.heap.size + 1 + 1 + 1) w.heap.size b (off + at') (len - at') (cap - at') (zs.drop at') (drop_byte hB.byte _) (by simp; omega) (by omega) (by omega) hbw W0 (by omega) (by omega) hX.cell
      (fun i hi => (hB0.cell (p := ⟨b, off + at' + i, none⟩) hbw).trans (by rw [Nat.add_assoc, hcs (at' + i) (by omega)]; simp))) belowK_t (belowK_b (by omega)) (Below.refl _ _) (fun _ => rfl)
    (fun pre W => (Boxed W w.heap.size 51 (.int .u64 ((num pre.unattach % 18446744073709551616 : Nat) : Int)) ∧ Boxed W (w.heap.size + 1) 5 (.int .u8 (last pre.unattach)) ∧ Boxed W (w.heap.size + 1 + 1) 3 (.int .i64 (pre.length : Int))) ∧ Below w.heap.size w W)
    (fun _ _ _ => False)
    (OwnFrom.and (OwnFrom.and (Own.from (boxed_own _ _ (fun pre : List Byt => .int .u64 ((num pre.unattach % 18446744073709551616 : Nat) : Int))) _) (OwnFrom.and (Own.from (boxed_own _ _ (fun pre : List Byt => .int .u8 (last pre.unattach))) _) (Own.from (boxed_own _ _ (fun pre : List Byt => .int .i64 (pre.length : Int))) _))) (ownFrom_below (Nat.le_refl _) (by omega)))
    (fun _ _ _ _ _ hs _ _ => hs)
    ⟨⟨hN, hL, hS⟩, hB0⟩
    (fun x => { tmps := #[.slice (some ⟨b, off, none⟩) len cap, .int .i64 at', undef, undef, .int .u64 0, .int .i64 0, .bool false, .pointer (some ⟨w.heap.size, 0, none⟩), .pointer (some ⟨w.heap.size + 1, 0, none⟩), .pointer (some ⟨w.heap.size + 1 + 1, 0, none⟩), .int .u8 x.1, .int .i64 at', .bool (decide ((at' : Int) < 0)), .bool (decide ((at' : Int) < 0)), .int .i64 at', .slice (some ⟨b, off, none⟩) len cap, .int .i64 len, .bool false, .bool (decide ((at' : Int) < 0)), .slice (some ⟨b, off, none⟩) len cap, .int .i64 at', .slice (some ⟨b, off + at', none⟩) (len - at') (cap - at'), .func (.func 70) #[] #[.pointer (some ⟨w.heap.size + 1 + 1 + 1, 0, none⟩)], .int .u8 x.1, undef, undef, undef, undef, undef, undef, undef, undef, undef, undef, undef, undef, undef, undef, undef, undef, undef, undef, undef], defers := [] }) ?assign ?body ?done ?stop
  case assign =>
    intro l x W K hK
    gi_wp2
    exact hK
  case body =>
    rintro l pre ⟨x, hx0, hx1⟩ W ⟨⟨bN, bL, bS⟩, hBl⟩ hlt
    have hd : 1 ≤ n - 1 - 1 := by omega
    have hmx : Try.prog.follows .mixedOrders = true := by kernel_rfl
    have hsh := fun W' => shift_step (P := Try.prog) x pre.length hx0 (by omega) W'
    have hst := num_step pre.unattach x (by simp; omega)
    simp only [List.length_unattach] at hst
    obtain ⟨s, hs⟩ : ∃ s, s = (x % 128).toNat * 128 ^ pre.length % 18446744073709551616 := ⟨_, rfl⟩
    have hs2 : s < 18446744073709551616 := by omega
    rw [← hs] at hst
    simp only [← hs] at hsh
    clear hs
    obtain ⟨p, hp⟩ : ∃ p, p = num pre.unattach % 18446744073709551616 := ⟨_, rfl⟩
    have hp2 : p < 18446744073709551616 := by omega
    rw [← hp] at hst bN
    clear hp
    obtain ⟨la, hla⟩ : ∃ la, la = last pre.unattach := ⟨_, rfl⟩
    rw [← hla] at bL
    clear hla
    have c1 := bN.cell
    have f1 := bN.frozen
    have c2 := bL.cell
    have f2 := bL.frozen
    have c3 := bS.cell
    have f3 := bS.frozen
    gi_wp2
    rename_i K hK
    have hk : K { tmps := #[.slice (some ⟨b, off, none⟩) len cap, .int .i64 at', undef, undef, .int .u64 0, .int .i64 0, .bool false, .pointer (some ⟨w.heap.size, 0, none⟩), .pointer (some ⟨w.heap.size + 1, 0, none⟩), .pointer (some ⟨w.heap.size + 1 + 1, 0, none⟩), .int .u8 x, .int .i64 at', .bool (decide ((at' : Int) < 0)), .bool (decide ((at' : Int) < 0)), .int .i64 at', .slice (some ⟨b, off, none⟩) len cap, .int .i64 len, .bool false, .bool (decide ((at' : Int) < 0)), .slice (some ⟨b, off, none⟩) len cap, .int .i64 at', .slice (some ⟨b, off + at', none⟩) (len - at') (cap - at'), .func (.func 70) #[] #[.pointer (some ⟨w.heap.size + 1 + 1 + 1, 0, none⟩)], .int .u8 x, .int .u64 p, .int .u8 x, .int .u8 (x.tmod 128), .int .u64 (IntKind.u64.wrap (x.tmod 128)), .int .i64 pre.length, .int .i64 (IntKind.i64.wrap (7 * (pre.length : Int))), .int .u64 s, .int .u64 (bits .or .u64 p s), undef, undef, undef, undef, undef, undef, undef, undef, undef, undef, undef], defers := [] } (W.setCell ⟨w.heap.size, 0, none⟩ (.int .u64 (bits .or .u64 p s))).drew := by
      refine hK _ _ ?_
      have g1 := (bN.set (.int .u64 (bits .or .u64 p s))).cell
      have c2' := (bL.other (by omega : w.heap.size + 1 ≠ w.heap.size) (.int .u64 (bits .or .u64 p s))).cell
      have f2' := (bL.other (by omega : w.heap.size + 1 ≠ w.heap.size) (.int .u64 (bits .or .u64 p s))).frozen
      have c3' := (bS.other (by omega : w.heap.size + 1 + 1 ≠ w.heap.size) (.int .u64 (bits .or .u64 p s))).cell
      gi_wp2
      have b1 := ((bN.set (.int .u64 (bits .or .u64 p s))).other (by omega : w.heap.size ≠ w.heap.size + 1) (.int .u8 x)).other (by omega : w.heap.size ≠ w.heap.size + 1 + 1) (.int .i64 ((pre.length : Int) + 1))
      have b2 := ((bL.other (by omega : w.heap.size + 1 ≠ w.heap.size) (.int .u64 (bits .or .u64 p s))).set (.int .u8 x)).other (by omega : w.heap.size + 1 ≠ w.heap.size + 1 + 1) (.int .i64 ((pre.length : Int) + 1))
      have b3 := ((bS.other (by omega : w.heap.size + 1 + 1 ≠ w.heap.size) (.int .u64 (bits .or .u64 p s))).other (by omega : w.heap.size + 1 + 1 ≠ w.heap.size + 1) (.int .u8 x)).set (.int .i64 ((pre.length : Int) + 1))
      have e1 : bits .or .u64 (p : Int) (s : Int) = ((num (pre ++ [(⟨x, hx0, hx1⟩ : Byt)]).unattach % 18446744073709551616 : Nat) : Int) := by
        rw [u64_or_nat p s hp2 hs2, hst]
        simp
      have e2 : last (pre ++ [(⟨x, hx0, hx1⟩ : Byt)]).unattach = x := by simp [last]
      have e3 : (((pre ++ [(⟨x, hx0, hx1⟩ : Byt)]).length : Nat) : Int) = (pre.length : Int) + 1 := by simp
      rw [e1] at b1 b2 b3 ⊢
      exact ⟨((((KeepsOthers.setCell W _ _).trans (KeepsOthers.setCell _ _ _)).trans (KeepsOthers.setCell _ _ _)).trans (KeepsOthers.drew _)).from _, ((((Below.refl w.heap.size W).setCell (p := ⟨w.heap.size, 0, none⟩) (Nat.le_refl _) _).setCell (p := ⟨w.heap.size + 1, 0, none⟩) (by simp) _).setCell (p := ⟨w.heap.size + 1 + 1, 0, none⟩) (by simp; omega) _).drew,
        ⟨b1, by rw [e2]; exact b2, by rw [e3]; exact b3⟩, (((hBl.setCell (p := ⟨w.heap.size, 0, none⟩) (Nat.le_refl _) _).setCell (p := ⟨w.heap.size + 1, 0, none⟩) (by simp) _).setCell (p := ⟨w.heap.size + 1 + 1, 0, none⟩) (by simp; omega) _).drew⟩
    gi_region_with_o (fail)
    all_goals exact hk
  case done =>
    rintro D ys W hD hys ⟨⟨bN, bL, bS⟩, hBl⟩ hK
    have hN2 : num ys.unattach % 18446744073709551616 < 18446744073709551616 := by omega
    obtain ⟨N, La, Ln, hcase, bN, bL, bS⟩ : ∃ (N : Nat) (La : Int) (Ln : Nat), ((mayEnd La Ln = true ∧ Hid (getv (zs.drop at') = some N) ∧ Hid (Ln = (vb N).length) ∧ at' + Ln ≤ 9223372036854775807) ∨ (mayEnd La Ln = false ∧ Hid (getv (zs.drop at') = none))) ∧
        Boxed W w.heap.size 51 (.int .u64 (N : Int)) ∧ Boxed W (w.heap.size + 1) 5 (.int .u8 La) ∧ Boxed W (w.heap.size + 1 + 1) 3 (.int .i64 (Ln : Int)) := by
      have hys' : ys.unattach = upto 10 (zs.drop at') := hys
      have hyl : ys.length = (upto 10 (zs.drop at')).length := by rw [← hys', List.length_unattach]
      have hne : upto 10 (zs.drop at') ≠ [] := by
        rw [drop_here zs at' (by omega), upto]
        split <;> simp
      have hg : getv (zs.drop at') = if mayEnd (last ys.unattach) ys.length = true then some (num ys.unattach) else none := by
        unfold getv
        rw [hys', hyl]
        simp [hne]
      by_cases hm : mayEnd (last ys.unattach) ys.length = true
      · rw [if_pos hm] at hg
        obtain ⟨hu, hv⟩ := getv_upto (drop_byte hB.byte at') hg
        rw [Nat.mod_eq_of_lt hv] at bN
        exact ⟨_, _, _, .inl ⟨hm, hide hg, hide (by rw [← hu, hyl]), by have := (upto_prefix 10 (zs.drop at')).length_le; simp at this; omega⟩, bN, bL, bS⟩
      · rw [if_neg hm] at hg
        exact ⟨_, _, _, .inr ⟨by simpa using hm, hide hg⟩, bN, bL, bS⟩
    clear hys hN2
    have c1 := bN.cell
    have c2 := bL.cell
    have c3 := bS.cell
    rcases hcase with ⟨hm, hg, hlv, hat2⟩ | ⟨hm, hg⟩
    · gi_wp2_with (gi_at_call 68; refine (mayEnd_in F (n - 1) h5 hro _ _ _).mono ?_; rintro e w4 ⟨rfl, rfl⟩)
      have hmx : Try.prog.follows .mixedOrders = true := by kernel_rfl
      have hwr : IntKind.i64.wrap ((at' : Int) + (Ln : Int)) = (at' : Int) + (Ln : Int) := by rw [IntKind.wrap_i64]; omega
      gi_region_with_o (fail)
      all_goals gi_wp2
      all_goals refine ⟨by simp, .inl ⟨_, _, rfl, run_takeDeferred hK, ?_⟩⟩
      all_goals exact ⟨_, results_tmp3 rfl _ _ _, congrArg Ending.returned (by rw [hg.out, gret, ← hlv.out]; simp), hBl.drew.trans (belowK_b (w := w) (Nat.le_refl _) _ D _ _ (by omega) hK rfl rfl)⟩
    · gi_wp2_with (gi_at_call 68; refine (mayEnd_in F (n - 1) h5 hro _ _ _).mono ?_; rintro e w4 ⟨rfl, rfl⟩)
      refine ⟨by simp, .inl ⟨_, _, rfl, run_takeDeferred hK, ?_⟩⟩
      exact ⟨_, results_tmp3 rfl _ _ _, congrArg Ending.returned (by rw [hg.out]; rfl), hBl.trans (belowK_b (w := w) (Nat.le_refl _) _ D _ _ (by omega) hK rfl rfl)⟩
  case stop =>
    rintro D c pre W _ _ h _
    exact h.elim

/-- The number at a place: what a look for it hands back. -/
def got (zs : List Int) (x : Int) : Value := if x < 0 ∨ (zs.length : Int) ≤ x then gret none 0 else gret (getv (zs.drop x.toNat)) x.toNat

theorem get_any (a : Option Addr) (len cap : Nat) (zs : List Int) (x : Int) (w : World) (hB : Bs w a len cap zs) :
    Calls Try.prog 55 #[.slice a len cap, .int .i64 x] w fun e W' => e = .returned (got zs x) ∧ Below w.heap.size w W' := by
  unfold got
  rw [hB.len]
  by_cases h : x < 0 ∨ (len : Int) ≤ x
  · rw [if_pos h]
    refine (get_bad a len cap x h w).mono ?_
    rintro e w' ⟨rfl, rfl⟩
    exact ⟨rfl, Below.refl _ _⟩
  · rw [if_neg h]
    obtain ⟨at', rfl⟩ : ∃ at' : Nat, x = (at' : Int) := ⟨x.toNat, by omega⟩
    obtain ⟨b, off, rfl, _⟩ := hB.lies (by omega)
    exact callsIn_wide.1 (get_in Fence.wide 4 trivial trivial trivial trivial rfl (Nat.le_refl _) b off len cap at' zs w hB (by omega))

end Go.Proofs.Ytelfckhiafnniaa

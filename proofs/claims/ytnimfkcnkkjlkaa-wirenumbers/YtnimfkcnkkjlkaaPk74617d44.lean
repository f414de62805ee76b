/-
  Texts put into one.
-/
import Derived.Test.YtnimfkcnkkjlkaaPk951d67dd
import Derived.Test.YtnimfkcnkkjlkaaPk26443d94
import Derived.Test.YtnimfkcnkkjlkaaPkdd35d6a6

/-
  What the bytes' iterator does, and the two calls that range over it.
-/
namespace Go.Proofs.Ytnimfkcnkkjlkaa
open Go.RowKit Go.Shelf
set_option maxRecDepth 100000

attribute [local go_sem] Oper.semAt_some

set_option maxRecDepth 100000 in
set_option maxHeartbeats 1000000 in
theorem oct1_in (F : Fence) (n : Nat) (h6 : F.fn 118) (hro : F.round = none) (_hn : 1 ≤ n) (l Bn n₀ : Nat) (v : Nat) (hv : v < 18446744073709551616) (J Jx : List Int → World → Prop)
    (hY : ∀ pre x W, J pre W → pre.length < (vb v).length → YieldAt F (n - 1) Try.prog l #[.int .u8 x] W fun e W' =>
      (e = .returned (.bool true) ∧ J (pre ++ [x]) W' ∧ Below n₀ W W') ∨ (e = .returned (.bool false) ∧ Jx (pre ++ [x]) W'))
    (W : World) (hBn : W.cell? ⟨Bn, 0, none⟩ = some (.int .u64 (v : Int))) (h0 : J [] W) :
    CallsIn F n Try.prog 118 #[.func (.yield l) #[] #[], .pointer (some ⟨Bn, 0, none⟩)] W fun e W' => (∃ v, e = .returned v) ∧
      ((∃ ys, ys = vb v ∧ J ys W') ∨ (∃ pre, True ∧ Jx pre W')) := by
  refine callsIn_of_wp Try.func118 rfl h6 ?_ hro
  simp only [Try.ntmps118, List.size_toArray, List.length_cons, List.length_nil, Nat.reduceAdd, Nat.reduceSub, Array.replicate_succ, Array.replicate_zero, List.push_toArray, List.append_toArray, List.nil_append, List.cons_append]
  gi_wp2
  gi_loopw [3] (fun p wr => ∃ (pre : List Int) (r : Nat), p = .int .u64 (r : Int) ∧ r ≤ v ∧ vb v = pre ++ vb r ∧ J pre wr)
    (fun p _ => (intOf p).toNat)
  case atStart =>
    exact ⟨[], v, rfl, Nat.le_refl _, rfl, h0⟩
  case round =>
    obtain ⟨pre, r, rfl, hrv, hx, hJs⟩ := hrel
    have hx' := congrArg List.length hx
    rw [List.length_append] at hx'
    by_cases h : 128 ≤ r
    · obtain ⟨fn, tmps, assign, body, hy, hR⟩ := hY pre ((r : Int) % 128 + 128) wr hJs (by have := vb_pos r; omega)
      have hvr : vb r = ((r : Int) % 128 + 128) :: vb (r / 128) := by rw [vb_ge h]; congr 1
      gi_wp2
      refine hR.mono ?_
      rintro e W3 (⟨rfl, hJ3, _⟩ | ⟨rfl, hJx3⟩)
      · gi_wp2
        go_roundw
        case rel => exact ⟨pre ++ [(r : Int) % 128 + 128], r / 128, by simp, by omega, by rw [hx, hvr]; simp, hJ3⟩
        case measure => simp [intOf]; omega
      · gi_wp2
        refine bodyPost_ret (results_none rfl _ _ _) rfl ?_
        exact ⟨⟨_, rfl⟩, .inr ⟨_, trivial, hJx3⟩⟩
    · obtain ⟨fn, tmps, assign, body, hy, hR⟩ := hY pre (r : Int) wr hJs (by have := vb_pos r; omega)
      have hvr : vb r = [(r : Int)] := vb_lt (by omega)
      have hm : (r : Int) % 256 = r := by omega
      gi_wp2
      refine hR.mono ?_
      rintro e W3 (⟨rfl, hJ3, _⟩ | ⟨rfl, hJx3⟩)
      · gi_wp2
        go_end0
        exact ⟨⟨_, rfl⟩, .inl ⟨_, by rw [hx, hvr], hJ3⟩⟩
      · gi_wp2
        go_end0
        exact ⟨⟨_, rfl⟩, .inr ⟨_, trivial, hJx3⟩⟩

set_option maxHeartbeats 1000000 in
theorem octets_in (F : Fence) (n : Nat) (h5 : F.fn 116) (hro : F.round = none) (v : Int) (w : World) :
    CallsIn F n Try.prog 116 #[.int .u64 v] w fun e w' => e = .returned (.func (.func 118) #[] #[.pointer (some ⟨w.heap.size, 0, none⟩)]) ∧ w' = w.alloc (.cells #[.int .u64 v] 147) := by
  refine callsIn_of_wp Try.func116 rfl h5 ?_ hro
  simp only [Try.ntmps116, List.size_toArray, List.length_cons, List.length_nil, Nat.reduceAdd, Nat.reduceSub, Array.replicate_succ, Array.replicate_zero, List.push_toArray, List.append_toArray, List.nil_append, List.cons_append]
  gi_wp2
  go_ret
  exact ⟨rfl, rfl⟩

theorem oct_stops (F : Fence) (n : Nat) (h6 : F.fn 118) (hro : F.round = none) (hn : 1 ≤ n) (Bn n₀ : Nat) (v : Nat) (hv : v < 18446744073709551616) (w : World) (hBn : Bn < w.heap.size)
    (hc : w.cell? ⟨Bn, 0, none⟩ = some (.int .u64 (v : Int))) :
    SeqStopsK F n Try.prog 118 #[.pointer (some ⟨Bn, 0, none⟩)] (fun x : Int => #[Value.int .u8 x]) (Below n₀) (fun ys => ys = vb v) (fun _ => True) (vb v).length w := fun l J Jx W hW _ _ hY h0 =>
  oct1_in F n h6 hro hn l Bn n₀ v hv J Jx hY W ((hW.cell (p := ⟨Bn, 0, none⟩) hBn).trans hc) h0

set_option maxRecDepth 100000 in
set_option maxHeartbeats 2000000 in
theorem len_in (F : Fence) (n : Nat) (h3 : F.fn 115) (h5 : F.fn 116) (h6 : F.fn 118) (hro : F.round = none) (hn : 3 ≤ n) (v : Nat) (hv : v < 18446744073709551616) (w : World) :
    CallsIn F n Try.prog 115 #[.int .u64 (v : Int)] w fun e W' => e = .returned (.int .i64 ((vb v).length : Int)) ∧ Below w.heap.size w W' := by
  have h1 : 1 ≤ n := by omega
  refine callsIn_of_wp_marks Try.func115 rfl h3 ?_ hro
  simp only [Try.ntmps115, List.size_toArray, List.length_cons, List.length_nil, Nat.reduceAdd, Nat.reduceSub, Array.replicate_succ, Array.replicate_zero, List.push_toArray, List.append_toArray, List.nil_append, List.cons_append]
  gi_wp2_with (gi_at_call 116; refine (octets_in F (n - 1) h5 hro _ _).mono ?_; rintro e w' ⟨rfl, rfl⟩)
  have bS := Boxed.new w 3 (.int .i64 0)
  have bN := Boxed.new (w.alloc (.cells #[.int .i64 0] 3)) 147 (.int .u64 (v : Int))
  rw [World.size_alloc] at bN
  have hB0 : Below w.heap.size w ((w.alloc (.cells #[.int .i64 0] 3)).alloc (.cells #[.int .u64 (v : Int)] 147)) := ((Below.refl _ w).alloc (Nat.le_refl _) _).alloc (by simp) _
  have h10 := vb_len10 hv
  refine wpIn_rangeFunc_ownG hro h1 (gf := 118) (lb := #[.pointer (some ⟨w.heap.size + 1, 0, none⟩)]) rfl h6 (enters_of Try.func118 (by kernel_rfl) rfl)
    (oct_stops F (n - 1) h6 hro (by omega) (w.heap.size + 1) w.heap.size v hv _ (by simp) bN.cell) belowK_t (belowK_b (by simp; omega)) (Below.refl _ _) (fun _ => rfl)
    (fun pre W => (W.cell? ⟨w.heap.size, 0, none⟩ = some (.int .i64 (pre.length : Int)) ∧ W.frozen? ⟨w.heap.size, 0, none⟩ = false) ∧ Below w.heap.size w W)
    (fun _ _ _ => False)
    (OwnFrom.and (Own.from (fun s A B row hs hg hr => ⟨cell_kept hs.1 hg hr, (frozen_kept hs.1 hg hr).trans hs.2⟩) _) (ownFrom_below (Nat.le_refl _) (by simp; omega)))
    (fun _ _ _ _ _ hs _ _ => hs)
    ⟨⟨(bS.alloc _).cell, (bS.alloc _).frozen⟩, hB0⟩
    (fun x => { tmps := #[.int .u64 (v : Int), undef, .int .i64 0, .pointer (some ⟨w.heap.size, 0, none⟩), .int .u64 (v : Int), .func (.func 118) #[] #[.pointer (some ⟨w.heap.size + 1, 0, none⟩)], .int .u8 x, undef, undef, undef], defers := [] }) ?assign ?body ?done ?stop
  case assign =>
    intro l x W K hK
    gi_wp2
    simpa using hK
  case body =>
    rintro l pre x W ⟨⟨hc, hf⟩, hB⟩ hlt
    gi_wp2
    exact ⟨(KeepsOthers.setCell _ _ _).from _, (Below.refl w.heap.size W).setCell (p := ⟨w.heap.size, 0, none⟩) (Nat.le_refl _) _, ⟨by simp; exact World.cell?_setCell_same' _ _ _ (by rw [hc]; rfl), by rw [World.frozen?_setCell]; exact hf⟩, hB.setCell (p := ⟨w.heap.size, 0, none⟩) (Nat.le_refl _) _⟩
  case done =>
    rintro D ys W hD rfl ⟨⟨hc, _⟩, hB⟩ hK
    gi_wp2
    refine ⟨by simp, .inl ⟨_, _, rfl, run_takeDeferred hK, ?_⟩⟩
    exact ⟨_, results_tmp rfl _ _ _, rfl, hB.trans (belowK_b (w := w) (Nat.le_refl _) W D _ _ (by simp at hD; omega) hK rfl rfl)⟩
  case stop =>
    rintro D c pre W _ _ h _
    exact h.elim

theorem len_any (v : Nat) (hv : v < 18446744073709551616) (w : World) :
    Calls Try.prog 115 #[.int .u64 (v : Int)] w fun e W' => e = .returned (.int .i64 ((vb v).length : Int)) ∧ Below w.heap.size w W' :=
  callsIn_wide.1 (len_in Fence.wide 3 trivial trivial trivial rfl (Nat.le_refl _) v hv w)

end Go.Proofs.Ytnimfkcnkkjlkaa

/-
  What Put does, for any slice of bytes and any number.
-/
namespace Go.Proofs.Ytnimfkcnkkjlkaa
open Go.RowKit Go.Shelf
set_option maxRecDepth 100000

attribute [local go_sem] Oper.semAt_some

set_option maxRecDepth 100000 in
set_option maxHeartbeats 4000000 in
theorem put_in (F : Fence) (n : Nat) (h3 : F.fn 108) (h4 : F.fn 115) (h5 : F.fn 116) (h6 : F.fn 118) (hro : F.round = none) (hn : 4 ≤ n) (a : Option Addr) (len cap : Nat) (zs : List Int) (v : Nat) (hv : v < 18446744073709551616) (w : World)
    (hB : Bs w a len cap zs) (hlen : len ≤ 140737488355318) :
    CallsIn F n Try.prog 108 #[.slice a len cap, .int .u64 (v : Int)] w fun e W' => ∃ g, e = .returned (.slice (some ⟨g, 0, none⟩) (len + (vb v).length) (len + (vb v).length)) ∧
      W'.heap[g]? = some (.cells (U (zs ++ vb v)).toArray 5 (0, 0)) ∧ w.heap.size ≤ g ∧ Below w.heap.size w W' := by
  have h1 : 1 ≤ n := by omega
  obtain ⟨i0, hi, hz0, hz1, hz2⟩ := info_parts info5
  have h10 := vb_len10 hv
  have hle := hB.le
  have hre := hB.reach
  refine callsIn_of_wp_marks Try.func108 rfl h3 ?_ hro
  simp only [Try.ntmps108, List.size_toArray, List.length_cons, List.length_nil, Nat.reduceAdd, Nat.reduceSub, Array.replicate_succ, Array.replicate_zero, List.push_toArray, List.append_toArray, List.nil_append, List.cons_append]
  gi_wp2_with (first
    | (gi_at_call 115; refine (len_in F (n - 1) h4 h5 h6 hro (by omega) v hv _).mono ?_; rintro e w1 ⟨rfl, hb1⟩)
    | (gi_at_make; refine wpListIn_make_bytes _ rfl (.tmp 8) (.tmp 13) 22 rfl 5 i0 Try.underlying22 hi hz0 hz1 hz2 .i64 .i64 _ _ len (len + (vb v).length) rfl rfl rfl (by simp) (by omega) (by omega) ?_; intro w2 hg2 hgr2 hs2; have hb2 : Below w.heap.size w w2 := hb1.grown hgr2 hb1.size (fun k hk => by cases hk))
    | (refine wpListIn_copy_splice rfl (.tmp 15) (.tmp 16) 22 22 rfl 5 Try.underlying22 size5 _ _ _ _ _ _ rfl rfl w1.heap.size 0 _ 5 ((Below.heap_alloc w2 _ _ (by omega)).trans hg2.out) (U zs) (by rw [U_length, hB.len]; exact (Nat.min_eq_left (Nat.le_refl _)).symm) (fun hp => ⟨rfl, Bs.src ((hB.keep hb2).alloc _) (by rw [U_length, hB.len] at hp; exact hp)⟩) (by rw [U_length, zero_length, hB.len]; omega) (U_one zs) ?_; intro w3 hg3 hgr3)
    | (gi_at_call 116; refine (octets_in F (n - 1) h5 hro _ _).mono ?_; rintro e w4 ⟨rfl, rfl⟩))
  have hs3 : w2.heap.size + 1 ≤ w3.heap.size := by have := hgr3.size; simpa using this
  have hb3 : Below w.heap.size w w3 := (hb2.alloc hb2.size _).grown hgr3 (by have := hb2.size; simp; omega) (fun k hk => by cases hk; exact hb1.size)
  have bO : Boxed w3 (w1.heap.size + 1) 22 (.slice (some ⟨w1.heap.size, 0, none⟩) len (len + (vb v).length)) := by
    have h := Boxed.new w2 22 (.slice (some ⟨w1.heap.size, 0, none⟩) len (len + (vb v).length))
    rw [hs2] at h
    exact h.kept hgr3 (by simp)
  have bN := Boxed.new w3 147 (.int .u64 (v : Int))
  have hr3 : w3.ownsRow w.heap.size 5 1 (.slice (some ⟨w1.heap.size, 0, none⟩) len (len + (vb v).length)) len (U zs) := by
    have h := hg3.out
    rw [splice_head zs len (vb v).length hB.len] at h
    exact own_of_row w.heap.size hb1.size h (by rw [U_length]; simp [hB.len]) hB.len (by omega) (by omega) (by rw [U_append, List.take_append_of_le_length (by rw [U_length, hB.len]; exact Nat.le_refl _), List.take_of_length_le (by rw [U_length, hB.len]; exact Nat.le_refl _)])
  have hB0 : Below w.heap.size w (w3.alloc (.cells #[.int .u64 (v : Int)] 147)) := hb3.alloc hb3.size _
  have hw1 := hb1.size
  refine wpIn_rangeFunc_ownG hro h1 (gf := 118) (lb := #[.pointer (some ⟨w3.heap.size, 0, none⟩)]) rfl h6 (enters_of Try.func118 (by kernel_rfl) rfl)
    (oct_stops F (n - 1) h6 hro (by omega) w3.heap.size w.heap.size v hv _ (by simp) bN.cell) belowK_t (belowK_b (by have := hb3.size; simp; omega)) (Below.refl _ _) (fun _ => rfl)
    (fun pre W => (∃ x, Boxed W (w1.heap.size + 1) 22 x ∧ W.ownsRow w.heap.size 5 1 x (len + pre.length) (U (zs ++ pre)) ∧ x = .slice (some ⟨w1.heap.size, 0, none⟩) (len + pre.length) (len + (vb v).length)) ∧ Below w.heap.size w W)
    (fun _ _ _ => False)
    (OwnFrom.and (Own.from (holdsRow_own w.heap.size (w1.heap.size + 1) 22 5 1 (fun pre => len + pre.length) (fun pre => U (zs ++ pre)) (fun pre x => x = .slice (some ⟨w1.heap.size, 0, none⟩) (len + pre.length) (len + (vb v).length))) _) (ownFrom_below (Nat.le_refl _) (by have := hb3.size; simp; omega)))
    (fun _ _ _ _ _ hs _ _ => hs)
    ⟨⟨_, bO.alloc _, by simpa using hr3.alloc _, by simp⟩, hB0⟩
    (fun x => { tmps := #[.slice a len cap, .int .u64 (v : Int), undef, undef, .slice none 0 0, .pointer (some ⟨w1.heap.size + 1, 0, none⟩), .int .u8 x, .slice a len cap, .int .i64 len, .slice a len cap, .int .i64 len, .int .u64 (v : Int), .int .i64 (vb v).length, .int .i64 (len + (vb v).length), .slice (some ⟨w1.heap.size, 0, none⟩) len (len + (vb v).length), .slice (some ⟨w1.heap.size, 0, none⟩) len (len + (vb v).length), .slice a len cap, .int .i64 (U zs).length, .int .u64 (v : Int), .func (.func 118) #[] #[.pointer (some ⟨w3.heap.size, 0, none⟩)], .int .u8 x, undef, undef, undef, undef, undef], defers := [] }) ?assign ?body ?done ?stop
  case assign =>
    intro l x W K hK
    gi_wp2
    exact hK
  case body =>
    rintro l pre x W ⟨⟨u, hu, hrow, rfl⟩, hBl⟩ hlt
    have hc := hu.cell
    gi_wp2_with (gi_at_builtin; refine wpListIn_append_fits _ rfl _ _ 22 rfl w.heap.size 5 i0 1 Try.underlying22 hi hz1 w1.heap.size (len + pre.length) (len + (vb v).length) (U (zs ++ pre)) rfl (hrow.alloc _) ⟨W.heap.size, 0, none⟩ 1 1 [.int .u8 x] rfl rfl (cell_one_new _ _ _) (by simp [Value.oneCell']) (by omega) ?_; intro w5 hown' hgrow; obtain ⟨hv1, hv2, hr2, hk2, hb5⟩ := hu.appended (by decide) hrow hBl.size (by omega) hown' hgrow; have hc1 := hv1.cell; have hf1 := hv1.frozen)
    exact ⟨hk2.from _, hb5, ⟨_, hv2, by simpa [U, Nat.add_assoc] using hr2, by simp [Nat.add_assoc]⟩, hBl.trans hb5⟩
  case done =>
    rintro D ys W hD rfl ⟨⟨u, hu, hrow, rfl⟩, hBl⟩ hK
    have hc := hu.cell
    gi_wp2
    refine ⟨by simp, .inl ⟨_, _, rfl, run_takeDeferred hK, ?_⟩⟩
    refine ⟨_, results_tmp rfl _ _ _, w1.heap.size, rfl, ?_, hw1, hBl.trans (belowK_b (w := w) (Nat.le_refl _) W D _ _ (by have := hb3.size; simp at hD; omega) hK rfl rfl)⟩
    have hrow2 := ownsRow_putObj hrow (.deferred none) hK rfl
    rcases hrow2.2 with ⟨h, _⟩ | ⟨g, c, cur, h, _, hg, _, _, hcs, ht⟩
    · cases h
    · simp only [Value.slice.injEq, Option.some.injEq, Addr.mk.injEq, and_true, true_and] at h
      obtain ⟨rfl, rfl⟩ := h
      rw [List.take_of_length_le (by simp [hcs])] at ht
      rw [hg, ← ht]
  case stop =>
    rintro D c pre W _ _ h _
    exact h.elim

theorem put_any (a : Option Addr) (len cap : Nat) (zs : List Int) (v : Nat) (hv : v < 18446744073709551616) (w : World) (hB : Bs w a len cap zs) (hlen : len ≤ 140737488355318) :
    Calls Try.prog 108 #[.slice a len cap, .int .u64 (v : Int)] w fun e W' => ∃ g, e = .returned (.slice (some ⟨g, 0, none⟩) (len + (vb v).length) (len + (vb v).length)) ∧
      W'.heap[g]? = some (.cells (U (zs ++ vb v)).toArray 5 (0, 0)) ∧ w.heap.size ≤ g ∧ Below w.heap.size w W' :=
  callsIn_wide.1 (put_in Fence.wide 4 trivial trivial trivial trivial rfl (Nat.le_refl _) a len cap zs v hv w hB hlen)

end Go.Proofs.Ytnimfkcnkkjlkaa

/-
  What the walk up to a last group does.
-/
namespace Go.Proofs.Ytnimfkcnkkjlkaa
open Go.RowKit Go.Shelf
set_option maxRecDepth 100000

attribute [local go_sem] Oper.semAt_some

abbrev Byt := { z : Int // 0 ≤ z ∧ z ≤ 255 }

theorem run_min10 {P : Program} {w : World} (ts : Array TypeId) (t : TypeId) (x m : Nat) (hm : m = min x 10) :
    (Builtin.min_ ts t #[.int .i64 x, .int .i64 10]).run P w = .ok (.int .i64 m) w := by
  subst hm
  simp [Builtin.min_, Builtin.min2]
  omega

theorem upto_split (zs : List Int) : ∀ (k K : Nat), (∀ z ∈ zs.take k, 128 ≤ z) → k ≤ K → k ≤ zs.length → upto K zs = zs.take k ++ upto (K - k) (zs.drop k) := by
  intro k
  induction k generalizing zs with
  | zero => intro K _ _ _; simp
  | succ k ih =>
    intro K h hk hl
    cases zs with
    | nil => simp at hl
    | cons z zs =>
      cases K with
      | zero => omega
      | succ K =>
        have hz := h z (by simp)
        rw [upto, if_neg (by omega), ih zs K (fun y hy => h y (by simp [hy])) (by omega) (by simpa using hl)]
        simp

theorem take_next (zs : List Int) (k : Nat) (h : k < zs.length) : zs.take (k + 1) = zs.take k ++ [zs[k]?.getD 0] := by
  rw [List.take_succ_eq_append_getElem h]; simp [List.getElem?_eq_getElem h]

theorem drop_here (zs : List Int) (k : Nat) (h : k < zs.length) : zs.drop k = (zs[k]?.getD 0) :: zs.drop (k + 1) := by
  rw [List.drop_eq_getElem_cons h]; simp [List.getElem?_eq_getElem h]

set_option maxRecDepth 100000 in
set_option maxHeartbeats 2000000 in
theorem upl1_in (F : Fence) (n : Nat) (h6 : F.fn 117) (hro : F.round = none) (_hn : 1 ≤ n) (l Bx n₀ b off len cap : Nat) (zs : List Int) (hz : ∀ z ∈ zs, 0 ≤ z ∧ z ≤ 255) (hl : zs.length = len) (hc : len ≤ cap) (_hr : cap ≤ 9223372036854775807) (hb : b < n₀)
    (J Jx : List Byt → World → Prop)
    (hY : ∀ pre x W, J pre W → pre.length < 10 → YieldAt F (n - 1) Try.prog l #[.int .u8 x.1] W fun e W' =>
      (e = .returned (.bool true) ∧ J (pre ++ [x]) W' ∧ Below n₀ W W') ∨ (e = .returned (.bool false) ∧ Jx (pre ++ [x]) W'))
    (W : World) (hBx : W.cell? ⟨Bx, 0, none⟩ = some (.slice (some ⟨b, off, none⟩) len cap)) (hcs : ∀ i, i < len → W.cell? ⟨b, off + i, none⟩ = some (.int .u8 (zs[i]?.getD 0))) (h0 : J [] W) :
    CallsIn F n Try.prog 117 #[.func (.yield l) #[] #[], .pointer (some ⟨Bx, 0, none⟩)] W fun e W' => (∃ v, e = .returned v) ∧
      ((∃ ys, ys.map (·.1) = upto 10 zs ∧ J ys W') ∨ (∃ pre, True ∧ Jx pre W')) := by
  obtain ⟨m, hm⟩ : ∃ m, m = min len 10 := ⟨_, rfl⟩
  have kmin : ∀ w', (Builtin.min_ #[3, 3] 3 #[.int .i64 len, .int .i64 10]).run Try.prog w' = .ok (.int .i64 m) w' := fun w' => run_min10 _ _ len m hm
  have m1 : m ≤ len := by omega
  have m2 : m ≤ 10 := by omega
  have m3 : m = len ∨ m = 10 := by omega
  clear hm
  refine callsIn_of_wp Try.func117 rfl h6 ?_ hro
  simp only [Try.ntmps117, List.size_toArray, List.length_cons, List.length_nil, Nat.reduceAdd, Nat.reduceSub, Array.replicate_succ, Array.replicate_zero, List.push_toArray, List.append_toArray, List.nil_append, List.cons_append]
  gi_wp2
  gi_loopw [11] (fun i wr => ∃ (k : Nat) (pre : List Byt), k ≤ m ∧ i = .int .i64 k ∧ pre.map (·.1) = zs.take k ∧ Hid (∀ z ∈ zs.take k, 128 ≤ z) ∧ J pre wr ∧ Below n₀ W wr)
    (fun i _ => m - (intOf i).toNat)
  case atStart => exact ⟨0, [], Nat.zero_le _, rfl, rfl, hide (by simp), h0, Below.refl _ _⟩
  case round =>
    obtain ⟨k, pre, hk, rfl, hpre, hall, hJs, hnx⟩ := hrel
    have hpl : pre.length = k := by have := congrArg List.length hpre; simp at this; omega
    by_cases hlt : k < m
    · have hcx : wr.cell? ⟨b, off + k, none⟩ = some (.int .u8 (zs[k]?.getD 0)) := (hnx.cell (p := ⟨b, off + k, none⟩) hb).trans (hcs k (by omega))
      obtain ⟨fn, tmps, assign, body, hy, hR⟩ := hY pre ⟨zs[k]?.getD 0, getD_byte hz k⟩ wr hJs (by omega)
      dsimp only at hy
      have htk := take_next zs k (by omega)
      obtain ⟨z, hzd⟩ : ∃ z, z = zs[k]?.getD 0 := ⟨_, rfl⟩
      rw [← hzd] at hcx hy htk
      replace hzd := hide hzd
      gi_wp2
      refine hR.mono ?_
      rintro e W3 (⟨rfl, hJ3, hk3⟩ | ⟨rfl, hJx3⟩)
      · by_cases hz8 : z < 128
        · gi_wp2
          refine bodyPost_ret (results_none rfl _ _ _) rfl ?_
          refine ⟨⟨_, rfl⟩, .inl ⟨_, ?_, hJ3⟩⟩
          rw [List.map_append, hpre, upto_split zs k 10 hall.out (by omega) (by omega), drop_here zs k (by omega)]
          obtain ⟨d, hd⟩ : ∃ d, 10 - k = d + 1 := ⟨9 - k, by omega⟩
          rw [hd, upto, if_pos (by rw [← hzd.out]; exact hz8)]
          simp
        · gi_wp2
          go_roundw
          case rel =>
            refine ⟨k + 1, _, by omega, by simp, ?_, hide ?_, hJ3, hnx.trans hk3⟩
            · rw [List.map_append, hpre, htk]; simp [hzd.out]
            · rw [htk]
              intro y hy'
              rcases List.mem_append.1 hy' with h | h
              · exact hall.out y h
              · simp at h; omega
          case measure => simp [intOf]; omega
      · gi_wp2
        refine bodyPost_ret (results_none rfl _ _ _) rfl ?_
        exact ⟨⟨_, rfl⟩, .inr ⟨_, trivial, hJx3⟩⟩
    · obtain rfl : k = m := by omega
      gi_wp2
      go_end0
      refine ⟨⟨_, rfl⟩, .inl ⟨pre, ?_, hJs⟩⟩
      rw [hpre, upto_split zs k 10 hall.out (by omega) (by omega)]
      rcases m3 with rfl | rfl
      · rw [List.drop_eq_nil_of_le (by omega)]
        cases h : 10 - k <;> simp [upto]
      · simp [upto]

set_option maxHeartbeats 1000000 in
theorem upl_in (F : Fence) (n : Nat) (h5 : F.fn 113) (hro : F.round = none) (a : Option Addr) (len cap : Nat) (w : World) :
    CallsIn F n Try.prog 113 #[.slice a len cap] w fun e w' => e = .returned (.func (.func 117) #[] #[.pointer (some ⟨w.heap.size, 0, none⟩)]) ∧ w' = w.alloc (.cells #[.slice a len cap] 22) := by
  refine callsIn_of_wp Try.func113 rfl h5 ?_ hro
  simp only [Try.ntmps113, List.size_toArray, List.length_cons, List.length_nil, Nat.reduceAdd, Nat.reduceSub, Array.replicate_succ, Array.replicate_zero, List.push_toArray, List.append_toArray, List.nil_append, List.cons_append]
  gi_wp2
  go_ret
  exact ⟨rfl, rfl⟩

theorem upl_stops (F : Fence) (n : Nat) (h6 : F.fn 117) (hro : F.round = none) (hn : 1 ≤ n) (Bx n₀ b off len cap : Nat) (zs : List Int) (hz : ∀ z ∈ zs, 0 ≤ z ∧ z ≤ 255) (hl : zs.length = len) (hc : len ≤ cap) (hr : cap ≤ 9223372036854775807) (hb : b < n₀)
    (w : World) (hBx : Bx < w.heap.size) (hn₀ : n₀ ≤ w.heap.size) (hbx : w.cell? ⟨Bx, 0, none⟩ = some (.slice (some ⟨b, off, none⟩) len cap)) (hcs : ∀ i, i < len → w.cell? ⟨b, off + i, none⟩ = some (.int .u8 (zs[i]?.getD 0))) :
    SeqStopsK F n Try.prog 117 #[.pointer (some ⟨Bx, 0, none⟩)] (fun x : Byt => #[Value.int .u8 x.1]) (Below n₀) (fun ys => ys.map (·.1) = upto 10 zs) (fun _ => True) 10 w := fun l J Jx W hW _ _ hY h0 =>
  upl1_in F n h6 hro hn l Bx n₀ b off len cap zs hz hl hc hr hb J Jx hY W ((hW.cell (p := ⟨Bx, 0, none⟩) hBx).trans hbx) (fun i hi => ((hW.mono hn₀).cell (p := ⟨b, off + i, none⟩) hb).trans (hcs i hi)) h0

end Go.Proofs.Ytnimfkcnkkjlkaa

/-
  What Get does, for any slice of bytes and any place.
-/
namespace Go.Proofs.Ytnimfkcnkkjlkaa
open Go.RowKit Go.Shelf
set_option maxRecDepth 100000

attribute [local go_sem] Oper.semAt_some

theorem glue (p q k : Nat) (hk : k ≤ 9) (hp : p < 128 ^ k) : p ||| (q * 128 ^ k) % 18446744073709551616 = (p + 128 ^ k * q) % 18446744073709551616 := by
  obtain ⟨i, hi⟩ : ∃ i, i = 7 * k := ⟨_, rfl⟩
  have e : (128 : Nat) ^ k = 2 ^ i := by rw [hi, Nat.pow_mul]
  have e2 : (18446744073709551616 : Nat) = 2 ^ i * 2 ^ (64 - i) := by rw [← Nat.pow_add, show i + (64 - i) = 64 from by omega]
  rw [e] at hp ⊢
  rw [e2, Nat.mul_comm q, Nat.mul_mod_mul_left, Nat.mod_mul, Nat.add_mul_mod_self_left, Nat.mod_eq_of_lt hp, Nat.add_mul_div_left _ _ (by omega), Nat.div_eq_of_lt hp, Nat.zero_add, Nat.or_comm, ← Nat.two_pow_add_eq_or_of_lt hp, Nat.add_comm]

theorem num_step (pre : List Int) (x : Int) (hk : pre.length ≤ 9) : (num pre % 18446744073709551616) ||| ((x % 128).toNat * 128 ^ pre.length) % 18446744073709551616 = num (pre ++ [x]) % 18446744073709551616 := by
  have h := num_lt pre
  have h2 : (128 : Nat) ^ pre.length ≤ 128 ^ 9 := Nat.pow_le_pow_right (by omega) hk
  rw [Nat.mod_eq_of_lt (a := num pre) (by omega), num_snoc]
  exact glue _ _ _ hk h

theorem shift_step {P : Program} (x : Int) (k : Nat) (h0 : 0 ≤ x) (hk : k ≤ 9) (w : World) :
    (Op.shift .shl .u64 (IntKind.u64.wrap (x.tmod 128)) .i64 (IntKind.i64.wrap (7 * (k : Int)))).run P w = .ok (.int .u64 (((x % 128).toNat * 128 ^ k % 18446744073709551616 : Nat) : Int)) w := by
  have e1 : x.tmod 128 = x % 128 := Int.tmod_eq_emod_of_nonneg h0
  have e2 : IntKind.i64.wrap (7 * (k : Int)) = 7 * (k : Int) := by rw [IntKind.wrap_i64]; omega
  have e3 : IntKind.u64.wrap (x % 128) = x % 128 := by simp [IntKind.wrap_u64]; omega
  rw [e1, e3, e2, shift_shl_u64 _ _ _ (by omega) (by omega)]
  have e4 : (7 * (k : Int)).toNat = 7 * k := by omega
  have e5 : ((2 : Int) ^ (7 * k)) = ((128 ^ k : Nat) : Int) := by rw [Int.pow_mul]; simp
  have e6 : x % 128 = (((x % 128).toNat : Nat) : Int) := by omega
  rw [e4, e5]
  simp only [IntKind.wrap_u64, Sem.run_pure]
  congr 2
  rw [e6]
  simp

/-- What a look for a number hands back. -/
def gret (o : Option Nat) (at' : Nat) : Value := match o with | some v => .tuple #[.int .u64 (v : Int), .int .i64 ((at' + (vb v).length : Nat) : Int), .bool true] | none => .tuple #[.int .u64 0, .int .i64 0, .bool false]

theorem getv_upto {l : List Int} (hb : ∀ z ∈ l, 0 ≤ z ∧ z ≤ 255) {v : Nat} (h : getv l = some v) : upto 10 l = vb v ∧ v < 18446744073709551616 := by
  obtain ⟨h1, t, rfl⟩ := (getv_iff hb v).1 h
  exact ⟨upto_vb v 10 t (vb_len10 h1), h1⟩

set_option maxHeartbeats 1000000 in
theorem mayEnd_in (F : Fence) (n : Nat) (h5 : F.fn 114) (hro : F.round = none) (z : Int) (m : Nat) (w : World) :
    CallsIn F n Try.prog 114 #[.int .u8 z, .int .i64 (m : Int)] w fun e w' => e = .returned (.bool (mayEnd z m)) ∧ w' = w := by
  refine callsIn_of_wp Try.func114 rfl h5 ?_ hro
  simp only [Try.ntmps114, List.size_toArray, List.length_cons, List.length_nil, Nat.reduceAdd, Nat.reduceSub, Array.replicate_succ, Array.replicate_zero, List.push_toArray, List.append_toArray, List.nil_append, List.cons_append]
  by_cases h1 : 128 ≤ z
  · have e : mayEnd z m = false := by unfold mayEnd; rw [if_pos h1]
    gi_wp2
    go_ret
    exact ⟨congrArg (fun x => Ending.returned (.bool x)) e.symm, rfl⟩
  · by_cases h2 : m = 10
    · subst h2
      have e : mayEnd z 10 = decide (z = 1) := by unfold mayEnd; rw [if_neg h1, if_pos rfl]
      gi_wp2
      go_ret
      exact ⟨congrArg (fun x => Ending.returned (.bool x)) (by by_cases h : z = 1 <;> simp [h]), rfl⟩
    · have h2' : ¬ (m : Int) = 10 := by omega
      by_cases h3 : 1 < m
      · have e : mayEnd z m = decide (0 < z) := by unfold mayEnd; rw [if_neg h1, if_neg h2, if_pos h3]
        gi_wp2
        go_ret
        exact ⟨rfl, rfl⟩
      · have e : mayEnd z m = true := by unfold mayEnd; rw [if_neg h1, if_neg h2, if_neg h3]
        gi_wp2
        go_ret
        exact ⟨rfl, rfl⟩

theorem get_bad (a : Option Addr) (len cap : Nat) (x : Int) (hx : x < 0 ∨ (len : Int) ≤ x) (w : World) :
    Calls Try.prog 104 #[.slice a len cap, .int .i64 x] w fun e w' => e = .returned (.tuple #[.int .u64 0, .int .i64 0, .bool false]) ∧ w' = w := by
  go_enter Try.func104, Try.ntmps104
  by_cases h : x < 0
  · go_wp2
    go_ret3
    exact ⟨rfl, rfl⟩
  · have h2 : (len : Int) ≤ x := by omega
    go_wp2
    go_ret3
    exact ⟨rfl, rfl⟩

set_option maxRecDepth 100000 in
set_option maxHeartbeats 4000000 in
theorem get_in (F : Fence) (n : Nat) (h3 : F.fn 104) (h4 : F.fn 113) (h5 : F.fn 114) (h6 : F.fn 117) (hro : F.round = none) (hn : 4 ≤ n) (b off len cap at' : Nat) (zs : List Int) (w : World)
    (hB : Bs w (some ⟨b, off, none⟩) len cap zs) (hat : at' < len) :
    CallsIn F n Try.prog 104 #[.slice (some ⟨b, off, none⟩) len cap, .int .i64 (at' : Int)] w fun e W' =>
      e = .returned (gret (getv (zs.drop at')) at') ∧ Below w.heap.size w W' := by
  have h1 : 1 ≤ n := by omega
  have hle := hB.le
  have hre := hB.reach
  have hll := hB.len
  obtain ⟨b', off', ha, hcs⟩ := hB.lies (by omega)
  simp only [Option.some.injEq, Addr.mk.injEq, and_true] at ha
  obtain ⟨rfl, rfl⟩ := ha
  have hbw := cell_lt (hcs 0 (by omega))
  simp only [] at hbw
  refine callsIn_of_wp_marks Try.func104 rfl h3 ?_ hro
  simp only [Try.ntmps104, List.size_toArray, List.length_cons, List.length_nil, Nat.reduceAdd, Nat.reduceSub, Array.replicate_succ, Array.replicate_zero, List.push_toArray, List.append_toArray, List.nil_append, List.cons_append]
  gi_wp2_with (gi_at_call 113; refine (upl_in F (n - 1) h4 hro _ _ _ _).mono ?_; rintro e w4 ⟨rfl, rfl⟩)
  have hN := Boxed.new w 147 (.int .u64 0)
  have hL := Boxed.new (w.alloc (.cells #[.int .u64 0] 147)) 5 (.int .u8 0)
  have hS := Boxed.new ((w.alloc (.cells #[.int .u64 0] 147)).alloc (.cells #[.int .u8 0] 5)) 3 (.int .i64 0)
  have hX := Boxed.new (((w.alloc (.cells #[.int .u64 0] 147)).alloc (.cells #[.int .u8 0] 5)).alloc (.cells #[.int .i64 0] 3)) 22 (.slice (some ⟨b, off + at', none⟩) (len - at') (cap - at'))
  have hB0 : Below w.heap.size w ((((w.alloc (.cells #[.int .u64 0] 147)).alloc (.cells #[.int .u8 0] 5)).alloc (.cells #[.int .i64 0] 3)).alloc (.cells #[.slice (some ⟨b, off + at', none⟩) (len - at') (cap - at')] 22)) :=
    ((((Below.refl _ w).alloc (Nat.le_refl _) _).alloc (by simp) _).alloc (by simp; omega) _).alloc (by simp; omega) _
  replace hN := ((hN.alloc (.cells #[.int .u8 0] 5)).alloc (.cells #[.int .i64 0] 3)).alloc (.cells #[.slice (some ⟨b, off + at', none⟩) (len - at') (cap - at')] 22)
  replace hL := (hL.alloc (.cells #[.int .i64 0] 3)).alloc (.cells #[.slice (some ⟨b, off + at', none⟩) (len - at') (cap - at')] 22)
  replace hS := hS.alloc (.cells #[.slice (some ⟨b, off + at', none⟩) (len - at') (cap - at')] 22)
  have hsz : ((((w.alloc (.cells #[.int .u64 0] 147)).alloc (.cells #[.int .u8 0] 5)).alloc (.cells #[.int .i64 0] 3)).alloc (.cells #[.slice (some ⟨b, off + at', none⟩) (len - at') (cap - at')] 22)).heap.size = w.heap.size + 4 := by simp
  simp only [World.size_alloc] at hL hS hX
  obtain ⟨W0, hW0⟩ : ∃ W0, ((((w.alloc (.cells #[.int .u64 0] 147)).alloc (.cells #[.int .u8 0] 5)).alloc (.cells #[.int .i64 0] 3)).alloc (.cells #[.slice (some ⟨b, off + at', none⟩) (len - at') (cap - at')] 22)) = W0 := ⟨_, rfl⟩
  rw [hW0] at hN hL hS hX hB0 hsz ⊢
  clear hW0
  refine wpIn_rangeFunc_ownG hro h1 (gf := 117) (lb := #[.pointer (some ⟨w.heap.size + 1 + 1 + 1, 0, none⟩)]) rfl h6 (enters_of Try.func117 (by kernel_rfl) rfl)
    (upl_stops F (n - 1) h6 hro (by omega) (w.heap.size + 1 + 1 + 1) w.heap.size b (off + at') (len - at') (cap - at') (zs.drop at') (drop_byte hB.byte _) (by simp; omega) (by omega) (by omega) hbw W0 (by omega) (by omega) hX.cell
      (fun i hi => (hB0.cell (p := ⟨b, off + at' + i, none⟩) hbw).trans (by rw [Nat.add_assoc, hcs (at' + i) (by omega)]; simp))) belowK_t (belowK_b (by omega)) (Below.refl _ _) (fun _ => rfl)
    (fun pre W => (Boxed W w.heap.size 147 (.int .u64 ((num pre.unattach % 18446744073709551616 : Nat) : Int)) ∧ Boxed W (w.heap.size + 1) 5 (.int .u8 (last pre.unattach)) ∧ Boxed W (w.heap.size + 1 + 1) 3 (.int .i64 (pre.length : Int))) ∧ Below w.heap.size w W)
    (fun _ _ _ => False)
    (OwnFrom.and (OwnFrom.and (Own.from (boxed_own _ _ (fun pre : List Byt => .int .u64 ((num pre.unattach % 18446744073709551616 : Nat) : Int))) _) (OwnFrom.and (Own.from (boxed_own _ _ (fun pre : List Byt => .int .u8 (last pre.unattach))) _) (Own.from (boxed_own _ _ (fun pre : List Byt => .int .i64 (pre.length : Int))) _))) (ownFrom_below (Nat.le_refl _) (by omega)))
    (fun _ _ _ _ _ hs _ _ => hs)
    ⟨⟨hN, hL, hS⟩, hB0⟩
    (fun x => { tmps := #[.slice (some ⟨b, off, none⟩) len cap, .int .i64 at', undef, undef, .int .u64 0, .int .i64 0, .bool false, .pointer (some ⟨w.heap.size, 0, none⟩), .pointer (some ⟨w.heap.size + 1, 0, none⟩), .pointer (some ⟨w.heap.size + 1 + 1, 0, none⟩), .int .u8 x.1, .int .i64 at', .bool (decide ((at' : Int) < 0)), .bool (decide ((at' : Int) < 0)), .int .i64 at', .slice (some ⟨b, off, none⟩) len cap, .int .i64 len, .bool false, .bool (decide ((at' : Int) < 0)), .slice (some ⟨b, off, none⟩) len cap, .int .i64 at', .slice (some ⟨b, off + at', none⟩) (len - at') (cap - at'), .func (.func 117) #[] #[.pointer (some ⟨w.heap.size + 1 + 1 + 1, 0, none⟩)], .int .u8 x.1, undef, undef, undef, undef, undef, undef, undef, undef, undef, undef, undef, undef, undef, undef, undef, undef, undef, undef, undef], defers := [] }) ?assign ?body ?done ?stop
  case assign =>
    intro l x W K hK
    gi_wp2
    exact hK
  case body =>
    rintro l pre ⟨x, hx0, hx1⟩ W ⟨⟨bN, bL, bS⟩, hBl⟩ hlt
    have hd : 1 ≤ n - 1 - 1 := by omega
    have hmx : Try.prog.follows .mixedOrders = true := by kernel_rfl
    have hsh := fun W' => shift_step (P := Try.prog) x pre.length hx0 (by omega) W'
    have hst := num_step pre.unattach x (by simp; omega)
    simp only [List.length_unattach] at hst
    obtain ⟨s, hs⟩ : ∃ s, s = (x % 128).toNat * 128 ^ pre.length % 18446744073709551616 := ⟨_, rfl⟩
    have hs2 : s < 18446744073709551616 := by omega
    rw [← hs] at hst
    simp only [← hs] at hsh
    clear hs
    obtain ⟨p, hp⟩ : ∃ p, p = num pre.unattach % 18446744073709551616 := ⟨_, rfl⟩
    have hp2 : p < 18446744073709551616 := by omega
    rw [← hp] at hst bN
    clear hp
    obtain ⟨la, hla⟩ : ∃ la, la = last pre.unattach := ⟨_, rfl⟩
    rw [← hla] at bL
    clear hla
    have c1 := bN.cell
    have f1 := bN.frozen
    have c2 := bL.cell
    have f2 := bL.frozen
    have c3 := bS.cell
    have f3 := bS.frozen
    gi_wp2
    rename_i K hK
    have hk : K { tmps := #[.slice (some ⟨b, off, none⟩) len cap, .int .i64 at', undef, undef, .int .u64 0, .int .i64 0, .bool false, .pointer (some ⟨w.heap.size, 0, none⟩), .pointer (some ⟨w.heap.size + 1, 0, none⟩), .pointer (some ⟨w.heap.size + 1 + 1, 0, none⟩), .int .u8 x, .int .i64 at', .bool (decide ((at' : Int) < 0)), .bool (decide ((at' : Int) < 0)), .int .i64 at', .slice (some ⟨b, off, none⟩) len cap, .int .i64 len, .bool false, .bool (decide ((at' : Int) < 0)), .slice (some ⟨b, off, none⟩) len cap, .int .i64 at', .slice (some ⟨b, off + at', none⟩) (len - at') (cap - at'), .func (.func 117) #[] #[.pointer (some ⟨w.heap.size + 1 + 1 + 1, 0, none⟩)], .int .u8 x, .int .u64 p, .int .u8 x, .int .u8 (x.tmod 128), .int .u64 (IntKind.u64.wrap (x.tmod 128)), .int .i64 pre.length, .int .i64 (IntKind.i64.wrap (7 * (pre.length : Int))), .int .u64 s, .int .u64 (bits .or .u64 p s), undef, undef, undef, undef, undef, undef, undef, undef, undef, undef, undef], defers := [] } (W.setCell ⟨w.heap.size, 0, none⟩ (.int .u64 (bits .or .u64 p s))).drew := by
      refine hK _ _ ?_
      have g1 := (bN.set (.int .u64 (bits .or .u64 p s))).cell
      have c2' := (bL.other (by omega : w.heap.size + 1 ≠ w.heap.size) (.int .u64 (bits .or .u64 p s))).cell
      have f2' := (bL.other (by omega : w.heap.size + 1 ≠ w.heap.size) (.int .u64 (bits .or .u64 p s))).frozen
      have c3' := (bS.other (by omega : w.heap.size + 1 + 1 ≠ w.heap.size) (.int .u64 (bits .or .u64 p s))).cell
      gi_wp2
      have b1 := ((bN.set (.int .u64 (bits .or .u64 p s))).other (by omega : w.heap.size ≠ w.heap.size + 1) (.int .u8 x)).other (by omega : w.heap.size ≠ w.heap.size + 1 + 1) (.int .i64 ((pre.length : Int) + 1))
      have b2 := ((bL.other (by omega : w.heap.size + 1 ≠ w.heap.size) (.int .u64 (bits .or .u64 p s))).set (.int .u8 x)).other (by omega : w.heap.size + 1 ≠ w.heap.size + 1 + 1) (.int .i64 ((pre.length : Int) + 1))
      have b3 := ((bS.other (by omega : w.heap.size + 1 + 1 ≠ w.heap.size) (.int .u64 (bits .or .u64 p s))).other (by omega : w.heap.size + 1 + 1 ≠ w.heap.size + 1) (.int .u8 x)).set (.int .i64 ((pre.length : Int) + 1))
      have e1 : bits .or .u64 (p : Int) (s : Int) = ((num (pre ++ [(⟨x, hx0, hx1⟩ : Byt)]).unattach % 18446744073709551616 : Nat) : Int) := by
        rw [u64_or_nat p s hp2 hs2, hst]
        simp
      have e2 : last (pre ++ [(⟨x, hx0, hx1⟩ : Byt)]).unattach = x := by simp [last]
      have e3 : (((pre ++ [(⟨x, hx0, hx1⟩ : Byt)]).length : Nat) : Int) = (pre.length : Int) + 1 := by simp
      rw [e1] at b1 b2 b3 ⊢
      exact ⟨((((KeepsOthers.setCell W _ _).trans (KeepsOthers.setCell _ _ _)).trans (KeepsOthers.setCell _ _ _)).trans (KeepsOthers.drew _)).from _, ((((Below.refl w.heap.size W).setCell (p := ⟨w.heap.size, 0, none⟩) (Nat.le_refl _) _).setCell (p := ⟨w.heap.size + 1, 0, none⟩) (by simp) _).setCell (p := ⟨w.heap.size + 1 + 1, 0, none⟩) (by simp; omega) _).drew,
        ⟨b1, by rw [e2]; exact b2, by rw [e3]; exact b3⟩, (((hBl.setCell (p := ⟨w.heap.size, 0, none⟩) (Nat.le_refl _) _).setCell (p := ⟨w.heap.size + 1, 0, none⟩) (by simp) _).setCell (p := ⟨w.heap.size + 1 + 1, 0, none⟩) (by simp; omega) _).drew⟩
    gi_region_with_o (fail)
    all_goals exact hk
  case done =>
    rintro D ys W hD hys ⟨⟨bN, bL, bS⟩, hBl⟩ hK
    have hN2 : num ys.unattach % 18446744073709551616 < 18446744073709551616 := by omega
    obtain ⟨N, La, Ln, hcase, bN, bL, bS⟩ : ∃ (N : Nat) (La : Int) (Ln : Nat), ((mayEnd La Ln = true ∧ Hid (getv (zs.drop at') = some N) ∧ Hid (Ln = (vb N).length) ∧ at' + Ln ≤ 9223372036854775807) ∨ (mayEnd La Ln = false ∧ Hid (getv (zs.drop at') = none))) ∧
        Boxed W w.heap.size 147 (.int .u64 (N : Int)) ∧ Boxed W (w.heap.size + 1) 5 (.int .u8 La) ∧ Boxed W (w.heap.size + 1 + 1) 3 (.int .i64 (Ln : Int)) := by
      have hys' : ys.unattach = upto 10 (zs.drop at') := hys
      have hyl : ys.length = (upto 10 (zs.drop at')).length := by rw [← hys', List.length_unattach]
      have hne : upto 10 (zs.drop at') ≠ [] := by
        rw [drop_here zs at' (by omega), upto]
        split <;> simp
      have hg : getv (zs.drop at') = if mayEnd (last ys.unattach) ys.length = true then some (num ys.unattach) else none := by
        unfold getv
        rw [hys', hyl]
        simp [hne]
      by_cases hm : mayEnd (last ys.unattach) ys.length = true
      · rw [if_pos hm] at hg
        obtain ⟨hu, hv⟩ := getv_upto (drop_byte hB.byte at') hg
        rw [Nat.mod_eq_of_lt hv] at bN
        exact ⟨_, _, _, .inl ⟨hm, hide hg, hide (by rw [← hu, hyl]), by have := (upto_prefix 10 (zs.drop at')).length_le; simp at this; omega⟩, bN, bL, bS⟩
      · rw [if_neg hm] at hg
        exact ⟨_, _, _, .inr ⟨by simpa using hm, hide hg⟩, bN, bL, bS⟩
    clear hys hN2
    have c1 := bN.cell
    have c2 := bL.cell
    have c3 := bS.cell
    rcases hcase with ⟨hm, hg, hlv, hat2⟩ | ⟨hm, hg⟩
    · gi_wp2_with (gi_at_call 114; refine (mayEnd_in F (n - 1) h5 hro _ _ _).mono ?_; rintro e w4 ⟨rfl, rfl⟩)
      have hmx : Try.prog.follows .mixedOrders = true := by kernel_rfl
      have hwr : IntKind.i64.wrap ((at' : Int) + (Ln : Int)) = (at' : Int) + (Ln : Int) := by rw [IntKind.wrap_i64]; omega
      gi_region_with_o (fail)
      all_goals gi_wp2
      all_goals refine ⟨by simp, .inl ⟨_, _, rfl, run_takeDeferred hK, ?_⟩⟩
      all_goals exact ⟨_, results_tmp3 rfl _ _ _, congrArg Ending.returned (by rw [hg.out, gret, ← hlv.out]; simp), hBl.drew.trans (belowK_b (w := w) (Nat.le_refl _) _ D _ _ (by omega) hK rfl rfl)⟩
    · gi_wp2_with (gi_at_call 114; refine (mayEnd_in F (n - 1) h5 hro _ _ _).mono ?_; rintro e w4 ⟨rfl, rfl⟩)
      refine ⟨by simp, .inl ⟨_, _, rfl, run_takeDeferred hK, ?_⟩⟩
      exact ⟨_, results_tmp3 rfl _ _ _, congrArg Ending.returned (by rw [hg.out]; rfl), hBl.trans (belowK_b (w := w) (Nat.le_refl _) _ D _ _ (by omega) hK rfl rfl)⟩
  case stop =>
    rintro D c pre W _ _ h _
    exact h.elim

/-- The number at a place: what a look for it hands back. -/
def got (zs : List Int) (x : Int) : Value := if x < 0 ∨ (zs.length : Int) ≤ x then gret none 0 else gret (getv (zs.drop x.toNat)) x.toNat

theorem get_any (a : Option Addr) (len cap : Nat) (zs : List Int) (x : Int) (w : World) (hB : Bs w a len cap zs) :
    Calls Try.prog 104 #[.slice a len cap, .int .i64 x] w fun e W' => e = .returned (got zs x) ∧ Below w.heap.size w W' := by
  unfold got
  rw [hB.len]
  by_cases h : x < 0 ∨ (len : Int) ≤ x
  · rw [if_pos h]
    refine (get_bad a len cap x h w).mono ?_
    rintro e w' ⟨rfl, rfl⟩
    exact ⟨rfl, Below.refl _ _⟩
  · rw [if_neg h]
    obtain ⟨at', rfl⟩ : ∃ at' : Nat, x = (at' : Int) := ⟨x.toNat, by omega⟩
    obtain ⟨b, off, rfl, _⟩ := hB.lies (by omega)
    exact callsIn_wide.1 (get_in Fence.wide 4 trivial trivial trivial trivial rfl (Nat.le_refl _) b off len cap at' zs w hB (by omega))

end Go.Proofs.Ytnimfkcnkkjlkaa

/-
  What PutInt and GetInt do, and Get in another form.
-/
namespace Go.Proofs.Ytnimfkcnkkjlkaa
open Go.RowKit
set_option maxRecDepth 100000

/-- The number at a place, the place behind it, whether there is one. -/
def gv (zs : List Int) (x : Int) : Option Nat := if x < 0 ∨ (zs.length : Int) ≤ x then none else getv (zs.drop x.toNat)
def gN (zs : List Int) (x : Int) : Nat := (gv zs x).getD 0
def gE (zs : List Int) (x : Int) : Nat := match gv zs x with | some v => x.toNat + (vb v).length | none => 0
def gB (zs : List Int) (x : Int) : Bool := (gv zs x).isSome

theorem got_eq (zs : List Int) (x : Int) : got zs x = .tuple #[.int .u64 (gN zs x : Int), .int .i64 (gE zs x : Int), .bool (gB zs x)] := by
  unfold got gN gE gB gv
  by_cases h : x < 0 ∨ (zs.length : Int) ≤ x
  · simp [h, gret]
  · rw [if_neg h, if_neg h]
    cases getv (zs.drop x.toNat) <;> simp [gret]

theorem get_val (a : Option Addr) (len cap : Nat) (zs : List Int) (x : Int) (w : World) (hB : Bs w a len cap zs) :
    Calls Try.prog 104 #[.slice a len cap, .int .i64 x] w fun e W' => e = .returned (.tuple #[.int .u64 (gN zs x : Int), .int .i64 (gE zs x : Int), .bool (gB zs x)]) ∧ Below w.heap.size w W' := by
  rw [← got_eq]
  exact get_any a len cap zs x w hB

/-- A number at a place is one whose bytes stand there. -/
theorem gv_some {zs : List Int} (hb : ∀ z ∈ zs, 0 ≤ z ∧ z ≤ 255) {x : Int} {v : Nat} (h : gv zs x = some v) : 0 ≤ x ∧ x < zs.length ∧ v < 18446744073709551616 ∧ vb v <+: zs.drop x.toNat := by
  unfold gv at h
  split at h
  · cases h
  · next hx =>
    have := (getv_iff (drop_byte hb _) v).1 h
    exact ⟨by omega, by omega, this⟩

theorem gv_intro {zs : List Int} (hb : ∀ z ∈ zs, 0 ≤ z ∧ z ≤ 255) {x : Nat} {v : Nat} (hv : v < 18446744073709551616) (h : vb v <+: zs.drop x) : gv zs (x : Int) = some v := by
  have h1 := h.length_le
  have h2 := vb_pos v
  simp only [List.length_drop] at h1
  unfold gv
  rw [if_neg (by omega), Int.toNat_natCast]
  exact (getv_iff (drop_byte hb _) v).2 ⟨hv, h⟩

theorem gN_lt {zs : List Int} (hb : ∀ z ∈ zs, 0 ≤ z ∧ z ≤ 255) (x : Int) : gN zs x < 18446744073709551616 := by
  unfold gN
  cases h : gv zs x with
  | none => simp
  | some v => exact (gv_some hb h).2.2.1

theorem not_i64 (n : Int) (h1 : -9223372036854775808 ≤ n) (h2 : n ≤ 9223372036854775807) : bits .xor .i64 (-1) n = -n - 1 := by
  show IntKind.i64.wrap ((BitVec.ofInt 64 (-1) ^^^ BitVec.ofInt 64 n).toNat : Int) = _
  have e : BitVec.ofInt 64 (-1) = BitVec.allOnes 64 := by decide
  rw [e, BitVec.allOnes_xor, BitVec.toNat_not, BitVec.toNat_ofInt]
  simp [IntKind.wrap, IntKind.bits, IntKind.signed]
  omega

set_option maxHeartbeats 400000 in
theorem folded_any (n : Int) (h1 : -9223372036854775808 ≤ n) (h2 : n ≤ 9223372036854775807) (w : World) :
    Calls Try.prog 109 #[.int .i64 n] w fun e w' => e = .returned (.int .u64 (fo n : Int)) ∧ w' = w := by
  go_enter Try.func109, Try.ntmps109
  by_cases h : n < 0
  · have e : (fo n : Int) = -2 * n - 1 := by unfold fo; rw [if_pos h]; omega
    go_wp2
    go_ret
    refine ⟨congrArg (fun x => Ending.returned (.int .u64 x)) ?_, rfl⟩
    rw [not_i64 n h1 h2, IntKind.wrap_u64, IntKind.wrap_u64, IntKind.wrap_u64]
    omega
  · have e : (fo n : Int) = 2 * n := by unfold fo; rw [if_neg h]; omega
    go_wp2
    go_ret
    refine ⟨congrArg (fun x => Ending.returned (.int .u64 x)) ?_, rfl⟩
    omega

set_option maxHeartbeats 400000 in
theorem unfolded_any (m : Nat) (h2 : m < 18446744073709551616) (w : World) :
    Calls Try.prog 105 #[.int .u64 (m : Int)] w fun e w' => e = .returned (.int .i64 (unfo m)) ∧ w' = w := by
  go_enter Try.func105, Try.ntmps105
  by_cases h : m % 2 = 1
  · have e : unfo m = -((m / 2 : Nat) : Int) - 1 := by unfold unfo; rw [if_pos h]
    have h' : (m : Int) % 2 = 1 := by omega
    go_wp2
    go_ret
    refine ⟨congrArg (fun x => Ending.returned (.int .i64 x)) ?_, rfl⟩
    have hd : (m : Int) / 2 = ((m / 2 : Nat) : Int) := by omega
    rw [hd, not_i64 _ (by omega) (by omega)]
  · have e : unfo m = ((m / 2 : Nat) : Int) := by unfold unfo; rw [if_neg h]
    have h' : ¬ (m : Int) % 2 = 1 := by omega
    go_wp2
    go_ret
    refine ⟨congrArg (fun x => Ending.returned (.int .i64 x)) ?_, rfl⟩
    rw [e]; omega

set_option maxHeartbeats 400000 in
theorem putInt_any (a : Option Addr) (len cap : Nat) (zs : List Int) (n : Int) (h1 : -9223372036854775808 ≤ n) (h2 : n ≤ 9223372036854775807) (w : World) (hB : Bs w a len cap zs) (hlen : len ≤ 140737488355318) :
    Calls Try.prog 95 #[.slice a len cap, .int .i64 n] w fun e W' => ∃ g, e = .returned (.slice (some ⟨g, 0, none⟩) (len + (vb (fo n)).length) (len + (vb (fo n)).length)) ∧
      W'.heap[g]? = some (.cells (U (zs ++ vb (fo n))).toArray 5 (0, 0)) ∧ w.heap.size ≤ g ∧ Below w.heap.size w W' := by
  go_enter Try.func95, Try.ntmps95
  go_wp2_with (first
    | (go_at_call 109; refine (folded_any n h1 h2 _).mono ?_; rintro e w1 ⟨rfl, rfl⟩)
    | (go_at_call 108; refine (put_any _ _ _ zs _ (fo_lt h1 h2) _ hB hlen).mono ?_; rintro e w2 ⟨g, rfl, hg, hle, hb⟩; have HG := hide hg; clear hg))
  go_ret
  exact ⟨g, rfl, HG.out, hle, hb⟩

set_option maxHeartbeats 400000 in
theorem getInt_val (a : Option Addr) (len cap : Nat) (zs : List Int) (x : Int) (w : World) (hB : Bs w a len cap zs) :
    Calls Try.prog 87 #[.slice a len cap, .int .i64 x] w fun e W' => e = .returned (.tuple #[.int .i64 (unfo (gN zs x)), .int .i64 (gE zs x : Int), .bool (gB zs x)]) ∧ Below w.heap.size w W' := by
  have hlt := gN_lt hB.byte x
  go_enter Try.func87, Try.ntmps87
  go_wp2_with (first
    | (go_at_call 104; refine (get_val _ _ _ zs _ _ hB).mono ?_; rintro e w1 ⟨rfl, hb1⟩)
    | (go_at_call 105; refine (unfolded_any _ hlt _).mono ?_; rintro e w2 ⟨rfl, rfl⟩))
  go_ret3
  exact ⟨rfl, hb1⟩

end Go.Proofs.Ytnimfkcnkkjlkaa

/-
  'awake' of the third layer's statements: it answers true, and writes nothing that was there.
-/
namespace Go.Proofs.Ytnimfkcnkkjlkaa
open Go.RowKit
set_option maxRecDepth 100000

theorem vb_0 : vb 0 = [0] := by simp [vb_lt]
theorem vb_1 : vb 1 = [1] := by simp [vb_lt]
theorem vb_2 : vb 2 = [2] := by simp [vb_lt]
theorem vb_127 : vb 127 = [127] := by simp [vb_lt]
theorem vb_128 : vb 128 = [128, 1] := by simp [vb_ge, vb_lt]
theorem vb_300 : vb 300 = [172, 2] := by simp [vb_ge, vb_lt]
theorem vb_max : vb 18446744073709551615 = [255, 255, 255, 255, 255, 255, 255, 255, 255, 1] := by simp [vb_ge, vb_lt]

theorem Bs.row {w : World} {g m : Nat} {zs : List Int} (hg : w.heap[g]? = some (.cells (U zs).toArray 5 (0, 0))) (hl : zs.length = m) (hm : m ≤ 281474976710656) (hb : ∀ z ∈ zs, 0 ≤ z ∧ z ≤ 255) : Bs w (some ⟨g, 0, none⟩) m m zs :=
  Bs.own (cur := U zs) hg (by rw [U_length, hl]) hl (Nat.le_refl _) (by omega) hb (by rw [List.take_of_length_le (by rw [U_length, hl]; exact Nat.le_refl _)]; rfl)

theorem Bs.drop {w : World} {b off n cap : Nat} {zs : List Int} (hB : Bs w (some ⟨b, off, none⟩) n cap zs) (k : Nat) (hk : k ≤ n) : Bs w (some ⟨b, off + k, none⟩) (n - k) (cap - k) (zs.drop k) := by
  have hl := hB.len
  have hle := hB.le
  have hr := hB.reach
  refine ⟨by simp; omega, by omega, by omega, drop_byte hB.byte _, fun h => (by cases h), fun h => ?_⟩
  obtain ⟨b', off', ha, hc⟩ := hB.lies (by omega)
  simp only [Option.some.injEq, Addr.mk.injEq, and_true] at ha
  obtain ⟨rfl, rfl⟩ := ha
  refine ⟨b, off + k, rfl, fun i hi => ?_⟩
  rw [Nat.add_assoc, hc (k + i) (by omega)]
  simp [List.getD]

theorem app_byte {xs ys : List Int} (hx : ∀ z ∈ xs, 0 ≤ z ∧ z ≤ 255) (hy : ∀ z ∈ ys, 0 ≤ z ∧ z ≤ 255) : ∀ z ∈ xs ++ ys, 0 ≤ z ∧ z ≤ 255 := fun z hz => (List.mem_append.1 hz).elim (hx z) (hy z)

theorem put_bs (a : Option Addr) (len cap : Nat) (zs : List Int) (v : Nat) (hv : v < 18446744073709551616) (w : World) (hB : Bs w a len cap zs) (hlen : len ≤ 140737488355318) :
    Calls Try.prog 108 #[.slice a len cap, .int .u64 (v : Int)] w fun e W' => ∃ g, e = .returned (.slice (some ⟨g, 0, none⟩) (len + (vb v).length) (len + (vb v).length)) ∧
      Bs W' (some ⟨g, 0, none⟩) (len + (vb v).length) (len + (vb v).length) (zs ++ vb v) ∧ w.heap.size ≤ g ∧ Below w.heap.size w W' := by
  have h10 := vb_len10 hv
  refine (put_any a len cap zs v hv w hB hlen).mono ?_
  rintro e w' ⟨g, rfl, hg, hle, hb⟩
  exact ⟨g, rfl, Bs.row hg (by simp [hB.len]) (by omega) (app_byte hB.byte (vb_byte v)), hle, hb⟩

theorem putInt_bs (a : Option Addr) (len cap : Nat) (zs : List Int) (n : Int) (h1 : -9223372036854775808 ≤ n) (h2 : n ≤ 9223372036854775807) (w : World) (hB : Bs w a len cap zs) (hlen : len ≤ 140737488355318) :
    Calls Try.prog 95 #[.slice a len cap, .int .i64 n] w fun e W' => ∃ g, e = .returned (.slice (some ⟨g, 0, none⟩) (len + (vb (fo n)).length) (len + (vb (fo n)).length)) ∧
      Bs W' (some ⟨g, 0, none⟩) (len + (vb (fo n)).length) (len + (vb (fo n)).length) (zs ++ vb (fo n)) ∧ w.heap.size ≤ g ∧ Below w.heap.size w W' := by
  have h10 := vb_len10 (fo_lt h1 h2)
  refine (putInt_any a len cap zs n h1 h2 w hB hlen).mono ?_
  rintro e w' ⟨g, rfl, hg, hle, hb⟩
  exact ⟨g, rfl, Bs.row hg (by simp [hB.len]) (by omega) (app_byte hB.byte (vb_byte _)), hle, hb⟩

/-- A number put behind nothing, its bytes written out. -/
theorem put_lit (v : Nat) (hv : v < 18446744073709551616) (l : List Int) (k : Nat) (hl : vb v = l) (hk : l.length = k) (w : World) :
    Calls Try.prog 108 #[.slice none 0 0, .int .u64 (v : Int)] w fun e W' => ∃ g, e = .returned (.slice (some ⟨g, 0, none⟩) k k) ∧ Bs W' (some ⟨g, 0, none⟩) k k l ∧ Below w.heap.size w W' := by
  subst hl
  subst hk
  refine (put_bs none 0 0 [] v hv w (Bs.nil w) (by omega)).mono ?_
  rintro e w' ⟨g, rfl, hB, _, hb⟩
  simp only [Nat.zero_add, List.nil_append] at hB ⊢
  exact ⟨g, rfl, hB, hb⟩

theorem putInt_lit (n : Int) (h1 : -9223372036854775808 ≤ n) (h2 : n ≤ 9223372036854775807) (l : List Int) (k : Nat) (hl : vb (fo n) = l) (hk : l.length = k) (w : World) :
    Calls Try.prog 95 #[.slice none 0 0, .int .i64 n] w fun e W' => ∃ g, e = .returned (.slice (some ⟨g, 0, none⟩) k k) ∧ Bs W' (some ⟨g, 0, none⟩) k k l ∧ Below w.heap.size w W' := by
  subst hl
  subst hk
  refine (putInt_bs none 0 0 [] n h1 h2 w (Bs.nil w) (by omega)).mono ?_
  rintro e w' ⟨g, rfl, hB, _, hb⟩
  simp only [Nat.zero_add, List.nil_append] at hB ⊢
  exact ⟨g, rfl, hB, hb⟩

theorem get_yes {a : Option Addr} {len cap : Nat} {zs : List Int} {x : Int} {w : World} (hB : Bs w a len cap zs) {v : Nat} (h : gv zs x = some v) (y k : Int) (hy : (v : Int) = y) (hk : ((x.toNat + (vb v).length : Nat) : Int) = k) :
    Calls Try.prog 104 #[.slice a len cap, .int .i64 x] w fun e W' => e = .returned (.tuple #[.int .u64 y, .int .i64 k, .bool true]) ∧ Below w.heap.size w W' := by
  have c := get_val a len cap zs x w hB
  unfold gN gE gB at c
  rw [h] at c
  simp only [Option.getD_some, Option.isSome_some, hy, hk] at c
  exact c

theorem get_no {a : Option Addr} {len cap : Nat} {zs : List Int} {x : Int} {w : World} (hB : Bs w a len cap zs) (h : gv zs x = none) :
    Calls Try.prog 104 #[.slice a len cap, .int .i64 x] w fun e W' => e = .returned (.tuple #[.int .u64 0, .int .i64 0, .bool false]) ∧ Below w.heap.size w W' := by
  have c := get_val a len cap zs x w hB
  unfold gN gE gB at c
  rw [h] at c
  exact c

theorem getInt_yes {a : Option Addr} {len cap : Nat} {zs : List Int} {x : Int} {w : World} (hB : Bs w a len cap zs) {v : Nat} (h : gv zs x = some v) (y k : Int) (hy : unfo v = y) (hk : ((x.toNat + (vb v).length : Nat) : Int) = k) :
    Calls Try.prog 87 #[.slice a len cap, .int .i64 x] w fun e W' => e = .returned (.tuple #[.int .i64 y, .int .i64 k, .bool true]) ∧ Below w.heap.size w W' := by
  have c := getInt_val a len cap zs x w hB
  unfold gN gE gB at c
  rw [h] at c
  simp only [Option.getD_some, Option.isSome_some, hy, hk] at c
  exact c

/-- What the head of a list says. -/
theorem gv_head (v : Nat) (hv : v < 18446744073709551616) (l t : List Int) (hl : vb v = l) (hb : ∀ z ∈ l ++ t, 0 ≤ z ∧ z ≤ 255) : gv (l ++ t) 0 = some v := by
  subst hl
  exact gv_intro (x := 0) hb hv ⟨t, by simp⟩

/-- A slice against a row written out. -/
theorem same_lit {w : World} {a : Option Addr} {n cap : Nat} {zs : List Int} (h : Bs w a n cap zs) (m : Nat) (hm : zs.length = m) (hm2 : m ≤ 1000) :
    Calls Try.prog 11 #[.slice a n cap, .slice (some ⟨w.heap.size, 0, none⟩) m m] (w.alloc (.cells (U zs).toArray 5)) fun e w' => e = .returned (.bool true) ∧ w' = w.alloc (.cells (U zs).toArray 5) :=
  same_true rfl (h.alloc _) (Bs.lit w zs m hm hm2 h.byte)

end Go.Proofs.Ytnimfkcnkkjlkaa

/-
  Two loops that append: nine full bytes and one more; the bytes of a number by division.
-/
namespace Go.Proofs.Ytnimfkcnkkjlkaa
open Go.RowKit
set_option maxRecDepth 100000

theorem own_ge {w : World} {base n : Nat} {e : TypeId} {v : Value} {xs : List Value} (h : w.ownsRow base e 1 v n xs) {k : Nat} (hk : v.ownBlock = some k) : base ≤ k := by
  rcases h.2 with ⟨rfl, _⟩ | ⟨g, cap, _, rfl, hb, _⟩
  · cases hk
  · simp [Value.ownBlock] at hk
    omega

/-- One more byte behind a row that is owned: what stays. -/
theorem own_below {w0 w w' : World} {base n : Nat} {e : TypeId} {v : Value} {xs : List Value} (hb : Below base w0 w) (h : w.ownsRow base e 1 v n xs) (o : Obj) (hg : (w.alloc o).grownBy w' v.ownBlock) (hs : base ≤ w.heap.size) : Below base w0 w' :=
  (hb.alloc hs o).grown hg (by simp; omega) (fun _ hk => own_ge h hk)

set_option maxHeartbeats 1000000 in
theorem refBytes_any (v : Nat) (hv : v < 18446744073709551616) (w : World) :
    Calls Try.prog 86 #[.int .u64 (v : Int)] w fun e w' => ∃ g d, e = .returned (.slice (some ⟨g, 0, none⟩) (vb v).length d) ∧ w'.ownsRow w.heap.size 5 1 (.slice (some ⟨g, 0, none⟩) (vb v).length d) (vb v).length (U (vb v)) ∧ Below w.heap.size w w' := by
  obtain ⟨i0, hi, hz0, hz1, hz2⟩ := info_parts info5
  have h10 := vb_len10 hv
  go_enter Try.func86, Try.ntmps86
  go_wp2
  go_loopw [0, 3] (fun x o wr => ∃ (r : Nat) (pre : List Int), x = .int .u64 (r : Int) ∧ r ≤ v ∧ Hid (vb v = pre ++ vb r) ∧ Hid (wr.ownsRow w.heap.size 5 1 o pre.length (U pre)) ∧ Below w.heap.size w wr)
    (fun x _ _ => (intOf x).toNat)
  case atStart => exact ⟨v, [], rfl, Nat.le_refl _, hide rfl, hide (World.ownsRow_nil _ _ _ _), Below.refl _ _⟩
  case round =>
    obtain ⟨r, pre, rfl, hr, hx, ho, hb⟩ := hrel
    have hs := hb.size
    have hl := congrArg List.length hx.out
    rw [List.length_append] at hl
    have hvp := vb_pos r
    by_cases hlt : 127 < r
    · have hvr : Hid (vb r = ((r : Int) % 128 + 128) :: vb (r / 128)) := hide (by rw [vb_ge (by omega)]; congr 1)
      go_wp2_with (at_builtin; refine wpList_append_val rfl (.tmp 6) (.tmp 11) 22 rfl w.heap.size 5 i0 Try.underlying22 hi hz0 hz1 hz2 _ pre.length _ rfl (ho.out.alloc _) _ 1 1 [(r : Int) % 128 + 128] rfl (Bs.lit wr [(r : Int) % 128 + 128] 1 rfl (by decide) (by simp; omega)) (by omega) (by simp; omega) ?_; intro v1 w2 hown1 hgrow1; have ho1 := hide hown1; clear hown1)
      go_roundw
      case rel =>
        refine ⟨r / 128, pre ++ [(r : Int) % 128 + 128], by simp, by omega, hide (by rw [hx.out, hvr.out]; simp), hide ?_, own_below hb ho.out _ hgrow1 hs⟩
        have h := ho1.out
        rw [← U_append] at h
        simpa using h
      case measure => simp [intOf]; omega
    · have hvr : vb r = [(r : Int)] := vb_lt (by omega)
      have HV := hide hvr
      have hm : (r : Int) % 256 = r := by omega
      rw [hvr, List.length_singleton] at hl
      clear hvr
      go_wp2_with (at_builtin; refine wpList_append_bs rfl (.tmp 15) (.tmp 18) 22 rfl w.heap.size 5 i0 Try.underlying22 hi hz0 hz1 hz2 _ pre.length _ rfl (ho.out.alloc _) _ 1 1 [(r : Int)] rfl (Bs.lit wr [(r : Int)] 1 rfl (by decide) (by simp; omega)) (by omega) (by omega) (by simp; omega) ?_; intro g d w2 hown1 hgrow1; have ho1 := hide hown1; clear hown1)
      go_ret
      have h := ho1.out
      rw [← U_append] at h
      refine ⟨g, d, ?_, ?_, own_below hb ho.out _ hgrow1 hs⟩
      · rw [hx.out, HV.out]; simp
      · rw [hx.out, HV.out]; simpa using h

end Go.Proofs.Ytnimfkcnkkjlkaa

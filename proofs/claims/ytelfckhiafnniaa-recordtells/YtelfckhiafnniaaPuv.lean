/-
  What Put does, for any slice of bytes and any number.
-/
import Derived.Test.YtelfckhiafnniaaOct
namespace Go.Proofs.Ytelfckhiafnniaa
open Go.RowKit Go.Shelf

attribute [local go_sem] Oper.semAt_some

set_option maxRecDepth 100000 in
set_option maxHeartbeats 4000000 in
theorem put_in (F : Fence) (n : Nat) (h3 : F.fn 48) (h4 : F.fn 60) (h5 : F.fn 61) (h6 : F.fn 69) (hro : F.round = none) (hn : 4 ≤ n) (a : Option Addr) (len cap : Nat) (zs : List Int) (v : Nat) (hv : v < 18446744073709551616) (w : World)
    (hB : Bs w a len cap zs) (hlen : len ≤ 140737488355318) :
    CallsIn F n Try.prog 48 #[.slice a len cap, .int .u64 (v : Int)] w fun e W' => ∃ g, e = .returned (.slice (some ⟨g, 0, none⟩) (len + (vb v).length) (len + (vb v).length)) ∧
      W'.heap[g]? = some (.cells (U (zs ++ vb v)).toArray 5 (0, 0)) ∧ w.heap.size ≤ g ∧ Below w.heap.size w W' := by
  have h1 : 1 ≤ n := by omega
  obtain ⟨i0, hi, hz0, hz1, hz2⟩ := info_parts info5
  have h10 := vb_len10 hv
  have hle := hB.le
  have hre := hB.reach
  refine callsIn_of_wp_marks Try.func48 rfl h3 ?_ hro
  simp only [Try.ntmps48, List.size_toArray, List.length_cons, List.length_nil, Nat.reduceAdd, Nat.reduceSub, Array.replicate_succ, Array.replicate_zero, List.push_toArray, List.append_toArray, List.nil_append, List.cons_append]
  gi_wp2_with (first
    | (gi_at_call 60; refine (len_in F (n - 1) h4 h5 h6 hro (by omega) v hv _).mono ?_; rintro e w1 ⟨rfl, hb1⟩)
    | (gi_at_make; refine wpListIn_make_bytes _ rfl (.tmp 8) (.tmp 13) 22 rfl 5 i0 Try.underlying22 hi hz0 hz1 hz2 .i64 .i64 _ _ len (len + (vb v).length) rfl rfl rfl (by simp) (by omega) (by omega) ?_; intro w2 hg2 hgr2 hs2; have hb2 : Below w.heap.size w w2 := hb1.grown hgr2 hb1.size (fun k hk => by cases hk))
    | (refine wpListIn_copy_splice rfl (.tmp 15) (.tmp 16) 22 22 rfl 5 Try.underlying22 size5 _ _ _ _ _ _ rfl rfl w1.heap.size 0 _ 5 ((Below.heap_alloc w2 _ _ (by omega)).trans hg2.out) (U zs) (by rw [U_length, hB.len]; exact (Nat.min_eq_left (Nat.le_refl _)).symm) (fun hp => ⟨rfl, Bs.src ((hB.keep hb2).alloc _) (by rw [U_length, hB.len] at hp; exact hp)⟩) (by rw [U_length, zero_length, hB.len]; omega) (U_one zs) ?_; intro w3 hg3 hgr3)
    | (gi_at_call 61; refine (octets_in F (n - 1) h5 hro _ _).mono ?_; rintro e w4 ⟨rfl, rfl⟩))
  have hs3 : w2.heap.size + 1 ≤ w3.heap.size := by have := hgr3.size; simpa using this
  have hb3 : Below w.heap.size w w3 := (hb2.alloc hb2.size _).grown hgr3 (by have := hb2.size; simp; omega) (fun k hk => by cases hk; exact hb1.size)
  have bO : Boxed w3 (w1.heap.size + 1) 22 (.slice (some ⟨w1.heap.size, 0, none⟩) len (len + (vb v).length)) := by
    have h := Boxed.new w2 22 (.slice (some ⟨w1.heap.size, 0, none⟩) len (len + (vb v).length))
    rw [hs2] at h
    exact h.kept hgr3 (by simp)
  have bN := Boxed.new w3 51 (.int .u64 (v : Int))
  have hr3 : w3.ownsRow w.heap.size 5 1 (.slice (some ⟨w1.heap.size, 0, none⟩) len (len + (vb v).length)) len (U zs) := by
    have h := hg3.out
    rw [splice_head zs len (vb v).length hB.len] at h
    exact own_of_row w.heap.size hb1.size h (by rw [U_length]; simp [hB.len]) hB.len (by omega) (by omega) (by rw [U_append, List.take_append_of_le_length (by rw [U_length, hB.len]; exact Nat.le_refl _), List.take_of_length_le (by rw [U_length, hB.len]; exact Nat.le_refl _)])
  have hB0 : Below w.heap.size w (w3.alloc (.cells #[.int .u64 (v : Int)] 51)) := hb3.alloc hb3.size _
  have hw1 := hb1.size
  refine wpIn_rangeFunc_ownG hro h1 (gf := 69) (lb := #[.pointer (some ⟨w3.heap.size, 0, none⟩)]) rfl h6 (enters_of Try.func69 (by kernel_rfl) rfl)
    (oct_stops F (n - 1) h6 hro (by omega) w3.heap.size w.heap.size v hv _ (by simp) bN.cell) belowK_t (belowK_b (by have := hb3.size; simp; omega)) (Below.refl _ _) (fun _ => rfl)
    (fun pre W => (∃ x, Boxed W (w1.heap.size + 1) 22 x ∧ W.ownsRow w.heap.size 5 1 x (len + pre.length) (U (zs ++ pre)) ∧ x = .slice (some ⟨w1.heap.size, 0, none⟩) (len + pre.length) (len + (vb v).length)) ∧ Below w.heap.size w W)
    (fun _ _ _ => False)
    (OwnFrom.and (Own.from (holdsRow_own w.heap.size (w1.heap.size + 1) 22 5 1 (fun pre => len + pre.length) (fun pre => U (zs ++ pre)) (fun pre x => x = .slice (some ⟨w1.heap.size, 0, none⟩) (len + pre.length) (len + (vb v).length))) _) (ownFrom_below (Nat.le_refl _) (by have := hb3.size; simp; omega)))
    (fun _ _ _ _ _ hs _ _ => hs)
    ⟨⟨_, bO.alloc _, by simpa using hr3.alloc _, by simp⟩, hB0⟩
    (fun x => { tmps := #[.slice a len cap, .int .u64 (v : Int), undef, undef, .slice none 0 0, .pointer (some ⟨w1.heap.size + 1, 0, none⟩), .int .u8 x, .slice a len cap, .int .i64 len, .slice a len cap, .int .i64 len, .int .u64 (v : Int), .int .i64 (vb v).length, .int .i64 (len + (vb v).length), .slice (some ⟨w1.heap.size, 0, none⟩) len (len + (vb v).length), .slice (some ⟨w1.heap.size, 0, none⟩) len (len + (vb v).length), .slice a len cap, .int .i64 (U zs).length, .int .u64 (v : Int), .func (.func 69) #[] #[.pointer (some ⟨w3.heap.size, 0, none⟩)], .int .u8 x, undef, undef, undef, undef, undef], defers := [] }) ?assign ?body ?done ?stop
  case assign =>
    intro l x W K hK
    gi_wp2
    exact hK
  case body =>
    rintro l pre x W ⟨⟨u, hu, hrow, rfl⟩, hBl⟩ hlt
    have hc := hu.cell
    gi_wp2_with (gi_at_builtin; refine wpListIn_append_fits _ rfl _ _ 22 rfl w.heap.size 5 i0 1 Try.underlying22 hi hz1 w1.heap.size (len + pre.length) (len + (vb v).length) (U (zs ++ pre)) rfl (hrow.alloc _) ⟨W.heap.size, 0, none⟩ 1 1 [.int .u8 x] rfl rfl (cell_one_new _ _ _) (by simp [Value.oneCell']) (by omega) ?_; intro w5 hown' hgrow; obtain ⟨hv1, hv2, hr2, hk2, hb5⟩ := hu.appended (by decide) hrow hBl.size (by omega) hown' hgrow; have hc1 := hv1.cell; have hf1 := hv1.frozen)
    exact ⟨hk2.from _, hb5, ⟨_, hv2, by simpa [U, Nat.add_assoc] using hr2, by simp [Nat.add_assoc]⟩, hBl.trans hb5⟩
  case done =>
    rintro D ys W hD rfl ⟨⟨u, hu, hrow, rfl⟩, hBl⟩ hK
    have hc := hu.cell
    gi_wp2
    refine ⟨by simp, .inl ⟨_, _, rfl, run_takeDeferred hK, ?_⟩⟩
    refine ⟨_, results_tmp rfl _ _ _, w1.heap.size, rfl, ?_, hw1, hBl.trans (belowK_b (w := w) (Nat.le_refl _) W D _ _ (by have := hb3.size; simp at hD; omega) hK rfl rfl)⟩
    have hrow2 := ownsRow_putObj hrow (.deferred none) hK rfl
    rcases hrow2.2 with ⟨h, _⟩ | ⟨g, c, cur, h, _, hg, _, _, hcs, ht⟩
    · cases h
    · simp only [Value.slice.injEq, Option.some.injEq, Addr.mk.injEq, and_true, true_and] at h
      obtain ⟨rfl, rfl⟩ := h
      rw [List.take_of_length_le (by simp [hcs])] at ht
      rw [hg, ← ht]
  case stop =>
    rintro D c pre W _ _ h _
    exact h.elim

theorem put_any (a : Option Addr) (len cap : Nat) (zs : List Int) (v : Nat) (hv : v < 18446744073709551616) (w : World) (hB : Bs w a len cap zs) (hlen : len ≤ 140737488355318) :
    Calls Try.prog 48 #[.slice a len cap, .int .u64 (v : Int)] w fun e W' => ∃ g, e = .returned (.slice (some ⟨g, 0, none⟩) (len + (vb v).length) (len + (vb v).length)) ∧
      W'.heap[g]? = some (.cells (U (zs ++ vb v)).toArray 5 (0, 0)) ∧ w.heap.size ≤ g ∧ Below w.heap.size w W' :=
  callsIn_wide.1 (put_in Fence.wide 4 trivial trivial trivial trivial rfl (Nat.le_refl _) a len cap zs v hv w hB hlen)

end Go.Proofs.Ytelfckhiafnniaa

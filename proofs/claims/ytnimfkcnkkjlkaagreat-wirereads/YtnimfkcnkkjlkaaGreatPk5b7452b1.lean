/-
  Texts put into one.
-/
import Derived.Test.YtnimfkcnkkjlkaaGreatPk057fdd4d
import Derived.Test.YtnimfkcnkkjlkaaGreatPk78edb5fc

/-
  The document's reader: lists of texts and of bytes, places, lists of places, batches.
-/
namespace Go.Proofs.YtnimfkcnkkjlkaaGreat
open Go.RowKit
set_option maxRecDepth 100000
set_option linter.unusedVariables false

section
variable {Wb w w' w0 w1 w2 : World} {R n cap : Nat} {l l' l1 l2 zs : List Int} {bad bad' b1 b2 : Bool}

def Qsl {α : Type} (c : Cod.Way α) (L : Lay α) (ts : List TypeId) (C : Nat) (Wb : World) (R : Nat) (l : List Int) (bad : Bool) (w : World) (e : Ending) (w' : World) : Prop :=
  ∃ (a : Option Addr) (m d : Nat), e = .returned (.slice a m d) ∧ Rq c L ts C [.slice a m d] Wb R l bad w w'

theorem Aq.assoc {α β γ : Type} {a : Cod.Way α} {b : Cod.Way β} {c : Cod.Way γ} {G : World → (α × β) × γ → Prop} {ts : List TypeId} {C : Nat} (h : Aq (Cod.pair (Cod.pair a b) c) G ts C Wb R l bad l' bad' w0 w) : Aq (Cod.pair a (Cod.pair b c)) (fun V q => G V ((q.1, q.2.1), q.2.2)) ts C Wb R l bad l' bad' w0 w := by
  obtain ⟨⟨⟨x, y⟩, z⟩, g1, e, ex⟩ := h.ex
  refine ⟨h.tq, h.kt, h.le, h.mono, ⟨(x, y, z), g1, ?_, fun hb q t hg => ?_⟩, fun t V V' q ht hk hG => h.keep t V V' _ ht hk hG⟩
  · have e1 : (Cod.pair (Cod.pair a b) c).put ((x, y), z) = (a.put x ++ b.put y) ++ c.put z := rfl
    have e2 : (Cod.pair a (Cod.pair b c)).put (x, y, z) = a.put x ++ (b.put y ++ c.put z) := rfl
    rw [e1, List.append_assoc] at e
    rw [e2]
    exact e
  · obtain ⟨q1, q2, q3⟩ := q
    have hg' : (Cod.pair (Cod.pair a b) c).get l = some (((q1, q2), q3), t) := by
      simp only [Cod.pair] at hg ⊢
      cases e1 : a.get l with
      | none => simp [e1] at hg
      | some r1 =>
        obtain ⟨a1, t1⟩ := r1
        simp only [e1] at hg ⊢
        cases e2 : b.get t1 with
        | none => simp [e2] at hg
        | some r2 =>
          obtain ⟨a2, t2⟩ := r2
          simp only [e2] at hg ⊢
          cases e3 : c.get t2 with
          | none => simp [e3] at hg
          | some r3 =>
            obtain ⟨a3, t3⟩ := r3
            simp only [e3, Option.some.injEq, Prod.mk.injEq] at hg ⊢
            obtain ⟨⟨rfl, rfl, rfl⟩, rfl⟩ := hg
            exact ⟨⟨⟨rfl, rfl⟩, rfl⟩, rfl⟩
    obtain ⟨h1, h2, h3⟩ := ex hb _ t hg'
    simp only [Prod.mk.injEq] at h1
    obtain ⟨⟨rfl, rfl⟩, rfl⟩ := h1
    exact ⟨rfl, h2, h3⟩

theorem u8_len {k : Int} (h : U8 k) : (Cod.u8.put k).length ≤ 2 := by
  have e : Cod.u8.put k = vb (fo k) := rfl
  rw [e]
  have h1 : fo k < 16384 := by
    unfold U8 at h
    unfold fo
    split <;> omega
  rcases Nat.lt_or_ge (fo k) 128 with h2 | h2
  · rw [vb_lt h2]
    simp
  · rw [vb_ge h2, vb_lt (by omega)]
    simp

theorem wrap_u8_u8 (n : Int) : U8 (IntKind.u8.wrap n) := by
  unfold U8
  simp [IntKind.wrap, IntKind.signed, IntKind.bits]
  omega

/-- A number that is told as a byte. -/
theorem Aq.u8 {n : Int} (h : Aq Cod.i64 (fun V q => LI64 V q [.int .i64 n]) [] 1 Wb R l bad l' bad' w0 w) : Aq Cod.u8 (fun V q => LU8 V q [.int .u8 (n % 256)]) [] 2 Wb R l bad l' bad' w0 w := by
  have hw : n % 256 = IntKind.u8.wrap n := by
    simp [IntKind.wrap, IntKind.signed, IntKind.bits]
  rw [hw]
  obtain ⟨q, ⟨hq, hI⟩, e, ex⟩ := h.ex
  have hqn : q = n := by simpa using hq.symm
  subst hqn
  have hle := h.le
  refine ⟨h.tq, h.kt, h.le, h.mono, ⟨IntKind.u8.wrap q, ⟨rfl, wrap_u8_u8 q⟩, ?_, fun hb a t hg => ?_⟩, fun t V V' q ht hk hl => hl⟩
  · have h2 := u8_len (wrap_u8_u8 q)
    have hp : 1 ≤ (Cod.i64.put q).length := by
      have e : Cod.i64.put q = vb (fo q) := rfl
      rw [e]
      exact vb_pos _
    cases bad' with
    | true =>
      simp only [if_true] at e ⊢
      omega
    | false =>
      simp only [Bool.false_eq_true, if_false] at e ⊢
      omega
  · simp only [Cod.u8, Cod.num, Cod.via, Cod.size] at hg
    cases hv : getv l with
    | none => simp [hv] at hg
    | some v =>
      simp only [hv] at hg
      by_cases hc : 0 ≤ unfo v ∧ unfo v ≤ 255
      · rw [if_pos hc] at hg
        simp only [Option.some.injEq, Prod.mk.injEq] at hg
        obtain ⟨rfl, rfl⟩ := hg
        have hi : Cod.i64.get l = some (unfo v, l.drop (vb v).length) := by
          rw [i64_get, hv]
          exact if_pos (show -9223372036854775808 ≤ unfo v ∧ unfo v ≤ 9223372036854775807 by omega)
        obtain ⟨rfl, h2, h3⟩ := ex hb _ _ hi
        refine ⟨?_, h2, h3⟩
        simp [IntKind.wrap, IntKind.signed, IntKind.bits]
        omega
      · rw [if_neg hc] at hg
        cases hg

theorem infqtexts : (Tryz.prog.info? (9 : TypeId)).map (fun i => (i.zero, i.size, i.bytes)) = some (some (.string ⟨#[]⟩), 1, 16) := by kernel_rfl

set_option maxHeartbeats 4000000 in
theorem ttexts_any (h : Tq Wb R l bad w) : Calls Tryz.prog 139 #[.pointer (some ⟨R, 0, none⟩)] w (Qsl (Cod.list Cod.data) LTxs [(9 : TypeId)] 11 Wb R l bad w) := by
  obtain ⟨i1, hi', hy0, hy1, hy2⟩ := info_parts infqtexts
  have hsh := h.short
  have hby := h.byte
  have HW := hide h.low.size
  have HC := hide (tsize_any h)
  clear h
  go_enter Tryz.func139, Tryz.ntmps139
  go_wp2_with fail
  refine HC.out.mono ?_
  rintro e w1 ⟨n, l1, b1, rfl, hT1, hk1, hn, hor⟩
  have HOR := hide hor
  have HST := hide (Lq.start (c := Cod.data) (T := (9 : TypeId)) (size := 1) (L := LTx) (C := 1) (n0 := n) hT1 hk1)
  clear hT1 hk1 hor HC
  go_wp2_with fail
  go_loopw [3, 4] (fun u i wr => ∃ (k : Nat) (r : List (List Int)) (l2 : List Int) (bd : Bool), r.length + k = n ∧ i = .int .i64 k ∧ Hid (Lq Cod.data (9 : TypeId) 1 LTx 1 Wb R l1 b1 n w r l2 bd u wr)) (fun _ i _ => (intOf i).toNat)
  case atStart => exact ⟨n, [], l1, b1, by simp, rfl, HST⟩
  case round =>
    obtain ⟨k, r, l2, bd, hrk, rfl, hH⟩ := hrel
    obtain ⟨ua, ud, rfl⟩ := hH.out.val
    obtain ⟨ta, tm, tc, g1, _⟩ := hH.out.tq.is
    have q1 := (row_at g1 1 (.bool bd) rfl).1
    clear g1
    rcases Nat.eq_zero_or_pos k with rfl | hk
    · have HE : Hid (Qsl (Cod.list Cod.data) LTxs [(9 : TypeId)] 11 Wb R l bad w (.returned (.slice ua r.length ud)) wr) := hide ⟨_, _, _, rfl, l2, bd, hH.out.done (.inl (by omega)) Cod.data_law Cod.Much.data LTx.k hby hsh hn HOR.out⟩
      clear hH
      go_wp2_with fail
      go_ret
      exact HE.out
    · have j1 : (0 : Int) < (k : Int) := by omega
      cases bd with
      | true =>
        have HE : Hid (Qsl (Cod.list Cod.data) LTxs [(9 : TypeId)] 11 Wb R l bad w (.returned (.slice ua r.length ud)) wr) := hide ⟨_, _, _, rfl, l2, true, hH.out.done (.inr rfl) Cod.data_law Cod.Much.data LTx.k hby hsh hn HOR.out⟩
        clear hH
        go_wp2_with fail
        go_ret
        exact HE.out
      | false =>
        have HC := hide (ttext_any hH.out.tq)
        go_wp2_with fail
        refine HC.out.mono ?_
        rintro e w2 ⟨z, rfl, l3, b3, hB⟩
        obtain ⟨xs, hox, hxx⟩ := hH.out.step hB LTx.k (by decide) (by decide) (by decide) rfl HW.out (by omega) (.cells #[.string z] (9 : TypeId))
        have hbs : w.heap.size ≤ w2.heap.size + 1 := by have h1 := hH.out.kt.size; have h2 := hB.kt.size; omega
        have HXX := hide hxx
        have HOX := hide hox
        have HNW := hide (World.news_of_block (heap_alloc_new w2 (.cells #[.string z] (9 : TypeId))))
        have hrn : r.length ≤ 70000 := by omega
        clear hxx hox hH hB HC q1
        go_wp2_with (at_builtin; refine wpList_append_own _ rfl (.tmp 18) (.tmp 21) (53 : TypeId) rfl w.heap.size (9 : TypeId) i1 (.string ⟨#[]⟩) 1 16 Tryz.underlying53 hi' hy0 hy1 hy2 rfl (by omega) _ r.length xs (by rfl) HOX.out ⟨w2.heap.size, 0, none⟩ 1 1 [.string z] (by rfl) rfl HNW.out (by simp [Value.oneCell']) (by unfold maxLen; omega) (by omega) (by simp; omega) ?_; intro v6 w6 ho6 hg6 hn6; clear hn6; obtain ⟨x, hL6⟩ := HXX.out _ w6 ho6 hg6; have HL6 := hide hL6; clear hL6 ho6 hg6)
        go_roundw
        case rel => exact ⟨k - 1, r ++ [x], l3, b3, by simp; omega, by rw [show ((k - 1 : Nat) : Int) = (k : Int) - 1 by omega], HL6⟩
        case measure => simp [intOf]; omega

theorem infqrecords : (Tryz.prog.info? (32 : TypeId)).map (fun i => (i.zero, i.size, i.bytes)) = some (some (.slice none 0 0), 1, 24) := by kernel_rfl

set_option maxHeartbeats 4000000 in
theorem trecords_any (h : Tq Wb R l bad w) : Calls Tryz.prog 74 #[.pointer (some ⟨R, 0, none⟩)] w (Qsl (Cod.list Cod.data) LRecs [(32 : TypeId), (5 : TypeId)] 11 Wb R l bad w) := by
  obtain ⟨i1, hi', hy0, hy1, hy2⟩ := info_parts infqrecords
  have hsh := h.short
  have hby := h.byte
  have HW := hide h.low.size
  have HC := hide (tsize_any h)
  clear h
  go_enter Tryz.func74, Tryz.ntmps74
  go_wp2_with fail
  refine HC.out.mono ?_
  rintro e w1 ⟨n, l1, b1, rfl, hT1, hk1, hn, hor⟩
  have HOR := hide hor
  have HST := hide (Lq.start (c := Cod.data) (T := (32 : TypeId)) (size := 1) (L := LBy) (C := 1) (n0 := n) hT1 hk1)
  clear hT1 hk1 hor HC
  go_wp2_with fail
  go_loopw [3, 4] (fun u i wr => ∃ (k : Nat) (r : List (List Int)) (l2 : List Int) (bd : Bool), r.length + k = n ∧ i = .int .i64 k ∧ Hid (Lq Cod.data (32 : TypeId) 1 LBy 1 Wb R l1 b1 n w r l2 bd u wr)) (fun _ i _ => (intOf i).toNat)
  case atStart => exact ⟨n, [], l1, b1, by simp, rfl, HST⟩
  case round =>
    obtain ⟨k, r, l2, bd, hrk, rfl, hH⟩ := hrel
    obtain ⟨ua, ud, rfl⟩ := hH.out.val
    obtain ⟨ta, tm, tc, g1, _⟩ := hH.out.tq.is
    have q1 := (row_at g1 1 (.bool bd) rfl).1
    clear g1
    rcases Nat.eq_zero_or_pos k with rfl | hk
    · have HE : Hid (Qsl (Cod.list Cod.data) LRecs [(32 : TypeId), (5 : TypeId)] 11 Wb R l bad w (.returned (.slice ua r.length ud)) wr) := hide ⟨_, _, _, rfl, l2, bd, hH.out.done (.inl (by omega)) Cod.data_law Cod.Much.data LBy.k hby hsh hn HOR.out⟩
      clear hH
      go_wp2_with fail
      go_ret
      exact HE.out
    · have j1 : (0 : Int) < (k : Int) := by omega
      cases bd with
      | true =>
        have HE : Hid (Qsl (Cod.list Cod.data) LRecs [(32 : TypeId), (5 : TypeId)] 11 Wb R l bad w (.returned (.slice ua r.length ud)) wr) := hide ⟨_, _, _, rfl, l2, true, hH.out.done (.inr rfl) Cod.data_law Cod.Much.data LBy.k hby hsh hn HOR.out⟩
        clear hH
        go_wp2_with fail
        go_ret
        exact HE.out
      | false =>
        have HC := hide (tdata_any hH.out.tq)
        go_wp2_with fail
        refine HC.out.mono ?_
        rintro e w2 ⟨za, zn, zc, rfl, hM3, l3, b3, hB⟩
        obtain ⟨xs, hox, hxx⟩ := hH.out.step hB LBy.k (by decide) (by decide) (by decide) rfl HW.out (by omega) (.cells #[.slice za zn zc] (32 : TypeId))
        have hbs : w.heap.size ≤ w2.heap.size + 1 := by have h1 := hH.out.kt.size; have h2 := hB.kt.size; omega
        have HXX := hide hxx
        have HOX := hide hox
        have HNW := hide (World.news_of_block (heap_alloc_new w2 (.cells #[.slice za zn zc] (32 : TypeId))))
        have hrn : r.length ≤ 70000 := by omega
        clear hxx hox hH hB HC q1
        go_wp2_with (at_builtin; refine wpList_append_own _ rfl (.tmp 18) (.tmp 21) (22 : TypeId) rfl w.heap.size (32 : TypeId) i1 (.slice none 0 0) 1 24 Tryz.underlying22 hi' hy0 hy1 hy2 rfl (by omega) _ r.length xs (by rfl) HOX.out ⟨w2.heap.size, 0, none⟩ 1 1 [.slice za zn zc] (by rfl) rfl HNW.out (by simp [Value.oneCell']) (by unfold maxLen; omega) (by omega) (by simp; omega) ?_; intro v6 w6 ho6 hg6 hn6; clear hn6; obtain ⟨x, hL6⟩ := HXX.out _ w6 ho6 hg6; have HL6 := hide hL6; clear hL6 ho6 hg6)
        go_roundw
        case rel => exact ⟨k - 1, r ++ [x], l3, b3, by simp; omega, by rw [show ((k - 1 : Nat) : Int) = (k : Int) - 1 by omega], HL6⟩
        case measure => simp [intOf]; omega

/-- What is read. -/
def QPlace (Wb : World) (R : Nat) (l : List Int) (bad : Bool) (w : World) (e : Ending) (w' : World) : Prop :=
  ∃ (yt : ByteArray) (yp : Int), e = .returned (.agg #[.string yt, .int .i64 yp]) ∧ Rq Cod.place LPlace [] 2 [.string yt, .int .i64 yp] Wb R l bad w w'

set_option maxHeartbeats 40000000 in
theorem tplace_any (h : Tq Wb R l bad w) : Calls Tryz.prog 140 #[.pointer (some ⟨R, 0, none⟩)] w (QPlace Wb R l bad w) := by
  have hRl := h.lt
  obtain ⟨W0, HW0⟩ : ∃ W0, Hid (W0 = w.alloc (.cells #[.string ⟨#[]⟩, .int .i64 0] (55 : TypeId))) := ⟨_, hide rfl⟩
  have hb0 : Below w.heap.size w W0 := by rw [HW0.out]; exact fresh w _
  have hG0 : W0.heap[w.heap.size]? = some (.cells #[.string ⟨#[]⟩, .int .i64 0] (55 : TypeId) (0, 0)) := by rw [HW0.out]; exact heap_alloc_new w _
  have HC := hide (ttext_any (h.keep hb0 hRl))
  clear h
  go_enter Tryz.func140, Tryz.ntmps140
  go_wp2_with fail
  rw [← HW0.out]
  refine HC.out.mono ?_
  rintro e w1 ⟨yt, rfl, l1, b1, hB⟩
  clear HC
  have hG0 := hB.kt.block _ _ _ _ hG0 (by decide)
  have hA := hB.first hb0
  clear hB
  obtain ⟨V0, HV0⟩ : ∃ V, Hid (V = w1.alloc (.cells #[.string yt, .int .i64 0] (55 : TypeId))) := ⟨_, hide rfl⟩
  have hbx : Below w1.heap.size w1 V0 := by rw [HV0.out]; exact fresh w1 _
  have hG1 : V0.heap[w1.heap.size]? = some (.cells #[.string yt, .int .i64 0] (55 : TypeId) (0, 0)) := by rw [HV0.out]; exact heap_alloc_new w1 _
  have hne : w.heap.size < w1.heap.size := hp_lt hG0
  replace hG0 := (hbx.block _ (hp_lt hG0)).trans hG0
  have hlB : w.heap.size ≤ w1.heap.size := hA.kt.size
  replace hA := hA.beside (S := (55 : TypeId)) (by decide) (Kt.of_below hbx) (hbx.mono hA.kt.size) hRl
  clear hbx
  have HC := hide (tnum_any hA.tq)
  go_wp2_with fail
  rw [← HV0.out]
  refine HC.out.mono ?_
  rintro e w2 ⟨yp, rfl, hI2, l2, b2, hB⟩
  clear HC
  have hG0 := hB.kt.block _ _ _ _ hG0 (by decide)
  have hG1 := hB.kt.block _ _ _ _ hG1 (by decide)
  replace hA := hA.step hB (by decide)
  clear hB
  have c1_0 := (row_at hG1 1 (.int .i64 0) rfl).1
  have f1_0 := (row_at hG1 1 (.int .i64 0) rfl).2
  have s1 : (w2.setCell ⟨w1.heap.size, 1, none⟩ (.int .i64 yp)).heap[w1.heap.size]? = some (.cells #[.string yt, .int .i64 yp] (55 : TypeId) (0, 0)) := heap_setCell_same _ (w1.heap.size) 1 _ (55 : TypeId) (.int .i64 yp) hG1
  have h0_1 : (w2.setCell ⟨w1.heap.size, 1, none⟩ (.int .i64 yp)).heap[w.heap.size]? = some (.cells #[.string ⟨#[]⟩, .int .i64 0] (55 : TypeId) (0, 0)) := (Below.heap_setCell _ _ _ _ (Nat.ne_of_lt hne)).trans hG0
  replace hA := hA.beside (S := (55 : TypeId)) (by decide) (Kt.set (i := 1) hG1 (.int .i64 yp)) ((Below.refl w.heap.size w2).setCell hlB (.int .i64 yp)) hRl
  obtain ⟨V1, HV1⟩ : ∃ V, Hid (V = w2.setCell ⟨w1.heap.size, 1, none⟩ (.int .i64 yp)) := ⟨_, hide rfl⟩
  rw [← HV1.out] at hA h0_1 s1
  have HX := hide hA
  have HY := hide h0_1
  have HZ := hide s1
  clear hA h0_1 hG1 hG0 s1
  have hA := HX.out
  have hG0 := HY.out
  have hG1 := HZ.out
  clear HX HY HZ
  have hF : Aq Cod.place (fun V q => LPlace V q [.string yt, .int .i64 yp]) [] 2 Wb R l bad l2 b2 w V1 := (hA).iso (f := _) (g := _) (fun _ => rfl) (fun q hq => by obtain ⟨h0, h1⟩ := hq; exact ⟨_, _, rfl, h0, h1⟩) LPlace.k
  have hF2 := hF.beside (S := (55 : TypeId)) (by decide) (Kt.row1 (cs := #[.string yt, .int .i64 yp]) hG0) (below_setRow (Below.refl _ _) (Nat.le_refl _) _) hRl
  have hR : (V1.setRow w.heap.size #[.string yt, .int .i64 yp]).heap[w.heap.size]? = some (.cells #[.string yt, .int .i64 yp] (55 : TypeId) (0, 0)) := setRow_heap V1 w.heap.size _ _ (55 : TypeId) _ hG0
  have HF := hide hF2
  have HR := hide hR
  have HG0 := hide hG0
  have HG1 := hide hG1
  clear hF hF2 hR hG0 hG1 hA
  have HGX : Hid (w2.setCell ⟨w1.heap.size, 1, none⟩ (.int .i64 yp) = V1) := hide HV1.out.symm
  go_wp2_with (first | (rw [HGX.out]; refine wpList_load_row rfl (55 : TypeId) _ rfl w1.heap.size rfl (55 : TypeId) _ (0, 0) _ HG1.out Tryz.underlying55 rfl (by kernel_rfl) ?_) | (refine wpList_store_row rfl (55 : TypeId) _ _ rfl w.heap.size #[.string yt, .int .i64 yp] rfl rfl (55 : TypeId) _ HG0.out (by kernel_rfl) rfl (by simp [Value.oneCell']) ?_))
  refine bodyPost_ret (v := .agg #[.string yt, .int .i64 yp]) (results_cell_row Tryz.results140 _ _ w.heap.size (55 : TypeId) _ (0, 0) _ rfl HR.out Tryz.underlying55 rfl (by kernel_rfl)) rfl ?_
  exact ⟨_, _, rfl, l2, b2, HF.out⟩

theorem infqplaces : (Tryz.prog.info? (55 : TypeId)).map (fun i => (i.zero, i.size, i.bytes)) = some (some (.agg #[.string ⟨#[]⟩, .int .i64 0]), 2, 24) := by kernel_rfl

set_option maxHeartbeats 4000000 in
theorem tplaces_any (h : Tq Wb R l bad w) : Calls Tryz.prog 147 #[.pointer (some ⟨R, 0, none⟩)] w (Qsl (Cod.list Cod.place) LPlaces [(55 : TypeId)] 12 Wb R l bad w) := by
  obtain ⟨i1, hi', hy0, hy1, hy2⟩ := info_parts infqplaces
  have hsh := h.short
  have hby := h.byte
  have HW := hide h.low.size
  have HC := hide (tsize_any h)
  clear h
  go_enter Tryz.func147, Tryz.ntmps147
  go_wp2_with fail
  refine HC.out.mono ?_
  rintro e w1 ⟨n, l1, b1, rfl, hT1, hk1, hn, hor⟩
  have HOR := hide hor
  have HST := hide (Lq.start (c := Cod.place) (T := (55 : TypeId)) (size := 2) (L := LPlace) (C := 2) (n0 := n) hT1 hk1)
  clear hT1 hk1 hor HC
  go_wp2_with fail
  go_loopw [3, 4] (fun u i wr => ∃ (k : Nat) (r : List (Cod.Place)) (l2 : List Int) (bd : Bool), r.length + k = n ∧ i = .int .i64 k ∧ Hid (Lq Cod.place (55 : TypeId) 2 LPlace 2 Wb R l1 b1 n w r l2 bd u wr)) (fun _ i _ => (intOf i).toNat)
  case atStart => exact ⟨n, [], l1, b1, by simp, rfl, HST⟩
  case round =>
    obtain ⟨k, r, l2, bd, hrk, rfl, hH⟩ := hrel
    obtain ⟨ua, ud, rfl⟩ := hH.out.val
    obtain ⟨ta, tm, tc, g1, _⟩ := hH.out.tq.is
    have q1 := (row_at g1 1 (.bool bd) rfl).1
    clear g1
    rcases Nat.eq_zero_or_pos k with rfl | hk
    · have HE : Hid (Qsl (Cod.list Cod.place) LPlaces [(55 : TypeId)] 12 Wb R l bad w (.returned (.slice ua r.length ud)) wr) := hide ⟨_, _, _, rfl, l2, bd, hH.out.done (.inl (by omega)) Cod.place_law Cod.place_much LPlace.k hby hsh hn HOR.out⟩
      clear hH
      go_wp2_with fail
      go_ret
      exact HE.out
    · have j1 : (0 : Int) < (k : Int) := by omega
      cases bd with
      | true =>
        have HE : Hid (Qsl (Cod.list Cod.place) LPlaces [(55 : TypeId)] 12 Wb R l bad w (.returned (.slice ua r.length ud)) wr) := hide ⟨_, _, _, rfl, l2, true, hH.out.done (.inr rfl) Cod.place_law Cod.place_much LPlace.k hby hsh hn HOR.out⟩
        clear hH
        go_wp2_with fail
        go_ret
        exact HE.out
      | false =>
        have HC := hide (tplace_any hH.out.tq)
        go_wp2_with fail
        refine HC.out.mono ?_
        rintro e w2 ⟨zt, zp, rfl, l3, b3, hB⟩
        obtain ⟨xs, hox, hxx⟩ := hH.out.step hB LPlace.k (by decide) (by decide) (by decide) rfl HW.out (by omega) (.cells #[.string zt, .int .i64 zp] (55 : TypeId))
        have hbs : w.heap.size ≤ w2.heap.size + 1 := by have h1 := hH.out.kt.size; have h2 := hB.kt.size; omega
        have HXX := hide hxx
        have HOX := hide hox
        have HNW := hide (World.news_of_block (heap_alloc_new w2 (.cells #[.string zt, .int .i64 zp] (55 : TypeId))))
        have hrn : r.length ≤ 70000 := by omega
        clear hxx hox hH hB HC q1
        go_wp2_with (at_builtin; refine wpList_append_own _ rfl (.tmp 18) (.tmp 21) (68 : TypeId) rfl w.heap.size (55 : TypeId) i1 (.agg #[.string ⟨#[]⟩, .int .i64 0]) 2 24 Tryz.underlying68 hi' hy0 hy1 hy2 rfl (by omega) _ r.length xs (by rfl) HOX.out ⟨w2.heap.size, 0, none⟩ 1 1 [.string zt, .int .i64 zp] (by rfl) rfl HNW.out (by simp [Value.oneCell']) (by unfold maxLen; omega) (by omega) (by simp; omega) ?_; intro v6 w6 ho6 hg6 hn6; clear hn6; obtain ⟨x, hL6⟩ := HXX.out _ w6 ho6 hg6; have HL6 := hide hL6; clear hL6 ho6 hg6)
        go_roundw
        case rel => exact ⟨k - 1, r ++ [x], l3, b3, by simp; omega, by rw [show ((k - 1 : Nat) : Int) = (k : Int) - 1 by omega], HL6⟩
        case measure => simp [intOf]; omega

/-- What is read. -/
def QBatch (Wb : World) (R : Nat) (l : List Int) (bad : Bool) (w : World) (e : Ending) (w' : World) : Prop :=
  ∃ (yp : Int) (ye : Int) (yf : Int) (yla : Option Addr) (yln ylc : Nat), e = .returned (.agg #[.int .i64 yp, .int .i64 ye, .int .i64 yf, .slice yla yln ylc]) ∧ Rq Cod.batch LBatch [(32 : TypeId), (5 : TypeId)] 14 [.int .i64 yp, .int .i64 ye, .int .i64 yf, .slice yla yln ylc] Wb R l bad w w'

set_option maxHeartbeats 40000000 in
theorem tbatch_any (h : Tq Wb R l bad w) : Calls Tryz.prog 55 #[.pointer (some ⟨R, 0, none⟩)] w (QBatch Wb R l bad w) := by
  have hRl := h.lt
  obtain ⟨W0, HW0⟩ : ∃ W0, Hid (W0 = w.alloc (.cells #[.int .i64 0, .int .i64 0, .int .i64 0, .slice none 0 0] (46 : TypeId))) := ⟨_, hide rfl⟩
  have hb0 : Below w.heap.size w W0 := by rw [HW0.out]; exact fresh w _
  have hG0 : W0.heap[w.heap.size]? = some (.cells #[.int .i64 0, .int .i64 0, .int .i64 0, .slice none 0 0] (46 : TypeId) (0, 0)) := by rw [HW0.out]; exact heap_alloc_new w _
  have HC := hide (tnum_any (h.keep hb0 hRl))
  clear h
  go_enter Tryz.func55, Tryz.ntmps55
  go_wp2_with fail
  rw [← HW0.out]
  refine HC.out.mono ?_
  rintro e w1 ⟨yp, rfl, hI1, l1, b1, hB⟩
  clear HC
  have hG0 := hB.kt.block _ _ _ _ hG0 (by decide)
  have hA := hB.first hb0
  clear hB
  obtain ⟨V0, HV0⟩ : ∃ V, Hid (V = w1.alloc (.cells #[.int .i64 yp, .int .i64 0, .int .i64 0, .slice none 0 0] (46 : TypeId))) := ⟨_, hide rfl⟩
  have hbx : Below w1.heap.size w1 V0 := by rw [HV0.out]; exact fresh w1 _
  have hG1 : V0.heap[w1.heap.size]? = some (.cells #[.int .i64 yp, .int .i64 0, .int .i64 0, .slice none 0 0] (46 : TypeId) (0, 0)) := by rw [HV0.out]; exact heap_alloc_new w1 _
  have hne : w.heap.size < w1.heap.size := hp_lt hG0
  replace hG0 := (hbx.block _ (hp_lt hG0)).trans hG0
  have hlB : w.heap.size ≤ w1.heap.size := hA.kt.size
  replace hA := hA.beside (S := (46 : TypeId)) (by decide) (Kt.of_below hbx) (hbx.mono hA.kt.size) hRl
  clear hbx
  have HC := hide (tnum_any hA.tq)
  go_wp2_with fail
  rw [← HV0.out]
  refine HC.out.mono ?_
  rintro e w2 ⟨ye, rfl, hI2, l2, b2, hB⟩
  clear HC
  have hG0 := hB.kt.block _ _ _ _ hG0 (by decide)
  have hG1 := hB.kt.block _ _ _ _ hG1 (by decide)
  replace hA := hA.step hB (by decide)
  clear hB
  have c1_0 := (row_at hG1 1 (.int .i64 0) rfl).1
  have f1_0 := (row_at hG1 1 (.int .i64 0) rfl).2
  have s1 : (w2.setCell ⟨w1.heap.size, 1, none⟩ (.int .i64 ye)).heap[w1.heap.size]? = some (.cells #[.int .i64 yp, .int .i64 ye, .int .i64 0, .slice none 0 0] (46 : TypeId) (0, 0)) := heap_setCell_same _ (w1.heap.size) 1 _ (46 : TypeId) (.int .i64 ye) hG1
  have h0_1 : (w2.setCell ⟨w1.heap.size, 1, none⟩ (.int .i64 ye)).heap[w.heap.size]? = some (.cells #[.int .i64 0, .int .i64 0, .int .i64 0, .slice none 0 0] (46 : TypeId) (0, 0)) := (Below.heap_setCell _ _ _ _ (Nat.ne_of_lt hne)).trans hG0
  replace hA := hA.beside (S := (46 : TypeId)) (by decide) (Kt.set (i := 1) hG1 (.int .i64 ye)) ((Below.refl w.heap.size w2).setCell hlB (.int .i64 ye)) hRl
  obtain ⟨V1, HV1⟩ : ∃ V, Hid (V = w2.setCell ⟨w1.heap.size, 1, none⟩ (.int .i64 ye)) := ⟨_, hide rfl⟩
  rw [← HV1.out] at hA h0_1 s1
  have HX := hide hA
  have HY := hide h0_1
  have HZ := hide s1
  clear hA h0_1 hG1 hG0 s1
  have hA := HX.out
  have hG0 := HY.out
  have hG1 := HZ.out
  clear HX HY HZ
  have HC := hide (tnum_any hA.tq)
  go_wp2_with fail
  rw [← HV1.out]
  refine HC.out.mono ?_
  rintro e w3 ⟨yf, rfl, hI3, l3, b3, hB⟩
  clear HC
  have hG0 := hB.kt.block _ _ _ _ hG0 (by decide)
  have hG1 := hB.kt.block _ _ _ _ hG1 (by decide)
  replace hA := hA.step hB (by decide)
  clear hB
  have c2_0 := (row_at hG1 2 (.int .i64 0) rfl).1
  have f2_0 := (row_at hG1 2 (.int .i64 0) rfl).2
  have s2 : (w3.setCell ⟨w1.heap.size, 2, none⟩ (.int .i64 yf)).heap[w1.heap.size]? = some (.cells #[.int .i64 yp, .int .i64 ye, .int .i64 yf, .slice none 0 0] (46 : TypeId) (0, 0)) := heap_setCell_same _ (w1.heap.size) 2 _ (46 : TypeId) (.int .i64 yf) hG1
  have h0_2 : (w3.setCell ⟨w1.heap.size, 2, none⟩ (.int .i64 yf)).heap[w.heap.size]? = some (.cells #[.int .i64 0, .int .i64 0, .int .i64 0, .slice none 0 0] (46 : TypeId) (0, 0)) := (Below.heap_setCell _ _ _ _ (Nat.ne_of_lt hne)).trans hG0
  replace hA := hA.beside (S := (46 : TypeId)) (by decide) (Kt.set (i := 2) hG1 (.int .i64 yf)) ((Below.refl w.heap.size w3).setCell hlB (.int .i64 yf)) hRl
  obtain ⟨V2, HV2⟩ : ∃ V, Hid (V = w3.setCell ⟨w1.heap.size, 2, none⟩ (.int .i64 yf)) := ⟨_, hide rfl⟩
  rw [← HV2.out] at hA h0_2 s2
  have HX := hide hA
  have HY := hide h0_2
  have HZ := hide s2
  clear hA h0_2 hG1 hG0 s2
  have hA := HX.out
  have hG0 := HY.out
  have hG1 := HZ.out
  clear HX HY HZ
  have HC := hide (trecords_any hA.tq)
  go_wp2_with fail
  rw [← HV2.out]
  refine HC.out.mono ?_
  rintro e w4 ⟨yla, yln, ylc, rfl, l4, b4, hB⟩
  clear HC
  have hG0 := hB.kt.block _ _ _ _ hG0 (by decide)
  have hG1 := hB.kt.block _ _ _ _ hG1 (by decide)
  replace hA := hA.step hB (by decide)
  clear hB
  have c3_0 := (row_at hG1 3 (.slice none 0 0) rfl).1
  have f3_0 := (row_at hG1 3 (.slice none 0 0) rfl).2
  have s3 : (w4.setCell ⟨w1.heap.size, 3, none⟩ (.slice yla yln ylc)).heap[w1.heap.size]? = some (.cells #[.int .i64 yp, .int .i64 ye, .int .i64 yf, .slice yla yln ylc] (46 : TypeId) (0, 0)) := heap_setCell_same _ (w1.heap.size) 3 _ (46 : TypeId) (.slice yla yln ylc) hG1
  have h0_3 : (w4.setCell ⟨w1.heap.size, 3, none⟩ (.slice yla yln ylc)).heap[w.heap.size]? = some (.cells #[.int .i64 0, .int .i64 0, .int .i64 0, .slice none 0 0] (46 : TypeId) (0, 0)) := (Below.heap_setCell _ _ _ _ (Nat.ne_of_lt hne)).trans hG0
  replace hA := hA.beside (S := (46 : TypeId)) (by decide) (Kt.set (i := 3) hG1 (.slice yla yln ylc)) ((Below.refl w.heap.size w4).setCell hlB (.slice yla yln ylc)) hRl
  obtain ⟨V3, HV3⟩ : ∃ V, Hid (V = w4.setCell ⟨w1.heap.size, 3, none⟩ (.slice yla yln ylc)) := ⟨_, hide rfl⟩
  rw [← HV3.out] at hA h0_3 s3
  have HX := hide hA
  have HY := hide h0_3
  have HZ := hide s3
  clear hA h0_3 hG1 hG0 s3
  have hA := HX.out
  have hG0 := HY.out
  have hG1 := HZ.out
  clear HX HY HZ
  have hF : Aq Cod.batch (fun V q => LBatch V q [.int .i64 yp, .int .i64 ye, .int .i64 yf, .slice yla yln ylc]) [(32 : TypeId), (5 : TypeId)] 14 Wb R l bad l4 b4 w V3 := (hA.assoc.assoc).iso (f := _) (g := _) (fun _ => rfl) (fun q hq => by obtain ⟨⟨⟨h0, h1⟩, h2⟩, h3⟩ := hq; exact ⟨_, _, rfl, h0, _, _, rfl, h1, _, _, rfl, h2, h3⟩) LBatch.k
  have hF2 := hF.beside (S := (46 : TypeId)) (by decide) (Kt.row1 (cs := #[.int .i64 yp, .int .i64 ye, .int .i64 yf, .slice yla yln ylc]) hG0) (below_setRow (Below.refl _ _) (Nat.le_refl _) _) hRl
  have hR : (V3.setRow w.heap.size #[.int .i64 yp, .int .i64 ye, .int .i64 yf, .slice yla yln ylc]).heap[w.heap.size]? = some (.cells #[.int .i64 yp, .int .i64 ye, .int .i64 yf, .slice yla yln ylc] (46 : TypeId) (0, 0)) := setRow_heap V3 w.heap.size _ _ (46 : TypeId) _ hG0
  have HF := hide hF2
  have HR := hide hR
  have HG0 := hide hG0
  have HG1 := hide hG1
  clear hF hF2 hR hG0 hG1 hA
  have HGX : Hid (w4.setCell ⟨w1.heap.size, 3, none⟩ (.slice yla yln ylc) = V3) := hide HV3.out.symm
  go_wp2_with (first | (rw [HGX.out]; refine wpList_load_row rfl (46 : TypeId) _ rfl w1.heap.size rfl (46 : TypeId) _ (0, 0) _ HG1.out Tryz.underlying46 rfl (by kernel_rfl) ?_) | (refine wpList_store_row rfl (46 : TypeId) _ _ rfl w.heap.size #[.int .i64 yp, .int .i64 ye, .int .i64 yf, .slice yla yln ylc] rfl rfl (46 : TypeId) _ HG0.out (by kernel_rfl) rfl (by simp [Value.oneCell']) ?_))
  refine bodyPost_ret (v := .agg #[.int .i64 yp, .int .i64 ye, .int .i64 yf, .slice yla yln ylc]) (results_cell_row Tryz.results55 _ _ w.heap.size (46 : TypeId) _ (0, 0) _ rfl HR.out Tryz.underlying46 rfl (by kernel_rfl)) rfl ?_
  exact ⟨_, _, _, _, _, _, rfl, l4, b4, HF.out⟩

end

end Go.Proofs.YtnimfkcnkkjlkaaGreat

/-
  The document's reader: commands of the metadata, its answers.
-/
namespace Go.Proofs.YtnimfkcnkkjlkaaGreat
open Go.RowKit
set_option maxRecDepth 100000
set_option linter.unusedVariables false

section
variable {Wb w w' w0 w1 w2 : World} {R n cap : Nat} {l l' l1 l2 zs : List Int} {bad bad' b1 b2 : Bool}

/-- What is read. -/
def QMetaC (Wb : World) (R : Nat) (l : List Int) (bad : Bool) (w : World) (e : Ending) (w' : World) : Prop :=
  ∃ (yk : Int) (yg : ByteArray) (ym : ByteArray) (yn : Int) (yla : Option Addr) (yln ylc : Nat) (yqt : ByteArray) (yqp : Int) (yo : Int) (yu : Int) (yc : Int) (ya : Int), e = .returned (.agg #[.int .u8 yk, .string yg, .string ym, .int .i64 yn, .slice yla yln ylc, .string yqt, .int .i64 yqp, .int .i64 yo, .int .i64 yu, .int .i64 yc, .int .i64 ya]) ∧ Rq Cod.meta' LMetaC [(9 : TypeId)] 22 [.int .u8 yk, .string yg, .string ym, .int .i64 yn, .slice yla yln ylc, .string yqt, .int .i64 yqp, .int .i64 yo, .int .i64 yu, .int .i64 yc, .int .i64 ya] Wb R l bad w w'

set_option maxHeartbeats 40000000 in
theorem tmeta_any (h : Tq Wb R l bad w) : Calls Tryz.prog 62 #[.pointer (some ⟨R, 0, none⟩)] w (QMetaC Wb R l bad w) := by
  have hRl := h.lt
  obtain ⟨W0, HW0⟩ : ∃ W0, Hid (W0 = w.alloc (.cells #[.int .u8 0, .string ⟨#[]⟩, .string ⟨#[]⟩, .int .i64 0, .slice none 0 0, .string ⟨#[]⟩, .int .i64 0, .int .i64 0, .int .i64 0, .int .i64 0, .int .i64 0] (57 : TypeId))) := ⟨_, hide rfl⟩
  have hb0 : Below w.heap.size w W0 := by rw [HW0.out]; exact fresh w _
  have hG0 : W0.heap[w.heap.size]? = some (.cells #[.int .u8 0, .string ⟨#[]⟩, .string ⟨#[]⟩, .int .i64 0, .slice none 0 0, .string ⟨#[]⟩, .int .i64 0, .int .i64 0, .int .i64 0, .int .i64 0, .int .i64 0] (57 : TypeId) (0, 0)) := by rw [HW0.out]; exact heap_alloc_new w _
  have HC := hide (tnum_any (h.keep hb0 hRl))
  clear h
  go_enter Tryz.func62, Tryz.ntmps62
  go_wp2_with fail
  rw [← HW0.out]
  refine HC.out.mono ?_
  rintro e w1 ⟨yk, rfl, hI1, l1, b1, hB⟩
  clear HC
  replace hB := hB.u8
  have hG0 := hB.kt.block _ _ _ _ hG0 (by decide)
  have hA := hB.first hb0
  clear hB
  obtain ⟨V0, HV0⟩ : ∃ V, Hid (V = w1.alloc (.cells #[.int .u8 (yk % 256), .string ⟨#[]⟩, .string ⟨#[]⟩, .int .i64 0, .slice none 0 0, .string ⟨#[]⟩, .int .i64 0, .int .i64 0, .int .i64 0, .int .i64 0, .int .i64 0] (57 : TypeId))) := ⟨_, hide rfl⟩
  have hbx : Below w1.heap.size w1 V0 := by rw [HV0.out]; exact fresh w1 _
  have hG1 : V0.heap[w1.heap.size]? = some (.cells #[.int .u8 (yk % 256), .string ⟨#[]⟩, .string ⟨#[]⟩, .int .i64 0, .slice none 0 0, .string ⟨#[]⟩, .int .i64 0, .int .i64 0, .int .i64 0, .int .i64 0, .int .i64 0] (57 : TypeId) (0, 0)) := by rw [HV0.out]; exact heap_alloc_new w1 _
  have hne : w.heap.size < w1.heap.size := hp_lt hG0
  replace hG0 := (hbx.block _ (hp_lt hG0)).trans hG0
  have hlB : w.heap.size ≤ w1.heap.size := hA.kt.size
  replace hA := hA.beside (S := (57 : TypeId)) (by decide) (Kt.of_below hbx) (hbx.mono hA.kt.size) hRl
  clear hbx
  have HC := hide (ttext_any hA.tq)
  go_wp2_with fail
  rw [← HV0.out]
  refine HC.out.mono ?_
  rintro e w2 ⟨yg, rfl, l2, b2, hB⟩
  clear HC
  have hG0 := hB.kt.block _ _ _ _ hG0 (by decide)
  have hG1 := hB.kt.block _ _ _ _ hG1 (by decide)
  replace hA := hA.step hB (by decide)
  clear hB
  have c1_0 := (row_at hG1 1 (.string ⟨#[]⟩) rfl).1
  have f1_0 := (row_at hG1 1 (.string ⟨#[]⟩) rfl).2
  have s1 : (w2.setCell ⟨w1.heap.size, 1, none⟩ (.string yg)).heap[w1.heap.size]? = some (.cells #[.int .u8 (yk % 256), .string yg, .string ⟨#[]⟩, .int .i64 0, .slice none 0 0, .string ⟨#[]⟩, .int .i64 0, .int .i64 0, .int .i64 0, .int .i64 0, .int .i64 0] (57 : TypeId) (0, 0)) := heap_setCell_same _ (w1.heap.size) 1 _ (57 : TypeId) (.string yg) hG1
  have h0_1 : (w2.setCell ⟨w1.heap.size, 1, none⟩ (.string yg)).heap[w.heap.size]? = some (.cells #[.int .u8 0, .string ⟨#[]⟩, .string ⟨#[]⟩, .int .i64 0, .slice none 0 0, .string ⟨#[]⟩, .int .i64 0, .int .i64 0, .int .i64 0, .int .i64 0, .int .i64 0] (57 : TypeId) (0, 0)) := (Below.heap_setCell _ _ _ _ (Nat.ne_of_lt hne)).trans hG0
  replace hA := hA.beside (S := (57 : TypeId)) (by decide) (Kt.set (i := 1) hG1 (.string yg)) ((Below.refl w.heap.size w2).setCell hlB (.string yg)) hRl
  obtain ⟨V1, HV1⟩ : ∃ V, Hid (V = w2.setCell ⟨w1.heap.size, 1, none⟩ (.string yg)) := ⟨_, hide rfl⟩
  rw [← HV1.out] at hA h0_1 s1
  have HX := hide hA
  have HY := hide h0_1
  have HZ := hide s1
  clear hA h0_1 hG1 hG0 s1
  have hA := HX.out
  have hG0 := HY.out
  have hG1 := HZ.out
  clear HX HY HZ
  have HC := hide (ttext_any hA.tq)
  go_wp2_with fail
  rw [← HV1.out]
  refine HC.out.mono ?_
  rintro e w3 ⟨ym, rfl, l3, b3, hB⟩
  clear HC
  have hG0 := hB.kt.block _ _ _ _ hG0 (by decide)
  have hG1 := hB.kt.block _ _ _ _ hG1 (by decide)
  replace hA := hA.step hB (by decide)
  clear hB
  have c2_0 := (row_at hG1 2 (.string ⟨#[]⟩) rfl).1
  have f2_0 := (row_at hG1 2 (.string ⟨#[]⟩) rfl).2
  have s2 : (w3.setCell ⟨w1.heap.size, 2, none⟩ (.string ym)).heap[w1.heap.size]? = some (.cells #[.int .u8 (yk % 256), .string yg, .string ym, .int .i64 0, .slice none 0 0, .string ⟨#[]⟩, .int .i64 0, .int .i64 0, .int .i64 0, .int .i64 0, .int .i64 0] (57 : TypeId) (0, 0)) := heap_setCell_same _ (w1.heap.size) 2 _ (57 : TypeId) (.string ym) hG1
  have h0_2 : (w3.setCell ⟨w1.heap.size, 2, none⟩ (.string ym)).heap[w.heap.size]? = some (.cells #[.int .u8 0, .string ⟨#[]⟩, .string ⟨#[]⟩, .int .i64 0, .slice none 0 0, .string ⟨#[]⟩, .int .i64 0, .int .i64 0, .int .i64 0, .int .i64 0, .int .i64 0] (57 : TypeId) (0, 0)) := (Below.heap_setCell _ _ _ _ (Nat.ne_of_lt hne)).trans hG0
  replace hA := hA.beside (S := (57 : TypeId)) (by decide) (Kt.set (i := 2) hG1 (.string ym)) ((Below.refl w.heap.size w3).setCell hlB (.string ym)) hRl
  obtain ⟨V2, HV2⟩ : ∃ V, Hid (V = w3.setCell ⟨w1.heap.size, 2, none⟩ (.string ym)) := ⟨_, hide rfl⟩
  rw [← HV2.out] at hA h0_2 s2
  have HX := hide hA
  have HY := hide h0_2
  have HZ := hide s2
  clear hA h0_2 hG1 hG0 s2
  have hA := HX.out
  have hG0 := HY.out
  have hG1 := HZ.out
  clear HX HY HZ
  have HC := hide (tnum_any hA.tq)
  go_wp2_with fail
  rw [← HV2.out]
  refine HC.out.mono ?_
  rintro e w4 ⟨yn, rfl, hI4, l4, b4, hB⟩
  clear HC
  have hG0 := hB.kt.block _ _ _ _ hG0 (by decide)
  have hG1 := hB.kt.block _ _ _ _ hG1 (by decide)
  replace hA := hA.step hB (by decide)
  clear hB
  have c3_0 := (row_at hG1 3 (.int .i64 0) rfl).1
  have f3_0 := (row_at hG1 3 (.int .i64 0) rfl).2
  have s3 : (w4.setCell ⟨w1.heap.size, 3, none⟩ (.int .i64 yn)).heap[w1.heap.size]? = some (.cells #[.int .u8 (yk % 256), .string yg, .string ym, .int .i64 yn, .slice none 0 0, .string ⟨#[]⟩, .int .i64 0, .int .i64 0, .int .i64 0, .int .i64 0, .int .i64 0] (57 : TypeId) (0, 0)) := heap_setCell_same _ (w1.heap.size) 3 _ (57 : TypeId) (.int .i64 yn) hG1
  have h0_3 : (w4.setCell ⟨w1.heap.size, 3, none⟩ (.int .i64 yn)).heap[w.heap.size]? = some (.cells #[.int .u8 0, .string ⟨#[]⟩, .string ⟨#[]⟩, .int .i64 0, .slice none 0 0, .string ⟨#[]⟩, .int .i64 0, .int .i64 0, .int .i64 0, .int .i64 0, .int .i64 0] (57 : TypeId) (0, 0)) := (Below.heap_setCell _ _ _ _ (Nat.ne_of_lt hne)).trans hG0
  replace hA := hA.beside (S := (57 : TypeId)) (by decide) (Kt.set (i := 3) hG1 (.int .i64 yn)) ((Below.refl w.heap.size w4).setCell hlB (.int .i64 yn)) hRl
  obtain ⟨V3, HV3⟩ : ∃ V, Hid (V = w4.setCell ⟨w1.heap.size, 3, none⟩ (.int .i64 yn)) := ⟨_, hide rfl⟩
  rw [← HV3.out] at hA h0_3 s3
  have HX := hide hA
  have HY := hide h0_3
  have HZ := hide s3
  clear hA h0_3 hG1 hG0 s3
  have hA := HX.out
  have hG0 := HY.out
  have hG1 := HZ.out
  clear HX HY HZ
  have HC := hide (ttexts_any hA.tq)
  go_wp2_with fail
  rw [← HV3.out]
  refine HC.out.mono ?_
  rintro e w5 ⟨yla, yln, ylc, rfl, l5, b5, hB⟩
  clear HC
  have hG0 := hB.kt.block _ _ _ _ hG0 (by decide)
  have hG1 := hB.kt.block _ _ _ _ hG1 (by decide)
  replace hA := hA.step hB (by decide)
  clear hB
  have c4_0 := (row_at hG1 4 (.slice none 0 0) rfl).1
  have f4_0 := (row_at hG1 4 (.slice none 0 0) rfl).2
  have s4 : (w5.setCell ⟨w1.heap.size, 4, none⟩ (.slice yla yln ylc)).heap[w1.heap.size]? = some (.cells #[.int .u8 (yk % 256), .string yg, .string ym, .int .i64 yn, .slice yla yln ylc, .string ⟨#[]⟩, .int .i64 0, .int .i64 0, .int .i64 0, .int .i64 0, .int .i64 0] (57 : TypeId) (0, 0)) := heap_setCell_same _ (w1.heap.size) 4 _ (57 : TypeId) (.slice yla yln ylc) hG1
  have h0_4 : (w5.setCell ⟨w1.heap.size, 4, none⟩ (.slice yla yln ylc)).heap[w.heap.size]? = some (.cells #[.int .u8 0, .string ⟨#[]⟩, .string ⟨#[]⟩, .int .i64 0, .slice none 0 0, .string ⟨#[]⟩, .int .i64 0, .int .i64 0, .int .i64 0, .int .i64 0, .int .i64 0] (57 : TypeId) (0, 0)) := (Below.heap_setCell _ _ _ _ (Nat.ne_of_lt hne)).trans hG0
  replace hA := hA.beside (S := (57 : TypeId)) (by decide) (Kt.set (i := 4) hG1 (.slice yla yln ylc)) ((Below.refl w.heap.size w5).setCell hlB (.slice yla yln ylc)) hRl
  obtain ⟨V4, HV4⟩ : ∃ V, Hid (V = w5.setCell ⟨w1.heap.size, 4, none⟩ (.slice yla yln ylc)) := ⟨_, hide rfl⟩
  rw [← HV4.out] at hA h0_4 s4
  have HX := hide hA
  have HY := hide h0_4
  have HZ := hide s4
  clear hA h0_4 hG1 hG0 s4
  have hA := HX.out
  have hG0 := HY.out
  have hG1 := HZ.out
  clear HX HY HZ
  have HC := hide (tplace_any hA.tq)
  go_wp2_with fail
  rw [← HV4.out]
  refine HC.out.mono ?_
  rintro e w6 ⟨yqt, yqp, rfl, l6, b6, hB⟩
  clear HC
  have hG0 := hB.kt.block _ _ _ _ hG0 (by decide)
  have hG1 := hB.kt.block _ _ _ _ hG1 (by decide)
  replace hA := hA.step hB (by decide)
  clear hB
  have HTH := hide (there_row hG1 5 2 (by simp))
  have s5 : (w6.setCells w1.heap.size 5 [.string yqt, .int .i64 yqp]).heap[w1.heap.size]? = some (.cells #[.int .u8 (yk % 256), .string yg, .string ym, .int .i64 yn, .slice yla yln ylc, .string yqt, .int .i64 yqp, .int .i64 0, .int .i64 0, .int .i64 0, .int .i64 0] (57 : TypeId) (0, 0)) := row_setCells [.string yqt, .int .i64 yqp] 5 _ _ hG1
  have h0_5 : (w6.setCells w1.heap.size 5 [.string yqt, .int .i64 yqp]).heap[w.heap.size]? = some (.cells #[.int .u8 0, .string ⟨#[]⟩, .string ⟨#[]⟩, .int .i64 0, .slice none 0 0, .string ⟨#[]⟩, .int .i64 0, .int .i64 0, .int .i64 0, .int .i64 0, .int .i64 0] (57 : TypeId) (0, 0)) := (other_setCells (Nat.ne_of_lt hne) [.string yqt, .int .i64 yqp] 5 _).trans hG0
  replace hA := hA.beside (S := (57 : TypeId)) (by decide) (kt_setCells [.string yqt, .int .i64 yqp] 5 _ _ hG1) (below_setCells hlB [.string yqt, .int .i64 yqp] 5 _ _ (Below.refl w.heap.size w6)) hRl
  obtain ⟨V5, HV5⟩ : ∃ V, Hid (V = w6.setCells w1.heap.size 5 [.string yqt, .int .i64 yqp]) := ⟨_, hide rfl⟩
  rw [← HV5.out] at hA h0_5 s5
  have HX := hide hA
  have HY := hide h0_5
  have HZ := hide s5
  clear hA h0_5 hG1 hG0 s5
  have hA := HX.out
  have hG0 := HY.out
  have hG1 := HZ.out
  clear HX HY HZ
  have HC := hide (tnum_any hA.tq)
  go_wp2_with (refine wpList_store_mid rfl (55 : TypeId) _ _ rfl w1.heap.size 5 #[.string yqt, .int .i64 yqp] rfl rfl HTH.out (by kernel_rfl) (by simp [Value.oneCell']) ?_)
  rw [← HV5.out]
  refine HC.out.mono ?_
  rintro e w7 ⟨yo, rfl, hI7, l7, b7, hB⟩
  clear HC
  have hG0 := hB.kt.block _ _ _ _ hG0 (by decide)
  have hG1 := hB.kt.block _ _ _ _ hG1 (by decide)
  replace hA := hA.step hB (by decide)
  clear hB
  have c6_0 := (row_at hG1 7 (.int .i64 0) rfl).1
  have f6_0 := (row_at hG1 7 (.int .i64 0) rfl).2
  have s6 : (w7.setCell ⟨w1.heap.size, 7, none⟩ (.int .i64 yo)).heap[w1.heap.size]? = some (.cells #[.int .u8 (yk % 256), .string yg, .string ym, .int .i64 yn, .slice yla yln ylc, .string yqt, .int .i64 yqp, .int .i64 yo, .int .i64 0, .int .i64 0, .int .i64 0] (57 : TypeId) (0, 0)) := heap_setCell_same _ (w1.heap.size) 7 _ (57 : TypeId) (.int .i64 yo) hG1
  have h0_6 : (w7.setCell ⟨w1.heap.size, 7, none⟩ (.int .i64 yo)).heap[w.heap.size]? = some (.cells #[.int .u8 0, .string ⟨#[]⟩, .string ⟨#[]⟩, .int .i64 0, .slice none 0 0, .string ⟨#[]⟩, .int .i64 0, .int .i64 0, .int .i64 0, .int .i64 0, .int .i64 0] (57 : TypeId) (0, 0)) := (Below.heap_setCell _ _ _ _ (Nat.ne_of_lt hne)).trans hG0
  replace hA := hA.beside (S := (57 : TypeId)) (by decide) (Kt.set (i := 7) hG1 (.int .i64 yo)) ((Below.refl w.heap.size w7).setCell hlB (.int .i64 yo)) hRl
  obtain ⟨V6, HV6⟩ : ∃ V, Hid (V = w7.setCell ⟨w1.heap.size, 7, none⟩ (.int .i64 yo)) := ⟨_, hide rfl⟩
  rw [← HV6.out] at hA h0_6 s6
  have HX := hide hA
  have HY := hide h0_6
  have HZ := hide s6
  clear hA h0_6 hG1 hG0 s6
  have hA := HX.out
  have hG0 := HY.out
  have hG1 := HZ.out
  clear HX HY HZ
  have HC := hide (tnum_any hA.tq)
  go_wp2_with fail
  rw [← HV6.out]
  refine HC.out.mono ?_
  rintro e w8 ⟨yu, rfl, hI8, l8, b8, hB⟩
  clear HC
  have hG0 := hB.kt.block _ _ _ _ hG0 (by decide)
  have hG1 := hB.kt.block _ _ _ _ hG1 (by decide)
  replace hA := hA.step hB (by decide)
  clear hB
  have c7_0 := (row_at hG1 8 (.int .i64 0) rfl).1
  have f7_0 := (row_at hG1 8 (.int .i64 0) rfl).2
  have s7 : (w8.setCell ⟨w1.heap.size, 8, none⟩ (.int .i64 yu)).heap[w1.heap.size]? = some (.cells #[.int .u8 (yk % 256), .string yg, .string ym, .int .i64 yn, .slice yla yln ylc, .string yqt, .int .i64 yqp, .int .i64 yo, .int .i64 yu, .int .i64 0, .int .i64 0] (57 : TypeId) (0, 0)) := heap_setCell_same _ (w1.heap.size) 8 _ (57 : TypeId) (.int .i64 yu) hG1
  have h0_7 : (w8.setCell ⟨w1.heap.size, 8, none⟩ (.int .i64 yu)).heap[w.heap.size]? = some (.cells #[.int .u8 0, .string ⟨#[]⟩, .string ⟨#[]⟩, .int .i64 0, .slice none 0 0, .string ⟨#[]⟩, .int .i64 0, .int .i64 0, .int .i64 0, .int .i64 0, .int .i64 0] (57 : TypeId) (0, 0)) := (Below.heap_setCell _ _ _ _ (Nat.ne_of_lt hne)).trans hG0
  replace hA := hA.beside (S := (57 : TypeId)) (by decide) (Kt.set (i := 8) hG1 (.int .i64 yu)) ((Below.refl w.heap.size w8).setCell hlB (.int .i64 yu)) hRl
  obtain ⟨V7, HV7⟩ : ∃ V, Hid (V = w8.setCell ⟨w1.heap.size, 8, none⟩ (.int .i64 yu)) := ⟨_, hide rfl⟩
  rw [← HV7.out] at hA h0_7 s7
  have HX := hide hA
  have HY := hide h0_7
  have HZ := hide s7
  clear hA h0_7 hG1 hG0 s7
  have hA := HX.out
  have hG0 := HY.out
  have hG1 := HZ.out
  clear HX HY HZ
  have HC := hide (tnum_any hA.tq)
  go_wp2_with fail
  rw [← HV7.out]
  refine HC.out.mono ?_
  rintro e w9 ⟨yc, rfl, hI9, l9, b9, hB⟩
  clear HC
  have hG0 := hB.kt.block _ _ _ _ hG0 (by decide)
  have hG1 := hB.kt.block _ _ _ _ hG1 (by decide)
  replace hA := hA.step hB (by decide)
  clear hB
  have c8_0 := (row_at hG1 9 (.int .i64 0) rfl).1
  have f8_0 := (row_at hG1 9 (.int .i64 0) rfl).2
  have s8 : (w9.setCell ⟨w1.heap.size, 9, none⟩ (.int .i64 yc)).heap[w1.heap.size]? = some (.cells #[.int .u8 (yk % 256), .string yg, .string ym, .int .i64 yn, .slice yla yln ylc, .string yqt, .int .i64 yqp, .int .i64 yo, .int .i64 yu, .int .i64 yc, .int .i64 0] (57 : TypeId) (0, 0)) := heap_setCell_same _ (w1.heap.size) 9 _ (57 : TypeId) (.int .i64 yc) hG1
  have h0_8 : (w9.setCell ⟨w1.heap.size, 9, none⟩ (.int .i64 yc)).heap[w.heap.size]? = some (.cells #[.int .u8 0, .string ⟨#[]⟩, .string ⟨#[]⟩, .int .i64 0, .slice none 0 0, .string ⟨#[]⟩, .int .i64 0, .int .i64 0, .int .i64 0, .int .i64 0, .int .i64 0] (57 : TypeId) (0, 0)) := (Below.heap_setCell _ _ _ _ (Nat.ne_of_lt hne)).trans hG0
  replace hA := hA.beside (S := (57 : TypeId)) (by decide) (Kt.set (i := 9) hG1 (.int .i64 yc)) ((Below.refl w.heap.size w9).setCell hlB (.int .i64 yc)) hRl
  obtain ⟨V8, HV8⟩ : ∃ V, Hid (V = w9.setCell ⟨w1.heap.size, 9, none⟩ (.int .i64 yc)) := ⟨_, hide rfl⟩
  rw [← HV8.out] at hA h0_8 s8
  have HX := hide hA
  have HY := hide h0_8
  have HZ := hide s8
  clear hA h0_8 hG1 hG0 s8
  have hA := HX.out
  have hG0 := HY.out
  have hG1 := HZ.out
  clear HX HY HZ
  have HC := hide (tnum_any hA.tq)
  go_wp2_with fail
  rw [← HV8.out]
  refine HC.out.mono ?_
  rintro e w10 ⟨ya, rfl, hI10, l10, b10, hB⟩
  clear HC
  have hG0 := hB.kt.block _ _ _ _ hG0 (by decide)
  have hG1 := hB.kt.block _ _ _ _ hG1 (by decide)
  replace hA := hA.step hB (by decide)
  clear hB
  have c9_0 := (row_at hG1 10 (.int .i64 0) rfl).1
  have f9_0 := (row_at hG1 10 (.int .i64 0) rfl).2
  have s9 : (w10.setCell ⟨w1.heap.size, 10, none⟩ (.int .i64 ya)).heap[w1.heap.size]? = some (.cells #[.int .u8 (yk % 256), .string yg, .string ym, .int .i64 yn, .slice yla yln ylc, .string yqt, .int .i64 yqp, .int .i64 yo, .int .i64 yu, .int .i64 yc, .int .i64 ya] (57 : TypeId) (0, 0)) := heap_setCell_same _ (w1.heap.size) 10 _ (57 : TypeId) (.int .i64 ya) hG1
  have h0_9 : (w10.setCell ⟨w1.heap.size, 10, none⟩ (.int .i64 ya)).heap[w.heap.size]? = some (.cells #[.int .u8 0, .string ⟨#[]⟩, .string ⟨#[]⟩, .int .i64 0, .slice none 0 0, .string ⟨#[]⟩, .int .i64 0, .int .i64 0, .int .i64 0, .int .i64 0, .int .i64 0] (57 : TypeId) (0, 0)) := (Below.heap_setCell _ _ _ _ (Nat.ne_of_lt hne)).trans hG0
  replace hA := hA.beside (S := (57 : TypeId)) (by decide) (Kt.set (i := 10) hG1 (.int .i64 ya)) ((Below.refl w.heap.size w10).setCell hlB (.int .i64 ya)) hRl
  obtain ⟨V9, HV9⟩ : ∃ V, Hid (V = w10.setCell ⟨w1.heap.size, 10, none⟩ (.int .i64 ya)) := ⟨_, hide rfl⟩
  rw [← HV9.out] at hA h0_9 s9
  have HX := hide hA
  have HY := hide h0_9
  have HZ := hide s9
  clear hA h0_9 hG1 hG0 s9
  have hA := HX.out
  have hG0 := HY.out
  have hG1 := HZ.out
  clear HX HY HZ
  have hF : Aq Cod.meta' (fun V q => LMetaC V q [.int .u8 (yk % 256), .string yg, .string ym, .int .i64 yn, .slice yla yln ylc, .string yqt, .int .i64 yqp, .int .i64 yo, .int .i64 yu, .int .i64 yc, .int .i64 ya]) [(9 : TypeId)] 22 Wb R l bad l10 b10 w V9 := (hA.assoc.assoc.assoc.assoc.assoc.assoc.assoc.assoc).iso (f := _) (g := _) (fun _ => rfl) (fun q hq => by obtain ⟨⟨⟨⟨⟨⟨⟨⟨⟨h0, h1⟩, h2⟩, h3⟩, h4⟩, h5⟩, h6⟩, h7⟩, h8⟩, h9⟩ := hq; exact ⟨_, _, rfl, h0, _, _, rfl, h1, _, _, rfl, h2, _, _, rfl, h3, _, _, rfl, h4, _, _, rfl, h5, _, _, rfl, h6, _, _, rfl, h7, _, _, rfl, h8, h9⟩) LMetaC.k
  have hF2 := hF.beside (S := (57 : TypeId)) (by decide) (Kt.row1 (cs := #[.int .u8 (yk % 256), .string yg, .string ym, .int .i64 yn, .slice yla yln ylc, .string yqt, .int .i64 yqp, .int .i64 yo, .int .i64 yu, .int .i64 yc, .int .i64 ya]) hG0) (below_setRow (Below.refl _ _) (Nat.le_refl _) _) hRl
  have hR : (V9.setRow w.heap.size #[.int .u8 (yk % 256), .string yg, .string ym, .int .i64 yn, .slice yla yln ylc, .string yqt, .int .i64 yqp, .int .i64 yo, .int .i64 yu, .int .i64 yc, .int .i64 ya]).heap[w.heap.size]? = some (.cells #[.int .u8 (yk % 256), .string yg, .string ym, .int .i64 yn, .slice yla yln ylc, .string yqt, .int .i64 yqp, .int .i64 yo, .int .i64 yu, .int .i64 yc, .int .i64 ya] (57 : TypeId) (0, 0)) := setRow_heap V9 w.heap.size _ _ (57 : TypeId) _ hG0
  have HF := hide hF2
  have HR := hide hR
  have HG0 := hide hG0
  have HG1 := hide hG1
  clear hF hF2 hR hG0 hG1 hA
  have HGX : Hid (w10.setCell ⟨w1.heap.size, 10, none⟩ (.int .i64 ya) = V9) := hide HV9.out.symm
  go_wp2_with (first | (rw [HGX.out]; refine wpList_load_row rfl (57 : TypeId) _ rfl w1.heap.size rfl (57 : TypeId) _ (0, 0) _ HG1.out Tryz.underlying57 rfl (by kernel_rfl) ?_) | (refine wpList_store_row rfl (57 : TypeId) _ _ rfl w.heap.size #[.int .u8 (yk % 256), .string yg, .string ym, .int .i64 yn, .slice yla yln ylc, .string yqt, .int .i64 yqp, .int .i64 yo, .int .i64 yu, .int .i64 yc, .int .i64 ya] rfl rfl (57 : TypeId) _ HG0.out (by kernel_rfl) rfl (by simp [Value.oneCell']) ?_))
  refine bodyPost_ret (v := .agg #[.int .u8 (yk % 256), .string yg, .string ym, .int .i64 yn, .slice yla yln ylc, .string yqt, .int .i64 yqp, .int .i64 yo, .int .i64 yu, .int .i64 yc, .int .i64 ya]) (results_cell_row Tryz.results62 _ _ w.heap.size (57 : TypeId) _ (0, 0) _ rfl HR.out Tryz.underlying57 rfl (by kernel_rfl)) rfl ?_
  exact ⟨_, _, _, _, _, _, _, _, _, _, _, _, _, rfl, l10, b10, HF.out⟩

/-- What is read. -/
def QAnswer (Wb : World) (R : Nat) (l : List Int) (bad : Bool) (w : World) (e : Ending) (w' : World) : Prop :=
  ∃ (yr : Int) (yp : Int) (ye : Int) (yn : Int) (yk : Int) (yla : Option Addr) (yln ylc : Nat), e = .returned (.agg #[.int .i64 yr, .int .i64 yp, .int .i64 ye, .int .i64 yn, .int .u8 yk, .slice yla yln ylc]) ∧ Rq Cod.answer LAnswer [(55 : TypeId)] 18 [.int .i64 yr, .int .i64 yp, .int .i64 ye, .int .i64 yn, .int .u8 yk, .slice yla yln ylc] Wb R l bad w w'

set_option maxHeartbeats 40000000 in
theorem tanswer_any (h : Tq Wb R l bad w) : Calls Tryz.prog 75 #[.pointer (some ⟨R, 0, none⟩)] w (QAnswer Wb R l bad w) := by
  have hRl := h.lt
  obtain ⟨W0, HW0⟩ : ∃ W0, Hid (W0 = w.alloc (.cells #[.int .i64 0, .int .i64 0, .int .i64 0, .int .i64 0, .int .u8 0, .slice none 0 0] (70 : TypeId))) := ⟨_, hide rfl⟩
  have hb0 : Below w.heap.size w W0 := by rw [HW0.out]; exact fresh w _
  have hG0 : W0.heap[w.heap.size]? = some (.cells #[.int .i64 0, .int .i64 0, .int .i64 0, .int .i64 0, .int .u8 0, .slice none 0 0] (70 : TypeId) (0, 0)) := by rw [HW0.out]; exact heap_alloc_new w _
  have HC := hide (tnum_any (h.keep hb0 hRl))
  clear h
  go_enter Tryz.func75, Tryz.ntmps75
  go_wp2_with fail
  rw [← HW0.out]
  refine HC.out.mono ?_
  rintro e w1 ⟨yr, rfl, hI1, l1, b1, hB⟩
  clear HC
  have hG0 := hB.kt.block _ _ _ _ hG0 (by decide)
  have hA := hB.first hb0
  clear hB
  obtain ⟨V0, HV0⟩ : ∃ V, Hid (V = w1.alloc (.cells #[.int .i64 yr, .int .i64 0, .int .i64 0, .int .i64 0, .int .u8 0, .slice none 0 0] (70 : TypeId))) := ⟨_, hide rfl⟩
  have hbx : Below w1.heap.size w1 V0 := by rw [HV0.out]; exact fresh w1 _
  have hG1 : V0.heap[w1.heap.size]? = some (.cells #[.int .i64 yr, .int .i64 0, .int .i64 0, .int .i64 0, .int .u8 0, .slice none 0 0] (70 : TypeId) (0, 0)) := by rw [HV0.out]; exact heap_alloc_new w1 _
  have hne : w.heap.size < w1.heap.size := hp_lt hG0
  replace hG0 := (hbx.block _ (hp_lt hG0)).trans hG0
  have hlB : w.heap.size ≤ w1.heap.size := hA.kt.size
  replace hA := hA.beside (S := (70 : TypeId)) (by decide) (Kt.of_below hbx) (hbx.mono hA.kt.size) hRl
  clear hbx
  have HC := hide (tnum_any hA.tq)
  go_wp2_with fail
  rw [← HV0.out]
  refine HC.out.mono ?_
  rintro e w2 ⟨yp, rfl, hI2, l2, b2, hB⟩
  clear HC
  have hG0 := hB.kt.block _ _ _ _ hG0 (by decide)
  have hG1 := hB.kt.block _ _ _ _ hG1 (by decide)
  replace hA := hA.step hB (by decide)
  clear hB
  have c1_0 := (row_at hG1 1 (.int .i64 0) rfl).1
  have f1_0 := (row_at hG1 1 (.int .i64 0) rfl).2
  have s1 : (w2.setCell ⟨w1.heap.size, 1, none⟩ (.int .i64 yp)).heap[w1.heap.size]? = some (.cells #[.int .i64 yr, .int .i64 yp, .int .i64 0, .int .i64 0, .int .u8 0, .slice none 0 0] (70 : TypeId) (0, 0)) := heap_setCell_same _ (w1.heap.size) 1 _ (70 : TypeId) (.int .i64 yp) hG1
  have h0_1 : (w2.setCell ⟨w1.heap.size, 1, none⟩ (.int .i64 yp)).heap[w.heap.size]? = some (.cells #[.int .i64 0, .int .i64 0, .int .i64 0, .int .i64 0, .int .u8 0, .slice none 0 0] (70 : TypeId) (0, 0)) := (Below.heap_setCell _ _ _ _ (Nat.ne_of_lt hne)).trans hG0
  replace hA := hA.beside (S := (70 : TypeId)) (by decide) (Kt.set (i := 1) hG1 (.int .i64 yp)) ((Below.refl w.heap.size w2).setCell hlB (.int .i64 yp)) hRl
  obtain ⟨V1, HV1⟩ : ∃ V, Hid (V = w2.setCell ⟨w1.heap.size, 1, none⟩ (.int .i64 yp)) := ⟨_, hide rfl⟩
  rw [← HV1.out] at hA h0_1 s1
  have HX := hide hA
  have HY := hide h0_1
  have HZ := hide s1
  clear hA h0_1 hG1 hG0 s1
  have hA := HX.out
  have hG0 := HY.out
  have hG1 := HZ.out
  clear HX HY HZ
  have HC := hide (tnum_any hA.tq)
  go_wp2_with fail
  rw [← HV1.out]
  refine HC.out.mono ?_
  rintro e w3 ⟨ye, rfl, hI3, l3, b3, hB⟩
  clear HC
  have hG0 := hB.kt.block _ _ _ _ hG0 (by decide)
  have hG1 := hB.kt.block _ _ _ _ hG1 (by decide)
  replace hA := hA.step hB (by decide)
  clear hB
  have c2_0 := (row_at hG1 2 (.int .i64 0) rfl).1
  have f2_0 := (row_at hG1 2 (.int .i64 0) rfl).2
  have s2 : (w3.setCell ⟨w1.heap.size, 2, none⟩ (.int .i64 ye)).heap[w1.heap.size]? = some (.cells #[.int .i64 yr, .int .i64 yp, .int .i64 ye, .int .i64 0, .int .u8 0, .slice none 0 0] (70 : TypeId) (0, 0)) := heap_setCell_same _ (w1.heap.size) 2 _ (70 : TypeId) (.int .i64 ye) hG1
  have h0_2 : (w3.setCell ⟨w1.heap.size, 2, none⟩ (.int .i64 ye)).heap[w.heap.size]? = some (.cells #[.int .i64 0, .int .i64 0, .int .i64 0, .int .i64 0, .int .u8 0, .slice none 0 0] (70 : TypeId) (0, 0)) := (Below.heap_setCell _ _ _ _ (Nat.ne_of_lt hne)).trans hG0
  replace hA := hA.beside (S := (70 : TypeId)) (by decide) (Kt.set (i := 2) hG1 (.int .i64 ye)) ((Below.refl w.heap.size w3).setCell hlB (.int .i64 ye)) hRl
  obtain ⟨V2, HV2⟩ : ∃ V, Hid (V = w3.setCell ⟨w1.heap.size, 2, none⟩ (.int .i64 ye)) := ⟨_, hide rfl⟩
  rw [← HV2.out] at hA h0_2 s2
  have HX := hide hA
  have HY := hide h0_2
  have HZ := hide s2
  clear hA h0_2 hG1 hG0 s2
  have hA := HX.out
  have hG0 := HY.out
  have hG1 := HZ.out
  clear HX HY HZ
  have HC := hide (tnum_any hA.tq)
  go_wp2_with fail
  rw [← HV2.out]
  refine HC.out.mono ?_
  rintro e w4 ⟨yn, rfl, hI4, l4, b4, hB⟩
  clear HC
  have hG0 := hB.kt.block _ _ _ _ hG0 (by decide)
  have hG1 := hB.kt.block _ _ _ _ hG1 (by decide)
  replace hA := hA.step hB (by decide)
  clear hB
  have c3_0 := (row_at hG1 3 (.int .i64 0) rfl).1
  have f3_0 := (row_at hG1 3 (.int .i64 0) rfl).2
  have s3 : (w4.setCell ⟨w1.heap.size, 3, none⟩ (.int .i64 yn)).heap[w1.heap.size]? = some (.cells #[.int .i64 yr, .int .i64 yp, .int .i64 ye, .int .i64 yn, .int .u8 0, .slice none 0 0] (70 : TypeId) (0, 0)) := heap_setCell_same _ (w1.heap.size) 3 _ (70 : TypeId) (.int .i64 yn) hG1
  have h0_3 : (w4.setCell ⟨w1.heap.size, 3, none⟩ (.int .i64 yn)).heap[w.heap.size]? = some (.cells #[.int .i64 0, .int .i64 0, .int .i64 0, .int .i64 0, .int .u8 0, .slice none 0 0] (70 : TypeId) (0, 0)) := (Below.heap_setCell _ _ _ _ (Nat.ne_of_lt hne)).trans hG0
  replace hA := hA.beside (S := (70 : TypeId)) (by decide) (Kt.set (i := 3) hG1 (.int .i64 yn)) ((Below.refl w.heap.size w4).setCell hlB (.int .i64 yn)) hRl
  obtain ⟨V3, HV3⟩ : ∃ V, Hid (V = w4.setCell ⟨w1.heap.size, 3, none⟩ (.int .i64 yn)) := ⟨_, hide rfl⟩
  rw [← HV3.out] at hA h0_3 s3
  have HX := hide hA
  have HY := hide h0_3
  have HZ := hide s3
  clear hA h0_3 hG1 hG0 s3
  have hA := HX.out
  have hG0 := HY.out
  have hG1 := HZ.out
  clear HX HY HZ
  have HC := hide (tnum_any hA.tq)
  go_wp2_with fail
  rw [← HV3.out]
  refine HC.out.mono ?_
  rintro e w5 ⟨yk, rfl, hI5, l5, b5, hB⟩
  clear HC
  replace hB := hB.u8
  have hG0 := hB.kt.block _ _ _ _ hG0 (by decide)
  have hG1 := hB.kt.block _ _ _ _ hG1 (by decide)
  replace hA := hA.step hB (by decide)
  clear hB
  have c4_0 := (row_at hG1 4 (.int .u8 0) rfl).1
  have f4_0 := (row_at hG1 4 (.int .u8 0) rfl).2
  have s4 : (w5.setCell ⟨w1.heap.size, 4, none⟩ (.int .u8 (yk % 256))).heap[w1.heap.size]? = some (.cells #[.int .i64 yr, .int .i64 yp, .int .i64 ye, .int .i64 yn, .int .u8 (yk % 256), .slice none 0 0] (70 : TypeId) (0, 0)) := heap_setCell_same _ (w1.heap.size) 4 _ (70 : TypeId) (.int .u8 (yk % 256)) hG1
  have h0_4 : (w5.setCell ⟨w1.heap.size, 4, none⟩ (.int .u8 (yk % 256))).heap[w.heap.size]? = some (.cells #[.int .i64 0, .int .i64 0, .int .i64 0, .int .i64 0, .int .u8 0, .slice none 0 0] (70 : TypeId) (0, 0)) := (Below.heap_setCell _ _ _ _ (Nat.ne_of_lt hne)).trans hG0
  replace hA := hA.beside (S := (70 : TypeId)) (by decide) (Kt.set (i := 4) hG1 (.int .u8 (yk % 256))) ((Below.refl w.heap.size w5).setCell hlB (.int .u8 (yk % 256))) hRl
  obtain ⟨V4, HV4⟩ : ∃ V, Hid (V = w5.setCell ⟨w1.heap.size, 4, none⟩ (.int .u8 (yk % 256))) := ⟨_, hide rfl⟩
  rw [← HV4.out] at hA h0_4 s4
  have HX := hide hA
  have HY := hide h0_4
  have HZ := hide s4
  clear hA h0_4 hG1 hG0 s4
  have hA := HX.out
  have hG0 := HY.out
  have hG1 := HZ.out
  clear HX HY HZ
  have HC := hide (tplaces_any hA.tq)
  go_wp2_with fail
  rw [← HV4.out]
  refine HC.out.mono ?_
  rintro e w6 ⟨yla, yln, ylc, rfl, l6, b6, hB⟩
  clear HC
  have hG0 := hB.kt.block _ _ _ _ hG0 (by decide)
  have hG1 := hB.kt.block _ _ _ _ hG1 (by decide)
  replace hA := hA.step hB (by decide)
  clear hB
  have c5_0 := (row_at hG1 5 (.slice none 0 0) rfl).1
  have f5_0 := (row_at hG1 5 (.slice none 0 0) rfl).2
  have s5 : (w6.setCell ⟨w1.heap.size, 5, none⟩ (.slice yla yln ylc)).heap[w1.heap.size]? = some (.cells #[.int .i64 yr, .int .i64 yp, .int .i64 ye, .int .i64 yn, .int .u8 (yk % 256), .slice yla yln ylc] (70 : TypeId) (0, 0)) := heap_setCell_same _ (w1.heap.size) 5 _ (70 : TypeId) (.slice yla yln ylc) hG1
  have h0_5 : (w6.setCell ⟨w1.heap.size, 5, none⟩ (.slice yla yln ylc)).heap[w.heap.size]? = some (.cells #[.int .i64 0, .int .i64 0, .int .i64 0, .int .i64 0, .int .u8 0, .slice none 0 0] (70 : TypeId) (0, 0)) := (Below.heap_setCell _ _ _ _ (Nat.ne_of_lt hne)).trans hG0
  replace hA := hA.beside (S := (70 : TypeId)) (by decide) (Kt.set (i := 5) hG1 (.slice yla yln ylc)) ((Below.refl w.heap.size w6).setCell hlB (.slice yla yln ylc)) hRl
  obtain ⟨V5, HV5⟩ : ∃ V, Hid (V = w6.setCell ⟨w1.heap.size, 5, none⟩ (.slice yla yln ylc)) := ⟨_, hide rfl⟩
  rw [← HV5.out] at hA h0_5 s5
  have HX := hide hA
  have HY := hide h0_5
  have HZ := hide s5
  clear hA h0_5 hG1 hG0 s5
  have hA := HX.out
  have hG0 := HY.out
  have hG1 := HZ.out
  clear HX HY HZ
  have hF : Aq Cod.answer (fun V q => LAnswer V q [.int .i64 yr, .int .i64 yp, .int .i64 ye, .int .i64 yn, .int .u8 (yk % 256), .slice yla yln ylc]) [(55 : TypeId)] 18 Wb R l bad l6 b6 w V5 := (hA.assoc.assoc.assoc.assoc).iso (f := _) (g := _) (fun _ => rfl) (fun q hq => by obtain ⟨⟨⟨⟨⟨h0, h1⟩, h2⟩, h3⟩, h4⟩, h5⟩ := hq; exact ⟨_, _, rfl, h0, _, _, rfl, h1, _, _, rfl, h2, _, _, rfl, h3, _, _, rfl, h4, h5⟩) LAnswer.k
  have hF2 := hF.beside (S := (70 : TypeId)) (by decide) (Kt.row1 (cs := #[.int .i64 yr, .int .i64 yp, .int .i64 ye, .int .i64 yn, .int .u8 (yk % 256), .slice yla yln ylc]) hG0) (below_setRow (Below.refl _ _) (Nat.le_refl _) _) hRl
  have hR : (V5.setRow w.heap.size #[.int .i64 yr, .int .i64 yp, .int .i64 ye, .int .i64 yn, .int .u8 (yk % 256), .slice yla yln ylc]).heap[w.heap.size]? = some (.cells #[.int .i64 yr, .int .i64 yp, .int .i64 ye, .int .i64 yn, .int .u8 (yk % 256), .slice yla yln ylc] (70 : TypeId) (0, 0)) := setRow_heap V5 w.heap.size _ _ (70 : TypeId) _ hG0
  have HF := hide hF2
  have HR := hide hR
  have HG0 := hide hG0
  have HG1 := hide hG1
  clear hF hF2 hR hG0 hG1 hA
  have HGX : Hid (w6.setCell ⟨w1.heap.size, 5, none⟩ (.slice yla yln ylc) = V5) := hide HV5.out.symm
  go_wp2_with (first | (rw [HGX.out]; refine wpList_load_row rfl (70 : TypeId) _ rfl w1.heap.size rfl (70 : TypeId) _ (0, 0) _ HG1.out Tryz.underlying70 rfl (by kernel_rfl) ?_) | (refine wpList_store_row rfl (70 : TypeId) _ _ rfl w.heap.size #[.int .i64 yr, .int .i64 yp, .int .i64 ye, .int .i64 yn, .int .u8 (yk % 256), .slice yla yln ylc] rfl rfl (70 : TypeId) _ HG0.out (by kernel_rfl) rfl (by simp [Value.oneCell']) ?_))
  refine bodyPost_ret (v := .agg #[.int .i64 yr, .int .i64 yp, .int .i64 ye, .int .i64 yn, .int .u8 (yk % 256), .slice yla yln ylc]) (results_cell_row Tryz.results75 _ _ w.heap.size (70 : TypeId) _ (0, 0) _ rfl HR.out Tryz.underlying70 rfl (by kernel_rfl)) rfl ?_
  exact ⟨_, _, _, _, _, _, _, _, rfl, l6, b6, HF.out⟩

end

end Go.Proofs.YtnimfkcnkkjlkaaGreat

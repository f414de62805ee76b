/-
  Texts put into one.
-/
import Derived.Test.YtkdolabhcbjipaaGreatQk7e0fbe7b
import Derived.Test.YtkdolabhcbjipaaGreatFsl
import Derived.Test.YtkdolabhcbjipaaGreatGwh
import Derived.Test.YtkdolabhcbjipaaGreatMx89d367bf

/-
  told: a segment's frames.
-/
namespace Go.Proofs.YtkdolabhcbjipaaGreat
open Go.RowKit
set_option maxRecDepth 100000
set_option linter.unusedVariables false

theorem Sg.new {W V : World} {R S : Nat} {nm : ByteArray} {sv ev : Value} {bs : List (List Int)} {br : Bool} (h : Sg W R S nm sv ev bs br) (hb : Below W.heap.size W V) : Sg V R S nm sv ev bs br :=
  h.tb (Tb.of_fresh (S := fun _ => False) hb) (fun h => h) (fun _ _ h => h) (fun _ _ h => h)

theorem told_more {w wr w2 w3 : World} {v u : Value} {rs : List (Value × List Int)} {g d : Nat} {b : List Int} (hb : Below w.heap.size w wr) (hby : ∀ z ∈ b, 0 ≤ z ∧ z ≤ 255) (h1 : w2.ownsRow wr.heap.size 5 1 (.slice (some ⟨g, 0, none⟩) b.length d) b.length (U b)) (h2 : Below wr.heap.size wr w2) (h3 : LL wr w.heap.size v rs)
    (h4 : w3.ownsRow w.heap.size 30 1 u (rs.length + 1) (rs.map (·.1) ++ [.slice (some ⟨g, 0, none⟩) b.length d])) (h5 : (w2.alloc (.cells #[.slice (some ⟨g, 0, none⟩) b.length d] 30)).grownBy w3 v.ownBlock) :
    LL w3 w.heap.size u (rs ++ [(.slice (some ⟨g, 0, none⟩) b.length d, b)]) ∧ Below w.heap.size w w3 := by
  have hbs := hb.size
  have hs2 := h2.size
  have h6 := (h3.keep h2).keep ((Below.refl _ w2).alloc (Nat.le_refl _) (.cells #[.slice (some ⟨g, 0, none⟩) b.length d] 30))
  refine ⟨h6.more (by simp only [List.mem_singleton, forall_eq]; exact own_less (h1.alloc _) hbs) (by simp only [List.mem_singleton, forall_eq]; exact hby) (by simp) ?_ (by simp) h4 h5, ?_⟩
  · intro r hr s hs
    simp only [List.mem_singleton] at hs
    subst hs
    have := own_lt h1
    cases hrb : r.1.ownBlock with
    | none => exact .inl rfl
    | some x =>
      have := (h3.row r hr).lt x hrb
      exact .inr (by simp only [Value.ownBlock, ne_eq, Option.some.injEq]; omega)
  · exact (hb.trans ((h2.mono hbs).alloc (by omega) _)).grown h5 (by simp; omega) (fun k hk => own_from h3.own hk)

set_option maxHeartbeats 2000000 in
theorem told_any {w : World} {R S : Nat} {nm : ByteArray} {sv ev : Value} {bs : List (List Int)} {br : Bool} (h : Sg w R S nm sv ev bs br) :
    Calls Tryz.prog 21 #[.pointer (some ⟨S, 0, none⟩)] w fun e w' => ∃ v rs, e = .returned v ∧ LL w' w.heap.size v rs ∧ rs.map (·.2) = bs ∧ Below w.heap.size w w' := by
  obtain ⟨i0, hi, hz0, hz1, hz2⟩ := info_parts info22
  have h4 := flat_len4 bs
  have hmost := h.most
  have hF5 : (flat bs).length ≤ 253952 := by unfold nsec at hmost; omega
  have hbl : bs.length ≤ 100000 := by omega
  clear h4 hmost hF5
  have HS := hide h
  have HBY := hide h.byte
  clear h
  obtain ⟨B, hB⟩ : ∃ B, Hid (B = bs.length) := ⟨_, hide rfl⟩
  have hB1 : B ≤ 100000 := by rw [hB.out]; exact hbl
  clear hbl
  go_enter Tryz.func21, Tryz.ntmps21
  go_wp2_with fail
  go_loopw [3, 4] (fun ov iv wr => ∃ (k : Nat) (rs : List (Value × List Int)), k ≤ B ∧ Hid (rs.length = k) ∧ iv = .int .i64 k ∧ Hid (rs.map (·.2) = bs.take k) ∧ Hid (LL wr w.heap.size ov rs) ∧ Hid (Below w.heap.size w wr))
    (fun _ iv _ => B - (intOf iv).toNat)
  case atStart => exact ⟨0, [], Nat.zero_le _, hide rfl, rfl, hide (by simp), hide (LL.nil _ _), hide (Below.refl _ _)⟩
  case round =>
    obtain ⟨k, rs, hk, hrl, rfl, hmap, hll, hb⟩ := hrel
    have hS := HS.out.new hb.out
    have CC := scount_any hS
    rw [← hB.out] at CC
    by_cases hlt : k < B
    · have CR := sread_yes (i := k) hS (by rw [← hB.out]; exact hlt)
      obtain ⟨b, hbb⟩ : ∃ b, Hid (b = bs[k]'(by rw [← hB.out]; exact hlt)) := ⟨_, hide rfl⟩
      rw [← hbb.out] at CR
      have hbl : b.length ≤ 65536 := by rw [hbb.out]; exact hS.short _ (List.getElem_mem _)
      have hby : Hid (∀ z ∈ b, 0 ≤ z ∧ z ≤ 255) := hide (by rw [hbb.out]; exact HBY.out _ (List.getElem_mem _))
      have hstep : Hid (bs.take (k + 1) = bs.take k ++ [b]) := hide (by rw [List.take_succ_eq_append_getElem (by rw [← hB.out]; exact hlt), hbb.out])
      obtain ⟨L, hL⟩ : ∃ L, Hid (L = b.length) := ⟨_, hide rfl⟩
      rw [← hL.out] at CR hbl
      clear hS
      go_wp2_with (go_at_call 12; refine CC.mono ?_; rintro e w1 ⟨rfl, hw1⟩; subst w1)
      refine CR.mono ?_
      rintro e w2 ⟨g, d, rfl, hown2, hb2⟩
      have hL2 := (hll.out.keep hb2).own
      have hrl' := hrl.out
      have hbs := hb.out.size
      have hs2 := hb2.size
      go_wp2_with (at_builtin; refine wpList_append_own _ rfl (.tmp 19) (.tmp 21) 42 rfl w.heap.size 30 i0 (.slice none 0 0) 1 24 Tryz.underlying42 hi hz0 hz1 hz2 rfl (by omega) _ rs.length (rs.map (·.1)) rfl (hL2.alloc _) ⟨_, 0, none⟩ 1 1 [.slice (some ⟨g, 0, none⟩) L d] rfl rfl (cell_one_new _ _ _) (by simp [Value.oneCell']) (by unfold maxLen; omega) (by omega) (by simp; omega) ?_; intro u w3 hown3 hgrow3 _)
      rw [hL.out] at hown2 hown3 hgrow3
      have hf := told_more hb.out hby.out hown2 hb2 hll.out hown3 hgrow3
      clear hgrow3 hown3 hown2 hL2 hb2
      have F1 := hide hf.1
      have F2 := hide hf.2
      clear hf
      go_roundw
      case rel => exact ⟨k + 1, _, by omega, hide (by simp [hrl.out]), by go_num, hide (by rw [List.map_append, hmap.out, hstep.out]; rfl), F1, F2⟩
      case measure => simp [intOf]; omega
    · clear hS
      obtain rfl : k = B := by omega
      go_wp2_with (go_at_call 12; refine CC.mono ?_; rintro e w1 ⟨rfl, hw1⟩; subst w1)
      go_ret
      exact ⟨_, rs, rfl, hll.out, by rw [hmap.out, hB.out, List.take_length], hb.out⟩

end Go.Proofs.YtkdolabhcbjipaaGreat

/-
  SegmentKept: a list that begins another one.
-/
namespace Go.Proofs.YtkdolabhcbjipaaGreat
open Go.RowKit
set_option maxRecDepth 100000

theorem Rl.head {w : World} {a : Option Addr} {n cap : Nat} {zss : List (List Int)} (h : Rl w a n cap zss) (m : Nat) (hm : m ≤ n) : Rl w a m cap (zss.take m) := by
  have hl := h.len
  have hle := h.le
  refine ⟨by rw [List.length_take]; omega, by omega, h.reach, fun hp => ?_⟩
  obtain ⟨b, off, ha, hc⟩ := h.lies (by omega)
  refine ⟨b, off, ha, fun i hi => ?_⟩
  have := hc i (by omega)
  simpa [List.getD, hi] using this

set_option maxHeartbeats 1000000 in
theorem begins_yes {w : World} {a c : Option Addr} {n cap m dap : Nat} {ys : List (List Int)} {least : Nat} (hA : Rl w a n cap (ys.take n)) (hC : Rl w c m dap ys) (h1 : least ≤ n) (h2 : n ≤ m) :
    Calls Tryz.prog 23 #[.slice a n cap, .slice c m dap, .int .i64 (least : Int)] w fun e w' => e = .returned (.bool true) ∧ ∃ q, w' = w.drewN q := by
  have C := lists_any a c n cap n dap (ys.take n) (ys.take n) w hA (hC.head n h2)
  rw [decide_eq_true rfl] at C
  have hea := hA.le
  have hra := hA.reach
  have hec := hC.le
  have hrc := hC.reach
  have h1i : (least : Int) ≤ (n : Int) := by omega
  have h2i : (n : Int) ≤ (m : Int) := by omega
  clear hA hC
  go_enter Tryz.func23, Tryz.ntmps23
  go_wp2_with fail
  refine C.mono ?_
  rintro e w1 ⟨rfl, q, rfl⟩
  go_wp2_with fail
  go_ret
  exact ⟨rfl, q, rfl⟩

end Go.Proofs.YtkdolabhcbjipaaGreat

/-
  SegmentKept: the tale of a life, on lists alone.
-/
namespace Go.Proofs.YtkdolabhcbjipaaGreat
open Go.RowKit
set_option maxRecDepth 100000
set_option linter.unusedVariables false

/-- No operation is to fail but for the power. -/
def Pw (d : Dsk) : Prop := d.failing = -1

section
variable {s : ByteArray} {d : Dsk}
theorem less_none : lessed (-1) = -1 := by decide
theorem Pw.begin (h : Pw d) : Pw d.begin.2 ∧ d.begin.1 ≠ 70 := by
  unfold Pw at h ⊢
  unfold Dsk.begin
  rw [h, less_none]
  split
  · exact ⟨h, by simp⟩
  split
  · exact ⟨rfl, by simp⟩
  split
  · rename_i e; simp at e
  · exact ⟨rfl, by simp⟩
theorem Pw.same {d' : Dsk} (h : Pw d) (e : d'.failing = d.failing) : Pw d' := by unfold Pw at h ⊢; rw [e, h]
theorem Pw.do (h : Pw d) (t : Stp) : Pw (d.do t) := h.same rfl
theorem Pw.put (h : Pw d) (at' : Int) (n : Nat) (data : List Int) : Pw (d.put s at' n data).2 := by
  unfold Dsk.put
  have hb := h.begin.1
  split
  · exact h
  split
  · exact h
  split
  · exact hb
  split
  · exact ((hb.same (d' := { d.begin.2 with made := d.begin.2.made + 1 }) rfl).do _).do _
  · exact hb.do _
theorem Pw.cut (h : Pw d) (n : Int) : Pw (d.cut s n).2 := by
  unfold Dsk.cut
  have hb := h.begin.1
  split
  · exact h
  split
  · exact h
  split
  · exact hb
  · exact hb.do _
theorem Pw.sync (h : Pw d) : Pw (d.sync s).2 ∧ (d.find s ≠ 0 → (d.sync s).1 ≠ 70) := by
  unfold Dsk.sync
  have hb := h.begin
  split
  · rename_i e; exact ⟨h, fun h0 => absurd e h0⟩
  split
  · exact ⟨hb.1, fun _ => hb.2⟩
  · exact ⟨hb.1.same rfl, fun _ => by simp⟩
theorem Pw.sputs (zs : List Int) : ∀ (l : List Nat) (d : Dsk), Pw d → Pw (Dsk.sputs s zs l d).2 := by
  intro l
  induction l with
  | nil => intro d h; exact h
  | cons i l ih =>
    intro d h
    have e : Dsk.sputs s zs (i :: l) d = if (d.put s (i : Int) 64 (sec zs i)).1 = 0 then Dsk.sputs s zs l (d.put s (i : Int) 64 (sec zs i)).2 else d.put s (i : Int) 64 (sec zs i) := rfl
    rw [e]
    split
    · exact ih _ (h.put _ _ _)
    · exact h.put _ _ _
theorem Pw.sput (h : Pw d) (zs : List Int) (f : Nat) : Pw (d.sput s zs f).2 := Pw.sputs zs _ d h
theorem Pw.leave (h : Pw d) (zs : List Int) : Pw (d.leave s zs).2 := by
  unfold Dsk.leave
  split
  · exact h.sput _ _
  split
  · exact (h.sput _ _).cut _
  · exact ((h.sput _ _).cut _).sync.1
theorem Pw.sapp (h : Pw d) (bs : List (List Int)) (br : Bool) (b : List Int) : Pw (d.sapp s bs br b).d := by
  unfold Dsk.sapp
  split
  · exact h
  split
  · exact h
  split
  · exact h
  split
  · exact h.sput _ _
  · exact h.sput _ _
theorem Pw.ssync (h : Pw d) (br : Bool) : Pw (d.ssync s br).2.1 := by
  unfold Dsk.ssync
  split
  · exact h
  split
  · exact h.sync.1
  · exact h.sync.1
theorem Pw.strunc (h : Pw d) (bs : List (List Int)) (br : Bool) (n : Int) : Pw (d.strunc s bs br n).d := by
  unfold Dsk.strunc
  split
  · exact h
  split
  · exact h
  split
  · exact h
  split
  · exact h.leave _
  · exact h.leave _
theorem Pw.opn (h : Pw d) : Pw (d.opn s).2 := by
  unfold Dsk.opn
  split
  · exact h
  split
  · exact h
  · exact h.leave _
theorem Pw.crash (ks : List Bool) : Pw (d.crash ks) := (qt_crash d ks).failing
theorem Pw.arm (h : Pw d) (n : Int) : Pw (d.arm n).2 := by
  unfold Dsk.arm
  split
  · exact h
  · exact h
theorem pw_new : Pw newDsk := rfl

theorem Kd.arm {Zl Zh : List Int} {rs : List (List Int)} (h : Kd s d Zl Zh rs) (n : Int) : Kd s (d.arm n).2 Zl Zh rs := by
  unfold Dsk.arm
  split
  · exact h
  · exact h.same rfl rfl rfl rfl
theorem Kg.arm {bs : List (List Int)} {y : Nat} {rs : List (List Int)} (h : Kg s d bs y rs) (n : Int) : Kg s (d.arm n).2 bs y rs := ⟨h.kd.arm n, h.hd, h.len⟩
theorem strunc_bw {K : Nat} (h : Bw d K) {bs : List (List Int)} {br : Bool} {m : Int} (hb : ∀ x ∈ bs, ∀ z ∈ x, 0 ≤ z ∧ z ≤ 255) (hl : (flat bs).length ≤ 253952) (hK : K + 13000 < 700000) : Bw (d.strunc s bs br m).d (K + 4) := by
  unfold Dsk.strunc
  have hw := h.wide (by omega : K ≤ K + 4)
  have hf : Bw (d.leave s (flat (bs.take m.toNat))).2 (K + 4) := by
    refine leave_bw (flat_byte (fun x hx => hb x (List.mem_of_mem_take hx))) h ?_
    have h1 := (flat_pre bs m.toNat).length_le
    unfold nsec
    omega
  split
  · exact hw
  split
  · exact hw
  split
  · exact hw
  split
  · exact hf
  · exact hf
end

/-- A life in the midst of its work: what may still be told, and how much of it is sure; N bounds how many were appended. -/
structure Mid (s : ByteArray) (d : Dsk) (bs : List (List Int)) (br : Bool) (L : List (List Int)) (y N K : Nat) : Prop where
  bw : Bw d K
  pw : Pw d
  yl : y ≤ L.length
  fl : (flat L).length ≤ 204 * N
  sh : ∀ b ∈ L, b.length ≤ 200 ∧ ∀ z ∈ b, 0 ≤ z ∧ z ≤ 255
  ok : br = false → bs = L ∧ ∃ rs, Kg s d L y rs
  no : br = true → ∃ rs, Kd s d (flat (L.take y)) (flat L) rs

/-- Between two lives. -/
structure Whole (s : ByteArray) (d : Dsk) (L : List (List Int)) (N K : Nat) : Prop where
  bw : Bw d K
  qt : Qt d
  nl : d.l = []
  fl : (flat L).length ≤ 204 * N
  sh : ∀ b ∈ L, b.length ≤ 200 ∧ ∀ z ∈ b, 0 ≤ z ∧ z ≤ 255
  ok : ∃ rs, Kg s d L L.length rs

section
variable {s : ByteArray} {d : Dsk} {bs L : List (List Int)} {br : Bool} {y N K : Nat}

theorem whole_new (s : ByteArray) : Whole s newDsk [] 0 10 := ⟨bw_new, ⟨rfl, rfl, rfl⟩, rfl, by simp [flat], by simp, [], ⟨by
  have := kd_new s []
  simpa [flat] using this, by
  have := hd_nil []
  simpa [flat] using this, by simp⟩⟩

/-- What is opened behind a crash, or as it was left, is told as it is. -/
theorem Kd.again {y : Nat} {rs : List (List Int)} (h : Kd s d (flat (L.take y)) (flat L) rs) (hs : 1 ≤ s.size ∧ s.size ≤ 64) (hb : Bw d K) (hq : Qt d) (hl : d.l = []) (hN : N ≤ 1000) (fl : (flat L).length ≤ 204 * N) (sh : ∀ b ∈ L, b.length ≤ 200 ∧ ∀ z ∈ b, 0 ≤ z ∧ z ≤ 255) (hyl : y ≤ L.length) (hK : K + 13000 < 600000) :
    (d.opn s).1 = 0 ∧ ∃ k, y ≤ k ∧ k ≤ L.length ∧ d.frames s = L.take k ∧ Whole s (d.opn s).2 (L.take k) N (K + 4) := by
  have fq := h.fq hq
  obtain ⟨e1, e2, r1, q1, q2⟩ := fq.opn hs hb
  refine ⟨e1, ?_⟩
  rcases h.opn hs (fun b hb => by have := (sh b hb).1; omega) hb hl with ⟨a, _⟩ | ⟨_, k, rs', h1, h2, h3, h4, h5⟩
  · exact absurd e1 a
  · rw [Nat.min_eq_left hyl] at h1
    refine ⟨k, h1, h2, h3, opn_bw hb (by omega) s, q1.qt, h5, ?_, fun b hb => sh b (List.mem_of_mem_take hb), rs', ?_⟩
    · have := (flat_pre L k).length_le
      omega
    · have : (L.take k).length = k := by rw [List.length_take]; omega
      rw [this]
      exact h4

theorem Whole.opn (h : Whole s d L N K) (hs : 1 ≤ s.size ∧ s.size ≤ 64) (hN : N ≤ 1000) (hK : K + 13000 < 600000) : (d.opn s).1 = 0 ∧ d.frames s = L ∧ Whole s (d.opn s).2 L N (K + 4) := by
  obtain ⟨rs, hk⟩ := h.ok
  obtain ⟨e1, k, k1, k2, k3, k4⟩ := hk.kd.again hs h.bw h.qt h.nl hN h.fl h.sh (Nat.le_refl _) hK
  obtain rfl : k = L.length := by omega
  rw [List.take_length] at k3 k4
  exact ⟨e1, k3, k4⟩

theorem Whole.mid (h : Whole s d L N K) (n : Int) : Mid s (d.arm n).2 L false L L.length N K := by
  obtain ⟨rs, hk⟩ := h.ok
  exact ⟨h.bw.arm n, (show Pw d from h.qt.failing).arm n, Nat.le_refl _, h.fl, h.sh, fun _ => ⟨rfl, rs, hk.arm n⟩, fun e => by cases e⟩

theorem Mid.wide {N' K' : Nat} (h : Mid s d bs br L y N K) (h1 : N ≤ N') (h2 : K ≤ K') : Mid s d bs br L y N' K' := by
  have := h.fl
  exact ⟨h.bw.wide h2, h.pw, h.yl, by omega, h.sh, h.ok, h.no⟩

/-- Sync in a life. -/
theorem Mid.sync (h : Mid s d bs false L y N K) : ((d.ssync s false).1 = 0 ∧ (d.ssync s false).2.2 = false ∧ Mid s (d.ssync s false).2.1 bs false L L.length N K) ∨ ((d.ssync s false).1 ≠ 0 ∧ (d.ssync s false).2.2 = true ∧ Mid s (d.ssync s false).2.1 bs true L y N K) := by
  obtain ⟨rfl, rs, hk⟩ := h.ok rfl
  rcases hk.ssync h.pw.sync.2 with ⟨a, b, c⟩ | ⟨a, b, c⟩
  · exact .inl ⟨a, b, ssync_bw h.bw s false, h.pw.ssync false, Nat.le_refl _, h.fl, h.sh, fun _ => ⟨rfl, rs, c⟩, fun e => by cases e⟩
  · exact .inr ⟨a, b, ssync_bw h.bw s false, h.pw.ssync false, h.yl, h.fl, h.sh, (fun e => by cases e), fun _ => ⟨rs, c⟩⟩

/-- Append in a life. -/
theorem Mid.app {b : List Int} (h : Mid s d bs false L y N K) (hs : 1 ≤ s.size ∧ s.size ≤ 64) (hN : N ≤ 1000) (hb : b.length ≤ 200) (hby : ∀ z ∈ b, 0 ≤ z ∧ z ≤ 255) (hK : K + 13000 < 600000) :
    ((d.sapp s bs false b).err = 0 ∧ (d.sapp s bs false b).at' = L.length ∧ (d.sapp s bs false b).br = false ∧ Mid s (d.sapp s bs false b).d (d.sapp s bs false b).bs false (L ++ [b]) y (N + 1) (K + 20)) ∨
      ((d.sapp s bs false b).err ≠ 0 ∧ (d.sapp s bs false b).br = true ∧ Mid s (d.sapp s bs false b).d (d.sapp s bs false b).bs true (L ++ [b]) y (N + 1) (K + 20)) := by
  obtain ⟨rfl, rs, hk⟩ := h.ok rfl
  have hfl := h.fl
  have hbl : (flat bs ++ fr b).length ≤ 204 * N + 204 := by rw [List.length_append, fr_length]; omega
  have hw : Bw (d.sapp s bs false b).d (K + 20) := by
    refine (sapp_bw (s := s) (bs := bs) (br := false) (b := b) h.bw (fun x hx => (h.sh x hx).2) hby (by omega)).wide ?_
    rw [List.length_append, fr_length]
    unfold nsec
    omega
  have hf2 : (flat (bs ++ [b])).length ≤ 204 * (N + 1) := by
    rw [flat_app, flat_cons, flat_nil, List.append_nil, List.length_append, fr_length]
    omega
  have hsh : ∀ x ∈ bs ++ [b], x.length ≤ 200 ∧ ∀ z ∈ x, 0 ≤ z ∧ z ≤ 255 := fun x hx => by
    rcases List.mem_append.1 hx with hx | hx
    · exact h.sh x hx
    · rw [List.mem_singleton.1 hx]; exact ⟨hb, hby⟩
  have hyl := h.yl
  have hyl2 : y ≤ (bs ++ [b]).length := by rw [List.length_append]; omega
  obtain ⟨rs', a⟩ := hk.sapp (b := b) hs h.yl (by omega) (by unfold nsec; omega)
  rcases a with ⟨a1, a2, a3, a4, a5⟩ | ⟨a1, a2, a3, a4⟩
  · exact .inl ⟨a1, a2, a4, hw, h.pw.sapp _ _ _, hyl2, hf2, hsh, fun _ => ⟨a3, rs', a5⟩, fun e => by cases e⟩
  · exact .inr ⟨a1, a2, hw, h.pw.sapp _ _ _, hyl2, hf2, hsh, (fun e => by cases e), fun _ => ⟨rs', a4⟩⟩

/-- Truncate in a life. -/
theorem Mid.trunc {m : Nat} (h : Mid s d bs false L y N K) (hs : 1 ≤ s.size ∧ s.size ≤ 64) (hN : N ≤ 1000) (hm : m < L.length) (hK : K + 13000 < 600000) :
    ((d.strunc s bs false (m : Int)).err = 0 ∧ (d.strunc s bs false (m : Int)).br = false ∧ Mid s (d.strunc s bs false (m : Int)).d (d.strunc s bs false (m : Int)).bs false (L.take m) m N (K + 20)) ∨
      ((d.strunc s bs false (m : Int)).err ≠ 0 ∧ (d.strunc s bs false (m : Int)).br = true ∧ Mid s (d.strunc s bs false (m : Int)).d (d.strunc s bs false (m : Int)).bs true L (min y m) N (K + 20)) := by
  obtain ⟨rfl, rs, hk⟩ := h.ok rfl
  have hfl := h.fl
  have hw : Bw (d.strunc s bs false (m : Int)).d (K + 20) := (strunc_bw (s := s) (br := false) (m := (m : Int)) h.bw (fun x hx => (h.sh x hx).2) (by omega) (by omega)).wide (by omega)
  have hyl := h.yl
  obtain ⟨rs', a⟩ := hk.strunc hs hm
  rcases a with ⟨a1, a2, a3, a4⟩ | ⟨a1, a2, a3, a4⟩
  · refine .inl ⟨a1, a2, hw, h.pw.strunc _ _ _, by rw [List.length_take]; omega, ?_, fun x hx => h.sh x (List.mem_of_mem_take hx), fun _ => ⟨a3, rs', a4⟩, fun e => by cases e⟩
    have := (flat_pre bs m).length_le
    omega
  · exact .inr ⟨a1, a2, hw, h.pw.strunc _ _ _, by omega, hfl, h.sh, (fun e => by cases e), fun _ => ⟨rs', a4⟩⟩

/-- The power goes: what the next opening but one tells. -/
theorem Mid.dies (h : Mid s d bs br L y N K) (hs : 1 ≤ s.size ∧ s.size ≤ 64) (hN : N ≤ 1000) (hK : K + 13100 < 600000) (ks ls : List Bool) (n : Int) :
    ∃ d1 d2 d3 d4, d.crash ks = d1 ∧ (d1.arm n).2 = d2 ∧ Bw d1 K ∧ Bw d2 K ∧ (d2.opn s).2 = d3 ∧ Bw d3 (K + 4) ∧ d3.crash ls = d4 ∧ Bw d4 (K + 4) ∧ (d4.opn s).1 = 0 ∧ ∃ k, y ≤ k ∧ k ≤ L.length ∧ d4.frames s = L.take k ∧ Whole s (d4.opn s).2 (L.take k) N (K + 8) := by
  have hk : ∃ rs, Kd s d (flat (L.take y)) (flat L) rs := by
    cases br with
    | false => obtain ⟨_, rs, hk⟩ := h.ok rfl; exact ⟨rs, hk.kd⟩
    | true => exact h.no rfl
  obtain ⟨rs, hk⟩ := hk
  obtain ⟨r1, k1, q1⟩ := hk.crash ks
  have b1 := h.bw.crash ks
  have l1 : (d.crash ks).l = [] := rfl
  have k2 := k1.arm n
  have b2 := b1.arm n
  have l2 : ((d.crash ks).arm n).2.l = [] := by unfold Dsk.arm; split <;> exact l1
  have b3 := opn_bw b2 (by omega) s
  have hk3 : ∃ rs, Kd s ((((d.crash ks).arm n).2).opn s).2 (flat (L.take y)) (flat L) rs := by
    rcases k2.opn hs (fun b hb => by have := (h.sh b hb).1; omega) b2 l2 with ⟨_, rs', a⟩ | ⟨_, k, rs', h1, h2, h3, h4, _⟩
    · exact ⟨rs', a⟩
    · rw [Nat.min_eq_left h.yl] at h1
      refine ⟨rs', h4.kd.wide ?_ (flat_pre L k)⟩
      rw [List.take_take, Nat.min_self]
      exact flat_pre2 L h1
  obtain ⟨r3, k3⟩ := hk3
  obtain ⟨r4, k4, q4⟩ := k3.crash ls
  have b4 := b3.crash ls
  obtain ⟨e1, k, e2, e3, e4, e5⟩ := k4.again hs b4 q4 rfl hN h.fl h.sh h.yl (by omega)
  exact ⟨_, _, _, _, rfl, rfl, b1, b2, rfl, b3, rfl, b4, e1, k, e2, e3, e4, e5⟩
end

end Go.Proofs.YtkdolabhcbjipaaGreat

/-
  Texts put into one.
-/
import Derived.Test.YtkdolabhcbjipaaGreatQk414eacb6
import Derived.BigQuiet
import Derived.Test.YtkdolabhcbjipaaGreatMx2ce8f3e7
import Derived.Test.YtkdolabhcbjipaaGreatMx7fae50cc

/-
  bytes.Equal; isClean.
-/
namespace Go.Proofs.YtkdolabhcbjipaaGreat
open Go.RowKit Go.Shelf
set_option maxRecDepth 100000
set_option linter.unusedVariables false

attribute [local go_sem] Oper.semAt_some

set_option maxHeartbeats 1000000 in
theorem equal_any {w : World} {a a' : Option Addr} {n cap n' cap' : Nat} {xs ys : List Int} (hx : Bs w a n cap xs) (hy : Bs w a' n' cap' ys) :
    Calls Tryz.prog 53 #[.slice a n cap, .slice a' n' cap'] w fun e w' => e = .returned (.bool (decide (xs = ys))) ∧ w' = w := by
  have k1 : (convert 30 9 (.slice a n cap)).run Tryz.prog w = .ok (.string (strOfNums xs)) w := run_str 30 5 Tryz.underlying30 Tryz.underlying5 hx 9 Tryz.underlying9
  have k2 : (convert 30 9 (.slice a' n' cap')).run Tryz.prog w = .ok (.string (strOfNums ys)) w := run_str 30 5 Tryz.underlying30 Tryz.underlying5 hy 9 Tryz.underlying9
  have hs := str_beq hx.byte hy.byte
  clear hx hy
  go_enter Tryz.func53, Tryz.ntmps53
  go_wp2_with fail
  go_ret
  exact ⟨rfl, rfl⟩

/-! ### Rows of 64 -/
theorem rows_len (rs : List (List Int)) (h : ∀ r ∈ rs, r.length = 64) : rs.flatten.length = 64 * rs.length := by
  induction rs with
  | nil => rfl
  | cons r rs ih =>
    rw [List.flatten_cons, List.length_append, ih (fun x hx => h x (by simp [hx])), h r (by simp), List.length_cons]
    omega
theorem rows_at (rs : List (List Int)) (h : ∀ r ∈ rs, r.length = 64) : ∀ (k : Nat) (hk : k < rs.length), (rs.flatten.drop (64 * k)).take 64 = rs[k] := by
  induction rs with
  | nil => intro k hk; cases hk
  | cons r rs ih =>
    intro k hk
    have hr := h r (by simp)
    cases k with
    | zero => rw [List.flatten_cons, Nat.mul_zero, List.drop_zero, List.take_left' hr]; rfl
    | succ k =>
      rw [List.flatten_cons, show 64 * (k + 1) = r.length + 64 * k from by rw [hr]; omega, ← List.drop_drop, List.drop_left' rfl]
      exact ih (fun x hx => h x (by simp [hx])) k (by simpa using hk)
theorem rows_ext {hs : List Int} (rs : List (List Int)) (h : ∀ r ∈ rs, r.length = 64) : ∀ (hs : List Int), hs.length = 64 * rs.length → (∀ k (hk : k < rs.length), (hs.drop (64 * k)).take 64 = rs[k]) → hs = rs.flatten := by
  induction rs with
  | nil => intro hs hl _; exact List.eq_nil_of_length_eq_zero (by simpa using hl)
  | cons r rs ih =>
    intro hs hl hk
    have h0 := hk 0 (by simp)
    simp only [Nat.mul_zero, List.drop_zero, List.getElem_cons_zero] at h0
    have := ih (fun x hx => h x (by simp [hx])) (hs.drop 64) (by rw [List.length_drop, hl, List.length_cons]; omega) (fun k hk' => by
      have := hk (k + 1) (by simp; omega)
      rw [List.drop_drop, Nat.add_comm, show 64 * k + 64 = 64 * (k + 1) from by omega]
      simpa using this)
    rw [List.flatten_cons, ← this, ← h0, List.take_append_drop]
theorem secs_64 (zs : List Int) : ∀ r ∈ secs zs, r.length = 64 := fun r hr => by
  obtain ⟨i, _, rfl⟩ := List.mem_map.1 hr
  exact sec_length zs i

/-- The bytes of a clean file. -/
def clean (zs : List Int) : List Int := (secs zs).flatten
theorem clean_len (zs : List Int) : (clean zs).length = 64 * nsec zs.length := by unfold clean; rw [rows_len _ (secs_64 zs), secs_length]
theorem clean_at (zs : List Int) (k : Nat) (hk : k < nsec zs.length) : ((clean zs).drop (64 * k)).take 64 = sec zs k := by
  have := rows_at (secs zs) (secs_64 zs) k (by rw [secs_length]; exact hk)
  unfold clean
  rw [this]
  simp [secs]
theorem clean_ext {zs hs : List Int} (hl : hs.length = 64 * nsec zs.length) (hk : ∀ k, k < nsec zs.length → (hs.drop (64 * k)).take 64 = sec zs k) : hs = clean zs :=
  rows_ext (hs := hs) (secs zs) (secs_64 zs) hs (by rw [secs_length]; exact hl) (fun k h => by rw [hk k (by rw [secs_length] at h; exact h)]; simp [secs])

set_option maxHeartbeats 4000000 in
theorem isClean_any {W : World} {ah a : Option Addr} {nh ch m cap : Nat} {hs zs : List Int} (hH : Bs W ah nh ch hs) (hB : Bs W a m cap zs) (hm : m ≤ 1000000000) (hn : nh ≤ 1000000000) :
    Calls Tryz.prog 30 #[.slice ah nh ch, .slice a m cap] W fun e W' => e = .returned (.bool (decide (hs = clean zs))) ∧ Below W.heap.size W W' := by
  refine (callsIn_wide (n := 4)).1 ?_
  have hhl := hH.len
  have hhc := hH.le
  have hhr := hH.reach
  have hlen := hB.len
  have hns : nsec m ≤ 1000000000 := by unfold nsec; omega
  have C51 := fun V => sectorsFor_in Fence.wide 3 trivial rfl m (by omega) V
  refine callsIn_of_wp_marks Tryz.func30 rfl trivial ?_ rfl
  simp only [Tryz.ntmps30, List.size_toArray, List.length_cons, List.length_nil, Nat.reduceAdd, Nat.reduceSub, Array.replicate_succ, Array.replicate_zero, List.push_toArray, List.append_toArray, List.nil_append, List.cons_append]
  have below_dn : ∀ {n : Nat} {A B : World} (k : Nat), Below n A B → Below n A (B.drewN k) := fun k h => ⟨h.os, h.tape, h.output, h.size, h.block⟩
  by_cases hL : nh = 64 * nsec m
  · have e1 : ((nh : Int) != (nsec m : Int) * 64) = false := by
      have : (nh : Int) = (nsec m : Int) * 64 := by omega
      simp [this]
    have HLL := hide hL
    have hL1 : 64 * nsec m ≤ nh := by omega
    clear hL
    gi_wp2_with fail
    refine wpIn_wide.2 ?_
    go_quiet (first | (go_at_call 35; exact Calls.quiet_of_same (sectorsFor_any m (by omega) _)))
    rename_i hKK
    obtain ⟨W0, hW0⟩ : ∃ W0, W0 = ((W.alloc (.cells #[.slice ah nh ch] 30)).alloc (.cells #[.bool false] 4)).drewN nq := ⟨_, rfl⟩
    have s0 : W.heap.size + 2 ≤ W0.heap.size := by rw [hW0]; simp [World.drewN]
    have bH : Boxed W0 W.heap.size 30 (.slice ah nh ch) := by rw [hW0]; exact ((Boxed.new W _ _).alloc _ : Boxed _ _ _ _)
    have bR : Boxed W0 (W.heap.size + 1) 4 (.bool false) := by rw [hW0]; have := Boxed.new (W.alloc (.cells #[.slice ah nh ch] 30)) 4 (.bool false); rw [World.size_alloc] at this; exact this
    have b0 : Below W.heap.size W W0 := by rw [hW0]; exact below_dn _ (((Below.refl _ W).alloc (Nat.le_refl _) _).alloc (by simp) _)
    rw [← hW0]
    clear hW0
    refine hKK _ _ ?_
    gi_wp2_with (refine ⟨trivial, ?_⟩; gi_at_call 52; refine (sectorsOf_in Fence.wide 3 trivial rfl _ _ _ a m cap rfl).mono ?_; rintro e w' ⟨rfl, rfl⟩)
    obtain ⟨W1, hW1⟩ : ∃ W1, W1 = (W0.alloc (.cells #[.slice a m cap] 30)).alloc (.cells #[.int .i64 0] 3) := ⟨_, rfl⟩
    have b1 : Below W0.heap.size W0 W1 := by rw [hW1]; exact ((Below.refl _ W0).alloc (Nat.le_refl _) _).alloc (by simp) _
    have s1 : W0.heap.size + 2 ≤ W1.heap.size := by rw [hW1]; simp
    have bX : Boxed W1 W0.heap.size 30 (.slice a m cap) := by rw [hW1]; exact (Boxed.new W0 _ _).alloc _
    have bF : Boxed W1 (W0.heap.size + 1) 3 (.int .i64 ((0 : Nat) : Int)) := by rw [hW1]; have := Boxed.new (W0.alloc (.cells #[.slice a m cap] 30)) 3 (.int .i64 ((0 : Nat) : Int)); rw [World.size_alloc] at this; exact this
    have bH1 : Boxed W1 W.heap.size 30 (.slice ah nh ch) := (b1.block _ (by omega)).trans bH
    have bR1 : Boxed W1 (W.heap.size + 1) 4 (.bool false) := (b1.block _ (by omega)).trans bR
    have bb : Below W.heap.size W W1 := b0.trans (b1.mono (by omega))
    rw [← hW1]
    clear hW1 bH bR
    have hB1 := hB.keep bb
    refine wpIn_hands rfl (by omega) (gf := 77) (lb := #[.pointer (some ⟨W0.heap.size + 1, 0, none⟩), .pointer (some ⟨W0.heap.size, 0, none⟩)]) rfl trivial (enters_of Tryz.func77 (by kernel_rfl) rfl)
      (sectors_hands Fence.wide (4 - 1) trivial trivial rfl (by omega) (W0.heap.size + 1) W0.heap.size W1.heap.size a m cap zs 0 (fun k => k < W1.heap.size) bX.lt (fun b off h0 e => by obtain ⟨b', off', e', hc⟩ := hB1.lies h0; rw [e'] at e; cases e; exact cell_lt (hc 0 h0)) (by omega) (by omega) W1 (Nat.le_refl _) bF.cell bX.cell hB1) (Below.refl _ _)
      Ks.trans (ksK_b (fun k hk => hk)) (fun _ => rfl) (fun pre x => nx_own zs 0 _ pre x _)
      (fun pre V => (∀ k, k < pre.length → (hs.drop (64 * k)).take 64 = sec zs k) ∧ Below W1.heap.size W1 V)
      (fun pre V => hs ≠ clean zs ∧ Below W.heap.size W V ∧ V.cell? ⟨W.heap.size + 1, 0, none⟩ = some (.bool false))
      (OwnFrom.and (ownFrom_pure _ _) (ownFrom_below (Nat.le_refl _) (Nat.le_refl _)))
      (OwnFrom.and (ownFrom_pure _ _) (OwnFrom.and (ownFrom_below (Nat.le_refl _) (by omega)) (fun _ _ _ _ hs hg hr => cell_kept hs hg (fun r e => (hr r e).2))))
      ⟨fun k hk => absurd hk (Nat.not_lt_zero _), Below.refl _ _⟩
      (fun x => { tmps := #[.slice ah nh ch, .slice a m cap, .pointer (some ⟨W.heap.size, 0, none⟩), undef, .pointer (some ⟨W.heap.size + 1, 0, none⟩), .int .i64 (x.1 : Int), .slice (some ⟨x.2, 0, none⟩) 64 64, .slice ah nh ch, .int .i64 nh, .slice a m cap, .int .i64 m, .int .i64 (nsec m), .int .i64 ((nsec m : Int) * 64), .bool false, .slice a m cap, .func (.func 77) #[] #[.pointer (some ⟨W0.heap.size + 1, 0, none⟩), .pointer (some ⟨W0.heap.size, 0, none⟩)], .int .i64 (x.1 : Int), .slice (some ⟨x.2, 0, none⟩) 64 64, undef, undef, undef, undef, undef, undef, undef, undef, undef, undef], defers := [] }) ?assign ?body ?done ?stop
    case assign =>
      intro l x V K hK
      simp only [plEnc]
      gi_wp2
      exact hK
    case body =>
      rintro l pre ⟨x1, x2⟩ V ⟨hI, hbV⟩ ⟨q1, q2, q3, q4⟩
      simp only at q1 q2 q3 q4
      rw [hlen] at q2
      have Q1 := hide q1
      clear q1
      have cH := (hbV.cell (p := ⟨W.heap.size, 0, none⟩) bH1.lt).trans bH1.cell
      have cR := (hbV.cell (p := ⟨W.heap.size + 1, 0, none⟩) bR1.lt).trans bR1.cell
      have fR : V.frozen? ⟨W.heap.size + 1, 0, none⟩ = false := (hbV.frozen (p := ⟨W.heap.size + 1, 0, none⟩) bR1.lt).trans bR1.frozen
      have hHV := (hH.keep bb).keep hbV
      obtain ⟨b, off, rfl, _⟩ := hHV.lies (by omega)
      have hrow : V.ownsRow 0 5 1 (.slice (some ⟨x2, 0, none⟩) 64 64) 64 (U (sec zs x1)) := own_of_row 0 (Nat.zero_le _) q4 (by rw [U_length, sec_length]) (sec_length zs x1) (Nat.le_refl _) (by omega) (List.take_of_length_le (by rw [U_length, sec_length]; exact Nat.le_refl _))
      have hmid := hHV.mid (x1 * 64) 64 (by omega)
      have C := equal_any (own_bs hrow (sec_byte hB.byte x1)) hmid
      have hmm : (x1 + 1) * 64 - x1 * 64 = 64 := by omega
      have hin : (((x1 : Int) + 1) * 64) ≤ (nh : Int) := by omega
      have hks : ∀ A, Below W1.heap.size V A → Ks (fun k => k < W1.heap.size) V A := fun A h => ⟨h.size, fun k hk _ => h.block k hk⟩
      have HKS := hide (hks V (Below.refl _ _))
      have HBV := hide hbV
      have HI := hide hI
      clear hrow hmid hHV hks hbV hI
      by_cases hq : sec zs x1 = (hs.drop (x1 * 64)).take 64
      · rw [decide_eq_true hq] at C
        have hnew : Hid (∀ k, k < pre.length + 1 → (hs.drop (64 * k)).take 64 = sec zs k) := hide (fun k hk => by
          rcases Nat.lt_or_ge k pre.length with h | h
          · exact HI.out k h
          · have : k = x1 := by rw [Q1.out]; omega
            rw [this, hq, Nat.mul_comm])
        have HQ := hide hq
        clear hq
        gi_wp2_with (refine ⟨trivial, ?_⟩; gi_at_call 53; simp only [hmm]; refine (CallsIn.inRound l (callsIn_wide.2 C)).mono ?_; rintro e w3 ⟨rfl, hw3⟩; subst w3)
        exact ⟨KeepsFrom.refl _ _, HKS.out, hnew.out, HBV.out⟩
      · rw [decide_eq_false hq] at C
        have hne : Hid (hs ≠ clean zs) := hide (fun e => hq (by rw [e, Nat.mul_comm, clean_at zs x1 (by rw [hlen]; exact q2)]))
        have HQ := hide hq
        clear hq
        gi_wp2_with (refine ⟨trivial, ?_⟩; gi_at_call 53; simp only [hmm]; refine (CallsIn.inRound l (callsIn_wide.2 C)).mono ?_; rintro e w3 ⟨rfl, hw3⟩; subst w3)
        exact ⟨(KeepsOthers.setCell _ _ _).from _, hne.out, (bb.trans (HBV.out.mono (by omega))).setCell (p := ⟨W.heap.size + 1, 0, none⟩) (by simp) _⟩
    case done =>
      rintro D ys V hD hS ⟨hI, hbV⟩ hK
      have cR := (hbV.cell (p := ⟨W.heap.size + 1, 0, none⟩) bR1.lt).trans bR1.cell
      have fR : V.frozen? ⟨W.heap.size + 1, 0, none⟩ = false := (hbV.frozen (p := ⟨W.heap.size + 1, 0, none⟩) bR1.lt).trans bR1.frozen
      have heq : Hid (hs = clean zs) := hide (clean_ext (by rw [hhl, hlen]; exact HLL.out) (fun k hk => hI k (by rw [hS]; rw [hlen] at hk; exact hk)))
      have hK' := (KeepsOthers.setCell V ⟨W.heap.size + 1, 0, none⟩ (.bool true)).same D _ hK rfl
      have hc5 := cell_kept (World.cell?_setCell_same' V ⟨W.heap.size + 1, 0, none⟩ (.bool true) (by rw [cR]; rfl)) (grownBy_putObj' _ D (.deferred none)) (fun r e => by cases e; exact ⟨_, hK', rfl⟩)
      have hF := hide (((bb.trans (hbV.mono (by omega))).setCell (p := ⟨W.heap.size + 1, 0, none⟩) (by simp) (.bool true)).trans (belowK_b (w := W) (Nat.le_refl _) _ D _ (.deferred none) (by have := bb.size; omega) hK' rfl rfl))
      clear hbV hI hS
      gi_wp2
      refine ⟨by simp, .inl ⟨_, _, rfl, run_takeDeferred hK', ?_⟩⟩
      exact ⟨.bool true, by simp [results, Tryz.results30, go_sem, hc5], by rw [decide_eq_true heq.out], hF.out⟩
    case stop =>
      rintro D pre V hD ⟨hne, hbV, hc⟩ hK
      have hc5 := cell_kept hc (grownBy_putObj' _ D (.deferred none)) (fun r e => by cases e; exact ⟨_, hK, rfl⟩)
      have hF := hide (hbV.trans (belowK_b (w := W) (Nat.le_refl _) V D _ (.deferred none) (by have := bb.size; omega) hK rfl rfl))
      have HNE := hide hne
      clear hne hbV
      gi_wp2
      refine ⟨by simp, .inl ⟨_, _, rfl, run_takeDeferred hK, ?_⟩⟩
      exact ⟨.bool false, by simp [results, Tryz.results30, go_sem, hc5], by rw [decide_eq_false HNE.out], hF.out⟩
  · have e1 : ((nh : Int) != (nsec m : Int) * 64) = true := by
      simp only [bne_iff_ne, ne_eq]
      omega
    have hne : Hid (hs ≠ clean zs) := hide (fun e => hL (by rw [← hhl, e, clean_len, hlen]))
    clear hL
    gi_wp2_with fail
    refine wpIn_wide.2 ?_
    go_quiet (first | (go_at_call 35; exact Calls.quiet_of_same (sectorsFor_any m (by omega) _)))
    rename_i hKK
    obtain ⟨W0, hW0⟩ : ∃ W0, W0 = ((W.alloc (.cells #[.slice ah nh ch] 30)).alloc (.cells #[.bool false] 4)).drewN nq := ⟨_, rfl⟩
    have bR : Boxed W0 (W.heap.size + 1) 4 (.bool false) := by rw [hW0]; have := Boxed.new (W.alloc (.cells #[.slice ah nh ch] 30)) 4 (.bool false); rw [World.size_alloc] at this; exact this
    have b0 : Below W.heap.size W W0 := by rw [hW0]; exact below_dn _ (((Below.refl _ W).alloc (Nat.le_refl _) _).alloc (by simp) _)
    rw [← hW0]
    clear hW0
    refine hKK _ _ ?_
    have cR := bR.cell
    have fR := bR.frozen
    have hc5 := World.cell?_setCell_same' W0 ⟨W.heap.size + 1, 0, none⟩ (.bool false) (by rw [cR]; rfl)
    gi_wp2
    exact ⟨.bool false, by simp [results, Tryz.results30, go_sem, hc5], by rw [decide_eq_false hne.out], b0.setCell (p := ⟨W.heap.size + 1, 0, none⟩) (by simp) _⟩

end Go.Proofs.YtkdolabhcbjipaaGreat

/-
  The stream of a file: the data of its sectors, handed on, and put together.
-/
namespace Go.Proofs.YtkdolabhcbjipaaGreat
open Go.RowKit Go.Shelf
set_option maxRecDepth 100000
set_option linter.unusedVariables false

attribute [local go_sem] Oper.semAt_some

/-- The data that are handed on: of each sector up to the first that is not full. -/
def dats : List (List Int) → List (List Int)
  | [] => []
  | s :: rs => (s.drop 2).take (fil s) :: if fil s < 62 then [] else dats rs

theorem strm_dats (rs : List (List Int)) : strm rs = (dats rs).flatten := by
  induction rs with
  | nil => rfl
  | cons s rs ih =>
    simp only [strm, dats, List.flatten_cons]
    split
    · rfl
    · rw [ih]

/-- How far the sector at a place is filled, in a file's bytes. -/
def flh (hs : List Int) (i : Nat) : Nat := if 62 < hs.getD (64 * i) 0 then 0 else (hs.getD (64 * i) 0).toNat
/-- Its data. -/
def dth (hs : List Int) (i : Nat) : List Int := (hs.drop (64 * i + 2)).take (flh hs i)
theorem flh_le (hs : List Int) (i : Nat) : flh hs i ≤ 62 := by unfold flh; split <;> omega

/-- What is handed on, in memory. -/
def dtEnc (b off ch : Nat) (hs : List Int) (i : Nat) : Array Value := #[.slice (some ⟨b, off + (64 * i + 2), none⟩) (flh hs i) (ch - (64 * i + 2))]
/-- How many are handed on. -/
def Dn (hs : List Int) (n k : Nat) : Prop := k ≤ n ∧ (∀ j, j + 1 < k → flh hs j = 62) ∧ (k = n ∨ (0 < k ∧ flh hs (k - 1) < 62))

set_option maxHeartbeats 2000000 in
theorem data1_in (F : Fence) (n : Nat) (h117 : F.fn 73) (hro : F.round = none) (_hn : 2 ≤ n) (l Bx : Nat) (b off N ch : Nat) (hs : List Int) (S : Nat → Prop) (hSx : S Bx) (hSa : S b)
    (hN : N ≤ 1000000000) (J Jx : List Nat → World → Prop) (W : World)
    (hY : ∀ pre x V, J pre V → (x = pre.length ∧ x < N) → YieldAt F (n - 1) Tryz.prog l (dtEnc b off ch hs x) V fun e X => (e = .returned (.bool true) ∧ J (pre ++ [x]) X ∧ Ks S V X) ∨ (e = .returned (.bool false) ∧ Jx (pre ++ [x]) X))
    (hBx : W.cell? ⟨Bx, 0, none⟩ = some (.slice (some ⟨b, off, none⟩) (64 * N) ch)) (hB : Bs W (some ⟨b, off, none⟩) (64 * N) ch hs) (h0 : J [] W) :
    CallsIn F n Tryz.prog 73 #[.func (.yield l) #[] #[], .pointer (some ⟨Bx, 0, none⟩)] W fun e X => (∃ v, e = .returned v) ∧
      ((∃ ys : List Nat, Dn hs N ys.length ∧ J ys X) ∨ (∃ pre, Jx pre X)) := by
  have hlen := hB.len
  have hle := hB.le
  have hre := hB.reach
  have h1 : 1 ≤ n := by omega
  refine callsIn_of_wp Tryz.func73 rfl h117 ?_ hro
  simp only [Tryz.ntmps73, List.size_toArray, List.length_cons, List.length_nil, Nat.reduceAdd, Nat.reduceSub, Array.replicate_succ, Array.replicate_zero, List.push_toArray, List.append_toArray, List.nil_append, List.cons_append]
  gi_wp2
  gi_loopw [3] (fun p wr => ∃ (pre : List Nat), p = .int .i64 ((64 * pre.length : Nat) : Int) ∧ pre.length ≤ N ∧ (∀ j, j < pre.length → flh hs j = 62) ∧ J pre wr ∧ Ks S W wr)
    (fun p _ => 64 * N - (intOf p).toNat)
  case atStart =>
    exact ⟨[], rfl, Nat.zero_le _, fun j hj => absurd hj (Nat.not_lt_zero _), h0, Ks.refl _ _⟩
  case round =>
    obtain ⟨pre, rfl, hle1, hfu, hJs, hK⟩ := hrel
    have hBx2 := hK.cell hBx hSx
    have hB2 := hK.bs hB (fun b' off' _ e => by cases e; exact hSa)
    obtain ⟨K, hKe⟩ : ∃ K, Hid (K = pre.length) := ⟨_, hide rfl⟩
    rw [← hKe.out] at hle1
    rw [← hKe.out]
    by_cases h : K < N
    · obtain ⟨z, hz⟩ : ∃ z, Hid (z = hs.getD (64 * K) 0) := ⟨_, hide rfl⟩
      have hzb : 0 ≤ z ∧ z ≤ 255 := by rw [hz.out]; exact getD_byte hB.byte _
      obtain ⟨hz0, hz1⟩ := hzb
      have hcz : wr.cell? ⟨b, off + 64 * K, none⟩ = some (.int .u8 z) := by
        obtain ⟨b', off', e, hc⟩ := hB2.lies (by omega)
        cases e
        rw [hc (64 * K) (by omega), hz.out]
      obtain ⟨fn, tmps, assign, body, hy, hR⟩ := hY pre K wr hJs ⟨hKe.out, h⟩
      dsimp only [dtEnc] at hy
      have hflz : flh hs K = if 62 < z then 0 else z.toNat := by unfold flh; rw [← hz.out]
      clear hB2
      by_cases hz2 : 62 < z
      · rw [if_pos hz2] at hflz
        have HF := hide hflz
        rw [hflz] at hy
        clear hflz
        have FIN : Hid (Dn hs N (pre ++ [K]).length) := hide (by
          have e := hKe.out
          rw [List.length_append, List.length_singleton]
          refine ⟨by omega, fun j hj => hfu j (by omega), .inr ⟨by omega, ?_⟩⟩
          rw [Nat.add_sub_cancel, ← e, HF.out]
          omega)
        gi_wp2
        refine hR.mono ?_
        rintro e W3 (⟨rfl, hJ3, hk3⟩ | ⟨rfl, hJx3⟩)
        · gi_wp2
          refine bodyPost_ret (results_none rfl _ _ _) rfl ?_
          exact ⟨⟨_, rfl⟩, .inl ⟨_, FIN.out, hJ3⟩⟩
        · gi_wp2
          refine bodyPost_ret (results_none rfl _ _ _) rfl ?_
          exact ⟨⟨_, rfl⟩, .inr ⟨_, hJx3⟩⟩
      · rw [if_neg hz2] at hflz
        obtain ⟨k, rfl⟩ : ∃ k : Nat, z = (k : Int) := ⟨z.toNat, by omega⟩
        rw [Int.toNat_natCast] at hflz
        have HF := hide hflz
        rw [hflz] at hy
        clear hflz
        have hmm : 64 * K + 2 + k - (64 * K + 2) = k := by omega
        by_cases hk62 : k < 62
        · have FIN : Hid (Dn hs N (pre ++ [K]).length) := hide (by
            have e := hKe.out
            rw [List.length_append, List.length_singleton]
            refine ⟨by omega, fun j hj => hfu j (by omega), .inr ⟨by omega, ?_⟩⟩
            rw [Nat.add_sub_cancel, ← e, HF.out]
            exact hk62)
          gi_wp2
          refine hR.mono ?_
          rintro e W3 (⟨rfl, hJ3, hk3⟩ | ⟨rfl, hJx3⟩)
          · gi_wp2
            refine bodyPost_ret (results_none rfl _ _ _) rfl ?_
            exact ⟨⟨_, rfl⟩, .inl ⟨_, FIN.out, hJ3⟩⟩
          · gi_wp2
            refine bodyPost_ret (results_none rfl _ _ _) rfl ?_
            exact ⟨⟨_, rfl⟩, .inr ⟨_, hJx3⟩⟩
        · have hk : k = 62 := by omega
          subst hk
          gi_wp2
          refine hR.mono ?_
          rintro e W3 (⟨rfl, hJ3, hk3⟩ | ⟨rfl, hJx3⟩)
          · gi_wp2
            go_roundw
            case rel => exact ⟨pre ++ [K], by have e := hKe.out; simp; omega, by have e := hKe.out; simp; omega, fun j hj => by
              have e := hKe.out
              rw [List.length_append, List.length_singleton] at hj
              rcases Nat.lt_or_ge j pre.length with hh | hh
              · exact hfu j hh
              · have : j = K := by omega
                rw [this]; exact HF.out, hJ3, hK.trans hk3⟩
            case measure => simp [intOf]; omega
          · gi_wp2
            refine bodyPost_ret (results_none rfl _ _ _) rfl ?_
            exact ⟨⟨_, rfl⟩, .inr ⟨_, hJx3⟩⟩
    · have FIN : Hid (Dn hs N pre.length) := hide (by have e := hKe.out; exact ⟨by omega, fun j hj => hfu j (by omega), .inl (by omega)⟩)
      gi_wp2
      go_end0
      exact ⟨⟨_, rfl⟩, .inl ⟨pre, FIN.out, hJs⟩⟩

end Go.Proofs.YtkdolabhcbjipaaGreat

/-
  streamOf.
-/
namespace Go.Proofs.YtkdolabhcbjipaaGreat
open Go.RowKit Go.Shelf
set_option maxRecDepth 100000
set_option linter.unusedVariables false

attribute [local go_sem] Oper.semAt_some

/-- The data of the first k sectors. -/
def cat (hs : List Int) (k : Nat) : List Int := ((List.range k).map (dth hs)).flatten
theorem cat_succ (hs : List Int) (k : Nat) : cat hs (k + 1) = cat hs k ++ dth hs k := by simp [cat, List.range_succ]
theorem cat_le (hs : List Int) (k : Nat) : (cat hs k).length ≤ 62 * k := by
  induction k with
  | zero => simp [cat]
  | succ k ih =>
    have := flh_le hs k
    rw [cat_succ, List.length_append, dth, List.length_take]
    omega

theorem strm_take : ∀ (rs : List (List Int)) (k : Nat), k ≤ rs.length → (∀ j (h : j + 1 < k) (h2 : j < rs.length), fil rs[j] = 62) → (k = rs.length ∨ (0 < k ∧ ∀ h : k - 1 < rs.length, fil rs[k - 1] < 62)) →
    ((rs.take k).map fun s => (s.drop 2).take (fil s)).flatten = strm rs
  | [], k, _, _, _ => by simp [strm]
  | s :: rs, 0, _, _, h => by
    rcases h with h | h
    · simp at h
    · exact absurd h.1 (Nat.lt_irrefl _)
  | s :: rs, k + 1, hk, hf, h => by
    rw [List.take_succ_cons, List.map_cons, List.flatten_cons, strm]
    congr 1
    by_cases hs : fil s < 62
    · rw [if_pos hs]
      cases k with
      | zero => simp
      | succ k =>
        have := hf 0 (by omega) (by simp)
        simp only [List.getElem_cons_zero] at this
        omega
    · rw [if_neg hs]
      refine strm_take rs k (by simpa using hk) (fun j h1 h2 => ?_) ?_
      · have := hf (j + 1) (by omega) (by simp; omega)
        simpa using this
      · rcases h with h | ⟨_, h⟩
        · exact .inl (by simpa using h)
        · cases k with
          | zero =>
            have := h (by simp)
            simp only [Nat.zero_add, Nat.sub_self, List.getElem_cons_zero] at this
            omega
          | succ k =>
            refine .inr ⟨by omega, fun h2 => ?_⟩
            have := h (by simp at h2 ⊢; omega)
            simpa using this

theorem flh_row (rs : List (List Int)) (h : ∀ r ∈ rs, r.length = 64) (k : Nat) (hk : k < rs.length) : flh rs.flatten k = fil rs[k] ∧ dth rs.flatten k = (rs[k].drop 2).take (fil rs[k]) := by
  have e := rows_at rs h k hk
  have e1 : rs.flatten.getD (64 * k) 0 = (rs[k]).headD 0 := by
    rw [← e]
    have hl := rows_len rs h
    have : 64 * k < rs.flatten.length := by rw [hl]; omega
    rw [List.getD_eq_getElem?_getD, List.getElem?_eq_getElem this, Option.getD_some]
    rw [List.drop_eq_getElem_cons this]
    rfl
  have e2 : flh rs.flatten k = fil rs[k] := by unfold flh fil; rw [e1]
  refine ⟨e2, ?_⟩
  have hle : fil rs[k] ≤ 62 := by rw [← e2]; exact flh_le _ _
  unfold dth
  rw [e2]
  generalize fil rs[k] = f at hle
  rw [← e, List.drop_take, List.drop_drop, List.take_take, Nat.min_eq_left (by omega)]

/-- What is put together is the file's stream. -/
theorem cat_strm (rs : List (List Int)) (h : ∀ r ∈ rs, r.length = 64) (k : Nat) (hd : Dn rs.flatten rs.length k) : cat rs.flatten k = strm rs := by
  obtain ⟨h1, h2, h3⟩ := hd
  rw [← strm_take rs k h1 (fun j hj hl => by rw [← (flh_row rs h j hl).1]; exact h2 j hj) (h3.imp id (fun x => ⟨x.1, fun hl => by rw [← (flh_row rs h (k - 1) hl).1]; exact x.2⟩))]
  unfold cat
  congr 1
  refine List.ext_getElem (by simp; omega) (fun i hi hi2 => ?_)
  simp only [List.length_map, List.length_range] at hi
  rw [List.getElem_map, List.getElem_map, List.getElem_range, List.getElem_take]
  exact (flh_row rs h i (by omega)).2

set_option maxHeartbeats 1000000 in
theorem dataOf_in (F : Fence) (n : Nat) (h87 : F.fn 49) (hro : F.round = none) (v : Value) (w : World) (a : Option Addr) (m cap : Nat) (hv : v = .slice a m cap) :
    CallsIn F n Tryz.prog 49 #[v] w fun e w' => e = .returned (.func (.func 73) #[] #[.pointer (some ⟨w.heap.size, 0, none⟩)]) ∧ w' = w.alloc (.cells #[v] 30) := by
  subst hv
  refine callsIn_of_wp Tryz.func49 rfl h87 ?_ hro
  simp only [Tryz.ntmps49, List.size_toArray, List.length_cons, List.length_nil, Nat.reduceAdd, Nat.reduceSub, Array.replicate_succ, Array.replicate_zero, List.push_toArray, List.append_toArray, List.nil_append, List.cons_append]
  gi_wp2
  go_ret
  exact ⟨rfl, rfl⟩

set_option maxHeartbeats 1000000 in
theorem data0_in (F : Fence) (n : Nat) (h117 : F.fn 73) (hro : F.round = none) (l Bx : Nat) (a : Option Addr) (ch : Nat) (W : World) (hBx : W.cell? ⟨Bx, 0, none⟩ = some (.slice a 0 ch)) :
    CallsIn F n Tryz.prog 73 #[.func (.yield l) #[] #[], .pointer (some ⟨Bx, 0, none⟩)] W fun e X => (∃ v, e = .returned v) ∧ X = W := by
  refine callsIn_of_wp Tryz.func73 rfl h117 ?_ hro
  simp only [Tryz.ntmps73, List.size_toArray, List.length_cons, List.length_nil, Nat.reduceAdd, Nat.reduceSub, Array.replicate_succ, Array.replicate_zero, List.push_toArray, List.append_toArray, List.nil_append, List.cons_append]
  gi_wp2
  gi_loopw [3] (fun p wr => p = .int .i64 0 ∧ wr = W) (fun p _ => 0)
  case atStart => exact ⟨rfl, rfl⟩
  case round =>
    obtain ⟨rfl, rfl⟩ := hrel
    gi_wp2
    go_end0
    exact ⟨⟨_, rfl⟩, rfl⟩

theorem data_hands (F : Fence) (n : Nat) (h117 : F.fn 73) (hro : F.round = none) (hn : 2 ≤ n) (Bx : Nat) (a : Option Addr) (N ch : Nat) (hs : List Int) (S : Nat → Prop) (hSx : S Bx) (hSa : ∀ b off, 0 < 64 * N → a = some ⟨b, off, none⟩ → S b)
    (hN : N ≤ 1000000000) (w : World) (hBx : w.cell? ⟨Bx, 0, none⟩ = some (.slice a (64 * N) ch)) (hB : Bs w a (64 * N) ch hs) :
    ∃ b off, (0 < N → a = some ⟨b, off, none⟩) ∧ Hands F n Tryz.prog 73 #[.pointer (some ⟨Bx, 0, none⟩)] (dtEnc b off ch hs) (fun pre x _ => x = pre.length ∧ x < N) (Ks S) (fun ys => Dn hs N ys.length) w := by
  by_cases h0 : N = 0
  · subst h0
    refine ⟨0, 0, fun h => absurd h (Nat.lt_irrefl _), fun l J Jx W hW hJ hY hj => ?_⟩
    refine (data0_in F n h117 hro l Bx a ch W ((hW.cell (p := ⟨Bx, 0, none⟩) (cell_lt hBx)).trans hBx)).mono ?_
    rintro e X ⟨h1, rfl⟩
    exact ⟨h1, .inl ⟨[], ⟨Nat.le_refl _, fun j hj => by simp at hj, .inl rfl⟩, hj⟩⟩
  · obtain ⟨b, off, rfl, _⟩ := hB.lies (by omega)
    exact ⟨b, off, fun _ => rfl, fun l J Jx W hW hJ hY hj => data1_in F n h117 hro hn l Bx b off N ch hs S hSx (hSa b off (by omega) rfl) hN J Jx W hY ((hW.cell (p := ⟨Bx, 0, none⟩) (cell_lt hBx)).trans hBx) (hB.keep hW) hj⟩

set_option maxHeartbeats 4000000 in
theorem streamOf_any {W : World} {ah : Option Addr} {N ch : Nat} {hs : List Int} (hH : Bs W ah (64 * N) ch hs) (hN : N ≤ 1000000) :
    Calls Tryz.prog 27 #[.slice ah (64 * N) ch] W fun e W' => ∃ v k, e = .returned v ∧ Dn hs N k ∧ W'.ownsRow W.heap.size 5 1 v (cat hs k).length (U (cat hs k)) ∧ Below W.heap.size W W' := by
  refine (callsIn_wide (n := 4)).1 ?_
  obtain ⟨i0, hi, hz0, hz1, hz2⟩ := info_parts info5
  have hhl := hH.len
  refine callsIn_of_wp_marks Tryz.func27 rfl trivial ?_ rfl
  simp only [Tryz.ntmps27, List.size_toArray, List.length_cons, List.length_nil, Nat.reduceAdd, Nat.reduceSub, Array.replicate_succ, Array.replicate_zero, List.push_toArray, List.append_toArray, List.nil_append, List.cons_append]
  obtain ⟨M, hM⟩ : ∃ M, Hid (M = 64 * N) := ⟨_, hide rfl⟩
  rw [← hM.out]
  gi_wp2_with (refine ⟨trivial, ?_⟩; gi_at_call 49; refine (dataOf_in Fence.wide 3 trivial rfl _ _ ah M ch rfl).mono ?_; rintro e w' ⟨rfl, rfl⟩)
  obtain ⟨W1, hW1⟩ : ∃ W1, W1 = (W.alloc (.cells #[.slice none 0 0] 30)).alloc (.cells #[.slice ah M ch] 30) := ⟨_, rfl⟩
  have bb : Below W.heap.size W W1 := by rw [hW1]; exact ((Below.refl _ W).alloc (Nat.le_refl _) _).alloc (by simp) _
  have bS : Boxed W1 W.heap.size 30 (.slice none 0 0) := by rw [hW1]; exact (Boxed.new W _ _).alloc _
  have bX : Boxed W1 (W.heap.size + 1) 30 (.slice ah M ch) := by rw [hW1]; have := Boxed.new (W.alloc (.cells #[.slice none 0 0] 30)) 30 (.slice ah M ch); rw [World.size_alloc] at this; exact this
  have s1 : W.heap.size + 2 ≤ W1.heap.size := by rw [hW1]; simp
  rw [← hW1]
  clear hW1
  have hB1 := hH.keep bb
  rw [hM.out] at bX
  obtain ⟨b, off, hab, hHs⟩ := data_hands Fence.wide (4 - 1) trivial rfl (by omega) (W.heap.size + 1) ah N ch hs (fun k => k < W.heap.size ∨ k = W.heap.size + 1) (.inr rfl) (fun b off h0 e => by
    obtain ⟨b', off', e', hc⟩ := hH.lies h0
    rw [e'] at e
    cases e
    have := cell_lt (hc 0 h0)
    simp only at this
    exact .inl this) (by omega) W1 bX.cell hB1
  have hbl : 0 < N → b < W.heap.size := fun h0 => by
    obtain ⟨b', off', e', hc⟩ := hH.lies (by omega)
    rw [hab h0] at e'
    cases e'
    exact cell_lt (hc 0 (by omega))
  refine wpIn_hands rfl (by omega) (gf := 73) (lb := #[.pointer (some ⟨W.heap.size + 1, 0, none⟩)]) rfl trivial (enters_of Tryz.func73 (by kernel_rfl) rfl) hHs (Below.refl _ _)
    Ks.trans (ksK_b (fun k hk => by omega)) (fun _ => rfl) (fun pre x => ownFrom_pure _ _)
    (fun pre V => (pre.length ≤ N ∧ ∃ v, Boxed V W.heap.size 30 v ∧ V.ownsRow W.heap.size 5 1 v (cat hs pre.length).length (U (cat hs pre.length))) ∧ Below W.heap.size W V ∧ Boxed V (W.heap.size + 1) 30 (.slice ah (64 * N) ch))
    (fun pre V => False)
    (fun pre A B row h hg hr => ?own)
    (fun _ _ _ _ h _ _ => h)
    ⟨⟨Nat.zero_le _, _, bS, World.ownsRow_nil _ _ _ _⟩, bb, bX⟩
    (fun x => { tmps := #[.slice ah M ch, undef, .slice none 0 0, .pointer (some ⟨W.heap.size, 0, none⟩), .slice (some ⟨b, off + (64 * x + 2), none⟩) (flh hs x) (ch - (64 * x + 2)), .slice ah M ch, .func (.func 73) #[] #[.pointer (some ⟨W.heap.size + 1, 0, none⟩)], .slice (some ⟨b, off + (64 * x + 2), none⟩) (flh hs x) (ch - (64 * x + 2)), undef, undef, undef, undef], defers := [] }) ?assign ?body ?done ?stop
  case own =>
    obtain ⟨⟨h1, v, h2, h3⟩, h4, h5⟩ := h
    have hb : ∀ g, row = some g → ∃ o : Obj, A.heap[g]? = some o ∧ o.isCells = false := fun g e => (hr g e).2
    refine ⟨⟨h1, v, (hg.block _ h2.lt (fun e => ?_)).trans h2, row_heap h3 (fun g hgv => hg.block g (row_lt h3 hgv) (fun e => ?_))⟩, h4.grown hg h4.size (fun k e => by have := (hr k e).1; omega), (hg.block _ h5.lt (fun e => ?_)).trans h5⟩
    · obtain ⟨o, h6, h7⟩ := hb _ e.symm
      rw [show A.heap[W.heap.size]? = _ from h2] at h6
      cases h6
      cases h7
    · obtain ⟨o, h6, h7⟩ := hb _ e.symm
      rcases h3.2 with ⟨rfl, _⟩ | ⟨g', cp, cur, rfl, _, hgg, _⟩
      · cases hgv
      · simp only [Value.ownBlock, Option.some.injEq] at hgv
        subst hgv
        rw [hgg] at h6
        cases h6
        cases h7
    · obtain ⟨o, h6, h7⟩ := hb _ e.symm
      rw [show A.heap[W.heap.size + 1]? = _ from h5] at h6
      cases h6
      cases h7
  case assign =>
    intro l x V K hK
    simp only [dtEnc]
    gi_wp2
    exact hK
  case body =>
    rintro l pre x V ⟨⟨hpl, v, hv, hrow⟩, hbV, hsV⟩ ⟨q1, q2⟩
    have hH2 := hH.keep hbV
    rw [hab (by omega)] at hH2
    obtain ⟨F, hF⟩ : ∃ F, Hid (F = flh hs x) := ⟨_, hide rfl⟩
    rw [← hF.out]
    have hFl : F ≤ 62 := by rw [hF.out]; exact flh_le hs x
    have hle := hH.le
    have hsrc : Bs V (some ⟨b, off + (64 * x + 2), none⟩) F (ch - (64 * x + 2)) (dth hs x) := by
      have := hH2.mid (64 * x + 2) F (by omega)
      rw [dth, ← hF.out]
      exact this
    have hcl := cat_le hs pre.length
    have hc := hv.cell
    have Q1 := hide q1
    clear q1 hH2
    have SRC : ∀ j u, (U (dth hs x))[j]? = some u → V.cell? ((⟨b, off + (64 * x + 2), none⟩ : Addr).add j) = some u := fun j u hj => by
      rcases Nat.eq_zero_or_pos F with h0 | h0
      · have : dth hs x = [] := List.eq_nil_of_length_eq_zero (by rw [hsrc.len, h0])
        rw [this] at hj
        simp [U] at hj
      · obtain ⟨ad, e, h3⟩ := hsrc.src h0
        cases e
        exact h3 j u hj
    have hdl := hsrc.len
    have HSRC := hide SRC
    obtain ⟨va, vc, rfl⟩ := row_val hrow
    have FIN : Hid (∀ (w3 : World) (v' : Value), w3.ownsRow W.heap.size 5 1 v' ((cat hs pre.length).length + F) (U (cat hs pre.length) ++ U (dth hs x)) → V.grownBy w3 (Value.slice va (cat hs pre.length).length vc).ownBlock →
        Boxed w3 W.heap.size 30 (.slice va (cat hs pre.length).length vc) ∧ KeepsFrom W1.heap.size V (w3.setCell ⟨W.heap.size, 0, none⟩ v') ∧ Ks (fun k => k < W.heap.size ∨ k = W.heap.size + 1) V (w3.setCell ⟨W.heap.size, 0, none⟩ v') ∧
        ((pre.length + 1 ≤ N ∧ ∃ v, Boxed (w3.setCell ⟨W.heap.size, 0, none⟩ v') W.heap.size 30 v ∧ (w3.setCell ⟨W.heap.size, 0, none⟩ v').ownsRow W.heap.size 5 1 v (cat hs (pre.length + 1)).length (U (cat hs (pre.length + 1)))) ∧ Below W.heap.size W (w3.setCell ⟨W.heap.size, 0, none⟩ v') ∧ Boxed (w3.setCell ⟨W.heap.size, 0, none⟩ v') (W.heap.size + 1) 30 (.slice ah (64 * N) ch))) := hide (by
      intro w3 v' ho hg
      have hv3 : Boxed w3 W.heap.size 30 (.slice va (cat hs pre.length).length vc) := hv.kept hg (hv.not_row (by decide) hrow)
      have hx3 : Boxed w3 (W.heap.size + 1) 30 (.slice ah (64 * N) ch) := hsV.kept hg (hsV.not_row (by decide) hrow)
      have hoth : ∀ k, k ≠ W.heap.size → (w3.setCell ⟨W.heap.size, 0, none⟩ v').heap[k]? = w3.heap[k]? := fun k hk => Below.heap_setCell w3 ⟨W.heap.size, 0, none⟩ v' k hk
      have hbel : Below W.heap.size W (w3.setCell ⟨W.heap.size, 0, none⟩ v') := (hbV.grown hg hbV.size (fun k e => own_from hrow e)).setCell (p := ⟨W.heap.size, 0, none⟩) (Nat.le_refl _) _
      have hsz : V.heap.size ≤ (w3.setCell ⟨W.heap.size, 0, none⟩ v').heap.size := by simpa [World.setCell] using hg.size
      refine ⟨hv3, ⟨hsz, fun k o hB hk hnc => ?_⟩, ⟨hsz, fun k hk hkl => ?_⟩, ⟨by have := Q1.out; omega, v', hv3.set v', ?_⟩, hbel, (hoth _ (by omega)).trans hx3⟩
      · rw [hoth k (by omega)]
        refine (hg.block k (Array.getElem?_eq_some_iff.1 hk).1 (fun e => ?_)).trans hk
        rcases hrow.2 with ⟨h1, _⟩ | ⟨g', cp, cur, h1, _, hgg, _⟩
        · rw [h1] at e; cases e
        · rw [h1] at e
          simp only [Value.ownBlock, Option.some.injEq] at e
          rw [e, hgg] at hk
          cases hk
          cases hnc
      · rw [hoth k (by omega)]
        refine hg.block k hkl (fun e => ?_)
        rcases hk with hk | hk
        · have := own_from hrow e.symm
          omega
        · rw [hk] at e
          exact hsV.not_row (by decide) hrow e
      · have ho2 : w3.ownsRow W.heap.size 5 1 v' (cat hs (pre.length + 1)).length (U (cat hs (pre.length + 1))) := by
          rw [cat_succ, show dth hs pre.length = dth hs x from (by rw [Q1.out]), U_append, List.length_append, hdl]
          exact ho
        exact ho2.kept (grownBy_setCell' w3 W.heap.size v') (.inr (hv3.not_row (by decide) ho2).symm))
    obtain ⟨L0, hL0⟩ : ∃ L0, Hid (L0 = (cat hs pre.length).length) := ⟨_, hide rfl⟩
    rw [← hL0.out] at hrow hcl hc
    have HR := hide hrow
    have hbs := hbV.size
    clear hv hsV hbV hrow
    gi_wp2_with (gi_at_builtin; refine wpListIn_append_own _ rfl _ _ 30 rfl W.heap.size 5 i0 (.int .u8 0) 1 1 Tryz.underlying30 hi hz0 hz1 hz2 rfl (by decide) _ L0 _ rfl HR.out ⟨b, off + (64 * x + 2), none⟩ F (ch - (64 * x + 2)) (U (dth hs x)) rfl (by rw [U_length, hdl, Nat.mul_one]) HSRC.out (U_one _) (by unfold maxLen; omega) (by omega) hbs ?_; intro v' w3 hown' hgrow _; rw [hL0.out] at hown' hgrow; obtain ⟨k1, k2, k3, k4⟩ := FIN.out w3 v' hown' hgrow; obtain ⟨va', vc', rfl⟩ := row_val hown'; have hc1 := k1.cell; have hf1 := k1.frozen; have K2 := hide k2; have K3 := hide k3; have K4 := hide k4; clear k1 k2 k3 k4 hown' hgrow)
    exact ⟨K2.out, K3.out, K4.out⟩
  case done =>
    rintro D ys V hD hS ⟨⟨hpl, v, hv, hrow⟩, hbV, hsV⟩ hK
    have hc := hv.cell
    have hrow2 := hide (ownsRow_putObj hrow (.deferred none) hK rfl)
    have hF := hide (hbV.trans (belowK_b (w := W) (Nat.le_refl _) V D _ (.deferred none) (by omega) hK rfl rfl))
    have HS := hide hS
    clear hv hrow hbV hsV hS
    gi_wp2
    refine ⟨by simp, .inl ⟨_, _, rfl, run_takeDeferred hK, ?_⟩⟩
    exact ⟨_, results_tmp rfl _ _ _, v, ys.length, rfl, HS.out, hrow2.out, hF.out⟩
  case stop =>
    rintro D pre V hD h hK
    exact h.elim

end Go.Proofs.YtkdolabhcbjipaaGreat

/-
  What a crash leaves of a file: of each sector what some stream between two has there; so its stream is between these two.
-/
namespace Go.Proofs.YtkdolabhcbjipaaGreat
open Go.RowKit
set_option maxRecDepth 100000
set_option linter.unusedVariables false

/-- A sector says that it has these data. -/
def Hol (s : List Int) (x : List Int) : Prop := fil s = x.length ∧ (s.drop 2).take (fil s) = x

theorem hol_sec (zs : List Int) (i : Nat) : Hol (sec zs i) (dat zs i) := ⟨fil_sec zs i, sec_data zs i⟩
theorem hol_zero : Hol (List.replicate 64 0) [] := ⟨rfl, rfl⟩

/-- Of each sector what some stream between the two has there. -/
structure Hd (Zl Zh : List Int) (r : List (List Int)) : Prop where
  len : nsec Zl.length ≤ r.length
  at' : ∀ i (h : i < r.length), ∃ Z, Zl <+: Z ∧ Z <+: Zh ∧ Hol r[i] (dat Z i)

theorem nsec_mono {a b : Nat} (h : a ≤ b) : nsec a ≤ nsec b := by unfold nsec; omega
theorem dat_beyond {Z : List Int} {i : Nat} (h : nsec Z.length ≤ i) : dat Z i = [] := by
  unfold dat
  rw [List.drop_of_length_le (by unfold nsec at h; omega), List.take_nil]

theorem Hd.wide {Zl Zl' Zh Zh' : List Int} {r : List (List Int)} (h : Hd Zl Zh r) (h1 : Zl' <+: Zl) (h2 : Zh <+: Zh') : Hd Zl' Zh' r :=
  ⟨Nat.le_trans (nsec_mono h1.length_le) h.len, fun i hi => by obtain ⟨Z, a, b, c⟩ := h.at' i hi; exact ⟨Z, h1.trans a, b.trans h2, c⟩⟩

/-- A step between the two. -/
def Btw (Zl Zh : List Int) (t : Stp) : Prop := (t.kind = 1 ∧ ∃ Z i, Zl <+: Z ∧ Z <+: Zh ∧ t.at' = ((i : Nat) : Int) ∧ t.data = sec Z i) ∨ (t.kind = 2 ∧ (nsec Zl.length : Int) ≤ t.at')

theorem Btw.wide {Zl Zl' Zh Zh' : List Int} {t : Stp} (h : Btw Zl Zh t) (h1 : Zl' <+: Zl) (h2 : Zh <+: Zh') : Btw Zl' Zh' t := by
  rcases h with ⟨a, Z, i, b, c, e, g⟩ | ⟨a, b⟩
  · exact .inl ⟨a, Z, i, h1.trans b, c.trans h2, e, g⟩
  · exact .inr ⟨a, by have := nsec_mono h1.length_le; omega⟩

theorem putIn_len (r : List (List Int)) (k : Nat) (x : List Int) : (putIn r k x).length = max r.length (k + 1) := by
  unfold putIn
  rw [List.length_set, List.length_append, List.length_replicate]
  omega
theorem putIn_at (r : List (List Int)) (k : Nat) (x : List Int) (i : Nat) (h : i < (putIn r k x).length) : (putIn r k x)[i] = if i = k then x else if h2 : i < r.length then r[i] else List.replicate 64 0 := by
  by_cases e : i = k
  · rw [if_pos e]
    simp only [putIn]
    rw [List.getElem_set, if_pos e.symm]
  · rw [if_neg e]
    simp only [putIn]
    rw [List.getElem_set, if_neg (fun x => e x.symm), List.getElem_append]
    by_cases h2 : i < r.length
    · rw [dif_pos h2, dif_pos h2]
    · rw [dif_neg h2, dif_neg h2, List.getElem_replicate]

theorem Hd.step {Zl Zh : List Int} {r : List (List Int)} {t : Stp} (h : Hd Zl Zh r) (hlh : Zl <+: Zh) (ht : Btw Zl Zh t) : Hd Zl Zh (rstep r t) := by
  unfold rstep
  rcases ht with ⟨hk, Z, i, a, b, e, g⟩ | ⟨hk, hn⟩
  · rw [if_pos hk, e, g, Int.toNat_natCast]
    have hl := putIn_len r i (sec Z i)
    refine ⟨by have := h.len; omega, fun j hj => ?_⟩
    rw [putIn_at]
    by_cases e1 : j = i
    · rw [if_pos e1, e1]
      exact ⟨Z, a, b, hol_sec Z i⟩
    · rw [if_neg e1]
      by_cases e2 : j < r.length
      · rw [dif_pos e2]
        exact h.at' j e2
      · rw [dif_neg e2]
        exact ⟨Zl, List.prefix_refl _, hlh, by rw [dat_beyond (by have := h.len; omega)]; exact hol_zero⟩
  · rw [if_neg (by omega)]
    split
    · refine ⟨by rw [List.length_take]; have := h.len; omega, fun j hj => ?_⟩
      rw [List.getElem_take]
      exact h.at' j (by rw [List.length_take] at hj; omega)
    · exact h

theorem Hd.steps {Zl Zh : List Int} (hlh : Zl <+: Zh) : ∀ (ts : List Stp) (r : List (List Int)), Hd Zl Zh r → (∀ t ∈ ts, Btw Zl Zh t) → Hd Zl Zh (rsteps ts r) := by
  intro ts
  induction ts with
  | nil => exact fun r h _ => h
  | cons t ts ih => exact fun r h ht => ih _ (h.step hlh (ht t (by simp))) (fun x hx => ht x (by simp [hx]))

/-- A prefix's data at a place are a prefix of the data there. -/
theorem dat_pre {Z Z' : List Int} (h : Z <+: Z') (i : Nat) : dat Z i <+: Z'.drop (62 * i) := by
  obtain ⟨t, rfl⟩ := h
  unfold dat
  by_cases hi : 62 * i ≤ Z.length
  · rw [List.drop_append_of_le_length hi]
    exact (List.take_prefix _ _).trans (List.prefix_append _ _)
  · rw [List.drop_of_length_le (by omega)]
    simp

/-- The stream of such sectors, from a place on. -/
theorem strm_from {Zl Zh : List Int} : ∀ (rs : List (List Int)) (k : Nat), (∀ i (h : i < rs.length), ∃ Z, Zl <+: Z ∧ Z <+: Zh ∧ Hol rs[i] (dat Z (k + i))) → strm rs <+: Zh.drop (62 * k) ∧ (nsec Zl.length ≤ k + rs.length → Zl.drop (62 * k) <+: strm rs)
  | [], k, _ => by
    refine ⟨by simp [strm], fun h => ?_⟩
    simp only [List.length_nil, Nat.add_zero] at h
    rw [List.drop_of_length_le (by unfold nsec at h; omega)]
    simp
  | s :: rs, k, h => by
    obtain ⟨Z, a, b, c1, c2⟩ := h 0 (by simp)
    simp only [List.getElem_cons_zero, Nat.add_zero] at c1 c2
    have hp := dat_pre b k
    have hl := dat_length Z k
    obtain ⟨i1, i2⟩ := strm_from rs (k + 1) (fun i hi => by
      have := h (i + 1) (by simp; omega)
      simp only [List.getElem_cons_succ] at this
      rw [show k + 1 + i = k + (i + 1) from by omega]
      exact this)
    have hal := a.length_le
    unfold strm
    rw [c2]
    by_cases hf : fil s < 62
    · rw [if_pos hf, List.append_nil]
      refine ⟨hp, fun _ => ?_⟩
      -- the stream ends here: what the lesser one has from here on is shorter than a sector
      have hz : Zl.drop (62 * k) <+: Z.drop (62 * k) := by
        obtain ⟨t, rfl⟩ := a
        by_cases hi : 62 * k ≤ Zl.length
        · rw [List.drop_append_of_le_length hi]; exact List.prefix_append _ _
        · rw [List.drop_of_length_le (by omega)]; simp
      have hz2 : dat Z k = Z.drop (62 * k) := by
        unfold dat
        refine List.take_of_length_le ?_
        rw [List.length_drop]
        omega
      rw [hz2]
      exact hz
    · rw [if_neg hf]
      have h62 : (dat Z k).length = 62 := by have := dat_le Z k; omega
      have e62 : Zh.drop (62 * k) = dat Z k ++ Zh.drop (62 * (k + 1)) := by
        obtain ⟨t, ht⟩ := hp
        have : Zh.drop (62 * (k + 1)) = t := by
          rw [show 62 * (k + 1) = 62 * k + 62 from by omega, ← List.drop_drop, ← ht, ← h62, List.drop_left' rfl]
        rw [this, ht]
      refine ⟨?_, fun hn => ?_⟩
      · rw [e62]
        exact (List.prefix_append_right_inj _).2 i1
      · have i3 := i2 (by simp only [List.length_cons] at hn; omega)
        have hpl := dat_pre (a.trans b) k
        by_cases hlong : 62 * k + 62 ≤ Zl.length
        · have e1 : dat Zl k = dat Z k := by
            have h1 : (dat Zl k).length = 62 := by rw [dat_length]; omega
            obtain ⟨t1, q1⟩ := hpl
            obtain ⟨t2, q2⟩ := hp
            have : (dat Zl k ++ t1).take 62 = (dat Z k ++ t2).take 62 := by rw [q1, q2]
            rwa [List.take_left' h1, List.take_left' h62] at this
          have e2 : Zl.drop (62 * k) = dat Z k ++ Zl.drop (62 * (k + 1)) := by
            rw [← e1, dat, show 62 * (k + 1) = 62 * k + 62 from by omega, ← List.drop_drop, List.take_append_drop]
          rw [e2]
          exact (List.prefix_append_right_inj _).2 i3
        · have hz : Zl.drop (62 * k) <+: dat Z k := by
            obtain ⟨t, rfl⟩ := a
            unfold dat
            by_cases hi : 62 * k ≤ Zl.length
            · rw [List.drop_append_of_le_length hi, List.take_append, List.take_of_length_le (by rw [List.length_drop]; omega)]
              exact List.prefix_append _ _
            · rw [List.drop_of_length_le (by omega)]; simp
          exact hz.trans (List.prefix_append _ _)

/-- The stream is between the two. -/
theorem Hd.strm {Zl Zh : List Int} {r : List (List Int)} (h : Hd Zl Zh r) : strm r <+: Zh ∧ Zl <+: strm r := by
  have := strm_from r 0 (fun i hi => by rw [Nat.zero_add]; exact h.at' i hi)
  simp only [Nat.mul_zero, List.drop_zero, Nat.zero_add] at this
  exact ⟨this.1, this.2 h.len⟩

/-- The frames of a beginning are a beginning of the frames. -/
theorem frs_pre : ∀ (bs : List (List Int)), (∀ b ∈ bs, b.length ≤ 65536) → ∀ m, ∃ k, k ≤ bs.length ∧ frs ((flat bs).take m) = bs.take k
  | [], _, m => ⟨0, Nat.le_refl _, by simp [flat, frs_nil]⟩
  | b :: bs, h, m => by
    have hb := h b (by simp)
    by_cases hm : 4 + b.length ≤ m
    · obtain ⟨k, hk, e⟩ := frs_pre bs (fun x hx => h x (by simp [hx])) (m - (4 + b.length))
      refine ⟨k + 1, by simp; omega, ?_⟩
      rw [flat_cons, List.take_append, List.take_of_length_le (by rw [fr_length]; exact hm), fr_length]
      have := frs_of_flat (bs := [b]) (by simpa using hb) ((flat bs).take (m - (4 + b.length)))
      rw [show flat [b] = fr b from by simp [flat]] at this
      rw [this, e]
      rfl
    · refine ⟨0, Nat.zero_le _, ?_⟩
      rw [flat_cons, List.take_append_of_le_length (by rw [fr_length]; omega), List.take_zero]
      by_cases h4 : m < 4
      · exact frs_few (by rw [List.length_take]; omega)
      · have hl : ((fr b).take m).length = m := by rw [List.length_take, fr_length]; omega
        have hu : un (((fr b).take m).take 4) = b.length := by
          rw [List.take_take, Nat.min_eq_left (by omega), fr, List.take_left' (be_length 4 _), un_be, Nat.mod_eq_of_lt (by omega)]
        rw [frs_eq, if_neg (by omega), if_neg (by omega), if_pos (by omega)]

/-- The frames of what is between. -/
theorem frs_between {bs : List (List Int)} {n : Nat} {zs : List Int} (h : ∀ b ∈ bs, b.length ≤ 65536) (hl : flat (bs.take n) <+: zs) (hh : zs <+: flat bs) : ∃ k, min n bs.length ≤ k ∧ k ≤ bs.length ∧ frs zs = bs.take k := by
  have e : zs = (flat bs).take zs.length := List.prefix_iff_eq_take.1 hh
  obtain ⟨k, hk, e2⟩ := frs_pre bs h zs.length
  rw [← e] at e2
  obtain ⟨t, ht⟩ := hl
  have e3 := frs_of_flat (bs := bs.take n) (fun b hb => h b (List.mem_of_mem_take hb)) t
  rw [ht, e2] at e3
  have := congrArg List.length e3
  rw [List.length_append, List.length_take, List.length_take] at this
  exact ⟨k, by omega, hk, e2⟩

end Go.Proofs.YtkdolabhcbjipaaGreat

/-
  endsOf, endOf.
-/
namespace Go.Proofs.YtkdolabhcbjipaaGreat
open Go.RowKit
set_option maxRecDepth 100000
set_option linter.unusedVariables false

/-- Numbers as values. -/
def Nn (xs : List Nat) : List Value := xs.map fun (n : Nat) => Value.int .i64 (n : Int)
theorem Nn_length (xs : List Nat) : (Nn xs).length = xs.length := by simp [Nn]

theorem info3 : (Tryz.prog.info? 3).map (fun i => (i.zero, i.size, i.bytes)) = some (some (.int .i64 0), 1, 8) := by kernel_rfl

set_option maxHeartbeats 1000000 in
theorem endOf_any {w : World} {base : Nat} {a : Option Addr} {k c : Nat} {bs : List (List Int)} {n : Nat} (h : w.ownsRow base 3 1 (.slice a k c) k (Nn (eds bs))) (hk : k = bs.length) (hn : n ≤ k) (hc : k ≤ 1000000000000) :
    Calls Tryz.prog 29 #[.slice a k c, .int .i64 (n : Int)] w fun e w' => e = .returned (.int .i64 (edAt bs n : Int)) ∧ w' = w := by
  by_cases h0 : n = 0
  · subst h0
    have e0 : edAt bs 0 = 0 := rfl
    rw [e0]
    go_enter Tryz.func29, Tryz.ntmps29
    go_wp2_with fail
    go_ret
    exact ⟨rfl, rfl⟩
  · obtain ⟨j, rfl⟩ : ∃ j, n = j + 1 := ⟨n - 1, by omega⟩
    obtain ⟨g, c', e⟩ := own_shape h (by omega)
    simp only [Value.slice.injEq] at e
    obtain ⟨rfl, _, rfl⟩ := e
    have hcell : w.cell? ⟨g, j, none⟩ = some (.int .i64 (edAt bs (j + 1) : Int)) := by
      have := h.cells (g := g) rfl j (.int .i64 (edAt bs (j + 1) : Int)) (by
        rw [Nn, List.getElem?_map, eds_get bs j (by omega)]
        rfl)
      rw [Addr.add_lit, Nat.zero_add] at this
      exact this
    obtain ⟨E, hE⟩ : ∃ E, Hid (E = edAt bs (j + 1)) := ⟨_, hide rfl⟩
    rw [← hE.out] at hcell
    rw [← hE.out]
    have hkc : k ≤ c := by
      rcases h.2 with ⟨h1, _⟩ | ⟨g', cap, cur, h1, _, _, h2, _⟩
      · cases h1
      · simp only [Value.slice.injEq] at h1
        omega
    clear h hk
    go_enter Tryz.func29, Tryz.ntmps29
    go_wp2_with fail
    go_ret
    exact ⟨rfl, rfl⟩

/-- The reader, and the ends so far. -/
structure Es (W : World) (R : Nat) (zs : List Int) (p : Nat) (ev : Value) (bs : List (List Int)) (wr : World) : Prop where
  rd : ∃ lv r, Rd wr W.heap.size R lv r false ∧ parse (zs.take p) = some (bs, r)
  ends : wr.ownsRow W.heap.size 3 1 ev bs.length (Nn (eds bs))
  bel : Below W.heap.size W wr

/-- The same, while bodies that were told are gone through. -/
structure Ei (W : World) (R : Nat) (zs : List Int) (p : Nat) (bs : List (List Int)) (rs : List (Value × List Int)) (v : Value) (k : Nat) (ev : Value) (wr : World) : Prop where
  rd : ∃ lv r, Rd wr W.heap.size R lv r false ∧ parse (zs.take p) = some (bs ++ rs.map (·.2), r)
  ll : LL wr W.heap.size v rs
  ends : wr.ownsRow W.heap.size 3 1 ev (bs.length + k) (Nn (eds (bs ++ (rs.map (·.2)).take k)))
  bel : Below W.heap.size W wr

section
variable {W wr w2 w3 : World} {R p k : Nat} {zs : List Int} {bs : List (List Int)} {rs : List (Value × List Int)} {v ev ev' : Value}

theorem Rd.obj_not {w : World} {base R n base' size : Nat} {lv : Value} {l : List Int} {ended : Bool} (h : Rd w base R lv l ended) {e : TypeId} {x : Value} {xs : List Value} (ho : w.ownsRow base' e size x n xs) (he : e ≠ (124 : TypeId)) : x.ownBlock ≠ some R := by
  intro hx
  rcases ho.2 with ⟨h1, _⟩ | ⟨g, cap, cur, h1, _, hg, _⟩
  · rw [h1] at hx; cases hx
  · rw [h1] at hx
    simp only [Value.ownBlock, Option.some.injEq] at hx
    subst hx
    rw [h.obj] at hg
    cases hg
    exact he rfl

theorem Ei.step (h : Ei W R zs p bs rs v k ev wr) (hk : k < rs.length) {tmp : Obj} (ho : w3.ownsRow W.heap.size 3 1 ev' (bs.length + k + 1) (Nn (eds (bs ++ (rs.map (·.2)).take k)) ++ [.int .i64 ((flat (bs ++ (rs.map (·.2)).take (k + 1))).length : Int)]))
    (hg : (wr.alloc tmp).grownBy w3 ev.ownBlock) : Ei W R zs p bs rs v (k + 1) ev' w3 := by
  obtain ⟨lv, r, h1, h2⟩ := h.rd
  have ha : Below wr.heap.size wr (wr.alloc tmp) := (Below.refl _ wr).alloc (Nat.le_refl _) _
  have hb : Bar (fun g => ev.ownBlock = some g) (wr.alloc tmp) w3 := Bar.of_grown hg
  have he := h.ends.alloc tmp
  refine ⟨⟨lv, r, (h1.keep ha).bar hb (fun e => (h1.keep ha).obj_not he (by decide) e) (fun b hb' e => own_types (h1.keep ha).own he (by decide) hb' e), h2⟩, ?_, ?_, ?_⟩
  · exact (h.ll.keep ha).bar hb (fun b hb' e => own_types (h.ll.keep ha).own he (by decide) hb' e) (fun q hq b hb' e => own_types ((h.ll.keep ha).row q hq) he (by decide) hb' e)
  · have e1 : bs ++ (rs.map (·.2)).take (k + 1) = (bs ++ (rs.map (·.2)).take k) ++ [(rs.map (·.2))[k]'(by simpa using hk)] := by
      rw [List.take_add_one, List.getElem?_eq_getElem (by simpa using hk), List.append_assoc]
      rfl
    rw [e1, eds_snoc, ← e1]
    simpa [Nn, Nat.add_assoc] using ho
  · exact (h.bel.trans (ha.mono h.bel.size)).grown hg (by have := h.bel.size; simp; omega) (fun b e => own_from h.ends e)
end

set_option maxHeartbeats 4000000 in
theorem endsOf_any {W : World} {a : Option Addr} {m cap : Nat} {zs : List Int} (hB : Bs W a m cap zs) (hm : m ≤ 1000000000) :
    Calls Tryz.prog 28 #[.slice a m cap] W fun e W' => ∃ v, e = .returned v ∧ W'.ownsRow W.heap.size 3 1 v (frs zs).length (Nn (eds (frs zs))) ∧ Below W.heap.size W W' := by
  obtain ⟨i0, hi, hz0, hz1, hz2⟩ := info_parts info3
  have hlen := hB.len
  have hle := hB.le
  have hre := hB.reach
  go_enter Tryz.func28, Tryz.ntmps28
  go_wp2_with fail
  refine (rnew_any W).mono ?_
  rintro e w1 ⟨rfl, hR1, hb1⟩
  obtain ⟨R, hRe⟩ : ∃ R, Hid (R = W.heap.size) := ⟨_, hide rfl⟩
  have ES0 : Es W R zs 0 (.slice none 0 0) [] w1 := ⟨⟨_, _, by rw [hRe.out]; exact hR1, by rw [List.take_zero]; exact parse_few (by simp)⟩, World.ownsRow_nil _ _ _ _, hb1⟩
  rw [← hRe.out]
  clear hR1
  go_wp2_with fail
  go_loopw [3, 4, 6] (fun ev ed at' wr => ∃ (p : Nat) (bs : List (List Int)), p ≤ m + 3 ∧ at' = .int .i64 (p : Int) ∧ ed = .int .i64 ((flat bs).length : Int) ∧ Hid (Es W R zs p ev bs wr))
    (fun _ _ at' _ => m + 4 - (intOf at').toNat)
  case atStart => exact ⟨0, [], by omega, rfl, rfl, hide ES0⟩
  case round =>
    obtain ⟨p, bs, hpm, rfl, rfl, hES⟩ := hrel
    by_cases hp : p < m
    · obtain ⟨b, off, rfl, _⟩ := hB.lies (by omega)
      have hbel := hES.out.bel
      obtain ⟨lv, r, hR, hpar⟩ := hES.out.rd
      obtain ⟨q, hq⟩ : ∃ q, Hid (q = min 4 (m - p)) := ⟨_, hide rfl⟩
      have hq1 : q ≤ 4 ∧ p + q ≤ m ∧ 0 < q ∧ (q = 4 ∨ p + q = m) := by rw [hq.out]; omega
      obtain ⟨hq1, hq2, hq3, hq4⟩ := hq1
      have hmm : (min ((p : Int) + 4) (m : Int)).toNat - p = q := by omega
      have hpr := (parse_rest (Nat.le_refl _) hpar).1
      rw [List.length_take] at hpr
      have hmid := (hB.keep hbel).mid p q (by omega)
      have C := feed_any hR hbel.size (some ⟨b, off + p, none⟩) q (cap - p) _ hmid (by omega)
      have hsp : Hid (zs.take (p + q) = zs.take p ++ (zs.drop p).take q) := hide (List.take_add ..)
      have hall : Hid (zs = zs.take p ++ ((zs.drop p).take q ++ zs.drop (p + q))) := hide (by rw [← List.append_assoc, ← List.take_add, List.take_append_drop])
      have hpl : Hid (((zs.drop p).take q).length = q) := hide (by rw [List.length_take, List.length_drop]; omega)
      have hends := hide hES.out.ends
      have HP := hide hpar
      have HR := hide hR
      clear hpar hpr hmid hES hR
      go_wp2_with fail
      refine C.mono ?_
      clear C
      rintro e w2 ⟨hbar, hcase⟩
      have hEnd : w2.ownsRow W.heap.size 3 1 u3 bs.length (Nn (eds bs)) := own_bar hends.out hbar (fun g hg hf => by
        rcases hf with rfl | hf
        · exact HR.out.obj_not hends.out (by decide) hg
        · exact own_types hends.out HR.out.own (by decide) hg hf)
      have hbel2 : Below W.heap.size W w2 := hbel.trans (hbar.below (fun i hi => by
        rcases hi with rfl | hi
        · exact HR.out.from'
        · exact own_from HR.out.own hi) hbel.size)
      rcases hcase with ⟨hno, rfl, hR2⟩ | ⟨v, lv', r2, rs, hpar2, rfl, hR2, hll, _, _⟩
      · have hfin : Hid (frs zs = bs) := hide (by
          have h1 := frs_bad (zs.drop (p + q)) (parse_left HP.out) (by rw [hpl.out]; exact hq1) hno
          have h2 := frs_more (y := (zs.drop p).take q ++ zs.drop (p + q)) HP.out
          rw [← hall.out, ← List.append_assoc, h1, List.append_nil] at h2
          exact h2)
        have HE := hide hEnd
        have HB2 := hide hbel2
        obtain ⟨ea, ec, rfl⟩ := own_val hEnd
        clear hEnd hbel2 hR2 hno hbar hends HP HR hbel
        go_wp2_with fail
        go_ret
        exact ⟨_, rfl, by rw [hfin.out]; exact HE.out, HB2.out⟩
      · have EI0 : Ei W R zs (p + q) bs rs v 0 u3 w2 := ⟨⟨lv', r2, hR2, by rw [hsp.out, parse_some HP.out, hpar2, ahead_some]⟩, hll.less hbel.size, by simpa using hEnd, hbel2⟩
        have HEI := hide EI0
        obtain ⟨va, vc, rfl⟩ := own_val hll.own
        have hX : Hid (frs (zs.take (p + q)) = bs ++ rs.map (·.2)) := hide (frs_whole (by rw [hsp.out, parse_some HP.out, hpar2, ahead_some]))
        have hbyt : ∀ z ∈ zs.take (p + q), 0 ≤ z ∧ z ≤ 255 := fun z hz => hB.byte z (List.mem_of_mem_take hz)
        have hsm : ∀ k, (flat (bs ++ (rs.map (·.2)).take k)).length ≤ m := fun k => by
          have h1 := frs_le hbyt
          rw [hX.out, List.length_take] at h1
          have h2 := edAt_le (bs ++ rs.map (·.2)) (bs.length + k)
          unfold edAt at h2
          rw [List.take_length_add_append] at h2
          omega
        have hcount : bs.length + rs.length ≤ m := by
          have h1 := (parse_rest (Nat.le_refl _) (show parse (zs.take (p + q)) = some (bs ++ rs.map (·.2), r2) by rw [hsp.out, parse_some HP.out, hpar2, ahead_some])).2.1
          rw [List.length_append, List.length_map, List.length_take] at h1
          omega
        have HSM := hide hsm
        clear EI0 hEnd hbel2 hR2 hpar2 hll hbar hends HP HR hbel hsm hbyt
        obtain ⟨wl, hwl⟩ : ∃ wl : World, wl = wr := ⟨_, rfl⟩
        subst hwl
        go_wp2_with fail
        go_loopw [3, 4, 35] (fun ev ed ix wr => ∃ (k : Nat), k ≤ rs.length ∧ ix = .int .i64 (k : Int) ∧ ed = .int .i64 ((flat (bs ++ (rs.map (·.2)).take k)).length : Int) ∧ Hid (Ei W R zs (p + q) bs rs (.slice va rs.length vc) k ev wr))
          (fun _ _ ix _ => rs.length - (intOf ix).toNat)
        case atStart => exact ⟨0, Nat.zero_le _, rfl, by simp, HEI⟩
        case round =>
          obtain ⟨k, hkl, rfl, rfl, hEI⟩ := hrel
          by_cases hk : k < rs.length
          · have hll := hEI.out.ll
            obtain ⟨g, c', hva⟩ := own_shape hll.own (by omega)
            simp only [Value.slice.injEq] at hva
            obtain ⟨rfl, _, rfl⟩ := hva
            have hvc : rs.length ≤ vc := by
              rcases hll.own.2 with ⟨h1, _⟩ | ⟨g', cap', cur, h1, _, _, h2, _⟩
              · cases h1
              · simp only [Value.slice.injEq] at h1
                omega
            have hvr : vc ≤ 9223372036854775807 := by
              rcases hll.own.2 with ⟨h1, _⟩ | ⟨g', cap', cur, h1, _, _, h2, h3, _⟩
              · cases h1
              · simp only [Value.slice.injEq] at h1
                unfold maxLen at h3
                omega
            have hrow := hll.row rs[k] (List.getElem_mem hk)
            obtain ⟨qa, qc, hqv⟩ := own_val hrow
            have hcell : wr.cell? ⟨g, k, none⟩ = some (.slice qa rs[k].2.length qc) := by
              have := hll.own.cells (g := g) rfl k (.slice qa rs[k].2.length qc) (by rw [List.getElem?_map, List.getElem?_eq_getElem hk]; simp [hqv])
              rw [Addr.add_lit, Nat.zero_add] at this
              exact this
            obtain ⟨L, hL⟩ : ∃ L, Hid (L = rs[k].2.length) := ⟨_, hide rfl⟩
            rw [← hL.out] at hcell
            obtain ⟨A, hA⟩ : ∃ A, Hid (A = (flat (bs ++ (rs.map (·.2)).take k)).length) := ⟨_, hide rfl⟩
            have hA1 : A ≤ m := by rw [hA.out]; exact HSM.out k
            have hA2 : Hid ((A : Int) + (4 + (L : Int)) = ((flat (bs ++ (rs.map (·.2)).take (k + 1))).length : Int)) := hide (by
              have e1 : bs ++ (rs.map (·.2)).take (k + 1) = (bs ++ (rs.map (·.2)).take k) ++ [rs[k].2] := by
                rw [List.take_add_one, List.getElem?_eq_getElem (by simpa using hk), List.append_assoc]
                simp
              rw [e1, flat_snoc, List.length_append, fr_length, ← hA.out, ← hL.out]
              omega)
            have hL1 : A + (4 + L) ≤ m := by
              have := HSM.out (k + 1)
              have := hA2.out
              omega
            rw [← hA.out]
            have hends := hEI.out.ends
            have hbs := hEI.out.bel.size
            clear hll hrow hqv
            go_wp2_with (at_builtin; refine wpList_append_own _ rfl (.tmp 44) (.tmp 46) 43 rfl W.heap.size 3 i0 (.int .i64 0) 1 8 Tryz.underlying43 hi hz0 hz1 hz2 rfl (by omega) _ (bs.length + k) _ rfl (hends.alloc _) ⟨_, 0, none⟩ 1 1 [.int .i64 ((A : Int) + (4 + (L : Int)))] rfl rfl (cell_one_new _ _ _) (by simp [Value.oneCell']) (by unfold maxLen; omega) (by omega) (by simp; omega) ?_; intro u w3 hown3 hgrow3 _)
            rw [hA2.out] at hown3
            have HN := hide (hEI.out.step hk hown3 hgrow3)
            clear hown3 hgrow3 hends hEI
            go_roundw
            case rel => exact ⟨k + 1, by omega, by go_num, by rw [← hA2.out], HN⟩
            case measure => simp [intOf]; omega
          · have hke : k = rs.length := by omega
            have hES : Hid (Es W R zs (p + q) u3 (bs ++ rs.map (·.2)) wr) := hide (by
              have h := hEI.out
              rw [hke] at h
              exact ⟨h.rd, by have := h.ends; rwa [List.take_of_length_le (by simp), ← List.length_map (f := fun (x : Value × List Int) => x.2), ← List.length_append] at this, h.bel⟩)
            have hed : Hid (flat (bs ++ (rs.map (·.2)).take k) = flat (bs ++ rs.map (·.2))) := hide (by rw [hke, List.take_of_length_le (by simp)])
            clear hEI
            go_wp2_with fail
            refine ⟨⟨p + 4, bs ++ rs.map (·.2), by omega, by simp, by rw [hed.out], hide ?_⟩, by simp [intOf]; omega⟩
            have h := hES.out
            have e : zs.take (p + 4) = zs.take (p + q) := by
              rcases hq4 with h4 | h4
              · rw [h4]
              · rw [List.take_of_length_le (by omega), List.take_of_length_le (by omega)]
            exact ⟨by rw [e]; exact h.rd, h.ends, h.bel⟩
    · have hfin : Hid (frs zs = bs) := hide (by
        obtain ⟨lv, r, hR, hpar⟩ := hES.out.rd
        rw [List.take_of_length_le (by omega)] at hpar
        exact frs_whole hpar)
      have HE := hide hES.out.ends
      have HB2 := hide hES.out.bel
      obtain ⟨ea, ec, rfl⟩ := own_val hES.out.ends
      clear hES
      go_wp2_with fail
      go_ret
      exact ⟨_, rfl, by rw [hfin.out]; exact HE.out, HB2.out⟩

end Go.Proofs.YtkdolabhcbjipaaGreat

/-
  FileSynced, walked: what a file had when it was synced it has behind any crash.
-/
import Derived.Test.YtikhgjnjlkaobaaPk23124aaa
import Derived.Test.YtikhgjnjlkaobaaPk892c5e5c
import Derived.Test.YtikhgjnjlkaobaaPkd50855f3
namespace Go.Proofs.Ytikhgjnjlkaobaa
open Go.RowKit
set_option maxRecDepth 100000
set_option maxRecDepth 100000
set_option linter.unusedVariables false

def keptS : ByteArray := ⟨#[107, 101, 112, 116]⟩

/-- A disk behind some calls. -/
def Wk (w : World) (vs : List Value) (R K m : Nat) (W : World) : Prop := ∃ d, Ax w vs R d W ∧ Bd d K ∧ d.std.nm.length ≤ m ∧ Short d.std

/-- A disk on which the file is being put: the rows so far. -/
def Wp (w : World) (v : Value) (R k : Nat) (rs : List (List Int)) (W : World) : Prop := ∃ d, Ax w [v] R d W ∧ Bd d (200 + 3 * k) ∧ d.std.nm.length ≤ 60 + 2 * k ∧ ((k = 0 ∧ nms d.l = [] ∧ d.find keptS = 0) ∨ ∃ g, Puts keptS g rs d)

/-- A disk on which it is safe. -/
def Wsf (w : World) (v : Value) (R j : Nat) (rs : List (List Int)) (W : World) : Prop := ∃ d g, Ax w [v] R d W ∧ Bd d (690 + 3 * j) ∧ d.std.nm.length ≤ 80 + 2 * j ∧ Safe keptS.data.toList g rs d

section
variable {w W : World} {R K : Nat} {vs : List Value}

theorem wk_call {m K' m' : Nat} (h : Wk w vs R K m W) (hK : K < 700) (hm : m < 256) (hK' : K + 3 = K') (hm' : m + 2 = m') (n : Nat) (hn : n < 1000003) :
    Calls Try.prog 25 #[.pointer (some ⟨R, 0, none⟩), .int .i64 (n : Int)] W fun e w' => e = .returned (.tuple #[]) ∧ Wk w vs R K' m' w' := by
  subst hK' hm'
  obtain ⟨d, h1, h2, h3, h4⟩ := h
  refine (call_any n hn h1 h2 (by omega) (by omega)).mono ?_
  rintro e w' ⟨rfl, d', hd, ha, _⟩
  exact ⟨rfl, d', ha, hd.bd h2 (by omega), by have := hd.len; omega, hd.short h4⟩

theorem wsf_call {v : Value} {j : Nat} {rs : List (List Int)} {xs : List Value} {nn : Nat} (h : Wsf w v R j rs W) (hj : j < 30) (n : Nat) (hn : n < 1000003) (ho : W.ownsRow w.heap.size 5 1 v nn xs) :
    Calls Try.prog 25 #[.pointer (some ⟨R, 0, none⟩), .int .i64 (n : Int)] W fun e w' => e = .returned (.tuple #[]) ∧ Wsf w v R (j + 1) rs w' ∧ w'.ownsRow w.heap.size 5 1 v nn xs := by
  obtain ⟨d, g, h1, h2, h3, h4⟩ := h
  refine (call_any n hn h1 h2 (by omega) (by omega)).mono ?_
  rintro e w' ⟨rfl, d', hd, ha, hk⟩
  exact ⟨rfl, ⟨d', g, ha, (hd.bd h2 (by omega)).wide (by omega), by have := hd.len; omega, hd.safe h4 (by decide)⟩, hk v (by simp) _ _ _ _ _ ho⟩

theorem wk_new {V : World} (h : Aw w R newDsk V) : Wk w [] R 10 0 V := ⟨newDsk, h.ax, bd_new, by simp [newDsk], by intro p hp; simp [newDsk] at hp⟩

theorem wk_named {k : Nat} (h : Wk w [] R (10 + 3 * k) (2 * k) W) (hk : k ≤ 30) :
    Calls Try.prog 21 #[.pointer (some ⟨R, 0, none⟩)] W fun e w' => e = .returned (.int .i64 0) ∧ Wp w (.slice none 0 0) R 0 [] w' := by
  obtain ⟨d, h1, h2, h3, h4⟩ := h
  have C := ax_syncNames h1 (h2.few (by omega))
  rw [h2.syncNames] at C
  refine C.mono ?_
  rintro e w' ⟨rfl, ha, _⟩
  obtain ⟨n1, n2⟩ := h2.named
  refine ⟨rfl, d.named, ha.less (fun v hv => .inr (by simp only [List.mem_singleton] at hv; subst hv; rfl)), n1.wide (by omega), by show d.std.nm.length ≤ _; omega, .inl ⟨rfl, n2, ?_⟩⟩
  show (lk d.std.nm keptS.data.toList).getD 0 = 0
  cases hl : lk d.std.nm keptS.data.toList with
  | none => rfl
  | some f =>
    have := h4 _ (lk_mem hl)
    simp [keptS] at this

theorem wp_put {V : World} {v x : Value} {k : Nat} {rs : List (List Int)} {r : List Int} (h : Wp w v R k rs W) (hrs : rs.length = k) (hk : k < 10) (hb : Tb (fun _ => False) W V) (hv : V.ownsRow W.heap.size 5 1 x 64 (U r)) (hr : r.length = 64) (hby : ∀ z ∈ r, 0 ≤ z ∧ z ≤ 255) :
    Calls Try.prog 9 #[.pointer (some ⟨R, 0, none⟩), .string keptS, .int .i64 (k : Int), x] V fun e w' => e = .returned (.int .i64 0) ∧ Wp w v R (k + 1) (rs ++ [r]) w' ∧ Kr [v] V w' := by
  obtain ⟨d, h1, h2, h3, h4⟩ := h
  have hlen : (k : Int) ≤ ((lk d.std.rw (d.find keptS)).getD []).length := by
    rcases h4 with ⟨rfl, _, h0⟩ | ⟨g, hp⟩
    · omega
    · have hf : d.find keptS = g := by unfold Dsk.find; rw [hp.nm]; rfl
      rw [hf, hp.rw]
      simp only [Option.getD_some]
      omega
  have hfull : ¬ ((k : Int) = 4096 ∨ (d.find keptS = 0 ∧ 256 ≤ d.std.nm.length)) := by omega
  refine (ax_put (s := keptS) (at' := (k : Int)) h1 hb hv hby (h2.few (by omega)) (by decide) (by omega) hlen hfull).mono ?_
  rintro e w' ⟨rfl, ha, hkr⟩
  have hbd : Bd (d.put keptS (k : Int) 64 r).2 (200 + 3 * (k + 1)) := (h2.put (by omega) (by decide) ⟨by omega, by omega⟩ hr hby).wide (by omega)
  have hln := put_len d keptS (k : Int) 64 r
  rcases h4 with ⟨rfl, hn, h0⟩ | ⟨g, hp⟩
  · have hr0 : rs = [] := List.eq_nil_of_length_eq_zero hrs
    subst hr0
    obtain ⟨q1, q2⟩ := h2.put_new (κ := keptS) (r := r) hn (by decide) h0 (by omega)
    exact ⟨by rw [← q1]; rfl, ⟨_, ha, hbd, by omega, .inr ⟨_, q2⟩⟩, hkr⟩
  · obtain ⟨q1, q2⟩ := hp.next (r := r) h2 (by decide) (by omega)
    rw [hrs] at q1 q2
    exact ⟨by rw [← q1], ⟨_, ha, hbd, by omega, .inr ⟨g, q2⟩⟩, hkr⟩

theorem wp_sync {v : Value} {k : Nat} {rs : List (List Int)} (h : Wp w v R k rs W) (h0 : 0 < k) (hk : k ≤ 10) :
    Calls Try.prog 15 #[.pointer (some ⟨R, 0, none⟩), .string keptS] W fun e w' => e = .returned (.int .i64 0) ∧ Wsf w v R 0 rs w' ∧ Kr [v] W w' := by
  obtain ⟨d, h1, h2, h3, h4⟩ := h
  rcases h4 with ⟨rfl, _, _⟩ | ⟨g, hp⟩
  · omega
  · have hf : d.find keptS = g := by unfold Dsk.find; rw [hp.nm]; rfl
    have hg := hp.pos
    obtain ⟨q1, q2⟩ := hp.safe h2
    have C := ax_sync (s := keptS) h1 (h2.few (by omega)) (by decide) (by rw [hf]; omega)
    rw [q1] at C
    refine C.mono ?_
    rintro e w' ⟨rfl, ha, hkr⟩
    exact ⟨rfl, ⟨_, g, ha, (h2.sync keptS).wide (by omega), by rw [sync_std]; omega, q2⟩, hkr⟩

theorem wsf_copy {v : Value} {j : Nat} {rs : List (List Int)} (h : Wsf w v R j rs W) (hj : j ≤ 30) :
    Calls Try.prog 17 #[.pointer (some ⟨R, 0, none⟩)] W fun e w' => ∃ R2, e = .returned (.pointer (some ⟨R2, 0, none⟩)) ∧ (∃ d g, Two w [v] R d R2 d w' ∧ Bd d 780 ∧ Safe keptS.data.toList g rs d) ∧ Kr [v] W w' := by
  obtain ⟨d, g, h1, h2, h3, h4⟩ := h
  refine (ax_copy h1 h2 (by omega)).mono ?_
  rintro e w' ⟨R2, rfl, ha, hkr⟩
  exact ⟨R2, rfl, ⟨d, g, ha, h2.wide (by omega), h4⟩, hkr⟩

theorem stands_read {v : Value} {R N : Nat} {d : Dsk} {g : Int} {rs : List (List Int)} (hN : rs.flatten.length = N) (h : Ax w [v] R d W) (hb : Bd d 1600) (hs : Stands keptS.data.toList g rs d.std) (hg : 0 < g) :
    Calls Try.prog 13 #[.pointer (some ⟨R, 0, none⟩), .string keptS] W fun e w' => ∃ x, e = .returned (.tuple #[x, .int .i64 0]) ∧ w'.ownsRow W.heap.size 5 1 x N (U rs.flatten) ∧ Tb (fun _ => False) W w' := by
  subst hN
  have hf : d.find keptS = g := by unfold Dsk.find; rw [hs.nm]; rfl
  have C := ax_read (s := keptS) h (hb.few (by omega)) (by decide) (by rw [hf]; omega) hb.calm.1
  rw [Safe.bytes hs] at C
  refine C.mono ?_
  rintro e w' ⟨x, rfl, r, b⟩
  exact ⟨x, rfl, r, Tb.of_fresh b⟩
end

theorem pick3 (z : Int) (W : World) : Calls Try.prog 26 #[.int .i64 z, .int .i64 1000003] W fun e w' => ∃ p : Nat, p < 1000003 ∧ e = .returned (.int .i64 p) ∧ w' = W := pick_any z 1000003 W (by omega) (by omega)

theorem wp_append {w W : World} {v x : Value} {R k n m base : Nat} {rs : List (List Int)} {xs ys : List Value} (h : Wp w v R k rs W) (ho : W.ownsRow w.heap.size 5 1 v n xs) (hx : W.ownsRow base 5 1 x m ys) (h1 : ∀ u ∈ ys, u.oneCell' = true) (hb : n + m ≤ 1000000) :
    ∃ v' W', (Builtin.append_ #[28, 28] 28 #[v, x]).run Try.prog W = .ok v' W' ∧ W'.ownsRow w.heap.size 5 1 v' (n + m) (xs ++ ys) ∧ Wp w v' R k rs W' := by
  obtain ⟨d, a1, a2, a3, a4⟩ := h
  obtain ⟨v', W', hr, ho', ha, _, _⟩ := append_beside a1 ho hx h1 hb (fun u hu => by simp at hu)
  exact ⟨v', W', hr, ho', d, ha, a2, a3, a4⟩

theorem Wp.kept {w W V : World} {v : Value} {R k : Nat} {rs : List (List Int)} (h : Wp w v R k rs W) (hb : Tb (fun _ => False) W V) : Wp w v R k rs V := by
  obtain ⟨d, a1, a2, a3, a4⟩ := h
  exact ⟨d, a1.kept hb, a2, a3, a4⟩
theorem Wp.below {w W : World} {v : Value} {R k : Nat} {rs : List (List Int)} (h : Wp w v R k rs W) : Below w.heap.size w W := by
  obtain ⟨d, a1, a2, a3, a4⟩ := h
  exact a1.below
theorem Wk.below {w W : World} {vs : List Value} {R K m : Nat} (h : Wk w vs R K m W) : Below w.heap.size w W := by
  obtain ⟨d, a1, a2, a3, a4⟩ := h
  exact a1.below
theorem Wsf.below {w W : World} {v : Value} {R j : Nat} {rs : List (List Int)} (h : Wsf w v R j rs W) : Below w.heap.size w W := by
  obtain ⟨d, g, a1, _⟩ := h
  exact a1.below

namespace fileSynced

set_option maxHeartbeats 8000000 in
theorem walk (a : Option Addr) (n cap : Nat) (zs : List Int) (b : Option Addr) (m bcap : Nat) (xs : List Int) (a2 : Option Addr) (n2 cap2 : Nat) (ys : List Int) (p : Option Addr) (q pcap : Nat) (ks : List Bool) (w : World)
    (hA : Is w a n cap zs) (hB : Bs w b m bcap xs) (hC : Is w a2 n2 cap2 ys) (hks : ks.length = q) (hcap : q ≤ pcap ∧ pcap ≤ 9223372036854775807) (hp : Kp w p ks) :
    Calls Try.prog 5 #[.slice a n cap, .slice b m bcap, .slice a2 n2 cap2, .slice p q pcap] w fun e w' => e = .returned (.bool true) ∧ Below w.heap.size w w' := by
  have hea := hA.le
  have hra := hA.reach
  have heb := hB.le
  have hrb := hB.reach
  have hec := hC.le
  have hrc := hC.reach
  have HKS := hide (And.intro hks (And.intro hcap hp))
  clear hks hp
  obtain ⟨hcap1, hcap2⟩ := hcap
  have HLB := hide hB.len
  go_enter Try.func5, Try.ntmps5
  go_wp2_with fail
  refine aw_new.mono ?_
  rintro e w1 ⟨R, rfl, hR, a1⟩
  have A1 := hide (wk_new a1)
  clear a1
  go_wp2_with fail
  go_loopw [10] (fun i wr => ∃ k : Nat, k ≤ n ∧ k ≤ 30 ∧ i = .int .i64 k ∧ Hid (Wk w [] R (10 + 3 * k) (2 * k) wr)) (fun i _ => n - (intOf i).toNat)
  case atStart => exact ⟨0, Nat.zero_le _, by omega, rfl, A1⟩
  case round =>
    obtain ⟨k, hk, hk30, rfl, hwk⟩ := hrel
    by_cases hlt : k < n ∧ k < 30
    · obtain ⟨hlt, hlt30⟩ := hlt
      obtain ⟨bl, ol, rfl, hc1⟩ := (hA.keep hwk.out.below).lies (by omega)
      have hk1 := hc1 k hlt
      clear hc1
      generalize zs.getD k 0 = z at *
      go_wp2_with fail
      refine (pick3 z wr).mono ?_
      rintro e w2 ⟨pp, hpp, rfl, rfl⟩
      have C := hide (wk_call (K' := 10 + 3 * (k + 1)) (m' := 2 * (k + 1)) hwk.out (by omega) (by omega) (by omega) (by omega) pp hpp)
      clear hk1 hwk
      go_wp2_with fail
      refine C.out.mono ?_
      rintro e w3 ⟨rfl, h3⟩
      have H3 := hide h3
      clear h3 C
      go_wp2_with fail
      go_roundw
      case rel => exact ⟨k + 1, by omega, by omega, by go_num, H3⟩
      case measure => simp [intOf]; omega
    · have hend : (k < n ∧ 30 ≤ k) ∨ ¬ k < n := by omega
      clear hlt
      have C := hide (wk_named hwk.out hk30)
      clear hwk A1
      rcases hend with ⟨he1, he2⟩ | he1
      all_goals
        go_wp2_with fail
        refine C.out.mono ?_
        rintro e w2 ⟨rfl, h2⟩
        have H2 := hide h2
        clear h2 C
        go_wp2_with fail
        go_loopw [11, 12] (fun v i wr => ∃ j : Nat, j ≤ m ∧ j ≤ 10 ∧ i = .int .i64 j ∧ Hid (Wp w v R j (secs xs j) wr) ∧ Hid (wr.ownsRow w.heap.size 5 1 v (64 * j) (U (secs xs j).flatten))) (fun _ i _ => m - (intOf i).toNat)
        case atStart => exact ⟨0, Nat.zero_le _, by omega, rfl, H2, hide (World.ownsRow_nil _ _ _ _)⟩
        case round =>
          obtain ⟨j, hj, hj10, rfl, hwp, hrow⟩ := hrel
          have hjx : j ≤ xs.length := by rw [HLB.out]; exact hj
          clear H2
          by_cases hlt : j < m ∧ j < 10
          · obtain ⟨hlt, hlt10⟩ := hlt
            obtain ⟨bl, ol, rfl, hc1⟩ := (hB.keep hwp.out.below).lies (by omega)
            have hk1 := hc1 j hlt
            have HK := hide (fun (W : World) (h : Below w.heap.size w W) => show W.cell? ⟨bl, ol + j, none⟩ = some (.int .u8 (xs.getD j 0)) by
              obtain ⟨b', o', e', hc'⟩ := (hB.keep h).lies (by omega)
              simp only [Option.some.injEq, Addr.mk.injEq, and_true] at e'
              obtain ⟨rfl, rfl⟩ := e'
              exact hc' j hlt)
            have hzb : 0 ≤ xs.getD j 0 ∧ xs.getD j 0 ≤ 255 := by
              have := getD_byte hB.byte j
              simpa using this
            have HNX := hide (secs_next xs j (by rw [HLB.out]; exact hlt))
            have HSL := hide (secs_length xs j hjx)
            clear hc1 hjx
            generalize xs.getD j 0 = z at *
            have HZ := hide hzb
            obtain ⟨hz0, hz1⟩ := hzb
            go_wp2_with fail
            refine (fill_any z wr).mono ?_
            rintro e w3 ⟨v3, rfl, r3, b3⟩
            have C := wp_put hwp.out HSL.out (by omega) (Tb.of_fresh b3) r3 (sec64_len z) (sec64_byte HZ.out)
            rw [← HNX.out] at C
            have HC := hide C
            have HR3 := hide (row_tb hrow.out (Tb.of_fresh b3) (fun _ _ h => h) (S := fun _ => False))
            clear C hrow hwp r3 b3 hk1
            go_wp2_with fail
            refine HC.out.mono ?_
            rintro e w4 ⟨rfl, h4, kr4⟩
            have H4 := hide h4
            have hr4 := hide (kr4 _ (by simp) _ _ _ _ _ HR3.out)
            have hk4 := HK.out w4 h4.below
            clear HC HR3 kr4 h4
            go_wp2_with fail
            refine (fill_any z w4).mono ?_
            rintro e w5 ⟨v5, rfl, r5, b5⟩
            have hr5 := row_tb hr4.out (Tb.of_fresh b5) (fun _ _ h => h) (S := fun _ => False)
            obtain ⟨v6, w6, hrun, ho6, h6⟩ := wp_append (H4.out.kept (Tb.of_fresh b5)) hr5 r5 (U_one _) (by omega)
            have H6 := hide h6
            have R6 : Hid (w6.ownsRow w.heap.size 5 1 v6 (64 * (j + 1)) (U (secs xs (j + 1)).flatten)) := hide (by
              rw [HNX.out, List.flatten_append, U_append]
              have e : 64 * (j + 1) = 64 * j + 64 := by omega
              rw [e]
              simpa using ho6)
            clear hr4 hr5 H4 r5 b5 ho6 h6 hk4
            go_wp2_with (at_builtin; refine wpList_append_run rfl 28 _ _ rfl _ _ v6 rfl rfl hrun ?_)
            go_roundw
            case rel => exact ⟨j + 1, by omega, by omega, by go_num, H6, R6⟩
            case measure => simp [intOf]; omega
          · have hend2 : (j < m ∧ 10 ≤ j) ∨ ¬ j < m := by omega
            clear hlt
            have hgB := secs_gr (xs := xs) hB.byte hj10
            have hfl := secs_flat j hjx
            obtain ⟨B, hBB⟩ : ∃ B, B = secs xs j := ⟨_, rfl⟩
            rw [← hBB] at hgB hwp hrow hfl
            clear hBB hjx
            have HGB := hide hgB
            obtain ⟨a11, c11, hv11⟩ := row_val hrow.out
            subst hv11
            clear hgB
            obtain ⟨N2, hN2⟩ : ∃ N2, N2 = 64 * j := ⟨_, rfl⟩
            rw [← hN2] at hwp hrow hfl
            rw [← hN2]
            have HN2 := hide hN2
            have HFL := hide hfl
            clear hN2 hfl
            by_cases hj0 : N2 = 0
            · subst hj0
              rcases hend2 with ⟨hf1, hf2⟩ | hf1
              all_goals
                go_wp2_with fail
                refine (awake_any _).mono ?_
                rintro e w9 ⟨rfl, t9⟩
                go_wp2_with fail
                go_ret
                exact ⟨rfl, hwp.out.below.trans ((t9.below (fun _ h => h.elim) (Nat.le_refl _)).mono hwp.out.below.size)⟩
            · have hd2 : ((N2 : Int) == 0) = false := by simp; omega
              have C1 := hide (wp_sync hwp.out (by have := HN2.out; omega) hj10)
              have HROW := hide hrow.out
              clear hwp hrow
              rcases hend2 with ⟨hf1, hf2⟩ | hf1
              all_goals
                go_wp2_with fail
                refine C1.out.mono ?_
                rintro e w3 ⟨rfl, h3, k3⟩
                have R3 := hide (k3 _ (by simp) _ _ _ _ _ HROW.out)
                have H3 := hide h3
                clear h3 k3 C1 HROW
                go_wp2_with fail
                go_loopw [13] (fun i wr => ∃ k : Nat, k ≤ n2 ∧ k ≤ 30 ∧ i = .int .i64 k ∧ Hid (Wsf w (.slice a11 N2 c11) R k B wr) ∧ Hid (wr.ownsRow w.heap.size 5 1 (.slice a11 N2 c11) N2 (U B.flatten))) (fun i _ => n2 - (intOf i).toNat)
                case atStart => exact ⟨0, Nat.zero_le _, by omega, rfl, H3, R3⟩
                case round =>
                  obtain ⟨i3, hi3, hi30, rfl, hws, hrw⟩ := hrel
                  clear H3 R3
                  by_cases hlt : i3 < n2 ∧ i3 < 30
                  · obtain ⟨hlt, hlt30⟩ := hlt
                    obtain ⟨bl, ol, rfl, hc1⟩ := (hC.keep hws.out.below).lies (by omega)
                    have hk1 := hc1 i3 hlt
                    clear hc1
                    generalize ys.getD i3 0 = z at *
                    go_wp2_with fail
                    refine (pick3 z wr).mono ?_
                    rintro e w4 ⟨pp, hpp, rfl, rfl⟩
                    have C := hide (wsf_call hws.out (by omega) pp hpp hrw.out)
                    clear hk1 hws hrw
                    go_wp2_with fail
                    refine C.out.mono ?_
                    rintro e w5 ⟨rfl, h5, r5⟩
                    have H5 := hide h5
                    have R5 := hide r5
                    clear h5 r5 C
                    go_wp2_with fail
                    go_roundw
                    case rel => exact ⟨i3 + 1, by omega, by omega, by go_num, H5, R5⟩
                    case measure => simp [intOf]; omega
                  · have hend3 : (i3 < n2 ∧ 30 ≤ i3) ∨ ¬ i3 < n2 := by omega
                    clear hlt
                    have C := hide (wsf_copy hws.out hi30)
                    clear hws
                    rcases hend3 with ⟨hg1, hg2⟩ | hg1
                    all_goals
                      go_wp2_with fail
                      refine C.out.mono ?_
                      rintro e w4 ⟨R2, rfl, ⟨d, g, h4, hb4, hs4⟩, k4⟩
                      have R4 := hide (k4 _ (by simp) _ _ _ _ _ hrw.out)
                      have HBS := hide (And.intro hb4 hs4)
                      have C5 := hide (two_crash h4 (hb4.few (by omega)) HKS.out.1 HKS.out.2.1 HKS.out.2.2)
                      clear h4 hb4 hs4 k4 C hrw
                      go_wp2_with fail
                      refine C5.out.mono ?_
                      rintro e w5 ⟨rfl, h5, k5⟩
                      have R5 := hide (k5 _ (by simp) _ _ _ _ _ R4.out)
                      have C6 := hide (two_crash (p := none) (m := 0) (cap := 0) (ks := []) h5.swap (HBS.out.1.few (by omega)) rfl (by omega) (fun i b hb => by simp at hb))
                      clear h5 k5 C5 R4
                      go_wp2_with fail
                      refine C6.out.mono ?_
                      rintro e w6 ⟨rfl, h6, k6⟩
                      have R6 := hide (k6 _ (by simp) _ _ _ _ _ R5.out)
                      have H6 := hide h6
                      have C7 := hide (stands_read HFL.out h6.swap.first ((HBS.out.1.crash ks).wide (by omega)) (HBS.out.2.crash ks) HBS.out.2.pos)
                      clear h6 k6 C6 R5
                      go_wp2_with fail
                      refine C7.out.mono ?_
                      rintro e w7 ⟨x7, rfl, r7, t7⟩
                      obtain ⟨a7, c7, hv7⟩ := row_val r7
                      subst hv7
                      have C8 := hide (stands_read HFL.out (H6.out.first.kept t7) ((HBS.out.1.crash []).wide (by omega)) (HBS.out.2.crash []) HBS.out.2.pos)
                      have H7 := hide (H6.out.first.kept t7)
                      have R7 := hide (And.intro r7 (row_tb R6.out t7 (fun _ _ h => h)))
                      clear r7 t7 C7 H6 R6
                      go_wp2_with fail
                      refine C8.out.mono ?_
                      rintro e w8 ⟨x8, rfl, r8, t8⟩
                      obtain ⟨a8, c8, hv8⟩ := row_val r8
                      subst hv8
                      have W8 := own_bs (row_tb R7.out.2 t8 (fun _ _ h => h)) (flat_byte HGB.out)
                      have S1 := same_any _ _ _ _ _ _ _ _ w8 (own_bs (row_tb R7.out.1 t8 (fun _ _ h => h)) (flat_byte HGB.out)) W8
                      have S2 := same_any _ _ _ _ _ _ _ _ w8 (own_bs r8 (flat_byte HGB.out)) W8
                      rw [decide_eq_true rfl] at S1 S2
                      have HS1 := hide S1
                      have HS2 := hide S2
                      have HB8 := hide (H7.out.kept t8).below
                      clear S1 S2 W8 r8 t8 C8 H7 R7
                      go_wp2_with fail
                      refine HS1.out.mono ?_
                      rintro e w9 ⟨rfl, rfl⟩
                      clear HS1
                      go_wp2_with fail
                      refine HS2.out.mono ?_
                      rintro e w10 ⟨rfl, rfl⟩
                      clear HS2
                      go_wp2_with fail
                      refine (awake_any _).mono ?_
                      rintro e w11 ⟨rfl, t11⟩
                      go_wp2_with fail
                      go_ret
                      exact ⟨rfl, HB8.out.trans ((t11.below (fun _ h => h.elim) (Nat.le_refl _)).mono HB8.out.size)⟩

end fileSynced
end Go.Proofs.Ytikhgjnjlkaobaa

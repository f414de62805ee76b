/-
  FileWhole, walked: its loops.
-/
import Derived.Test.YtiijfgidfcfjoaaDxc
namespace Go.Proofs.Ytiijfgidfcfjoaa
open Go.RowKit
set_option maxRecDepth 100000
set_option linter.unusedVariables false

def secs (xs : List Int) (k : Nat) : List (List Int) := (xs.take k).map sec64
theorem secs_length (xs : List Int) (k : Nat) (h : k ≤ xs.length) : (secs xs k).length = k := by simp [secs]; omega
theorem secs_next (xs : List Int) (k : Nat) (h : k < xs.length) : secs xs (k + 1) = secs xs k ++ [sec64 (xs.getD k 0)] := by
  unfold secs
  rw [List.take_succ_eq_append_getElem h, List.map_append, List.getD, List.getElem?_eq_getElem h]
  rfl
theorem flat64 {rs : List (List Int)} (h : ∀ x ∈ rs, x.length = 64) : rs.flatten.length = 64 * rs.length := by
  induction rs with
  | nil => rfl
  | cons x rs ih =>
    have h1 := h x (by simp)
    have h2 := ih (fun y hy => h y (by simp [hy]))
    simp only [List.flatten_cons, List.length_append, List.length_cons, h1, h2]
    omega
theorem secs_gr {xs : List Int} (hb : ∀ z ∈ xs, 0 ≤ z ∧ z ≤ 255) {k : Nat} (hk : k ≤ 10) : Gr (secs xs k) := by
  refine ⟨by simp [secs]; omega, fun x hx => ?_⟩
  obtain ⟨z, hz, rfl⟩ := List.mem_map.1 hx
  refine ⟨by simp [sec64], fun y hy => ?_⟩
  rw [(List.mem_replicate.1 hy).2]
  exact hb z (List.mem_of_mem_take hz)
theorem secs_flat {xs : List Int} (k : Nat) (h : k ≤ xs.length) : (secs xs k).flatten.length = 64 * k := by
  rw [flat64 (fun x hx => by obtain ⟨z, _, rfl⟩ := List.mem_map.1 hx; simp [sec64]), secs_length xs k h]
theorem flat_byte {rs : List (List Int)} (h : Gr rs) : ∀ z ∈ rs.flatten, 0 ≤ z ∧ z ≤ 255 := by
  intro z hz
  obtain ⟨x, hx, hzx⟩ := List.mem_flatten.1 hz
  exact (h.2 x hx).2 z hzx

theorem sec64_byte {z : Int} (h : 0 ≤ z ∧ z ≤ 255) : ∀ y ∈ sec64 z, 0 ≤ y ∧ y ≤ 255 := fun y hy => by rw [(List.mem_replicate.1 hy).2]; exact h

theorem put_upon' {s0 : Shp} {m n : Int} {s : ByteArray} {rs : List (List Int)} {r : List Int} (h : Cl s0 m s) (hs : 1 ≤ s.size ∧ s.size ≤ 64) {k : Nat} (hk : rs.length = k) (hr : k < 4096) : (upon s0 m n s rs).put s (k : Int) 64 r = (0, upon s0 m n s (rs ++ [r])) := by
  subst hk
  exact put_upon h hs hr
theorem room_upon' {s0 : Shp} {m n : Int} {s : ByteArray} {rs : List (List Int)} (h : Cl s0 m s) {k : Nat} (hk : rs.length = k) (hr : k < 4096) : ¬ ((k : Int) = 4096 ∨ ((upon s0 m n s rs).find s = 0 ∧ 256 ≤ (upon s0 m n s rs).std.nm.length)) := by
  subst hk
  exact room_upon h hr

theorem sm0 : Sm ⟨[], []⟩ 10 := Sm.empty
theorem smA {A : List (List Int)} (h : Gr A) : Sm (sA A) 11 := (Sm.st sm0 (k := [102]) (f := 1) ⟨by omega, by omega⟩ h)
theorem smB {A B : List (List Int)} (h : Gr A) (h2 : Gr B) : Sm (sB A B) 12 := (Sm.st (smA h) (k := [116]) (f := 2) ⟨by omega, by omega⟩ h2)
theorem smC {B : List (List Int)} (h : Gr B) : Sm (sC B) 11 := (Sm.st sm0 (k := [102]) (f := 2) ⟨by omega, by omega⟩ h)

theorem crash_B (A B : List (List Int)) (m n : Int) (ks : List Bool) : (⟨sB A B, sC B, [(renStp 2 tS fS).num (n + 1)], n + 1, m, false, -1, -1, 0⟩ : Dsk).crash ks = calm (sB A B) m 0 ∨ (⟨sB A B, sC B, [(renStp 2 tS fS).num (n + 1)], n + 1, m, false, -1, -1, 0⟩ : Dsk).crash ks = calm (sC B) m 0 := by
  cases ks with
  | nil => exact .inl rfl
  | cons b ks =>
    cases b
    · exact .inl (by cases ks <;> rfl)
    · exact .inr (by cases ks <;> rfl)
theorem crash_C (B : List (List Int)) (m n : Int) (ks : List Bool) : (⟨sC B, sC B, [], n, m, false, -1, -1, 0⟩ : Dsk).crash ks = calm (sC B) m 0 := by cases ks <;> rfl
theorem few_R {A B : List (List Int)} (hA : Gr A) (hB : Gr B) {m n : Int} (hm : 0 ≤ m ∧ m ≤ 1000) (hn : n ≤ 10000) : Few (⟨sB A B, sC B, [(renStp 2 tS fS).num (n + 1)], n + 1, m, false, -1, -1, 0⟩ : Dsk) 12 :=
  ⟨⟨Nat.le_trans (smC hB).nm (by omega), Nat.le_trans (smC hB).rw (by omega), (smC hB).file, (smC hB).row⟩, smB hA hB, by omega, by simp only; omega, by simp only; omega, by simp [sC]⟩
theorem find_Bf (A B : List (List Int)) (m n : Int) : (calm (sB A B) m n).find fS = 1 := rfl
theorem find_Bt (A B : List (List Int)) (m n : Int) : (calm (sB A B) m n).find tS = 2 := rfl
theorem find_Cf (B : List (List Int)) (m n : Int) : (calm (sC B) m n).find fS = 2 := rfl
theorem bytes_B (A B : List (List Int)) (m n : Int) : (calm (sB A B) m n).bytes fS = A.flatten := rfl
theorem bytes_C (B : List (List Int)) (m n : Int) : (calm (sC B) m n).bytes fS = B.flatten := rfl

namespace fileWhole

set_option maxHeartbeats 4000000 in
theorem walk (a : Option Addr) (n cap : Nat) (xs : List Int) (b : Option Addr) (m bcap : Nat) (ys : List Int) (p : Option Addr) (q pcap : Nat) (ks : List Bool) (sy : Bool) (w : World)
    (hA : Bs w a n cap xs) (hB : Bs w b m bcap ys) (hks : ks.length = q) (hcap : q ≤ pcap ∧ pcap ≤ 9223372036854775807) (hp : Kp w p ks) :
    Calls Try.prog 7 #[.slice a n cap, .slice b m bcap, .slice p q pcap, .bool sy] w fun e w' => e = .returned (.bool true) ∧ Below w.heap.size w w' := by
  have hla := hA.len
  have hea := hA.le
  have hra := hA.reach
  have hlb := hB.len
  have heb := hB.le
  have hrb := hB.reach
  have HKS := hide (And.intro hks (And.intro hcap hp))
  clear hks hp
  obtain ⟨hcap1, hcap2⟩ := hcap
  have HLA := hide hla
  have HLB := hide hlb
  clear hla hlb
  go_enter Try.func7, Try.ntmps7
  go_wp2_with fail
  refine aw_new.mono ?_
  rintro e w1 ⟨R, rfl, hR, a1⟩
  have A1 := hide a1.ax
  clear a1
  go_wp2_with fail
  go_loopw [10, 12] (fun v i wr => ∃ k : Nat, k ≤ n ∧ k ≤ 10 ∧ i = .int .i64 k ∧ Hid (Ax w [v] R (upon ⟨[], []⟩ 0 0 fS (secs xs k)) wr) ∧ Hid (wr.ownsRow w.heap.size 5 1 v (64 * k) (U (secs xs k).flatten))) (fun _ i _ => n - (intOf i).toNat)
  case atStart => exact ⟨0, Nat.zero_le _, by omega, rfl, hide (A1.out.less (fun v hv => .inr (by simp only [List.mem_singleton] at hv; subst hv; rfl))), hide (World.ownsRow_nil _ _ _ _)⟩
  case round =>
    obtain ⟨k, hk, hk10, rfl, hax, hrow⟩ := hrel
    have hkx : k ≤ xs.length := by rw [HLA.out]; exact hk
    by_cases hlt : k < n ∧ k < 10
    · obtain ⟨hlt, hlt10⟩ := hlt
      obtain ⟨bl, ol, rfl, hc1⟩ := (hA.keep hax.out.below).lies (by omega)
      have hk1 := hc1 k hlt
      have HK := hide (fun (W : World) (h : Below w.heap.size w W) => show W.cell? ⟨bl, ol + k, none⟩ = some (.int .u8 (xs.getD k 0)) by
        obtain ⟨b', o', e', hc'⟩ := (hA.keep h).lies (by omega)
        simp only [Option.some.injEq, Addr.mk.injEq, and_true] at e'
        obtain ⟨rfl, rfl⟩ := e'
        exact hc' k hlt)
      have hzb : 0 ≤ xs.getD k 0 ∧ xs.getD k 0 ≤ 255 := by
        have := getD_byte hA.byte k
        simpa using this
      have HNX := hide (secs_next xs k (by rw [HLA.out]; exact hlt))
      clear hc1
      generalize xs.getD k 0 = z at *
      have HZ := hide hzb
      obtain ⟨hz0, hz1⟩ := hzb
      go_wp2_with fail
      refine (fill_any z wr).mono ?_
      rintro e w2 ⟨v2, rfl, r2, b2⟩
      have hgr := secs_gr (xs := xs) hA.byte hk10
      have hsl := secs_length xs k hkx
      have C := ax_put (vs := [u10]) (s := fS) (at' := (k : Int)) hax.out (Tb.of_fresh b2) r2 (sec64_byte HZ.out) (few_upon sm0 (by omega) (by omega) (by omega) (by simp) hgr) (by decide) (by omega) (by rw [rows_upon cl0, hsl]; exact Int.le_refl _) (room_upon' cl0 hsl (by omega))
      rw [put_upon' cl0 (by decide) hsl (by omega), ← HNX.out] at C
      have hr2 := row_tb hrow.out (Tb.of_fresh b2) (fun _ _ h => h) (S := fun _ => False)
      have HC := hide C
      have HR2 := hide hr2
      clear C hr2 hrow hax r2 b2 hk1 hsl hgr
      go_wp2_with fail
      refine HC.out.mono ?_
      rintro e w3 ⟨rfl, h3, kr3⟩
      have H3 := hide h3
      have hr3 := hide (kr3 _ (by simp) _ _ _ _ _ HR2.out)
      have hk3 := HK.out w3 h3.below
      clear HC HR2 kr3 h3
      go_wp2_with fail
      refine (fill_any z w3).mono ?_
      rintro e w4 ⟨v4, rfl, r4, b4⟩
      have hr4 := row_tb hr3.out (Tb.of_fresh b4) (fun _ _ h => h) (S := fun _ => False)
      have h4 := H3.out.kept (Tb.of_fresh b4)
      obtain ⟨v5, w5, hrun, ho5, h5, _, _⟩ := append_beside h4 hr4 r4 (U_one _) (by omega) (fun u hu => by simp at hu)
      have H5 := hide h5
      have R5 : Hid (w5.ownsRow w.heap.size 5 1 v5 (64 * (k + 1)) (U (secs xs (k + 1)).flatten)) := hide (by
        rw [HNX.out, List.flatten_append, U_append]
        have e : 64 * (k + 1) = 64 * k + 64 := by omega
        rw [e]
        simpa using ho5)
      clear hr3 hr4 h4 H3 r4 b4 ho5 h5 hk3
      go_wp2_with (at_builtin; refine wpList_append_run rfl 28 _ _ rfl _ _ v5 rfl rfl hrun ?_)
      go_roundw
      case rel => exact ⟨k + 1, by omega, by omega, by go_num, H5, R5⟩
      case measure => simp [intOf]; omega
    · have hend : (k < n ∧ 10 ≤ k) ∨ ¬ k < n := by omega
      clear hlt
      have hgA := secs_gr (xs := xs) hA.byte hk10
      have hslA := secs_length xs k hkx
      have hfl := secs_flat k hkx
      obtain ⟨A, hAA⟩ : ∃ A, A = secs xs k := ⟨_, rfl⟩
      rw [← hAA] at hgA hslA hax hrow hfl
      clear hAA
      have HSA := hide hslA
      have HGA := hide hgA
      have hSync : Hid (∃ s0 m0 n0, Cl s0 m0 tS ∧ Sm s0 11 ∧ (0 ≤ m0 ∧ m0 ≤ 1) ∧ (n0 ≤ 20) ∧ (∀ p ∈ s0.nm, 0 ≤ p.2) ∧ (0 < k → s0 = sA A ∧ m0 = 1) ∧
          Calls Try.prog 15 #[.pointer (some ⟨R, 0, none⟩), .string fS] wr fun e w' => (∃ x, e = .returned (.int .i64 x)) ∧ Ax w [u10] R (calm s0 m0 n0) w' ∧ w'.ownsRow w.heap.size 5 1 u10 (64 * k) (U A.flatten)) := hide (by
        rcases Nat.eq_zero_or_pos k with h0 | h0
        · have hA0 : A = [] := List.eq_nil_of_length_eq_zero (by omega)
          have hax0 := hax.out
          have hrow0 := hrow.out
          subst hA0
          refine ⟨⟨[], []⟩, 0, 0, cl0t, ⟨by simp, by simp, by simp, by simp⟩, by omega, by omega, by simp, fun h => by omega, ?_⟩
          refine (ax_sync_no (s := fS) hax0 (by decide) rfl).mono ?_
          rintro e w' ⟨rfl, rfl⟩
          exact ⟨⟨_, rfl⟩, hax0, hrow0⟩
        · have hA0 : A ≠ [] := fun e => by rw [e] at hslA; simp at hslA; omega
          have hu : upon ⟨[], []⟩ 0 0 fS A = more ⟨[], []⟩ 0 0 fS A := if_neg hA0
          have hax0 := hax.out
          rw [hu] at hax0
          refine ⟨sA A, 1, 0 + 1 + (A.length : Int), clA A, smA hgA, by omega, by omega, by simp [sA], fun _ => ⟨rfl, rfl⟩, ?_⟩
          have C := ax_sync (s := fS) hax0 (few_more sm0 (by omega) (by omega) (by omega) (by simp) hgA) (by decide) (by show (more ⟨[], []⟩ 0 0 fS A).find fS ≠ 0; exact (by decide : (0 + 1 : Int) ≠ 0))
          rw [sync_more cl0, st0] at C
          refine C.mono ?_
          rintro e w' ⟨rfl, h1, h2⟩
          exact ⟨⟨_, rfl⟩, h1, h2 _ (by simp) _ _ _ _ _ hrow.out⟩)
      obtain ⟨s0, m0, n0, hcl, hsm, hm0, hn0, hfp, hsA, hC⟩ := hSync.out
      obtain ⟨a10, c10, hv10⟩ := row_val hrow.out
      subst hv10
      have HCL := hide hcl
      have HSM := hide hsm
      have HM0 := hide (And.intro hm0 hn0)
      have HFP := hide hfp
      have HSS := hide hsA
      have HC := hide hC
      clear hSync hcl hsm hm0 hn0 hfp hsA hC hax hrow hgA hslA hfl A1
      rcases hend with ⟨he1, he2⟩ | he1
      all_goals
        go_wp2_with fail
        refine HC.out.mono ?_
        rintro e w2 ⟨⟨x2, rfl⟩, h2, r2⟩
        have H2 := hide h2
        have R2 := hide r2
        clear h2 r2 HC
        go_wp2_with fail
        go_loopw [11, 13] (fun v i wr => ∃ j : Nat, j ≤ m ∧ j ≤ 10 ∧ i = .int .i64 j ∧ Hid (Ax w [v, .slice a10 (64 * k) c10] R (upon s0 m0 n0 tS (secs ys j)) wr) ∧ Hid (wr.ownsRow w.heap.size 5 1 v (64 * j) (U (secs ys j).flatten)) ∧ Hid (wr.ownsRow w.heap.size 5 1 (.slice a10 (64 * k) c10) (64 * k) (U A.flatten)) ∧
            Hid (∀ u ∈ [Value.slice a10 (64 * k) c10], ∀ g, u.ownBlock = some g → v.ownBlock ≠ some g)) (fun _ i _ => m - (intOf i).toNat)
        case atStart => exact ⟨0, Nat.zero_le _, by omega, rfl, hide (H2.out.less (fun v hv => by
            simp only [List.mem_cons, List.not_mem_nil, or_false] at hv
            rcases hv with rfl | rfl
            · exact .inr rfl
            · exact .inl (by simp))), hide (World.ownsRow_nil _ _ _ _), R2, hide (fun u hu g hg e => by cases e)⟩
        case round =>
          obtain ⟨j, hj, hj10, rfl, hax, hrow, hrow1, hne⟩ := hrel
          have hjy : j ≤ ys.length := by rw [HLB.out]; exact hj
          by_cases hlt : j < m ∧ j < 10
          · obtain ⟨hlt, hlt10⟩ := hlt
            obtain ⟨bl, ol, rfl, hc1⟩ := (hB.keep hax.out.below).lies (by omega)
            have hk1 := hc1 j hlt
            have HK := hide (fun (W : World) (h : Below w.heap.size w W) => show W.cell? ⟨bl, ol + j, none⟩ = some (.int .u8 (ys.getD j 0)) by
              obtain ⟨b', o', e', hc'⟩ := (hB.keep h).lies (by omega)
              simp only [Option.some.injEq, Addr.mk.injEq, and_true] at e'
              obtain ⟨rfl, rfl⟩ := e'
              exact hc' j hlt)
            have hzb : 0 ≤ ys.getD j 0 ∧ ys.getD j 0 ≤ 255 := by
              have := getD_byte hB.byte j
              simpa using this
            have HNX := hide (secs_next ys j (by rw [HLB.out]; exact hlt))
            clear hc1
            generalize ys.getD j 0 = z at *
            have HZ := hide hzb
            obtain ⟨hz0, hz1⟩ := hzb
            go_wp2_with fail
            refine (fill_any z wr).mono ?_
            rintro e w3 ⟨v3, rfl, r3, b3⟩
            have hgr := secs_gr (xs := ys) hB.byte hj10
            have hsl := secs_length ys j hjy
            have C := ax_put (s := tS) (at' := (j : Int)) hax.out (Tb.of_fresh b3) r3 (sec64_byte HZ.out) (few_upon HSM.out (by omega) (by have := HM0.out.1; omega) (by have := HM0.out.2; omega) HFP.out hgr) (by decide) (by omega) (by rw [rows_upon HCL.out, hsl]; exact Int.le_refl _) (room_upon' HCL.out hsl (by omega))
            rw [put_upon' HCL.out (by decide) hsl (by omega), ← HNX.out] at C
            have hr3 := row_tb hrow.out (Tb.of_fresh b3) (fun _ _ h => h) (S := fun _ => False)
            have hs3 := row_tb hrow1.out (Tb.of_fresh b3) (fun _ _ h => h) (S := fun _ => False)
            have HC := hide C
            have HR3 := hide hr3
            have HS3 := hide hs3
            clear C hr3 hs3 hrow hrow1 hax r3 b3 hk1 hsl hgr
            go_wp2_with fail
            refine HC.out.mono ?_
            rintro e w4 ⟨rfl, h4, kr4⟩
            have H4 := hide h4
            have hr4 := hide (kr4 _ (by simp) _ _ _ _ _ HR3.out)
            have hs4 := hide (kr4 _ (by simp) _ _ _ _ _ HS3.out)
            have hk4 := HK.out w4 h4.below
            clear HC HR3 HS3 kr4 h4
            go_wp2_with fail
            refine (fill_any z w4).mono ?_
            rintro e w5 ⟨v5, rfl, r5, b5⟩
            have hr5 := row_tb hr4.out (Tb.of_fresh b5) (fun _ _ h => h) (S := fun _ => False)
            have hs5 := row_tb hs4.out (Tb.of_fresh b5) (fun _ _ h => h) (S := fun _ => False)
            have h5 := H4.out.kept (Tb.of_fresh b5)
            obtain ⟨v6, w6, hrun, ho6, h6, kr6, hne6⟩ := append_beside h5 hr5 r5 (U_one _) (by omega) hne.out
            have H6 := hide h6
            have HN6 := hide hne6
            have HS6 := hide (kr6 _ (by simp) _ _ _ _ _ hs5)
            have R6 : Hid (w6.ownsRow w.heap.size 5 1 v6 (64 * (j + 1)) (U (secs ys (j + 1)).flatten)) := hide (by
              rw [HNX.out, List.flatten_append, U_append]
              have e : 64 * (j + 1) = 64 * j + 64 := by omega
              rw [e]
              simpa using ho6)
            clear hr4 hs4 hr5 hs5 h5 H4 r5 b5 ho6 h6 hk4 kr6 hne6 hne
            go_wp2_with (at_builtin; refine wpList_append_run rfl 28 _ _ rfl _ _ v6 rfl rfl hrun ?_)
            go_roundw
            case rel => exact ⟨j + 1, by omega, by omega, by go_num, H6, R6, HS6, HN6⟩
            case measure => simp [intOf]; omega
          · have hend2 : (j < m ∧ 10 ≤ j) ∨ ¬ j < m := by omega
            clear hlt
            have hgB := secs_gr (xs := ys) hB.byte hj10
            have hslB := secs_length ys j hjy
            obtain ⟨B, hBB⟩ : ∃ B, B = secs ys j := ⟨_, rfl⟩
            rw [← hBB] at hgB hslB hax hrow
            clear hBB
            have HGB := hide hgB
            have HSB := hide hslB
            obtain ⟨a11, c11, hv11⟩ := row_val hrow.out
            subst hv11
            clear hgB hslB hne H2 R2
            obtain ⟨N1, hN1⟩ : ∃ N1, N1 = 64 * k := ⟨_, rfl⟩
            obtain ⟨N2, hN2⟩ : ∃ N2, N2 = 64 * j := ⟨_, rfl⟩
            rw [← hN1] at hax hrow1
            rw [← hN2] at hax hrow
            rw [← hN1, ← hN2]
            have HN1 := hide hN1
            have HN2 := hide hN2
            clear hN1 hN2
            by_cases hk0 : N1 = 0
            · subst hk0
              rcases hend2 with ⟨hf1, hf2⟩ | hf1
              all_goals
                go_wp2_with fail
                refine (awake_any _).mono ?_
                rintro e w9 ⟨rfl, t9⟩
                go_wp2_with fail
                go_ret
                exact ⟨rfl, hax.out.below.trans ((t9.below (fun _ h => h.elim) (Nat.le_refl _)).mono hax.out.below.size)⟩
            · have hd1 : ((N1 : Int) == 0) = false := by simp; omega
              by_cases hj0 : N2 = 0
              · subst hj0
                rcases hend2 with ⟨hf1, hf2⟩ | hf1
                all_goals
                  go_wp2_with fail
                  refine (awake_any _).mono ?_
                  rintro e w9 ⟨rfl, t9⟩
                  go_wp2_with fail
                  go_ret
                  exact ⟨rfl, hax.out.below.trans ((t9.below (fun _ h => h.elim) (Nat.le_refl _)).mono hax.out.below.size)⟩
              · have hd2 : ((N2 : Int) == 0) = false := by simp; omega
                have hkp : 0 < k := by have := HN1.out; omega
                have hjp : 0 < j := by have := HN2.out; omega
                obtain ⟨e1, e2⟩ := HSS.out hkp
                have hB0 : B ≠ [] := fun e => by have := HSB.out; rw [e] at this; simp at this; omega
                have hu : upon s0 m0 n0 tS B = more s0 m0 n0 tS B := if_neg hB0
                subst e1
                subst e2
                rw [hu] at hax
                have C1 := ax_sync (s := tS) hax.out (few_more HSM.out (by omega) (by omega) (by have := HM0.out.2; omega) HFP.out HGB.out) (by decide) (by show (1 + 1 : Int) ≠ 0; decide)
                rw [sync_more HCL.out, stA] at C1
                obtain ⟨n1, hn1⟩ : ∃ n1, n1 = n0 + 1 + (B.length : Int) := ⟨_, rfl⟩
                have hn1b : n1 ≤ 40 := by have := HSB.out; have := HM0.out.2; omega
                rw [← hn1] at C1
                have HC1 := hide C1
                have HROW := hide (And.intro hrow.out hrow1.out)
                clear C1 hn1 hax hrow hrow1 hu hB0 HCL HFP HM0 HSS HN1 HN2 HSB HSM HSA
                cases sy
                · rcases hend2 with ⟨hf1, hf2⟩ | hf1
                  all_goals
                    go_wp2_with fail
                    refine HC1.out.mono ?_
                    rintro e w3 ⟨rfl, h3, k3⟩
                    have R3 := hide (And.intro (k3 _ (by simp) _ _ _ _ _ HROW.out.1) (k3 _ (by simp) _ _ _ _ _ HROW.out.2))
                    have C2 := ax_rename (s := tS) (t := fS) h3 (few_calm (smB HGA.out HGB.out) (by omega) (by omega) (by omega) (by simp [sB])) (by decide) (by decide) (by rw [find_Bt]; decide)
                    rw [ren_B] at C2
                    have HC2 := hide C2
                    clear C2 h3 k3 HC1 HROW
                    go_wp2_with fail
                    refine HC2.out.mono ?_
                    rintro e w4 ⟨rfl, h4, k4⟩
                    have R4 := hide (And.intro (k4 _ (by simp) _ _ _ _ _ R3.out.1) (k4 _ (by simp) _ _ _ _ _ R3.out.2))
                    have C4 := ax_crash h4 (few_R HGA.out HGB.out (by omega) (by omega)) HKS.out.1 HKS.out.2.1 HKS.out.2.2
                    have HC4 := hide C4
                    clear C4 h4 k4 HC2 R3
                    go_wp2_with fail
                    refine HC4.out.mono ?_
                    rintro e w6 ⟨rfl, h6, k6⟩
                    have R6 := hide (And.intro (k6 _ (by simp) _ _ _ _ _ R4.out.1) (k6 _ (by simp) _ _ _ _ _ R4.out.2))
                    clear k6 HC4 R4
                    rcases crash_B A B 2 n1 ks with ec | ec
                    · rw [show (1 + 1 : Int) = 2 from rfl, ec] at h6
                      clear ec
                      have H6 := hide h6
                      clear h6
                      have C6 := ax_read (s := fS) H6.out (few_calm (K := 12) (smB HGA.out HGB.out) (by omega) (by omega) (by omega) (by simp [sB])) (by decide) (by rw [find_Bf]; decide) rfl
                      rw [bytes_B] at C6
                      obtain ⟨N7, hN7⟩ : ∃ N7, N7 = A.flatten.length := ⟨_, rfl⟩
                      rw [← hN7] at C6
                      clear hN7
                      have HC6 := hide C6
                      clear C6
                      go_wp2_with fail
                      refine HC6.out.mono ?_
                      rintro e w7 ⟨v7, rfl, r7, b7⟩
                      obtain ⟨a7, c7, hv7⟩ := row_val r7
                      subst hv7
                      have C7 := same_any _ _ _ _ _ _ _ _ w7 (own_bs r7 (flat_byte HGA.out)) (own_bs (row_tb R6.out.1 (Tb.of_fresh b7) (fun _ _ h => h) (S := fun _ => False)) (flat_byte HGB.out))
                      have C8 := same_any _ _ _ _ _ _ _ _ w7 (own_bs r7 (flat_byte HGA.out)) (own_bs (row_tb R6.out.2 (Tb.of_fresh b7) (fun _ _ h => h) (S := fun _ => False)) (flat_byte HGA.out))
                      rw [decide_eq_true rfl] at C8
                      have HB7 : Hid (Below w.heap.size w w7) := hide (H6.out.below.trans (b7.mono H6.out.below.size))
                      have HC7 := hide C7
                      have HC8 := hide C8
                      clear C7 C8 r7 b7 HC6 H6 R6
                      by_cases hsame : A.flatten = B.flatten
                      · rw [decide_eq_true hsame] at HC7
                        clear hsame HC8
                        go_wp2_with fail
                        refine HC7.out.mono ?_
                        rintro e w8 ⟨rfl, rfl⟩
                        clear HC7
                        go_wp2_with fail
                        refine (awake_any _).mono ?_
                        rintro e w9 ⟨rfl, t9⟩
                        go_wp2_with fail
                        go_ret
                        exact ⟨rfl, HB7.out.trans ((t9.below (fun _ h => h.elim) (Nat.le_refl _)).mono HB7.out.size)⟩
                      · rw [decide_eq_false hsame] at HC7
                        clear hsame
                        go_wp2_with fail
                        refine HC7.out.mono ?_
                        rintro e w8 ⟨rfl, rfl⟩
                        clear HC7
                        go_wp2_with fail
                        refine HC8.out.mono ?_
                        rintro e w8 ⟨rfl, rfl⟩
                        clear HC8
                        go_wp2_with fail
                        refine (awake_any _).mono ?_
                        rintro e w9 ⟨rfl, t9⟩
                        go_wp2_with fail
                        go_ret
                        exact ⟨rfl, HB7.out.trans ((t9.below (fun _ h => h.elim) (Nat.le_refl _)).mono HB7.out.size)⟩
                    · rw [show (1 + 1 : Int) = 2 from rfl, ec] at h6
                      clear ec
                      have H6 := hide h6
                      clear h6
                      have C6 := ax_read (s := fS) H6.out (few_calm (K := 11) (smC HGB.out) (by omega) (by omega) (by omega) (by simp [sC])) (by decide) (by rw [find_Cf]; decide) rfl
                      rw [bytes_C] at C6
                      obtain ⟨N7, hN7⟩ : ∃ N7, N7 = B.flatten.length := ⟨_, rfl⟩
                      rw [← hN7] at C6
                      clear hN7
                      have HC6 := hide C6
                      clear C6
                      go_wp2_with fail
                      refine HC6.out.mono ?_
                      rintro e w7 ⟨v7, rfl, r7, b7⟩
                      obtain ⟨a7, c7, hv7⟩ := row_val r7
                      subst hv7
                      have C7 := same_any _ _ _ _ _ _ _ _ w7 (own_bs r7 (flat_byte HGB.out)) (own_bs (row_tb R6.out.1 (Tb.of_fresh b7) (fun _ _ h => h) (S := fun _ => False)) (flat_byte HGB.out))
                      rw [decide_eq_true rfl] at C7
                      have HB7 : Hid (Below w.heap.size w w7) := hide (H6.out.below.trans (b7.mono H6.out.below.size))
                      have HC7 := hide C7
                      clear C7 r7 b7 HC6 H6 R6
                      go_wp2_with fail
                      refine HC7.out.mono ?_
                      rintro e w8 ⟨rfl, rfl⟩
                      clear HC7
                      go_wp2_with fail
                      refine (awake_any _).mono ?_
                      rintro e w9 ⟨rfl, t9⟩
                      go_wp2_with fail
                      go_ret
                      exact ⟨rfl, HB7.out.trans ((t9.below (fun _ h => h.elim) (Nat.le_refl _)).mono HB7.out.size)⟩
                · rcases hend2 with ⟨hf1, hf2⟩ | hf1
                  all_goals
                    go_wp2_with fail
                    refine HC1.out.mono ?_
                    rintro e w3 ⟨rfl, h3, k3⟩
                    have R3 := hide (And.intro (k3 _ (by simp) _ _ _ _ _ HROW.out.1) (k3 _ (by simp) _ _ _ _ _ HROW.out.2))
                    have C2 := ax_rename (s := tS) (t := fS) h3 (few_calm (smB HGA.out HGB.out) (by omega) (by omega) (by omega) (by simp [sB])) (by decide) (by decide) (by rw [find_Bt]; decide)
                    rw [ren_B] at C2
                    have HC2 := hide C2
                    clear C2 h3 k3 HC1 HROW
                    go_wp2_with fail
                    refine HC2.out.mono ?_
                    rintro e w4 ⟨rfl, h4, k4⟩
                    have R4 := hide (And.intro (k4 _ (by simp) _ _ _ _ _ R3.out.1) (k4 _ (by simp) _ _ _ _ _ R3.out.2))
                    have C3 := ax_syncNames h4 (few_R HGA.out HGB.out (by omega) (by omega))
                    rw [named_B] at C3
                    have HC3 := hide C3
                    clear C3 h4 k4 HC2 R3
                    go_wp2_with fail
                    refine HC3.out.mono ?_
                    rintro e w5 ⟨rfl, h5, k5⟩
                    have R5 := hide (And.intro (k5 _ (by simp) _ _ _ _ _ R4.out.1) (k5 _ (by simp) _ _ _ _ _ R4.out.2))
                    have C4 := ax_crash h5 (K := 11) ⟨smC HGB.out, smC HGB.out, by omega, by simp only; omega, by simp only; omega, by simp [sC]⟩ HKS.out.1 HKS.out.2.1 HKS.out.2.2
                    rw [crash_C] at C4
                    have HC4 := hide C4
                    clear C4 h5 k5 HC3 R4
                    go_wp2_with fail
                    refine HC4.out.mono ?_
                    rintro e w6 ⟨rfl, h6, k6⟩
                    have R6 := hide (And.intro (k6 _ (by simp) _ _ _ _ _ R5.out.1) (k6 _ (by simp) _ _ _ _ _ R5.out.2))
                    clear k6 HC4 R5
                    have H6 := hide h6
                    clear h6
                    have C6 := ax_read (s := fS) H6.out (few_calm (K := 11) (smC HGB.out) (by omega) (by omega) (by omega) (by simp [sC])) (by decide) (by rw [find_Cf]; decide) rfl
                    rw [bytes_C] at C6
                    obtain ⟨N7, hN7⟩ : ∃ N7, N7 = B.flatten.length := ⟨_, rfl⟩
                    rw [← hN7] at C6
                    clear hN7
                    have HC6 := hide C6
                    clear C6
                    go_wp2_with fail
                    refine HC6.out.mono ?_
                    rintro e w7 ⟨v7, rfl, r7, b7⟩
                    obtain ⟨a7, c7, hv7⟩ := row_val r7
                    subst hv7
                    have C7 := same_any _ _ _ _ _ _ _ _ w7 (own_bs r7 (flat_byte HGB.out)) (own_bs (row_tb R6.out.1 (Tb.of_fresh b7) (fun _ _ h => h) (S := fun _ => False)) (flat_byte HGB.out))
                    rw [decide_eq_true rfl] at C7
                    have HB7 : Hid (Below w.heap.size w w7) := hide (H6.out.below.trans (b7.mono H6.out.below.size))
                    have HC7 := hide C7
                    clear C7 r7 b7 HC6 H6 R6
                    go_wp2_with fail
                    refine HC7.out.mono ?_
                    rintro e w8 ⟨rfl, rfl⟩
                    clear HC7
                    go_wp2_with fail
                    refine (awake_any _).mono ?_
                    rintro e w9 ⟨rfl, t9⟩
                    go_wp2_with fail
                    go_ret
                    exact ⟨rfl, HB7.out.trans ((t9.below (fun _ h => h.elim) (Nat.le_refl _)).mono HB7.out.size)⟩

end fileWhole
end Go.Proofs.Ytiijfgidfcfjoaa

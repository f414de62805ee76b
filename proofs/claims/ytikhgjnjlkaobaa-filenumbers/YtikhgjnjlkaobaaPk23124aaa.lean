/-
  Texts put into one.
-/
import Derived.Test.YtikhgjnjlkaobaaPkcfeb11bc
import Derived.Test.YtikhgjnjlkaobaaPkd50855f3
import Derived.Lib.SmallJoins
import Derived.Test.YtikhgjnjlkaobaaPkf5435555
import Derived.Deep.RegionWith
import Derived.Deep.RegionHeld3

/-
  Bytes that are all alike.
-/
namespace Go.Proofs.Ytikhgjnjlkaobaa
open Go.RowKit
set_option maxRecDepth 100000
set_option maxRecDepth 100000

theorem U_put (ys : List Int) (i : Nat) (v : Int) : (U ys).set i (.int .u8 v) = U (ys.set i v) := by simp [U]

/-- How many. -/
def fz (n : Int) : Nat := (max (min (64 + n) 200) 0).toNat

theorem fz_le (n : Int) : fz n ≤ 200 := by unfold fz; omega

set_option maxHeartbeats 1000000 in
theorem filled_any (b n : Int) (hn : -9223372036854775808 ≤ n ∧ n ≤ 9223372036854775743) (w : World) :
    Calls Try.prog 10 #[.int .u8 b, .int .i64 n] w fun e w' => ∃ v, e = .returned v ∧ w'.ownsRow w.heap.size 5 1 v (fz n) (U (List.replicate (fz n) b)) ∧ Below w.heap.size w w' := by
  obtain ⟨i0, hi, hz⟩ := Option.map_eq_some_iff.1 info5
  simp only [Prod.mk.injEq] at hz
  obtain ⟨hz0, hz1, hz2⟩ := hz
  obtain ⟨m, hm⟩ : ∃ m, m = fz n := ⟨_, rfl⟩
  have hm2 : m ≤ 200 := by rw [hm]; exact fz_le n
  have hmv : (m : Int) = max (min (64 + n) 200) 0 := by rw [hm]; unfold fz; omega
  have kmin : ∀ w', (Builtin.min_ #[3, 3] 3 #[.int .i64 (64 + n), .int .i64 200]).run Try.prog w' = .ok (.int .i64 (min (64 + n) 200)) w' := fun w' => by rw [run_min_int2, show min (64 + n) 200 = if 200 < 64 + n then 200 else 64 + n by split <;> omega]
  have kmax : ∀ w', (Builtin.max_ #[3, 3] 3 #[.int .i64 (min (64 + n) 200), .int .i64 0]).run Try.prog w' = .ok (.int .i64 (m : Nat)) w' := fun w' => by rw [hmv, run_max_int2, show max (min (64 + n) 200) 0 = if 0 > min (64 + n) 200 then 0 else min (64 + n) 200 by split <;> omega]
  rw [← hm]
  have HV := hide hmv
  clear hm hmv
  go_enter Try.func10, Try.ntmps10
  go_wp2_with (at_make; refine wpList_make_full _ rfl (.tmp 10) (.tmp 10) (28 : TypeId) rfl w.heap.size 5 i0 (.int .u8 0) 1 Try.underlying28 hi hz0 hz1 .i64 .i64 _ _ m rfl rfl (by omega) (by omega) (by rw [hz2]; omega) (by unfold maxLen; omega) (Nat.le_refl _) ?_; intro w1 hown hgrow; have hg := hide (own_full hown); have hbl : Below w.heap.size w w1 := (Below.refl _ _).grown hgrow (Nat.le_refl _) (fun k hk => by cases hk); clear hown hgrow)
  go_loopw [6] (fun i wr => ∃ k : Nat, k ≤ m ∧ i = .int .i64 k ∧ Hid (wr.heap[w.heap.size]? = some (.cells (U (List.replicate k b ++ List.replicate (m - k) 0)).toArray 5 (0, 0))) ∧ Below w.heap.size w wr) (fun i _ => m - (intOf i).toNat)
  case atStart => exact ⟨0, Nat.zero_le _, rfl, by simpa using hg, hbl⟩
  case round =>
    obtain ⟨k, hk, rfl, hG, hbr⟩ := hrel
    by_cases hlt : k < m
    · obtain ⟨u, hu⟩ := heap_cell (i := k) hG.out (by rw [U_length]; simp; omega)
      have hfz : wr.frozen? ⟨w.heap.size, k, none⟩ = false := heap_free hG.out
      have hfin : Hid ((wr.setCell ⟨w.heap.size, k, none⟩ (.int .u8 b)).heap[w.heap.size]? = some (.cells (U (List.replicate (k + 1) b ++ List.replicate (m - (k + 1)) 0)).toArray 5 (0, 0))) := hide (by
        rw [heap_set hG.out, U_put, List.set_append_right _ _ (by simp), List.length_replicate, Nat.sub_self, show m - k = (m - (k + 1)) + 1 by omega, List.replicate_succ (n := m - (k + 1)), List.set_cons_zero, List.replicate_succ', List.append_assoc]
        rfl)
      go_wp2_with fail
      go_roundw
      case rel => exact ⟨k + 1, by omega, by go_num, hfin, hbr.setCell (by simp) _⟩
      case measure => simp [intOf]; omega
    · obtain rfl : k = m := by omega
      have hG' : wr.heap[w.heap.size]? = some (.cells (U (List.replicate k b)).toArray 5 (0, 0)) := by simpa using hG.out
      have HG := hide hG'
      clear hG hG'
      go_wp2_with fail
      go_ret
      exact ⟨_, rfl, ⟨by simp [U_length], .inr ⟨_, _, _, rfl, Nat.le_refl _, HG.out, Nat.le_refl _, by unfold maxLen; omega, by simp [U_length], by simp [U]⟩⟩, hbr⟩

end Go.Proofs.Ytikhgjnjlkaobaa

/-
  A disk of one's own: what each call does to it.
-/
namespace Go.Proofs.Ytikhgjnjlkaobaa
open Go.RowKit
set_option maxRecDepth 100000
set_option maxRecDepth 100000

/-- A disk that was made since w, in W. -/
def Aw (w : World) (R : Nat) (d : Dsk) (W : World) : Prop := ∃ L, Dk W L R d ∧ (∀ g, g < w.heap.size → L g = (0, 0)) ∧ Tb (fun _ => False) w W

theorem notTD0 : ¬ TD (0, 0) := by unfold TD TA TB; simp

section
variable {w W V : World} {R : Nat} {d : Dsk}

theorem Dk.tb {L L' : Lb} {S : Nat → Prop} (h : Dk W L R d) (hb : Tb S W V) (hl : Lx W L L') (hS : ∀ g, TD (L g) → ¬ S g) : Dk V L' R d := by
  obtain ⟨o, h1, h2⟩ := h
  exact ⟨o, h1.tb hb hl hS, h2⟩

theorem Aw.on (h : Aw w R d W) (hb : Tb (fun _ => False) W V) : ∃ L, Dk V L R d ∧ (∀ g, g < w.heap.size → L g = (0, 0)) ∧ (∀ g, W.heap.size ≤ g → L g = (0, 0)) ∧ Tb (fun _ => False) w V := by
  obtain ⟨L, h1, h2, h3⟩ := h
  refine ⟨onlyL W L, h1.tb hb (onlyL_lx _ _) (fun _ _ h => h), fun g hg => ?_, fun g hg => onlyL_new hg, h3.trans hb (fun _ _ h => h)⟩
  rw [onlyL_lx W L g (Nat.lt_of_lt_of_le hg h3.size)]
  exact h2 g hg

theorem Aw.kept (h : Aw w R d W) (hb : Tb (fun _ => False) W V) : Aw w R d V := by
  obtain ⟨L, h1, h2, _, h3⟩ := h.on hb
  exact ⟨L, h1, h2, h3⟩

theorem Aw.step {L L' : Lb} {d' : Dsk} (h2 : ∀ g, g < w.heap.size → L g = (0, 0)) (h3 : Tb (fun _ => False) w W) (hl : Lx W L L') (hd : Dk V L' R d') (ht : Tl L TD W V) : Aw w R d' V := by
  refine ⟨L', hd, fun g hg => ?_, Tb.trans h3 ht (fun i hi e => ?_)⟩
  · rw [hl g (Nat.lt_of_lt_of_le hg h3.size)]
    exact h2 g hg
  · rw [h2 i hi] at e
    exact notTD0 e

theorem aw_new : Calls Try.prog 8 #[] w fun e w' => ∃ R, e = .returned (.pointer (some ⟨R, 0, none⟩)) ∧ w.heap.size ≤ R ∧ Aw w R newDsk w' := by
  refine (new_any w).mono ?_
  rintro e w' ⟨R, L, rfl, h1, h2, h3, h4⟩
  exact ⟨R, rfl, h1, L, h2, h3, h4⟩

/-- What keeps a disk's numbers small. -/
structure Few (d : Dsk) (K : Nat) : Prop where
  std : Sm d.std K
  dur : Sm d.dur K
  k : K < 1000000000
  last : d.last < 900000000
  made : 0 ≤ d.made ∧ d.made < 900000000
  file : ∀ p ∈ d.std.nm, 0 ≤ p.2

theorem aw_put {K : Nat} {v : Value} {s : ByteArray} {at' : Int} {data : List Int} (h : Aw w R d W) (hb : Tb (fun _ => False) W V) (hv : V.ownsRow W.heap.size 5 1 v 64 (U data)) (hby : ∀ z ∈ data, 0 ≤ z ∧ z ≤ 255) (hf : Few d K) (hs : 1 ≤ s.size ∧ s.size ≤ 64)
    (h1 : 0 ≤ at') (h2 : at' ≤ ((lk d.std.rw (d.find s)).getD []).length) (hfull : ¬ (at' = 4096 ∨ (d.find s = 0 ∧ 256 ≤ d.std.nm.length))) :
    Calls Try.prog 9 #[.pointer (some ⟨R, 0, none⟩), .string s, .int .i64 at', v] V fun e w' => e = .returned (.int .i64 (d.put s at' 64 data).1) ∧ Aw w R (d.put s at' 64 data).2 w' := by
  obtain ⟨g, cap, rfl⟩ := own_shape hv (by omega)
  obtain ⟨L, ⟨o, a1, a2⟩, a3, a4, a5⟩ := h.on hb
  have hk := hf.k
  refine (put_go a1 a2 hf.std (by omega) hf.last hf.made hf.file hs (own_bs hv hby) (by rw [a4 g (own_lt hv).1]; exact notTD0) h1 h2 hfull).mono ?_
  rintro e w' ⟨rfl, L', b1, b2, b3⟩
  exact ⟨rfl, Aw.step a3 a5 b1 b2 b3⟩

theorem aw_sync {K : Nat} {s : ByteArray} (h : Aw w R d W) (hf : Few d K) (hs : s.size ≤ 9223372036854775807) (h0 : d.find s ≠ 0) :
    Calls Try.prog 15 #[.pointer (some ⟨R, 0, none⟩), .string s] W fun e w' => e = .returned (.int .i64 (d.sync s).1) ∧ Aw w R (d.sync s).2 w' := by
  obtain ⟨L, ⟨o, a1, a2⟩, a3, a5⟩ := h
  have hk := hf.k
  refine (sync_go a1 a2 hf.std hf.dur (by omega) hf.last hs h0).mono ?_
  rintro e w' ⟨rfl, L', b1, b2, b3⟩
  exact ⟨rfl, Aw.step a3 a5 b1 b2 b3⟩

theorem aw_pending (h : Aw w R d W) (hl : d.last < 900000000) : Calls Try.prog 11 #[.pointer (some ⟨R, 0, none⟩)] W fun e w' => e = .returned (.int .i64 d.l.length) ∧ Tb (fun _ => False) W w' := by
  obtain ⟨L, ⟨o, a1, a2⟩, a3, a5⟩ := h
  exact pending_any a1 (by rw [a2.last]; omega)

/-- A crash that keeps some steps. -/
def Dsk.crash (d : Dsk) (ks : List Bool) : Dsk := ⟨(kep d.l ks).foldl Shp.does d.dur, (kep d.l ks).foldl Shp.does d.dur, [], 0, d.made, false, -1, -1, d.failure⟩

theorem aw_crash {K : Nat} {p : Option Addr} {m cap : Nat} {ks : List Bool} (h : Aw w R d W) (hb : Tb (fun _ => False) W V) (hf : Few d K) (hks : ks.length = m) (hcap : m ≤ cap ∧ cap ≤ 9223372036854775807) (hp : Kp V p ks) (hpl : ∀ a, p = some a → (W.heap.size ≤ a.block ∨ a.block < w.heap.size) ∧ a.block < V.heap.size) :
    Calls Try.prog 12 #[.pointer (some ⟨R, 0, none⟩), .slice p m cap] V fun e w' => e = .returned (.int .i64 0) ∧ Aw w R (d.crash ks) w' := by
  obtain ⟨L, ⟨o, a1, a2⟩, a3, a4, a5⟩ := h.on hb
  have hk := hf.k
  have hl := hf.last
  refine (crash_any a1 (by rw [a2.last]; omega) hf.dur (by omega) hks hcap hp (fun a _ ha => ?_) (fun a _ ha => (hpl a ha).2)).mono ?_
  · have : L a.block = (0, 0) := (hpl a ha).1.elim (a4 _) (a3 _)
    rw [this]
    unfold TA
    simp
  · rintro e w' ⟨rfl, L', sn, sr, us, b1, b2, b3⟩
    exact ⟨rfl, Aw.step a3 a5 b1 ⟨_, b2, ⟨rfl, a2.made, rfl, rfl, rfl, a2.failure⟩⟩ b3⟩

theorem aw_read {K : Nat} {s : ByteArray} (h : Aw w R d W) (hf : Few d K) (hs : s.size ≤ 9223372036854775807) (h0 : d.find s ≠ 0) (hdn : d.down = false) :
    Calls Try.prog 13 #[.pointer (some ⟨R, 0, none⟩), .string s] W fun e w' => ∃ v, e = .returned (.tuple #[v, .int .i64 0]) ∧ w'.ownsRow W.heap.size 5 1 v (d.bytes s).length (U (d.bytes s)) ∧ Below W.heap.size W w' := by
  obtain ⟨L, ⟨o, a1, a2⟩, a3, a5⟩ := h
  exact read_yes a1 a2 hf.std hs h0 hdn
end

end Go.Proofs.Ytikhgjnjlkaobaa

/-
  'awake': true.
-/
namespace Go.Proofs.Ytikhgjnjlkaobaa
open Go.RowKit
set_option maxRecDepth 100000
set_option maxRecDepth 100000

/-- The name and the two sectors. -/
def aS : ByteArray := ⟨#[97]⟩
def aA : List Int := List.replicate 64 65
def aB : List Int := List.replicate 64 66

def dk1 : Dsk := (newDsk.put aS 0 64 aA).2
def dk2 : Dsk := (dk1.sync aS).2
def dk3 : Dsk := (dk2.put aS 0 64 aB).2
def dk4 : Dsk := (dk3.put aS 1 64 aB).2
def dk5 : Dsk := dk4.crash [false, true]

theorem dk1e : (newDsk.put aS 0 64 aA).1 = 0 := by kernel_rfl
theorem dk2e : (dk1.sync aS).1 = 0 := by kernel_rfl
theorem dk3e : (dk2.put aS 0 64 aB).1 = 0 := by kernel_rfl
theorem dk4e : (dk3.put aS 1 64 aB).1 = 0 := by kernel_rfl
theorem dk1s : dk1.std = ⟨[([97], 1)], [(1, [aA])]⟩ := by kernel_rfl
theorem dk2s : dk2.std = ⟨[([97], 1)], [(1, [aA])]⟩ := by kernel_rfl
theorem dk3s : dk3.std = ⟨[([97], 1)], [(1, [aB])]⟩ := by kernel_rfl
theorem dk4s : dk4.std = ⟨[([97], 1)], [(1, [aB, aB])]⟩ := by kernel_rfl
theorem dk5s : dk5.std = ⟨[([97], 1)], [(1, [aA, aB])]⟩ := by kernel_rfl
theorem dk1u : dk1.dur = ⟨[], []⟩ := by kernel_rfl
theorem dk2u : dk2.dur = ⟨[([97], 1)], [(1, [aA])]⟩ := by kernel_rfl
theorem dk3u : dk3.dur = ⟨[([97], 1)], [(1, [aA])]⟩ := by kernel_rfl
theorem dk4u : dk4.dur = ⟨[([97], 1)], [(1, [aA])]⟩ := by kernel_rfl
theorem dk5u : dk5.dur = ⟨[([97], 1)], [(1, [aA, aB])]⟩ := by kernel_rfl
theorem dk4l : dk4.l.length = 2 := by kernel_rfl
theorem dk5l : dk5.l.length = 0 := by kernel_rfl
theorem dk1n : dk1.last = 2 ∧ dk1.made = 1 := by constructor <;> kernel_rfl
theorem dk2n : dk2.last = 2 ∧ dk2.made = 1 := by constructor <;> kernel_rfl
theorem dk3n : dk3.last = 3 ∧ dk3.made = 1 := by constructor <;> kernel_rfl
theorem dk4n : dk4.last = 4 ∧ dk4.made = 1 := by constructor <;> kernel_rfl
theorem dk5n : dk5.last = 0 ∧ dk5.made = 1 := by constructor <;> kernel_rfl

theorem Sm.empty : Sm ⟨[], []⟩ 10 := ⟨by simp, by simp, by simp, by simp⟩
theorem Sm.one {r : List (List Int)} (h : ∀ x ∈ r, x = aA ∨ x = aB) (hl : r.length ≤ 2) : Sm ⟨[([97], 1)], [(1, r)]⟩ 10 := by
  refine ⟨by simp, by simp, by simp [I6], ?_⟩
  intro p hp
  simp only [List.mem_singleton] at hp
  subst hp
  refine ⟨by simp only; omega, fun x hx => ?_⟩
  rcases h x hx with rfl | rfl
  · exact ⟨by simp [aA], fun z hz => by rw [(List.mem_replicate.1 hz).2]; omega⟩
  · exact ⟨by simp [aB], fun z hz => by rw [(List.mem_replicate.1 hz).2]; omega⟩

theorem few0 : Few newDsk 10 := ⟨Sm.empty, Sm.empty, by decide, by decide, by decide, by simp [newDsk]⟩
theorem few1 : Few dk1 10 := ⟨by rw [dk1s]; exact Sm.one (by simp) (by simp), by rw [dk1u]; exact Sm.empty, by decide, by rw [dk1n.1]; decide, by rw [dk1n.2]; decide, by rw [dk1s]; simp⟩
theorem few2 : Few dk2 10 := ⟨by rw [dk2s]; exact Sm.one (by simp) (by simp), by rw [dk2u]; exact Sm.one (by simp) (by simp), by decide, by rw [dk2n.1]; decide, by rw [dk2n.2]; decide, by rw [dk2s]; simp⟩
theorem few3 : Few dk3 10 := ⟨by rw [dk3s]; exact Sm.one (by simp) (by simp), by rw [dk3u]; exact Sm.one (by simp) (by simp), by decide, by rw [dk3n.1]; decide, by rw [dk3n.2]; decide, by rw [dk3s]; simp⟩
theorem few4 : Few dk4 10 := ⟨by rw [dk4s]; exact Sm.one (by simp) (by simp), by rw [dk4u]; exact Sm.one (by simp) (by simp), by decide, by rw [dk4n.1]; decide, by rw [dk4n.2]; decide, by rw [dk4s]; simp⟩
theorem few5 : Few dk5 10 := ⟨by rw [dk5s]; exact Sm.one (by simp) (by simp), by rw [dk5u]; exact Sm.one (by simp) (by simp), by decide, by rw [dk5n.1]; decide, by rw [dk5n.2]; decide, by rw [dk5s]; simp⟩

theorem dk1f : dk1.find aS = 1 := by kernel_rfl
theorem dk5f : dk5.find aS = 1 := by kernel_rfl
theorem dk5b : dk5.bytes aS = aA ++ aB := by kernel_rfl
theorem fz0 : fz 0 = 64 := by kernel_rfl
theorem aA_by : ∀ z ∈ aA, 0 ≤ z ∧ z ≤ 255 := fun z hz => by rw [(List.mem_replicate.1 hz).2]; omega
theorem aB_by : ∀ z ∈ aB, 0 ≤ z ∧ z ≤ 255 := fun z hz => by rw [(List.mem_replicate.1 hz).2]; omega

theorem fillA (w : World) : Calls Try.prog 10 #[.int .u8 65, .int .i64 0] w fun e w' => ∃ v, e = .returned v ∧ w'.ownsRow w.heap.size 5 1 v 64 (U aA) ∧ Below w.heap.size w w' := by
  have h := filled_any 65 0 (by omega) w
  rw [fz0] at h
  exact h
theorem fillB (w : World) : Calls Try.prog 10 #[.int .u8 66, .int .i64 0] w fun e w' => ∃ v, e = .returned v ∧ w'.ownsRow w.heap.size 5 1 v 64 (U aB) ∧ Below w.heap.size w w' := by
  have h := filled_any 66 0 (by omega) w
  rw [fz0] at h
  exact h

theorem wpList_append_runw {P : Program} {w w' : World} {ops : Array Oper} {rest : List Oper} {o : Oper} {a : Act} {Q : Exit → Act → World → Prop} (hgd : Region.wanted o (yielded ops a.tmps) = true) (t : TypeId) (m x : Operand) (hop : o.op = Op.call { callee := Callee.builtin Builtin.append, args := #[m, x], argTypes := #[t, t] }) (mv key v : Value) (hm : a.eval m = mv) (hx : a.eval x = key) (hrun : (Builtin.append_ #[t, t] o.type #[mv, key]).run P w = .ok v w')
    (hK : wpList P ops Q rest (a.put o.dst v) w') : wpList P ops Q (o :: rest) a w := by
  refine wpList_step fun K hK' => ?_
  rw [if_pos hgd]
  unfold Oper.wp
  simp [execOp, hop, resolve, invoke, builtin, hm, hx, hrun, Result.andThen]
  exact hK' _ _ hK

set_option maxHeartbeats 2000000 in
theorem awake_any (w : World) : Calls Try.prog 24 #[] w fun e w' => e = .returned (.bool true) ∧ Tb (fun _ => False) w w' := by
  go_enter Try.func24, Try.ntmps24
  go_wp2_with fail
  refine aw_new.mono ?_
  rintro e w1 ⟨R, rfl, hR, a1⟩
  go_wp2_with fail
  refine (fillA w1).mono ?_
  rintro e w2 ⟨v2, rfl, r2, b2⟩
  have P1 := hide (aw_put (s := aS) (at' := 0) a1 (Tb.of_fresh b2) r2 aA_by few0 (by decide) (by decide) (by decide) (by decide))
  rw [dk1e] at P1
  clear r2 b2 a1
  go_wp2_with fail
  refine P1.out.mono ?_
  rintro e w3 ⟨rfl, a3⟩
  clear P1
  have P2 := hide (aw_sync (s := aS) a3 few1 (by decide) (by rw [show (newDsk.put aS 0 64 aA).2 = dk1 from rfl, dk1f]; decide))
  rw [show (newDsk.put aS 0 64 aA).2 = dk1 from rfl, dk2e] at P2
  clear a3
  go_wp2_with fail
  refine P2.out.mono ?_
  rintro e w4 ⟨rfl, a4⟩
  clear P2
  have A4 : Hid (Aw w R dk2 w4) := hide a4
  clear a4
  go_wp2_with fail
  refine (fillB w4).mono ?_
  rintro e w5 ⟨v5, rfl, r5, b5⟩
  have P3 := hide (aw_put (s := aS) (at' := 0) A4.out (Tb.of_fresh b5) r5 aB_by few2 (by decide) (by decide) (by decide) (by decide))
  rw [dk3e] at P3
  clear r5 b5 A4
  go_wp2_with fail
  refine P3.out.mono ?_
  rintro e w6 ⟨rfl, a6⟩
  clear P3
  have A6 : Hid (Aw w R dk3 w6) := hide a6
  clear a6
  go_wp2_with fail
  refine (fillB w6).mono ?_
  rintro e w7 ⟨v7, rfl, r7, b7⟩
  have P4 := hide (aw_put (s := aS) (at' := 1) A6.out (Tb.of_fresh b7) r7 aB_by few3 (by decide) (by decide) (by decide) (by decide))
  rw [dk4e] at P4
  clear r7 b7 A6
  go_wp2_with fail
  refine P4.out.mono ?_
  rintro e w8 ⟨rfl, a8⟩
  clear P4
  have A8 : Hid (Aw w R dk4 w8) := hide a8
  have P5 := hide (aw_pending A8.out (by have := few4.last; omega))
  rw [dk4l] at P5
  clear a8
  go_wp2_with fail
  refine P5.out.mono ?_
  rintro e w9 ⟨rfl, t9⟩
  clear P5
  have A9 : Hid (Aw w R dk4 w9) := hide (A8.out.kept t9)
  clear t9 A8
  go_wp2_with fail
  have hk : Hid (Kp (w9.alloc (.cells #[.bool false, .bool true] 4)) (some ⟨w9.heap.size, 0, none⟩) [false, true]) := hide (fun i b hb => by
    have hh := heap_alloc_new w9 (.cells #[.bool false, .bool true] 4)
    refine ⟨_, _, rfl, ?_⟩
    rw [Nat.zero_add, cell_of_row _ _ _ _ _ _ hh]
    match i, hb with
    | 0, hb => cases hb; rfl
    | 1, hb => cases hb; rfl)
  refine (aw_crash A9.out ((Tb.refl _ _).alloc _) few4 rfl (by decide) hk.out (fun a ha => by cases ha; exact ⟨.inl (Nat.le_refl _), by simp⟩)).mono ?_
  rintro e w10 ⟨rfl, a10⟩
  have A10 : Hid (Aw w R dk5 w10) := hide a10
  have P6 := hide (aw_read (s := aS) A10.out few5 (by decide) (by rw [dk5f]; decide) rfl)
  rw [dk5b] at P6
  clear a10 hk A9
  go_wp2_with fail
  refine P6.out.mono ?_
  rintro e w11 ⟨v11, rfl, r11, b11⟩
  clear P6
  have A11 : Hid (Aw w R dk5 w11) := hide (A10.out.kept (Tb.of_fresh b11))
  have R11 := hide r11
  clear r11 b11 A10
  go_wp2_with fail
  refine (fillA w11).mono ?_
  rintro e w12 ⟨v12, rfl, r12, b12⟩
  have T12 : Hid (Tb (fun _ => False) w11 w12) := hide (Tb.of_fresh b12)
  have R12 := hide r12
  clear r12 b12
  go_wp2_with fail
  refine (fillB w12).mono ?_
  rintro e w13 ⟨v13, rfl, r13, b13⟩
  have T13 : Hid (Tb (fun _ => False) w11 w13) := hide (T12.out.trans (Tb.of_fresh (S := fun _ => False) b13) (fun _ _ h => h))
  have R12' := hide (row_tb R12.out (Tb.of_fresh (S := fun _ => False) b13) (fun _ _ h => h))
  have R13 := hide r13
  clear r13 b13 R12 T12
  obtain ⟨i0, hi, hz⟩ := Option.map_eq_some_iff.1 info5
  simp only [Prod.mk.injEq] at hz
  obtain ⟨hz0, hz1, hz2⟩ := hz
  obtain ⟨v14, w14, hr14, o14, g14, c14⟩ := run_append_rows (P := Try.prog) (w := w13) w11.heap.size (28 : TypeId) (28 : TypeId) 5 i0 (.int .u8 0) 1 1 Try.underlying28 hi hz0 hz1 hz2 rfl (by decide) v12 64 _ R12'.out v13 64 _ _ R13.out (U_one _) (by unfold maxLen; omega) (by omega) T13.out.size
  have hlt := R12'.out.lt
  have T14 : Tb (fun _ => False) w11 w14 := T13.out.trans (Tb.of_grown g14 (S := fun k => v12.ownBlock = some k) (fun _ e => e)) (fun i hi e => by have := hlt i e; omega)
  have A14 : Hid (Aw w R dk5 w14) := hide (A11.out.kept T14)
  rw [← U_append] at o14
  have hby : ∀ z ∈ aA ++ aB, 0 ≤ z ∧ z ≤ 255 := fun z hz => (List.mem_append.1 hz).elim (aA_by z) (aB_by z)
  have r14 := row_tb R11.out T14 (fun _ _ h => h)
  obtain ⟨x1, y1, rfl⟩ := row_val r14
  obtain ⟨x2, y2, rfl⟩ := row_val o14
  have SB := hide (same_true rfl (own_bs r14 hby) (own_bs o14 hby))
  have P7 := hide (aw_pending A14.out (by have := few5.last; omega))
  rw [dk5l] at P7
  have HR := hide hr14
  clear hi hz0 hz1 hz2 hr14 o14 r14 hby T14 hlt g14 c14 R11 R12' R13 A11
  go_wp2_with (at_builtin; refine wpList_append_runw (by kernel_rfl) (28 : TypeId) _ _ rfl v12 v13 _ (by simp [Act.eval]) (by simp [Act.eval]) HR.out ?_)
  refine SB.out.mono ?_
  rintro e w15 ⟨rfl, hw⟩
  subst hw
  clear SB
  go_wp2_with fail
  refine P7.out.mono ?_
  rintro e w16 ⟨rfl, t16⟩
  have HF : Hid (Tb (fun _ => False) w w16) := hide (by
    obtain ⟨_, _, _, h⟩ := A14.out.kept t16
    exact h)
  clear P7 t16
  go_wp2_with fail
  go_ret
  exact ⟨rfl, HF.out⟩

end Go.Proofs.Ytikhgjnjlkaobaa

/-
  A disk of one's own, and rows beside it that no call on the disk turns.
-/
namespace Go.Proofs.Ytikhgjnjlkaobaa
open Go.RowKit
set_option maxRecDepth 100000
set_option maxRecDepth 100000
set_option linter.unusedVariables false

/-- A disk that was made since w, in W, and rows that are none of its own. -/
def Ax (w : World) (vs : List Value) (R : Nat) (d : Dsk) (W : World) : Prop :=
  ∃ L, Dk W L R d ∧ (∀ g, g < w.heap.size → L g = (0, 0)) ∧ (∀ v ∈ vs, ∀ g, v.ownBlock = some g → g < W.heap.size ∧ L g = (0, 0)) ∧ Tb (fun _ => False) w W

/-- The rows stay. -/
def Kr (vs : List Value) (W V : World) : Prop := ∀ v ∈ vs, ∀ (base size n : Nat) (e : TypeId) (xs : List Value), W.ownsRow base e size v n xs → V.ownsRow base e size v n xs

section
variable {w W V : World} {R : Nat} {d : Dsk} {vs : List Value}

theorem Kr.trans {X : World} (h : Kr vs W V) (k : Kr vs V X) : Kr vs W X := fun v hv base size n e xs ho => k v hv _ _ _ _ _ (h v hv _ _ _ _ _ ho)
theorem Kr.fresh (hb : Tb (fun _ => False) W V) : Kr vs W V := fun v _ base size n e xs ho => row_tb ho hb (fun _ _ h => h)

theorem Ax.tb (h : Ax w vs R d W) : Tb (fun _ => False) w W := by obtain ⟨_, _, _, _, h⟩ := h; exact h
theorem Ax.below (h : Ax w vs R d W) : Below w.heap.size w W := h.tb.below (fun _ h => h.elim) (Nat.le_refl _)

theorem Aw.ax (h : Aw w R d W) : Ax w [] R d W := by
  obtain ⟨L, h1, h2, h3⟩ := h
  exact ⟨L, h1, h2, fun v hv => by simp at hv, h3⟩

/-- New memory turns nothing; what is new may be a row beside it. -/
theorem Ax.on (h : Ax w vs R d W) (hb : Tb (fun _ => False) W V) : ∃ L, Dk V L R d ∧ (∀ g, g < w.heap.size → L g = (0, 0)) ∧ (∀ v ∈ vs, ∀ g, v.ownBlock = some g → g < V.heap.size ∧ L g = (0, 0)) ∧ (∀ g, W.heap.size ≤ g → L g = (0, 0)) ∧ Tb (fun _ => False) w V := by
  obtain ⟨L, h1, h2, hv, h3⟩ := h
  refine ⟨onlyL W L, h1.tb hb (onlyL_lx _ _) (fun _ _ h => h), fun g hg => ?_, fun v hvv g hg => ?_, fun g hg => onlyL_new hg, h3.trans hb (fun _ _ h => h)⟩
  · rw [onlyL_lx W L g (Nat.lt_of_lt_of_le hg h3.size)]
    exact h2 g hg
  · have := hv v hvv g hg
    exact ⟨Nat.lt_of_lt_of_le this.1 hb.size, by rw [onlyL_lx W L g this.1]; exact this.2⟩

theorem Ax.kept (h : Ax w vs R d W) (hb : Tb (fun _ => False) W V) : Ax w vs R d V := by
  obtain ⟨L, h1, h2, h3, _, h4⟩ := h.on hb
  exact ⟨L, h1, h2, h3, h4⟩

theorem Ax.with {v : Value} {size n : Nat} {e : TypeId} {xs : List Value} (h : Ax w vs R d W) (hb : Tb (fun _ => False) W V) (ho : V.ownsRow W.heap.size e size v n xs) : Ax w (v :: vs) R d V := by
  obtain ⟨L, h1, h2, h3, h4, h5⟩ := h.on hb
  refine ⟨L, h1, h2, fun u hu g hg => ?_, h5⟩
  rcases List.mem_cons.1 hu with rfl | hu
  · exact ⟨row_lt ho hg, h4 g (ho.lt g hg).1⟩
  · exact h3 u hu g hg

theorem Ax.less {us : List Value} (h : Ax w vs R d W) (hs : ∀ v ∈ us, v ∈ vs ∨ v.ownBlock = none) : Ax w us R d W := by
  obtain ⟨L, h1, h2, h3, h5⟩ := h
  refine ⟨L, h1, h2, fun u hu g hg => ?_, h5⟩
  rcases hs u hu with h | h
  · exact h3 u h g hg
  · rw [h] at hg; cases hg

/-- A row beside it grows: there, or in new memory. -/
theorem Ax.grow {v v' : Value} (h : Ax w (v :: vs) R d W) (hg : W.grownBy V v.ownBlock) (hw : ∀ g, v.ownBlock = some g → w.heap.size ≤ g) (hv : v'.ownBlock = v.ownBlock ∨ v'.ownBlock = some W.heap.size) (hlt : ∀ g, v'.ownBlock = some g → g < V.heap.size)
    (hne : ∀ u ∈ vs, ∀ g, u.ownBlock = some g → v.ownBlock ≠ some g) : Ax w (v' :: vs) R d V ∧ Kr vs W V := by
  obtain ⟨L, h1, h2, h3, h5⟩ := h
  have hgb : Tb (fun g => v.ownBlock = some g) W V := Tb.of_grown hg (fun k e => e)
  refine ⟨⟨onlyL W L, h1.tb hgb (onlyL_lx _ _) (fun g ht e => ?_), fun g hg' => ?_, fun u hu g hgu => ?_, h5.trans hgb (fun i hi e => ?_)⟩, ?_⟩
  · rw [(h3 v (by simp) g e).2] at ht
    exact notTD0 ht
  · rw [onlyL_lx W L g (Nat.lt_of_lt_of_le hg' h5.size)]
    exact h2 g hg'
  · rcases List.mem_cons.1 hu with rfl | hu
    · refine ⟨hlt g hgu, ?_⟩
      rcases hv with e | e
      · rw [e] at hgu
        have := h3 v (by simp) g hgu
        rw [onlyL_lx W L g this.1]
        exact this.2
      · rw [e] at hgu
        cases hgu
        exact onlyL_new (Nat.le_refl _)
    · have := h3 u (by simp [hu]) g hgu
      exact ⟨Nat.lt_of_lt_of_le this.1 hg.size, by rw [onlyL_lx W L g this.1]; exact this.2⟩
  · have := hw i e
    omega
  · intro u hu base size n e xs ho
    exact row_tb ho hgb (fun g hgu e => hne u hu g hgu e)

theorem Ax.step {L L' : Lb} {d' : Dsk} (h2 : ∀ g, g < w.heap.size → L g = (0, 0)) (hv : ∀ v ∈ vs, ∀ g, v.ownBlock = some g → g < W.heap.size ∧ L g = (0, 0)) (h3 : Tb (fun _ => False) w W) (hl : Lx W L L') (hd : Dk V L' R d') (ht : Tl L TD W V) :
    Ax w vs R d' V ∧ Kr vs W V := by
  refine ⟨⟨L', hd, fun g hg => ?_, fun v hvv g hg => ?_, Tb.trans h3 ht (fun i hi e => ?_)⟩, fun v hvv base size n e xs ho => ?_⟩
  · rw [hl g (Nat.lt_of_lt_of_le hg h3.size)]
    exact h2 g hg
  · have := hv v hvv g hg
    exact ⟨Nat.lt_of_lt_of_le this.1 ht.size, by rw [hl g this.1]; exact this.2⟩
  · rw [h2 i hi] at e
    exact notTD0 e
  · exact row_tb ho ht (fun g hg e => by rw [(hv v hvv g hg).2] at e; exact notTD0 e)

theorem ax_put {K : Nat} {v : Value} {s : ByteArray} {at' : Int} {data : List Int} (h : Ax w vs R d W) (hb : Tb (fun _ => False) W V) (hv : V.ownsRow W.heap.size 5 1 v 64 (U data)) (hby : ∀ z ∈ data, 0 ≤ z ∧ z ≤ 255) (hf : Few d K) (hs : 1 ≤ s.size ∧ s.size ≤ 64)
    (h1 : 0 ≤ at') (h2 : at' ≤ ((lk d.std.rw (d.find s)).getD []).length) (hfull : ¬ (at' = 4096 ∨ (d.find s = 0 ∧ 256 ≤ d.std.nm.length))) :
    Calls Try.prog 9 #[.pointer (some ⟨R, 0, none⟩), .string s, .int .i64 at', v] V fun e w' => e = .returned (.int .i64 (d.put s at' 64 data).1) ∧ Ax w vs R (d.put s at' 64 data).2 w' ∧ Kr vs V w' := by
  obtain ⟨g, cap, rfl⟩ := own_shape hv (by omega)
  obtain ⟨L, ⟨o, a1, a2⟩, a3, a6, a4, a5⟩ := h.on hb
  have hk := hf.k
  refine (put_go a1 a2 hf.std (by omega) hf.last hf.made hf.file hs (own_bs hv hby) (by rw [a4 g (own_lt hv).1]; exact notTD0) h1 h2 hfull).mono ?_
  rintro e w' ⟨rfl, L', b1, b2, b3⟩
  exact ⟨rfl, Ax.step a3 a6 a5 b1 b2 b3⟩

theorem ax_sync {K : Nat} {s : ByteArray} (h : Ax w vs R d W) (hf : Few d K) (hs : s.size ≤ 9223372036854775807) (h0 : d.find s ≠ 0) :
    Calls Try.prog 15 #[.pointer (some ⟨R, 0, none⟩), .string s] W fun e w' => e = .returned (.int .i64 (d.sync s).1) ∧ Ax w vs R (d.sync s).2 w' ∧ Kr vs W w' := by
  obtain ⟨L, ⟨o, a1, a2⟩, a3, a6, a5⟩ := h
  have hk := hf.k
  refine (sync_go a1 a2 hf.std hf.dur (by omega) hf.last hs h0).mono ?_
  rintro e w' ⟨rfl, L', b1, b2, b3⟩
  exact ⟨rfl, Ax.step a3 a6 a5 b1 b2 b3⟩

theorem ax_sync_no {s : ByteArray} (h : Ax w vs R d W) (hs : s.size ≤ 9223372036854775807) (h0 : d.find s = 0) :
    Calls Try.prog 15 #[.pointer (some ⟨R, 0, none⟩), .string s] W fun e w' => e = .returned (.int .i64 70) ∧ w' = W := by
  obtain ⟨L, ⟨o, a1, a2⟩, a3, a6, a5⟩ := h
  exact sync_no a1 hs h0

theorem ax_crash {K : Nat} {p : Option Addr} {m cap : Nat} {ks : List Bool} (h : Ax w vs R d W) (hf : Few d K) (hks : ks.length = m) (hcap : m ≤ cap ∧ cap ≤ 9223372036854775807) (hp : Kp w p ks) :
    Calls Try.prog 12 #[.pointer (some ⟨R, 0, none⟩), .slice p m cap] W fun e w' => e = .returned (.int .i64 0) ∧ Ax w vs R (d.crash ks) w' ∧ Kr vs W w' := by
  obtain ⟨L, ⟨o, a1, a2⟩, a3, a6, a5⟩ := h
  have hk := hf.k
  have hl := hf.last
  have hpl : ∀ a, ks ≠ [] → p = some a → a.block < w.heap.size := fun a hne ha => by
    cases ks with
    | nil => exact absurd rfl hne
    | cons b ks =>
      obtain ⟨g, off, e, hc⟩ := hp 0 b rfl
      rw [ha] at e
      cases e
      exact cell_lt hc
  have hp' : Kp W p ks := fun i b hb => by
    obtain ⟨g, off, e, hc⟩ := hp i b hb
    exact ⟨g, off, e, a5.cell hc (fun h => h)⟩
  refine (crash_any a1 (by rw [a2.last]; omega) hf.dur (by omega) hks hcap hp' (fun a hne ha => ?_) (fun a hne ha => Nat.lt_of_lt_of_le (hpl a hne ha) a5.size)).mono ?_
  · rw [a3 _ (hpl a hne ha)]
    unfold TA
    simp
  · rintro e w' ⟨rfl, L', sn, sr, us, b1, b2, b3⟩
    exact ⟨rfl, Ax.step a3 a6 a5 b1 ⟨_, b2, ⟨rfl, a2.made, rfl, rfl, rfl, a2.failure⟩⟩ b3⟩

theorem ax_read {K : Nat} {s : ByteArray} (h : Ax w vs R d W) (hf : Few d K) (hs : s.size ≤ 9223372036854775807) (h0 : d.find s ≠ 0) (hdn : d.down = false) :
    Calls Try.prog 13 #[.pointer (some ⟨R, 0, none⟩), .string s] W fun e w' => ∃ v, e = .returned (.tuple #[v, .int .i64 0]) ∧ w'.ownsRow W.heap.size 5 1 v (d.bytes s).length (U (d.bytes s)) ∧ Below W.heap.size W w' := by
  obtain ⟨L, ⟨o, a1, a2⟩, a3, _, a5⟩ := h
  exact read_yes a1 a2 hf.std hs h0 hdn
end

end Go.Proofs.Ytikhgjnjlkaobaa

/-
  Rename, Remove.
-/
namespace Go.Proofs.Ytikhgjnjlkaobaa
open Go.RowKit
set_option maxRecDepth 100000
set_option maxRecDepth 100000

def renStp (f : Int) (s t : ByteArray) : Stp := ⟨0, 3, f, s, t, 0, List.replicate 64 0⟩
def remStp (f : Int) (s : ByteArray) : Stp := ⟨0, 4, f, s, ByteArray.empty, 0, List.replicate 64 0⟩
theorem renStp_ok {f : Int} {s t : ByteArray} (hf : 1 ≤ f ∧ f ≤ 9223372036854775807) (hs : s.size ≤ 64) (ht : t.size ≤ 64) : (renStp f s t).Ok :=
  ⟨by simp [renStp], by simp [renStp], hf, hs, ht, by simp [renStp], fun h => by simp [renStp] at h, by simp [renStp], fun z hz => by rw [(List.mem_replicate.1 hz).2]; omega⟩
theorem remStp_ok {f : Int} {s : ByteArray} (hf : 1 ≤ f ∧ f ≤ 9223372036854775807) (hs : s.size ≤ 64) : (remStp f s).Ok :=
  ⟨by simp [remStp], by simp [remStp], hf, hs, by simp [remStp], by simp [remStp], fun h => by simp [remStp] at h, by simp [remStp], fun z hz => by rw [(List.mem_replicate.1 hz).2]; omega⟩
theorem built81r (f : Int) (s t : ByteArray) : Try.prog.built (81 : TypeId) [(1, .int .u8 3), (2, .int .i64 f), (3, .string s), (4, .string t)] = some (renStp f s t).cells.toArray := by kernel_rfl
theorem built81x (f : Int) (s : ByteArray) : Try.prog.built (81 : TypeId) [(1, .int .u8 4), (2, .int .i64 f), (3, .string s)] = some (remStp f s).cells.toArray := by kernel_rfl

def Dsk.remove (d : Dsk) (s : ByteArray) : Int × Dsk :=
  if d.find s = 0 then (70, d) else if d.begin.1 ≠ 0 then d.begin else (0, d.begin.2.do (remStp (d.find s) s))

set_option maxHeartbeats 2000000 in
theorem remove_no {w : World} {L : Lb} {R : Nat} {o : Ob} {d : Dsk} {s : ByteArray} (h : Di w L R o d.dur d.std d.l) (hs : s.size ≤ 9223372036854775807) (h0 : d.find s = 0) :
    Calls Try.prog 19 #[.pointer (some ⟨R, 0, none⟩), .string s] w fun e w' => e = .returned (.int .i64 70) ∧ w' = w := by
  have hf := find_any h hs
  rw [show (lk d.std.nm s.data.toList).getD 0 = 0 from h0] at hf
  clear h
  go_enter Try.func19, Try.ntmps19
  go_wp2_with (go_at_call 45; refine hf.mono ?_; rintro e w1 ⟨rfl, hw1⟩; subst w1)
  go_ret
  exact ⟨rfl, rfl⟩

set_option maxHeartbeats 2000000 in
theorem remove_go {w : World} {L : Lb} {R : Nat} {o : Ob} {d : Dsk} {K : Nat} {s : ByteArray} (h : Di w L R o d.dur d.std d.l) (hsy : Says o d) (hm : Sm d.std K) (hK : K < 8000000000000000000) (hlast : d.last < 900000000) (hs : s.size ≤ 64) (h0 : 1 ≤ d.find s) :
    Calls Try.prog 19 #[.pointer (some ⟨R, 0, none⟩), .string s] w fun e w' => e = .returned (.int .i64 (d.remove s).1) ∧ ∃ L', Lx w L L' ∧ Dk w' L' R (d.remove s).2 ∧ Tl L TD w w' := by
  have hf := find_any h (s := s) (by omega)
  obtain ⟨F, hF⟩ : ∃ F, F = d.find s := ⟨_, rfl⟩
  have hf6 := hm.fileOf s.data.toList
  rw [show (lk d.std.nm s.data.toList).getD 0 = F from hF.symm] at hf hf6
  have h0' : ¬ F = 0 := by omega
  have hp : d.remove s = if d.begin.1 ≠ 0 then d.begin else (0, d.begin.2.do (remStp F s)) := by unfold Dsk.remove; rw [if_neg (by omega), hF]
  rw [if_neg h0'] at hf
  have hFI : 1 ≤ F ∧ F ≤ 9223372036854775807 := ⟨by omega, hf6.2⟩
  have hbg := begin_dk h hsy
  obtain ⟨p1, p2, p3, p4, p5⟩ := begin_parts d
  have hlb := h.lb
  have HBG := hide hbg
  have HP := hide hp
  have HM := hide hm
  have hbm := built81x F s
  have hok : Hid ((remStp F s).Ok) := hide (remStp_ok hFI hs)
  clear h hsy hm hbg hp hF hf6 h0
  go_enter Try.func19, Try.ntmps19
  go_wp2_with (go_at_call 45; refine hf.mono ?_; rintro e w1 ⟨rfl, hw1⟩; subst w1)
  refine HBG.out.mono ?_
  rintro e w1 ⟨rfl, o1, hd1, hs1, q1, q2, q3, q4, t1⟩
  have tl1 : Hid (Tl L TD w w1) := hide (Tl.own hlb t1)
  by_cases hb : d.begin.1 = 0
  · rw [hb]
    have hpe : Hid (d.remove s = (0, d.begin.2.do (remStp F s))) := hide (by rw [HP.out, if_neg (by rw [hb]; simp)])
    have HD1 : Hid (Di w1 L R o1 d.begin.2.dur d.begin.2.std d.begin.2.l) := hide (by rw [p1, p2, p3]; exact hd1)
    have HS1 := hide hs1
    have hl1 : d.begin.2.last < 1000000000 := by rw [p4]; omega
    have hm1 : Hid (Sm d.begin.2.std K) := hide (by rw [p2]; exact HM.out)
    clear hd1 hs1 q1 q2 q3 q4 t1 HBG hf
    go_wp2_with (first
      | (go_at_call 39; refine (clone_any (by omega) w1).mono ?_; rintro e w3 ⟨rfl, t3⟩)
      | (refine wpList_buildTo rfl (81 : TypeId) #[(1, .const (.int .u8 4)), (2, .tmp 23), (3, .tmp 25)] rfl (some 26) rfl (remStp F s).cells.toArray (by simpa [Act.eval, Act.put] using hbm) ?_))
    refine (do_dk (HD1.out.tb t3 (Lx.refl _ _) (fun _ _ h => h)) HS1.out hok.out hl1 hm1.out (by omega)).mono ?_
    rintro e w4 ⟨rfl, L4, o4, x4, hd4, hs4, t4⟩
    have FIN : Hid (∃ L', Lx w L L' ∧ Dk w4 L' R (d.begin.2.do (remStp F s)) ∧ Tl L TD w w4) := by
      have T3 : Tl L TD w w3 := Tb.trans (T := fun _ => False) tl1.out t3 (fun _ _ h => h.elim)
      have s3 : w.heap.size ≤ w3.heap.size := Tb.size T3
      exact hide ⟨L4, fun g hg => x4 g (Nat.lt_of_lt_of_le hg s3), ⟨o4, hd4, hs4⟩, Tl.trans T3 t4 (Lx.refl _ _) (fun _ h => h)⟩
    clear hd4 hs4 x4 t4 t3
    go_wp2_with fail
    go_ret
    rw [hpe.out]
    exact ⟨rfl, FIN.out⟩
  · have e9 : (d.begin.1 == 0) = false := by simpa using hb
    have hpe : Hid (d.remove s = d.begin) := hide (by rw [HP.out, if_pos hb])
    have HD1 : Hid (Dk w1 L R d.begin.2) := hide ⟨o1, by rw [p1, p2, p3]; exact hd1, hs1⟩
    obtain ⟨E, hE⟩ : ∃ E, E = d.begin.1 := ⟨_, rfl⟩
    rw [← hE] at hb e9
    rw [← hE]
    have hE2 := hide hE.symm
    clear hd1 hs1 HBG hf hE
    go_wp2_with fail
    go_ret
    rw [hpe.out]
    exact ⟨by rw [hE2.out]; rfl, L, Lx.refl _ _, HD1.out, tl1.out⟩

def Dsk.rename (d : Dsk) (s t : ByteArray) : Int × Dsk :=
  if ¬ (1 ≤ t.size ∧ t.size ≤ 64) then (2, d) else if d.find s = 0 then (70, d) else if d.begin.1 ≠ 0 then d.begin else if t = s then (0, d.begin.2) else (0, d.begin.2.do (renStp (d.find s) s t))

set_option maxHeartbeats 2000000 in
theorem rename_arg {w : World} {R : Nat} {o : Ob} {s t : ByteArray} (h : Oj w R o) (ht : t.size ≤ 9223372036854775807) (h0 : ¬ (1 ≤ t.size ∧ t.size ≤ 64)) :
    Calls Try.prog 16 #[.pointer (some ⟨R, 0, none⟩), .string s, .string t] w fun e w' => e = .returned (.int .i64 2) ∧ w' = w := by
  have hr := right_yes h
  clear h
  go_enter Try.func16, Try.ntmps16
  go_wp2_with (first | (go_at_call 35; refine hr.mono ?_; rintro e w1 ⟨rfl, hw1⟩; subst w1) | (go_at_call 36; refine (isName_no ht h0 _).mono ?_; rintro e w1 ⟨rfl, hw1⟩; subst w1))
  go_ret
  exact ⟨rfl, rfl⟩

set_option maxHeartbeats 2000000 in
theorem rename_no {w : World} {L : Lb} {R : Nat} {o : Ob} {d : Dsk} {s t : ByteArray} (h : Di w L R o d.dur d.std d.l) (hs : s.size ≤ 9223372036854775807) (ht : 1 ≤ t.size ∧ t.size ≤ 64) (h0 : d.find s = 0) :
    Calls Try.prog 16 #[.pointer (some ⟨R, 0, none⟩), .string s, .string t] w fun e w' => e = .returned (.int .i64 70) ∧ w' = w := by
  have hf := find_any h hs
  have hr := right_yes h.oj
  rw [show (lk d.std.nm s.data.toList).getD 0 = 0 from h0] at hf
  clear h
  go_enter Try.func16, Try.ntmps16
  go_wp2_with (first | (go_at_call 45; refine hf.mono ?_; rintro e w1 ⟨rfl, hw1⟩; subst w1) | (go_at_call 35; refine hr.mono ?_; rintro e w1 ⟨rfl, hw1⟩; subst w1) | (go_at_call 36; refine (isName_yes ht _).mono ?_; rintro e w1 ⟨rfl, hw1⟩; subst w1))
  go_ret
  exact ⟨rfl, rfl⟩

set_option maxHeartbeats 400000 in
theorem rename_go {w : World} {L : Lb} {R : Nat} {o : Ob} {d : Dsk} {K : Nat} {s t : ByteArray} (h : Di w L R o d.dur d.std d.l) (hsy : Says o d) (hm : Sm d.std K) (hK : K < 8000000000000000000) (hlast : d.last < 900000000) (hs : s.size ≤ 64) (ht : 1 ≤ t.size ∧ t.size ≤ 64) (h0 : 1 ≤ d.find s) :
    Calls Try.prog 16 #[.pointer (some ⟨R, 0, none⟩), .string s, .string t] w fun e w' => e = .returned (.int .i64 (d.rename s t).1) ∧ ∃ L', Lx w L L' ∧ Dk w' L' R (d.rename s t).2 ∧ Tl L TD w w' := by
  have hf := find_any h (s := s) (by omega)
  have hr := right_yes h.oj
  obtain ⟨F, hF⟩ : ∃ F, F = d.find s := ⟨_, rfl⟩
  have hf6 := hm.fileOf s.data.toList
  rw [show (lk d.std.nm s.data.toList).getD 0 = F from hF.symm] at hf hf6
  have h0' : ¬ F = 0 := by omega
  have hp : d.rename s t = if d.begin.1 ≠ 0 then d.begin else if t = s then (0, d.begin.2) else (0, d.begin.2.do (renStp F s t)) := by unfold Dsk.rename; rw [if_neg (by simp; omega), if_neg (by omega), hF]
  rw [if_neg h0'] at hf
  have hFI : 1 ≤ F ∧ F ≤ 9223372036854775807 := ⟨by omega, hf6.2⟩
  have hbg := begin_dk h hsy
  obtain ⟨p1, p2, p3, p4, p5⟩ := begin_parts d
  have hlb := h.lb
  have HBG := hide hbg
  have HP := hide hp
  have HM := hide hm
  have hbm := built81r F s t
  have hok : Hid ((renStp F s t).Ok) := hide (renStp_ok hFI hs ht.2)
  clear h hsy hm hbg hp hF hf6 h0
  go_enter Try.func16, Try.ntmps16
  go_wp2_with (first | (go_at_call 45; refine hf.mono ?_; rintro e w1 ⟨rfl, hw1⟩; subst w1) | (go_at_call 35; refine hr.mono ?_; rintro e w1 ⟨rfl, hw1⟩; subst w1) | (go_at_call 36; refine (isName_yes ht _).mono ?_; rintro e w1 ⟨rfl, hw1⟩; subst w1))
  refine HBG.out.mono ?_
  rintro e w1 ⟨rfl, o1, hd1, hs1, q1, q2, q3, q4, t1⟩
  have tl1 : Hid (Tl L TD w w1) := hide (Tl.own hlb t1)
  by_cases hb : d.begin.1 = 0
  · rw [hb]
    have HD1 : Hid (Di w1 L R o1 d.begin.2.dur d.begin.2.std d.begin.2.l) := hide (by rw [p1, p2, p3]; exact hd1)
    have HS1 := hide hs1
    have hl1 : d.begin.2.last < 1000000000 := by rw [p4]; omega
    have hm1 : Hid (Sm d.begin.2.std K) := hide (by rw [p2]; exact HM.out)
    clear hd1 hs1 q1 q2 q3 q4 t1 HBG hf hr
    by_cases hts : t = s
    · have hpe : Hid (d.rename s t = (0, d.begin.2)) := hide (by rw [HP.out, if_neg (by rw [hb]; simp), if_pos hts])
      subst hts
      go_wp2_with fail
      go_ret
      rw [hpe.out]
      exact ⟨rfl, L, Lx.refl _ _, ⟨o1, HD1.out, HS1.out⟩, tl1.out⟩
    · have hpe : Hid (d.rename s t = (0, d.begin.2.do (renStp F s t))) := hide (by rw [HP.out, if_neg (by rw [hb]; simp), if_neg hts])
      have hts2 : (t.toList == s.toList) = false := by
        apply Bool.eq_false_iff.2
        intro e
        have e2 := eq_of_beq e
        rw [ByteArray.toList_eq, ByteArray.toList_eq, Array.toList_inj] at e2
        exact hts (ByteArray.ext e2)
      have HB := hide hbm
      clear hbm
      go_wp2_with fail
      refine (clone_any (by omega) w1).mono ?_
      rintro e w2 ⟨rfl, t2⟩
      go_wp2_with fail
      refine (clone_any (by omega) w2).mono ?_
      rintro e w3 ⟨rfl, t3⟩
      go_wp2_with (refine wpList_buildTo rfl (81 : TypeId) #[(1, .const (.int .u8 3)), (2, .tmp 35), (3, .tmp 37), (4, .tmp 39)] rfl (some 40) rfl (renStp F s t).cells.toArray (by simpa [Act.eval, Act.put] using HB.out) ?_)
      have t13 : Tb (fun _ => False) w1 w3 := t2.trans t3 (fun _ _ h => h)
      refine (do_dk (HD1.out.tb t13 (Lx.refl _ _) (fun _ _ h => h)) HS1.out hok.out hl1 hm1.out (by omega)).mono ?_
      rintro e w4 ⟨rfl, L4, o4, x4, hd4, hs4, t4⟩
      have FIN : Hid (∃ L', Lx w L L' ∧ Dk w4 L' R (d.begin.2.do (renStp F s t)) ∧ Tl L TD w w4) := by
        have T3 : Tl L TD w w3 := Tb.trans (T := fun _ => False) tl1.out t13 (fun _ _ h => h.elim)
        have s3 : w.heap.size ≤ w3.heap.size := Tb.size T3
        exact hide ⟨L4, fun g hg => x4 g (Nat.lt_of_lt_of_le hg s3), ⟨o4, hd4, hs4⟩, Tl.trans T3 t4 (Lx.refl _ _) (fun _ h => h)⟩
      clear hd4 hs4 x4 t4 t3 t2 t13
      go_wp2_with fail
      go_ret
      rw [hpe.out]
      exact ⟨rfl, FIN.out⟩
  · have e9 : (d.begin.1 == 0) = false := by simpa using hb
    have hpe : Hid (d.rename s t = d.begin) := hide (by rw [HP.out, if_pos hb])
    have HD1 : Hid (Dk w1 L R d.begin.2) := hide ⟨o1, by rw [p1, p2, p3]; exact hd1, hs1⟩
    obtain ⟨E, hE⟩ : ∃ E, E = d.begin.1 := ⟨_, rfl⟩
    rw [← hE] at hb e9
    rw [← hE]
    have hE2 := hide hE.symm
    clear hd1 hs1 HBG hf hE hr
    go_wp2_with fail
    go_ret
    rw [hpe.out]
    exact ⟨by rw [hE2.out]; rfl, L, Lx.refl _ _, HD1.out, tl1.out⟩

end Go.Proofs.Ytikhgjnjlkaobaa

/-
  SyncNames.
-/
namespace Go.Proofs.Ytikhgjnjlkaobaa
open Go.RowKit
set_option maxRecDepth 100000
set_option maxRecDepth 100000

def Dsk.named (d : Dsk) : Dsk := { d with dur := (nms d.l).foldl Shp.does d.dur, l := offN (nms d.l).length d.l }
def Dsk.syncNames (d : Dsk) : Int × Dsk := if d.begin.1 ≠ 0 then d.begin else (0, d.begin.2.named)

set_option maxHeartbeats 2000000 in
theorem syncNames_go {w : World} {L : Lb} {R : Nat} {o : Ob} {d : Dsk} {K : Nat} (h : Di w L R o d.dur d.std d.l) (hsy : Says o d) (hmd : Sm d.dur K) (hK : K < 8000000000000000000) (hlast : d.last < 900000000) :
    Calls Try.prog 21 #[.pointer (some ⟨R, 0, none⟩)] w fun e w' => e = .returned (.int .i64 d.syncNames.1) ∧ ∃ L', Lx w L L' ∧ Dk w' L' R d.syncNames.2 ∧ Tl L TD w w' := by
  have hr := right_yes h.oj
  have hbg := begin_dk h hsy
  obtain ⟨p1, p2, p3, p4, p5⟩ := begin_parts d
  have hlb := h.lb
  have HBG := hide hbg
  have HMD := hide hmd
  clear h hsy hmd hbg
  go_enter Try.func21, Try.ntmps21
  go_wp2_with (go_at_call 35; refine hr.mono ?_; rintro e w1 ⟨rfl, hw1⟩; subst w1)
  refine HBG.out.mono ?_
  rintro e w1 ⟨rfl, o1, hd1, hs1, q1, q2, q3, q4, t1⟩
  have tl1 : Hid (Tl L TD w w1) := hide (Tl.own hlb t1)
  by_cases hb : d.begin.1 = 0
  · rw [hb]
    have hpe : Hid (d.syncNames = (0, d.begin.2.named)) := hide (by unfold Dsk.syncNames; rw [if_neg (by rw [hb]; simp)])
    have ho1 : o1.last < 1000000000 := by rw [hs1.last, p4]; omega
    have hd1d : Di w1.drew L R o1 d.dur d.std d.l := hd1.tb ((Tb.refl (fun _ => False) w1).drew) (Lx.refl _ _) (fun _ _ h => h)
    obtain ⟨T, hT⟩ : ∃ T, Hid (T = (nms d.l).length) := ⟨_, hide rfl⟩
    have hrow := hd1.bk.row
    rw [← hT.out] at hrow
    obtain ⟨ns, hns⟩ : ∃ ns, Hid (ns = o1.ns) := ⟨_, hide rfl⟩
    have c6 : w1.cell? ⟨R, 6, none⟩ = some ns := by rw [hns.out]; exact hd1.oj.c 6
    rw [← hns.out] at hrow
    obtain ⟨ad, cp, hx⟩ := row_val hrow
    have hlen := hd1.bk.length
    have hnl : (nms d.l).length ≤ d.l.length := List.length_filter_le _ _
    have hll : (d.l.length : Int) < 900000000 := by rw [hs1.last, p4] at hlen; omega
    have HD := hide hd1d
    have HS1 := hide hs1
    have hok : Hid (∀ t ∈ d.l, t.Ok) := hide hd1.bk.ok
    have TE : Hid (Tl L TD w w1.drew) := hide (Tb.drew tl1.out)
    subst hx
    clear hd1 hd1d hs1 q1 q2 q3 q4 t1 HBG hr hrow hlen
    go_wp2_with fail
    have c6' : w1.drew.cell? ⟨R, 6, none⟩ = some (.slice ad T cp) := c6
    refine wp_region_held_drew (S := fun _ => True) (by kernel_rfl) trivial (fun _ => ?_)
    try simp only [List.size_toArray, List.length_cons, List.length_nil, Nat.reduceAdd]
    refine wpAnyH_take (i := 0) (v := (.pointer (some ⟨R, 0, none⟩))) rfl (by kernel_rfl) (by kernel_rfl) (by kernel_rfl) (fun _ _ _ h => h) (Or.inl ⟨by rfl, ?hy⟩) trivial ?_
    case hy => (intro V _; go_simp)
    refine wpAnyH_take (i := 1) (v := (.pointer (some ⟨R, 0, none⟩))) rfl (by kernel_rfl) (by kernel_rfl) (by kernel_rfl) (fun _ _ _ h => h) (Or.inl ⟨by rfl, ?hy⟩) trivial ?_
    case hy => (intro V _; go_simp)
    refine wpAnyH_take (i := 2) (v := (.pointer (some ⟨R, 0, none⟩))) rfl (by kernel_rfl) (by kernel_rfl) (by kernel_rfl) (fun _ _ _ h => h) (Or.inl ⟨by rfl, ?hy⟩) trivial ?_
    case hy => (intro V _; go_simp)
    refine wpAnyH_take (i := 3) (v := (.pointer (some ⟨R, 5, none⟩))) rfl (by kernel_rfl) (by kernel_rfl) (by kernel_rfl) (fun _ _ _ h => h) (Or.inl ⟨by rfl, ?hy⟩) trivial ?_
    case hy => (intro V _; go_simp)
    refine wpAnyH_take (i := 4) (v := (.pointer (some ⟨R, 0, none⟩))) rfl (by kernel_rfl) (by kernel_rfl) (by kernel_rfl) (fun _ _ _ h => h) (Or.inl ⟨by rfl, ?hy⟩) trivial ?_
    case hy => (intro V _; go_simp)
    refine wpAnyH_take (i := 5) (v := (.pointer (some ⟨R, 0, none⟩))) rfl (by kernel_rfl) (by kernel_rfl) (by kernel_rfl) (fun _ _ _ h => h) (Or.inl ⟨by rfl, ?hy⟩) trivial ?_
    case hy => (intro V _; go_simp)
    refine wpAnyH_take (i := 6) (v := (.pointer (some ⟨R, 5, none⟩))) rfl (by kernel_rfl) (by kernel_rfl) (by kernel_rfl) (fun _ _ _ h => h) (Or.inl ⟨by rfl, ?hy⟩) trivial ?_
    case hy => (intro V _; go_simp)
    refine wpAnyH_take (i := 7) (v := (.pointer (some ⟨R, 6, none⟩))) rfl (by kernel_rfl) (by kernel_rfl) (by kernel_rfl) (fun _ _ _ h => h) (Or.inl ⟨by rfl, ?hy⟩) trivial ?_
    case hy => (intro V _; go_simp)
    refine wpAnyH_ready (rs := [8]) (by kernel_rfl) (by simp) ?_
    refine AllReadyH.cons (by rfl) ?_ AllReadyH.nil
    intro K hK
    go_simp
    refine hK.out _ _ trivial (fun _ => ?_)
    clear hK K
    refine wpAnyH_take (i := 9) (v := (.int .i64 (T : Nat))) rfl (by kernel_rfl) (by kernel_rfl) (by kernel_rfl) (fun _ _ _ h => h) (Or.inl ⟨by rfl, ?hy⟩) trivial ?_
    case hy => (intro V _; go_simp)
    refine wpAnyH_ready (rs := [10]) (by kernel_rfl) (by simp) ?_
    refine AllReadyH.cons rfl (fun K hK => ?_) AllReadyH.nil
    refine step_call rfl 49 #[.pointer (some ⟨R, 5, none⟩), .int .i64 (T : Nat)] (by go_simp) ?_
    refine (takeNames_any HD.out (n := T) (by rw [hT.out]; exact Nat.le_refl _) ho1).mono ?_
    rintro e w3 ⟨v3, L3, ns3, rfl, r3, b3, x3, d3, t3⟩
    refine ⟨_, rfl, ?_⟩
    refine hK.out _ _ trivial (fun _ => ?_)
    clear hK K
    refine wpAnyH_ready (rs := [11]) (by kernel_rfl) (by simp) ?_
    refine AllReadyH.cons rfl (fun K hK => ?_) AllReadyH.nil
    refine step_call rfl 48 #[.pointer (some ⟨R, 0, none⟩), v3] (by go_simp) ?_
    have htk : (nms d.l).take T = nms d.l := by rw [hT.out]; exact List.take_length
    rw [htk] at r3
    refine (settle_any d3 r3 (fun g hg => by rw [(b3 g hg).2]; unfold TA; simp) (fun t ht => hok.out t (List.mem_filter.1 ht).1) HMD.out (by omega) (by omega)).mono ?_
    rintro e w4 ⟨rfl, L4, x4, d4, t4⟩
    refine ⟨_, rfl, ?_⟩
    refine hK.out _ _ trivial (fun _ => ?_)
    clear hK K
    refine wpAnyH_done (by kernel_rfl) ?_ _
    simp only [Act.put, List.getElem_toArray, List.getElem_cons_succ, List.getElem_cons_zero, List.setIfInBounds_toArray, List.set_cons_succ, List.set_cons_zero]
    have FIN : Hid (∃ L', Lx w L L' ∧ Dk w4 L' R d.begin.2.named ∧ Tl L TD w w4) := hide (by
      have a3 : Tl L TD w w3 := Tl.trans TE.out t3 (Lx.refl _ _) (fun _ h => h)
      have y3 : Lx w L L3 := fun g hg => x3 g (Nat.lt_of_lt_of_le hg (Tb.size TE.out))
      refine ⟨L4, y3.trans (w' := w3) x4 (Tb.size a3), ⟨_, ?_, HS1.out.bl ns3 rfl rfl rfl rfl rfl rfl⟩, Tl.trans a3 t4 y3 (fun _ h => .inr (.inl h))⟩
      unfold Dsk.named
      simp only
      rw [p1, p2, p3, ← hT.out]
      exact d4)
    clear d3 d4 t3 t4 x3 x4 r3 b3
    go_wp2_with fail
    go_ret
    rw [hpe.out]
    exact ⟨rfl, FIN.out⟩
  · have e9 : (d.begin.1 == 0) = false := by simpa using hb
    have hpe : Hid (d.syncNames = d.begin) := hide (by unfold Dsk.syncNames; rw [if_pos hb])
    have HD1 : Hid (Dk w1 L R d.begin.2) := hide ⟨o1, by rw [p1, p2, p3]; exact hd1, hs1⟩
    obtain ⟨E, hE⟩ : ∃ E, E = d.begin.1 := ⟨_, rfl⟩
    rw [← hE] at hb e9
    rw [← hE]
    have hE2 := hide hE.symm
    clear hd1 hs1 HBG hE hr
    go_wp2_with fail
    go_ret
    rw [hpe.out]
    exact ⟨by rw [hE2.out]; rfl, L, Lx.refl _ _, HD1.out, tl1.out⟩

end Go.Proofs.Ytikhgjnjlkaobaa

/-
  A disk of one's own: Rename, Remove, SyncNames.
-/
namespace Go.Proofs.Ytikhgjnjlkaobaa
open Go.RowKit
set_option maxRecDepth 100000

section
variable {w W : World} {R : Nat} {d : Dsk} {K : Nat} {s t : ByteArray}

theorem aw_rename (h : Aw w R d W) (hf : Few d K) (hs : s.size ≤ 64) (ht : 1 ≤ t.size ∧ t.size ≤ 64) (h0 : 1 ≤ d.find s) :
    Calls Try.prog 16 #[.pointer (some ⟨R, 0, none⟩), .string s, .string t] W fun e w' => e = .returned (.int .i64 (d.rename s t).1) ∧ Aw w R (d.rename s t).2 w' := by
  obtain ⟨L, ⟨o, a1, a2⟩, a3, a5⟩ := h
  have hk := hf.k
  refine (rename_go a1 a2 hf.std (by omega) hf.last hs ht h0).mono ?_
  rintro e w' ⟨rfl, L', b1, b2, b3⟩
  exact ⟨rfl, Aw.step a3 a5 b1 b2 b3⟩

theorem aw_remove (h : Aw w R d W) (hf : Few d K) (hs : s.size ≤ 64) (h0 : 1 ≤ d.find s) :
    Calls Try.prog 19 #[.pointer (some ⟨R, 0, none⟩), .string s] W fun e w' => e = .returned (.int .i64 (d.remove s).1) ∧ Aw w R (d.remove s).2 w' := by
  obtain ⟨L, ⟨o, a1, a2⟩, a3, a5⟩ := h
  have hk := hf.k
  refine (remove_go a1 a2 hf.std (by omega) hf.last hs h0).mono ?_
  rintro e w' ⟨rfl, L', b1, b2, b3⟩
  exact ⟨rfl, Aw.step a3 a5 b1 b2 b3⟩

theorem aw_syncNames (h : Aw w R d W) (hf : Few d K) :
    Calls Try.prog 21 #[.pointer (some ⟨R, 0, none⟩)] W fun e w' => e = .returned (.int .i64 d.syncNames.1) ∧ Aw w R d.syncNames.2 w' := by
  obtain ⟨L, ⟨o, a1, a2⟩, a3, a5⟩ := h
  have hk := hf.k
  refine (syncNames_go a1 a2 hf.dur (by omega) hf.last).mono ?_
  rintro e w' ⟨rfl, L', b1, b2, b3⟩
  exact ⟨rfl, Aw.step a3 a5 b1 b2 b3⟩
end

end Go.Proofs.Ytikhgjnjlkaobaa

/-
  A disk of one's own with rows beside it: Rename, SyncNames.
-/
namespace Go.Proofs.Ytikhgjnjlkaobaa
open Go.RowKit
set_option maxRecDepth 100000
set_option maxRecDepth 100000
set_option linter.unusedVariables false

section
variable {w W V : World} {R : Nat} {d : Dsk} {vs : List Value}

theorem ax_rename {K : Nat} {s t : ByteArray} (h : Ax w vs R d W) (hf : Few d K) (hs : s.size ≤ 64) (ht : 1 ≤ t.size ∧ t.size ≤ 64) (h0 : 1 ≤ d.find s) :
    Calls Try.prog 16 #[.pointer (some ⟨R, 0, none⟩), .string s, .string t] W fun e w' => e = .returned (.int .i64 (d.rename s t).1) ∧ Ax w vs R (d.rename s t).2 w' ∧ Kr vs W w' := by
  obtain ⟨L, ⟨o, a1, a2⟩, a3, a6, a5⟩ := h
  have hk := hf.k
  refine (rename_go a1 a2 hf.std (by omega) hf.last hs ht h0).mono ?_
  rintro e w' ⟨rfl, L', b1, b2, b3⟩
  exact ⟨rfl, Ax.step a3 a6 a5 b1 b2 b3⟩

theorem ax_syncNames {K : Nat} (h : Ax w vs R d W) (hf : Few d K) :
    Calls Try.prog 21 #[.pointer (some ⟨R, 0, none⟩)] W fun e w' => e = .returned (.int .i64 d.syncNames.1) ∧ Ax w vs R d.syncNames.2 w' ∧ Kr vs W w' := by
  obtain ⟨L, ⟨o, a1, a2⟩, a3, a6, a5⟩ := h
  have hk := hf.k
  refine (syncNames_go a1 a2 hf.dur (by omega) hf.last).mono ?_
  rintro e w' ⟨rfl, L', b1, b2, b3⟩
  exact ⟨rfl, Ax.step a3 a6 a5 b1 b2 b3⟩

end

end Go.Proofs.Ytikhgjnjlkaobaa

/-
  Arm, Fail.
-/
namespace Go.Proofs.Ytikhgjnjlkaobaa
open Go.RowKit
set_option maxRecDepth 100000
set_option maxRecDepth 100000

def Dsk.arm (d : Dsk) (n : Int) : Int × Dsk := if n < 0 then (2, d) else (0, { d with armed := n })
def Dsk.fail (d : Dsk) (n e : Int) : Int × Dsk := if n < 0 ∨ (e ≠ 4 ∧ e ≠ 5) then (2, d) else (0, { d with failing := n, failure := e })

set_option maxHeartbeats 1000000 in
theorem arm_any {w : World} {L : Lb} {R : Nat} {o : Ob} {d : Dsk} {n : Int} (h : Di w L R o d.dur d.std d.l) (hsy : Says o d) (hn : n ≤ 9223372036854775807) :
    Calls Try.prog 20 #[.pointer (some ⟨R, 0, none⟩), .int .i64 n] w fun e w' => e = .returned (.int .i64 (d.arm n).1) ∧ Dk w' L R (d.arm n).2 ∧ Tl L TD w w' := by
  have hr := right_yes h.oj
  have hlb := h.lb
  by_cases h0 : n < 0
  · have hp : Hid (d.arm n = (2, d)) := hide (by unfold Dsk.arm; rw [if_pos h0])
    have HD : Hid (Dk w L R d) := hide ⟨o, h, hsy⟩
    clear h hsy
    go_enter Try.func20, Try.ntmps20
    go_wp2_with (go_at_call 35; refine hr.mono ?_; rintro e w1 ⟨rfl, hw1⟩; subst w1)
    go_ret
    rw [hp.out]
    exact ⟨rfl, HD.out, Tb.refl _ _⟩
  · have hp : Hid (d.arm n = (0, { d with armed := n })) := hide (by unfold Dsk.arm; rw [if_neg h0])
    have HD := hide h
    have HS := hide hsy
    have hst := astore_armed (x := n) h.oj (by omega)
    clear h hsy
    go_enter Try.func20, Try.ntmps20
    go_wp2_with (first | (go_at_call 35; refine hr.mono ?_; rintro e w1 ⟨rfl, hw1⟩; subst w1) | (go_at_call 53; refine hst.mono ?_; rintro e w1 ⟨rfl, o1, t1⟩))
    have FIN : Hid (Dk w1 L R { d with armed := n } ∧ Tl L TD w w1) := hide ⟨⟨_, HD.out.set o1 t1 rfl rfl rfl rfl rfl rfl rfl, ⟨HS.out.last, HS.out.made, HS.out.down, rfl, HS.out.failing, HS.out.failure⟩⟩, Tl.own hlb t1⟩
    clear o1 t1
    go_ret
    rw [hp.out]
    exact ⟨rfl, FIN.out⟩

set_option maxHeartbeats 1000000 in
theorem fail_no {w : World} {R : Nat} {o : Ob} {n e : Int} (h : Oj w R o) (h0 : n < 0 ∨ (e ≠ 4 ∧ e ≠ 5)) :
    Calls Try.prog 22 #[.pointer (some ⟨R, 0, none⟩), .int .i64 n, .int .i64 e] w fun x w' => x = .returned (.int .i64 2) ∧ w' = w := by
  have hr := right_yes h
  clear h
  by_cases hn : n < 0
  · clear h0
    go_enter Try.func22, Try.ntmps22
    go_wp2_with (go_at_call 35; refine hr.mono ?_; rintro e w1 ⟨rfl, hw1⟩; subst w1)
    go_ret
    exact ⟨rfl, rfl⟩
  · obtain ⟨h4, h5⟩ := h0.resolve_left hn
    have e4 : (e != 4) = true := by simpa using h4
    have e5 : (e != 5) = true := by simpa using h5
    have hd : decide (n < 0) = false := by simpa using hn
    clear h0
    go_enter Try.func22, Try.ntmps22
    go_wp2_with (go_at_call 35; refine hr.mono ?_; rintro e w1 ⟨rfl, hw1⟩; subst w1)
    go_ret
    exact ⟨rfl, rfl⟩

set_option maxHeartbeats 1000000 in
theorem fail_go {w : World} {L : Lb} {R : Nat} {o : Ob} {d : Dsk} {n e : Int} (h : Di w L R o d.dur d.std d.l) (hsy : Says o d) (h0 : 0 ≤ n ∧ n ≤ 9223372036854775807) (he : e = 4 ∨ e = 5) :
    Calls Try.prog 22 #[.pointer (some ⟨R, 0, none⟩), .int .i64 n, .int .i64 e] w fun x w' => x = .returned (.int .i64 0) ∧ Dk w' L R { d with failing := n, failure := e } ∧ Tl L TD w w' := by
  have hr := right_yes h.oj
  have hlb := h.lb
  have HD := hide h
  have HS := hide hsy
  have hst := astore_failing (x := n) h.oj (by omega)
  have hn : ¬ n < 0 := by omega
  have hd : decide (n < 0) = false := by simpa using hn
  clear h hsy
  have END : Hid (∀ w1 : World, Oj w1 R { o with failing := n } → Tb (fun k => k = R) w w1 → Dk (w1.setCell ⟨R, 12, none⟩ (.int .i64 e)) L R { d with failing := n, failure := e } ∧ Tl L TD w (w1.setCell ⟨R, 12, none⟩ (.int .i64 e))) := hide (fun w1 o1 t1 => by
    have o2 : Oj (w1.setCell ⟨R, 12, none⟩ (.int .i64 e)) R { o with failing := n, failure := e } := o1.set 12 _ { o with failing := n, failure := e } rfl o1.armed o1.failing
    have t2 : Tb (fun k => k = R) w (w1.setCell ⟨R, 12, none⟩ (.int .i64 e)) := t1.trans (T := fun k => k = R) (Tb.set (S := fun k => k = R) R 12 _ rfl) (fun _ _ h => h)
    exact ⟨⟨_, HD.out.set o2 t2 rfl rfl rfl rfl rfl rfl rfl, ⟨HS.out.last, HS.out.made, HS.out.down, HS.out.armed, rfl, rfl⟩⟩, Tl.own hlb t2⟩)
  rcases he with rfl | rfl
  · go_enter Try.func22, Try.ntmps22
    go_wp2_with (first | (go_at_call 35; refine hr.mono ?_; rintro e w1 ⟨rfl, hw1⟩; subst w1) | (go_at_call 53; refine hst.mono ?_; rintro e w1 ⟨rfl, o1, t1⟩; have c12 : w1.cell? ⟨R, 12, none⟩ = some (.int .i64 o.failure) := o1.c 12; have f12 := o1.free 12))
    go_ret
    exact ⟨rfl, END.out w1 o1 t1⟩
  · go_enter Try.func22, Try.ntmps22
    go_wp2_with (first | (go_at_call 35; refine hr.mono ?_; rintro e w1 ⟨rfl, hw1⟩; subst w1) | (go_at_call 53; refine hst.mono ?_; rintro e w1 ⟨rfl, o1, t1⟩; have c12 : w1.cell? ⟨R, 12, none⟩ = some (.int .i64 o.failure) := o1.c 12; have f12 := o1.free 12))
    go_ret
    exact ⟨rfl, END.out w1 o1 t1⟩

end Go.Proofs.Ytikhgjnjlkaobaa

/-
  Cut.
-/
namespace Go.Proofs.Ytikhgjnjlkaobaa
open Go.RowKit
set_option maxRecDepth 100000
set_option maxRecDepth 100000

def cutStp (f n : Int) : Stp := ⟨0, 2, f, ByteArray.empty, ByteArray.empty, n, List.replicate 64 0⟩
theorem cutStp_ok {f n : Int} (hf : 1 ≤ f ∧ f ≤ 9223372036854775807) (hn : 0 ≤ n ∧ n ≤ 4096) : (cutStp f n).Ok :=
  ⟨by simp [cutStp], by simp [cutStp], hf, by simp [cutStp], by simp [cutStp], hn, fun h => by simp [cutStp] at h, by simp [cutStp], fun z hz => by rw [(List.mem_replicate.1 hz).2]; omega⟩
theorem built81c (f n : Int) : Try.prog.built (81 : TypeId) [(1, .int .u8 2), (2, .int .i64 f), (5, .int .i64 n)] = some (cutStp f n).cells.toArray := by kernel_rfl

def Dsk.cut (d : Dsk) (s : ByteArray) (n : Int) : Int × Dsk :=
  if d.find s = 0 then (70, d) else if n < 0 ∨ ((lk d.std.rw (d.find s)).getD []).length < n then (2, d) else if d.begin.1 ≠ 0 then d.begin else (0, d.begin.2.do (cutStp (d.find s) n))

set_option maxHeartbeats 1000000 in
theorem cut_no {w : World} {L : Lb} {R : Nat} {o : Ob} {d : Dsk} {s : ByteArray} {n : Int} (h : Di w L R o d.dur d.std d.l) (hs : s.size ≤ 9223372036854775807) (h0 : d.find s = 0) :
    Calls Try.prog 18 #[.pointer (some ⟨R, 0, none⟩), .string s, .int .i64 n] w fun e w' => e = .returned (.int .i64 70) ∧ w' = w := by
  have hf := find_any h hs
  rw [show (lk d.std.nm s.data.toList).getD 0 = 0 from h0] at hf
  clear h
  go_enter Try.func18, Try.ntmps18
  go_wp2_with (go_at_call 45; refine hf.mono ?_; rintro e w1 ⟨rfl, hw1⟩; subst w1)
  go_ret
  exact ⟨rfl, rfl⟩

set_option maxHeartbeats 1000000 in
theorem cut_arg {w : World} {L : Lb} {R : Nat} {o : Ob} {d : Dsk} {K : Nat} {s : ByteArray} {n : Int} (h : Di w L R o d.dur d.std d.l) (hm : Sm d.std K) (hs : s.size ≤ 9223372036854775807) (h0 : d.find s ≠ 0) (hn : n < 0 ∨ ((lk d.std.rw (d.find s)).getD []).length < n) :
    Calls Try.prog 18 #[.pointer (some ⟨R, 0, none⟩), .string s, .int .i64 n] w fun e w' => e = .returned (.int .i64 2) ∧ w' = w := by
  have hf := find_any h hs
  obtain ⟨F, hF⟩ : ∃ F, F = d.find s := ⟨_, rfl⟩
  have hf6 := hm.fileOf s.data.toList
  rw [show (lk d.std.nm s.data.toList).getD 0 = F from hF.symm] at hf hf6
  rw [← hF] at hn h0
  rw [if_neg h0] at hf
  have c4 : w.cell? ⟨R, 4, none⟩ = some (.map (some o.sr)) := h.oj.c 4
  obtain ⟨v, hlook, hown, _⟩ := h.std.rw.find Try.underlying44 zero74 hf6
  have hrun := (hlook w rfl).1
  obtain ⟨N, hN⟩ : ∃ N, N = ((lk d.std.rw F).getD []).length := ⟨_, rfl⟩
  rw [← hN] at hn hown
  obtain ⟨ad, c', rfl⟩ := row_val hown
  clear h hlook hown hN hm hF
  by_cases h1 : n < 0
  · clear hn
    go_enter Try.func18, Try.ntmps18
    go_wp2_with (go_at_call 45; refine hf.mono ?_; rintro e w1 ⟨rfl, hw1⟩; subst w1)
    go_ret
    exact ⟨rfl, rfl⟩
  · have h2 := hn.resolve_left h1
    have hd : decide (n < 0) = false := by simpa using h1
    clear hn
    go_enter Try.func18, Try.ntmps18
    go_wp2_with (go_at_call 45; refine hf.mono ?_; rintro e w1 ⟨rfl, hw1⟩; subst w1)
    go_ret
    exact ⟨rfl, rfl⟩

set_option maxHeartbeats 1000000 in
theorem cut_go {w : World} {L : Lb} {R : Nat} {o : Ob} {d : Dsk} {K : Nat} {s : ByteArray} {n : Int} (h : Di w L R o d.dur d.std d.l) (hsy : Says o d) (hm : Sm d.std K) (hK : K < 8000000000000000000) (hlast : d.last < 900000000) (hs : s.size ≤ 64) (h0 : 1 ≤ d.find s) (hn0 : 0 ≤ n) (hn : n ≤ ((lk d.std.rw (d.find s)).getD []).length) :
    Calls Try.prog 18 #[.pointer (some ⟨R, 0, none⟩), .string s, .int .i64 n] w fun e w' => e = .returned (.int .i64 (d.cut s n).1) ∧ ∃ L', Lx w L L' ∧ Dk w' L' R (d.cut s n).2 ∧ Tl L TD w w' := by
  have hf := find_any h (s := s) (by omega)
  obtain ⟨F, hF⟩ : ∃ F, F = d.find s := ⟨_, rfl⟩
  have hf6 := hm.fileOf s.data.toList
  rw [show (lk d.std.nm s.data.toList).getD 0 = F from hF.symm] at hf hf6
  have hp : d.cut s n = if d.begin.1 ≠ 0 then d.begin else (0, d.begin.2.do (cutStp F n)) := by unfold Dsk.cut; rw [if_neg (by omega), if_neg (by omega), hF]
  rw [← hF] at hn h0
  have h0' : ¬ F = 0 := by omega
  rw [if_neg h0'] at hf
  have hFI : 1 ≤ F ∧ F ≤ 9223372036854775807 := ⟨by omega, hf6.2⟩
  have c4 : w.cell? ⟨R, 4, none⟩ = some (.map (some o.sr)) := h.oj.c 4
  obtain ⟨v, hlook, hown, _⟩ := h.std.rw.find Try.underlying44 zero74 hf6
  have hrun := (hlook w rfl).1
  have hN2 := (hm.at F).1
  obtain ⟨N, hN⟩ : ∃ N, N = ((lk d.std.rw F).getD []).length := ⟨_, rfl⟩
  rw [← hN] at hn hown hN2
  obtain ⟨ad, c', rfl⟩ := row_val hown
  have hd : decide (n < 0) = false := by simp; omega
  have hd2 : ¬ n < 0 := by omega
  have hbg := begin_dk h hsy
  obtain ⟨p1, p2, p3, p4, p5⟩ := begin_parts d
  have hlb := h.lb
  have HBG := hide hbg
  have HP := hide hp
  have HM := hide hm
  have HB := hide (built81c F n)
  have hok : Hid ((cutStp F n).Ok) := hide (cutStp_ok hFI (by omega))
  clear h hsy hm hbg hp hF hf6 h0 hlook hown hN
  go_enter Try.func18, Try.ntmps18
  go_wp2_with (go_at_call 45; refine hf.mono ?_; rintro e w1 ⟨rfl, hw1⟩; subst w1)
  refine HBG.out.mono ?_
  rintro e w1 ⟨rfl, o1, hd1, hs1, q1, q2, q3, q4, t1⟩
  have tl1 : Hid (Tl L TD w w1) := hide (Tl.own hlb t1)
  by_cases hb : d.begin.1 = 0
  · rw [hb]
    have hpe : Hid (d.cut s n = (0, d.begin.2.do (cutStp F n))) := hide (by rw [HP.out, if_neg (by rw [hb]; simp)])
    have HD1 : Hid (Di w1 L R o1 d.begin.2.dur d.begin.2.std d.begin.2.l) := hide (by rw [p1, p2, p3]; exact hd1)
    have HS1 := hide hs1
    have hl1 : d.begin.2.last < 1000000000 := by rw [p4]; omega
    have hm1 : Hid (Sm d.begin.2.std K) := hide (by rw [p2]; exact HM.out)
    clear hd1 hs1 q1 q2 q3 q4 t1 HBG hf hrun c4
    go_wp2_with (refine wpList_buildTo rfl (81 : TypeId) #[(1, .const (.int .u8 2)), (2, .tmp 39), (5, .tmp 40)] rfl (some 41) rfl (cutStp F n).cells.toArray (by simpa [Act.eval, Act.put] using HB.out) ?_)
    refine (do_dk HD1.out HS1.out hok.out hl1 hm1.out (by omega)).mono ?_
    rintro e w4 ⟨rfl, L4, o4, x4, hd4, hs4, t4⟩
    have FIN : Hid (∃ L', Lx w L L' ∧ Dk w4 L' R (d.begin.2.do (cutStp F n)) ∧ Tl L TD w w4) :=
      hide ⟨L4, fun g hg => x4 g (Nat.lt_of_lt_of_le hg (Tb.size tl1.out)), ⟨o4, hd4, hs4⟩, Tl.trans tl1.out t4 (Lx.refl _ _) (fun _ h => h)⟩
    clear hd4 hs4 x4 t4
    go_wp2_with fail
    go_ret
    rw [hpe.out]
    exact ⟨rfl, FIN.out⟩
  · have e9 : (d.begin.1 == 0) = false := by simpa using hb
    have hpe : Hid (d.cut s n = d.begin) := hide (by rw [HP.out, if_pos hb])
    have HD1 : Hid (Dk w1 L R d.begin.2) := hide ⟨o1, by rw [p1, p2, p3]; exact hd1, hs1⟩
    obtain ⟨E, hE⟩ : ∃ E, E = d.begin.1 := ⟨_, rfl⟩
    rw [← hE] at hb e9
    rw [← hE]
    have hE2 := hide hE.symm
    clear hd1 hs1 HBG hf hE hrun c4
    go_wp2_with fail
    go_ret
    rw [hpe.out]
    exact ⟨by rw [hE2.out]; rfl, L, Lx.refl _ _, HD1.out, tl1.out⟩

end Go.Proofs.Ytikhgjnjlkaobaa

/-
  A file that other steps do not touch, as lists: what stands of it behind any of them.
-/
namespace Go.Proofs.Ytikhgjnjlkaobaa
open Go.RowKit
set_option maxRecDepth 100000
set_option maxRecDepth 100000
set_option linter.unusedVariables false

/-- A file stands: its name, its sectors, and no other name is its. -/
structure Stands (κ : List UInt8) (g : Int) (rs : List (List Int)) (s : Shp) : Prop where
  nm : lk s.nm κ = some g
  rw : lk s.rw g = some rs
  no : ∀ k, k ≠ κ → lk s.nm k ≠ some g

/-- A step of something else. -/
structure Other (κ : List UInt8) (g : Int) (t : Stp) : Prop where
  file : t.file ≠ g
  name : t.name.data.toList ≠ κ ∨ t.kind = 1 ∨ t.kind = 2
  to : t.to.data.toList ≠ κ ∨ t.kind ≠ 3

section
variable {κ : List UInt8} {g : Int} {rs : List (List Int)} {s : Shp} {t : Stp}

theorem Stands.take (h : Stands κ g rs s) (hg : g ≠ 0) {k : List UInt8} (hk : k ≠ κ) : Stands κ g rs (s.take k) := by
  refine ⟨?_, ?_, fun j hj e => ?_⟩
  · show lk (dl s.nm k) κ = some g
    rw [lk_dl_other (fun e => hk e.symm)]
    exact h.nm
  · show lk (dl s.rw ((lk s.nm k).getD 0)) g = some rs
    rw [lk_dl_other]
    · exact h.rw
    · intro e
      cases hl : lk s.nm k with
      | none => rw [hl] at e; simp at e; exact hg e
      | some f =>
        rw [hl] at e
        simp only [Option.getD_some] at e
        exact h.no k hk (by rw [hl, e])
  · have e' : lk (dl s.nm k) j = some g := e
    by_cases hjk : j = k
    · subst hjk
      rw [lk_dl_same] at e'
      cases e'
    · rw [lk_dl_other hjk] at e'
      exact h.no j hj e'

theorem Stands.named (h : Stands κ g rs s) {k : List UInt8} (hk : k ≠ κ) {f : Int} (hf : f ≠ g) : Stands κ g rs ⟨st s.nm k f, s.rw⟩ := by
  refine ⟨?_, h.rw, fun j hj e => ?_⟩
  · show lk (st s.nm k f) κ = some g
    rw [lk_st_other (fun e => hk e.symm)]
    exact h.nm
  · have e' : lk (st s.nm k f) j = some g := e
    by_cases hjk : j = k
    · subst hjk
      rw [lk_st_same] at e'
      cases e'
      exact hf rfl
    · rw [lk_st_other hjk] at e'
      exact h.no j hj e'

theorem Stands.rows (h : Stands κ g rs s) {f : Int} (hf : f ≠ g) (x : List (List Int)) : Stands κ g rs ⟨s.nm, st s.rw f x⟩ :=
  ⟨h.nm, by show lk (st s.rw f x) g = some rs; rw [lk_st_other (fun e => hf e.symm)]; exact h.rw, h.no⟩

theorem Stands.less (h : Stands κ g rs s) {k : List UInt8} (hk : k ≠ κ) : Stands κ g rs ⟨dl s.nm k, s.rw⟩ := by
  refine ⟨?_, h.rw, fun j hj e => ?_⟩
  · show lk (dl s.nm k) κ = some g
    rw [lk_dl_other (fun e => hk e.symm)]
    exact h.nm
  · have e' : lk (dl s.nm k) j = some g := e
    by_cases hjk : j = k
    · subst hjk
      rw [lk_dl_same] at e'
      cases e'
    · rw [lk_dl_other hjk] at e'
      exact h.no j hj e'

/-- What stands stands behind a step of something else. -/
theorem Stands.does (h : Stands κ g rs s) (hg : g ≠ 0) (ht : Other κ g t) : Stands κ g rs (s.does t) := by
  unfold Shp.does
  by_cases k0 : t.kind = 0
  · rw [if_pos k0]
    have hn : t.name.data.toList ≠ κ := ht.name.resolve_right (by omega)
    exact ((h.take hg hn).named hn ht.file).rows ht.file []
  · rw [if_neg k0]
    by_cases k1 : t.kind = 1
    · rw [if_pos k1]
      unfold Shp.put
      cases hl : lk s.rw t.file with
      | none => exact h
      | some r => exact h.rows ht.file _
    · rw [if_neg k1]
      by_cases k2 : t.kind = 2
      · rw [if_pos k2]
        unfold Shp.cut
        cases hl : lk s.rw t.file with
        | none => exact h
        | some r =>
          simp only
          split
          · exact h.rows ht.file _
          · exact h
      · rw [if_neg k2]
        have hn : t.name.data.toList ≠ κ := ht.name.resolve_right (by omega)
        by_cases k3 : t.kind = 3
        · rw [if_pos k3]
          have hto : t.to.data.toList ≠ κ := ht.to.resolve_right (by omega)
          split
          · exact ((h.less hn).take hg hto).named hto ht.file
          · exact h
        · rw [if_neg k3]
          split
          · exact h.take hg hn
          · exact h

theorem Stands.fold (hg : g ≠ 0) : ∀ (ts : List Stp), (∀ t ∈ ts, Other κ g t) → ∀ s, Stands κ g rs s → Stands κ g rs (ts.foldl Shp.does s) := by
  intro ts
  induction ts with
  | nil => exact fun _ _ h => h
  | cons t ts ih => exact fun ht s h => ih (fun x hx => ht x (by simp [hx])) _ (h.does hg (ht t (by simp)))
end

/-- A disk on which a file is synced, and nothing else has to do with it. -/
structure Safe (κ : List UInt8) (g : Int) (rs : List (List Int)) (d : Dsk) : Prop where
  dur : Stands κ g rs d.dur
  std : Stands κ g rs d.std
  l : ∀ t ∈ d.l, Other κ g t
  pos : 0 < g
  made : g ≤ d.made

section
variable {κ : List UInt8} {g : Int} {rs : List (List Int)} {d : Dsk} {s t : ByteArray}

theorem Safe.crash (h : Safe κ g rs d) (ks : List Bool) : Stands κ g rs (d.crash ks).std := by
  have hg : g ≠ 0 := by have := h.pos; omega
  exact Stands.fold hg _ (fun t ht => h.l t ((kep_sub d.l ks).subset ht)) _ h.dur

theorem Safe.bytes {s : ByteArray} (h : Stands s.data.toList g rs d.std) : d.bytes s = rs.flatten := by
  unfold Dsk.bytes Dsk.find
  rw [h.nm]
  simp only [Option.getD_some]
  rw [h.rw]
  rfl

theorem Safe.begin (h : Safe κ g rs d) : Safe κ g rs d.begin.2 := by
  unfold Dsk.begin
  split
  · exact h
  · split
    · exact ⟨h.dur, h.std, h.l, h.pos, h.made⟩
    · split
      · exact ⟨h.dur, h.std, h.l, h.pos, h.made⟩
      · exact ⟨h.dur, h.std, h.l, h.pos, h.made⟩

theorem Safe.do (h : Safe κ g rs d) {u : Stp} (hu : Other κ g u) : Safe κ g rs (d.do u) := by
  have hg : g ≠ 0 := by have := h.pos; omega
  refine ⟨h.dur, h.std.does hg hu, fun x hx => ?_, h.pos, h.made⟩
  rcases List.mem_append.1 hx with hx | hx
  · exact h.l x hx
  · simp only [List.mem_singleton] at hx
    subst hx
    exact ⟨hu.file, hu.name, hu.to⟩

theorem Safe.find (h : Safe κ g rs d) (hs : s.data.toList ≠ κ) : d.find s ≠ g := by
  have hg := h.pos
  unfold Dsk.find
  cases hl : lk d.std.nm s.data.toList with
  | none => simp; omega
  | some f =>
    simp only [Option.getD_some]
    intro e
    exact h.std.no _ hs (by rw [hl, e])

theorem Safe.put (h : Safe κ g rs d) (hs : s.data.toList ≠ κ) (at' : Int) (n : Nat) (data : List Int) : Safe κ g rs (d.put s at' n data).2 := by
  have hb := h.begin
  have hf := h.find hs
  have hm := hb.made
  unfold Dsk.put
  split
  · exact h
  · split
    · exact h
    · split
      · exact hb
      · split
        · have h1 : Safe κ g rs ({ d.begin.2 with made := d.begin.2.made + 1 } : Dsk) := ⟨hb.dur, hb.std, hb.l, hb.pos, by simp only; omega⟩
          exact (h1.do ⟨by simp only [madeStp]; omega, .inl hs, .inr (by simp [madeStp])⟩).do ⟨by simp only [putStp]; omega, .inr (.inl rfl), .inr (by simp [putStp])⟩
        · exact hb.do ⟨hf, .inr (.inl rfl), .inr (by simp [putStp])⟩

theorem Safe.cut (h : Safe κ g rs d) (hs : s.data.toList ≠ κ) (n : Int) : Safe κ g rs (d.cut s n).2 := by
  have hb := h.begin
  have hf := h.find hs
  unfold Dsk.cut
  split
  · exact h
  · split
    · exact h
    · split
      · exact hb
      · exact hb.do ⟨hf, .inr (.inr rfl), .inr (by simp [cutStp])⟩

theorem Safe.remove (h : Safe κ g rs d) (hs : s.data.toList ≠ κ) : Safe κ g rs (d.remove s).2 := by
  have hb := h.begin
  have hf := h.find hs
  unfold Dsk.remove
  split
  · exact h
  · split
    · exact hb
    · exact hb.do ⟨hf, .inl hs, .inr (by simp [remStp])⟩

theorem Safe.rename (h : Safe κ g rs d) (hs : s.data.toList ≠ κ) (ht : t.data.toList ≠ κ) : Safe κ g rs (d.rename s t).2 := by
  have hb := h.begin
  have hf := h.find hs
  unfold Dsk.rename
  repeat' split
  all_goals first | exact h | exact hb | exact hb.do ⟨hf, .inl hs, .inl ht⟩
end

end Go.Proofs.Ytikhgjnjlkaobaa

/-
  Disks whose numbers stay small, whatever is called.
-/
namespace Go.Proofs.Ytikhgjnjlkaobaa
open Go.RowKit
set_option maxRecDepth 100000
set_option maxRecDepth 100000
set_option linter.unusedVariables false

structure Bd (d : Dsk) (K : Nat) : Prop where
  std : Sm d.std K
  dur : Sm d.dur K
  last : 0 ≤ d.last ∧ d.last ≤ (K : Int)
  made : 0 ≤ d.made ∧ d.made ≤ (K : Int)
  file : ∀ p ∈ d.std.nm, 1 ≤ p.2 ∧ p.2 ≤ d.made
  filed : ∀ p ∈ d.dur.nm, 1 ≤ p.2 ∧ p.2 ≤ d.made
  ok : ∀ t ∈ d.l, t.Ok ∧ t.file ≤ d.made
  calm : d.down = false ∧ d.armed = -1 ∧ d.failing = -1
  len : (d.l.length : Int) ≤ d.last

theorem Sm.wide {s : Shp} {K K' : Nat} (h : Sm s K) (hk : K ≤ K') : Sm s K' := ⟨Nat.le_trans h.nm hk, Nat.le_trans h.rw hk, h.file, h.row⟩

theorem mem_dl {κ ν : Type} [DecidableEq κ] {l : List (κ × ν)} {k : κ} {p : κ × ν} (h : p ∈ dl l k) : p ∈ l := (List.mem_filter.1 h).1
theorem mem_st {κ ν : Type} [DecidableEq κ] {l : List (κ × ν)} {k : κ} {v : ν} {p : κ × ν} (h : p ∈ st l k v) : p ∈ l ∨ p = (k, v) := by
  rcases List.mem_append.1 h with h | h
  · exact .inl (mem_dl h)
  · exact .inr (by simpa using h)

theorem file_does {s : Shp} {m : Int} (h : ∀ p ∈ s.nm, 1 ≤ p.2 ∧ p.2 ≤ m) {t : Stp} (ht : t.Ok) (hm : t.file ≤ m) : ∀ p ∈ (s.does t).nm, 1 ≤ p.2 ∧ p.2 ≤ m := by
  have hf := ht.file.1
  intro p hp
  unfold Shp.does at hp
  split at hp
  · rcases mem_st hp with h1 | rfl
    · exact h p (mem_dl h1)
    · exact ⟨hf, hm⟩
  · split at hp
    · unfold Shp.put at hp
      split at hp
      · exact h p hp
      · exact h p hp
    · split at hp
      · unfold Shp.cut at hp
        split at hp
        · exact h p hp
        · split at hp
          · exact h p hp
          · exact h p hp
      · split at hp
        · split at hp
          · rcases mem_st hp with h1 | rfl
            · exact h p (mem_dl (mem_dl h1))
            · exact ⟨hf, hm⟩
          · exact h p hp
        · split at hp
          · exact h p (mem_dl hp)
          · exact h p hp

section
variable {d : Dsk} {K : Nat}

theorem Bd.few (h : Bd d K) (hK : K < 900000) : Few d K :=
  ⟨h.std, h.dur, by omega, by have := h.last; omega, by have := h.made; omega, fun p hp => by have := (h.file p hp).1; omega⟩

theorem Bd.wide {K' : Nat} (h : Bd d K) (hk : K ≤ K') : Bd d K' :=
  ⟨h.std.wide hk, h.dur.wide hk, by have := h.last; omega, by have := h.made; omega, h.file, h.filed, h.ok, h.calm, h.len⟩

theorem Bd.begin (h : Bd d K) : d.begin = (0, d) := by
  obtain ⟨c1, c2, c3⟩ := h.calm
  unfold Dsk.begin
  rw [c1, c2, c3]
  simp only [Bool.false_eq_true, if_false]
  rw [if_neg (by omega), if_neg (by omega)]
  cases d
  simp only at c1 c2 c3
  subst c1
  subst c2
  subst c3
  rfl

theorem Bd.do (h : Bd d K) (hK : K < 900000) {u : Stp} (hu : u.Ok) (hf : u.file ≤ d.made) : Bd (d.do u) (K + 1) := by
  have hl := h.last
  refine ⟨h.std.does hu, h.dur.wide (by omega), by simp only [Dsk.do]; omega, by have := h.made; simp only [Dsk.do]; omega, file_does h.file hu hf, h.filed, fun x hx => ?_, h.calm, by have := h.len; simp only [Dsk.do, List.length_append, List.length_singleton]; omega⟩
  rcases List.mem_append.1 hx with hx | hx
  · exact h.ok x hx
  · simp only [List.mem_singleton] at hx
    subst hx
    exact ⟨hu.num (by omega), hf⟩

theorem Bd.find (h : Bd d K) (s : ByteArray) : 0 ≤ d.find s ∧ d.find s ≤ d.made := by
  have hm := h.made
  unfold Dsk.find
  cases hl : lk d.std.nm s.data.toList with
  | none => simp; omega
  | some f =>
    have := h.file _ (lk_mem hl)
    simp only at this
    simp only [Option.getD_some]
    omega

theorem Bd.put (h : Bd d K) (hK : K < 800000) {s : ByteArray} (hs : s.size ≤ 64) {at' : Int} (ha : 0 ≤ at' ∧ at' ≤ 4095) {data : List Int} (hd : data.length = 64) (hb : ∀ z ∈ data, 0 ≤ z ∧ z ≤ 255) : Bd (d.put s at' 64 data).2 (K + 3) := by
  have hm := h.made
  have hf := h.find s
  unfold Dsk.put
  rw [h.begin]
  split
  · exact h.wide (by omega)
  · split
    · exact h.wide (by omega)
    · split
      · exact h.wide (by omega)
      · split
        · have h1 : Bd ({ d with made := d.made + 1 } : Dsk) (K + 1) := ⟨h.std.wide (by omega), h.dur.wide (by omega), by have := h.last; simp only; omega, by simp only; omega, fun p hp => by have := h.file p hp; simp only; omega, fun p hp => by have := h.filed p hp; simp only; omega, fun t ht => ⟨(h.ok t ht).1, by have := (h.ok t ht).2; simp only; omega⟩, h.calm, h.len⟩
          have h2 := h1.do (by omega) (madeStp_ok (f := d.made + 1) (s := s) ⟨by omega, by omega⟩ hs) (by simp [madeStp])
          have h3 := h2.do (by omega) (putStp_ok (f := d.made + 1) (at' := at') (d := data) ⟨by omega, by omega⟩ ha hd hb) (by simp [putStp, Dsk.do])
          exact h3
        · rename_i hne
          exact (h.do (by omega) (putStp_ok (f := d.find s) ⟨by omega, by omega⟩ ha hd hb) (by simp only [putStp]; omega)).wide (by omega)

theorem Bd.cut (h : Bd d K) (hK : K < 900000) {s : ByteArray} {n : Int} (hn : n ≤ 4096) : Bd (d.cut s n).2 (K + 3) := by
  have hm := h.made
  have hf := h.find s
  unfold Dsk.cut
  rw [h.begin]
  split
  · exact h.wide (by omega)
  · split
    · exact h.wide (by omega)
    · split
      · exact h.wide (by omega)
      · rename_i h1 h2 _
        exact (h.do hK (cutStp_ok (f := d.find s) ⟨by omega, by omega⟩ ⟨by omega, hn⟩) (by simp only [cutStp]; omega)).wide (by omega)

theorem Bd.remove (h : Bd d K) (hK : K < 900000) {s : ByteArray} (hs : s.size ≤ 64) : Bd (d.remove s).2 (K + 3) := by
  have hm := h.made
  have hf := h.find s
  unfold Dsk.remove
  rw [h.begin]
  split
  · exact h.wide (by omega)
  · split
    · exact h.wide (by omega)
    · exact (h.do hK (remStp_ok (f := d.find s) (s := s) ⟨by omega, by omega⟩ hs) (by simp only [remStp]; omega)).wide (by omega)

theorem Bd.rename (h : Bd d K) (hK : K < 900000) {s t : ByteArray} (hs : s.size ≤ 64) (ht : t.size ≤ 64) : Bd (d.rename s t).2 (K + 3) := by
  have hm := h.made
  have hf := h.find s
  unfold Dsk.rename
  rw [h.begin]
  split
  · exact h.wide (by omega)
  · split
    · exact h.wide (by omega)
    · split
      · exact h.wide (by omega)
      · split
        · exact h.wide (by omega)
        · exact (h.do hK (renStp_ok (f := d.find s) (s := s) (t := t) ⟨by omega, by omega⟩ hs ht) (by simp only [renStp]; omega)).wide (by omega)
end

theorem bd_new : Bd newDsk 10 := ⟨Sm.empty, Sm.empty, by decide, by decide, by simp [newDsk], by simp [newDsk], by simp [newDsk], by decide, by decide⟩

end Go.Proofs.Ytikhgjnjlkaobaa

/-
  A file that is put whole on a disk on which all is synced, and synced: the disk as lists.
-/
namespace Go.Proofs.Ytikhgjnjlkaobaa
open Go.RowKit
set_option maxRecDepth 100000
set_option maxRecDepth 100000
set_option linter.unusedVariables false

/-- A disk on which all is synced. -/
def calm (s : Shp) (m n : Int) : Dsk := ⟨s, s, [], n, m, false, -1, -1, 0⟩

/-- The steps that put sectors, from a place on. -/
def puts (f n : Int) : List (List Int) → Nat → List Stp
  | [], _ => []
  | r :: rs, i => (putStp f (i : Int) r).num (n + (i : Int)) :: puts f n rs (i + 1)

theorem puts_snoc (f n : Int) (rs : List (List Int)) (r : List Int) (i : Nat) : puts f n (rs ++ [r]) i = puts f n rs i ++ [(putStp f ((i + rs.length : Nat) : Int) r).num (n + ((i + rs.length : Nat) : Int))] := by
  induction rs generalizing i with
  | nil => simp [puts]
  | cons x rs ih =>
    simp only [List.cons_append, puts, ih, List.length_cons]
    rw [show i + 1 + rs.length = i + (rs.length + 1) by omega]

/-- A disk with one file more, whose steps are not synced. -/
def more (s0 : Shp) (m n : Int) (s : ByteArray) (rs : List (List Int)) : Dsk :=
  ⟨s0, ⟨st s0.nm s.data.toList (m + 1), st s0.rw (m + 1) rs⟩, (madeStp (m + 1) s).num (n + 1) :: puts (m + 1) (n + 2) rs 0, n + 1 + (rs.length : Int), m + 1, false, -1, -1, 0⟩

theorem st_st {κ ν : Type} [DecidableEq κ] (l : List (κ × ν)) (k : κ) (v u : ν) : st (st l k v) k u = st l k u := by
  unfold st dl
  rw [List.filter_append, List.filter_filter]
  simp

theorem putIn_last (r : List (List Int)) (d : List Int) : putIn r r.length d = r ++ [d] := by
  unfold putIn
  rw [show r.length + 1 - r.length = 1 by omega]
  simp

/-- What a synced disk is to be, so that a new file goes on it. -/
structure Cl (s0 : Shp) (m : Int) (s : ByteArray) : Prop where
  pos : 0 ≤ m
  nm : lk s0.nm s.data.toList = none
  rw : lk s0.rw (m + 1) = none
  no : lk s0.rw 0 = none
  few : s0.nm.length < 200

section
variable {s0 : Shp} {m n : Int} {s : ByteArray} {rs : List (List Int)} {r : List Int}

theorem Cl.makes (h : Cl s0 m s) (k : Int) : s0.does ((madeStp (m + 1) s).num k) = ⟨st s0.nm s.data.toList (m + 1), st s0.rw (m + 1) []⟩ := by
  unfold Shp.does
  simp only [madeStp, Stp.num, Shp.take, if_true]
  rw [h.nm]
  simp only [Option.getD_none]
  rw [dl_none (lk_none_iff.1 h.nm), dl_none (lk_none_iff.1 h.no)]

theorem does_put (nm : List (List UInt8 × Int)) (l : List (Int × List (List Int))) (f k : Int) (x : List (List Int)) (d : List Int) : (⟨nm, st l f x⟩ : Shp).does ((putStp f ((x.length : Nat) : Int) d).num k) = ⟨nm, st l f (x ++ [d])⟩ := by
  unfold Shp.does
  rw [if_neg (by simp [putStp, Stp.num]), if_pos (by simp [putStp, Stp.num])]
  simp only [putStp, Stp.num, Shp.put]
  rw [lk_st_same]
  simp only [Int.toNat_natCast]
  rw [putIn_last, st_st]

theorem fold_puts (nm : List (List UInt8 × Int)) (l : List (Int × List (List Int))) (f k : Int) : ∀ (ys x : List (List Int)), (puts f k ys x.length).foldl Shp.does ⟨nm, st l f x⟩ = ⟨nm, st l f (x ++ ys)⟩ := by
  intro ys
  induction ys with
  | nil => intro x; simp [puts]
  | cons y ys ih =>
    intro x
    simp only [puts, List.foldl_cons]
    rw [does_put]
    have := ih (x ++ [y])
    rw [List.length_append, List.length_singleton] at this
    rw [this, List.append_assoc]
    rfl

theorem scs_puts (f k : Int) : ∀ (ys : List (List Int)) (i : Nat), scs (puts f k ys i) f = puts f k ys i := by
  intro ys
  induction ys with
  | nil => intro i; rfl
  | cons y ys ih =>
    intro i
    have := ih (i + 1)
    unfold scs at this ⊢
    simp only [puts]
    rw [List.filter_cons, if_pos (by simp [Stp.sec, putStp, Stp.num]), this]

theorem nms_puts (f k : Int) : ∀ (ys : List (List Int)) (i : Nat), nms (puts f k ys i) = [] := by
  intro ys
  induction ys with
  | nil => intro i; rfl
  | cons y ys ih =>
    intro i
    have := ih (i + 1)
    unfold nms at this ⊢
    simp only [puts]
    rw [List.filter_cons, if_neg (by simp [Stp.sec, putStp, Stp.num]), this]

theorem offS_puts (f k : Int) : ∀ (ys : List (List Int)) (i : Nat), offS (puts f k ys i) f = [] := by
  intro ys
  induction ys with
  | nil => intro i; rfl
  | cons y ys ih =>
    intro i
    have := ih (i + 1)
    unfold offS at this ⊢
    simp only [puts]
    rw [List.filter_cons, if_neg (by simp [Stp.sec, putStp, Stp.num]), this]

theorem put_first (h : Cl s0 m s) (hs : 1 ≤ s.size ∧ s.size ≤ 64) : (calm s0 m n).put s 0 64 r = (0, more s0 m n s [r]) := by
  have hf : (calm s0 m n).find s = 0 := by unfold Dsk.find calm; rw [h.nm]; rfl
  have hfew := h.few
  unfold Dsk.put
  rw [hf, if_neg (by simp only [calm]; rw [h.no]; simp; omega), if_neg (by simp only [calm]; omega)]
  have hb : (calm s0 m n).begin = (0, calm s0 m n) := rfl
  rw [hb]
  simp only [ne_eq, not_true_eq_false, if_false, if_true]
  unfold Dsk.do more
  simp only [calm, List.nil_append]
  congr 1
  have e3 : (⟨st s0.nm s.data.toList (m + 1), st s0.rw (m + 1) []⟩ : Shp).does (putStp (m + 1) 0 r) = ⟨st s0.nm s.data.toList (m + 1), st s0.rw (m + 1) [r]⟩ := by
    have := does_put (st s0.nm s.data.toList (m + 1)) s0.rw (m + 1) 0 [] r
    exact this
  rw [Dsk.mk.injEq]
  refine ⟨rfl, ?_, ?_, ?_, rfl, rfl, rfl, rfl, rfl⟩
  · have e4 : s0.does (madeStp (m + 1) s) = ⟨st s0.nm s.data.toList (m + 1), st s0.rw (m + 1) []⟩ := h.makes 0
    rw [e4]
    exact e3
  · simp only [puts, List.cons_append, List.nil_append]
    rw [show n + 1 + 1 = n + 2 + ((0 : Nat) : Int) by omega]
    rfl
  · simp

theorem put_next (h : Cl s0 m s) (hs : 1 ≤ s.size ∧ s.size ≤ 64) (hr : rs.length < 4096) : (more s0 m n s rs).put s (rs.length : Int) 64 r = (0, more s0 m n s (rs ++ [r])) := by
  have hf : (more s0 m n s rs).find s = m + 1 := by unfold Dsk.find more; simp only; rw [lk_st_same]; rfl
  have hm := h.pos
  unfold Dsk.put
  rw [hf, if_neg (by simp only [more]; rw [lk_st_same]; simp; omega), if_neg (by omega)]
  have hb : (more s0 m n s rs).begin = (0, more s0 m n s rs) := rfl
  rw [hb]
  simp only [ne_eq, not_true_eq_false, if_false]
  rw [if_neg (by omega)]
  unfold Dsk.do more
  congr 1
  rw [Dsk.mk.injEq]
  refine ⟨rfl, ?_, ?_, ?_, rfl, rfl, rfl, rfl, rfl⟩
  · exact does_put _ _ _ 0 _ _
  · rw [puts_snoc]
    simp only [List.cons_append, Nat.zero_add]
    have e : n + 1 + (rs.length : Int) + 1 = n + 2 + (rs.length : Int) := by omega
    rw [e]
  · simp
    omega

theorem sync_more (h : Cl s0 m s) : (more s0 m n s rs).sync s = (0, calm ⟨st s0.nm s.data.toList (m + 1), st s0.rw (m + 1) rs⟩ (m + 1) (n + 1 + (rs.length : Int))) := by
  have hf : (more s0 m n s rs).find s = m + 1 := by unfold Dsk.find more; simp only; rw [lk_st_same]; rfl
  have hm := h.pos
  unfold Dsk.sync
  rw [hf, if_neg (by omega)]
  have hb : (more s0 m n s rs).begin = (0, more s0 m n s rs) := rfl
  rw [hb]
  simp only [ne_eq, not_true_eq_false, if_false]
  have hn : nms (more s0 m n s rs).l = [(madeStp (m + 1) s).num (n + 1)] := by
    have := nms_puts (m + 1) (n + 2) rs 0
    unfold nms at this ⊢
    simp only [more]
    rw [List.filter_cons, if_pos (by simp [Stp.sec, madeStp, Stp.num]), this]
  have ht : toMake (m + 1) [(madeStp (m + 1) s).num (n + 1)] = 1 := by
    unfold toMake
    simp [List.findIdx?_cons, Stp.makes, madeStp, Stp.num]
  have ho : offN 1 (more s0 m n s rs).l = puts (m + 1) (n + 2) rs 0 := by
    simp only [more, offN]
    rw [if_neg (by simp [Stp.sec, madeStp, Stp.num])]
  unfold Dsk.settled
  rw [hn, ht, ho, scs_puts, offS_puts]
  simp only [List.take_succ_cons, List.take_zero, List.foldl_cons, List.foldl_nil]
  have e1 : (more s0 m n s rs).dur = s0 := rfl
  rw [e1, h.makes]
  have e2 := fold_puts (st s0.nm s.data.toList (m + 1)) s0.rw (m + 1) (n + 2) rs []
  simp only [List.length_nil, List.nil_append] at e2
  rw [e2]
  rfl

/-- Rows of sectors. -/
def Gx (rs : List (List Int)) : Prop := rs.length ≤ 4096 ∧ ∀ x ∈ rs, x.length = 64 ∧ ∀ z ∈ x, 0 ≤ z ∧ z ≤ 255

theorem Sm.st {s0 : Shp} {K : Nat} (h : Sm s0 K) {k : List UInt8} {f : Int} (hf : I6 f) {rs : List (List Int)} (hr : Gx rs) : Sm ⟨st s0.nm k f, st s0.rw f rs⟩ (K + 1) := by
  refine ⟨Nat.le_trans (st_le _ _ _) (by have := h.nm; omega), Nat.le_trans (st_le _ _ _) (by have := h.rw; omega), fun p hp => ?_, fun p hp => ?_⟩
  · unfold Go.Proofs.Ytikhgjnjlkaobaa.st dl at hp
    rcases List.mem_append.1 hp with hp | hp
    · exact h.file p ((List.mem_filter.1 hp).1)
    · simp only [List.mem_singleton] at hp
      subst hp
      exact hf
  · unfold Go.Proofs.Ytikhgjnjlkaobaa.st dl at hp
    rcases List.mem_append.1 hp with hp | hp
    · exact h.row p ((List.mem_filter.1 hp).1)
    · simp only [List.mem_singleton] at hp
      subst hp
      exact hr

theorem file_st {s0 : Shp} (h : ∀ p ∈ s0.nm, 0 ≤ p.2) {k : List UInt8} {f : Int} (hf : 0 ≤ f) : ∀ p ∈ st s0.nm k f, 0 ≤ p.2 := by
  intro p hp
  unfold st dl at hp
  rcases List.mem_append.1 hp with hp | hp
  · exact h p ((List.mem_filter.1 hp).1)
  · simp only [List.mem_singleton] at hp
    subst hp
    exact hf

theorem few_calm {K : Nat} (h : Sm s0 K) (hK : K < 1000) (hm : 0 ≤ m ∧ m ≤ 1000) (hn : n ≤ 10000) (hp : ∀ p ∈ s0.nm, 0 ≤ p.2) : Few (calm s0 m n) K :=
  ⟨h, h, by omega, by simp only [calm]; omega, by simp only [calm]; omega, hp⟩

theorem few_more {K : Nat} (h : Sm s0 K) (hK : K < 1000) (hm : 0 ≤ m ∧ m ≤ 1000) (hn : n ≤ 10000) (hp : ∀ p ∈ s0.nm, 0 ≤ p.2) (hr : Gx rs) : Few (more s0 m n s rs) (K + 1) :=
  ⟨Sm.st h ⟨by omega, by omega⟩ hr, ⟨Nat.le_trans h.nm (by omega), Nat.le_trans h.rw (by omega), h.file, h.row⟩, by omega, by have := hr.1; simp only [more]; omega, by simp only [more]; omega, file_st hp (by omega)⟩
end

end Go.Proofs.Ytikhgjnjlkaobaa

/-
  FileWhole, walked: a file that is put whole under another name, synced and renamed is behind any crash the old one or the new one.
-/
namespace Go.Proofs.Ytikhgjnjlkaobaa
open Go.RowKit
set_option maxRecDepth 100000
set_option maxRecDepth 100000
set_option linter.unusedVariables false

/-- A sector of one byte. -/
def sec64 (b : Int) : List Int := List.replicate 64 b

theorem fill_any (b : Int) (w : World) : Calls Try.prog 10 #[.int .u8 b, .int .i64 0] w fun e w' => ∃ v, e = .returned v ∧ w'.ownsRow w.heap.size 5 1 v 64 (U (sec64 b)) ∧ Below w.heap.size w w' := by
  have h := filled_any b 0 (by omega) w
  rw [fz0] at h
  exact h

/-- A row beside a disk grows by another row. -/
theorem append_beside {w W : World} {v x : Value} {us : List Value} {R : Nat} {d : Dsk} {n m base' : Nat} {xs ys : List Value} (h : Ax w (v :: us) R d W) (ho : W.ownsRow w.heap.size 5 1 v n xs) (hx : W.ownsRow base' 5 1 x m ys) (h1 : ∀ u ∈ ys, u.oneCell' = true) (hb : n + m ≤ 1000000)
    (hne : ∀ u ∈ us, ∀ g, u.ownBlock = some g → v.ownBlock ≠ some g) :
    ∃ v' W', (Builtin.append_ #[28, 28] 28 #[v, x]).run Try.prog W = .ok v' W' ∧ W'.ownsRow w.heap.size 5 1 v' (n + m) (xs ++ ys) ∧ Ax w (v' :: us) R d W' ∧ Kr us W W' ∧ ∀ u ∈ us, ∀ g, u.ownBlock = some g → v'.ownBlock ≠ some g := by
  obtain ⟨i0, hi, hz0, hz1, hz2⟩ := info_parts info5
  have hs := h.below.size
  obtain ⟨v', W', hr, ho', hg, hw⟩ := run_append_rows (P := Try.prog) (w := W) w.heap.size 28 28 5 i0 (.int .u8 0) 1 1 Try.underlying28 hi hz0 hz1 hz2 rfl (by omega) v n xs ho x m ys base' hx h1 (by unfold maxLen; omega) (by omega) hs
  have hG := h.grow hg (fun g e => (ho.lt g e).1) hw (fun g e => row_lt ho' e) hne
  refine ⟨v', W', hr, ho', hG.1, hG.2, fun u hu g hgu e => ?_⟩
  rcases hw with h2 | h2
  · rw [h2] at e
    exact hne u hu g hgu e
  · obtain ⟨L, _, _, h3, _⟩ := h
    have := (h3 u (by simp [hu]) g hgu).1
    rw [h2] at e
    cases e
    omega

/-- A disk with a file upon it, or none. -/
def upon (s0 : Shp) (m n : Int) (s : ByteArray) (rs : List (List Int)) : Dsk := if rs = [] then calm s0 m n else more s0 m n s rs

section
variable {s0 : Shp} {m n : Int} {s : ByteArray} {rs : List (List Int)} {r : List Int}

theorem put_upon (h : Cl s0 m s) (hs : 1 ≤ s.size ∧ s.size ≤ 64) (hr : rs.length < 4096) : (upon s0 m n s rs).put s (rs.length : Int) 64 r = (0, upon s0 m n s (rs ++ [r])) := by
  have e2 : upon s0 m n s (rs ++ [r]) = more s0 m n s (rs ++ [r]) := if_neg (by simp)
  rw [e2]
  unfold upon
  by_cases e : rs = []
  · subst e
    rw [if_pos rfl]
    exact put_first h hs
  · rw [if_neg e]
    exact put_next h hs hr

theorem rows_upon (h : Cl s0 m s) : ((lk (upon s0 m n s rs).std.rw ((upon s0 m n s rs).find s)).getD []).length = rs.length := by
  unfold upon
  by_cases e : rs = []
  · subst e
    rw [if_pos rfl]
    have hf : (calm s0 m n).find s = 0 := by unfold Dsk.find calm; rw [h.nm]; rfl
    rw [hf]
    simp only [calm]
    rw [h.no]
    rfl
  · rw [if_neg e]
    have hf : (more s0 m n s rs).find s = m + 1 := by unfold Dsk.find more; simp only; rw [lk_st_same]; rfl
    rw [hf]
    simp only [more]
    rw [lk_st_same]
    rfl

theorem room_upon (h : Cl s0 m s) (hr : rs.length < 4096) : ¬ ((rs.length : Int) = 4096 ∨ ((upon s0 m n s rs).find s = 0 ∧ 256 ≤ (upon s0 m n s rs).std.nm.length)) := by
  have hp := h.pos
  have hf := h.few
  rintro (e | ⟨e1, e2⟩)
  · omega
  · unfold upon at e1 e2
    by_cases e : rs = []
    · rw [if_pos e] at e2
      simp only [calm] at e2
      omega
    · rw [if_neg e] at e1
      have hf : (more s0 m n s rs).find s = m + 1 := by unfold Dsk.find more; simp only; rw [lk_st_same]; rfl
      omega

theorem few_upon {K : Nat} (h : Sm s0 K) (hK : K < 999) (hm : 0 ≤ m ∧ m ≤ 1000) (hn : n ≤ 10000) (hp : ∀ p ∈ s0.nm, 0 ≤ p.2) (hr : Gx rs) : Few (upon s0 m n s rs) (K + 1) := by
  unfold upon
  split
  · have h2 := few_calm (m := m) (n := n) (s0 := s0) (K := K + 1) ⟨Nat.le_trans h.nm (by omega), Nat.le_trans h.rw (by omega), h.file, h.row⟩ (by omega) hm hn hp
    exact h2
  · exact few_more h (by omega) hm hn hp hr
end

def fS : ByteArray := ⟨#[102]⟩
def tS : ByteArray := ⟨#[116]⟩
def sA (A : List (List Int)) : Shp := ⟨[([102], 1)], [(1, A)]⟩
def sB (A B : List (List Int)) : Shp := ⟨[([102], 1), ([116], 2)], [(1, A), (2, B)]⟩
def sC (B : List (List Int)) : Shp := ⟨[([102], 2)], [(2, B)]⟩

theorem cl0 : Cl ⟨[], []⟩ 0 fS := ⟨by decide, rfl, rfl, rfl, by decide⟩
theorem cl0t : Cl ⟨[], []⟩ 0 tS := ⟨by decide, rfl, rfl, rfl, by decide⟩
theorem clA (A : List (List Int)) : Cl (sA A) 1 tS := ⟨by decide, rfl, rfl, rfl, by simp [sA]⟩
theorem st0 (A : List (List Int)) : (⟨st [] fS.data.toList (0 + 1), st [] (0 + 1) A⟩ : Shp) = sA A := rfl
theorem stA (A B : List (List Int)) : (⟨st (sA A).nm tS.data.toList (1 + 1), st (sA A).rw (1 + 1) B⟩ : Shp) = sB A B := rfl

theorem ren_B (A B : List (List Int)) (m n : Int) : (calm (sB A B) m n).rename tS fS = (0, ⟨sB A B, sC B, [(renStp 2 tS fS).num (n + 1)], n + 1, m, false, -1, -1, 0⟩) := rfl
theorem named_B (A B : List (List Int)) (m n : Int) : (⟨sB A B, sC B, [(renStp 2 tS fS).num (n + 1)], n + 1, m, false, -1, -1, 0⟩ : Dsk).syncNames = (0, ⟨sC B, sC B, [], n + 1, m, false, -1, -1, 0⟩) := rfl

end Go.Proofs.Ytikhgjnjlkaobaa

/-
  Cut, Remove, Rename, Read on a disk of one's own, whether the file is there or not; name.
-/
namespace Go.Proofs.Ytikhgjnjlkaobaa
open Go.RowKit
set_option maxRecDepth 100000
set_option maxRecDepth 100000
set_option linter.unusedVariables false

section
variable {w W V : World} {R : Nat} {d : Dsk} {vs : List Value} {K : Nat} {s t : ByteArray}

theorem ax_cut_any {n : Int} (h : Ax w vs R d W) (hb : Bd d K) (hK : K < 800000) (hs : s.size ≤ 64) (hn0 : 0 ≤ n) (hn : n ≤ ((lk d.std.rw (d.find s)).getD []).length) :
    Calls Try.prog 18 #[.pointer (some ⟨R, 0, none⟩), .string s, .int .i64 n] W fun e w' => (∃ x, e = .returned (.int .i64 x)) ∧ Ax w vs R (d.cut s n).2 w' ∧ Kr vs W w' := by
  have hax := h
  obtain ⟨L, ⟨o, a1, a2⟩, a3, a6, a5⟩ := h
  have hf := hb.few (by omega)
  have hk := hf.k
  by_cases h0 : d.find s = 0
  · refine (cut_no a1 (by omega) h0).mono ?_
    rintro e w' ⟨rfl, rfl⟩
    refine ⟨⟨_, rfl⟩, ?_, fun v hv base size n e xs ho => ho⟩
    have e2 : (d.cut s n).2 = d := by unfold Dsk.cut; rw [if_pos h0]
    rw [e2]
    exact hax
  · have := (hb.find s).1
    refine (cut_go a1 a2 hf.std (by omega) hf.last hs (by omega) hn0 hn).mono ?_
    rintro e w' ⟨rfl, L', b1, b2, b3⟩
    exact ⟨⟨_, rfl⟩, Ax.step a3 a6 a5 b1 b2 b3⟩

theorem ax_remove_any (h : Ax w vs R d W) (hb : Bd d K) (hK : K < 800000) (hs : s.size ≤ 64) :
    Calls Try.prog 19 #[.pointer (some ⟨R, 0, none⟩), .string s] W fun e w' => (∃ x, e = .returned (.int .i64 x)) ∧ Ax w vs R (d.remove s).2 w' ∧ Kr vs W w' := by
  have hax := h
  obtain ⟨L, ⟨o, a1, a2⟩, a3, a6, a5⟩ := h
  have hf := hb.few (by omega)
  have hk := hf.k
  by_cases h0 : d.find s = 0
  · refine (remove_no a1 (by omega) h0).mono ?_
    rintro e w' ⟨rfl, rfl⟩
    refine ⟨⟨_, rfl⟩, ?_, fun v hv base size n e xs ho => ho⟩
    have e2 : (d.remove s).2 = d := by unfold Dsk.remove; rw [if_pos h0]
    rw [e2]
    exact hax
  · have := (hb.find s).1
    refine (remove_go a1 a2 hf.std (by omega) hf.last hs (by omega)).mono ?_
    rintro e w' ⟨rfl, L', b1, b2, b3⟩
    exact ⟨⟨_, rfl⟩, Ax.step a3 a6 a5 b1 b2 b3⟩

theorem ax_rename_any (h : Ax w vs R d W) (hb : Bd d K) (hK : K < 800000) (hs : s.size ≤ 64) (ht : 1 ≤ t.size ∧ t.size ≤ 64) :
    Calls Try.prog 16 #[.pointer (some ⟨R, 0, none⟩), .string s, .string t] W fun e w' => (∃ x, e = .returned (.int .i64 x)) ∧ Ax w vs R (d.rename s t).2 w' ∧ Kr vs W w' := by
  have hax := h
  obtain ⟨L, ⟨o, a1, a2⟩, a3, a6, a5⟩ := h
  have hf := hb.few (by omega)
  have hk := hf.k
  by_cases h0 : d.find s = 0
  · refine (rename_no a1 (by omega) ht h0).mono ?_
    rintro e w' ⟨rfl, rfl⟩
    refine ⟨⟨_, rfl⟩, ?_, fun v hv base size n e xs ho => ho⟩
    have e2 : (d.rename s t).2 = d := by unfold Dsk.rename; rw [if_neg (by simpa using ht), if_pos h0]
    rw [e2]
    exact hax
  · have := (hb.find s).1
    refine (rename_go a1 a2 hf.std (by omega) hf.last hs ht (by omega)).mono ?_
    rintro e w' ⟨rfl, L', b1, b2, b3⟩
    exact ⟨⟨_, rfl⟩, Ax.step a3 a6 a5 b1 b2 b3⟩

/-- A file's sectors. -/
def Dsk.rows (d : Dsk) (s : ByteArray) : List (List Int) := (lk d.std.rw (d.find s)).getD []

theorem Bd.rows (hb : Bd d K) (s : ByteArray) : ∀ x ∈ d.rows s, x.length = 64 ∧ ∀ z ∈ x, 0 ≤ z ∧ z ≤ 255 := by
  intro x hx
  unfold Dsk.rows at hx
  cases hl : lk d.std.rw (d.find s) with
  | none => rw [hl] at hx; simp at hx
  | some r =>
    rw [hl] at hx
    exact (hb.std.row _ (lk_mem hl)).2 x hx

theorem flat_64 {rs : List (List Int)} (h : ∀ x ∈ rs, x.length = 64) : rs.flatten.length = 64 * rs.length := by
  induction rs with
  | nil => rfl
  | cons x rs ih =>
    have h1 := h x (by simp)
    have h2 := ih (fun y hy => h y (by simp [hy]))
    simp only [List.flatten_cons, List.length_append, List.length_cons, h1, h2]
    omega

/-- What is read has 64 bytes a sector; none where there is no file. -/
theorem ax_read_any (h : Ax w vs R d W) (hb : Bd d K) (hK : K < 800000) (hs : s.size ≤ 64) :
    Calls Try.prog 13 #[.pointer (some ⟨R, 0, none⟩), .string s] W fun e w' => ∃ a n c x, e = .returned (.tuple #[.slice a n c, .int .i64 x]) ∧ (d.find s ≠ 0 → n = 64 * (d.rows s).length) ∧ (d.find s = 0 → n = 0) ∧ n ≤ c ∧ c ≤ 9223372036854775807 ∧ Tb (fun _ => False) W w' := by
  obtain ⟨L, ⟨o, a1, a2⟩, a3, a6, a5⟩ := h
  have hf := hb.few (by omega)
  by_cases h0 : d.find s = 0
  · refine (read_no a1 (by omega) h0).mono ?_
    rintro e w' ⟨rfl, rfl⟩
    exact ⟨none, 0, 0, _, rfl, fun h => absurd h0 h, fun _ => rfl, Nat.le_refl _, by omega, Tb.refl _ _⟩
  · refine (read_yes a1 a2 hf.std (by omega) h0 hb.calm.1).mono ?_
    rintro e w' ⟨v, rfl, r, b⟩
    obtain ⟨a, c, rfl⟩ := row_val r
    have hc : (d.bytes s).length ≤ c ∧ c ≤ 9223372036854775807 := by
      rcases r.2 with ⟨h1, h2⟩ | ⟨g, c', cur, h1, _, _, h2, h3, _⟩
      · simp only [Value.slice.injEq] at h1; omega
      · simp only [Value.slice.injEq] at h1; unfold maxLen at h3; omega
    exact ⟨a, _, c, _, rfl, fun _ => flat_64 (fun x hx => (hb.rows s x hx).1), fun h => absurd h h0, hc.1, hc.2, Tb.of_fresh b⟩
end

/-- The three names. -/
def nmS (k : Nat) : ByteArray := strOfNums [97 + (k : Int)]
theorem nmS_size (k : Nat) : (nmS k).size = 1 := rfl
theorem nmS_list (k : Nat) : (nmS k).data.toList.length = 1 := rfl

set_option maxHeartbeats 1000000 in
theorem name_any (n : Nat) (hn : n ≤ 1000000000) (w : World) : Calls Try.prog 28 #[.int .i64 (n : Int)] w fun e w' => e = .returned (.string (nmS (n % 3))) ∧ Tb (fun _ => False) w w' := by
  have hB := row_lit w _ rfl [97 + (n : Int) % 3] 1 rfl (by omega) (fun z hz => by simp only [List.mem_singleton] at hz; omega)
  have k1 : (convert 28 9 (.slice (some ⟨w.heap.size, 0, none⟩) 1 1)).run Try.prog (w.alloc (.cells #[.int .u8 (97 + (n : Int) % 3)] 5)) = .ok (.string (strOfNums [97 + (n : Int) % 3])) (w.alloc (.cells #[.int .u8 (97 + (n : Int) % 3)] 5)) := run_str 28 5 Try.underlying28 Try.underlying5 hB 9 Try.underlying9
  clear hB
  go_enter Try.func28, Try.ntmps28
  go_wp2_with fail
  go_ret
  exact ⟨rfl, (Tb.refl _ _).alloc _⟩

end Go.Proofs.Ytikhgjnjlkaobaa

/-
  What 'call' does to a disk: one of four calls upon one of three names.
-/
namespace Go.Proofs.Ytikhgjnjlkaobaa
open Go.RowKit
set_option maxRecDepth 100000
set_option maxRecDepth 100000
set_option linter.unusedVariables false

/-- What a call may have done. -/
def Did (d d' : Dsk) : Prop := ∃ (i j : Nat) (at' z : Int), (d' = (d.cut (nmS i) at').2 ∧ at' ≤ 4096) ∨ d' = (d.rename (nmS i) (nmS j)).2 ∨ d' = (d.remove (nmS i)).2 ∨ (d' = (d.put (nmS i) at' 64 (sec64 z)).2 ∧ (0 ≤ at' ∧ at' ≤ 12) ∧ 0 ≤ z ∧ z ≤ 255)

theorem sec64_len (z : Int) : (sec64 z).length = 64 := by simp [sec64]
theorem sec64_by {z : Int} (h : 0 ≤ z ∧ z ≤ 255) : ∀ y ∈ sec64 z, 0 ≤ y ∧ y ≤ 255 := fun y hy => by rw [(List.mem_replicate.1 hy).2]; exact h

theorem Did.bd {d d' : Dsk} {K : Nat} (h : Did d d') (hb : Bd d K) (hK : K < 800000) : Bd d' (K + 3) := by
  obtain ⟨i, j, at', z, ⟨rfl, h1⟩ | rfl | rfl | ⟨rfl, h1, h2⟩⟩ := h
  · exact hb.cut (by omega) h1
  · exact hb.rename (by omega) (by rw [nmS_size]; omega) (by rw [nmS_size]; omega)
  · exact hb.remove (by omega) (by rw [nmS_size]; omega)
  · exact hb.put hK (by rw [nmS_size]; omega) ⟨h1.1, by omega⟩ (sec64_len z) (sec64_by h2)

theorem Did.safe {d d' : Dsk} {κ : List UInt8} {g : Int} {rs : List (List Int)} (h : Did d d') (hs : Safe κ g rs d) (hk : κ.length ≠ 1) : Safe κ g rs d' := by
  have hn : ∀ i, (nmS i).data.toList ≠ κ := fun i e => hk (by rw [← e]; exact nmS_list i)
  obtain ⟨i, j, at', z, ⟨rfl, h1⟩ | rfl | rfl | ⟨rfl, h1, h2⟩⟩ := h
  · exact hs.cut (hn i) at'
  · exact hs.rename (hn i) (hn j)
  · exact hs.remove (hn i)
  · exact hs.put (hn i) _ _ _

set_option maxHeartbeats 4000000 in
theorem call_any {w W : World} {R : Nat} {d : Dsk} {vs : List Value} {K : Nat} (n : Nat) (hn : n < 1000003) (h : Ax w vs R d W) (hb : Bd d K) (hK : K < 800) (hN : d.std.nm.length < 256) :
    Calls Try.prog 25 #[.pointer (some ⟨R, 0, none⟩), .int .i64 (n : Int)] W fun e w' => e = .returned (.tuple #[]) ∧ ∃ d', Did d d' ∧ Ax w vs R d' w' ∧ Kr vs W w' := by
  have CN := name_any (n / 10) (by omega) W
  have H := hide h
  have HB := hide hb
  have HNM := hide hN
  clear h hb hN
  go_enter Try.func25, Try.ntmps25
  go_wp2_with fail
  rw [show ((n : Int) / 10) = ((n / 10 : Nat) : Int) by omega]
  refine CN.mono ?_
  rintro e w1 ⟨rfl, t1⟩
  obtain ⟨i, hi⟩ : ∃ i, i = n / 10 % 3 := ⟨_, rfl⟩
  rw [← hi]
  clear hi
  have H1 := hide (H.out.kept t1)
  have K1 : Hid (Kr vs W w1) := hide (Kr.fresh t1)
  have CR := ax_read_any (s := nmS i) H1.out HB.out (by omega) (by rw [nmS_size]; omega)
  clear t1 H CN
  go_wp2_with fail
  refine CR.mono ?_
  rintro e w2 ⟨a2, m2, c2, x2, rfl, hm1, hm2, hmc, hcc, t2⟩
  have H2 := hide (H1.out.kept t2)
  have K2 : Hid (Kr vs W w2) := hide (K1.out.trans (Kr.fresh t2))
  obtain ⟨r, hr, hrl, hr4⟩ : ∃ r : Nat, m2 = 64 * r ∧ r ≤ ((lk d.std.rw (d.find (nmS i))).getD []).length ∧ r ≤ 4096 := by
    by_cases h0 : d.find (nmS i) = 0
    · exact ⟨0, by rw [hm2 h0], by omega, by omega⟩
    · refine ⟨_, hm1 h0, Nat.le_refl _, ?_⟩
      unfold Dsk.rows
      cases hl : lk d.std.rw (d.find (nmS i)) with
      | none => simp
      | some rr => exact (HB.out.std.row _ (lk_mem hl)).1
  have HRL := hide hrl
  subst hr
  clear hm1 hm2 CR K1 H1 t2 hrl
  have hq : ((64 * r : Nat) : Int) / 64 = (r : Int) := by omega
  have HQ := hide hq
  clear hq
  obtain ⟨q, hq1, hq2⟩ : ∃ q : Nat, ((n : Int) / 30) % ((r : Int) + 1) = (q : Int) ∧ q ≤ r := by
    have h1 := Int.emod_nonneg ((n : Int) / 30) (show ((r : Int) + 1) ≠ 0 by omega)
    have h2 := Int.emod_lt_of_pos ((n : Int) / 30) (show (0 : Int) < (r : Int) + 1 by omega)
    obtain ⟨q, hq⟩ := Int.eq_ofNat_of_zero_le h1
    exact ⟨q, hq, by omega⟩
  have HQ1 := hide hq1
  clear hq1
  by_cases k0 : n % 10 = 0
  · have d0 : ((n : Int) % 10 == 0) = true := by simp; omega
    have CC := ax_cut_any (s := nmS i) (n := (q : Int)) H2.out HB.out (by omega) (by rw [nmS_size]; omega) (by omega) (by have := HRL.out; omega)
    go_wp2_with fail
    rw [HQ1.out]
    refine CC.mono ?_
    rintro e w3 ⟨⟨x3, rfl⟩, h3, k3⟩
    have H3 := hide h3
    have K3 := hide k3
    clear h3 k3 CC
    go_wp2_with fail
    refine bodyPost_end (results_none rfl _ _ _) rfl ?_
    exact ⟨rfl, _, ⟨i, 0, q, 0, .inl ⟨rfl, by omega⟩⟩, H3.out, K2.out.trans K3.out⟩
  · have d0 : ((n : Int) % 10 == 0) = false := by simp; omega
    by_cases k1 : n % 10 = 1
    · have d1 : ((n : Int) % 10 == 1) = true := by simp; omega
      have CN := name_any (n / 30) (by omega) w2
      go_wp2_with fail
      rw [show ((n : Int) / 30) = ((n / 30 : Nat) : Int) by omega]
      refine CN.mono ?_
      rintro e w3 ⟨rfl, t3⟩
      obtain ⟨j, hj⟩ : ∃ j, j = n / 30 % 3 := ⟨_, rfl⟩
      rw [← hj]
      clear hj
      have CC := ax_rename_any (s := nmS i) (t := nmS j) (H2.out.kept t3) HB.out (by omega) (by rw [nmS_size]; omega) (by rw [nmS_size]; omega)
      have K3 : Hid (Kr vs W w3) := hide (K2.out.trans (Kr.fresh t3))
      clear CN t3
      go_wp2_with fail
      refine CC.mono ?_
      rintro e w4 ⟨⟨x4, rfl⟩, h4, k4⟩
      have H4 := hide h4
      have K4 := hide k4
      clear h4 k4 CC
      go_wp2_with fail
      refine bodyPost_end (results_none rfl _ _ _) rfl ?_
      exact ⟨rfl, _, ⟨i, j, 0, 0, .inr (.inl rfl)⟩, H4.out, K3.out.trans K4.out⟩
    · have d1 : ((n : Int) % 10 == 1) = false := by simp; omega
      by_cases k2 : n % 10 = 2
      · have d2 : ((n : Int) % 10 == 2) = true := by simp; omega
        have CC := ax_remove_any (s := nmS i) H2.out HB.out (by omega) (by rw [nmS_size]; omega)
        go_wp2_with fail
        refine CC.mono ?_
        rintro e w4 ⟨⟨x4, rfl⟩, h4, k4⟩
        have H4 := hide h4
        have K4 := hide k4
        clear h4 k4 CC
        go_wp2_with fail
        refine bodyPost_end (results_none rfl _ _ _) rfl ?_
        exact ⟨rfl, _, ⟨i, 0, 0, 0, .inr (.inr (.inl rfl))⟩, H4.out, K2.out.trans K4.out⟩
      · have d2 : ((n : Int) % 10 == 2) = false := by simp; omega
        obtain ⟨mn, hmn, hm1, hm2⟩ : ∃ mn : Nat, (if (12 : Int) < (n : Int) / 30 % ((r : Int) + 1) then (12 : Int) else (n : Int) / 30 % ((r : Int) + 1)) = (mn : Int) ∧ mn ≤ 12 ∧ mn ≤ r := by
          rw [HQ1.out]
          refine ⟨min q 12, ?_, by omega, by omega⟩
          split <;> omega
        have kmin : ∀ w', (Builtin.min_ #[3, 3] 3 #[.int .i64 ((n : Int) / 30 % ((r : Int) + 1)), .int .i64 12]).run Try.prog w' = .ok (.int .i64 (mn : Int)) w' := fun w' => by rw [run_min_int2, hmn]
        have HMN := hide hmn
        clear hmn
        go_wp2_with fail
        refine wp_region_held_drew (S := fun V => True) (by kernel_rfl) trivial (fun hHeld => ?_)
        try simp only [List.size_toArray, List.length_cons, List.length_nil, Nat.reduceAdd]
        refine wpAnyH_take (i := 0) (v := (.pointer (some ⟨R, 0, none⟩))) rfl (by kernel_rfl) (by kernel_rfl) (by kernel_rfl) (fun _ _ _ h => h) (Or.inl ⟨by rfl, ?hy⟩) hHeld ?_
        case hy => (intro V hV; go_simp)
        simp only [Act.put]
        refine wpAnyH_take (i := 1) (v := (.string (nmS i))) rfl (by kernel_rfl) (by kernel_rfl) (by kernel_rfl) (fun _ _ _ h => h) (Or.inl ⟨by rfl, ?hy⟩) hHeld ?_
        case hy => (intro V hV; go_simp)
        simp only [Act.put]
        refine wpAnyH_take (i := 2) (v := (.int .i64 (n : Int))) rfl (by kernel_rfl) (by kernel_rfl) (by kernel_rfl) (fun _ _ _ h => h) (Or.inl ⟨by rfl, ?hy⟩) hHeld ?_
        case hy => (intro V hV; go_simp)
        simp only [Act.put]
        refine wpAnyH_take (i := 3) (v := (.int .i64 ((n : Int) / 30))) rfl (by kernel_rfl) (by kernel_rfl) (by kernel_rfl) (fun _ _ _ h => h) (Or.inl ⟨by rfl, ?hy⟩) hHeld ?_
        case hy => (intro V hV; go_simp; rw [IntKind.wrap_i64]; omega)
        simp only [Act.put]
        refine wpAnyH_take (i := 4) (v := (.int .i64 (r : Int))) rfl (by kernel_rfl) (by kernel_rfl) (by kernel_rfl) (fun _ _ _ h => h) (Or.inl ⟨by rfl, ?hy⟩) hHeld ?_
        case hy => (intro V hV; go_simp)
        simp only [Act.put]
        refine wpAnyH_take (i := 5) (v := (.int .i64 ((r : Int) + 1))) rfl (by kernel_rfl) (by kernel_rfl) (by kernel_rfl) (fun _ _ _ h => h) (Or.inl ⟨by rfl, ?hy⟩) hHeld ?_
        case hy => (intro V hV; go_simp; rw [IntKind.wrap_i64]; omega)
        simp only [Act.put]
        refine wpAnyH_take (i := 6) (v := (.int .i64 ((n : Int) / 30 % ((r : Int) + 1)))) rfl (by kernel_rfl) (by kernel_rfl) (by kernel_rfl) (fun _ _ _ h => h) (Or.inl ⟨by rfl, ?hy⟩) hHeld ?_
        case hy => (intro V hV; go_simp; rw [if_neg (by omega), Int.tmod_eq_emod_of_nonneg (by omega)])
        simp only [Act.put]
        refine wpAnyH_take (i := 7) (v := (.int .i64 (mn : Int))) rfl (by kernel_rfl) (by kernel_rfl) (by kernel_rfl) (fun _ _ _ h => h) (Or.inl ⟨by rfl, ?hy⟩) hHeld ?_
        case hy => (intro V hV; go_simp)
        simp only [Act.put]
        refine wpAnyH_take (i := 8) (v := (.int .i64 (n : Int))) rfl (by kernel_rfl) (by kernel_rfl) (by kernel_rfl) (fun _ _ _ h => h) (Or.inl ⟨by rfl, ?hy⟩) hHeld ?_
        case hy => (intro V hV; go_simp)
        simp only [Act.put]
        refine wpAnyH_take (i := 9) (v := (.int .i64 ((n : Int) / 7))) rfl (by kernel_rfl) (by kernel_rfl) (by kernel_rfl) (fun _ _ _ h => h) (Or.inl ⟨by rfl, ?hy⟩) hHeld ?_
        case hy => (intro V hV; go_simp; rw [IntKind.wrap_i64]; omega)
        simp only [Act.put]
        refine wpAnyH_take (i := 10) (v := (.int .u8 ((n : Int) / 7 % 256))) rfl (by kernel_rfl) (by kernel_rfl) (by kernel_rfl) (fun _ _ _ h => h) (Or.inl ⟨by rfl, ?hy⟩) hHeld ?_
        case hy => (intro V hV; go_simp; exact IntKind.wrap_u8 _)
        simp only [Act.put]
        have hz : 0 ≤ (n : Int) / 7 % 256 ∧ (n : Int) / 7 % 256 ≤ 255 := by omega
        have HZ := hide hz
        clear hz
        obtain ⟨z, hzz⟩ : ∃ z, z = (n : Int) / 7 % 256 := ⟨_, rfl⟩
        rw [← hzz] at HZ ⊢
        clear hzz
        have H3 := hide (H2.out.kept (Tb.refl _ w2).drew)
        have K3 : Hid (Kr vs W w2.drew) := hide (K2.out.trans (Kr.fresh (Tb.refl _ w2).drew))
        refine wpAnyH_ready (rs := [11]) (by kernel_rfl) (by simp) ?_
        refine AllReadyH.cons rfl (fun K hK => ?_) AllReadyH.nil
        refine step_call rfl 10 #[.int .u8 z, .int .i64 0] (by go_simp) ?_
        refine (fill_any z _).mono ?_
        rintro e w3 ⟨v3, rfl, r3, b3⟩
        refine ⟨_, rfl, ?_⟩
        refine hK.out _ _ trivial (fun hHeld => ?_)
        clear hK K
        try simp only [Act.put]
        have hbk := HB.out
        have CP := ax_put (s := nmS i) (at' := (mn : Int)) H3.out (Tb.of_fresh b3) r3 (sec64_by HZ.out) (hbk.few (by omega)) (by rw [nmS_size]; omega) (by omega) (by have := HRL.out; omega) (by
          have := HNM.out
          omega)
        have K4 : Hid (Kr vs W w3) := hide (K3.out.trans (Kr.fresh (Tb.of_fresh b3)))
        refine wpAnyH_ready (rs := [12]) (by kernel_rfl) (by simp) ?_
        refine AllReadyH.cons rfl (fun K hK => ?_) AllReadyH.nil
        refine step_call rfl 9 #[.pointer (some ⟨R, 0, none⟩), .string (nmS i), .int .i64 (mn : Int), v3] (by go_simp) ?_
        refine CP.mono ?_
        rintro e w4 ⟨rfl, h4, k4⟩
        have H4 := hide h4
        have K5 := hide k4
        clear h4 k4 CP
        refine ⟨_, rfl, ?_⟩
        refine hK.out _ _ trivial (fun hHeld => ?_)
        clear hK K
        try simp only [Act.put]
        refine wpAnyH_done (by kernel_rfl) ?_ _
        go_wp2_with fail
        refine bodyPost_end (results_none rfl _ _ _) rfl ?_
        exact ⟨rfl, _, ⟨i, 0, mn, z, .inr (.inr (.inr ⟨rfl, ⟨by omega, by omega⟩, HZ.out⟩))⟩, H4.out, K4.out.trans K5.out⟩

end Go.Proofs.Ytikhgjnjlkaobaa

/-
  A file that is put on whatever disk, behind a sync of the names, and synced: it is safe.
-/
namespace Go.Proofs.Ytikhgjnjlkaobaa
open Go.RowKit
set_option maxRecDepth 100000
set_option maxRecDepth 100000
set_option linter.unusedVariables false

theorem nms_sec {l : List Stp} (h : nms l = []) : ∀ t ∈ l, t.sec = true := by
  intro t ht
  cases hs : t.sec with
  | true => rfl
  | false =>
    have : t ∈ nms l := List.mem_filter.2 ⟨ht, by simp [hs]⟩
    rw [h] at this
    cases this

section
variable {d : Dsk} {K : Nat}

/-- Behind a sync of the names. -/
theorem Bd.syncNames (h : Bd d K) : d.syncNames = (0, d.named) := by
  unfold Dsk.syncNames
  rw [h.begin]
  simp

theorem Bd.named (h : Bd d K) : Bd d.named (K + K) ∧ nms d.named.l = [] := by
  have hl := h.last
  have hle := h.len
  have hsub : (nms d.l).length ≤ d.l.length := List.length_filter_le _ _
  have hok : ∀ t ∈ nms d.l, t.Ok := fun t ht => (h.ok t (List.mem_filter.1 ht).1).1
  have hn : nms (offN (nms d.l).length d.l) = [] := by rw [nms_offN]; simp
  have hf : ∀ (ts : List Stp), (∀ t ∈ ts, t.Ok ∧ t.file ≤ d.made) → ∀ s : Shp, (∀ p ∈ s.nm, 1 ≤ p.2 ∧ p.2 ≤ d.made) → ∀ p ∈ (ts.foldl Shp.does s).nm, 1 ≤ p.2 ∧ p.2 ≤ d.made := by
    intro ts
    induction ts with
    | nil => exact fun _ _ h => h
    | cons t ts ih => exact fun ht s hs => ih (fun x hx => ht x (by simp [hx])) _ (file_does hs (ht t (by simp)).1 (ht t (by simp)).2)
  refine ⟨⟨h.std.wide (by omega), (fold_sm h.dur _ hok).wide (by omega), by simp only [Dsk.named]; omega, by have := h.made; simp only [Dsk.named]; omega, h.file, hf _ (fun t ht => h.ok t (List.mem_filter.1 ht).1) _ h.filed, fun t ht => h.ok t ((offN_sub _ _).subset ht), h.calm, ?_⟩, hn⟩
  have := (offN_sub (nms d.l).length d.l).length_le
  simp only [Dsk.named]
  omega

/-- A file is being put: κ its name, g its number. -/
structure Puts (κ : ByteArray) (g : Int) (rs : List (List Int)) (d : Dsk) : Prop where
  nm : lk d.std.nm κ.data.toList = some g
  rw : lk d.std.rw g = some rs
  pos : 0 < g
  made : d.made = g
  no : ∀ k, k ≠ κ.data.toList → lk d.std.nm k ≠ some g
  nod : ∀ k, lk d.dur.nm k ≠ some g
  names : ∃ n, nms d.l = [(madeStp g κ).num n]
  sect : ∀ nm l, (scs d.l g).foldl Shp.does ⟨nm, st l g []⟩ = ⟨nm, st l g rs⟩
end

theorem lk_le {s : Shp} {m : Int} (h : ∀ p ∈ s.nm, 1 ≤ p.2 ∧ p.2 ≤ m) {g : Int} (hg : m < g) (k : List UInt8) : lk s.nm k ≠ some g := fun e => by
  have := h _ (lk_mem e)
  simp only at this
  omega

section
variable {d : Dsk} {K : Nat} {κ : ByteArray} {g : Int} {rs : List (List Int)} {r : List Int}

theorem Bd.put_new (h : Bd d K) (hn : nms d.l = []) (hs : 1 ≤ κ.size ∧ κ.size ≤ 64) (h0 : d.find κ = 0) (hf : d.std.nm.length < 256) : (d.put κ 0 64 r).1 = 0 ∧ Puts κ (d.made + 1) [r] (d.put κ 0 64 r).2 := by
  have hm := h.made
  have hsec := nms_sec hn
  have hfil : ∀ t ∈ d.l, t.file ≤ d.made := fun t ht => (h.ok t ht).2
  have e : d.put κ 0 64 r = (0, (({ d with made := d.made + 1 } : Dsk).do (madeStp (d.made + 1) κ)).do (putStp (d.made + 1) 0 r)) := by
    unfold Dsk.put
    rw [h0, if_neg (by omega), if_neg (by omega), h.begin]
    simp
  rw [e]
  have hnd : ∀ k, lk d.dur.nm k ≠ some (d.made + 1) := lk_le h.filed (by omega)
  have hns : ∀ k, lk d.std.nm k ≠ some (d.made + 1) := lk_le h.file (by omega)
  have hscs : scs d.l (d.made + 1) = [] := by
    unfold scs
    rw [List.filter_eq_nil_iff]
    intro t ht
    have := hfil t ht
    simp
    intro _
    omega
  refine ⟨rfl, ?_⟩
  have e1 : d.std.does (madeStp (d.made + 1) κ) = ⟨st (d.std.take κ.data.toList).nm κ.data.toList (d.made + 1), st (d.std.take κ.data.toList).rw (d.made + 1) []⟩ := by
    unfold Shp.does
    exact if_pos rfl
  have e2 : (d.std.does (madeStp (d.made + 1) κ)).does (putStp (d.made + 1) 0 r) = ⟨st (d.std.take κ.data.toList).nm κ.data.toList (d.made + 1), st (d.std.take κ.data.toList).rw (d.made + 1) [r]⟩ := by
    rw [e1]
    exact does_put _ _ _ 0 [] r
  refine ⟨?_, ?_, by omega, rfl, fun k hk => ?_, hnd, ⟨d.last + 1, ?_⟩, fun nm l => ?_⟩
  · show lk ((d.std.does (madeStp (d.made + 1) κ)).does (putStp (d.made + 1) 0 r)).nm _ = _
    rw [e2]
    exact lk_st_same
  · show lk ((d.std.does (madeStp (d.made + 1) κ)).does (putStp (d.made + 1) 0 r)).rw _ = _
    rw [e2]
    exact lk_st_same
  · show lk ((d.std.does (madeStp (d.made + 1) κ)).does (putStp (d.made + 1) 0 r)).nm _ ≠ _
    rw [e2]
    show lk (st (dl d.std.nm κ.data.toList) κ.data.toList (d.made + 1)) k ≠ _
    rw [lk_st_other hk, lk_dl_other hk]
    exact hns k
  · show nms ((d.l ++ [(madeStp (d.made + 1) κ).num (d.last + 1)]) ++ [(putStp (d.made + 1) 0 r).num (d.last + 1 + 1)]) = _
    rw [nms_snoc, if_pos (by simp [Stp.sec, putStp, Stp.num]), nms_snoc, if_neg (by simp [Stp.sec, madeStp, Stp.num]), hn]
    rfl
  · show (scs ((d.l ++ [(madeStp (d.made + 1) κ).num (d.last + 1)]) ++ [(putStp (d.made + 1) 0 r).num (d.last + 1 + 1)]) (d.made + 1)).foldl Shp.does _ = _
    rw [scs_snoc, if_pos (by simp [Stp.sec, putStp, Stp.num]), scs_snoc, if_neg (by simp [Stp.sec, madeStp, Stp.num]), hscs]
    simp only [List.nil_append, List.foldl_cons, List.foldl_nil]
    exact does_put nm l (d.made + 1) (d.last + 1 + 1) [] r

theorem Puts.next (h : Puts κ g rs d) (hb : Bd d K) (hs : 1 ≤ κ.size ∧ κ.size ≤ 64) (hr : rs.length < 4096) : (d.put κ (rs.length : Int) 64 r).1 = 0 ∧ Puts κ g (rs ++ [r]) (d.put κ (rs.length : Int) 64 r).2 := by
  have hf : d.find κ = g := by unfold Dsk.find; rw [h.nm]; rfl
  have hg := h.pos
  have e : d.put κ (rs.length : Int) 64 r = (0, d.do (putStp g (rs.length : Int) r)) := by
    unfold Dsk.put
    rw [hf, h.rw, if_neg (by simp; omega), if_neg (by omega), hb.begin]
    simp only [ne_eq, not_true_eq_false, if_false]
    rw [if_neg (by omega)]
  rw [e]
  refine ⟨rfl, ?_⟩
  have e2 : d.std.does (putStp g (rs.length : Int) r) = ⟨d.std.nm, st d.std.rw g (rs ++ [r])⟩ := by
    unfold Shp.does
    rw [if_neg (by simp [putStp]), if_pos (by simp [putStp])]
    simp only [putStp, Shp.put]
    rw [h.rw]
    simp only [Int.toNat_natCast]
    rw [putIn_last]
  obtain ⟨n, hn⟩ := h.names
  refine ⟨?_, ?_, hg, h.made, fun k hk => ?_, h.nod, ⟨n, ?_⟩, fun nm l => ?_⟩
  · show lk (d.std.does (putStp g (rs.length : Int) r)).nm _ = _
    rw [e2]
    exact h.nm
  · show lk (d.std.does (putStp g (rs.length : Int) r)).rw _ = _
    rw [e2]
    exact lk_st_same
  · show lk (d.std.does (putStp g (rs.length : Int) r)).nm _ ≠ _
    rw [e2]
    exact h.no k hk
  · show nms (d.l ++ [(putStp g (rs.length : Int) r).num (d.last + 1)]) = _
    rw [nms_snoc, if_pos (by simp [Stp.sec, putStp, Stp.num]), hn]
  · show (scs (d.l ++ [(putStp g (rs.length : Int) r).num (d.last + 1)]) g).foldl Shp.does _ = _
    rw [scs_snoc, if_pos (by simp [Stp.sec, putStp, Stp.num]), List.foldl_append, h.sect nm l]
    simp only [List.foldl_cons, List.foldl_nil]
    exact does_put nm l g _ rs r

/-- Behind the sync it is safe. -/
theorem Puts.safe (h : Puts κ g rs d) (hb : Bd d K) : (d.sync κ).1 = 0 ∧ Safe κ.data.toList g rs (d.sync κ).2 := by
  have hf : d.find κ = g := by unfold Dsk.find; rw [h.nm]; rfl
  have hg := h.pos
  obtain ⟨n, hn⟩ := h.names
  have e : d.sync κ = (0, d.settled g) := by
    unfold Dsk.sync
    rw [hf, if_neg (by omega), hb.begin]
    simp
  rw [e]
  refine ⟨rfl, ?_⟩
  have ht : toMake g (nms d.l) = 1 := by
    rw [hn]
    unfold toMake
    simp [List.findIdx?_cons, Stp.makes, madeStp, Stp.num]
  have hoff : nms (offN 1 d.l) = [] := by rw [nms_offN, hn]; rfl
  have e1 : d.dur.does ((madeStp g κ).num n) = ⟨st (d.dur.take κ.data.toList).nm κ.data.toList g, st (d.dur.take κ.data.toList).rw g []⟩ := by
    unfold Shp.does
    exact if_pos rfl
  have ed : (d.settled g).dur = ⟨st (d.dur.take κ.data.toList).nm κ.data.toList g, st (d.dur.take κ.data.toList).rw g rs⟩ := by
    show (scs (offN (toMake g (nms d.l)) d.l) g).foldl Shp.does (((nms d.l).take (toMake g (nms d.l))).foldl Shp.does d.dur) = _
    rw [ht, scs_offN, hn]
    simp only [List.take_succ_cons, List.take_zero, List.foldl_cons, List.foldl_nil]
    rw [e1, h.sect]
  have el : (d.settled g).l = offS (offN 1 d.l) g := by
    show offS (offN (toMake g (nms d.l)) d.l) g = _
    rw [ht]
  refine ⟨?_, ⟨h.nm, h.rw, h.no⟩, fun t htl => ?_, hg, by show g ≤ d.made; rw [h.made]; exact Int.le_refl _⟩
  · rw [ed]
    refine ⟨lk_st_same, lk_st_same, fun k hk => ?_⟩
    show lk (st (dl d.dur.nm κ.data.toList) κ.data.toList g) k ≠ _
    rw [lk_st_other hk, lk_dl_other hk]
    exact h.nod k
  · rw [el] at htl
    obtain ⟨h1, h2⟩ := List.mem_filter.1 htl
    have hsec := nms_sec hoff t h1
    rw [hsec] at h2
    have hfile : t.file ≠ g := by simpa using h2
    have hkind : t.kind = 1 ∨ t.kind = 2 := by simpa [Stp.sec] using hsec
    exact ⟨hfile, .inr hkind, .inr (by omega)⟩
end

end Go.Proofs.Ytikhgjnjlkaobaa

/-
  A shape copied, with labels of the copy's own; two disks at once.
-/
namespace Go.Proofs.Ytikhgjnjlkaobaa
open Go.RowKit
set_option maxRecDepth 100000
set_option maxRecDepth 100000
set_option linter.unusedVariables false

section
variable {w : World} {L L2 : Lb} {a b tag : Int} {nb rb : Nat} {s : Shp}

/-- Labels of another kind. -/
theorem Rw.relabel {α : Type} {c : α → List Value} {T : TypeId} {size : Nat} {tag2 : Int} {rw : List (Int × List α)} (h : Rw c T size w L tag rb rw) (hl : ∀ g f, L g = (tag, f) → L2 g = (tag2, f)) : Rw c T size w L2 tag2 rb rw := by
  obtain ⟨D, g1, g2, g3, g4⟩ := h.ex
  refine ⟨h.un, h.ix, D, g1, g2, g3, fun f xs e => ?_⟩
  obtain ⟨v, q1, q2, q3⟩ := g4 f xs e
  exact ⟨v, q1, q2, fun g hg => hl g f (q3 g hg)⟩

theorem Sh.relabel (h : Sh w L a nb rb s) (h0 : ∀ g, L g = (a, 0) → L2 g = (b, 0)) (h1 : ∀ g, L g = (a + 1, 0) → L2 g = (b + 1, 0)) (h2 : ∀ g f, L g = (a + 10, f) → L2 g = (b + 10, f)) : Sh w L2 b nb rb s :=
  ⟨h.nm, h.rw.relabel h2, h0 _ h.ln, h1 _ h.lr⟩

/-- Labels of a copy: what is new, from the tags 1000 on. -/
def anew (n : Nat) (L : Lb) (a : Int) : Lb := fun g => if g < n then (0, 0) else if (L g).1 = 1000 then (a, 0) else if (L g).1 = 1001 then (a + 1, 0) else if (L g).1 = 1010 then (a + 10, (L g).2) else (0, 0)

theorem copied_new {K : Nat} (a : Int) (hnm : Nm w nb s.nm) (hrw : Rw U (79 : TypeId) 64 w L tag rb s.rw) (hK : Sm s K) (hK2 : K < 9000000000000000000) (htag : tag = 12 ∨ tag = 14) :
    Calls Try.prog 44 #[.agg #[.map (some nb), .map (some rb)]] w fun e w' => ∃ nb' rb' L2, e = .returned (.agg #[.map (some nb'), .map (some rb')]) ∧ (∀ g, g < w.heap.size → L2 g = (0, 0)) ∧ (∀ g, L2 g = (0, 0) ∨ L2 g = (a, 0) ∨ L2 g = (a + 1, 0) ∨ ∃ f, L2 g = (a + 10, f)) ∧ Sh w' L2 a nb' rb' s ∧ Tb (fun _ => False) w w' := by
  have hsrc : Rw U (79 : TypeId) 64 w (fun g => if (L g).1 = tag then L g else (0, 0)) tag rb s.rw := hrw.relabel (fun g f e => by rw [e]; simp)
  refine (copied_any 1000 hnm hsrc hK hK2 (by omega) (by omega)).mono ?_
  rintro e w' ⟨nb', rb', L', rfl, h1, h2, h3, h4, h5⟩
  have hold : ∀ g, g < w.heap.size → (L' g).1 = tag ∨ (L' g).1 = 0 := fun g hg => by
    rw [h3 g hg]
    simp only
    split
    · rename_i e; exact .inl e
    · exact .inr rfl
  have hnew : ∀ g, (L' g).1 = 1000 ∨ (L' g).1 = 1001 ∨ (L' g).1 = 1010 → ¬ g < w.heap.size := fun g h hg => by
    have := hold g hg
    omega
  refine ⟨nb', rb', anew w.heap.size L' a, rfl, fun g hg => by unfold anew; rw [if_pos hg], fun g => ?_, h4.relabel (fun g e => ?_) (fun g e => ?_) (fun g f e => ?_), h5⟩
  · unfold anew
    split
    · exact .inl rfl
    · split
      · exact .inr (.inl rfl)
      · split
        · exact .inr (.inr (.inl rfl))
        · split
          · exact .inr (.inr (.inr ⟨_, rfl⟩))
          · exact .inl rfl
  · have h := hnew g (.inl (by rw [e]))
    unfold anew
    rw [if_neg h, if_pos (by rw [e])]
  · have h := hnew g (.inr (.inl (by rw [e]; rfl)))
    unfold anew
    rw [if_neg h, if_neg (by rw [e]; simp), if_pos (by rw [e]; rfl)]
  · have h := hnew g (.inr (.inr (by rw [e]; rfl)))
    unfold anew
    rw [if_neg h, if_neg (by rw [e]; simp), if_neg (by rw [e]; simp), if_pos (by rw [e]; rfl), e]
end

/-- Two disks that were made since w, neither of which has a block of the other's, and rows that are of neither. -/
def Two (w : World) (vs : List Value) (R1 : Nat) (d1 : Dsk) (R2 : Nat) (d2 : Dsk) (W : World) : Prop :=
  ∃ L1 L2, Dk W L1 R1 d1 ∧ Dk W L2 R2 d2 ∧ (∀ g, g < w.heap.size → L1 g = (0, 0) ∧ L2 g = (0, 0)) ∧ (∀ v ∈ vs, ∀ g, v.ownBlock = some g → g < W.heap.size ∧ L1 g = (0, 0) ∧ L2 g = (0, 0)) ∧ (∀ g, TD (L1 g) → ¬ TD (L2 g)) ∧ Tb (fun _ => False) w W

section
variable {w W V : World} {R R1 R2 : Nat} {d d1 d2 : Dsk} {vs : List Value}

theorem Two.swap (h : Two w vs R1 d1 R2 d2 W) : Two w vs R2 d2 R1 d1 W := by
  obtain ⟨L1, L2, a1, a2, a3, a4, a5, a6⟩ := h
  exact ⟨L2, L1, a2, a1, fun g hg => (a3 g hg).symm, fun v hv g hg => ⟨(a4 v hv g hg).1, (a4 v hv g hg).2.symm⟩, fun g h2 h1 => a5 g h1 h2, a6⟩

theorem Two.first (h : Two w vs R1 d1 R2 d2 W) : Ax w vs R1 d1 W := by
  obtain ⟨L1, L2, a1, a2, a3, a4, a5, a6⟩ := h
  exact ⟨L1, a1, fun g hg => (a3 g hg).1, fun v hv g hg => ⟨(a4 v hv g hg).1, (a4 v hv g hg).2.1⟩, a6⟩

/-- A copy in new memory stands beside the disk. -/
theorem Ax.two (h : Ax w vs R d W) (hc : Aw W R2 d2 V) : Two w vs R d R2 d2 V := by
  obtain ⟨L2, c1, c2, c3⟩ := hc
  obtain ⟨L, h1, h2, h3, h4, h5⟩ := h.on c3
  have hw := h.tb.size
  refine ⟨L, L2, h1, c1, fun g hg => ⟨h2 g hg, c2 g (Nat.lt_of_lt_of_le hg hw)⟩, fun v hv g hg => ⟨(h3 v hv g hg).1, (h3 v hv g hg).2, ?_⟩, fun g ht ht2 => ?_, h5⟩
  · obtain ⟨L', _, _, h3', _⟩ := h
    exact c2 g (h3' v hv g hg).1
  · rcases Nat.lt_or_ge g W.heap.size with hg | hg
    · rw [c2 g hg] at ht2
      exact notTD0 ht2
    · rw [h4 g hg] at ht
      exact notTD0 ht

/-- A call on the one keeps the other. -/
theorem Two.step {L1 L2 L1' : Lb} {d' : Dsk} (a2 : Dk W L2 R2 d2) (a3 : ∀ g, g < w.heap.size → L1 g = (0, 0) ∧ L2 g = (0, 0)) (a4 : ∀ v ∈ vs, ∀ g, v.ownBlock = some g → g < W.heap.size ∧ L1 g = (0, 0) ∧ L2 g = (0, 0)) (a5 : ∀ g, TD (L1 g) → ¬ TD (L2 g)) (a6 : Tb (fun _ => False) w W)
    (hl : Lx W L1 L1') (hd : Dk V L1' R1 d') (ht : Tl L1 TD W V) : Two w vs R1 d' R2 d2 V ∧ Kr vs W V := by
  refine ⟨⟨L1', onlyL W L2, hd, a2.tb ht (onlyL_lx _ _) (fun g h2 h1 => a5 g h1 h2), fun g hg => ?_, fun v hv g hg => ?_, fun g h1 h2 => ?_, Tb.trans a6 ht (fun i hi e => ?_)⟩, fun v hv base size n e xs ho => ?_⟩
  · have hW := Nat.lt_of_lt_of_le hg a6.size
    rw [hl g hW, onlyL_lx W L2 g hW]
    exact a3 g hg
  · have := a4 v hv g hg
    exact ⟨Nat.lt_of_lt_of_le this.1 ht.size, by rw [hl g this.1]; exact this.2.1, by rw [onlyL_lx W L2 g this.1]; exact this.2.2⟩
  · rcases Nat.lt_or_ge g W.heap.size with hg | hg
    · rw [hl g hg] at h1
      rw [onlyL_lx W L2 g hg] at h2
      exact a5 g h1 h2
    · rw [onlyL_new hg] at h2
      exact notTD0 h2
  · rw [(a3 i hi).1] at e
    exact notTD0 e
  · exact row_tb ho ht (fun g hg e => by rw [(a4 v hv g hg).2.1] at e; exact notTD0 e)

theorem two_crash {K : Nat} {p : Option Addr} {m cap : Nat} {ks : List Bool} (h : Two w vs R1 d1 R2 d2 W) (hf : Few d1 K) (hks : ks.length = m) (hcap : m ≤ cap ∧ cap ≤ 9223372036854775807) (hp : Kp w p ks) :
    Calls Try.prog 12 #[.pointer (some ⟨R1, 0, none⟩), .slice p m cap] W fun e w' => e = .returned (.int .i64 0) ∧ Two w vs R1 (d1.crash ks) R2 d2 w' ∧ Kr vs W w' := by
  obtain ⟨L1, L2, ⟨o, a1, b1⟩, a2, a3, a4, a5, a6⟩ := h
  have hk := hf.k
  have hl := hf.last
  have hpl : ∀ a, ks ≠ [] → p = some a → a.block < w.heap.size := fun a hne ha => by
    cases ks with
    | nil => exact absurd rfl hne
    | cons b ks =>
      obtain ⟨g, off, e, hc⟩ := hp 0 b rfl
      rw [ha] at e
      cases e
      exact cell_lt hc
  have hp' : Kp W p ks := fun i b hb => by
    obtain ⟨g, off, e, hc⟩ := hp i b hb
    exact ⟨g, off, e, a6.cell hc (fun h => h)⟩
  refine (crash_any a1 (by rw [b1.last]; omega) hf.dur (by omega) hks hcap hp' (fun a hne ha => ?_) (fun a hne ha => Nat.lt_of_lt_of_le (hpl a hne ha) a6.size)).mono ?_
  · rw [(a3 _ (hpl a hne ha)).1]
    unfold TA
    simp
  · rintro e w' ⟨rfl, L', sn, sr, us, c1, c2, c3⟩
    exact ⟨rfl, Two.step a2 a3 a4 a5 a6 c1 ⟨_, c2, ⟨rfl, b1.made, rfl, rfl, rfl, b1.failure⟩⟩ c3⟩
end

end Go.Proofs.Ytikhgjnjlkaobaa

/-
  A backlog copied.
-/
namespace Go.Proofs.Ytikhgjnjlkaobaa
open Go.RowKit
set_option maxRecDepth 100000
set_option maxRecDepth 100000
set_option linter.unusedVariables false

theorem heap_tb {X Y : World} {g : Nat} {o : Obj} (h : X.heap[g]? = some o) (ht : Tb (fun _ => False) X Y) : Y.heap[g]? = some o :=
  (ht.block g (Array.getElem?_eq_some_iff.1 h).1 (fun h => h)).trans h

/-- What stands behind the first lines of a copy: the row of steps of names, an empty map, the backlog itself. -/
structure Pz (wd : World) (last : Int) (N : Nat) (cs : List Value) (ns' : Value) (us' B3 : Nat) (X : World) : Prop where
  row : X.ownsRow wd.heap.size 81 70 ns' N cs
  map : X.heap[us']? = some (.map #[] 0)
  obj : X.heap[B3]? = some (.cells #[.int .i64 last, ns', .map (some us')] (50 : TypeId) (0, 0))
  tb : Tb (fun _ => False) wd X
  u : wd.heap.size ≤ us'
  b : wd.heap.size ≤ B3

theorem Pz.fin {wd X : World} {last : Int} {N : Nat} {cs : List Value} {ns' : Value} {us' B3 : Nat} {old : Array Value} (h1 : X.ownsRow wd.heap.size 81 70 ns' N cs) (h2 : X.heap[us']? = some (.map #[] 0)) (h3 : X.heap[B3]? = some (.cells old (50 : TypeId) (0, 0)))
    (h4 : Tb (fun _ => False) wd X) (h5 : wd.heap.size ≤ us') (h6 : wd.heap.size ≤ B3) : Pz wd last N cs ns' us' B3 (X.setRow B3 #[.int .i64 last, ns', .map (some us')]) := by
  have ht : Tb (fun k => k = B3) X (X.setRow B3 #[.int .i64 last, ns', .map (some us')]) := ⟨rfl, rfl, rfl, by simp, fun k _ hne => setRow_other _ _ _ _ hne⟩
  refine ⟨row_tb h1 ht (fun g hg e => ?_), ?_, setRow_heap _ _ _ _ _ _ h3, h4.trans ht (fun i hi e => by omega), h5, h6⟩
  · rcases h1.2 with ⟨e1, _⟩ | ⟨g', cap, cur, e1, _, hh, _⟩
    · rw [e1] at hg; cases hg
    · rw [e1] at hg
      simp only [Value.ownBlock, Option.some.injEq] at hg
      subst hg
      rw [e, h3] at hh
      simp only [Option.some.injEq, Obj.cells.injEq] at hh
      exact absurd hh.2.1 (by decide)
  · rw [setRow_other _ _ _ _ (fun e => by rw [e, h3] at h2; cases h2)]
    exact h2

theorem made_at (c : Stp → List Value) (T : TypeId) (size : Nat) (X : World) (L : Lb) (tag : Int) (b : Nat) (h : X.heap[b]? = some (.map #[] 0)) : Rw c T size X L tag b [] := by
  have hm := Rw.made c T size X L tag
  obtain ⟨D, g1, g2, g3, g4⟩ := hm.ex
  obtain ⟨es, clock, hb, r⟩ := g1.own
  rw [heap_alloc_new] at hb
  cases hb
  exact ⟨hm.un, hm.ix, D, ⟨_, _, h, r⟩, g2, g3, fun f xs e => by simp [lk] at e⟩

theorem zero50 (X : World) : (zeroValue (50 : TypeId)).run Try.prog X = .ok (.agg #[.int .i64 0, .slice none 0 0, .map none]) X := by go_simp

theorem step_store50 {ops : Array Oper} {o : Oper} {a : Act} {X : World} {K : Act → World → Prop} {Q : Exit → Act → World → Prop} {E : Prop} {x y : Operand} {B : Nat} {cs old : Array Value} (hg : o.guard = none) (hop : o.op = .store (50 : TypeId) x y) (hx : a.eval x = .pointer (some ⟨B, 0, none⟩)) (hy : a.eval y = .agg cs)
    (hB : X.heap[B]? = some (.cells old (50 : TypeId) (0, 0))) (hsz : cs.size = 3) (hold : old.size = 3) (h1 : cs.all (·.oneCell') = true) (hK : K (a.put o.dst undef) (X.setRow B cs)) : if Region.wanted o (yielded ops a.tmps) = true then Oper.wp Try.prog o a X K Q else E := by
  have hinfo : (Try.prog.info? (50 : TypeId)).map (·.size) = some 3 := by kernel_rfl
  have hw : Region.wanted o (yielded ops a.tmps) = true := by simp [Region.wanted, hg]
  rw [if_pos hw]
  exact wp_store_row 50 x y hop B cs hx hy 50 old hB (by rw [hinfo, hsz]) (by rw [hold, hsz]) h1 hK

/-- What the loop has copied. -/
structure Cz (w : World) (n : Nat) (last : Int) (N : Nat) (cs : List Value) (ns' : Value) (us' B3 r : Nat) (ps : List (Int × List Stp)) (wr : World) : Prop where
  b2 : wr.heap[w.heap.size]? = some (.cells #[.int .i64 0, .slice none 0 0, .map none] (50 : TypeId) (0, 0))
  obj : wr.heap[B3]? = some (.cells #[.int .i64 last, ns', .map (some us')] (50 : TypeId) (0, 0))
  row : wr.ownsRow n 81 70 ns' N cs
  ex : ∃ L', (∀ g, g < w.heap.size → L' g = (0, 0)) ∧ (∀ g, L' g = (0, 0) ∨ L' g = (6, 0) ∨ L' g = (7, 0) ∨ ∃ f, L' g = (16, f)) ∧ Rw Stp.cells (81 : TypeId) 70 wr L' 16 us' ps ∧ L' us' = (6, 0) ∧ (∀ g, ns'.ownBlock = some g → L' g = (7, 0)) ∧ L' r = (0, 0) ∧ L' w.heap.size = (0, 0) ∧ L' B3 = (0, 0)
  tb : Tb (fun _ => False) w wr

theorem Cz.start {w wd X X3 : World} {last : Int} {N : Nat} {cs : List Value} {ns' : Value} {us' B3 : Nat} (hP : Pz wd last N cs ns' us' B3 X) (hb2 : wd.heap[w.heap.size]? = some (.cells #[.int .i64 0, .slice none 0 0, .map none] (50 : TypeId) (0, 0))) (hw : Tb (fun _ => False) w wd) (hlt : w.heap.size < wd.heap.size) (t3 : Tb (fun _ => False) X X3) :
    Cz w wd.heap.size last N cs ns' us' B3 X.heap.size [] X3 := by
  have hn : ∀ g, ns'.ownBlock = some g → g ≠ us' ∧ g ≠ B3 ∧ wd.heap.size ≤ g ∧ g < X.heap.size := fun g hg => by
    have hl := hP.row.lt g hg
    refine ⟨fun e => ?_, fun e => ?_, hl.1, hl.2⟩
    all_goals
      rcases hP.row.2 with ⟨e1, _⟩ | ⟨g', cap, cur, e1, _, hh, _⟩
      · rw [e1] at hg; cases hg
      · rw [e1] at hg
        simp only [Value.ownBlock, Option.some.injEq] at hg
        subst hg
        first
          | (rw [e, hP.map] at hh; cases hh)
          | (rw [e, hP.obj] at hh
             simp only [Option.some.injEq, Obj.cells.injEq] at hh
             exact absurd hh.2.1 (by decide))
  have hub : us' ≠ B3 := fun e => by have := hP.map; rw [e, hP.obj] at this; cases this
  have hus := (Array.getElem?_eq_some_iff.1 hP.map).1
  have hbs := (Array.getElem?_eq_some_iff.1 hP.obj).1
  have hu := hP.u
  have hb := hP.b
  refine ⟨heap_tb (heap_tb hb2 hP.tb) t3, heap_tb hP.obj t3, row_tb hP.row t3 (fun _ _ h => h), ⟨fun g => if g = us' then (6, 0) else if ns'.ownBlock = some g then (7, 0) else (0, 0), fun g hg => ?_, fun g => ?_, (made_at _ _ _ _ _ _ _ (heap_tb hP.map t3)), ?_, fun g hg => ?_, ?_, ?_, ?_⟩, (hw.trans hP.tb (fun _ _ h => h)).trans t3 (fun _ _ h => h)⟩
  · simp only
    rw [if_neg (by omega), if_neg (fun e => by have := (hn g e).2.2.1; omega)]
  · simp only
    split
    · exact .inr (.inl rfl)
    · split
      · exact .inr (.inr (.inl rfl))
      · exact .inl rfl
  · simp
  · simp only
    rw [if_neg (hn g hg).1, if_pos hg]
  · simp only
    rw [if_neg (by omega), if_neg (fun e => by have := (hn _ e).2.2.2; omega)]
  · simp only
    rw [if_neg (by omega), if_neg (fun e => by have := (hn _ e).2.2.1; omega)]
  · simp only
    rw [if_neg (fun e => hub e.symm), if_neg (fun e => (hn _ e).2.1 rfl)]

end Go.Proofs.Ytikhgjnjlkaobaa

/-
  A backlog copied.
-/
namespace Go.Proofs.Ytikhgjnjlkaobaa
open Go.RowKit
set_option maxRecDepth 100000
set_option maxRecDepth 100000
set_option linter.unusedVariables false
set_option linter.unusedSimpArgs false

theorem exEq {α : Type} (a : α) {P : Prop} (h : ∀ x, x = a → P) : P := h a rfl

set_option maxHeartbeats 8000000 in
theorem blCopied_any {w : World} {L : Lb} {R : Nat} {o : Ob} {dur std : Shp} {l : List Stp} (h : Di w L R o dur std l) (hlast : o.last < 1000000000) :
    Calls Try.prog 52 #[.pointer (some ⟨R, 5, none⟩)] w fun e w' => ∃ ns' us' L2, e = .returned (.agg #[.int .i64 o.last, ns', .map (some us')]) ∧ (∀ g, g < w.heap.size → L2 g = (0, 0)) ∧ (∀ g, L2 g = (0, 0) ∨ L2 g = (6, 0) ∨ L2 g = (7, 0) ∨ ∃ f, L2 g = (16, f)) ∧ Bk w' L2 us' ns' o.last l ∧ Tb (fun _ => False) w w' := by
  have c5 : w.cell? ⟨R, 5, none⟩ = some (.int .i64 o.last) := h.oj.c 5
  have c6 : w.cell? ⟨R, 6, none⟩ = some o.ns := h.oj.c 6
  have c7 : w.cell? ⟨R, 7, none⟩ = some (.map (some o.us)) := h.oj.c 7
  obtain ⟨i81, z81, hi, hz', q1, q2, q3⟩ := info81
  obtain ⟨wa, hwa⟩ : ∃ wa, Hid (wa = w.alloc (.cells #[.int .i64 0, .slice none 0 0, .map none] (50 : TypeId))) := ⟨_, hide rfl⟩
  obtain ⟨wd, hwd⟩ : ∃ wd, Hid (wd = wa.drew) := ⟨_, hide rfl⟩
  have twd : Tb (fun _ => False) w wd := by rw [hwd.out, hwa.out]; exact ((Tb.refl _ _).alloc _).drew
  obtain ⟨N, hN⟩ : ∃ N, Hid (N = (nms l).length) := ⟨_, hide rfl⟩
  have hrow := h.bk.row
  rw [← hN.out] at hrow
  have hNl : (N : Int) < 1000000000 := by
    have h1 := h.bk.length
    have h2 : (nms l).length ≤ l.length := List.length_filter_le _ _
    rw [hN.out]
    omega
  have HSS : Hid (∀ X, Tb (fun _ => False) wd X → X.cell? ⟨R, 5, none⟩ = some (.int .i64 o.last) ∧ X.cell? ⟨R, 6, none⟩ = some o.ns) := hide (fun X ht => ⟨ht.cell (twd.cell c5 (fun h => h)) (fun h => h), ht.cell (twd.cell c6 (fun h => h)) (fun h => h)⟩)
  have HA : Hid (∀ X, Tb (fun _ => False) wd X → ∀ {P : Prop}, (∀ a' c' X', (Builtin.append_ #[47, 47] 47 #[.slice none 0 0, o.ns]).run Try.prog X = .ok (.slice a' N c') X' → X'.ownsRow wd.heap.size 81 70 (.slice a' N c') N ((nms l).flatMap Stp.cells) → Tb (fun _ => False) X X' → P) → P) := hide (fun X ht P kk => by
    obtain ⟨v', X', hr, ho, hg, _⟩ := run_append_rows (P := Try.prog) (w := X) wd.heap.size 47 47 81 i81 z81 70 (i81.bytes) Try.underlying47 hi hz' q1 rfl q3 (by omega) (.slice none 0 0) 0 [] (World.ownsRow_nil _ _ _ _) o.ns N ((nms l).flatMap Stp.cells) 0 (row_tb (row_tb hrow twd (fun _ _ h => h)) ht (fun _ _ h => h)) (fun u hu => by obtain ⟨t, _, h⟩ := List.mem_flatMap.1 hu; exact Stp.one _ u h) (by unfold maxLen; omega) (by rw [q2]; omega) ht.size
    have ho' : X'.ownsRow wd.heap.size 81 70 v' N ((nms l).flatMap Stp.cells) := by simpa using ho
    obtain ⟨a', c', hv'⟩ := row_val ho'
    subst hv'
    exact kk a' c' X' hr ho' (Tb.of_grown hg (fun k e => by cases e)))
  have m48 := mk48
  have HD := hide h
  have HR := hide hrow
  have HT := hide twd
  have hlast' := hide hlast
  clear h hrow twd hlast
  go_enter Try.func52, Try.ntmps52
  go_wp2_with fail
  rw [← hwa.out]
  rename_i K0 hK0
  have hk : Hid (∀ (ns' : Value) (us' B3 : Nat) (X : World), Pz wd o.last N ((nms l).flatMap Stp.cells) ns' us' B3 X → K0 { tmps := #[.pointer (some ⟨R, 5, none⟩), undef, .pointer (some ⟨w.heap.size, 0, none⟩), .pointer (some ⟨B3, 0, none⟩), undef, undef, .pointer (some ⟨R, 5, none⟩), .pointer (some ⟨R, 5, none⟩), .pointer (some ⟨R, 5, none⟩), .int .i64 o.last, .pointer (some ⟨R, 5, none⟩), .pointer (some ⟨R, 5, none⟩), .pointer (some ⟨R, 6, none⟩), o.ns, ns', Value.map (some us'), Value.agg #[.int .i64 o.last, ns', .map (some us')], undef, undef, undef, undef, undef, undef, undef, undef, undef, undef, undef, undef, undef, undef, undef, undef], defers := [] } X) := hide (by
    intro ns' us' B3 X hP
    refine hK0 _ _ ?_
    have tX : Tb (fun _ => False) w X := HT.out.trans hP.tb (fun _ _ h => h)
    have c7X : X.cell? ⟨R, 7, none⟩ = some (.map (some o.us)) := tX.cell c7 (fun h => h)
    obtain ⟨sec, hsec, hscs, hsl⟩ := HD.out.bk.map
    obtain ⟨M, hM⟩ : ∃ M, M = onlyL w L := ⟨_, rfl⟩
    have hLM : Lx w L M := by rw [hM]; exact onlyL_lx w L
    obtain ⟨w3, hrun, hRg, t3, z3⟩ := (hsec.tb tX hLM (fun h => h) (fun _ _ _ h => h)).range Try.underlying48
    have hrl : ∀ g f, M g = (16, f) → g < w.heap.size := fun g f e => by
      rcases Nat.lt_or_ge g w.heap.size with h | h
      · exact h
      · rw [hM, onlyL_new h] at e; simp at e
    have HG := hide (Cz.start hP (by rw [hwd.out, hwa.out]; exact heap_alloc_new w _) HT.out (by rw [hwd.out, hwa.out]; simp) t3)
    obtain ⟨r, hr⟩ : ∃ r, Hid (r = X.heap.size) := ⟨_, hide rfl⟩
    rw [← hr.out] at hrun hRg HG
    have HRG := hide hRg
    have HL := hide hrl
    have HZ : Hid (w.heap.size ≤ r ∧ o.us < w.heap.size ∧ wd.heap.size ≤ us' ∧ us' < r ∧ wd.heap.size ≤ B3 ∧ B3 < r ∧ w.heap.size < wd.heap.size ∧ us' ≠ B3) := hide ⟨by rw [hr.out]; exact tX.size, hsec.lt, hP.u, by rw [hr.out]; exact (Array.getElem?_eq_some_iff.1 hP.map).1, hP.b, by rw [hr.out]; exact (Array.getElem?_eq_some_iff.1 hP.obj).1, by rw [hwd.out, hwa.out]; simp, fun e => by have := hP.map; rw [e, hP.obj] at this; cases this⟩
    have HU := hide hsec.un
    have HSC := hide (And.intro hscs hsl)
    have HSL : Hid ((sec.length : Int) < 1000000000) := hide (by have := hlast'.out; omega)
    have HOK : Hid (∀ f xs, (f, xs) ∈ sec → xs.length < 1000000000) := hide (fun f xs hx => by
      have h1 := hscs f
      rw [mem_lk hsec.un hx] at h1
      simp only [Option.getD_some] at h1
      have h2 : (scs l f).length ≤ l.length := List.length_filter_le _ _
      have h3 := HD.out.bk.length
      have := hlast'.out
      rw [h1]
      omega)
    clear hP tX hsec hscs hsl hLM hM hRg t3 z3 hrl
    go_wp2_with fail
    go_loopw [] (fun wr => ∃ (ps qs : List (Int × List Stp)), Hid (Cz w wd.heap.size o.last N ((nms l).flatMap Stp.cells) ns' us' B3 r ps wr) ∧ Hid (Rg Stp.cells (81 : TypeId) 70 M 16 o.us sec r ps qs wr)) (fun wr => wr.rangeLeft o.us r)
    case atStart => exact ⟨[], _, HG, HRG⟩
    case round =>
      obtain ⟨ps, qs, hg, hr⟩ := hrel
      go_wp2_with (at_next; refine wpList_next_rows hr.out rfl (.tmp 21) rfl rfl ?_ ?_ (fun g f e => by have := HL.out g f e; have := HZ.out; omega))
      · intro hq
        subst hq
        have hp := hr.out.perm
        rw [List.append_nil] at hp
        obtain ⟨L', x1, x2, x3, x4, x5, x6, x7, x8⟩ := hg.out.ex
        obtain ⟨a8, c8, hv8⟩ := row_val hg.out.row
        subst hv8
        obtain ⟨Y, hY⟩ : ∃ Y, Hid (Y = wr.setRow w.heap.size #[.int .i64 o.last, .slice a8 N c8, .map (some us')]) := ⟨_, hide rfl⟩
        have tY : Tb (fun k => k = w.heap.size) wr Y := by rw [hY.out]; exact ⟨rfl, rfl, rfl, by simp, fun k _ hne => setRow_other _ _ _ _ hne⟩
        have hYB : Y.heap[w.heap.size]? = some (.cells #[.int .i64 o.last, .slice a8 N c8, .map (some us')] (50 : TypeId) (0, 0)) := by rw [hY.out]; exact setRow_heap _ _ _ _ _ _ hg.out.b2
        have HYB := hide hYB
        have HF : Hid (Bk Y L' us' (.slice a8 N c8) o.last l ∧ Tb (fun _ => False) w Y) := hide (by
          have hz := HZ.out
          have hne : ∀ g, (Value.slice a8 N c8).ownBlock = some g → g ≠ w.heap.size := fun g hg' e => by
            have := (hg.out.row.lt g hg').1
            omega
          refine ⟨⟨?_, x5, ⟨sec, (x3.perm hp).tb tY (Lx.refl _ _) (by omega) (fun g f e e2 => by rw [e2] at e; rw [x7] at e; simp at e), HSC.out.1, HSC.out.2⟩, x4, HD.out.bk.ok, HD.out.bk.up, HD.out.bk.no, HD.out.bk.last⟩, hg.out.tb.trans tY (fun i hi e => by omega)⟩
          have := row_tb hg.out.row tY (fun g hg' e => hne g hg' e)
          rw [← hN.out]
          exact this.mono (Nat.zero_le _))
        have HX := hide (And.intro x1 x2)
        have HO := hide hg.out.obj
        have HB2 := hide hg.out.b2
        clear hp x1 x2 x3 x4 x5 x6 x7 x8 tY hYB
        go_wp2_with (first
          | (refine wpList_load_row rfl 50 _ rfl B3 rfl 50 _ (0, 0) _ HO.out Try.underlying50 rfl (by kernel_rfl) ?_)
          | (refine wpList_store_row rfl 50 _ _ rfl w.heap.size #[.int .i64 o.last, .slice a8 N c8, .map (some us')] rfl rfl 50 _ HB2.out (by kernel_rfl) rfl (by simp [Value.oneCell']) ?_; rw [← hY.out]))
        refine bodyPost_ret (results_cell_row rfl _ _ w.heap.size (50 : TypeId) _ (0, 0) _ rfl HYB.out Try.underlying50 rfl (by kernel_rfl)) rfl ?_
        exact ⟨_, _, L', rfl, HX.out.1, HX.out.2, HF.out.1, HF.out.2⟩
      · intro f xs ad1 cap1 w' qs' hf hin hown hlab hrg hlt htb hsz hen
        have hz := HZ.out
        obtain ⟨L', x1, x2, x3, x4, x5, x6, x7, x8⟩ := hg.out.ex
        have hxl := HOK.out f xs hin
        have hsl := HSL.out
        have hps : ps.length ≤ sec.length := by
          have := hr.out.perm.length_eq
          rw [List.length_append] at this
          omega
        have hnew : ∀ p ∈ ps, p.1 ≠ f := by
          have hu := HU.out.perm hrg.perm
          rw [List.append_assoc] at hu
          intro p hp
          exact (List.pairwise_append.1 hu).2.2 p hp (f, xs) (by simp)
        obtain ⟨ve, hve⟩ : ∃ ve, Hid (ve = w'.drew) := ⟨_, hide rfl⟩
        have td : Tb (fun _ => False) w' ve := by rw [hve.out]; exact (Tb.refl _ _).drew
        have sr := hg.out.tb.size
        have sd := td.size
        have hrlt := hrg.lt.2
        obtain ⟨v2, w2', hr2, o2, g2, b2⟩ := run_append_rows (P := Try.prog) (w := ve) 0 47 47 81 i81 z81 70 (i81.bytes) Try.underlying47 hi hz' q1 rfl q3 (by omega) (.slice none 0 0) 0 [] (World.ownsRow_nil _ _ _ _) (.slice ad1 xs.length cap1) _ (xs.flatMap Stp.cells) 0 (row_tb hown td (fun _ _ h => h)) (fun u hu => by obtain ⟨t, _, h⟩ := List.mem_flatMap.1 hu; exact Stp.one _ u h) (by unfold maxLen; omega) (by rw [q2]; omega) (Nat.zero_le _)
        have t2 : Tb (fun _ => False) ve w2' := Tb.of_grown g2 (fun k e => by cases e)
        have tr : Tb (fun k => k = r) wr ve := htb.trans td (fun _ _ h => h.elim)
        have hRw : Rw Stp.cells (81 : TypeId) 70 ve L' 16 us' ps := x3.tb tr (Lx.refl _ _) (by omega) (fun g f e e2 => by rw [e2, x6] at e; simp at e)
        have hbn : ∀ g, v2.ownBlock = some g → g = ve.heap.size := fun g hg' => by
          rcases b2 with b | b
          · rw [b] at hg'; cases hg'
          · rw [b] at hg'; cases hg'; rfl
        have hsr := htb.size
        obtain ⟨w3', hr3, hRw3, t3⟩ := hRw.store (w := w2') (L' := lab L' ve.heap.size (16, f)) Try.underlying48 (by omega) hf (t2.mono (fun _ _ h => h.elim)) (Lx.lab L' _ (Nat.le_refl _)) (by rw [x4]; simp) (v := v2) (xs := xs) (by simpa using o2) (fun g hg' => by rw [hbn g hg', lab_new]) (fun g hg' => by rw [hbn g hg']; omega)
        have t3' : Tb (fun k => k = us') w2' w3' := Tb.turned t3 rfl
        have tw' : Tb (fun k => k = us') w' w3' := ((td.mono (fun _ _ h => h.elim)).trans t2 (fun _ _ h => h.elim)).trans t3' (fun _ _ h => h)
        have tall : Tb (fun k => k = r ∨ k = us') wr w3' := (htb.mono (fun _ _ h => .inl h)).trans tw' (fun _ _ h => .inr h)
        have est : st ps f xs = ps ++ [(f, xs)] := by unfold st; rw [dl_none hnew]
        rw [est] at hRw3
        have hb2r := (Array.getElem?_eq_some_iff.1 hg.out.b2).1
        have hb3r := (Array.getElem?_eq_some_iff.1 hg.out.obj).1
        have HN : Hid (Cz w wd.heap.size o.last N ((nms l).flatMap Stp.cells) ns' us' B3 r (ps ++ [(f, xs)]) w3') := hide (by
          refine ⟨by rw [tall.block _ hb2r (by omega)]; exact hg.out.b2, by rw [tall.block _ hb3r (by omega)]; exact hg.out.obj, row_tb hg.out.row tall (fun g hg' e => ?_), ⟨lab L' ve.heap.size (16, f), fun g hg' => ?_, fun g => ?_, hRw3, ?_, fun g hg' => ?_, ?_, ?_, ?_⟩, hg.out.tb.trans tall (fun k hk e => by omega)⟩
          · have := x5 g hg'
            rcases e with e | e
            · rw [e, x6] at this; simp at this
            · rw [e, x4] at this; simp at this
          · rw [lab_old (by omega)]; exact x1 g hg'
          · by_cases e : g = ve.heap.size
            · rw [e, lab_new]; exact .inr (.inr (.inr ⟨f, rfl⟩))
            · rw [show lab L' ve.heap.size (16, f) g = L' g by unfold lab; rw [if_neg e]]; exact x2 g
          · rw [lab_old (by omega)]; exact x4
          · have := (hg.out.row.lt g hg').2
            rw [lab_old (by omega)]; exact x5 g hg'
          · rw [lab_old (by omega)]; exact x6
          · rw [lab_old (by omega)]; exact x7
          · rw [lab_old (by omega)]; exact x8)
        have HRG : Hid (Rg Stp.cells (81 : TypeId) 70 M 16 o.us sec r (ps ++ [(f, xs)]) qs' w3') := hide (hrg.tb tw' (by omega) (by omega) (fun g f e e2 => by have := HL.out g f e; omega))
        have HLT : Hid (w3'.rangeLeft o.us r < wr.rangeLeft o.us r) := hide (by rw [left_heap (tw'.block _ hrg.lt.1 (by omega)) (tw'.block _ hrlt (by omega))]; exact hlt)
        have hcd : ve.cell? ⟨B3, 2, none⟩ = some (.map (some us')) := by
          have : ve.heap[B3]? = _ := (tr.block _ hb3r (by omega)).trans hg.out.obj
          simp only [World.cell?, this]
          rfl
        have hc2 : w2'.cell? ⟨B3, 2, none⟩ = some (.map (some us')) := t2.cell hcd (fun h => h)
        have hc3 : w3'.cell? ⟨B3, 2, none⟩ = some (.map (some us')) := t3'.cell hc2 (by simp only; omega)
        obtain ⟨X1, hX1⟩ : ∃ X1, Hid (X1 = xs.length) := ⟨_, hide rfl⟩
        rw [← hX1.out] at hen hr2
        rw [← hX1.out]
        clear hown hlab hrg hlt htb hin hsz td t2 tr hRw hbn hRw3 t3 t3' tw' tall est hb2r hb3r b2 g2 o2 x1 x2 x3 x4 x5 x6 x7 x8 hnew hps hxl hsl sr sd hrlt hz hf hsr
        go_wp2_with fail
        refine wp_region_held_drew (S := fun V => V.cell? ⟨B3, 2, none⟩ = some (.map (some us'))) (by kernel_rfl) (by rw [← hve.out]; exact hcd) (fun hHeld => ?_)
        try simp only [List.size_toArray, List.length_cons, List.length_nil, Nat.reduceAdd]
        refine wpAnyH_take (i := 0) (v := (.pointer (some ⟨B3, 2, none⟩))) rfl (by kernel_rfl) (by kernel_rfl) (by kernel_rfl) (fun _ _ _ h => h) (Or.inl ⟨by rfl, ?hy⟩) hHeld ?_
        case hy => (intro V hV; go_simp)
        simp only [Act.put]
        refine wpAnyH_take (i := 1) (v := (.map (some us'))) rfl (by kernel_rfl) (by kernel_rfl) (by kernel_rfl) (fun _ _ _ h => h) (Or.inl ⟨by rfl, ?hy⟩) hHeld ?_
        case hy => (intro V hV; go_simp)
        simp only [Act.put]
        refine wpAnyH_take (i := 2) (v := (.int .i64 f)) rfl (by kernel_rfl) (by kernel_rfl) (by kernel_rfl) (fun _ _ _ h => h) (Or.inl ⟨by rfl, ?hy⟩) hHeld ?_
        case hy => (intro V hV; go_simp)
        simp only [Act.put]
        refine wpAnyH_take (i := 3) (v := (.slice ad1 X1 cap1)) rfl (by kernel_rfl) (by kernel_rfl) (by kernel_rfl) (fun _ _ _ h => h) (Or.inl ⟨by rfl, ?hy⟩) hHeld ?_
        case hy => (intro V hV; go_simp)
        simp only [Act.put]
        refine wpAnyH_ready (rs := [4]) (by kernel_rfl) (by simp) ?_
        refine AllReadyH.cons rfl (fun K hK => ?_) AllReadyH.nil
        refine step_run rfl (exec_append (.slice none 0 0) (.slice ad1 X1 cap1) rfl (by simp [Act.eval]) (by simp [Act.eval]) (by rw [← hve.out]; exact hr2)) ?_
        refine hK.out _ _ hc2 (fun hHeld => ?_)
        clear hK K
        try simp only [Act.put]
        refine wpAnyH_ready (rs := [5]) (by kernel_rfl) (by simp) ?_
        refine AllReadyH.cons rfl (fun K hK => ?_) AllReadyH.nil
        go_simp
        refine hK.out _ _ hc3 (fun hHeld => ?_)
        clear hK K
        try simp only [Act.put]
        refine wpAnyH_done (by kernel_rfl) ?_ _
        go_wp2_with fail
        go_roundw
        case rel => exact ⟨_, _, HN, HRG⟩
        case measure => exact HLT.out)
  clear hK0
  refine wp_region_held_drew (S := fun V => V.cell? ⟨R, 5, none⟩ = some (.int .i64 o.last) ∧ V.cell? ⟨R, 6, none⟩ = some o.ns) (by kernel_rfl) (by rw [← hwd.out]; exact HSS.out wd (Tb.refl _ _)) (fun hHeld => ?_)
  rw [← hwd.out] at hHeld ⊢
  try simp only [List.size_toArray, List.length_cons, List.length_nil, Nat.reduceAdd]
  refine wpAnyH_take (i := 0) (v := (.pointer (some ⟨R, 5, none⟩))) rfl (by kernel_rfl) (by kernel_rfl) (by kernel_rfl) (fun _ _ _ h => h) (Or.inl ⟨by rfl, ?hy⟩) hHeld ?_
  case hy => (intro V hV; obtain ⟨hV1, hV2⟩ := hV; go_simp)
  simp only [Act.put]
  refine wpAnyH_take (i := 1) (v := (.pointer (some ⟨R, 5, none⟩))) rfl (by kernel_rfl) (by kernel_rfl) (by kernel_rfl) (fun _ _ _ h => h) (Or.inl ⟨by rfl, ?hy⟩) hHeld ?_
  case hy => (intro V hV; obtain ⟨hV1, hV2⟩ := hV; go_simp)
  simp only [Act.put]
  refine wpAnyH_take (i := 2) (v := (.pointer (some ⟨R, 5, none⟩))) rfl (by kernel_rfl) (by kernel_rfl) (by kernel_rfl) (fun _ _ _ h => h) (Or.inl ⟨by rfl, ?hy⟩) hHeld ?_
  case hy => (intro V hV; obtain ⟨hV1, hV2⟩ := hV; go_simp)
  simp only [Act.put]
  refine wpAnyH_take (i := 3) (v := (.int .i64 o.last)) rfl (by kernel_rfl) (by kernel_rfl) (by kernel_rfl) (fun _ _ _ h => h) (Or.inl ⟨by rfl, ?hy⟩) hHeld ?_
  case hy => (intro V hV; obtain ⟨hV1, hV2⟩ := hV; go_simp)
  simp only [Act.put]
  refine wpAnyH_take (i := 4) (v := (.pointer (some ⟨R, 5, none⟩))) rfl (by kernel_rfl) (by kernel_rfl) (by kernel_rfl) (fun _ _ _ h => h) (Or.inl ⟨by rfl, ?hy⟩) hHeld ?_
  case hy => (intro V hV; obtain ⟨hV1, hV2⟩ := hV; go_simp)
  simp only [Act.put]
  refine wpAnyH_take (i := 5) (v := (.pointer (some ⟨R, 5, none⟩))) rfl (by kernel_rfl) (by kernel_rfl) (by kernel_rfl) (fun _ _ _ h => h) (Or.inl ⟨by rfl, ?hy⟩) hHeld ?_
  case hy => (intro V hV; obtain ⟨hV1, hV2⟩ := hV; go_simp)
  simp only [Act.put]
  refine wpAnyH_take (i := 6) (v := (.pointer (some ⟨R, 6, none⟩))) rfl (by kernel_rfl) (by kernel_rfl) (by kernel_rfl) (fun _ _ _ h => h) (Or.inl ⟨by rfl, ?hy⟩) hHeld ?_
  case hy => (intro V hV; obtain ⟨hV1, hV2⟩ := hV; go_simp)
  simp only [Act.put]
  refine wpAnyH_take (i := 7) (v := (o.ns)) rfl (by kernel_rfl) (by kernel_rfl) (by kernel_rfl) (fun _ _ _ h => h) (Or.inl ⟨by rfl, ?hy⟩) hHeld ?_
  case hy => (intro V hV; obtain ⟨hV1, hV2⟩ := hV; go_simp)
  simp only [Act.put]
  have T0 : Tb (fun _ => False) wd wd := Tb.refl _ _
  refine wpAnyH_ready (rs := [8, 9, 11]) (by kernel_rfl) (by simp) ?_
  refine AllReadyH.cons rfl (fun K hK => ?_) ?_
  · refine HA.out wd T0 (fun a8 c8 x8 hr8 r8 t8 => ?_)
    have Tx8 : Tb (fun _ => False) wd x8 := (T0).trans t8 (fun _ _ h => h)
    refine step_run rfl (exec_append (.slice none 0 0) o.ns rfl (by simp [Act.eval]) (by simp [Act.eval]) hr8) ?_
    refine hK.out _ _ (HSS.out _ Tx8) (fun hHeld => ?_)
    clear hK K
    simp only [Act.put, List.getElem_toArray, List.getElem_cons_succ, List.getElem_cons_zero, List.setIfInBounds_toArray, List.set_cons_succ, List.set_cons_zero]
    refine wpAnyH_ready (rs := [9, 11]) (by kernel_rfl) (by simp) ?_
    refine AllReadyH.cons rfl (fun K hK => ?_) ?_
    · refine exEq (x8.alloc (.map #[] 0)) (fun x9 h9 => ?_)
      have t9 : Tb (fun _ => False) x8 x9 := by rw [h9]; exact (Tb.refl _ _).alloc _
      refine exEq (x8.heap.size) (fun u9 hu9 => ?_)
      have m9 : x9.heap[u9]? = some (.map #[] 0) := by rw [h9, hu9]; exact heap_alloc_new _ _
      have l9 : wd.heap.size ≤ u9 := by rw [hu9]; exact (Tx8).size
      have Tx9 : Tb (fun _ => False) wd x9 := (Tx8).trans t9 (fun _ _ h => h)
      have r8 := row_tb r8 t9 (fun _ _ h => h) (S := fun _ => False)
      refine step_run (v := .map (some u9)) (w' := x9) rfl (by rw [h9, hu9]; go_simp) ?_
      clear h9 hu9
      refine hK.out _ _ (HSS.out _ Tx9) (fun hHeld => ?_)
      clear hK K
      simp only [Act.put, List.getElem_toArray, List.getElem_cons_succ, List.getElem_cons_zero, List.setIfInBounds_toArray, List.set_cons_succ, List.set_cons_zero]
      refine wpAnyH_take (i := 10) (v := (.agg #[.int .i64 o.last, .slice a8 N c8, .map (some u9)])) rfl (by kernel_rfl) (by kernel_rfl) (by kernel_rfl) (fun _ _ _ h => h) (Or.inl ⟨by rfl, ?hy⟩) hHeld ?_
      case hy => (intro V hV; obtain ⟨hV1, hV2⟩ := hV; go_simp)
      simp only [Act.put, List.getElem_toArray, List.getElem_cons_succ, List.getElem_cons_zero, List.setIfInBounds_toArray, List.set_cons_succ, List.set_cons_zero]
      refine wpAnyH_ready (rs := [11]) (by kernel_rfl) (by simp) ?_
      refine AllReadyH.cons rfl (fun K hK => ?_) ?_
      · refine exEq (x9.alloc (.cells #[.int .i64 0, .slice none 0 0, .map none] (50 : TypeId))) (fun x11 h11 => ?_)
        have t11 : Tb (fun _ => False) x9 x11 := by rw [h11]; exact (Tb.refl _ _).alloc _
        refine exEq (x9.heap.size) (fun b3 hb3 => ?_)
        have b11 : x11.heap[b3]? = some (.cells #[.int .i64 0, .slice none 0 0, .map none] (50 : TypeId) (0, 0)) := by rw [h11, hb3]; exact heap_alloc_new _ _
        have l11 : wd.heap.size ≤ b3 := by rw [hb3]; exact (Tx9).size
        have Tx11 : Tb (fun _ => False) wd x11 := (Tx9).trans t11 (fun _ _ h => h)
        have r8 := row_tb r8 t11 (fun _ _ h => h) (S := fun _ => False)
        have m9 := heap_tb m9 t11
        refine step_run (v := .pointer (some ⟨b3, 0, none⟩)) (w' := x11) rfl (by rw [h11, hb3]; go_simp) ?_
        clear h11 hb3
        refine hK.out _ _ (HSS.out _ Tx11) (fun hHeld => ?_)
        clear hK K
        simp only [Act.put, List.getElem_toArray, List.getElem_cons_succ, List.getElem_cons_zero, List.setIfInBounds_toArray, List.set_cons_succ, List.set_cons_zero]
        refine wpAnyH_ready (rs := [12]) (by kernel_rfl) (by simp) ?_
        refine AllReadyH.cons rfl (fun K hK => ?_) AllReadyH.nil
        have P := Pz.fin (last := o.last) r8 m9 b11 Tx11 l9 l11
        refine step_store50 (B := b3) (cs := #[.int .i64 o.last, .slice a8 N c8, .map (some u9)]) rfl rfl (by simp [Act.eval]) (by simp [Act.eval]) b11 rfl rfl (by simp [Value.oneCell']) ?_
        refine hK.out _ _ (HSS.out _ P.tb) (fun hHeld => ?_)
        clear hK K
        refine wpAnyH_done (by kernel_rfl) ?_ _
        simp only [Act.put, List.getElem_toArray, List.getElem_cons_succ, List.getElem_cons_zero, List.setIfInBounds_toArray, List.set_cons_succ, List.set_cons_zero]
        exact hk.out (.slice a8 N c8) u9 b3 _ P
      exact AllReadyH.nil
    refine AllReadyH.cons rfl (fun K hK => ?_) ?_
    · refine exEq (x8.alloc (.cells #[.int .i64 0, .slice none 0 0, .map none] (50 : TypeId))) (fun x11 h11 => ?_)
      have t11 : Tb (fun _ => False) x8 x11 := by rw [h11]; exact (Tb.refl _ _).alloc _
      refine exEq (x8.heap.size) (fun b3 hb3 => ?_)
      have b11 : x11.heap[b3]? = some (.cells #[.int .i64 0, .slice none 0 0, .map none] (50 : TypeId) (0, 0)) := by rw [h11, hb3]; exact heap_alloc_new _ _
      have l11 : wd.heap.size ≤ b3 := by rw [hb3]; exact (Tx8).size
      have Tx11 : Tb (fun _ => False) wd x11 := (Tx8).trans t11 (fun _ _ h => h)
      have r8 := row_tb r8 t11 (fun _ _ h => h) (S := fun _ => False)
      refine step_run (v := .pointer (some ⟨b3, 0, none⟩)) (w' := x11) rfl (by rw [h11, hb3]; go_simp) ?_
      clear h11 hb3
      refine hK.out _ _ (HSS.out _ Tx11) (fun hHeld => ?_)
      clear hK K
      simp only [Act.put, List.getElem_toArray, List.getElem_cons_succ, List.getElem_cons_zero, List.setIfInBounds_toArray, List.set_cons_succ, List.set_cons_zero]
      refine wpAnyH_ready (rs := [9]) (by kernel_rfl) (by simp) ?_
      refine AllReadyH.cons rfl (fun K hK => ?_) ?_
      · refine exEq (x11.alloc (.map #[] 0)) (fun x9 h9 => ?_)
        have t9 : Tb (fun _ => False) x11 x9 := by rw [h9]; exact (Tb.refl _ _).alloc _
        refine exEq (x11.heap.size) (fun u9 hu9 => ?_)
        have m9 : x9.heap[u9]? = some (.map #[] 0) := by rw [h9, hu9]; exact heap_alloc_new _ _
        have l9 : wd.heap.size ≤ u9 := by rw [hu9]; exact (Tx11).size
        have Tx9 : Tb (fun _ => False) wd x9 := (Tx11).trans t9 (fun _ _ h => h)
        have r8 := row_tb r8 t9 (fun _ _ h => h) (S := fun _ => False)
        have b11 := heap_tb b11 t9
        refine step_run (v := .map (some u9)) (w' := x9) rfl (by rw [h9, hu9]; go_simp) ?_
        clear h9 hu9
        refine hK.out _ _ (HSS.out _ Tx9) (fun hHeld => ?_)
        clear hK K
        simp only [Act.put, List.getElem_toArray, List.getElem_cons_succ, List.getElem_cons_zero, List.setIfInBounds_toArray, List.set_cons_succ, List.set_cons_zero]
        refine wpAnyH_take (i := 10) (v := (.agg #[.int .i64 o.last, .slice a8 N c8, .map (some u9)])) rfl (by kernel_rfl) (by kernel_rfl) (by kernel_rfl) (fun _ _ _ h => h) (Or.inl ⟨by rfl, ?hy⟩) hHeld ?_
        case hy => (intro V hV; obtain ⟨hV1, hV2⟩ := hV; go_simp)
        simp only [Act.put, List.getElem_toArray, List.getElem_cons_succ, List.getElem_cons_zero, List.setIfInBounds_toArray, List.set_cons_succ, List.set_cons_zero]
        refine wpAnyH_ready (rs := [12]) (by kernel_rfl) (by simp) ?_
        refine AllReadyH.cons rfl (fun K hK => ?_) AllReadyH.nil
        have P := Pz.fin (last := o.last) r8 m9 b11 Tx9 l9 l11
        refine step_store50 (B := b3) (cs := #[.int .i64 o.last, .slice a8 N c8, .map (some u9)]) rfl rfl (by simp [Act.eval]) (by simp [Act.eval]) b11 rfl rfl (by simp [Value.oneCell']) ?_
        refine hK.out _ _ (HSS.out _ P.tb) (fun hHeld => ?_)
        clear hK K
        refine wpAnyH_done (by kernel_rfl) ?_ _
        simp only [Act.put, List.getElem_toArray, List.getElem_cons_succ, List.getElem_cons_zero, List.setIfInBounds_toArray, List.set_cons_succ, List.set_cons_zero]
        exact hk.out (.slice a8 N c8) u9 b3 _ P
      exact AllReadyH.nil
    exact AllReadyH.nil
  refine AllReadyH.cons rfl (fun K hK => ?_) ?_
  · refine exEq (wd.alloc (.map #[] 0)) (fun x9 h9 => ?_)
    have t9 : Tb (fun _ => False) wd x9 := by rw [h9]; exact (Tb.refl _ _).alloc _
    refine exEq (wd.heap.size) (fun u9 hu9 => ?_)
    have m9 : x9.heap[u9]? = some (.map #[] 0) := by rw [h9, hu9]; exact heap_alloc_new _ _
    have l9 : wd.heap.size ≤ u9 := by rw [hu9]; exact (T0).size
    have Tx9 : Tb (fun _ => False) wd x9 := (T0).trans t9 (fun _ _ h => h)
    refine step_run (v := .map (some u9)) (w' := x9) rfl (by rw [h9, hu9]; go_simp) ?_
    clear h9 hu9
    refine hK.out _ _ (HSS.out _ Tx9) (fun hHeld => ?_)
    clear hK K
    simp only [Act.put, List.getElem_toArray, List.getElem_cons_succ, List.getElem_cons_zero, List.setIfInBounds_toArray, List.set_cons_succ, List.set_cons_zero]
    refine wpAnyH_ready (rs := [8, 11]) (by kernel_rfl) (by simp) ?_
    refine AllReadyH.cons rfl (fun K hK => ?_) ?_
    · refine HA.out x9 Tx9 (fun a8 c8 x8 hr8 r8 t8 => ?_)
      have Tx8 : Tb (fun _ => False) wd x8 := (Tx9).trans t8 (fun _ _ h => h)
      have m9 := heap_tb m9 t8
      refine step_run rfl (exec_append (.slice none 0 0) o.ns rfl (by simp [Act.eval]) (by simp [Act.eval]) hr8) ?_
      refine hK.out _ _ (HSS.out _ Tx8) (fun hHeld => ?_)
      clear hK K
      simp only [Act.put, List.getElem_toArray, List.getElem_cons_succ, List.getElem_cons_zero, List.setIfInBounds_toArray, List.set_cons_succ, List.set_cons_zero]
      refine wpAnyH_take (i := 10) (v := (.agg #[.int .i64 o.last, .slice a8 N c8, .map (some u9)])) rfl (by kernel_rfl) (by kernel_rfl) (by kernel_rfl) (fun _ _ _ h => h) (Or.inl ⟨by rfl, ?hy⟩) hHeld ?_
      case hy => (intro V hV; obtain ⟨hV1, hV2⟩ := hV; go_simp)
      simp only [Act.put, List.getElem_toArray, List.getElem_cons_succ, List.getElem_cons_zero, List.setIfInBounds_toArray, List.set_cons_succ, List.set_cons_zero]
      refine wpAnyH_ready (rs := [11]) (by kernel_rfl) (by simp) ?_
      refine AllReadyH.cons rfl (fun K hK => ?_) ?_
      · refine exEq (x8.alloc (.cells #[.int .i64 0, .slice none 0 0, .map none] (50 : TypeId))) (fun x11 h11 => ?_)
        have t11 : Tb (fun _ => False) x8 x11 := by rw [h11]; exact (Tb.refl _ _).alloc _
        refine exEq (x8.heap.size) (fun b3 hb3 => ?_)
        have b11 : x11.heap[b3]? = some (.cells #[.int .i64 0, .slice none 0 0, .map none] (50 : TypeId) (0, 0)) := by rw [h11, hb3]; exact heap_alloc_new _ _
        have l11 : wd.heap.size ≤ b3 := by rw [hb3]; exact (Tx8).size
        have Tx11 : Tb (fun _ => False) wd x11 := (Tx8).trans t11 (fun _ _ h => h)
        have r8 := row_tb r8 t11 (fun _ _ h => h) (S := fun _ => False)
        have m9 := heap_tb m9 t11
        refine step_run (v := .pointer (some ⟨b3, 0, none⟩)) (w' := x11) rfl (by rw [h11, hb3]; go_simp) ?_
        clear h11 hb3
        refine hK.out _ _ (HSS.out _ Tx11) (fun hHeld => ?_)
        clear hK K
        simp only [Act.put, List.getElem_toArray, List.getElem_cons_succ, List.getElem_cons_zero, List.setIfInBounds_toArray, List.set_cons_succ, List.set_cons_zero]
        refine wpAnyH_ready (rs := [12]) (by kernel_rfl) (by simp) ?_
        refine AllReadyH.cons rfl (fun K hK => ?_) AllReadyH.nil
        have P := Pz.fin (last := o.last) r8 m9 b11 Tx11 l9 l11
        refine step_store50 (B := b3) (cs := #[.int .i64 o.last, .slice a8 N c8, .map (some u9)]) rfl rfl (by simp [Act.eval]) (by simp [Act.eval]) b11 rfl rfl (by simp [Value.oneCell']) ?_
        refine hK.out _ _ (HSS.out _ P.tb) (fun hHeld => ?_)
        clear hK K
        refine wpAnyH_done (by kernel_rfl) ?_ _
        simp only [Act.put, List.getElem_toArray, List.getElem_cons_succ, List.getElem_cons_zero, List.setIfInBounds_toArray, List.set_cons_succ, List.set_cons_zero]
        exact hk.out (.slice a8 N c8) u9 b3 _ P
      exact AllReadyH.nil
    refine AllReadyH.cons rfl (fun K hK => ?_) ?_
    · refine exEq (x9.alloc (.cells #[.int .i64 0, .slice none 0 0, .map none] (50 : TypeId))) (fun x11 h11 => ?_)
      have t11 : Tb (fun _ => False) x9 x11 := by rw [h11]; exact (Tb.refl _ _).alloc _
      refine exEq (x9.heap.size) (fun b3 hb3 => ?_)
      have b11 : x11.heap[b3]? = some (.cells #[.int .i64 0, .slice none 0 0, .map none] (50 : TypeId) (0, 0)) := by rw [h11, hb3]; exact heap_alloc_new _ _
      have l11 : wd.heap.size ≤ b3 := by rw [hb3]; exact (Tx9).size
      have Tx11 : Tb (fun _ => False) wd x11 := (Tx9).trans t11 (fun _ _ h => h)
      have m9 := heap_tb m9 t11
      refine step_run (v := .pointer (some ⟨b3, 0, none⟩)) (w' := x11) rfl (by rw [h11, hb3]; go_simp) ?_
      clear h11 hb3
      refine hK.out _ _ (HSS.out _ Tx11) (fun hHeld => ?_)
      clear hK K
      simp only [Act.put, List.getElem_toArray, List.getElem_cons_succ, List.getElem_cons_zero, List.setIfInBounds_toArray, List.set_cons_succ, List.set_cons_zero]
      refine wpAnyH_ready (rs := [8]) (by kernel_rfl) (by simp) ?_
      refine AllReadyH.cons rfl (fun K hK => ?_) ?_
      · refine HA.out x11 Tx11 (fun a8 c8 x8 hr8 r8 t8 => ?_)
        have Tx8 : Tb (fun _ => False) wd x8 := (Tx11).trans t8 (fun _ _ h => h)
        have m9 := heap_tb m9 t8
        have b11 := heap_tb b11 t8
        refine step_run rfl (exec_append (.slice none 0 0) o.ns rfl (by simp [Act.eval]) (by simp [Act.eval]) hr8) ?_
        refine hK.out _ _ (HSS.out _ Tx8) (fun hHeld => ?_)
        clear hK K
        simp only [Act.put, List.getElem_toArray, List.getElem_cons_succ, List.getElem_cons_zero, List.setIfInBounds_toArray, List.set_cons_succ, List.set_cons_zero]
        refine wpAnyH_take (i := 10) (v := (.agg #[.int .i64 o.last, .slice a8 N c8, .map (some u9)])) rfl (by kernel_rfl) (by kernel_rfl) (by kernel_rfl) (fun _ _ _ h => h) (Or.inl ⟨by rfl, ?hy⟩) hHeld ?_
        case hy => (intro V hV; obtain ⟨hV1, hV2⟩ := hV; go_simp)
        simp only [Act.put, List.getElem_toArray, List.getElem_cons_succ, List.getElem_cons_zero, List.setIfInBounds_toArray, List.set_cons_succ, List.set_cons_zero]
        refine wpAnyH_ready (rs := [12]) (by kernel_rfl) (by simp) ?_
        refine AllReadyH.cons rfl (fun K hK => ?_) AllReadyH.nil
        have P := Pz.fin (last := o.last) r8 m9 b11 Tx8 l9 l11
        refine step_store50 (B := b3) (cs := #[.int .i64 o.last, .slice a8 N c8, .map (some u9)]) rfl rfl (by simp [Act.eval]) (by simp [Act.eval]) b11 rfl rfl (by simp [Value.oneCell']) ?_
        refine hK.out _ _ (HSS.out _ P.tb) (fun hHeld => ?_)
        clear hK K
        refine wpAnyH_done (by kernel_rfl) ?_ _
        simp only [Act.put, List.getElem_toArray, List.getElem_cons_succ, List.getElem_cons_zero, List.setIfInBounds_toArray, List.set_cons_succ, List.set_cons_zero]
        exact hk.out (.slice a8 N c8) u9 b3 _ P
      exact AllReadyH.nil
    exact AllReadyH.nil
  refine AllReadyH.cons rfl (fun K hK => ?_) ?_
  · refine exEq (wd.alloc (.cells #[.int .i64 0, .slice none 0 0, .map none] (50 : TypeId))) (fun x11 h11 => ?_)
    have t11 : Tb (fun _ => False) wd x11 := by rw [h11]; exact (Tb.refl _ _).alloc _
    refine exEq (wd.heap.size) (fun b3 hb3 => ?_)
    have b11 : x11.heap[b3]? = some (.cells #[.int .i64 0, .slice none 0 0, .map none] (50 : TypeId) (0, 0)) := by rw [h11, hb3]; exact heap_alloc_new _ _
    have l11 : wd.heap.size ≤ b3 := by rw [hb3]; exact (T0).size
    have Tx11 : Tb (fun _ => False) wd x11 := (T0).trans t11 (fun _ _ h => h)
    refine step_run (v := .pointer (some ⟨b3, 0, none⟩)) (w' := x11) rfl (by rw [h11, hb3]; go_simp) ?_
    clear h11 hb3
    refine hK.out _ _ (HSS.out _ Tx11) (fun hHeld => ?_)
    clear hK K
    simp only [Act.put, List.getElem_toArray, List.getElem_cons_succ, List.getElem_cons_zero, List.setIfInBounds_toArray, List.set_cons_succ, List.set_cons_zero]
    refine wpAnyH_ready (rs := [8, 9]) (by kernel_rfl) (by simp) ?_
    refine AllReadyH.cons rfl (fun K hK => ?_) ?_
    · refine HA.out x11 Tx11 (fun a8 c8 x8 hr8 r8 t8 => ?_)
      have Tx8 : Tb (fun _ => False) wd x8 := (Tx11).trans t8 (fun _ _ h => h)
      have b11 := heap_tb b11 t8
      refine step_run rfl (exec_append (.slice none 0 0) o.ns rfl (by simp [Act.eval]) (by simp [Act.eval]) hr8) ?_
      refine hK.out _ _ (HSS.out _ Tx8) (fun hHeld => ?_)
      clear hK K
      simp only [Act.put, List.getElem_toArray, List.getElem_cons_succ, List.getElem_cons_zero, List.setIfInBounds_toArray, List.set_cons_succ, List.set_cons_zero]
      refine wpAnyH_ready (rs := [9]) (by kernel_rfl) (by simp) ?_
      refine AllReadyH.cons rfl (fun K hK => ?_) ?_
      · refine exEq (x8.alloc (.map #[] 0)) (fun x9 h9 => ?_)
        have t9 : Tb (fun _ => False) x8 x9 := by rw [h9]; exact (Tb.refl _ _).alloc _
        refine exEq (x8.heap.size) (fun u9 hu9 => ?_)
        have m9 : x9.heap[u9]? = some (.map #[] 0) := by rw [h9, hu9]; exact heap_alloc_new _ _
        have l9 : wd.heap.size ≤ u9 := by rw [hu9]; exact (Tx8).size
        have Tx9 : Tb (fun _ => False) wd x9 := (Tx8).trans t9 (fun _ _ h => h)
        have r8 := row_tb r8 t9 (fun _ _ h => h) (S := fun _ => False)
        have b11 := heap_tb b11 t9
        refine step_run (v := .map (some u9)) (w' := x9) rfl (by rw [h9, hu9]; go_simp) ?_
        clear h9 hu9
        refine hK.out _ _ (HSS.out _ Tx9) (fun hHeld => ?_)
        clear hK K
        simp only [Act.put, List.getElem_toArray, List.getElem_cons_succ, List.getElem_cons_zero, List.setIfInBounds_toArray, List.set_cons_succ, List.set_cons_zero]
        refine wpAnyH_take (i := 10) (v := (.agg #[.int .i64 o.last, .slice a8 N c8, .map (some u9)])) rfl (by kernel_rfl) (by kernel_rfl) (by kernel_rfl) (fun _ _ _ h => h) (Or.inl ⟨by rfl, ?hy⟩) hHeld ?_
        case hy => (intro V hV; obtain ⟨hV1, hV2⟩ := hV; go_simp)
        simp only [Act.put, List.getElem_toArray, List.getElem_cons_succ, List.getElem_cons_zero, List.setIfInBounds_toArray, List.set_cons_succ, List.set_cons_zero]
        refine wpAnyH_ready (rs := [12]) (by kernel_rfl) (by simp) ?_
        refine AllReadyH.cons rfl (fun K hK => ?_) AllReadyH.nil
        have P := Pz.fin (last := o.last) r8 m9 b11 Tx9 l9 l11
        refine step_store50 (B := b3) (cs := #[.int .i64 o.last, .slice a8 N c8, .map (some u9)]) rfl rfl (by simp [Act.eval]) (by simp [Act.eval]) b11 rfl rfl (by simp [Value.oneCell']) ?_
        refine hK.out _ _ (HSS.out _ P.tb) (fun hHeld => ?_)
        clear hK K
        refine wpAnyH_done (by kernel_rfl) ?_ _
        simp only [Act.put, List.getElem_toArray, List.getElem_cons_succ, List.getElem_cons_zero, List.setIfInBounds_toArray, List.set_cons_succ, List.set_cons_zero]
        exact hk.out (.slice a8 N c8) u9 b3 _ P
      exact AllReadyH.nil
    refine AllReadyH.cons rfl (fun K hK => ?_) ?_
    · refine exEq (x11.alloc (.map #[] 0)) (fun x9 h9 => ?_)
      have t9 : Tb (fun _ => False) x11 x9 := by rw [h9]; exact (Tb.refl _ _).alloc _
      refine exEq (x11.heap.size) (fun u9 hu9 => ?_)
      have m9 : x9.heap[u9]? = some (.map #[] 0) := by rw [h9, hu9]; exact heap_alloc_new _ _
      have l9 : wd.heap.size ≤ u9 := by rw [hu9]; exact (Tx11).size
      have Tx9 : Tb (fun _ => False) wd x9 := (Tx11).trans t9 (fun _ _ h => h)
      have b11 := heap_tb b11 t9
      refine step_run (v := .map (some u9)) (w' := x9) rfl (by rw [h9, hu9]; go_simp) ?_
      clear h9 hu9
      refine hK.out _ _ (HSS.out _ Tx9) (fun hHeld => ?_)
      clear hK K
      simp only [Act.put, List.getElem_toArray, List.getElem_cons_succ, List.getElem_cons_zero, List.setIfInBounds_toArray, List.set_cons_succ, List.set_cons_zero]
      refine wpAnyH_ready (rs := [8]) (by kernel_rfl) (by simp) ?_
      refine AllReadyH.cons rfl (fun K hK => ?_) ?_
      · refine HA.out x9 Tx9 (fun a8 c8 x8 hr8 r8 t8 => ?_)
        have Tx8 : Tb (fun _ => False) wd x8 := (Tx9).trans t8 (fun _ _ h => h)
        have m9 := heap_tb m9 t8
        have b11 := heap_tb b11 t8
        refine step_run rfl (exec_append (.slice none 0 0) o.ns rfl (by simp [Act.eval]) (by simp [Act.eval]) hr8) ?_
        refine hK.out _ _ (HSS.out _ Tx8) (fun hHeld => ?_)
        clear hK K
        simp only [Act.put, List.getElem_toArray, List.getElem_cons_succ, List.getElem_cons_zero, List.setIfInBounds_toArray, List.set_cons_succ, List.set_cons_zero]
        refine wpAnyH_take (i := 10) (v := (.agg #[.int .i64 o.last, .slice a8 N c8, .map (some u9)])) rfl (by kernel_rfl) (by kernel_rfl) (by kernel_rfl) (fun _ _ _ h => h) (Or.inl ⟨by rfl, ?hy⟩) hHeld ?_
        case hy => (intro V hV; obtain ⟨hV1, hV2⟩ := hV; go_simp)
        simp only [Act.put, List.getElem_toArray, List.getElem_cons_succ, List.getElem_cons_zero, List.setIfInBounds_toArray, List.set_cons_succ, List.set_cons_zero]
        refine wpAnyH_ready (rs := [12]) (by kernel_rfl) (by simp) ?_
        refine AllReadyH.cons rfl (fun K hK => ?_) AllReadyH.nil
        have P := Pz.fin (last := o.last) r8 m9 b11 Tx8 l9 l11
        refine step_store50 (B := b3) (cs := #[.int .i64 o.last, .slice a8 N c8, .map (some u9)]) rfl rfl (by simp [Act.eval]) (by simp [Act.eval]) b11 rfl rfl (by simp [Value.oneCell']) ?_
        refine hK.out _ _ (HSS.out _ P.tb) (fun hHeld => ?_)
        clear hK K
        refine wpAnyH_done (by kernel_rfl) ?_ _
        simp only [Act.put, List.getElem_toArray, List.getElem_cons_succ, List.getElem_cons_zero, List.setIfInBounds_toArray, List.set_cons_succ, List.set_cons_zero]
        exact hk.out (.slice a8 N c8) u9 b3 _ P
      exact AllReadyH.nil
    exact AllReadyH.nil
  exact AllReadyH.nil

end Go.Proofs.Ytikhgjnjlkaobaa

/-
  A disk copied: the parts of the copy.
-/
namespace Go.Proofs.Ytikhgjnjlkaobaa
open Go.RowKit
set_option maxRecDepth 100000
set_option maxRecDepth 100000
set_option linter.unusedVariables false

/-- A copied shape, in blocks from lo up to hi. -/
structure PS (lo hi : Nat) (V : World) (a : Int) (L : Lb) (nb rb : Nat) (s : Shp) : Prop where
  lw : ∀ g, g < lo → L g = (0, 0)
  hg : ∀ g, hi ≤ g → L g = (0, 0)
  le : hi ≤ V.heap.size
  sh : Sh V L a nb rb s

/-- A copied backlog, in blocks from lo up to hi. -/
structure PB (lo hi : Nat) (V : World) (L : Lb) (us : Nat) (ns : Value) (last : Int) (l : List Stp) : Prop where
  lw : ∀ g, g < lo → L g = (0, 0)
  hg : ∀ g, hi ≤ g → L g = (0, 0)
  le : hi ≤ V.heap.size
  bk : Bk V L us ns last l

section
variable {lo hi : Nat} {V X : World} {a : Int} {L L2 : Lb} {nb rb us : Nat} {s : Shp} {ns : Value} {last : Int} {l : List Stp}

theorem PS.on (h : PS lo hi V a L nb rb s) (ht : Tb (fun _ => False) V X) : PS lo hi X a L nb rb s :=
  ⟨h.lw, h.hg, Nat.le_trans h.le ht.size, h.sh.tb ht (Lx.refl _ _) (fun _ _ h => h)⟩
theorem PB.on (h : PB lo hi V L us ns last l) (ht : Tb (fun _ => False) V X) : PB lo hi X L us ns last l :=
  ⟨h.lw, h.hg, Nat.le_trans h.le ht.size, h.bk.tb ht (Lx.refl _ _) (fun _ _ h => h)⟩

theorem Sh.relab (h : Sh V L a nb rb s) (hl : ∀ g, TA a (L g) → L2 g = L g) : Sh V L2 a nb rb s :=
  h.relabel (fun g e => by rw [hl g (.inl (by rw [e]))]; exact e) (fun g e => by rw [hl g (.inr (.inl (by rw [e])))]; exact e) (fun g f e => by rw [hl g (.inr (.inr (by rw [e])))]; exact e)

theorem Bk.relab (h : Bk V L us ns last l) (hl : ∀ g, TB (L g) → L2 g = L g) : Bk V L2 us ns last l := by
  obtain ⟨sec, h1, h2, h3⟩ := h.map
  refine ⟨h.row, fun g hg => ?_, ⟨sec, h1.relabel (fun g f e => ?_), h2, h3⟩, ?_, h.ok, h.up, h.no, h.last⟩
  · rw [hl g (.inr (.inl (by rw [h.rlb g hg])))]
    exact h.rlb g hg
  · rw [hl g (.inr (.inr (by rw [e])))]
    exact e
  · rw [hl us (.inl (by rw [h.mlb]))]
    exact h.mlb

theorem notTA0 {b : Int} (hb : b = 2 ∨ b = 4) : ¬ TA b (0, 0) := by
  unfold TA
  simp only
  omega
theorem notTB0 : ¬ TB (0, 0) := by
  unfold TB
  simp
end

/-- The labels of a copy. -/
def joinL (L1 L2 L3 : Lb) (R : Nat) : Lb := fun g => if g = R then (1, 0) else if L1 g ≠ (0, 0) then L1 g else if L2 g ≠ (0, 0) then L2 g else L3 g

theorem copy_fin {w X Y : World} {d : Dsk} {o : Ob} {L1 L2 L3 : Lb} {lo1 hi1 lo2 hi2 lo3 hi3 : Nat} (hT : Tb (fun _ => False) w X) (p1 : PS lo1 hi1 X 2 L1 o.dn o.dr d.dur) (p2 : PS lo2 hi2 X 4 L2 o.sn o.sr d.std) (p3 : PB lo3 hi3 X L3 o.us o.ns o.last d.l)
    (h1 : w.heap.size ≤ lo1) (h2 : w.heap.size ≤ lo2) (h3 : w.heap.size ≤ lo3) (d12 : hi1 ≤ lo2 ∨ hi2 ≤ lo1) (d13 : hi1 ≤ lo3 ∨ hi3 ≤ lo1) (d23 : hi2 ≤ lo3 ∨ hi3 ≤ lo2) (hO : Oj Y X.heap.size o) (hY : Tb (fun k => k = X.heap.size) X Y) (hs : Says o d) : Aw w X.heap.size d Y := by
  have l1 := p1.le
  have l2 := p2.le
  have l3 := p3.le
  have hw := hT.size
  have j1 : ∀ g, TA 2 (L1 g) → joinL L1 L2 L3 X.heap.size g = L1 g := fun g hg => by
    have hn : L1 g ≠ (0, 0) := fun e => by rw [e] at hg; exact notTA0 (.inl rfl) hg
    have hlt : ¬ hi1 ≤ g := fun e => hn (p1.hg g e)
    unfold joinL
    rw [if_neg (by omega), if_pos hn]
  have j2 : ∀ g, TA 4 (L2 g) → joinL L1 L2 L3 X.heap.size g = L2 g := fun g hg => by
    have hn : L2 g ≠ (0, 0) := fun e => by rw [e] at hg; exact notTA0 (.inr rfl) hg
    have hlt : ¬ hi2 ≤ g := fun e => hn (p2.hg g e)
    have hge : ¬ g < lo2 := fun e => hn (p2.lw g e)
    have h0 : L1 g = (0, 0) := by
      rcases d12 with h | h
      · exact p1.hg g (by omega)
      · exact p1.lw g (by omega)
    unfold joinL
    rw [if_neg (by omega), if_neg (by simp [h0]), if_pos hn]
  have j3 : ∀ g, TB (L3 g) → joinL L1 L2 L3 X.heap.size g = L3 g := fun g hg => by
    have hn : L3 g ≠ (0, 0) := fun e => by rw [e] at hg; exact notTB0 hg
    have hlt : ¬ hi3 ≤ g := fun e => hn (p3.hg g e)
    have hge : ¬ g < lo3 := fun e => hn (p3.lw g e)
    have h0 : L1 g = (0, 0) := by
      rcases d13 with h | h
      · exact p1.hg g (by omega)
      · exact p1.lw g (by omega)
    have h00 : L2 g = (0, 0) := by
      rcases d23 with h | h
      · exact p2.hg g (by omega)
      · exact p2.lw g (by omega)
    unfold joinL
    rw [if_neg (by omega), if_neg (by simp [h0]), if_neg (by simp [h00])]
  refine ⟨joinL L1 L2 L3 X.heap.size, ⟨o, ⟨hO, by unfold joinL; rw [if_pos rfl], ?_, ?_, ?_⟩, hs⟩, fun g hg => ?_, hT.trans hY (fun i hi e => by omega)⟩
  · exact (p1.sh.tb hY (Lx.refl _ _) (fun g hg e => by rw [p1.hg g (by omega)] at hg; exact notTA0 (.inl rfl) hg)).relab j1
  · exact (p2.sh.tb hY (Lx.refl _ _) (fun g hg e => by rw [p2.hg g (by omega)] at hg; exact notTA0 (.inr rfl) hg)).relab j2
  · exact (p3.bk.tb hY (Lx.refl _ _) (fun g hg e => by rw [p3.hg g (by omega)] at hg; exact notTB0 hg)).relab j3
  · unfold joinL
    rw [if_neg (by omega), if_neg (by simp [p1.lw g (by omega)]), if_neg (by simp [p2.lw g (by omega)])]
    exact p3.lw g (by omega)

theorem built57c (a b c d e : Nat) (last made failure : Int) (ns : Value) (down : Bool) : Try.prog.built (57 : TypeId) [(1, .agg #[.map (some a), .map (some b)]), (2, .agg #[.map (some c), .map (some d)]), (3, .agg #[.int .i64 last, ns, .map (some e)]), (4, .int .i64 made), (5, .bool down), (8, .int .i64 failure)] =
    some #[.pointer none, .map (some a), .map (some b), .map (some c), .map (some d), .int .i64 last, ns, .map (some e), .int .i64 made, .bool down, .int .i64 0, .int .i64 0, .int .i64 failure] := by kernel_rfl

end Go.Proofs.Ytikhgjnjlkaobaa

/-
  A disk copied.
-/
namespace Go.Proofs.Ytikhgjnjlkaobaa
open Go.RowKit
set_option maxRecDepth 100000
set_option maxRecDepth 100000
set_option linter.unusedVariables false

set_option maxHeartbeats 8000000 in
theorem copy_any {w : World} {L : Lb} {R : Nat} {d : Dsk} {K : Nat} (h : Dk w L R d) (hf : Few d K) :
    Calls Try.prog 17 #[.pointer (some ⟨R, 0, none⟩)] w fun e w' => ∃ R2, e = .returned (.pointer (some ⟨R2, 0, none⟩)) ∧ w.heap.size ≤ R2 ∧ Aw w R2 d w' := by
  obtain ⟨o, hd, hs⟩ := h
  have hr := right_yes hd.oj
  have hk := hf.k
  have hl := hf.last
  have C1 : Hid (∀ V, Tb (fun _ => False) w V → Calls Try.prog 44 #[.agg #[.map (some o.dn), .map (some o.dr)]] V fun e V' => ∃ nb rb L2, e = .returned (.agg #[.map (some nb), .map (some rb)]) ∧ PS V.heap.size V'.heap.size V' 2 L2 nb rb d.dur ∧ Tb (fun _ => False) V V') := hide (fun V ht => by
    have hV := hd.tb ht (Lx.refl _ _) (fun _ _ h => h)
    refine (copied_new 2 hV.dur.nm hV.dur.rw hf.dur (by omega) (.inl rfl)).mono ?_
    rintro e V' ⟨nb, rb, L2, rfl, b1, b2, b3, b4⟩
    exact ⟨nb, rb, onlyL V' L2, rfl, ⟨fun g hg => by rw [onlyL_lx V' L2 g (Nat.lt_of_lt_of_le hg b4.size)]; exact b1 g hg, fun g hg => onlyL_new hg, Nat.le_refl _, b3.tb (Tb.refl (fun _ => False) _) (onlyL_lx _ _) (fun _ _ h => h)⟩, b4⟩)
  have C2 : Hid (∀ V, Tb (fun _ => False) w V → Calls Try.prog 44 #[.agg #[.map (some o.sn), .map (some o.sr)]] V fun e V' => ∃ nb rb L2, e = .returned (.agg #[.map (some nb), .map (some rb)]) ∧ PS V.heap.size V'.heap.size V' 4 L2 nb rb d.std ∧ Tb (fun _ => False) V V') := hide (fun V ht => by
    have hV := hd.tb ht (Lx.refl _ _) (fun _ _ h => h)
    refine (copied_new 4 hV.std.nm hV.std.rw hf.std (by omega) (.inr rfl)).mono ?_
    rintro e V' ⟨nb, rb, L2, rfl, b1, b2, b3, b4⟩
    exact ⟨nb, rb, onlyL V' L2, rfl, ⟨fun g hg => by rw [onlyL_lx V' L2 g (Nat.lt_of_lt_of_le hg b4.size)]; exact b1 g hg, fun g hg => onlyL_new hg, Nat.le_refl _, b3.tb (Tb.refl (fun _ => False) _) (onlyL_lx _ _) (fun _ _ h => h)⟩, b4⟩)
  have C3 : Hid (∀ V, Tb (fun _ => False) w V → Calls Try.prog 52 #[.pointer (some ⟨R, 5, none⟩)] V fun e V' => ∃ na nn nc us L2, e = .returned (.agg #[.int .i64 o.last, .slice na nn nc, .map (some us)]) ∧ PB V.heap.size V'.heap.size V' L2 us (.slice na nn nc) o.last d.l ∧ Tb (fun _ => False) V V') := hide (fun V ht => by
    have hV := hd.tb ht (Lx.refl _ _) (fun _ _ h => h)
    refine (blCopied_any hV (by rw [hs.last]; omega)).mono ?_
    rintro e V' ⟨ns', us', L2, rfl, b1, b2, b3, b4⟩
    obtain ⟨na, nc, rfl⟩ := row_val b3.row
    exact ⟨na, _, nc, us', onlyL V' L2, rfl, ⟨fun g hg => by rw [onlyL_lx V' L2 g (Nat.lt_of_lt_of_le hg b4.size)]; exact b1 g hg, fun g hg => onlyL_new hg, Nat.le_refl _, b3.tb (Tb.refl (fun _ => False) _) (onlyL_lx _ _) (fun _ _ h => h)⟩, b4⟩)
  have c1 : w.cell? ⟨R, 1, none⟩ = some (.map (some o.dn)) := hd.oj.c 1
  have c2 : w.cell? ⟨R, 2, none⟩ = some (.map (some o.dr)) := hd.oj.c 2
  have c3 : w.cell? ⟨R, 3, none⟩ = some (.map (some o.sn)) := hd.oj.c 3
  have c4 : w.cell? ⟨R, 4, none⟩ = some (.map (some o.sr)) := hd.oj.c 4
  have c8 : w.cell? ⟨R, 8, none⟩ = some (.int .i64 o.made) := hd.oj.c 8
  have c9 : w.cell? ⟨R, 9, none⟩ = some (.bool o.down) := hd.oj.c 9
  have c12 : w.cell? ⟨R, 12, none⟩ = some (.int .i64 o.failure) := hd.oj.c 12
  have HS : Hid (∀ V, Tb (fun _ => False) w V → V.cell? ⟨R, 1, none⟩ = some (.map (some o.dn)) ∧ V.cell? ⟨R, 2, none⟩ = some (.map (some o.dr)) ∧ V.cell? ⟨R, 3, none⟩ = some (.map (some o.sn)) ∧ V.cell? ⟨R, 4, none⟩ = some (.map (some o.sr)) ∧ V.cell? ⟨R, 8, none⟩ = some (.int .i64 o.made) ∧ V.cell? ⟨R, 9, none⟩ = some (.bool o.down) ∧ V.cell? ⟨R, 12, none⟩ = some (.int .i64 o.failure)) := hide (fun V ht => ⟨ht.cell c1 (fun h => h), ht.cell c2 (fun h => h), ht.cell c3 (fun h => h), ht.cell c4 (fun h => h), ht.cell c8 (fun h => h), ht.cell c9 (fun h => h), ht.cell c12 (fun h => h)⟩)
  have HO := hide hd.oj
  have HSY := hide hs
  have hT : Tb (fun _ => False) w w.drew := (Tb.refl _ _).drew
  have B57 : Hid (∀ (V : World) (a b c d e : Nat) (na : Option Addr) (nn nc : Nat), (Instr.build (57 : TypeId) #[(1, .agg #[.map (some a), .map (some b)]), (2, .agg #[.map (some c), .map (some d)]), (3, .agg #[.int .i64 o.last, .slice na nn nc, .map (some e)]), (4, .int .i64 o.made), (5, .bool o.down), (8, .int .i64 o.failure)]).run Try.prog V = .ok (.agg #[.pointer none, .map (some a), .map (some b), .map (some c), .map (some d), .int .i64 o.last, .slice na nn nc, .map (some e), .int .i64 o.made, .bool o.down, .int .i64 0, .int .i64 0, .int .i64 o.failure]) V) := hide (fun V a b c d e na nn nc => run_build V _ _ _ (built57c a b c d e o.last o.made o.failure (.slice na nn nc) o.down))
  have b57 := B57.out
  clear hd hs c1 c2 c3 c4 c8 c9 c12 hk hl hf
  go_enter Try.func17, Try.ntmps17
  go_wp2_with fail
  refine hr.mono ?_
  rintro e w1 ⟨rfl, rfl⟩
  go_wp2_with fail
  go_region_held3 (fun V => V.cell? ⟨R, 1, none⟩ = some (.map (some o.dn)) ∧ V.cell? ⟨R, 2, none⟩ = some (.map (some o.dr)) ∧ V.cell? ⟨R, 3, none⟩ = some (.map (some o.sn)) ∧ V.cell? ⟨R, 4, none⟩ = some (.map (some o.sr)) ∧ V.cell? ⟨R, 8, none⟩ = some (.int .i64 o.made) ∧ V.cell? ⟨R, 9, none⟩ = some (.bool o.down) ∧ V.cell? ⟨R, 12, none⟩ = some (.int .i64 o.failure))
    (first | exact HS.out _ (by assumption) | exact HS.out _ (Tb.alloc (by assumption) _))
    (first
      | (go_at_call_of 44 (Value.agg #[.map (some o.dn), .map (some o.dr)]); refine (C1.out _ hT).mono ?_; rintro e X ⟨nb1, rb1, L1, rfl, p1, t1⟩; replace hT := hT.trans t1 (fun _ _ h => h); try replace p2 := p2.on t1; try replace p3 := p3.on t1)
      | (go_at_call_of 44 (Value.agg #[.map (some o.sn), .map (some o.sr)]); refine (C2.out _ hT).mono ?_; rintro e X ⟨nb2, rb2, L2, rfl, p2, t2⟩; replace hT := hT.trans t2 (fun _ _ h => h); try replace p1 := p1.on t2; try replace p3 := p3.on t2)
      | (go_at_call 52; refine (C3.out _ hT).mono ?_; rintro e X ⟨na, nn, nc, us, L3, rfl, p3, t3⟩; replace hT := hT.trans t3 (fun _ _ h => h); try replace p1 := p1.on t3; try replace p2 := p2.on t3))
  all_goals
    have s0 : w1.drew.heap.size = w1.heap.size := rfl
    have s1 := t1.size
    have s2 := t2.size
    have s3 := t3.size
    have FIN : Hid (∀ Y, Oj Y X.heap.size ⟨nb1, rb1, nb2, rb2, o.last, .slice na nn nc, us, o.made, o.down, o.armed, o.failing, o.failure⟩ → Tb (fun k => k = X.heap.size) X Y → w1.heap.size ≤ X.heap.size ∧ Aw w1 X.heap.size d Y) := hide (fun Y hO hY => ⟨hT.size, copy_fin hT p1 p2 p3 (by omega) (by omega) (by omega) (by omega) (by omega) (by omega) hO hY ⟨HSY.out.last, HSY.out.made, HSY.out.down, HSY.out.armed, HSY.out.failing, HSY.out.failure⟩⟩)
    have hRX : R < X.heap.size := Nat.lt_of_lt_of_le HO.out.lt hT.size
    have HC : Hid (∀ V, Tb (fun k => k = X.heap.size) X V → V.cell? ⟨R, 10, none⟩ = some (.int .i64 o.armed) ∧ V.cell? ⟨R, 11, none⟩ = some (.int .i64 o.failing)) := hide (fun V tV => by
      have h1 := (HO.out.tb hT (fun h => h)).tb tV (by omega)
      exact ⟨h1.c 10, h1.c 11⟩)
    have HAR : Hid ((-1 ≤ o.armed ∧ o.armed ≤ 9223372036854775807) ∧ (-1 ≤ o.failing ∧ o.failing ≤ 9223372036854775807)) := hide ⟨HO.out.armed, HO.out.failing⟩
    obtain ⟨W, HW⟩ : ∃ W, Hid (W = X.alloc (.cells #[.pointer (some ⟨X.heap.size, 0, none⟩), .map (some nb1), .map (some rb1), .map (some nb2), .map (some rb2), .int .i64 o.last, .slice na nn nc, .map (some us), .int .i64 o.made, .bool o.down, .int .i64 0, .int .i64 0, .int .i64 o.failure] (57 : TypeId))) := ⟨_, hide rfl⟩
    have hO : Oj W X.heap.size ⟨nb1, rb1, nb2, rb2, o.last, .slice na nn nc, us, o.made, o.down, 0, 0, o.failure⟩ := ⟨by rw [HW.out]; exact heap_alloc_new X _, by simp, by simp⟩
    have tW : Tb (fun k => k = X.heap.size) X W.drew := by rw [HW.out]; exact ((Tb.refl _ _).alloc _).drew
    have HOW : Hid (Oj W.drew X.heap.size ⟨nb1, rb1, nb2, rb2, o.last, .slice na nn nc, us, o.made, o.down, 0, 0, o.failure⟩) := hide hO.drew
    have HTW := hide tW
    obtain ⟨R2, hR2⟩ : ∃ R2, Hid (R2 = X.heap.size) := ⟨_, hide rfl⟩
    have a10 := (HC.out _ tW).1
    clear p1 p2 p3 t1 t2 t3 s0 s1 s2 s3 hT C1 C2 C3 hO tW hRX HO HSY HS b57 B57 hr
    go_wp2_with fail
    rw [← HW.out]
    clear HW
    go_region_with (first
      | (go_at_call 54; refine Calls.mono (aload a10) ?_; rintro e w2 ⟨rfl, rfl⟩)
      | (go_at_call 53; refine Calls.mono (astore_armed HOW.out HAR.out.1) ?_; rintro e Y ⟨rfl, h1, b1⟩))
    have tY : Tb (fun k => k = X.heap.size) X Y.drew := (HTW.out.trans b1 (fun _ _ h => h)).drew
    have a11 := (HC.out _ tY).2
    have HOY := hide h1.drew
    have HTY := hide tY
    clear h1 b1 tY HTW HOW a10
    go_wp2_with fail
    go_region_with (first
      | (go_at_call 54; refine Calls.mono (aload a11) ?_; rintro e w3 ⟨rfl, rfl⟩)
      | (go_at_call 53; refine Calls.mono (astore_failing HOY.out HAR.out.2) ?_; rintro e Z ⟨rfl, h2, b2⟩))
    have HZ := hide (FIN.out Z h2 (HTY.out.trans b2 (fun _ _ h => h)))
    clear h2 b2 HTY HOY a11
    go_wp2_with fail
    go_ret
    exact ⟨X.heap.size, rfl, HZ.out.1, HZ.out.2⟩

end Go.Proofs.Ytikhgjnjlkaobaa

/-
  What a row of calls leaves: few names, and short ones; numbers that stay small behind a sync and a crash.
-/
namespace Go.Proofs.Ytikhgjnjlkaobaa
open Go.RowKit
set_option maxRecDepth 100000
set_option maxRecDepth 100000
set_option linter.unusedVariables false

theorem does_len (s : Shp) (t : Stp) : (s.does t).nm.length ≤ s.nm.length + 1 := by
  unfold Shp.does
  split
  · have h1 := st_le (s.take t.name.data.toList).nm t.name.data.toList t.file
    have h2 : (s.take t.name.data.toList).nm.length ≤ s.nm.length := dl_le _ _
    simp only
    omega
  · split
    · unfold Shp.put
      split <;> simp
    · split
      · unfold Shp.cut
        split
        · omega
        · split <;> simp
      · split
        · split
          · have h1 := st_le ((⟨dl s.nm t.name.data.toList, s.rw⟩ : Shp).take t.to.data.toList).nm t.to.data.toList t.file
            have h2 : ((⟨dl s.nm t.name.data.toList, s.rw⟩ : Shp).take t.to.data.toList).nm.length ≤ (dl s.nm t.name.data.toList).length := dl_le _ _
            have h3 := dl_le s.nm t.name.data.toList
            simp only
            omega
          · omega
        · split
          · have h2 : (s.take t.name.data.toList).nm.length ≤ s.nm.length := dl_le _ _
            omega
          · omega

/-- All names have one byte. -/
def Short (s : Shp) : Prop := ∀ p ∈ s.nm, p.1.length = 1

theorem short_does {s : Shp} {t : Stp} (h : Short s) (hn : t.kind = 0 → t.name.data.toList.length = 1) (ht : t.kind = 3 → t.to.data.toList.length = 1) : Short (s.does t) := by
  intro p hp
  unfold Shp.does at hp
  split at hp
  · rename_i k0
    rcases mem_st hp with h1 | rfl
    · exact h p (mem_dl h1)
    · exact hn k0
  · split at hp
    · unfold Shp.put at hp
      split at hp
      · exact h p hp
      · exact h p hp
    · split at hp
      · unfold Shp.cut at hp
        split at hp
        · exact h p hp
        · split at hp
          · exact h p hp
          · exact h p hp
      · split at hp
        · rename_i k3
          split at hp
          · rcases mem_st hp with h1 | rfl
            · exact h p (mem_dl (mem_dl h1))
            · exact ht k3
          · exact h p hp
        · split at hp
          · exact h p (mem_dl hp)
          · exact h p hp

section
variable {d d' : Dsk} {K : Nat}

theorem put_len (d : Dsk) (s : ByteArray) (at' : Int) (n : Nat) (data : List Int) : (d.put s at' n data).2.std.nm.length ≤ d.std.nm.length + 2 := by
  have hb := (begin_parts d).2.1
  unfold Dsk.put
  split
  · simp
  · split
    · simp
    · split
      · rw [hb]; omega
      · split
        · have h1 := does_len d.begin.2.std (madeStp (d.begin.2.made + 1) s)
          have h2 := does_len (d.begin.2.std.does (madeStp (d.begin.2.made + 1) s)) (putStp (d.begin.2.made + 1) at' data)
          rw [hb] at h1 h2
          simp only [Dsk.do]
          rw [hb]
          omega
        · have h1 := does_len d.begin.2.std (putStp (d.find s) at' data)
          rw [hb] at h1
          simp only [Dsk.do]
          rw [hb]
          omega

theorem Did.len (h : Did d d') : d'.std.nm.length ≤ d.std.nm.length + 2 := by
  have hb := (begin_parts d).2.1
  obtain ⟨i, j, at', z, ⟨rfl, h1⟩ | rfl | rfl | ⟨rfl, h1, h2⟩⟩ := h
  · unfold Dsk.cut
    repeat' split
    all_goals first | (simp only; omega) | (rw [hb]; omega) | (have h1 := does_len d.begin.2.std (cutStp (d.find (nmS i)) at'); rw [hb] at h1; simp only [Dsk.do]; rw [hb]; omega)
  · unfold Dsk.rename
    repeat' split
    all_goals first | (simp only; omega) | (rw [hb]; omega) | (simp only; rw [hb]; omega) | (have h1 := does_len d.begin.2.std (renStp (d.find (nmS i)) (nmS i) (nmS j)); rw [hb] at h1; simp only [Dsk.do]; rw [hb]; omega)
  · unfold Dsk.remove
    repeat' split
    all_goals first | (simp only; omega) | (rw [hb]; omega) | (have h1 := does_len d.begin.2.std (remStp (d.find (nmS i)) (nmS i)); rw [hb] at h1; simp only [Dsk.do]; rw [hb]; omega)
  · exact put_len _ _ _ _ _

theorem Did.short (h : Did d d') (hs : Short d.std) : Short d'.std := by
  have hb := (begin_parts d).2.1
  have hs' : Short d.begin.2.std := by rw [hb]; exact hs
  obtain ⟨i, j, at', z, ⟨rfl, h1⟩ | rfl | rfl | ⟨rfl, h1, h2⟩⟩ := h
  · unfold Dsk.cut
    repeat' split
    all_goals first | exact hs | exact hs' | exact short_does hs' (fun e => by simp [cutStp] at e) (fun e => by simp [cutStp] at e)
  · unfold Dsk.rename
    repeat' split
    all_goals first | exact hs | exact hs' | exact short_does hs' (fun e => by simp [renStp] at e) (fun _ => nmS_list j)
  · unfold Dsk.remove
    repeat' split
    all_goals first | exact hs | exact hs' | exact short_does hs' (fun e => by simp [remStp] at e) (fun e => by simp [remStp] at e)
  · unfold Dsk.put
    repeat' split
    all_goals first | exact hs | exact hs' | exact short_does (short_does hs' (fun _ => nmS_list i) (fun e => by simp [madeStp] at e)) (fun e => by simp [putStp] at e) (fun e => by simp [putStp] at e) | exact short_does hs' (fun e => by simp [putStp] at e) (fun e => by simp [putStp] at e)

theorem filed_fold {m : Int} : ∀ (ts : List Stp), (∀ t ∈ ts, t.Ok ∧ t.file ≤ m) → ∀ s : Shp, (∀ p ∈ s.nm, 1 ≤ p.2 ∧ p.2 ≤ m) → ∀ p ∈ (ts.foldl Shp.does s).nm, 1 ≤ p.2 ∧ p.2 ≤ m := by
  intro ts
  induction ts with
  | nil => exact fun _ _ h => h
  | cons t ts ih => exact fun ht s hs => ih (fun x hx => ht x (by simp [hx])) _ (file_does hs (ht t (by simp)).1 (ht t (by simp)).2)

theorem Bd.settled (h : Bd d K) (f : Int) : Bd (d.settled f) (K + K + K) := by
  have hl := h.last
  have hle := h.len
  have hsub : (nms d.l).length ≤ d.l.length := List.length_filter_le _ _
  have hof := offN_sub (toMake f (nms d.l)) d.l
  have hof2 := hof.length_le
  have hok1 : ∀ t ∈ (nms d.l).take (toMake f (nms d.l)), t.Ok ∧ t.file ≤ d.made := fun t ht => h.ok t (List.mem_filter.1 (List.mem_of_mem_take ht)).1
  have hok2 : ∀ t ∈ scs (offN (toMake f (nms d.l)) d.l) f, t.Ok ∧ t.file ≤ d.made := fun t ht => h.ok t (hof.subset (List.mem_filter.1 ht).1)
  have hs1 : ((nms d.l).take (toMake f (nms d.l))).length ≤ (nms d.l).length := by rw [List.length_take]; omega
  have hs2 : (scs (offN (toMake f (nms d.l)) d.l) f).length ≤ (offN (toMake f (nms d.l)) d.l).length := List.length_filter_le _ _
  have hs3 : (offS (offN (toMake f (nms d.l)) d.l) f).length ≤ (offN (toMake f (nms d.l)) d.l).length := List.length_filter_le _ _
  refine ⟨h.std.wide (by omega), ?_, by simp only [Dsk.settled]; omega, by have := h.made; simp only [Dsk.settled]; omega, h.file, ?_, fun t ht => h.ok t (hof.subset (List.mem_filter.1 ht).1), h.calm, by simp only [Dsk.settled]; omega⟩
  · exact (fold_sm (fold_sm h.dur _ (fun t ht => (hok1 t ht).1)) _ (fun t ht => (hok2 t ht).1)).wide (by omega)
  · exact filed_fold _ hok2 _ (filed_fold _ hok1 _ h.filed)

theorem Bd.crash (h : Bd d K) (ks : List Bool) : Bd (d.crash ks) (K + K) := by
  have hl := h.last
  have hle := h.len
  have hm := h.made
  have hk := (kep_sub d.l ks).length_le
  have hok : ∀ t ∈ kep d.l ks, t.Ok ∧ t.file ≤ d.made := fun t ht => h.ok t ((kep_sub d.l ks).subset ht)
  have hs := (fold_sm h.dur _ (fun t ht => (hok t ht).1)).wide (K' := K + K) (by omega)
  have hf := filed_fold _ hok _ h.filed
  exact ⟨hs, hs, by simp only [Dsk.crash]; omega, by simp only [Dsk.crash]; omega, hf, hf, by simp [Dsk.crash], ⟨rfl, rfl, rfl⟩, by simp [Dsk.crash]⟩

theorem Bd.sync (h : Bd d K) (s : ByteArray) : Bd (d.sync s).2 (K + K + K) := by
  unfold Dsk.sync
  rw [h.begin]
  split
  · exact h.wide (by omega)
  · split
    · exact h.wide (by omega)
    · exact h.settled _

theorem sync_std (d : Dsk) (s : ByteArray) : (d.sync s).2.std = d.std := by
  have hb := (begin_parts d).2.1
  unfold Dsk.sync
  split
  · rfl
  · split
    · exact hb
    · exact hb
end

section
variable {w W : World} {R : Nat} {d : Dsk} {vs : List Value} {K : Nat}

theorem ax_copy (h : Ax w vs R d W) (hb : Bd d K) (hK : K < 800000) :
    Calls Try.prog 17 #[.pointer (some ⟨R, 0, none⟩)] W fun e w' => ∃ R2, e = .returned (.pointer (some ⟨R2, 0, none⟩)) ∧ Two w vs R d R2 d w' ∧ Kr vs W w' := by
  have hax := h
  obtain ⟨L, a1, a3, a6, a5⟩ := h
  refine (copy_any a1 (hb.few (by omega))).mono ?_
  rintro e w' ⟨R2, rfl, hR, hA⟩
  obtain ⟨L2, c1, c2, c3⟩ := hA
  exact ⟨R2, rfl, hax.two ⟨L2, c1, c2, c3⟩, Kr.fresh c3⟩
end

end Go.Proofs.Ytikhgjnjlkaobaa

/-
  Steps that may go by one another: what is synced first does to what is durable what all steps in their order do.
-/
namespace Go.Proofs.Ytikhgjnjlkaobaa
open Go.RowKit
set_option maxRecDepth 100000
set_option maxRecDepth 100000
set_option linter.unusedVariables false

/-- The same names and the same rows. -/
structure Eqv (s t : Shp) : Prop where
  nm : ∀ k, lk s.nm k = lk t.nm k
  rw : ∀ f, lk s.rw f = lk t.rw f

section
variable {s t u : Shp} {x y : Stp}

theorem Eqv.refl (s : Shp) : Eqv s s := ⟨fun _ => rfl, fun _ => rfl⟩
theorem Eqv.symm (h : Eqv s t) : Eqv t s := ⟨fun k => (h.nm k).symm, fun f => (h.rw f).symm⟩
theorem Eqv.trans (h : Eqv s t) (k : Eqv t u) : Eqv s u := ⟨fun a => (h.nm a).trans (k.nm a), fun f => (h.rw f).trans (k.rw f)⟩

theorem lk_dl {κ ν : Type} [DecidableEq κ] (l : List (κ × ν)) (k j : κ) : lk (dl l k) j = if j = k then none else lk l j := by
  by_cases h : j = k
  · subst h; rw [lk_dl_same, if_pos rfl]
  · rw [lk_dl_other h, if_neg h]
theorem lk_st {κ ν : Type} [DecidableEq κ] (l : List (κ × ν)) (k j : κ) (v : ν) : lk (st l k v) j = if j = k then some v else lk l j := by
  by_cases h : j = k
  · subst h; rw [lk_st_same, if_pos rfl]
  · rw [lk_st_other h, if_neg h]

theorem Eqv.take (h : Eqv s t) (k : List UInt8) : Eqv (s.take k) (t.take k) := by
  refine ⟨fun j => ?_, fun f => ?_⟩
  · simp only [Shp.take, lk_dl, h.nm]
  · simp only [Shp.take, lk_dl, h.nm, h.rw]

/-- What a step does to the names, and to the row of a file. -/
theorem put_nm (s : Shp) (f a : Int) (d : List Int) : (s.put f a d).nm = s.nm := by
  unfold Shp.put; split <;> rfl
theorem put_rw (s : Shp) (f a : Int) (d : List Int) (g : Int) : lk (s.put f a d).rw g = if g = f then (lk s.rw f).map (fun r => putIn r a.toNat d) else lk s.rw g := by
  unfold Shp.put
  cases h : lk s.rw f with
  | none =>
    simp only [Option.map_none]
    split
    · rename_i e; rw [e, h]
    · rfl
  | some r => simp only [lk_st, Option.map_some]
theorem cut_nm (s : Shp) (f a : Int) : (s.cut f a).nm = s.nm := by
  unfold Shp.cut
  split
  · rfl
  · split <;> rfl
theorem cut_rw (s : Shp) (f a : Int) (g : Int) : lk (s.cut f a).rw g = if g = f then (lk s.rw f).map (fun r => if a < r.length then r.take a.toNat else r) else lk s.rw g := by
  unfold Shp.cut
  cases h : lk s.rw f with
  | none =>
    simp only [Option.map_none]
    split
    · rename_i e; rw [e, h]
    · rfl
  | some r =>
    simp only [Option.map_some]
    by_cases ha : a < (r.length : Int)
    · simp only [if_pos ha, lk_st]
    · simp only [if_neg ha]
      split
      · rename_i e; rw [e, h]
      · rfl

/-- What a step of sectors does to its file's row. -/
def Stp.turn (x : Stp) (r : List (List Int)) : List (List Int) := if x.kind = 1 then putIn r x.at'.toNat x.data else if x.at' < r.length then r.take x.at'.toNat else r

theorem sec_does (hx : x.sec = true) (s : Shp) : (s.does x).nm = s.nm ∧ ∀ g, lk (s.does x).rw g = if g = x.file then (lk s.rw x.file).map x.turn else lk s.rw g := by
  have hk : x.kind = 1 ∨ x.kind = 2 := by simpa [Stp.sec] using hx
  unfold Shp.does
  rcases hk with hk | hk
  · rw [if_neg (by omega), if_pos hk]
    refine ⟨put_nm _ _ _ _, fun g => ?_⟩
    rw [put_rw]
    have e : (fun r => putIn r x.at'.toNat x.data) = x.turn := by funext r; simp [Stp.turn, hk]
    rw [e]
  · rw [if_neg (by omega), if_neg (by omega), if_pos hk]
    refine ⟨cut_nm _ _ _, fun g => ?_⟩
    rw [cut_rw]
    have e : (fun r : List (List Int) => if x.at' < r.length then r.take x.at'.toNat else r) = x.turn := by funext r; simp [Stp.turn, hk]
    rw [e]

/-- What a step of names does: which names, and which rows stay. -/
theorem nam_does (hx : x.sec = false) (s : Shp) : ∃ (N : List (List UInt8 × Int)) (gone : Int → Bool), (s.does x).nm = N ∧ (∀ t : Shp, (∀ k, lk t.nm k = lk s.nm k) → (∀ k, lk (t.does x).nm k = lk N k) ∧ ∀ g, lk (t.does x).rw g = if x.kind = 0 ∧ g = x.file then some [] else if gone g then none else lk t.rw g) := by
  have hk : x.kind ≠ 1 ∧ x.kind ≠ 2 := by
    have : ¬ (x.kind = 1 ∨ x.kind = 2) := by simpa [Stp.sec] using hx
    omega
  by_cases k0 : x.kind = 0
  · refine ⟨_, fun g => decide (g = (lk s.nm x.name.data.toList).getD 0), rfl, fun t ht => ?_⟩
    unfold Shp.does
    rw [if_pos k0, if_pos k0]
    refine ⟨fun k => ?_, fun g => ?_⟩
    · simp only [Shp.take, lk_st, lk_dl, ht]
    · simp only [Shp.take, lk_st, lk_dl, ht, k0, true_and, decide_eq_true_eq]
  · by_cases k3 : x.kind = 3
    · by_cases hf : (lk s.nm x.name.data.toList).getD 0 = x.file
      · refine ⟨_, fun g => decide (g = (lk (dl s.nm x.name.data.toList) x.to.data.toList).getD 0), rfl, fun t ht => ?_⟩
        unfold Shp.does
        rw [if_neg k0, if_neg hk.1, if_neg hk.2, if_pos k3, if_neg k0, if_neg hk.1, if_neg hk.2, if_pos k3, if_pos hf, ht, if_pos hf]
        refine ⟨fun k => ?_, fun g => ?_⟩
        · simp only [Shp.take, lk_st, lk_dl, ht]
        · simp only [Shp.take, lk_dl, ht, k0, false_and, if_false, decide_eq_true_eq]
      · refine ⟨_, fun g => false, rfl, fun t ht => ?_⟩
        unfold Shp.does
        rw [if_neg k0, if_neg hk.1, if_neg hk.2, if_pos k3, if_neg k0, if_neg hk.1, if_neg hk.2, if_pos k3, if_neg hf, ht, if_neg hf]
        exact ⟨ht, fun g => by simp [k0]⟩
    · by_cases hf : (lk s.nm x.name.data.toList).getD 0 = x.file
      · refine ⟨_, fun g => decide (g = (lk s.nm x.name.data.toList).getD 0), rfl, fun t ht => ?_⟩
        unfold Shp.does
        rw [if_neg k0, if_neg hk.1, if_neg hk.2, if_neg k3, if_neg k0, if_neg hk.1, if_neg hk.2, if_neg k3, if_pos hf, ht, if_pos hf]
        refine ⟨fun k => ?_, fun g => ?_⟩
        · simp only [Shp.take, lk_dl, ht]
        · simp only [Shp.take, lk_dl, ht, k0, false_and, if_false, decide_eq_true_eq]
      · refine ⟨_, fun g => false, rfl, fun t ht => ?_⟩
        unfold Shp.does
        rw [if_neg k0, if_neg hk.1, if_neg hk.2, if_neg k3, if_neg k0, if_neg hk.1, if_neg hk.2, if_neg k3, if_neg hf, ht, if_neg hf]
        exact ⟨ht, fun g => by simp [k0]⟩

/-- A step does the same to the same. -/
theorem Eqv.does (h : Eqv s t) (x : Stp) : Eqv (s.does x) (t.does x) := by
  cases hx : x.sec with
  | true =>
    obtain ⟨a1, a2⟩ := sec_does hx s
    obtain ⟨b1, b2⟩ := sec_does hx t
    exact ⟨fun k => by rw [a1, b1]; exact h.nm k, fun g => by rw [a2, b2, h.rw, h.rw]⟩
  | false =>
    obtain ⟨N, gone, e, hN⟩ := nam_does hx s
    obtain ⟨a1, a2⟩ := hN s (fun _ => rfl)
    obtain ⟨b1, b2⟩ := hN t (fun k => (h.nm k).symm)
    exact ⟨fun k => by rw [a1, b1], fun g => by rw [a2, b2, h.rw]⟩

theorem Eqv.fold (ts : List Stp) : ∀ {s t : Shp}, Eqv s t → Eqv (ts.foldl Shp.does s) (ts.foldl Shp.does t) := by
  induction ts with
  | nil => exact fun h => h
  | cons x ts ih => exact fun h => ih (h.does x)

/-- May y go ahead of x? -/
def Com (x y : Stp) : Prop := (x.sec = true ∧ y.sec = true ∧ x.file ≠ y.file) ∨ (x.sec = true ∧ y.sec = false ∧ ¬ (y.kind = 0 ∧ y.file = x.file)) ∨ (x.sec = false ∧ y.sec = true ∧ ¬ (x.kind = 0 ∧ x.file = y.file))

theorem com_sn (hx : x.sec = true) (hy : y.sec = false) (hne : ¬ (y.kind = 0 ∧ y.file = x.file)) (s : Shp) : Eqv ((s.does x).does y) ((s.does y).does x) := by
  obtain ⟨a1, a2⟩ := sec_does hx s
  obtain ⟨N, gone, e, hN⟩ := nam_does hy s
  obtain ⟨b1, b2⟩ := hN s (fun _ => rfl)
  obtain ⟨c1, c2⟩ := hN (s.does x) (fun k => by rw [a1])
  obtain ⟨d1, d2⟩ := sec_does hx (s.does y)
  refine ⟨fun k => by rw [c1, d1, b1], fun g => ?_⟩
  rw [c2, d2, b2, b2, a2]
  by_cases hg : g = x.file
  · subst hg
    have h1 : ¬ (y.kind = 0 ∧ x.file = y.file) := fun h => hne ⟨h.1, h.2.symm⟩
    rw [if_neg h1, if_pos rfl, if_pos rfl, if_neg h1]
    split <;> rfl
  · rw [if_neg hg, if_neg hg]

theorem com_ss (hx : x.sec = true) (hy : y.sec = true) (hne : x.file ≠ y.file) (s : Shp) : Eqv ((s.does x).does y) ((s.does y).does x) := by
  obtain ⟨a1, a2⟩ := sec_does hx s
  obtain ⟨b1, b2⟩ := sec_does hy s
  obtain ⟨c1, c2⟩ := sec_does hy (s.does x)
  obtain ⟨d1, d2⟩ := sec_does hx (s.does y)
  refine ⟨fun k => by rw [c1, d1, a1, b1], fun g => ?_⟩
  rw [c2, d2, a2, a2, b2, b2]
  by_cases hg : g = y.file
  · subst hg
    rw [if_pos rfl, if_neg (fun h => hne h.symm), if_neg (fun h => hne h.symm), if_pos rfl]
  · by_cases hg2 : g = x.file
    · subst hg2
      rw [if_neg hg, if_pos rfl, if_pos rfl, if_neg hne]
    · rw [if_neg hg, if_neg hg2, if_neg hg2, if_neg hg]

theorem Com.swap (h : Com x y) (s : Shp) : Eqv ((s.does x).does y) ((s.does y).does x) := by
  rcases h with ⟨h1, h2, h3⟩ | ⟨h1, h2, h3⟩ | ⟨h1, h2, h3⟩
  · exact com_ss h1 h2 h3 s
  · exact com_sn h1 h2 h3 s
  · exact (com_sn h2 h1 h3 s).symm
end

/-- l is a and b, each in its order; whatever of b stands ahead of something of a lets it go by. -/
inductive Mix : List Stp → List Stp → List Stp → Prop
  | nil : Mix [] [] []
  | left (x : Stp) {l a b : List Stp} : Mix l a b → Mix (x :: l) (x :: a) b
  | right (x : Stp) {l a b : List Stp} : Mix l a b → (∀ y ∈ a, Com x y) → Mix (x :: l) a (x :: b)

theorem past (x : Stp) : ∀ (a : List Stp) (s : Shp), (∀ y ∈ a, Com x y) → Eqv (a.foldl Shp.does (s.does x)) ((a.foldl Shp.does s).does x) := by
  intro a
  induction a with
  | nil => exact fun s _ => Eqv.refl _
  | cons y a ih =>
    intro s h
    have h1 := (h y (by simp)).swap s
    exact (h1.fold a).trans (ih (s.does y) (fun z hz => h z (by simp [hz])))

theorem Mix.fold {l a b : List Stp} (h : Mix l a b) : ∀ s : Shp, Eqv (l.foldl Shp.does s) ((a ++ b).foldl Shp.does s) := by
  induction h with
  | nil => exact fun s => Eqv.refl _
  | left x _ ih => exact fun s => ih (s.does x)
  | right x _ hc ih =>
    intro s
    refine (ih (s.does x)).trans ?_
    rw [List.foldl_append, List.foldl_append]
    exact ((past x _ s hc).fold _)

/-- A file's making comes ahead of all its steps. -/
def Late (l : List Stp) : Prop := l.Pairwise fun x y => y.kind = 0 → y.file ≠ x.file

theorem mix_all (l : List Stp) : Mix l [] l := by
  induction l with
  | nil => exact .nil
  | cons x l ih => exact .right x ih (fun y hy => by cases hy)

/-- The first n steps of names go ahead. -/
theorem mix_names : ∀ (n : Nat) (l : List Stp), Late l → Mix l ((nms l).take n) (offN n l) := by
  intro n l
  induction l generalizing n with
  | nil => intro _; cases n <;> exact .nil
  | cons t l ih =>
    intro h
    obtain ⟨h1, h2⟩ := List.pairwise_cons.1 h
    cases n with
    | zero => simp only [List.take_zero, offN]; exact mix_all _
    | succ n =>
      cases ht : t.sec with
      | true =>
        have e1 : nms (t :: l) = nms l := by simp [nms, ht]
        have e2 : offN (n + 1) (t :: l) = t :: offN (n + 1) l := by simp [offN, ht]
        rw [e1, e2]
        refine .right t (ih (n + 1) h2) (fun y hy => ?_)
        have hy' := List.mem_filter.1 (List.mem_of_mem_take hy)
        exact .inr (.inl ⟨ht, by simpa using hy'.2, fun e => h1 y hy'.1 e.1 e.2⟩)
      | false =>
        have e1 : nms (t :: l) = t :: nms l := by simp [nms, ht]
        have e2 : offN (n + 1) (t :: l) = offN n l := by simp [offN, ht]
        rw [e1, e2, List.take_succ_cons]
        exact .left t (ih n h2)

/-- The steps of a file's sectors go ahead, where its making is not among the rest. -/
theorem mix_secs (f : Int) : ∀ (l : List Stp), (∀ t ∈ l, ¬ (t.kind = 0 ∧ t.file = f)) → Mix l (scs l f) (offS l f) := by
  intro l
  induction l with
  | nil => exact fun _ => .nil
  | cons t l ih =>
    intro h
    have hr := ih (fun x hx => h x (by simp [hx]))
    cases ht : t.sec && decide (t.file = f) with
    | true =>
      have e1 : scs (t :: l) f = t :: scs l f := by simp only [scs, List.filter_cons, ht, if_true]
      have e2 : offS (t :: l) f = offS l f := by simp only [offS, List.filter_cons, ht]; rfl
      rw [e1, e2]
      exact .left t hr
    | false =>
      have e1 : scs (t :: l) f = scs l f := by simp only [scs, List.filter_cons, ht]; rfl
      have e2 : offS (t :: l) f = t :: offS l f := by simp only [offS, List.filter_cons, ht]; rfl
      rw [e1, e2]
      refine .right t hr (fun y hy => ?_)
      obtain ⟨_, hy2⟩ := List.mem_filter.1 hy
      simp only [Bool.and_eq_true, decide_eq_true_eq] at hy2
      cases hts : t.sec with
      | true =>
        rw [hts] at ht
        simp at ht
        exact .inl ⟨hts, hy2.1, fun e => ht (by rw [e, hy2.2])⟩
      | false => exact .inr (.inr ⟨hts, hy2.1, fun e => h t (by simp) ⟨e.1, by rw [e.2, hy2.2]⟩⟩)

end Go.Proofs.Ytikhgjnjlkaobaa

/-
  Disks whose unsynced steps make of what is durable what stands: so does every call; behind a crash that keeps all, and behind syncs of all, the disk is as it stood.
-/
namespace Go.Proofs.Ytikhgjnjlkaobaa
open Go.RowKit
set_option maxRecDepth 100000
set_option maxRecDepth 100000
set_option linter.unusedVariables false

/-- A name for each row, and one alone. -/
structure Tidy (s : Shp) : Prop where
  inj : ∀ k j f, lk s.nm k = some f → lk s.nm j = some f → k = j
  named : ∀ f r, lk s.rw f = some r → ∃ k, lk s.nm k = some f

section
variable {s t : Shp} {x : Stp}

theorem names_does (s : Shp) (x : Stp) (k : List UInt8) (g : Int) (h : lk (s.does x).nm k = some g) : lk s.nm k = some g ∨ (x.sec = false ∧ g = x.file) := by
  cases hx : x.sec with
  | true => rw [(sec_does hx s).1] at h; exact .inl h
  | false =>
    have hk : x.kind ≠ 1 ∧ x.kind ≠ 2 := by
      have : ¬ (x.kind = 1 ∨ x.kind = 2) := by simpa [Stp.sec] using hx
      omega
    unfold Shp.does at h
    by_cases k0 : x.kind = 0
    · rw [if_pos k0] at h
      simp only [Shp.take, lk_st, lk_dl] at h
      split at h
      · exact .inr ⟨rfl, by simpa using h.symm⟩
      · exact .inl h
    · rw [if_neg k0, if_neg hk.1, if_neg hk.2] at h
      by_cases k3 : x.kind = 3
      · rw [if_pos k3] at h
        split at h
        · simp only [Shp.take, lk_st, lk_dl] at h
          split at h
          · exact .inr ⟨rfl, by simpa using h.symm⟩
          · split at h
            · cases h
            · exact .inl h
        · exact .inl h
      · rw [if_neg k3] at h
        split at h
        · simp only [Shp.take, lk_dl] at h
          split at h
          · cases h
          · exact .inl h
        · exact .inl h

theorem Tidy.does (h : Tidy s) (hok : x.Ok) (hf : x.kind = 0 → ∀ k, lk s.nm k ≠ some x.file) : Tidy (s.does x) := by
  have hfile := hok.file.1
  cases hx : x.sec with
  | true =>
    obtain ⟨a1, a2⟩ := sec_does hx s
    refine ⟨fun k j f hk hj => ?_, fun f r hr => ?_⟩
    · rw [a1] at hk hj; exact h.inj k j f hk hj
    · rw [a1]
      rw [a2] at hr
      split at hr
      · rename_i e
        subst e
        cases hl : lk s.rw x.file with
        | none => rw [hl] at hr; cases hr
        | some r0 => exact h.named _ _ hl
      · exact h.named _ _ hr
  | false =>
    have hk : x.kind ≠ 1 ∧ x.kind ≠ 2 := by
      have : ¬ (x.kind = 1 ∨ x.kind = 2) := by simpa [Stp.sec] using hx
      omega
    have take_tidy : ∀ (k : List UInt8), Tidy (s.take k) := fun k => by
      refine ⟨fun a b f ha hb => ?_, fun f r hr => ?_⟩
      · simp only [Shp.take, lk_dl] at ha hb
        split at ha
        · cases ha
        · split at hb
          · cases hb
          · exact h.inj a b f ha hb
      · simp only [Shp.take, lk_dl] at hr ⊢
        split at hr
        · cases hr
        · rename_i hne
          obtain ⟨j, hj⟩ := h.named f r hr
          refine ⟨j, ?_⟩
          rw [if_neg]
          · exact hj
          · intro e
            subst e
            rw [hj] at hne
            exact hne rfl
    unfold Shp.does
    by_cases k0 : x.kind = 0
    · rw [if_pos k0]
      have ht := take_tidy x.name.data.toList
      have hfr : ∀ k, lk (s.take x.name.data.toList).nm k ≠ some x.file := fun k e => by
        simp only [Shp.take, lk_dl] at e
        split at e
        · cases e
        · exact hf k0 k e
      refine ⟨fun a b f ha hb => ?_, fun f r hr => ?_⟩
      · simp only [lk_st] at ha hb
        split at ha
        · cases ha
          split at hb
          · rename_i e1 e2; rw [e1, e2]
          · exact absurd hb (hfr b)
        · split at hb
          · cases hb
            exact absurd ha (hfr a)
          · exact ht.inj a b f ha hb
      · simp only [lk_st] at hr ⊢
        split at hr
        · rename_i e
          exact ⟨x.name.data.toList, by rw [if_pos rfl, e]⟩
        · obtain ⟨k, hk⟩ := ht.named f r hr
          refine ⟨k, ?_⟩
          rw [if_neg]
          · exact hk
          · intro e
            subst e
            simp only [Shp.take, lk_dl, if_pos] at hk
            cases hk
    · rw [if_neg k0, if_neg hk.1, if_neg hk.2]
      by_cases k3 : x.kind = 3
      · rw [if_pos k3]
        split
        · rename_i hnf
          have hn : lk s.nm x.name.data.toList = some x.file := by
            cases hl : lk s.nm x.name.data.toList with
            | none => rw [hl] at hnf; simp at hnf; omega
            | some f => rw [hl] at hnf; simp at hnf; rw [hnf]
          refine ⟨fun a b f ha hb => ?_, fun f r hr => ?_⟩
          · simp only [Shp.take, lk_st, lk_dl] at ha hb
            split at ha
            · cases ha
              split at hb
              · rename_i e1 e2; rw [e1, e2]
              · split at hb
                · cases hb
                · rename_i e1 e2 e3
                  exact absurd (h.inj b _ _ hb hn) e3
            · split at ha
              · cases ha
              · rename_i n1 n2
                split at hb
                · cases hb
                  exact absurd (h.inj a _ _ ha hn) n2
                · split at hb
                  · cases hb
                  · exact h.inj a b f ha hb
          · simp only [Shp.take, lk_st, lk_dl] at hr ⊢
            obtain ⟨G, hG⟩ : ∃ G, G = (if x.to.data.toList = x.name.data.toList then none else lk s.nm x.to.data.toList).getD 0 := ⟨_, rfl⟩
            rw [← hG] at hr
            by_cases hfG : f = G
            · rw [if_pos hfG] at hr
              cases hr
            · rw [if_neg hfG] at hr
              obtain ⟨k, hk⟩ := h.named f r hr
              by_cases hkn : k = x.name.data.toList
              · rw [hkn, hn] at hk
                cases hk
                exact ⟨x.to.data.toList, by rw [if_pos rfl]⟩
              · by_cases hkt : k = x.to.data.toList
                · exfalso
                  rw [hkt] at hk hkn
                  apply hfG
                  rw [hG, if_neg hkn, hk]
                  rfl
                · exact ⟨k, by rw [if_neg hkt, if_neg hkt, if_neg hkn]; exact hk⟩
        · exact h
      · rw [if_neg k3]
        split
        · exact take_tidy _
        · exact h

/-- No making of a file that has a name. -/
def Fresh (s : Shp) (us : List Stp) : Prop := ∀ t ∈ us, t.kind = 0 → ∀ k, lk s.nm k ≠ some t.file

theorem tidy_fold : ∀ (ts : List Stp) (s : Shp), Tidy s → Late ts → (∀ t ∈ ts, t.Ok) → Fresh s ts → Tidy (ts.foldl Shp.does s) := by
  intro ts
  induction ts with
  | nil => exact fun _ h _ _ _ => h
  | cons x ts ih =>
    intro s h hl hok hf
    obtain ⟨h1, h2⟩ := List.pairwise_cons.1 hl
    refine ih (s.does x) (h.does (hok x (by simp)) (fun k0 => hf x (by simp) k0)) h2 (fun t ht => hok t (by simp [ht])) (fun t ht k0 k e => ?_)
    rcases names_does s x k _ e with e1 | ⟨_, e1⟩
    · exact hf t (by simp [ht]) k0 k e1
    · exact h1 t ht k0 e1

theorem fresh_fold {us : List Stp} : ∀ (ts : List Stp) (s : Shp), Fresh s us → (∀ x ∈ ts, x.sec = false → ∀ t ∈ us, t.kind = 0 → t.file ≠ x.file) → Fresh (ts.foldl Shp.does s) us := by
  intro ts
  induction ts with
  | nil => exact fun _ h _ => h
  | cons x ts ih =>
    intro s h hc
    refine ih (s.does x) (fun t ht k0 k e => ?_) (fun y hy => hc y (by simp [hy]))
    rcases names_does s x k _ e with e1 | ⟨e0, e1⟩
    · exact h t ht k0 k e1
    · exact hc x (by simp) e0 t ht k0 e1
end

/-- The unsynced steps make of what is durable what stands. -/
structure Even (d : Dsk) : Prop where
  eq : Eqv (d.l.foldl Shp.does d.dur) d.std
  late : Late d.l
  tidy : Tidy d.dur
  fresh : Fresh d.dur d.l

section
variable {d d' : Dsk} {K : Nat}

theorem even_new : Even newDsk := ⟨Eqv.refl _, List.Pairwise.nil, ⟨fun k j f h => by simp [newDsk, lk] at h, fun f r h => by simp [newDsk, lk] at h⟩, fun t ht => by simp [newDsk] at ht⟩

theorem Even.begin (h : Even d) : Even d.begin.2 := by
  obtain ⟨p1, p2, p3, _⟩ := begin_parts d
  exact ⟨by rw [p1, p2, p3]; exact h.eq, by rw [p3]; exact h.late, by rw [p1]; exact h.tidy, by rw [p1, p3]; exact h.fresh⟩

theorem Even.do (h : Even d) {u : Stp} (hu : u.kind = 0 → (∀ x ∈ d.l, u.file ≠ x.file) ∧ ∀ k, lk d.dur.nm k ≠ some u.file) : Even (d.do u) := by
  refine ⟨?_, ?_, h.tidy, fun t ht k0 k => ?_⟩
  · show Eqv ((d.l ++ [u.num (d.last + 1)]).foldl Shp.does d.dur) (d.std.does u)
    rw [List.foldl_append]
    simp only [List.foldl_cons, List.foldl_nil]
    rw [does_num]
    exact h.eq.does u
  · show Late (d.l ++ [u.num (d.last + 1)])
    refine List.pairwise_append.2 ⟨h.late, List.pairwise_singleton _ _, fun x hx y hy k0 => ?_⟩
    simp only [List.mem_singleton] at hy
    subst hy
    exact (hu k0).1 x hx
  · rcases List.mem_append.1 ht with ht | ht
    · exact h.fresh t ht k0 k
    · simp only [List.mem_singleton] at ht
      subst ht
      exact (hu k0).2 k

theorem Did.even (h : Did d d') (he : Even d) (hb : Bd d K) : Even d' := by
  have heb := he.begin
  obtain ⟨p1, p2, p3, p4, p5⟩ := begin_parts d
  obtain ⟨i, j, at', z, ⟨rfl, h1⟩ | rfl | rfl | ⟨rfl, h1, h2⟩⟩ := h
  · unfold Dsk.cut
    repeat' split
    all_goals first | exact he | exact heb | exact heb.do (fun e => by simp [cutStp] at e)
  · unfold Dsk.rename
    repeat' split
    all_goals first | exact he | exact heb | exact heb.do (fun e => by simp [renStp] at e)
  · unfold Dsk.remove
    repeat' split
    all_goals first | exact he | exact heb | exact heb.do (fun e => by simp [remStp] at e)
  · unfold Dsk.put
    split
    · exact he
    · split
      · exact he
      · split
        · exact heb
        · split
          · have h3 : Even ({ d.begin.2 with made := d.begin.2.made + 1 } : Dsk) := ⟨heb.eq, heb.late, heb.tidy, heb.fresh⟩
            refine (h3.do (u := madeStp (d.begin.2.made + 1) (nmS i)) (fun _ => ⟨fun x hx => ?_, fun k e => ?_⟩)).do (fun e => by simp [putStp] at e)
            · have := (hb.ok x (by rw [p3] at hx; exact hx)).2
              simp only [madeStp]
              omega
            · simp only [p1] at e
              have := hb.filed _ (lk_mem e)
              simp only [madeStp] at this
              omega
          · exact heb.do (fun e => by simp [putStp] at e)

theorem late_sub {l m : List Stp} (h : Late l) (hs : m.Sublist l) : Late m := List.Pairwise.sublist hs h

theorem makes_iff (t : Stp) (f : Int) : t.makes f = true ↔ t.kind = 0 ∧ t.file = f := by simp [Stp.makes]

/-- Behind the steps of names up to a file's making there is none of it. -/
theorem no_making (l : List Stp) (f : Int) (h : Late l) : ∀ t ∈ offN (toMake f (nms l)) l, ¬ (t.kind = 0 ∧ t.file = f) := by
  intro t ht hk
  have hs : t.sec = false := by simp [Stp.sec, hk.1]
  have h1 : t ∈ nms (offN (toMake f (nms l)) l) := List.mem_filter.2 ⟨ht, by simp [hs]⟩
  rw [nms_offN] at h1
  have hln : Late (nms l) := late_sub h List.filter_sublist
  unfold toMake at h1
  cases hf : (nms l).findIdx? (·.makes f) with
  | none =>
    rw [hf] at h1
    simp only [List.drop_zero] at h1
    have := List.findIdx?_eq_none_iff.1 hf t h1
    rw [(makes_iff t f).2 hk] at this
    cases this
  | some i =>
    rw [hf] at h1
    simp only at h1
    obtain ⟨hi, hmk, _⟩ := List.findIdx?_eq_some_iff_getElem.1 hf
    have e : nms l = (nms l).take i ++ ((nms l)[i] :: (nms l).drop (i + 1)) := by
      rw [← List.drop_eq_getElem_cons hi, List.take_append_drop]
    rw [e] at hln
    obtain ⟨_, h2, _⟩ := List.pairwise_append.1 hln
    have h3 := (List.pairwise_cons.1 h2).1 t h1 hk.1
    exact h3 (by rw [hk.2]; exact ((makes_iff _ _).1 hmk).2.symm)

theorem Even.settled (h : Even d) (hb : Bd d K) (f : Int) : Even (d.settled f) := by
  have hof := offN_sub (toMake f (nms d.l)) d.l
  have hnm := no_making d.l f h.late
  have m1 := (mix_names (toMake f (nms d.l)) d.l h.late).fold d.dur
  have m2 := (mix_secs f (offN (toMake f (nms d.l)) d.l) hnm).fold (((nms d.l).take (toMake f (nms d.l))).foldl Shp.does d.dur)
  rw [List.foldl_append] at m1 m2
  have hl1 : Late ((nms d.l).take (toMake f (nms d.l))) := late_sub h.late ((List.take_sublist _ _).trans List.filter_sublist)
  have hok1 : ∀ t ∈ (nms d.l).take (toMake f (nms d.l)), t.Ok := fun t ht => (hb.ok t (List.mem_filter.1 (List.mem_of_mem_take ht)).1).1
  have hf1 : Fresh d.dur ((nms d.l).take (toMake f (nms d.l))) := fun t ht => h.fresh t (List.mem_filter.1 (List.mem_of_mem_take ht)).1
  have t1 := tidy_fold _ _ h.tidy hl1 hok1 hf1
  have hsl : Late (scs (offN (toMake f (nms d.l)) d.l) f) := late_sub h.late (List.filter_sublist.trans hof)
  have hsok : ∀ t ∈ scs (offN (toMake f (nms d.l)) d.l) f, t.Ok := fun t ht => (hb.ok t (hof.subset (List.mem_filter.1 ht).1)).1
  have hs0 : ∀ t ∈ scs (offN (toMake f (nms d.l)) d.l) f, t.sec = true := fun t ht => by
    have := (List.mem_filter.1 ht).2
    simp only [Bool.and_eq_true] at this
    exact this.1
  have hsk : ∀ t ∈ scs (offN (toMake f (nms d.l)) d.l) f, t.kind ≠ 0 := fun t ht e => by
    have := hs0 t ht
    simp [Stp.sec, e] at this
  have t2 := tidy_fold _ _ t1 hsl hsok (fun t ht k0 => absurd k0 (hsk t ht))
  refine ⟨(m2.symm.trans m1.symm).trans h.eq, late_sub h.late (List.filter_sublist.trans hof), t2, ?_⟩
  refine fresh_fold _ _ (fresh_fold _ _ (fun t ht => h.fresh t (hof.subset (List.mem_filter.1 ht).1)) (fun x hx _ t ht k0 => ?_)) (fun x hx hxs => ?_)
  · -- x is among the first names, t among the rest: t is a name behind it
    have ht1 : t ∈ nms (offN (toMake f (nms d.l)) d.l) := List.mem_filter.2 ⟨(List.mem_filter.1 ht).1, by simp [Stp.sec, k0]⟩
    rw [nms_offN] at ht1
    have hln : Late (nms d.l) := late_sub h.late List.filter_sublist
    have e : nms d.l = (nms d.l).take (toMake f (nms d.l)) ++ (nms d.l).drop (toMake f (nms d.l)) := (List.take_append_drop _ _).symm
    rw [e] at hln
    exact (List.pairwise_append.1 hln).2.2 x hx t ht1 k0
  · rw [hs0 x hx] at hxs
    cases hxs

theorem Even.sync (h : Even d) (hb : Bd d K) (s : ByteArray) : Even (d.sync s).2 := by
  unfold Dsk.sync
  rw [hb.begin]
  split
  · exact h
  · split
    · exact h
    · exact h.settled hb _

theorem Even.named (h : Even d) (hb : Bd d K) : Even d.named := by
  have hof := offN_sub (nms d.l).length d.l
  have m1 := (mix_names (nms d.l).length d.l h.late).fold d.dur
  rw [List.foldl_append, List.take_length] at m1
  have hl1 : Late (nms d.l) := late_sub h.late List.filter_sublist
  have t1 := tidy_fold _ _ h.tidy hl1 (fun t ht => (hb.ok t (List.mem_filter.1 ht).1).1) (fun t ht => h.fresh t (List.mem_filter.1 ht).1)
  refine ⟨m1.symm.trans h.eq, late_sub h.late hof, t1, fun t ht k0 => ?_⟩
  have ht1 : t ∈ nms (offN (nms d.l).length d.l) := List.mem_filter.2 ⟨ht, by simp [Stp.sec, k0]⟩
  rw [nms_offN] at ht1
  simp at ht1

/-- A crash that keeps all leaves the disk as it stood. -/
theorem kep_all : ∀ (l : List Stp) (n : Nat), l.length ≤ n → kep l (List.replicate n true) = l := by
  intro l
  induction l with
  | nil => intro n _; cases n <;> rfl
  | cons t l ih =>
    intro n hn
    cases n with
    | zero => simp at hn
    | succ n =>
      simp only [List.replicate_succ, kep, if_true]
      rw [ih n (by simpa using hn)]
      rfl

theorem Even.crash_all (h : Even d) (n : Nat) (hn : d.l.length ≤ n) : Eqv (d.crash (List.replicate n true)).std d.std := by
  show Eqv ((kep d.l (List.replicate n true)).foldl Shp.does d.dur) d.std
  rw [kep_all _ _ hn]
  exact h.eq

/-- Nothing is left to sync of files with names. -/
def Quiet (d : Dsk) : Prop := ∀ t ∈ d.l, t.sec = true ∧ ∀ k, lk d.std.nm k ≠ some t.file

theorem quiet_fold : ∀ (ts : List Stp) (s : Shp), (∀ t ∈ ts, t.sec = true ∧ lk s.rw t.file = none) → Eqv (ts.foldl Shp.does s) s := by
  intro ts
  induction ts with
  | nil => exact fun s _ => Eqv.refl s
  | cons x ts ih =>
    intro s h
    obtain ⟨hx, hr⟩ := h x (by simp)
    obtain ⟨a1, a2⟩ := sec_does hx s
    have e : Eqv (s.does x) s := ⟨fun k => by rw [a1], fun g => by
      rw [a2]
      split
      · rename_i eg; rw [eg, hr]; rfl
      · rfl⟩
    exact (ih (s.does x) (fun t ht => ⟨(h t (by simp [ht])).1, by rw [e.rw]; exact (h t (by simp [ht])).2⟩)).trans e

theorem sec_names : ∀ (ts : List Stp) (s : Shp), (∀ t ∈ ts, t.sec = true) → (ts.foldl Shp.does s).nm = s.nm := by
  intro ts
  induction ts with
  | nil => exact fun _ _ => rfl
  | cons x ts ih => exact fun s h => (ih (s.does x) (fun t ht => h t (by simp [ht]))).trans (sec_does (h x (by simp)) s).1

/-- Then any crash leaves it as it stood. -/
theorem Even.crash_any (h : Even d) (hq : Quiet d) (ks : List Bool) : Eqv (d.crash ks).std d.std := by
  have hn : ∀ k, lk d.dur.nm k = lk d.std.nm k := fun k => by
    rw [← h.eq.nm k, sec_names d.l d.dur (fun t ht => (hq t ht).1)]
  have hr : ∀ t ∈ d.l, t.sec = true ∧ lk d.dur.rw t.file = none := fun t ht => by
    refine ⟨(hq t ht).1, ?_⟩
    cases hl : lk d.dur.rw t.file with
    | none => rfl
    | some r =>
      obtain ⟨k, hk⟩ := h.tidy.named _ _ hl
      rw [hn] at hk
      exact absurd hk ((hq t ht).2 k)
  show Eqv ((kep d.l ks).foldl Shp.does d.dur) d.std
  exact (quiet_fold _ _ (fun t ht => hr t ((kep_sub d.l ks).subset ht))).trans ((quiet_fold _ _ hr).symm.trans h.eq)
end

end Go.Proofs.Ytikhgjnjlkaobaa

/-
  FileWhole, walked: its loops.
-/
namespace Go.Proofs.Ytikhgjnjlkaobaa
open Go.RowKit
set_option maxRecDepth 100000
set_option maxRecDepth 100000
set_option linter.unusedVariables false

def secs (xs : List Int) (k : Nat) : List (List Int) := (xs.take k).map sec64
theorem secs_length (xs : List Int) (k : Nat) (h : k ≤ xs.length) : (secs xs k).length = k := by simp [secs]; omega
theorem secs_next (xs : List Int) (k : Nat) (h : k < xs.length) : secs xs (k + 1) = secs xs k ++ [sec64 (xs.getD k 0)] := by
  unfold secs
  rw [List.take_succ_eq_append_getElem h, List.map_append, List.getD, List.getElem?_eq_getElem h]
  rfl
theorem flat64 {rs : List (List Int)} (h : ∀ x ∈ rs, x.length = 64) : rs.flatten.length = 64 * rs.length := by
  induction rs with
  | nil => rfl
  | cons x rs ih =>
    have h1 := h x (by simp)
    have h2 := ih (fun y hy => h y (by simp [hy]))
    simp only [List.flatten_cons, List.length_append, List.length_cons, h1, h2]
    omega
theorem secs_gr {xs : List Int} (hb : ∀ z ∈ xs, 0 ≤ z ∧ z ≤ 255) {k : Nat} (hk : k ≤ 10) : Gx (secs xs k) := by
  refine ⟨by simp [secs]; omega, fun x hx => ?_⟩
  obtain ⟨z, hz, rfl⟩ := List.mem_map.1 hx
  refine ⟨by simp [sec64], fun y hy => ?_⟩
  rw [(List.mem_replicate.1 hy).2]
  exact hb z (List.mem_of_mem_take hz)
theorem secs_flat {xs : List Int} (k : Nat) (h : k ≤ xs.length) : (secs xs k).flatten.length = 64 * k := by
  rw [flat64 (fun x hx => by obtain ⟨z, _, rfl⟩ := List.mem_map.1 hx; simp [sec64]), secs_length xs k h]
theorem flat_byte {rs : List (List Int)} (h : Gx rs) : ∀ z ∈ rs.flatten, 0 ≤ z ∧ z ≤ 255 := by
  intro z hz
  obtain ⟨x, hx, hzx⟩ := List.mem_flatten.1 hz
  exact (h.2 x hx).2 z hzx

theorem sec64_byte {z : Int} (h : 0 ≤ z ∧ z ≤ 255) : ∀ y ∈ sec64 z, 0 ≤ y ∧ y ≤ 255 := fun y hy => by rw [(List.mem_replicate.1 hy).2]; exact h

theorem put_upon' {s0 : Shp} {m n : Int} {s : ByteArray} {rs : List (List Int)} {r : List Int} (h : Cl s0 m s) (hs : 1 ≤ s.size ∧ s.size ≤ 64) {k : Nat} (hk : rs.length = k) (hr : k < 4096) : (upon s0 m n s rs).put s (k : Int) 64 r = (0, upon s0 m n s (rs ++ [r])) := by
  subst hk
  exact put_upon h hs hr
theorem room_upon' {s0 : Shp} {m n : Int} {s : ByteArray} {rs : List (List Int)} (h : Cl s0 m s) {k : Nat} (hk : rs.length = k) (hr : k < 4096) : ¬ ((k : Int) = 4096 ∨ ((upon s0 m n s rs).find s = 0 ∧ 256 ≤ (upon s0 m n s rs).std.nm.length)) := by
  subst hk
  exact room_upon h hr

theorem sm0 : Sm ⟨[], []⟩ 10 := Sm.empty
theorem smA {A : List (List Int)} (h : Gx A) : Sm (sA A) 11 := (Sm.st sm0 (k := [102]) (f := 1) ⟨by omega, by omega⟩ h)
theorem smB {A B : List (List Int)} (h : Gx A) (h2 : Gx B) : Sm (sB A B) 12 := (Sm.st (smA h) (k := [116]) (f := 2) ⟨by omega, by omega⟩ h2)
theorem smC {B : List (List Int)} (h : Gx B) : Sm (sC B) 11 := (Sm.st sm0 (k := [102]) (f := 2) ⟨by omega, by omega⟩ h)

theorem crash_B (A B : List (List Int)) (m n : Int) (ks : List Bool) : (⟨sB A B, sC B, [(renStp 2 tS fS).num (n + 1)], n + 1, m, false, -1, -1, 0⟩ : Dsk).crash ks = calm (sB A B) m 0 ∨ (⟨sB A B, sC B, [(renStp 2 tS fS).num (n + 1)], n + 1, m, false, -1, -1, 0⟩ : Dsk).crash ks = calm (sC B) m 0 := by
  cases ks with
  | nil => exact .inl rfl
  | cons b ks =>
    cases b
    · exact .inl (by cases ks <;> rfl)
    · exact .inr (by cases ks <;> rfl)
theorem crash_C (B : List (List Int)) (m n : Int) (ks : List Bool) : (⟨sC B, sC B, [], n, m, false, -1, -1, 0⟩ : Dsk).crash ks = calm (sC B) m 0 := by cases ks <;> rfl
theorem few_R {A B : List (List Int)} (hA : Gx A) (hB : Gx B) {m n : Int} (hm : 0 ≤ m ∧ m ≤ 1000) (hn : n ≤ 10000) : Few (⟨sB A B, sC B, [(renStp 2 tS fS).num (n + 1)], n + 1, m, false, -1, -1, 0⟩ : Dsk) 12 :=
  ⟨⟨Nat.le_trans (smC hB).nm (by omega), Nat.le_trans (smC hB).rw (by omega), (smC hB).file, (smC hB).row⟩, smB hA hB, by omega, by simp only; omega, by simp only; omega, by simp [sC]⟩
theorem find_Bf (A B : List (List Int)) (m n : Int) : (calm (sB A B) m n).find fS = 1 := rfl
theorem find_Bt (A B : List (List Int)) (m n : Int) : (calm (sB A B) m n).find tS = 2 := rfl
theorem find_Cf (B : List (List Int)) (m n : Int) : (calm (sC B) m n).find fS = 2 := rfl
theorem bytes_B (A B : List (List Int)) (m n : Int) : (calm (sB A B) m n).bytes fS = A.flatten := rfl
theorem bytes_C (B : List (List Int)) (m n : Int) : (calm (sC B) m n).bytes fS = B.flatten := rfl

namespace fileWhole

set_option maxHeartbeats 4000000 in
theorem walk (a : Option Addr) (n cap : Nat) (xs : List Int) (b : Option Addr) (m bcap : Nat) (ys : List Int) (p : Option Addr) (q pcap : Nat) (ks : List Bool) (sy : Bool) (w : World)
    (hA : Bs w a n cap xs) (hB : Bs w b m bcap ys) (hks : ks.length = q) (hcap : q ≤ pcap ∧ pcap ≤ 9223372036854775807) (hp : Kp w p ks) :
    Calls Try.prog 7 #[.slice a n cap, .slice b m bcap, .slice p q pcap, .bool sy] w fun e w' => e = .returned (.bool true) ∧ Below w.heap.size w w' := by
  have hla := hA.len
  have hea := hA.le
  have hra := hA.reach
  have hlb := hB.len
  have heb := hB.le
  have hrb := hB.reach
  have HKS := hide (And.intro hks (And.intro hcap hp))
  clear hks hp
  obtain ⟨hcap1, hcap2⟩ := hcap
  have HLA := hide hla
  have HLB := hide hlb
  clear hla hlb
  go_enter Try.func7, Try.ntmps7
  go_wp2_with fail
  refine aw_new.mono ?_
  rintro e w1 ⟨R, rfl, hR, a1⟩
  have A1 := hide a1.ax
  clear a1
  go_wp2_with fail
  go_loopw [10, 12] (fun v i wr => ∃ k : Nat, k ≤ n ∧ k ≤ 10 ∧ i = .int .i64 k ∧ Hid (Ax w [v] R (upon ⟨[], []⟩ 0 0 fS (secs xs k)) wr) ∧ Hid (wr.ownsRow w.heap.size 5 1 v (64 * k) (U (secs xs k).flatten))) (fun _ i _ => n - (intOf i).toNat)
  case atStart => exact ⟨0, Nat.zero_le _, by omega, rfl, hide (A1.out.less (fun v hv => .inr (by simp only [List.mem_singleton] at hv; subst hv; rfl))), hide (World.ownsRow_nil _ _ _ _)⟩
  case round =>
    obtain ⟨k, hk, hk10, rfl, hax, hrow⟩ := hrel
    have hkx : k ≤ xs.length := by rw [HLA.out]; exact hk
    by_cases hlt : k < n ∧ k < 10
    · obtain ⟨hlt, hlt10⟩ := hlt
      obtain ⟨bl, ol, rfl, hc1⟩ := (hA.keep hax.out.below).lies (by omega)
      have hk1 := hc1 k hlt
      have HK := hide (fun (W : World) (h : Below w.heap.size w W) => show W.cell? ⟨bl, ol + k, none⟩ = some (.int .u8 (xs.getD k 0)) by
        obtain ⟨b', o', e', hc'⟩ := (hA.keep h).lies (by omega)
        simp only [Option.some.injEq, Addr.mk.injEq, and_true] at e'
        obtain ⟨rfl, rfl⟩ := e'
        exact hc' k hlt)
      have hzb : 0 ≤ xs.getD k 0 ∧ xs.getD k 0 ≤ 255 := by
        have := getD_byte hA.byte k
        simpa using this
      have HNX := hide (secs_next xs k (by rw [HLA.out]; exact hlt))
      clear hc1
      generalize xs.getD k 0 = z at *
      have HZ := hide hzb
      obtain ⟨hz0, hz1⟩ := hzb
      go_wp2_with fail
      refine (fill_any z wr).mono ?_
      rintro e w2 ⟨v2, rfl, r2, b2⟩
      have hgr := secs_gr (xs := xs) hA.byte hk10
      have hsl := secs_length xs k hkx
      have C := ax_put (vs := [u10]) (s := fS) (at' := (k : Int)) hax.out (Tb.of_fresh b2) r2 (sec64_byte HZ.out) (few_upon sm0 (by omega) (by omega) (by omega) (by simp) hgr) (by decide) (by omega) (by rw [rows_upon cl0, hsl]; exact Int.le_refl _) (room_upon' cl0 hsl (by omega))
      rw [put_upon' cl0 (by decide) hsl (by omega), ← HNX.out] at C
      have hr2 := row_tb hrow.out (Tb.of_fresh b2) (fun _ _ h => h) (S := fun _ => False)
      have HC := hide C
      have HR2 := hide hr2
      clear C hr2 hrow hax r2 b2 hk1 hsl hgr
      go_wp2_with fail
      refine HC.out.mono ?_
      rintro e w3 ⟨rfl, h3, kr3⟩
      have H3 := hide h3
      have hr3 := hide (kr3 _ (by simp) _ _ _ _ _ HR2.out)
      have hk3 := HK.out w3 h3.below
      clear HC HR2 kr3 h3
      go_wp2_with fail
      refine (fill_any z w3).mono ?_
      rintro e w4 ⟨v4, rfl, r4, b4⟩
      have hr4 := row_tb hr3.out (Tb.of_fresh b4) (fun _ _ h => h) (S := fun _ => False)
      have h4 := H3.out.kept (Tb.of_fresh b4)
      obtain ⟨v5, w5, hrun, ho5, h5, _, _⟩ := append_beside h4 hr4 r4 (U_one _) (by omega) (fun u hu => by simp at hu)
      have H5 := hide h5
      have R5 : Hid (w5.ownsRow w.heap.size 5 1 v5 (64 * (k + 1)) (U (secs xs (k + 1)).flatten)) := hide (by
        rw [HNX.out, List.flatten_append, U_append]
        have e : 64 * (k + 1) = 64 * k + 64 := by omega
        rw [e]
        simpa using ho5)
      clear hr3 hr4 h4 H3 r4 b4 ho5 h5 hk3
      go_wp2_with (at_builtin; refine wpList_append_run rfl 28 _ _ rfl _ _ v5 rfl rfl hrun ?_)
      go_roundw
      case rel => exact ⟨k + 1, by omega, by omega, by go_num, H5, R5⟩
      case measure => simp [intOf]; omega
    · have hend : (k < n ∧ 10 ≤ k) ∨ ¬ k < n := by omega
      clear hlt
      have hgA := secs_gr (xs := xs) hA.byte hk10
      have hslA := secs_length xs k hkx
      have hfl := secs_flat k hkx
      obtain ⟨A, hAA⟩ : ∃ A, A = secs xs k := ⟨_, rfl⟩
      rw [← hAA] at hgA hslA hax hrow hfl
      clear hAA
      have HSA := hide hslA
      have HGA := hide hgA
      have hSync : Hid (∃ s0 m0 n0, Cl s0 m0 tS ∧ Sm s0 11 ∧ (0 ≤ m0 ∧ m0 ≤ 1) ∧ (n0 ≤ 20) ∧ (∀ p ∈ s0.nm, 0 ≤ p.2) ∧ (0 < k → s0 = sA A ∧ m0 = 1) ∧
          Calls Try.prog 15 #[.pointer (some ⟨R, 0, none⟩), .string fS] wr fun e w' => (∃ x, e = .returned (.int .i64 x)) ∧ Ax w [u10] R (calm s0 m0 n0) w' ∧ w'.ownsRow w.heap.size 5 1 u10 (64 * k) (U A.flatten)) := hide (by
        rcases Nat.eq_zero_or_pos k with h0 | h0
        · have hA0 : A = [] := List.eq_nil_of_length_eq_zero (by omega)
          have hax0 := hax.out
          have hrow0 := hrow.out
          subst hA0
          refine ⟨⟨[], []⟩, 0, 0, cl0t, ⟨by simp, by simp, by simp, by simp⟩, by omega, by omega, by simp, fun h => by omega, ?_⟩
          refine (ax_sync_no (s := fS) hax0 (by decide) rfl).mono ?_
          rintro e w' ⟨rfl, rfl⟩
          exact ⟨⟨_, rfl⟩, hax0, hrow0⟩
        · have hA0 : A ≠ [] := fun e => by rw [e] at hslA; simp at hslA; omega
          have hu : upon ⟨[], []⟩ 0 0 fS A = more ⟨[], []⟩ 0 0 fS A := if_neg hA0
          have hax0 := hax.out
          rw [hu] at hax0
          refine ⟨sA A, 1, 0 + 1 + (A.length : Int), clA A, smA hgA, by omega, by omega, by simp [sA], fun _ => ⟨rfl, rfl⟩, ?_⟩
          have C := ax_sync (s := fS) hax0 (few_more sm0 (by omega) (by omega) (by omega) (by simp) hgA) (by decide) (by show (more ⟨[], []⟩ 0 0 fS A).find fS ≠ 0; exact (by decide : (0 + 1 : Int) ≠ 0))
          rw [sync_more cl0, st0] at C
          refine C.mono ?_
          rintro e w' ⟨rfl, h1, h2⟩
          exact ⟨⟨_, rfl⟩, h1, h2 _ (by simp) _ _ _ _ _ hrow.out⟩)
      obtain ⟨s0, m0, n0, hcl, hsm, hm0, hn0, hfp, hsA, hC⟩ := hSync.out
      obtain ⟨a10, c10, hv10⟩ := row_val hrow.out
      subst hv10
      have HCL := hide hcl
      have HSM := hide hsm
      have HM0 := hide (And.intro hm0 hn0)
      have HFP := hide hfp
      have HSS := hide hsA
      have HC := hide hC
      clear hSync hcl hsm hm0 hn0 hfp hsA hC hax hrow hgA hslA hfl A1
      rcases hend with ⟨he1, he2⟩ | he1
      all_goals
        go_wp2_with fail
        refine HC.out.mono ?_
        rintro e w2 ⟨⟨x2, rfl⟩, h2, r2⟩
        have H2 := hide h2
        have R2 := hide r2
        clear h2 r2 HC
        go_wp2_with fail
        go_loopw [11, 13] (fun v i wr => ∃ j : Nat, j ≤ m ∧ j ≤ 10 ∧ i = .int .i64 j ∧ Hid (Ax w [v, .slice a10 (64 * k) c10] R (upon s0 m0 n0 tS (secs ys j)) wr) ∧ Hid (wr.ownsRow w.heap.size 5 1 v (64 * j) (U (secs ys j).flatten)) ∧ Hid (wr.ownsRow w.heap.size 5 1 (.slice a10 (64 * k) c10) (64 * k) (U A.flatten)) ∧
            Hid (∀ u ∈ [Value.slice a10 (64 * k) c10], ∀ g, u.ownBlock = some g → v.ownBlock ≠ some g)) (fun _ i _ => m - (intOf i).toNat)
        case atStart => exact ⟨0, Nat.zero_le _, by omega, rfl, hide (H2.out.less (fun v hv => by
            simp only [List.mem_cons, List.not_mem_nil, or_false] at hv
            rcases hv with rfl | rfl
            · exact .inr rfl
            · exact .inl (by simp))), hide (World.ownsRow_nil _ _ _ _), R2, hide (fun u hu g hg e => by cases e)⟩
        case round =>
          obtain ⟨j, hj, hj10, rfl, hax, hrow, hrow1, hne⟩ := hrel
          have hjy : j ≤ ys.length := by rw [HLB.out]; exact hj
          by_cases hlt : j < m ∧ j < 10
          · obtain ⟨hlt, hlt10⟩ := hlt
            obtain ⟨bl, ol, rfl, hc1⟩ := (hB.keep hax.out.below).lies (by omega)
            have hk1 := hc1 j hlt
            have HK := hide (fun (W : World) (h : Below w.heap.size w W) => show W.cell? ⟨bl, ol + j, none⟩ = some (.int .u8 (ys.getD j 0)) by
              obtain ⟨b', o', e', hc'⟩ := (hB.keep h).lies (by omega)
              simp only [Option.some.injEq, Addr.mk.injEq, and_true] at e'
              obtain ⟨rfl, rfl⟩ := e'
              exact hc' j hlt)
            have hzb : 0 ≤ ys.getD j 0 ∧ ys.getD j 0 ≤ 255 := by
              have := getD_byte hB.byte j
              simpa using this
            have HNX := hide (secs_next ys j (by rw [HLB.out]; exact hlt))
            clear hc1
            generalize ys.getD j 0 = z at *
            have HZ := hide hzb
            obtain ⟨hz0, hz1⟩ := hzb
            go_wp2_with fail
            refine (fill_any z wr).mono ?_
            rintro e w3 ⟨v3, rfl, r3, b3⟩
            have hgr := secs_gr (xs := ys) hB.byte hj10
            have hsl := secs_length ys j hjy
            have C := ax_put (s := tS) (at' := (j : Int)) hax.out (Tb.of_fresh b3) r3 (sec64_byte HZ.out) (few_upon HSM.out (by omega) (by have := HM0.out.1; omega) (by have := HM0.out.2; omega) HFP.out hgr) (by decide) (by omega) (by rw [rows_upon HCL.out, hsl]; exact Int.le_refl _) (room_upon' HCL.out hsl (by omega))
            rw [put_upon' HCL.out (by decide) hsl (by omega), ← HNX.out] at C
            have hr3 := row_tb hrow.out (Tb.of_fresh b3) (fun _ _ h => h) (S := fun _ => False)
            have hs3 := row_tb hrow1.out (Tb.of_fresh b3) (fun _ _ h => h) (S := fun _ => False)
            have HC := hide C
            have HR3 := hide hr3
            have HS3 := hide hs3
            clear C hr3 hs3 hrow hrow1 hax r3 b3 hk1 hsl hgr
            go_wp2_with fail
            refine HC.out.mono ?_
            rintro e w4 ⟨rfl, h4, kr4⟩
            have H4 := hide h4
            have hr4 := hide (kr4 _ (by simp) _ _ _ _ _ HR3.out)
            have hs4 := hide (kr4 _ (by simp) _ _ _ _ _ HS3.out)
            have hk4 := HK.out w4 h4.below
            clear HC HR3 HS3 kr4 h4
            go_wp2_with fail
            refine (fill_any z w4).mono ?_
            rintro e w5 ⟨v5, rfl, r5, b5⟩
            have hr5 := row_tb hr4.out (Tb.of_fresh b5) (fun _ _ h => h) (S := fun _ => False)
            have hs5 := row_tb hs4.out (Tb.of_fresh b5) (fun _ _ h => h) (S := fun _ => False)
            have h5 := H4.out.kept (Tb.of_fresh b5)
            obtain ⟨v6, w6, hrun, ho6, h6, kr6, hne6⟩ := append_beside h5 hr5 r5 (U_one _) (by omega) hne.out
            have H6 := hide h6
            have HN6 := hide hne6
            have HS6 := hide (kr6 _ (by simp) _ _ _ _ _ hs5)
            have R6 : Hid (w6.ownsRow w.heap.size 5 1 v6 (64 * (j + 1)) (U (secs ys (j + 1)).flatten)) := hide (by
              rw [HNX.out, List.flatten_append, U_append]
              have e : 64 * (j + 1) = 64 * j + 64 := by omega
              rw [e]
              simpa using ho6)
            clear hr4 hs4 hr5 hs5 h5 H4 r5 b5 ho6 h6 hk4 kr6 hne6 hne
            go_wp2_with (at_builtin; refine wpList_append_run rfl 28 _ _ rfl _ _ v6 rfl rfl hrun ?_)
            go_roundw
            case rel => exact ⟨j + 1, by omega, by omega, by go_num, H6, R6, HS6, HN6⟩
            case measure => simp [intOf]; omega
          · have hend2 : (j < m ∧ 10 ≤ j) ∨ ¬ j < m := by omega
            clear hlt
            have hgB := secs_gr (xs := ys) hB.byte hj10
            have hslB := secs_length ys j hjy
            obtain ⟨B, hBB⟩ : ∃ B, B = secs ys j := ⟨_, rfl⟩
            rw [← hBB] at hgB hslB hax hrow
            clear hBB
            have HGB := hide hgB
            have HSB := hide hslB
            obtain ⟨a11, c11, hv11⟩ := row_val hrow.out
            subst hv11
            clear hgB hslB hne H2 R2
            obtain ⟨N1, hN1⟩ : ∃ N1, N1 = 64 * k := ⟨_, rfl⟩
            obtain ⟨N2, hN2⟩ : ∃ N2, N2 = 64 * j := ⟨_, rfl⟩
            rw [← hN1] at hax hrow1
            rw [← hN2] at hax hrow
            rw [← hN1, ← hN2]
            have HN1 := hide hN1
            have HN2 := hide hN2
            clear hN1 hN2
            by_cases hk0 : N1 = 0
            · subst hk0
              rcases hend2 with ⟨hf1, hf2⟩ | hf1
              all_goals
                go_wp2_with fail
                refine (awake_any _).mono ?_
                rintro e w9 ⟨rfl, t9⟩
                go_wp2_with fail
                go_ret
                exact ⟨rfl, hax.out.below.trans ((t9.below (fun _ h => h.elim) (Nat.le_refl _)).mono hax.out.below.size)⟩
            · have hd1 : ((N1 : Int) == 0) = false := by simp; omega
              by_cases hj0 : N2 = 0
              · subst hj0
                rcases hend2 with ⟨hf1, hf2⟩ | hf1
                all_goals
                  go_wp2_with fail
                  refine (awake_any _).mono ?_
                  rintro e w9 ⟨rfl, t9⟩
                  go_wp2_with fail
                  go_ret
                  exact ⟨rfl, hax.out.below.trans ((t9.below (fun _ h => h.elim) (Nat.le_refl _)).mono hax.out.below.size)⟩
              · have hd2 : ((N2 : Int) == 0) = false := by simp; omega
                have hkp : 0 < k := by have := HN1.out; omega
                have hjp : 0 < j := by have := HN2.out; omega
                obtain ⟨e1, e2⟩ := HSS.out hkp
                have hB0 : B ≠ [] := fun e => by have := HSB.out; rw [e] at this; simp at this; omega
                have hu : upon s0 m0 n0 tS B = more s0 m0 n0 tS B := if_neg hB0
                subst e1
                subst e2
                rw [hu] at hax
                have C1 := ax_sync (s := tS) hax.out (few_more HSM.out (by omega) (by omega) (by have := HM0.out.2; omega) HFP.out HGB.out) (by decide) (by show (1 + 1 : Int) ≠ 0; decide)
                rw [sync_more HCL.out, stA] at C1
                obtain ⟨n1, hn1⟩ : ∃ n1, n1 = n0 + 1 + (B.length : Int) := ⟨_, rfl⟩
                have hn1b : n1 ≤ 40 := by have := HSB.out; have := HM0.out.2; omega
                rw [← hn1] at C1
                have HC1 := hide C1
                have HROW := hide (And.intro hrow.out hrow1.out)
                clear C1 hn1 hax hrow hrow1 hu hB0 HCL HFP HM0 HSS HN1 HN2 HSB HSM HSA
                cases sy
                · rcases hend2 with ⟨hf1, hf2⟩ | hf1
                  all_goals
                    go_wp2_with fail
                    refine HC1.out.mono ?_
                    rintro e w3 ⟨rfl, h3, k3⟩
                    have R3 := hide (And.intro (k3 _ (by simp) _ _ _ _ _ HROW.out.1) (k3 _ (by simp) _ _ _ _ _ HROW.out.2))
                    have C2 := ax_rename (s := tS) (t := fS) h3 (few_calm (smB HGA.out HGB.out) (by omega) (by omega) (by omega) (by simp [sB])) (by decide) (by decide) (by rw [find_Bt]; decide)
                    rw [ren_B] at C2
                    have HC2 := hide C2
                    clear C2 h3 k3 HC1 HROW
                    go_wp2_with fail
                    refine HC2.out.mono ?_
                    rintro e w4 ⟨rfl, h4, k4⟩
                    have R4 := hide (And.intro (k4 _ (by simp) _ _ _ _ _ R3.out.1) (k4 _ (by simp) _ _ _ _ _ R3.out.2))
                    have C4 := ax_crash h4 (few_R HGA.out HGB.out (by omega) (by omega)) HKS.out.1 HKS.out.2.1 HKS.out.2.2
                    have HC4 := hide C4
                    clear C4 h4 k4 HC2 R3
                    go_wp2_with fail
                    refine HC4.out.mono ?_
                    rintro e w6 ⟨rfl, h6, k6⟩
                    have R6 := hide (And.intro (k6 _ (by simp) _ _ _ _ _ R4.out.1) (k6 _ (by simp) _ _ _ _ _ R4.out.2))
                    clear k6 HC4 R4
                    rcases crash_B A B 2 n1 ks with ec | ec
                    · rw [show (1 + 1 : Int) = 2 from rfl, ec] at h6
                      clear ec
                      have H6 := hide h6
                      clear h6
                      have C6 := ax_read (s := fS) H6.out (few_calm (K := 12) (smB HGA.out HGB.out) (by omega) (by omega) (by omega) (by simp [sB])) (by decide) (by rw [find_Bf]; decide) rfl
                      rw [bytes_B] at C6
                      obtain ⟨N7, hN7⟩ : ∃ N7, N7 = A.flatten.length := ⟨_, rfl⟩
                      rw [← hN7] at C6
                      clear hN7
                      have HC6 := hide C6
                      clear C6
                      go_wp2_with fail
                      refine HC6.out.mono ?_
                      rintro e w7 ⟨v7, rfl, r7, b7⟩
                      obtain ⟨a7, c7, hv7⟩ := row_val r7
                      subst hv7
                      have C7 := same_any _ _ _ _ _ _ _ _ w7 (own_bs r7 (flat_byte HGA.out)) (own_bs (row_tb R6.out.1 (Tb.of_fresh b7) (fun _ _ h => h) (S := fun _ => False)) (flat_byte HGB.out))
                      have C8 := same_any _ _ _ _ _ _ _ _ w7 (own_bs r7 (flat_byte HGA.out)) (own_bs (row_tb R6.out.2 (Tb.of_fresh b7) (fun _ _ h => h) (S := fun _ => False)) (flat_byte HGA.out))
                      rw [decide_eq_true rfl] at C8
                      have HB7 : Hid (Below w.heap.size w w7) := hide (H6.out.below.trans (b7.mono H6.out.below.size))
                      have HC7 := hide C7
                      have HC8 := hide C8
                      clear C7 C8 r7 b7 HC6 H6 R6
                      by_cases hsame : A.flatten = B.flatten
                      · rw [decide_eq_true hsame] at HC7
                        clear hsame HC8
                        go_wp2_with fail
                        refine HC7.out.mono ?_
                        rintro e w8 ⟨rfl, rfl⟩
                        clear HC7
                        go_wp2_with fail
                        refine (awake_any _).mono ?_
                        rintro e w9 ⟨rfl, t9⟩
                        go_wp2_with fail
                        go_ret
                        exact ⟨rfl, HB7.out.trans ((t9.below (fun _ h => h.elim) (Nat.le_refl _)).mono HB7.out.size)⟩
                      · rw [decide_eq_false hsame] at HC7
                        clear hsame
                        go_wp2_with fail
                        refine HC7.out.mono ?_
                        rintro e w8 ⟨rfl, rfl⟩
                        clear HC7
                        go_wp2_with fail
                        refine HC8.out.mono ?_
                        rintro e w8 ⟨rfl, rfl⟩
                        clear HC8
                        go_wp2_with fail
                        refine (awake_any _).mono ?_
                        rintro e w9 ⟨rfl, t9⟩
                        go_wp2_with fail
                        go_ret
                        exact ⟨rfl, HB7.out.trans ((t9.below (fun _ h => h.elim) (Nat.le_refl _)).mono HB7.out.size)⟩
                    · rw [show (1 + 1 : Int) = 2 from rfl, ec] at h6
                      clear ec
                      have H6 := hide h6
                      clear h6
                      have C6 := ax_read (s := fS) H6.out (few_calm (K := 11) (smC HGB.out) (by omega) (by omega) (by omega) (by simp [sC])) (by decide) (by rw [find_Cf]; decide) rfl
                      rw [bytes_C] at C6
                      obtain ⟨N7, hN7⟩ : ∃ N7, N7 = B.flatten.length := ⟨_, rfl⟩
                      rw [← hN7] at C6
                      clear hN7
                      have HC6 := hide C6
                      clear C6
                      go_wp2_with fail
                      refine HC6.out.mono ?_
                      rintro e w7 ⟨v7, rfl, r7, b7⟩
                      obtain ⟨a7, c7, hv7⟩ := row_val r7
                      subst hv7
                      have C7 := same_any _ _ _ _ _ _ _ _ w7 (own_bs r7 (flat_byte HGB.out)) (own_bs (row_tb R6.out.1 (Tb.of_fresh b7) (fun _ _ h => h) (S := fun _ => False)) (flat_byte HGB.out))
                      rw [decide_eq_true rfl] at C7
                      have HB7 : Hid (Below w.heap.size w w7) := hide (H6.out.below.trans (b7.mono H6.out.below.size))
                      have HC7 := hide C7
                      clear C7 r7 b7 HC6 H6 R6
                      go_wp2_with fail
                      refine HC7.out.mono ?_
                      rintro e w8 ⟨rfl, rfl⟩
                      clear HC7
                      go_wp2_with fail
                      refine (awake_any _).mono ?_
                      rintro e w9 ⟨rfl, t9⟩
                      go_wp2_with fail
                      go_ret
                      exact ⟨rfl, HB7.out.trans ((t9.below (fun _ h => h.elim) (Nat.le_refl _)).mono HB7.out.size)⟩
                · rcases hend2 with ⟨hf1, hf2⟩ | hf1
                  all_goals
                    go_wp2_with fail
                    refine HC1.out.mono ?_
                    rintro e w3 ⟨rfl, h3, k3⟩
                    have R3 := hide (And.intro (k3 _ (by simp) _ _ _ _ _ HROW.out.1) (k3 _ (by simp) _ _ _ _ _ HROW.out.2))
                    have C2 := ax_rename (s := tS) (t := fS) h3 (few_calm (smB HGA.out HGB.out) (by omega) (by omega) (by omega) (by simp [sB])) (by decide) (by decide) (by rw [find_Bt]; decide)
                    rw [ren_B] at C2
                    have HC2 := hide C2
                    clear C2 h3 k3 HC1 HROW
                    go_wp2_with fail
                    refine HC2.out.mono ?_
                    rintro e w4 ⟨rfl, h4, k4⟩
                    have R4 := hide (And.intro (k4 _ (by simp) _ _ _ _ _ R3.out.1) (k4 _ (by simp) _ _ _ _ _ R3.out.2))
                    have C3 := ax_syncNames h4 (few_R HGA.out HGB.out (by omega) (by omega))
                    rw [named_B] at C3
                    have HC3 := hide C3
                    clear C3 h4 k4 HC2 R3
                    go_wp2_with fail
                    refine HC3.out.mono ?_
                    rintro e w5 ⟨rfl, h5, k5⟩
                    have R5 := hide (And.intro (k5 _ (by simp) _ _ _ _ _ R4.out.1) (k5 _ (by simp) _ _ _ _ _ R4.out.2))
                    have C4 := ax_crash h5 (K := 11) ⟨smC HGB.out, smC HGB.out, by omega, by simp only; omega, by simp only; omega, by simp [sC]⟩ HKS.out.1 HKS.out.2.1 HKS.out.2.2
                    rw [crash_C] at C4
                    have HC4 := hide C4
                    clear C4 h5 k5 HC3 R4
                    go_wp2_with fail
                    refine HC4.out.mono ?_
                    rintro e w6 ⟨rfl, h6, k6⟩
                    have R6 := hide (And.intro (k6 _ (by simp) _ _ _ _ _ R5.out.1) (k6 _ (by simp) _ _ _ _ _ R5.out.2))
                    clear k6 HC4 R5
                    have H6 := hide h6
                    clear h6
                    have C6 := ax_read (s := fS) H6.out (few_calm (K := 11) (smC HGB.out) (by omega) (by omega) (by omega) (by simp [sC])) (by decide) (by rw [find_Cf]; decide) rfl
                    rw [bytes_C] at C6
                    obtain ⟨N7, hN7⟩ : ∃ N7, N7 = B.flatten.length := ⟨_, rfl⟩
                    rw [← hN7] at C6
                    clear hN7
                    have HC6 := hide C6
                    clear C6
                    go_wp2_with fail
                    refine HC6.out.mono ?_
                    rintro e w7 ⟨v7, rfl, r7, b7⟩
                    obtain ⟨a7, c7, hv7⟩ := row_val r7
                    subst hv7
                    have C7 := same_any _ _ _ _ _ _ _ _ w7 (own_bs r7 (flat_byte HGB.out)) (own_bs (row_tb R6.out.1 (Tb.of_fresh b7) (fun _ _ h => h) (S := fun _ => False)) (flat_byte HGB.out))
                    rw [decide_eq_true rfl] at C7
                    have HB7 : Hid (Below w.heap.size w w7) := hide (H6.out.below.trans (b7.mono H6.out.below.size))
                    have HC7 := hide C7
                    clear C7 r7 b7 HC6 H6 R6
                    go_wp2_with fail
                    refine HC7.out.mono ?_
                    rintro e w8 ⟨rfl, rfl⟩
                    clear HC7
                    go_wp2_with fail
                    refine (awake_any _).mono ?_
                    rintro e w9 ⟨rfl, t9⟩
                    go_wp2_with fail
                    go_ret
                    exact ⟨rfl, HB7.out.trans ((t9.below (fun _ h => h.elim) (Nat.le_refl _)).mono HB7.out.size)⟩

end fileWhole
end Go.Proofs.Ytikhgjnjlkaobaa

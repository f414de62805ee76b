/-
  Texts put into one.
-/
import Derived.Test.YtkdolabhcbjipaaGreatMx4e101307
import Derived.Deep.RegionHeld3
import Derived.BigQuiet

/-
  The calls on a disk beside blocks that are none of its own; leave.
-/
namespace Go.Proofs.YtkdolabhcbjipaaGreat
open Go.RowKit
set_option maxRecDepth 100000
set_option linter.unusedVariables false

section
variable {w W V : World} {P : Nat → Prop} {R K : Nat} {d d' : Dsk} {s : ByteArray}

theorem Ay.step {L L' : Lb} (h2 : ∀ g, P g → g < W.heap.size ∧ L g = (0, 0)) (h3 : ∀ g, g < w.heap.size → P g) (h4 : Tb (fun _ => False) w W) (hl : Lx W L L') (hd : Dk V L' R d') (ht : Tl L TD W V) : Ay w P R d' V ∧ No P W V := by
  refine ⟨⟨L', hd, fun g hg => ?_, h3, Tb.trans h4 ht (fun i hi e => ?_)⟩, Tb.mono ht (fun i hi e hp => ?_)⟩
  · have := h2 g hg
    exact ⟨Nat.lt_of_lt_of_le this.1 (Tb.size ht), by rw [hl g this.1]; exact this.2⟩
  · rw [(h2 i (h3 i hi)).2] at e
    exact notTD0 e
  · rw [(h2 i hp).2] at e
    exact notTD0 e

theorem ay_new : Calls Tryz.prog 5 #[] w fun e w' => ∃ R, e = .returned (.pointer (some ⟨R, 0, none⟩)) ∧ w.heap.size ≤ R ∧ Ay w (fun g => g < w.heap.size) R newDsk w' := by
  refine (new_any w).mono ?_
  rintro e w' ⟨R, L, rfl, h1, h2, h3, h4⟩
  exact ⟨R, rfl, h1, L, h2, fun g hg => ⟨Nat.lt_of_lt_of_le hg h4.size, h3 g hg⟩, fun g hg => hg, h4⟩

theorem ay_put {at' : Int} {b off cap : Nat} {data : List Int} (h : Ay w P R d W) (hz : Bw d K) (hK : K < 800000) (hs : s.size ≤ 9223372036854775807) (hB : Bs W (some ⟨b, off, none⟩) 64 cap data) (hP : P b) :
    Calls Tryz.prog 46 #[.pointer (some ⟨R, 0, none⟩), .string s, .int .i64 at', .slice (some ⟨b, off, none⟩) 64 cap] W fun e w' => e = .returned (.int .i64 (d.put s at' 64 data).1) ∧ Ay w P R (d.put s at' 64 data).2 w' ∧ No P W w' := by
  refine (am_put h.am hz.std hK (by have := hz.last; omega) (by have := hz.made; omega) hz.pos hs hB hP).mono ?_
  rintro e w' ⟨rfl, h1, h2, _⟩
  exact ⟨rfl, h1.ay, h2⟩

theorem ay_cut {n : Int} (h : Ay w P R d W) (hz : Bw d K) (hK : K < 800000) (hs : s.size ≤ 9223372036854775807) (hn : n ≤ 9223372036854775807) :
    Calls Tryz.prog 54 #[.pointer (some ⟨R, 0, none⟩), .string s, .int .i64 n] W fun e w' => e = .returned (.int .i64 (d.cut s n).1) ∧ Ay w P R (d.cut s n).2 w' ∧ No P W w' := by
  have hax := h
  obtain ⟨L, ⟨o, a1, a2⟩, a3, a6, a5⟩ := h
  have hf := hz.few (by omega)
  by_cases h0 : d.find s = 0
  · refine (cut_no a1 hs h0).mono ?_
    rintro e w' ⟨rfl, rfl⟩
    have e2 : d.cut s n = (70, d) := by unfold Dsk.cut; rw [if_pos h0]
    rw [e2]
    exact ⟨rfl, hax, No.refl⟩
  · by_cases h1 : n < 0 ∨ ((lk d.std.rw (d.find s)).getD []).length < n
    · refine (cut_arg a1 hf.std hs h0 h1).mono ?_
      rintro e w' ⟨rfl, rfl⟩
      have e2 : d.cut s n = (2, d) := by unfold Dsk.cut; rw [if_neg h0, if_pos h1]
      rw [e2]
      exact ⟨rfl, hax, No.refl⟩
    · have hfd := hz.find s
      refine (cut_go a1 a2 hf.std (by omega) hf.last (hfd.2.2 h0) (by omega) (by omega) (by omega)).mono ?_
      rintro e w' ⟨rfl, L', b1, b2, b3⟩
      exact ⟨rfl, Ay.step a3 a6 a5 b1 b2 b3⟩

theorem ay_sync (h : Ay w P R d W) (hz : Bw d K) (hK : K < 800000) (hs : s.size ≤ 9223372036854775807) :
    Calls Tryz.prog 37 #[.pointer (some ⟨R, 0, none⟩), .string s] W fun e w' => e = .returned (.int .i64 (d.sync s).1) ∧ Ay w P R (d.sync s).2 w' ∧ No P W w' := by
  have hax := h
  obtain ⟨L, ⟨o, a1, a2⟩, a3, a6, a5⟩ := h
  have hf := hz.few (by omega)
  by_cases h0 : d.find s = 0
  · refine (sync_no a1 hs h0).mono ?_
    rintro e w' ⟨rfl, rfl⟩
    have e2 : d.sync s = (70, d) := by unfold Dsk.sync; rw [if_pos h0]
    rw [e2]
    exact ⟨rfl, hax, No.refl⟩
  · refine (sync_go a1 a2 hf.std hf.dur (by omega) hf.last hs h0).mono ?_
    rintro e w' ⟨rfl, L', b1, b2, b3⟩
    exact ⟨rfl, Ay.step a3 a6 a5 b1 b2 b3⟩

theorem ay_arm {n : Int} (h : Ay w P R d W) (hn : n ≤ 9223372036854775807) :
    Calls Tryz.prog 16 #[.pointer (some ⟨R, 0, none⟩), .int .i64 n] W fun e w' => e = .returned (.int .i64 (d.arm n).1) ∧ Ay w P R (d.arm n).2 w' ∧ No P W w' := by
  obtain ⟨L, ⟨o, a1, a2⟩, a3, a6, a5⟩ := h
  refine (arm_any a1 a2 hn).mono ?_
  rintro e w' ⟨rfl, b2, b3⟩
  exact ⟨rfl, Ay.step a3 a6 a5 (Lx.refl _ _) b2 b3⟩

theorem ay_crash {p : Option Addr} {m cap : Nat} {ks : List Bool} (h : Ay w P R d W) (hz : Bw d K) (hK : K < 800000) (hks : ks.length = m) (hcap : m ≤ cap ∧ cap ≤ 9223372036854775807) (hp : Kp W p ks) (hpl : ∀ a, ks ≠ [] → p = some a → P a.block) :
    Calls Tryz.prog 10 #[.pointer (some ⟨R, 0, none⟩), .slice p m cap] W fun e w' => e = .returned (.int .i64 0) ∧ Ay w P R (d.crash ks) w' ∧ No P W w' := by
  obtain ⟨L, ⟨o, a1, a2⟩, a3, a6, a5⟩ := h
  have hf := hz.few (by omega)
  have hl := hf.last
  refine (crash_any a1 (by rw [a2.last]; omega) hf.dur (by omega) hks hcap hp (fun a hne ha => ?_) (fun a hne ha => (a3 _ (hpl a hne ha)).1)).mono ?_
  · rw [(a3 _ (hpl a hne ha)).2]
    unfold TA
    simp
  · rintro e w' ⟨rfl, L', sn, sr, us, b1, b2, b3⟩
    exact ⟨rfl, Ay.step a3 a6 a5 b1 ⟨_, b2, ⟨rfl, a2.made, rfl, rfl, rfl, a2.failure⟩⟩ b3⟩
end

set_option maxHeartbeats 1000000 in
theorem read_down {w : World} {L : Lb} {R : Nat} {o : Ob} {d : Dsk} {s : ByteArray} (h : Di w L R o d.dur d.std d.l) (hsy : Says o d) (hs : s.size ≤ 9223372036854775807) (h0 : d.find s ≠ 0) (hdn : d.down = true) :
    Calls Tryz.prog 11 #[.pointer (some ⟨R, 0, none⟩), .string s] w fun e w' => e = .returned (.tuple #[.slice none 0 0, .int .i64 6]) ∧ w' = w := by
  have hf := find_any h hs
  obtain ⟨F, hF⟩ : ∃ F, F = d.find s := ⟨_, rfl⟩
  rw [show (lk d.std.nm s.data.toList).getD 0 = F from hF.symm] at hf
  rw [← hF] at h0
  rw [if_neg h0] at hf
  have c9 : w.cell? ⟨R, 9, none⟩ = some (.bool true) := by rw [h.oj.c 9, ← hdn, ← hsy.down]; rfl
  clear h hF hsy
  go_enter Tryz.func11, Tryz.ntmps11
  go_wp2_with (go_at_call 42; refine hf.mono ?_; rintro e w1 ⟨rfl, hw1⟩; subst w1)
  go_ret2
  exact ⟨rfl, rfl⟩

/-- What a read tells of a file's sectors. -/
def Dsk.held (d : Dsk) (s : ByteArray) : List (List Int) := if d.read s = 0 then (lk d.std.rw (d.find s)).getD [] else []

theorem ay_read {w W : World} {P : Nat → Prop} {R K : Nat} {d : Dsk} {s : ByteArray} (h : Ay w P R d W) (hz : Bw d K) (hK : K < 800000) (hs : s.size ≤ 9223372036854775807) :
    Calls Tryz.prog 11 #[.pointer (some ⟨R, 0, none⟩), .string s] W fun e w' => ∃ a cap, e = .returned (.tuple #[.slice a (64 * (d.held s).length) cap, .int .i64 (d.read s)]) ∧ w'.ownsRow W.heap.size 5 1 (.slice a (64 * (d.held s).length) cap) (64 * (d.held s).length) (U (d.held s).flatten) ∧ Tb (fun _ => False) W w' := by
  obtain ⟨L, ⟨o, a1, a2⟩, a3, a6, a5⟩ := h
  have hf := hz.few (by omega)
  by_cases h0 : d.find s = 0
  · refine (read_no a1 hs h0).mono ?_
    rintro e w' ⟨rfl, rfl⟩
    have e2 : d.read s = 70 := by unfold Dsk.read; rw [if_pos h0]
    have e3 : d.held s = [] := by unfold Dsk.held; rw [e2]; rfl
    rw [e2, e3]
    exact ⟨none, 0, rfl, World.ownsRow_nil _ _ _ _, Tb.refl _ _⟩
  · cases hdn : d.down with
    | true =>
      refine (read_down a1 a2 hs h0 hdn).mono ?_
      rintro e w' ⟨rfl, rfl⟩
      have e2 : d.read s = 6 := by unfold Dsk.read; rw [if_neg h0, hdn]; rfl
      have e3 : d.held s = [] := by unfold Dsk.held; rw [e2]; rfl
      rw [e2, e3]
      exact ⟨none, 0, rfl, World.ownsRow_nil _ _ _ _, Tb.refl _ _⟩
    | false =>
      refine (read_yes a1 a2 hf.std hs h0 hdn).mono ?_
      rintro e w' ⟨v, rfl, r, b⟩
      have e2 : d.read s = 0 := by unfold Dsk.read; rw [if_neg h0, hdn]; rfl
      have e3 : d.held s = (lk d.std.rw (d.find s)).getD [] := by unfold Dsk.held; rw [e2]; rfl
      have e4 : d.bytes s = (d.held s).flatten := by rw [e3]; rfl
      have e5 : (d.held s).flatten.length = 64 * (d.held s).length := rows_len _ (fun x hx => by rw [e3] at hx; exact ((hz.rows _).2 x hx).1)
      rw [e4, e5] at r
      obtain ⟨a, c, rfl⟩ := row_val r
      rw [e2]
      exact ⟨a, c, rfl, r, Tb.of_fresh b⟩

/-- Of a file that begins with a stream nothing else is left, synced. -/
def Dsk.leave (d : Dsk) (s : ByteArray) (zs : List Int) : Int × Dsk :=
  if (d.sput s zs (zs.length / 62)).1 ≠ 0 then d.sput s zs (zs.length / 62)
  else if ((d.sput s zs (zs.length / 62)).2.cut s (nsec zs.length : Int)).1 ≠ 0 then (d.sput s zs (zs.length / 62)).2.cut s (nsec zs.length : Int)
  else ((d.sput s zs (zs.length / 62)).2.cut s (nsec zs.length : Int)).2.sync s

theorem sput_bw {d : Dsk} {K : Nat} {s : ByteArray} {zs : List Int} (hb : ∀ z ∈ zs, 0 ≤ z ∧ z ≤ 255) (h : Bw d K) (f : Nat) (hK : K + 3 * nsec zs.length < 800000) : Bw (d.sput s zs f).2 (K + 3 * (nsec zs.length - f)) := by
  have := sputs_bw (s := s) hb (List.range' f (nsec zs.length - f)) d K h (by rw [List.length_range']; omega)
  rwa [List.length_range'] at this

theorem leave_bw {d : Dsk} {K : Nat} {s : ByteArray} {zs : List Int} (hb : ∀ z ∈ zs, 0 ≤ z ∧ z ≤ 255) (h : Bw d K) (hK : K + 3 * nsec zs.length < 800000) : Bw (d.leave s zs).2 (K + 4) := by
  have h1 := (sput_bw (s := s) hb h (zs.length / 62) hK).wide (K' := K + 3) (by unfold nsec; omega)
  unfold Dsk.leave
  split
  · exact h1.wide (by omega)
  · split
    · exact h1.cut (by omega) s _
    · exact (h1.cut (by omega) s _).sync s

set_option maxHeartbeats 2000000 in
theorem leave_on {w W : World} {P : Nat → Prop} {R : Nat} {d : Dsk} {K : Nat} {s : ByteArray} {a : Option Addr} {m cap : Nat} {zs : List Int} (h : Ay w P R d W) (hz : Bw d K) (hK : K + 3 * nsec m < 700000) (hs : s.size ≤ 9223372036854775807) (hB : Bs W a m cap zs) (hP : ∀ b off, 0 < m → a = some ⟨b, off, none⟩ → P b) (hm : m ≤ 1000000000) :
    Calls Tryz.prog 31 #[.pointer (some ⟨R, 0, none⟩), .string s, .slice a m cap] W fun e W' => e = .returned (.int .i64 (d.leave s zs).1) ∧ Ay w P R (d.leave s zs).2 W' ∧ No P W W' := by
  have hlen := hB.len
  have hns : nsec m ≤ 1000000000 := by unfold nsec; omega
  have C1 := put_on (from' := m / 62) h hz (by omega) hs hB hP hm (by omega)
  obtain ⟨r1, hr1⟩ : ∃ r1, Hid (r1 = d.sput s zs (m / 62)) := ⟨_, hide rfl⟩
  have hb1 : Bw r1.2 (K + 3) := by
    have := (sput_bw (s := s) hB.byte hz (zs.length / 62) (by rw [hlen]; omega)).wide (K' := K + 3) (by unfold nsec; omega)
    rw [hlen] at this
    rw [hr1.out]
    exact this
  have HL : Hid (d.leave s zs = if r1.1 ≠ 0 then r1 else if (r1.2.cut s (nsec m : Int)).1 ≠ 0 then r1.2.cut s (nsec m : Int) else (r1.2.cut s (nsec m : Int)).2.sync s) := hide (by unfold Dsk.leave; rw [hlen, ← hr1.out])
  rw [← hr1.out] at C1
  have hq : ((m : Int)).tdiv 62 = ((m / 62 : Nat) : Int) := by rw [Int.tdiv_eq_ediv_of_nonneg (by omega)]; omega
  have C51 := sectorsFor_any m (by omega)
  go_enter Tryz.func31, Tryz.ntmps31
  rw [show ((m / 62 : Nat) : Int) = (m : Int) / 62 from by omega] at C1
  obtain ⟨r2, hr2⟩ : ∃ r2, Hid (r2 = r1.2.cut s (nsec m : Int)) := ⟨_, hide rfl⟩
  have hb2 : Bw r2.2 (K + 4) := by rw [hr2.out]; exact hb1.cut (by omega) s _
  rw [← hr2.out] at HL
  have C2 := fun X (hX : Ay w P R r1.2 X) => ay_cut (n := (nsec m : Int)) hX hb1 (by omega) hs (by omega)
  rw [← hr2.out] at C2
  obtain ⟨r3, hr3⟩ : ∃ r3, Hid (r3 = r2.2.sync s) := ⟨_, hide rfl⟩
  rw [← hr3.out] at HL
  have C3 := fun X (hX : Ay w P R r2.2 X) => ay_sync hX hb2 (by omega) hs
  rw [← hr3.out] at C3
  go_wp2_with fail
  refine C1.mono ?_
  rintro e W1 ⟨rfl, h1, n1⟩
  clear C1 hq
  by_cases E1 : r1.1 = 0
  · rw [E1]
    go_wp2_with (go_at_call 35; refine (C51 _).mono ?_; rintro e w2 ⟨rfl, hw2⟩; subst w2)
    refine (C2 _ h1).mono ?_
    rintro e W2 ⟨rfl, h2, n2⟩
    by_cases E2 : r2.1 = 0
    · rw [E2]
      go_wp2_with fail
      refine (C3 _ h2).mono ?_
      rintro e W3 ⟨rfl, h3, n3⟩
      go_wp2_with fail
      go_ret
      rw [HL.out, if_neg (by simp [E1]), if_neg (by simp [E2])]
      exact ⟨rfl, h3, (n1.trans n2).trans n3⟩
    · have e2 : (r2.1 == 0) = false := by simpa using E2
      go_wp2_with fail
      go_ret
      rw [HL.out, if_neg (by simp [E1]), if_pos E2]
      exact ⟨rfl, h2, n1.trans n2⟩
  · have e1 : (r1.1 == 0) = false := by simpa using E1
    go_wp2_with fail
    go_ret
    rw [HL.out, if_pos E1]
    exact ⟨rfl, h1, n1⟩

end Go.Proofs.YtkdolabhcbjipaaGreat

/-
  A segment in memory; Open.
-/
namespace Go.Proofs.YtkdolabhcbjipaaGreat
open Go.RowKit
set_option maxRecDepth 100000
set_option linter.unusedVariables false

/-- A segment that Open answered. -/
structure Sg (W : World) (R S : Nat) (nm : ByteArray) (sv ev : Value) (bs : List (List Int)) (br : Bool) : Prop where
  obj : W.heap[S]? = some (.cells #[.pointer (some ⟨S, 0, none⟩), .pointer (some ⟨R, 0, none⟩), .string nm, sv, ev, .bool br] (75 : TypeId) (0, 0))
  str : W.ownsRow 0 5 1 sv (flat bs).length (U (flat bs))
  ends : W.ownsRow 0 3 1 ev bs.length (Nn (eds bs))
  byte : ∀ b ∈ bs, ∀ z ∈ b, 0 ≤ z ∧ z ≤ 255
  short : ∀ b ∈ bs, b.length ≤ 65536
  most : nsec (flat bs).length ≤ 4096

/-- A disk, a segment upon it, and blocks (P) that are neither's. -/
def Sgx (w : World) (P : Nat → Prop) (R S : Nat) (d : Dsk) (nm : ByteArray) (bs : List (List Int)) (br : Bool) (W : World) : Prop :=
  ∃ (Q : Nat → Prop) (sv ev : Value), Ay w (fun g => P g ∨ Q g) R d W ∧ (∀ g, Q g → ¬ P g) ∧ (∀ g, g < w.heap.size → P g) ∧ Sg W R S nm sv ev bs br ∧ Q S ∧ (∀ g, sv.ownBlock = some g → Q g) ∧ (∀ g, ev.ownBlock = some g → Q g)

section
variable {w W V : World} {P : Nat → Prop} {R S : Nat} {d : Dsk} {nm : ByteArray} {sv ev : Value} {bs : List (List Int)} {br : Bool}

theorem Sg.lt (h : Sg W R S nm sv ev bs br) : S < W.heap.size := (Array.getElem?_eq_some_iff.1 h.obj).1
theorem Sg.tb {T : Nat → Prop} (h : Sg W R S nm sv ev bs br) (hb : Tb T W V) (h1 : ¬ T S) (h2 : ∀ g, sv.ownBlock = some g → ¬ T g) (h3 : ∀ g, ev.ownBlock = some g → ¬ T g) : Sg V R S nm sv ev bs br :=
  ⟨(hb.block S h.lt h1).trans h.obj, row_tb h.str hb h2, row_tb h.ends hb h3, h.byte, h.short, h.most⟩

theorem Sgx.ay (h : Sgx w P R S d nm bs br W) : Ay w P R d W := by
  obtain ⟨Q, sv, ev, h1, h2, h3, _⟩ := h
  exact h1.less (fun g hg => .inl hg) h3
theorem Sgx.below (h : Sgx w P R S d nm bs br W) : Below w.heap.size w W := h.ay.below

/-- New memory. -/
theorem Sgx.on (h : Sgx w P R S d nm bs br W) (hb : Tb (fun g => P g ∧ w.heap.size ≤ g) W V) : Sgx w (fun g => P g ∨ (W.heap.size ≤ g ∧ g < V.heap.size)) R S d nm bs br V := by
  obtain ⟨Q, sv, ev, h1, h2, h3, h4, h5, h6, h7⟩ := h
  have h8 := h1.on (hb.mono (fun i _ x => ⟨.inl x.1, x.2⟩))
  refine ⟨Q, sv, ev, h8.less (fun g hg => ?_) (fun g hg => .inl (.inl (h3 g hg))), fun g hg => ?_, fun g hg => .inl (h3 g hg), h4.tb hb (fun x => h2 S h5 x.1) (fun g hg x => h2 g (h6 g hg) x.1) (fun g hg x => h2 g (h7 g hg) x.1), h5, h6, h7⟩
  · rcases hg with (hg | hg) | hg
    · exact .inl (.inl hg)
    · exact .inr hg
    · exact .inl (.inr hg)
  · rintro (hp | hp)
    · exact h2 g hg hp
    · have := h1.lt g (.inr hg)
      omega
theorem Sgx.new (h : Sgx w P R S d nm bs br W) (hb : Tb (fun _ => False) W V) : Sgx w (fun g => P g ∨ (W.heap.size ≤ g ∧ g < V.heap.size)) R S d nm bs br V := h.on (hb.mono (fun _ _ h => h.elim))
theorem Sgx.less {P' : Nat → Prop} (h : Sgx w P R S d nm bs br W) (hp : ∀ g, P' g → P g) (hw : ∀ g, g < w.heap.size → P' g) : Sgx w P' R S d nm bs br W := by
  obtain ⟨Q, sv, ev, h1, h2, h3, h4⟩ := h
  exact ⟨Q, sv, ev, h1.less (fun g hg => hg.imp (hp g) id) (fun g hg => .inl (hw g hg)), fun g hg hp' => h2 g hg (hp g hp'), hw, h4⟩
theorem Sgx.kept (h : Sgx w P R S d nm bs br W) (hb : Tb (fun _ => False) W V) : Sgx w P R S d nm bs br V := (h.new hb).less (fun _ hg => .inl hg) h.ay.old

/-- A call on the disk alone. -/
theorem Sgx.disk {d' : Dsk} (h : Sgx w P R S d nm bs br W) (hk : ∀ Q, Ay w Q R d W → (∀ g, P g → Q g) → Ay w Q R d' V ∧ No Q W V) : Sgx w P R S d' nm bs br V ∧ No P W V := by
  obtain ⟨Q, sv, ev, h1, h2, h3, h4, h5, h6, h7⟩ := h
  obtain ⟨k1, k2⟩ := hk _ h1 (fun g hg => .inl hg)
  exact ⟨⟨Q, sv, ev, k1, h2, h3, h4.tb k2 (fun hn => hn (.inr h5)) (fun g hg hn => hn (.inr (h6 g hg))) (fun g hg hn => hn (.inr (h7 g hg))), h5, h6, h7⟩, k2.less (fun g hg => .inl hg)⟩
end

theorem own_take {w : World} {base n k c : Nat} {e : TypeId} {a : Option Addr} {xs : List Value} (h : w.ownsRow base e 1 (.slice a n c) n xs) (hk : k ≤ n) : w.ownsRow base e 1 (.slice a k c) k (xs.take k) := by
  refine ⟨by rw [List.length_take, h.1]; omega, ?_⟩
  rcases h.2 with ⟨h1, h2⟩ | ⟨g, cap, cur, h1, h2, h3, h4, h5, h6, h7⟩
  · simp only [Value.slice.injEq] at h1
    obtain ⟨rfl, rfl, rfl⟩ := h1
    obtain rfl : k = 0 := by omega
    exact .inl ⟨rfl, rfl⟩
  · simp only [Value.slice.injEq] at h1
    obtain ⟨rfl, _, rfl⟩ := h1
    refine .inr ⟨g, c, cur, rfl, h2, h3, by omega, h5, h6, ?_⟩
    rw [Nat.mul_one] at h7 ⊢
    rw [← h7, List.take_take, Nat.min_eq_left hk]

theorem flat_len4 (bs : List (List Int)) : 4 * bs.length ≤ (flat bs).length := by
  induction bs with
  | nil => simp [flat]
  | cons b bs ih => rw [flat_cons, List.length_append, fr_length, List.length_cons]; omega
theorem edAt_all (bs : List (List Int)) : edAt bs bs.length = (flat bs).length := by unfold edAt; rw [List.take_length]

/-- The frames of a file. -/
def Dsk.frames (d : Dsk) (s : ByteArray) : List (List Int) := frs (strm (d.held s))
/-- What Open does to a disk, and its error. -/
def Dsk.opn (d : Dsk) (s : ByteArray) : Int × Dsk :=
  if d.read s ≠ 0 ∧ d.read s ≠ 70 then (d.read s, d) else if (d.held s).flatten = clean (flat (d.frames s)) then (0, d) else d.leave s (flat (d.frames s))

theorem held_bw {d : Dsk} {K : Nat} (h : Bw d K) (s : ByteArray) : (d.held s).length ≤ 4096 ∧ ∀ x ∈ d.held s, x.length = 64 ∧ ∀ z ∈ x, 0 ≤ z ∧ z ≤ 255 := by
  unfold Dsk.held
  split
  · exact h.rows _
  · exact ⟨by simp, by simp⟩

theorem frames_ok {d : Dsk} {K : Nat} (h : Bw d K) (s : ByteArray) : (∀ b ∈ d.frames s, ∀ z ∈ b, 0 ≤ z ∧ z ≤ 255) ∧ (∀ b ∈ d.frames s, b.length ≤ 65536) ∧ (flat (d.frames s)).length ≤ 62 * 4096 := by
  have hh := held_bw h s
  have hb : ∀ z ∈ strm (d.held s), 0 ≤ z ∧ z ≤ 255 := strm_byte (fun r hr => (hh.2 r hr).2)
  have h1 := frs_le hb
  have h2 := strm_le (d.held s)
  exact ⟨frs_byte hb, frs_short hb, by unfold Dsk.frames; omega⟩

theorem opn_bw {d : Dsk} {K : Nat} (h : Bw d K) (hK : K + 13000 < 700000) (s : ByteArray) : Bw (d.opn s).2 (K + 4) := by
  obtain ⟨f1, f2, f3⟩ := frames_ok h s
  unfold Dsk.opn
  split
  · exact h.wide (by omega)
  · split
    · exact h.wide (by omega)
    · exact leave_bw (flat_byte f1) h (by unfold nsec; omega)

theorem built69 (R : Nat) (nm : ByteArray) (sv ev : Value) (a b : Option Addr) (n m c k : Nat) (hs : sv = .slice a n c) (he : ev = .slice b m k) : Tryz.prog.built (75 : TypeId) [(1, .pointer (some ⟨R, 0, none⟩)), (2, .string nm), (3, sv), (4, ev)] =
    some #[.pointer none, .pointer (some ⟨R, 0, none⟩), .string nm, sv, ev, .bool false] := by
  subst hs
  subst he
  kernel_rfl

theorem own_caps {w : World} {base n c : Nat} {e : TypeId} {a : Option Addr} {xs : List Value} (h : w.ownsRow base e 1 (.slice a n c) n xs) : n ≤ c ∧ c ≤ 9223372036854775807 := by
  rcases h.2 with ⟨h1, _⟩ | ⟨g, cap, cur, h1, _, _, h4, h5, _⟩
  · simp only [Value.slice.injEq] at h1
    omega
  · simp only [Value.slice.injEq] at h1
    unfold maxLen at h5
    omega

/-- A segment is made. -/
theorem seg_made {w X : World} {P P4 : Nat → Prop} {R : Nat} {d : Dsk} {nm : ByteArray} {sv ev : Value} {bs : List (List Int)} (hA : Ay w P4 R d X) (hPP : ∀ g, P g → P4 g) (hw : ∀ g, g < w.heap.size → P g)
    (hs : X.ownsRow 0 5 1 sv (flat bs).length (U (flat bs))) (he : X.ownsRow 0 3 1 ev bs.length (Nn (eds bs))) (h1 : ∀ g, sv.ownBlock = some g → P4 g ∧ ¬ P g) (h2 : ∀ g, ev.ownBlock = some g → P4 g ∧ ¬ P g)
    (hb : ∀ b ∈ bs, ∀ z ∈ b, 0 ≤ z ∧ z ≤ 255) (hsh : ∀ b ∈ bs, b.length ≤ 65536) (hm : nsec (flat bs).length ≤ 4096) :
    Sgx w P R X.heap.size d nm bs false ((X.alloc (.cells #[.pointer none, .pointer (some ⟨R, 0, none⟩), .string nm, sv, ev, .bool false] (75 : TypeId))).setCell ⟨X.heap.size, 0, none⟩ (.pointer (some ⟨X.heap.size, 0, none⟩))) ∧
    No P X ((X.alloc (.cells #[.pointer none, .pointer (some ⟨R, 0, none⟩), .string nm, sv, ev, .bool false] (75 : TypeId))).setCell ⟨X.heap.size, 0, none⟩ (.pointer (some ⟨X.heap.size, 0, none⟩))) := by
  obtain ⟨Y, hY⟩ : ∃ Y, Y = (X.alloc (.cells #[.pointer none, .pointer (some ⟨R, 0, none⟩), .string nm, sv, ev, .bool false] (75 : TypeId))).setCell ⟨X.heap.size, 0, none⟩ (.pointer (some ⟨X.heap.size, 0, none⟩)) := ⟨_, rfl⟩
  have ht : Tb (fun _ => False) X Y := by
    rw [hY]
    exact ((Tb.refl (fun _ => False) X).alloc _).trans (Tb.set (S := fun k => k = X.heap.size) X.heap.size 0 _ rfl) (fun i hi e => by omega)
  have hsz : X.heap.size < Y.heap.size := by rw [hY]; simp [World.setCell]
  rw [← hY]
  have hob : Y.heap[X.heap.size]? = some (.cells #[.pointer (some ⟨X.heap.size, 0, none⟩), .pointer (some ⟨R, 0, none⟩), .string nm, sv, ev, .bool false] (75 : TypeId) (0, 0)) := by
    rw [hY]
    exact heap_setCell_same _ X.heap.size 0 _ (75 : TypeId) _ (heap_alloc_new X _)
  clear hY
  have hn := hA.new ht
  refine ⟨⟨fun g => ¬ P g ∧ (P4 g ∨ g = X.heap.size), sv, ev, hn.less (fun g hg => ?_) (fun g hg => .inl (hw g hg)), fun g hg => hg.1, hw, ⟨hob, row_tb hs ht (fun _ _ h => h), row_tb he ht (fun _ _ h => h), hb, hsh, hm⟩, ⟨fun hp => ?_, .inr rfl⟩, fun g hg => ⟨(h1 g hg).2, .inl (h1 g hg).1⟩, fun g hg => ⟨(h2 g hg).2, .inl (h2 g hg).1⟩⟩, No.of ht⟩
  · rcases hg with hg | ⟨_, hg | hg⟩
    · exact .inl (hPP g hg)
    · exact .inl hg
    · exact .inr ⟨by omega, by omega⟩
  · have := hA.lt _ (hPP _ hp)
    omega

set_option maxHeartbeats 4000000 in
theorem open_on {w W : World} {P : Nat → Prop} {R : Nat} {d : Dsk} {K : Nat} {s : ByteArray} (h : Ay w P R d W) (hz : Bw d K) (hK : K + 13000 < 600000) (hs : s.size ≤ 1000000) :
    Calls Tryz.prog 6 #[.pointer (some ⟨R, 0, none⟩), .string s] W fun e W' => ∃ pv, e = .returned (.tuple #[pv, .int .i64 (d.opn s).1]) ∧ No P W W' ∧ Ay w P R (d.opn s).2 W' ∧
      ((d.opn s).1 = 0 → ∃ S, pv = .pointer (some ⟨S, 0, none⟩) ∧ W.heap.size ≤ S ∧ Sgx w P R S (d.opn s).2 s (d.frames s) false W') ∧ ((d.opn s).1 ≠ 0 → pv = .pointer none) := by
  have hh := held_bw hz s
  obtain ⟨f1, f2, f3⟩ := frames_ok hz s
  have C1 := ay_read h hz (by omega) (by omega : s.size ≤ 9223372036854775807)
  obtain ⟨N, hN⟩ : ∃ N, Hid (N = (d.held s).length) := ⟨_, hide rfl⟩
  rw [← hN.out] at C1 hh
  obtain ⟨E, hE⟩ : ∃ E, Hid (E = d.read s) := ⟨_, hide rfl⟩
  rw [← hE.out] at C1
  have hNl := hh.1
  go_enter Tryz.func6, Tryz.ntmps6
  have hE3 : E = 6 ∨ (E = 0 ∨ E = 70) := by
    rw [hE.out]
    unfold Dsk.read
    split
    · exact .inr (.inr rfl)
    · split
      · exact .inl rfl
      · exact .inr (.inl rfl)
  rcases hE3 with rfl | hE3
  · have ho : Hid (d.opn s = (6, d)) := hide (by unfold Dsk.opn; rw [← hE.out, if_pos (by decide)])
    go_wp2_with fail
    refine C1.mono ?_
    rintro e W1 ⟨a, cap, rfl, hr1, t1⟩
    have F1 := hide (h.kept t1)
    have F2 := hide (No.of (P := P) t1)
    clear hr1 t1
    go_wp2_with fail
    go_ret2
    rw [ho.out]
    exact ⟨_, rfl, F2.out, F1.out, fun e => absurd e (by simp), fun _ => rfl⟩
  · have ho : Hid (d.opn s = if (d.held s).flatten = clean (flat (d.frames s)) then (0, d) else d.leave s (flat (d.frames s))) := hide (by
      unfold Dsk.opn
      rw [← hE.out, if_neg]
      rcases hE3 with e | e <;> rw [e] <;> simp)
    have h64 : ∀ r ∈ d.held s, r.length = 64 := fun r hr => (hh.2 r hr).1
    have hby : ∀ z ∈ (d.held s).flatten, 0 ≤ z ∧ z ≤ 255 := fun z hz => by
      obtain ⟨r, hr, hz⟩ := List.mem_flatten.1 hz
      exact (hh.2 r hr).2 z hz
    have hsb : ∀ z ∈ strm (d.held s), 0 ≤ z ∧ z ≤ 255 := strm_byte (fun r hr => (hh.2 r hr).2)
    have hsl := strm_le (d.held s)
    rw [← hN.out] at hsl
    have hfl : Hid ((strm (d.held s)).take (flat (d.frames s)).length = flat (d.frames s)) := hide (frs_take hsb)
    have hfl2 : (flat (d.frames s)).length ≤ (strm (d.held s)).length := frs_le hsb
    have hct : ∀ k, Dn (d.held s).flatten N k → cat (d.held s).flatten k = strm (d.held s) := fun k hk => cat_strm _ h64 k (by rw [hN.out] at hk; exact hk)
    have HCT := hide hct
    have HBY := hide hby
    have HSB := hide hsb
    obtain ⟨bs, hbs⟩ : ∃ bs, Hid (bs = d.frames s) := ⟨_, hide rfl⟩
    have hbs2 : frs (strm (d.held s)) = bs := hbs.out.symm
    rw [← hbs.out] at ho hfl hfl2 f1 f2 f3
    obtain ⟨zs, hzs⟩ : ∃ zs, Hid (zs = strm (d.held s)) := ⟨_, hide rfl⟩
    rw [← hzs.out] at hfl hfl2 hsl HSB HCT hbs2
    obtain ⟨hs', hhs⟩ : ∃ hs', Hid (hs' = (d.held s).flatten) := ⟨_, hide rfl⟩
    rw [← hhs.out] at HBY HCT ho C1
    have hbl := flat_len4 bs
    have HS2 := hide hbs2
    have FB : Hid (∀ z ∈ flat bs, 0 ≤ z ∧ z ≤ 255) := hide (flat_byte f1)
    have HED := hide (edAt_all bs)
    obtain ⟨B, hB⟩ : ∃ B, Hid (B = bs.length) := ⟨_, hide rfl⟩
    obtain ⟨F, hF⟩ : ∃ F, Hid (F = (flat bs).length) := ⟨_, hide rfl⟩
    obtain ⟨M, hM⟩ : ∃ M, Hid (M = zs.length) := ⟨_, hide rfl⟩
    rw [← hB.out, ← hF.out] at hbl
    rw [← hF.out] at hfl2 f3 hfl
    rw [← hM.out] at hfl2 hsl
    clear hct hby hsb h64 hbs2
    rcases hE3 with rfl | rfl
    all_goals
      go_wp2_with fail
      refine C1.mono ?_
      rintro e W1 ⟨a, cap, rfl, hr1, t1⟩
      have hB1 := own_bs hr1 HBY.out
      go_wp2_with fail
      refine (streamOf_any hB1 (by omega)).mono ?_
      rintro e W2 ⟨sv, k, rfl, hDn, hr2, t2⟩
      rw [HCT.out k hDn, ← hM.out] at hr2
      obtain ⟨sa, sc, rfl⟩ := row_val hr2
      clear hDn
      go_wp2_with fail
      refine (endsOf_any (own_bs hr2 HSB.out) (by omega)).mono ?_
      rintro e W3 ⟨ev, rfl, hr3, t3⟩
      rw [HS2.out, ← hB.out] at hr3
      obtain ⟨ea, ec, rfl⟩ := row_val hr3
      go_wp2_with fail
      refine (endOf_any hr3 hB.out (Nat.le_refl _) (by omega)).mono ?_
      rintro e w3 ⟨rfl, hw3⟩
      subst w3
      rw [hB.out, HED.out, ← hF.out, ← hB.out]
      have hcp := own_caps hr2
      have hsc1 : F ≤ sc := by omega
      have hsc2 := hcp.2
      have s1 := t1.size
      have s2 := t2.size
      have s3 := t3.size
      have hr2' : W3.ownsRow W1.heap.size 5 1 (.slice sa F sc) F (U (flat bs)) := by
        have := own_take (row_tb hr2 (Tb.of_fresh (S := fun _ => False) t3) (fun _ _ h => h)) hfl2
        have e2 : (U zs).take F = U (flat bs) := by rw [← hfl.out]; simp [U]
        rwa [e2] at this
      have CC := isClean_any (own_bs (row_tb (row_tb hr1 (Tb.of_fresh (S := fun _ => False) t2) (fun _ _ h => h)) (Tb.of_fresh (S := fun _ => False) t3) (fun _ _ h => h)) HBY.out) (own_bs hr2' FB.out) (by omega) (by omega)
      have T3 : Tb (fun _ => False) W W3 := (t1.trans (T := fun _ => False) (Tb.of_fresh t2) (fun _ _ h => h)).trans (T := fun _ => False) (Tb.of_fresh t3) (fun _ _ h => h)
      clear hr1 hr2 hB1 hcp
      have HT3 := hide T3
      have HR2 := hide hr2'
      have HR3 := hide hr3
      by_cases hcl : hs' = clean (flat bs)
      · rw [decide_eq_true hcl] at CC
        have ho2 : Hid (d.opn s = (0, d)) := hide (by rw [ho.out, if_pos hcl])
        clear hcl T3 hr2' hr3 t1 t2 t3
        go_wp2_with fail
        refine CC.mono ?_
        rintro e W4 ⟨rfl, t4⟩
        clear CC
        go_wp2_with fail
        refine (clone_any (by omega) W4).mono ?_
        rintro e W5 ⟨rfl, t5⟩
        have hfin := seg_made (P := P) (nm := s) (sv := .slice sa F sc) (ev := .slice ea B ec) (bs := bs) (h.new (HT3.out.trans (T := fun _ => False) ((Tb.of_fresh t4).trans (T := fun _ => False) t5 (fun _ _ h => h)) (fun _ _ h => h))) (fun g hg => .inl hg) h.old
          (by have := row_tb (row_tb HR2.out (Tb.of_fresh (S := fun _ => False) t4) (fun _ _ h => h)) t5 (fun _ _ h => h); rw [← hF.out]; exact own_less this (Nat.zero_le _))
          (by have := row_tb (row_tb HR3.out (Tb.of_fresh (S := fun _ => False) t4) (fun _ _ h => h)) t5 (fun _ _ h => h); rw [← hB.out]; exact own_less this (Nat.zero_le _))
          (fun g hg => by have h5 := HR2.out.lt g hg; have := t4.size; have := t5.size; exact ⟨.inr ⟨by omega, by omega⟩, fun hp => by have := h.lt g hp; omega⟩)
          (fun g hg => by have h5 := HR3.out.lt g hg; have := t4.size; have := t5.size; exact ⟨.inr ⟨by omega, by omega⟩, fun hp => by have := h.lt g hp; omega⟩)
          f1 f2 (by rw [← hF.out]; unfold nsec; omega)
        have HF := hide hfin
        have HN0 := hide (No.of (P := P) (HT3.out.trans (T := fun _ => False) ((Tb.of_fresh t4).trans (T := fun _ => False) t5 (fun _ _ h => h)) (fun _ _ h => h)))
        clear hfin t4 t5
        have hbd := built69 R s (.slice sa F sc) (.slice ea B ec) sa ea F B sc ec rfl rfl
        obtain ⟨X1, hX1⟩ : ∃ X1, X1 = W5.alloc (.cells #[.pointer none, .pointer (some ⟨R, 0, none⟩), .string s, .slice sa F sc, .slice ea B ec, .bool false] (75 : TypeId)) := ⟨_, rfl⟩
        have hX1o : X1.heap[W5.heap.size]? = some (.cells #[.pointer none, .pointer (some ⟨R, 0, none⟩), .string s, .slice sa F sc, .slice ea B ec, .bool false] (75 : TypeId) (0, 0)) := by rw [hX1]; exact heap_alloc_new W5 _
        have c0 : X1.cell? ⟨W5.heap.size, 0, none⟩ = some (.pointer none) := by rw [cell_of_row X1 W5.heap.size 0 _ (75 : TypeId) (0, 0) hX1o]; rfl
        have f0 := frozen_of_row X1 W5.heap.size 0 _ (75 : TypeId) hX1o
        rw [← hX1] at HF
        have HX1 := hide hX1
        clear hX1 hX1o
        go_wp2_with (first | (refine wpList_buildTo rfl (75 : TypeId) #[(1, .tmp 46), (2, .tmp 48), (3, .tmp 49), (4, .tmp 50)] rfl (some 51) rfl #[.pointer none, .pointer (some ⟨R, 0, none⟩), .string s, .slice sa F sc, .slice ea B ec, .bool false] (by simpa [Act.eval, Act.put] using hbd) ?_) | (rw [← HX1.out]))
        go_ret2
        rw [ho2.out, ← hbs.out]
        exact ⟨_, rfl, HN0.out.trans HF.out.2, HF.out.1.ay, fun _ => ⟨_, rfl, Tb.size HN0.out, HF.out.1⟩, fun e => absurd rfl e⟩
      · rw [decide_eq_false hcl] at CC
        obtain ⟨r, hr⟩ : ∃ r, Hid (r = d.leave s (flat bs)) := ⟨_, hide rfl⟩
        have ho2 : Hid (d.opn s = r) := hide (by rw [ho.out, if_neg hcl, hr.out])
        clear hcl T3 hr2' hr3 t1 t2 t3
        go_wp2_with fail
        refine CC.mono ?_
        rintro e W4 ⟨rfl, t4⟩
        clear CC
        have T4 : Tb (fun _ => False) W W4 := HT3.out.trans (T := fun _ => False) (Tb.of_fresh t4) (fun _ _ h => h)
        have hr24 := row_tb HR2.out (Tb.of_fresh (S := fun _ => False) t4) (fun _ _ h => h)
        have hr34 := row_tb HR3.out (Tb.of_fresh (S := fun _ => False) t4) (fun _ _ h => h)
        have s4 := t4.size
        have CL := leave_on (s := s) (h.new T4) hz (by unfold nsec; omega) (by omega) (own_bs hr24 FB.out) (fun b off h0 e => by
          have h5 := HR2.out.lt b (by rw [e]; rfl)
          exact .inr ⟨by omega, by omega⟩) (by omega)
        rw [← hr.out] at CL
        have HT4 := hide T4
        have H24 := hide hr24
        have H34 := hide hr34
        clear T4 hr24 hr34 t4
        go_wp2_with fail
        refine CL.mono ?_
        rintro e W6 ⟨rfl, hA6, n6⟩
        clear CL
        by_cases hr0 : r.1 = 0
        · rw [hr0]
          have HA6 := hide hA6
          have HN6 := hide n6
          clear hA6 n6
          go_wp2_with fail
          refine (clone_any (by omega) W6).mono ?_
          rintro e W5 ⟨rfl, t5⟩
          have hfin := seg_made (P := P) (nm := s) (sv := .slice sa F sc) (ev := .slice ea B ec) (bs := bs) (HA6.out.kept t5) (fun g hg => .inl hg) h.old
            (by have := row_tb (HN6.out.row H24.out (fun g hg => by have h5 := HR2.out.lt g hg; exact .inr ⟨by omega, by omega⟩)) t5 (fun _ _ h => h); rw [← hF.out]; exact own_less this (Nat.zero_le _))
            (by have := row_tb (HN6.out.row H34.out (fun g hg => by have h5 := HR3.out.lt g hg; exact .inr ⟨by omega, by omega⟩)) t5 (fun _ _ h => h); rw [← hB.out]; exact own_less this (Nat.zero_le _))
            (fun g hg => by have h5 := HR2.out.lt g hg; exact ⟨.inr ⟨by omega, by omega⟩, fun hp => by have := h.lt g hp; omega⟩)
            (fun g hg => by have h5 := HR3.out.lt g hg; exact ⟨.inr ⟨by omega, by omega⟩, fun hp => by have := h.lt g hp; omega⟩)
            f1 f2 (by rw [← hF.out]; unfold nsec; omega)
          have HF := hide hfin
          have HN0 := hide (((No.of (P := P) HT4.out).trans (HN6.out.less (fun g hg => .inl hg))).trans (No.of t5))
          clear hfin t5
          have hbd := built69 R s (.slice sa F sc) (.slice ea B ec) sa ea F B sc ec rfl rfl
          obtain ⟨X1, hX1⟩ : ∃ X1, X1 = W5.alloc (.cells #[.pointer none, .pointer (some ⟨R, 0, none⟩), .string s, .slice sa F sc, .slice ea B ec, .bool false] (75 : TypeId)) := ⟨_, rfl⟩
          have hX1o : X1.heap[W5.heap.size]? = some (.cells #[.pointer none, .pointer (some ⟨R, 0, none⟩), .string s, .slice sa F sc, .slice ea B ec, .bool false] (75 : TypeId) (0, 0)) := by rw [hX1]; exact heap_alloc_new W5 _
          have c0 : X1.cell? ⟨W5.heap.size, 0, none⟩ = some (.pointer none) := by rw [cell_of_row X1 W5.heap.size 0 _ (75 : TypeId) (0, 0) hX1o]; rfl
          have f0 := frozen_of_row X1 W5.heap.size 0 _ (75 : TypeId) hX1o
          rw [← hX1] at HF
          have HX1 := hide hX1
          clear hX1 hX1o
          go_wp2_with (first | (refine wpList_buildTo rfl (75 : TypeId) #[(1, .tmp 46), (2, .tmp 48), (3, .tmp 49), (4, .tmp 50)] rfl (some 51) rfl #[.pointer none, .pointer (some ⟨R, 0, none⟩), .string s, .slice sa F sc, .slice ea B ec, .bool false] (by simpa [Act.eval, Act.put] using hbd) ?_) | (rw [← HX1.out]))
          go_ret2
          rw [ho2.out, ← hbs.out]
          exact ⟨_, by rw [hr0]; rfl, HN0.out.trans HF.out.2, HF.out.1.ay, fun _ => ⟨_, rfl, Tb.size HN0.out, HF.out.1⟩, fun e => absurd hr0 e⟩
        · have er : (r.1 == 0) = false := by simpa using hr0
          have HA6 := hide (hA6.less (fun g hg => .inl hg) h.old)
          have HN6 := hide ((No.of (P := P) HT4.out).trans (n6.less (fun g hg => .inl hg)))
          have HR0 := hide hr0
          clear hA6 n6 hr0
          go_wp2_with fail
          go_ret2
          rw [ho2.out]
          exact ⟨_, rfl, HN6.out, HA6.out, fun e => absurd e HR0.out, fun _ => rfl⟩

end Go.Proofs.YtkdolabhcbjipaaGreat

/-
  The calls on a segment.
-/
namespace Go.Proofs.YtkdolabhcbjipaaGreat
open Go.RowKit
set_option maxRecDepth 100000
set_option linter.unusedVariables false

section
variable {w W : World} {P : Nat → Prop} {R S : Nat} {d : Dsk} {nm : ByteArray} {sv ev : Value} {bs : List (List Int)} {br : Bool}

theorem Sg.c (h : Sg W R S nm sv ev bs br) (i : Nat) : W.cell? ⟨S, i, none⟩ = (#[.pointer (some ⟨S, 0, none⟩), .pointer (some ⟨R, 0, none⟩), .string nm, sv, ev, .bool br] : Array Value)[i]? := cell_of_row W S i _ (75 : TypeId) (0, 0) h.obj
theorem Sg.free (h : Sg W R S nm sv ev bs br) (i : Nat) : W.frozen? ⟨S, i, none⟩ = false := frozen_of_row W S i _ (75 : TypeId) h.obj
end

theorem info69 : ∃ j, Tryz.prog.info? (75 : TypeId) = some j := by
  have h : (Tryz.prog.info? (75 : TypeId)).isSome = true := by kernel_rfl
  exact Option.isSome_iff_exists.1 h

set_option maxHeartbeats 400000 in
theorem smade_yes {W : World} {R S : Nat} {nm : ByteArray} {sv ev : Value} {bs : List (List Int)} {br : Bool} (h : Sg W R S nm sv ev bs br) :
    Calls Tryz.prog 43 #[.pointer (some ⟨S, 0, none⟩)] W fun e w' => e = .returned (.bool true) ∧ w' = W := by
  have h0 : W.cell? ⟨S, 0, none⟩ = some (.pointer (some ⟨S, 0, none⟩)) := h.c 0
  clear h
  obtain ⟨j, hj⟩ := info69
  have he := eql_same (P := Tryz.prog) (w := W) (tp := (24 : TypeId)) (te := (75 : TypeId)) ⟨S, 0, none⟩ Tryz.underlying24 hj
  go_enter Tryz.func43, Tryz.ntmps43
  go_wp2_with fail
  go_ret
  exact ⟨rfl, rfl⟩

set_option maxHeartbeats 400000 in
theorem smade_nil (w : World) :
    Calls Tryz.prog 43 #[.pointer none] w fun e w' => e = .returned (.bool false) ∧ w' = w := by
  go_enter Tryz.func43, Tryz.ntmps43
  go_wp2_with fail
  go_ret
  exact ⟨rfl, rfl⟩

set_option maxHeartbeats 400000 in
theorem smade_zero {S : Nat} {w : World} (h0 : w.cell? ⟨S, 0, none⟩ = some (.pointer none)) :
    Calls Tryz.prog 43 #[.pointer (some ⟨S, 0, none⟩)] w fun e w' => e = .returned (.bool false) ∧ w' = w := by
  have he := eql_none (P := Tryz.prog) (w := w) (tp := (24 : TypeId)) (te := (75 : TypeId)) ⟨S, 0, none⟩ Tryz.underlying24
  go_enter Tryz.func43, Tryz.ntmps43
  go_wp2_with fail
  go_ret
  exact ⟨rfl, rfl⟩

section
variable {w W : World} {P : Nat → Prop} {R S : Nat} {d : Dsk} {nm : ByteArray} {sv ev : Value} {bs : List (List Int)} {br : Bool}

set_option maxHeartbeats 400000 in
theorem refused_any (h : Sg W R S nm sv ev bs br) :
    Calls Tryz.prog 33 #[.pointer (some ⟨S, 0, none⟩)] W fun e w' => e = .returned (.int .i64 (if br then 4 else 0)) ∧ w' = W := by
  have c5 : W.cell? ⟨S, 5, none⟩ = some (.bool br) := h.c 5
  have hm := smade_yes h
  clear h
  go_enter Tryz.func33, Tryz.ntmps33
  cases br
  all_goals
    go_wp2_with (go_at_call 43; refine hm.mono ?_; rintro e w1 ⟨rfl, hw1⟩; subst w1)
    go_ret
    exact ⟨rfl, rfl⟩

set_option maxHeartbeats 400000 in
theorem scount_any (h : Sg W R S nm sv ev bs br) :
    Calls Tryz.prog 12 #[.pointer (some ⟨S, 0, none⟩)] W fun e w' => e = .returned (.int .i64 (bs.length : Int)) ∧ w' = W := by
  obtain ⟨ea, ec, rfl⟩ := row_val h.ends
  have c4 : W.cell? ⟨S, 4, none⟩ = some (.slice ea bs.length ec) := h.c 4
  have hm := smade_yes h
  clear h
  go_enter Tryz.func12, Tryz.ntmps12
  go_wp2_with (go_at_call 43; refine hm.mono ?_; rintro e w1 ⟨rfl, hw1⟩; subst w1)
  go_ret
  exact ⟨rfl, rfl⟩

set_option maxHeartbeats 400000 in
theorem ssize_any (h : Sg W R S nm sv ev bs br) :
    Calls Tryz.prog 13 #[.pointer (some ⟨S, 0, none⟩)] W fun e w' => e = .returned (.int .i64 ((flat bs).length : Int)) ∧ w' = W := by
  obtain ⟨sa, sc, rfl⟩ := row_val h.str
  have c3 : W.cell? ⟨S, 3, none⟩ = some (.slice sa (flat bs).length sc) := h.c 3
  have hm := smade_yes h
  clear h
  go_enter Tryz.func13, Tryz.ntmps13
  go_wp2_with (go_at_call 43; refine hm.mono ?_; rintro e w1 ⟨rfl, hw1⟩; subst w1)
  go_ret
  exact ⟨rfl, rfl⟩

set_option maxHeartbeats 400000 in
theorem sbroken_any (h : Sg W R S nm sv ev bs br) :
    Calls Tryz.prog 17 #[.pointer (some ⟨S, 0, none⟩)] W fun e w' => e = .returned (.bool br) ∧ w' = W := by
  have c5 : W.cell? ⟨S, 5, none⟩ = some (.bool br) := h.c 5
  have hm := smade_yes h
  clear h
  go_enter Tryz.func17, Tryz.ntmps17
  go_wp2_with (go_at_call 43; refine hm.mono ?_; rintro e w1 ⟨rfl, hw1⟩; subst w1)
  go_ret
  exact ⟨by simp, rfl⟩
end

/-- What Sync does: the disk's answer, and whether it breaks the segment. -/
def Dsk.ssync (d : Dsk) (s : ByteArray) (br : Bool) : Int × Dsk × Bool :=
  if br then (4, d, true) else if (d.sync s).1 = 70 then (0, (d.sync s).2, false) else ((d.sync s).1, (d.sync s).2, decide ((d.sync s).1 ≠ 0))

theorem Sg.brk {W : World} {R S : Nat} {nm : ByteArray} {sv ev : Value} {bs : List (List Int)} {br : Bool} (h : Sg W R S nm sv ev bs br) (x : Bool) : Sg (W.setCell ⟨S, 5, none⟩ (.bool x)) R S nm sv ev bs x := by
  have hb : Tb (fun k => k = S) W (W.setCell ⟨S, 5, none⟩ (.bool x)) := Tb.set (S := fun k => k = S) S 5 _ rfl
  have hne : ∀ (v : Value) (n : Nat) (e : TypeId) (xs : List Value), W.ownsRow 0 e 1 v n xs → e ≠ (75 : TypeId) → ∀ g, v.ownBlock = some g → ¬ g = S := fun v n e xs ho he g hg hs => by
    rcases ho.2 with ⟨h1, _⟩ | ⟨g', cap, cur, h1, _, hgg, _⟩
    · rw [h1] at hg; cases hg
    · rw [h1] at hg
      simp only [Value.ownBlock, Option.some.injEq] at hg
      rw [hg, hs, h.obj] at hgg
      cases hgg
      exact he rfl
  exact ⟨heap_setCell_same W S 5 _ (75 : TypeId) _ h.obj, row_tb h.str hb (hne _ _ _ _ h.str (by decide)), row_tb h.ends hb (hne _ _ _ _ h.ends (by decide)), h.byte, h.short, h.most⟩

set_option maxHeartbeats 2000000 in
theorem ssync_on {w W : World} {P : Nat → Prop} {R S : Nat} {d : Dsk} {K : Nat} {nm : ByteArray} {bs : List (List Int)} {br : Bool} (h : Sgx w P R S d nm bs br W) (hz : Bw d K) (hK : K < 700000) (hs : nm.size ≤ 1000000) :
    Calls Tryz.prog 8 #[.pointer (some ⟨S, 0, none⟩)] W fun e W' => e = .returned (.int .i64 (d.ssync nm br).1) ∧ Sgx w P R S (d.ssync nm br).2.1 nm bs (d.ssync nm br).2.2 W' ∧ No P W W' := by
  have HX := hide h
  obtain ⟨Q, sv, ev, h1, h2, h3, h4, h5, h6, h7⟩ := h
  have c1 : W.cell? ⟨S, 1, none⟩ = some (.pointer (some ⟨R, 0, none⟩)) := h4.c 1
  have c2 : W.cell? ⟨S, 2, none⟩ = some (.string nm) := h4.c 2
  have hrf := refused_any h4
  have tdr : Tb (fun _ => False) W W.drew := (Tb.refl _ W).drew
  have C := ay_sync (h1.kept tdr) hz (by omega) (by omega : nm.size ≤ 9223372036854775807)
  obtain ⟨r, hr⟩ : ∃ r, Hid (r = d.sync nm) := ⟨_, hide rfl⟩
  rw [← hr.out] at C
  have hsd : Hid (d.ssync nm br = if br then (4, d, true) else if r.1 = 70 then (0, r.2, false) else (r.1, r.2, decide (r.1 ≠ 0))) := hide (by unfold Dsk.ssync; rw [← hr.out])
  have FIN : Hid (∀ X, Ay w (fun g => P g ∨ Q g) R r.2 X → No (fun g => P g ∨ Q g) W X → Sg X R S nm sv ev bs br ∧ No P W X ∧ (∀ x, Sgx w P R S r.2 nm bs x (X.setCell ⟨S, 5, none⟩ (.bool x)) ∧ No P W (X.setCell ⟨S, 5, none⟩ (.bool x))) ∧ Sgx w P R S r.2 nm bs br X) := hide (fun X a1 a2 => by
    have g1 : Sg X R S nm sv ev bs br := h4.tb a2 (fun hn => hn (.inr h5)) (fun g hg hn => hn (.inr (h6 g hg))) (fun g hg hn => hn (.inr (h7 g hg)))
    have g2 : No P W X := a2.less (fun g hg => .inl hg)
    refine ⟨g1, g2, fun x => ?_, ⟨Q, sv, ev, a1, h2, h3, g1, h5, h6, h7⟩⟩
    have hst : Tb (fun k => k = S) X (X.setCell ⟨S, 5, none⟩ (.bool x)) := Tb.set (S := fun k => k = S) S 5 _ rfl
    have hSw : w.heap.size ≤ S := Nat.not_lt.1 (fun hl => h2 S h5 (h3 S hl))
    refine ⟨⟨Q, sv, ev, (a1.on (hst.mono (fun k _ e => by rw [e]; exact ⟨.inr h5, hSw⟩))).less (fun g hg => .inl hg) (fun g hg => .inl (h3 g hg)), h2, h3, g1.brk x, h5, h6, h7⟩, g2.trans (hst.mono (fun k _ e hp => by rw [e] at hp; exact h2 S h5 hp))⟩)
  clear h1 h4
  cases br with
  | true =>
    go_enter Tryz.func8, Tryz.ntmps8
    go_wp2_with (go_at_call 33; refine hrf.mono ?_; rintro e w1 ⟨rfl, hw1⟩; subst w1)
    go_ret
    rw [hsd.out]
    exact ⟨rfl, HX.out, No.refl⟩
  | false =>
    go_enter Tryz.func8, Tryz.ntmps8
    go_wp2_with (go_at_call 33; refine hrf.mono ?_; rintro e w1 ⟨rfl, hw1⟩; subst w1)
    go_region_held3 (fun V => V.cell? ⟨S, 1, none⟩ = some (.pointer (some ⟨R, 0, none⟩)) ∧ V.cell? ⟨S, 2, none⟩ = some (.string nm))
      (first | exact ⟨c1, c2⟩ | exact ⟨g1.c 1, g1.c 2⟩)
      (first | (go_at_call 37; refine C.mono ?_; rintro e X ⟨rfl, a1, a2⟩; obtain ⟨g1, g2, g3, g4⟩ := FIN.out X a1 ((No.of tdr).trans a2)))
    have c5 : X.cell? ⟨S, 5, none⟩ = some (.bool false) := g1.c 5
    have f5 := g1.free 5
    have G2 := hide g2
    have G3 := hide g3
    have G4 := hide g4
    clear a1 a2 g1 g2 g3 g4 C c1 c2
    by_cases h70 : r.1 = 70
    · rw [h70]
      go_wp2_with fail
      go_ret
      rw [hsd.out, if_neg (by simp), if_pos h70]
      exact ⟨rfl, G4.out, G2.out⟩
    · have e70 : (r.1 == 70) = false := by simpa using h70
      by_cases h0 : r.1 = 0
      · rw [h0]
        go_wp2_with fail
        go_ret
        rw [hsd.out, if_neg (by simp), if_neg h70, h0]
        exact ⟨rfl, (G3.out false).1, (G3.out false).2⟩
      · have e0 : (r.1 == 0) = false := by simpa using h0
        go_wp2_with fail
        go_ret
        rw [hsd.out, if_neg (by simp), if_neg h70]
        have e1 : decide (r.1 ≠ 0) = true := by simpa using h0
        rw [e1, show (r.1 != 0) = true from by simpa using h0]
        exact ⟨rfl, (G3.out true).1, (G3.out true).2⟩

end Go.Proofs.YtkdolabhcbjipaaGreat

/-
  Read of a segment.
-/
namespace Go.Proofs.YtkdolabhcbjipaaGreat
open Go.RowKit
set_option maxRecDepth 100000
set_option linter.unusedVariables false

theorem ends_cell {w : World} {base g k c : Nat} {bs : List (List Int)} {n : Nat} (h : w.ownsRow base 3 1 (.slice (some ⟨g, 0, none⟩) k c) k (Nn (eds bs))) (hn : n < bs.length) : w.cell? ⟨g, n, none⟩ = some (.int .i64 (edAt bs (n + 1) : Int)) := by
  have := h.cells (g := g) rfl n (.int .i64 (edAt bs (n + 1) : Int)) (by
    rw [Nn, List.getElem?_map, eds_get bs n hn]
    rfl)
  rw [Addr.add_lit, Nat.zero_add] at this
  exact this

set_option maxHeartbeats 1000000 in
theorem sread_no {W : World} {R S : Nat} {nm : ByteArray} {sv ev : Value} {bs : List (List Int)} {br : Bool} {i : Int} (h : Sg W R S nm sv ev bs br) (hi : i < 0 ∨ (bs.length : Int) ≤ i) :
    Calls Tryz.prog 14 #[.pointer (some ⟨S, 0, none⟩), .int .i64 i] W fun e w' => e = .returned (.tuple #[.slice none 0 0, .int .i64 2]) ∧ w' = W := by
  obtain ⟨ea, ec, rfl⟩ := row_val h.ends
  have c4 : W.cell? ⟨S, 4, none⟩ = some (.slice ea bs.length ec) := h.c 4
  have hm := smade_yes h
  clear h
  go_enter Tryz.func14, Tryz.ntmps14
  by_cases h0 : i < 0
  · clear hi
    go_wp2_with (go_at_call 43; refine hm.mono ?_; rintro e w1 ⟨rfl, hw1⟩; subst w1)
    go_ret2
    exact ⟨rfl, rfl⟩
  · have h1 := hi.resolve_left h0
    clear hi
    go_wp2_with (go_at_call 43; refine hm.mono ?_; rintro e w1 ⟨rfl, hw1⟩; subst w1)
    go_ret2
    exact ⟨rfl, rfl⟩

set_option maxHeartbeats 2000000 in
theorem sread_yes {W : World} {R S : Nat} {nm : ByteArray} {sv ev : Value} {bs : List (List Int)} {br : Bool} {i : Nat} (h : Sg W R S nm sv ev bs br) (hi : i < bs.length) :
    Calls Tryz.prog 14 #[.pointer (some ⟨S, 0, none⟩), .int .i64 (i : Int)] W fun e w' => ∃ g c, e = .returned (.tuple #[.slice (some ⟨g, 0, none⟩) bs[i].length c, .int .i64 0]) ∧ w'.ownsRow W.heap.size 5 1 (.slice (some ⟨g, 0, none⟩) bs[i].length c) bs[i].length (U bs[i]) ∧ Below W.heap.size W w' := by
  obtain ⟨i0, hi0, hz0, hz1, hz2⟩ := info_parts info5
  have hF4 := flat_len4 bs
  have hmost := h.most
  have hF5 : (flat bs).length ≤ 253952 := by unfold nsec at hmost; omega
  obtain ⟨g, sc, rfl⟩ := own_shape h.str (by omega)
  obtain ⟨ge, ec, rfl⟩ := own_shape h.ends (by omega)
  have hsc := own_caps h.str
  have hec := own_caps h.ends
  have c3 : W.cell? ⟨S, 3, none⟩ = some (.slice (some ⟨g, 0, none⟩) (flat bs).length sc) := h.c 3
  have c4 : W.cell? ⟨S, 4, none⟩ = some (.slice (some ⟨ge, 0, none⟩) bs.length ec) := h.c 4
  have ci := ends_cell h.ends hi
  have hm := smade_yes h
  have CE := fun (X : World) (hX : X.ownsRow 0 3 1 (.slice (some ⟨ge, 0, none⟩) bs.length ec) bs.length (Nn (eds bs))) => endOf_any (n := i) hX rfl (by omega) (by omega)
  have hends := h.ends
  have hstr := own_bs h.str (flat_byte h.byte)
  have hed := edAt_succ bs i hi
  have hel := edAt_le bs (i + 1)
  have hbody := flat_body bs i hi
  rw [hed] at ci
  obtain ⟨A, hA⟩ : ∃ A, Hid (A = edAt bs i) := ⟨_, hide rfl⟩
  obtain ⟨L, hL⟩ : ∃ L, Hid (L = bs[i].length) := ⟨_, hide rfl⟩
  obtain ⟨F, hF⟩ : ∃ F, Hid (F = (flat bs).length) := ⟨_, hide rfl⟩
  obtain ⟨B, hB⟩ : ∃ B, Hid (B = bs.length) := ⟨_, hide rfl⟩
  rw [hed, ← hA.out, ← hL.out, ← hF.out] at hel
  rw [← hA.out, ← hL.out] at ci hbody
  rw [← hF.out] at hF5 hsc c3 hstr
  rw [← hB.out] at hec c4 hi CE hends
  rw [← hA.out] at CE
  obtain ⟨b, hb⟩ : ∃ b, Hid (b = bs[i]) := ⟨_, hide rfl⟩
  rw [← hb.out] at hbody hL
  rw [← hb.out, ← hL.out]
  have hP : ∃ ad, Bs W (some ad) L (sc - (A + 4)) b ∧ (if sc = A + 4 then ad = ⟨g, 0, none⟩ else ad = ⟨g, A + 4, none⟩) := by
    by_cases c : sc = A + 4
    · have hL0 : L = 0 := by omega
      have : b = [] := List.eq_nil_of_length_eq_zero (by rw [← hL.out]; exact hL0)
      rw [hL0, this]
      exact ⟨⟨g, 0, none⟩, Bs.zero W _ _ (by omega), by rw [if_pos c]⟩
    · refine ⟨⟨g, A + 4, none⟩, ?_, by rw [if_neg c]⟩
      have := hstr.mid (A + 4) L (by omega)
      rw [hbody, Nat.zero_add] at this
      exact this
  obtain ⟨ad, hP, hif⟩ := hP
  have HP := hide hP
  have hs1 := hsc.2
  have hs2 : F ≤ sc := hsc.1
  have he1 := hec.1
  have he2 := hec.2
  have hin : (((A + 4 + L : Nat) : Int)).toNat - (A + 4) = L := by omega
  clear h hsc hec hstr hbody hed hmost hF4 hP
  go_enter Tryz.func14, Tryz.ntmps14
  go_wp2_with (go_at_call 43; refine hm.mono ?_; rintro e w1 ⟨rfl, hw1⟩; subst w1)
  by_cases hc : sc = A + 4
  · rw [if_pos hc] at hif
    subst hif
    subst hc
    go_quiet (first | (go_at_call 29; exact Calls.quiet_of_same (CE _ (by first | exact hends | assumption))))
    rw [show A + 4 + L - (A + 4) = L from by omega]
    obtain ⟨V, hV⟩ : ∃ V, V = W.drewN nq := ⟨_, rfl⟩
    have bV : Below W.heap.size W V := by rw [hV]; exact ⟨rfl, rfl, rfl, Nat.le_refl _, fun _ _ => rfl⟩
    have hVs : Hid (V.heap.size = W.heap.size) := hide (by rw [hV]; rfl)
    rw [← hV]
    clear hV
    have hBV := HP.out.keep bV
    go_wp2_with (at_builtin; refine wpList_append_went rfl (.tmp 40) (.tmp 41) 30 rfl V.heap.size 5 i0 Tryz.underlying30 hi0 hz0 hz1 hz2 _ 0 [] rfl (World.ownsRow_made V #[] 0 (Nat.le_refl _) (by decide) rfl) _ _ _ b rfl (hBV.alloc _) (by omega) (by simp) ?_; intro v' w' hown hgrow hwent)
    simp only [Nat.zero_add, List.nil_append] at hown
    have hb' : ∃ g, v'.ownBlock = some g := by
      rcases hwent with h | h
      · exact ⟨_, h⟩
      · exact ⟨_, h⟩
    obtain ⟨g', hg'⟩ := hb'
    obtain ⟨d', rfl⟩ := own_some hown hg'
    have hbel : Below V.heap.size V w' := ((Below.refl _ V).alloc (Nat.le_refl _) _).grown hgrow (by simp) (fun k hk => own_from (World.ownsRow_made (size := 1) (e := 5) V #[] 0 (Nat.le_refl _) (by decide) rfl) hk)
    rw [hVs.out] at hown hbel
    have HO := hide hown
    have HB' := hide (bV.trans hbel)
    clear hgrow hwent hg' hown hbel
    go_wp2_with fail
    go_ret2
    exact ⟨g', d', rfl, HO.out, HB'.out⟩
  · rw [if_neg hc] at hif
    subst hif
    have hc2 : A + 4 ≠ sc := fun e => hc e.symm
    have HC := hide hc
    clear hc
    go_quiet (first | (go_at_call 29; exact Calls.quiet_of_same (CE _ (by first | exact hends | assumption))))
    rw [show A + 4 + L - (A + 4) = L from by omega]
    obtain ⟨V, hV⟩ : ∃ V, V = W.drewN nq := ⟨_, rfl⟩
    have bV : Below W.heap.size W V := by rw [hV]; exact ⟨rfl, rfl, rfl, Nat.le_refl _, fun _ _ => rfl⟩
    have hVs : Hid (V.heap.size = W.heap.size) := hide (by rw [hV]; rfl)
    rw [← hV]
    clear hV
    have hBV := HP.out.keep bV
    go_wp2_with (at_builtin; refine wpList_append_went rfl (.tmp 40) (.tmp 41) 30 rfl V.heap.size 5 i0 Tryz.underlying30 hi0 hz0 hz1 hz2 _ 0 [] rfl (World.ownsRow_made V #[] 0 (Nat.le_refl _) (by decide) rfl) _ _ _ b rfl (hBV.alloc _) (by omega) (by simp) ?_; intro v' w' hown hgrow hwent)
    simp only [Nat.zero_add, List.nil_append] at hown
    have hb' : ∃ g, v'.ownBlock = some g := by
      rcases hwent with h | h
      · exact ⟨_, h⟩
      · exact ⟨_, h⟩
    obtain ⟨g', hg'⟩ := hb'
    obtain ⟨d', rfl⟩ := own_some hown hg'
    have hbel : Below V.heap.size V w' := ((Below.refl _ V).alloc (Nat.le_refl _) _).grown hgrow (by simp) (fun k hk => own_from (World.ownsRow_made (size := 1) (e := 5) V #[] 0 (Nat.le_refl _) (by decide) rfl) hk)
    rw [hVs.out] at hown hbel
    have HO := hide hown
    have HB' := hide (bV.trans hbel)
    clear hgrow hwent hg' hown hbel
    go_wp2_with fail
    go_ret2
    exact ⟨g', d', rfl, HO.out, HB'.out⟩

end Go.Proofs.YtkdolabhcbjipaaGreat

/-
  Append to a segment.
-/
namespace Go.Proofs.YtkdolabhcbjipaaGreat
open Go.RowKit
set_option maxRecDepth 100000
set_option linter.unusedVariables false

/-- A disk, blocks (Q) of one's own beside it, and others (P). -/
structure Qx (w : World) (P Q : Nat → Prop) (R : Nat) (d : Dsk) (W : World) : Prop where
  ay : Ay w (fun g => P g ∨ Q g) R d W
  no : ∀ g, Q g → ¬ P g
  old : ∀ g, g < w.heap.size → P g

section
variable {w W V : World} {P Q : Nat → Prop} {R S : Nat} {d d' : Dsk} {nm : ByteArray} {sv ev : Value} {bs : List (List Int)} {br : Bool}

theorem Qx.ge (h : Qx w P Q R d W) {g : Nat} (hg : Q g) : w.heap.size ≤ g := Nat.not_lt.1 (fun hl => h.no g hg (h.old g hl))
theorem Qx.lt (h : Qx w P Q R d W) {g : Nat} (hg : Q g) : g < W.heap.size := h.ay.lt g (.inr hg)

/-- Blocks of one's own turn, and new ones are laid. -/
theorem Qx.own (h : Qx w P Q R d W) (hb : Tb Q W V) : Qx w P (fun g => Q g ∨ (W.heap.size ≤ g ∧ g < V.heap.size)) R d V ∧ No P W V := by
  have h1 := h.ay.on (hb.mono (fun i _ hq => ⟨.inr hq, h.ge hq⟩))
  refine ⟨⟨h1.less (fun g hg => ?_) (fun g hg => .inl (h.old g hg)), fun g hg hp => ?_, h.old⟩, hb.mono (fun i _ hq hp => h.no i hq hp)⟩
  · rcases hg with hg | hg | hg
    · exact .inl (.inl hg)
    · exact .inl (.inr hg)
    · exact .inr hg
  · rcases hg with hg | hg
    · exact h.no g hg hp
    · have := h.ay.lt g (.inl hp)
      omega

/-- A call on the disk. -/
theorem Qx.disk (h : Qx w P Q R d W) (a1 : Ay w (fun g => P g ∨ Q g) R d' V) (a2 : No (fun g => P g ∨ Q g) W V) : Qx w P Q R d' V ∧ No P W V := ⟨⟨a1, h.no, h.old⟩, a2.less (fun g hg => .inl hg)⟩

theorem Qx.sgx (h : Qx w P Q R d W) (hs : Sg W R S nm sv ev bs br) (h5 : Q S) (h6 : ∀ g, sv.ownBlock = some g → Q g) (h7 : ∀ g, ev.ownBlock = some g → Q g) : Sgx w P R S d nm bs br W := ⟨Q, sv, ev, h.ay, h.no, h.old, hs, h5, h6, h7⟩

theorem Sg.not_row {n : Nat} {e : TypeId} {v : Value} {xs : List Value} {base : Nat} (h : Sg W R S nm sv ev bs br) (ho : W.ownsRow base e 1 v n xs) (he : e ≠ (75 : TypeId)) {g : Nat} (hg : v.ownBlock = some g) : g ≠ S := fun hs => by
  rcases ho.2 with ⟨h1, _⟩ | ⟨g', cap, cur, h1, _, hgg, _⟩
  · rw [h1] at hg; cases hg
  · rw [h1] at hg
    simp only [Value.ownBlock, Option.some.injEq] at hg
    rw [hg, hs, h.obj] at hgg
    cases hgg
    exact he rfl
end

/-- Bytes are appended to the stream: what it was reads as it did. -/
theorem app_in {W1 : World} {R S F sc g m c : Nat} {sa : Option Addr} {nm : ByteArray} {ev : Value} {bs : List (List Int)} {br : Bool} {x : List Int} (hS : Sg W1 R S nm (.slice sa F sc) ev bs br) (hF : F = (flat bs).length) (hF5 : F ≤ 253952) (hr : W1.ownsRow 0 5 1 (.slice (some ⟨g, 0, none⟩) m c) m (U x)) (hm : 0 < m) (hm2 : m ≤ 1000000) :
    ∃ g' c' W2, (Builtin.append_ #[30, 30] 30 #[.slice sa F sc, .slice (some ⟨g, 0, none⟩) m c]).run Tryz.prog W1 = .ok (.slice (some ⟨g', 0, none⟩) (F + m) c') W2 ∧ W2.ownsRow 0 5 1 (.slice (some ⟨g', 0, none⟩) (F + m) c') (F + m) (U (flat bs ++ x)) ∧ Sg W2 R S nm (.slice sa F sc) ev bs br ∧
      Tb (fun k => (Value.slice sa F sc).ownBlock = some k) W1 W2 ∧ ((Value.slice sa F sc).ownBlock = some g' ∨ (W1.heap.size ≤ g' ∧ g' < W2.heap.size)) := by
  obtain ⟨i0, hi, hz0, hz1, hz2⟩ := info_parts info5
  have hstr := hS.str
  rw [← hF] at hstr
  have hl : (U x).length = m := by have := hr.1; omega
  obtain ⟨v', W2, hrun, ho, ht⟩ := run_append_tells (P := Tryz.prog) W1 0 30 30 5 i0 (.int .u8 0) Tryz.underlying30 hi hz0 hz1 hz2 rfl (.slice sa F sc) F _ hstr ⟨g, 0, none⟩ m c (U x) hl (hr.cells (g := g) rfl) (U_one x) hm (by omega) (Nat.zero_le _)
  rw [← U_append] at ho
  have keep : ∀ T : Nat → Prop, Tb T W1 W2 → (∀ k, T k → (Value.slice sa F sc).ownBlock = some k) → W2.ownsRow 0 5 1 (.slice sa F sc) F (U (flat bs)) → Sg W2 R S nm (.slice sa F sc) ev bs br := fun T hb hT hrow =>
    ⟨(hb.block S hS.lt (fun hs => hS.not_row hstr (by decide) (hT S hs) rfl)).trans hS.obj, by rw [← hF]; exact hrow, row_tb hS.ends hb (fun k hk hs => own_types hS.ends hstr (by decide) hk (hT k hs)), hS.byte, hS.short, hS.most⟩
  rcases ht with ⟨g', cap, hv, rfl, hg⟩ | ⟨dd, rfl, hg⟩
  · simp only [Value.slice.injEq] at hv
    obtain ⟨rfl, _, rfl⟩ := hv
    have hb : Tb (fun k => (Value.slice (some ⟨g', 0, none⟩) F sc).ownBlock = some k) W1 W2 := Tb.of_grown hg (fun k e => e)
    refine ⟨g', sc, W2, hrun, ho, keep _ hb (fun k hk => hk) ?_, hb, .inl rfl⟩
    have := own_take ho (k := F) (by omega)
    have e : (U (flat bs ++ x)).take F = U (flat bs) := by rw [U_append, List.take_left' (by rw [U_length, hF])]
    rwa [e] at this
  · have hb : Tb (fun _ => False) W1 W2 := Tb.of_grown hg (fun k e => by cases e)
    refine ⟨W1.heap.size, dd, W2, hrun, ho, keep _ hb (fun k hk => hk.elim) (row_tb hstr hb (fun _ _ h => h)), hb.mono (fun _ _ h => h.elim), .inr ⟨Nat.le_refl _, ?_⟩⟩
    exact (ho.lt _ rfl).2

/-- A frame more. -/
theorem seg_grown {w X X4 : World} {P Q : Nat → Prop} {R S : Nat} {d : Dsk} {nm : ByteArray} {sv ev sv' ev' : Value} {bs : List (List Int)} {b : List Int} {tmp : Obj} (hQ : Qx w P Q R d X) (hS : Sg X R S nm sv ev bs false) (h5 : Q S) (h7 : ∀ g, ev.ownBlock = some g → Q g) (h6 : ∀ g, sv'.ownBlock = some g → Q g)
    (hs : X.ownsRow 0 5 1 sv' (flat (bs ++ [b])).length (U (flat (bs ++ [b])))) (he : X4.ownsRow 0 3 1 ev' (bs.length + 1) (Nn (eds bs) ++ [.int .i64 ((flat (bs ++ [b])).length : Int)])) (hg : (X.alloc tmp).grownBy X4 ev.ownBlock) (hgo : ev'.ownBlock = ev.ownBlock ∨ ev'.ownBlock = some (X.alloc tmp).heap.size)
    (hb : ∀ z ∈ b, 0 ≤ z ∧ z ≤ 255) (hl : b.length ≤ 65536) (hm : nsec (flat (bs ++ [b])).length ≤ 4096) :
    (X4.cell? ⟨S, 3, none⟩ = some sv ∧ X4.frozen? ⟨S, 3, none⟩ = false ∧ (X4.setCell ⟨S, 3, none⟩ sv').cell? ⟨S, 4, none⟩ = some ev ∧ (X4.setCell ⟨S, 3, none⟩ sv').frozen? ⟨S, 4, none⟩ = false ∧ ((X4.setCell ⟨S, 3, none⟩ sv').setCell ⟨S, 4, none⟩ ev').cell? ⟨S, 4, none⟩ = some ev') ∧
    Sgx w P R S d nm (bs ++ [b]) false ((X4.setCell ⟨S, 3, none⟩ sv').setCell ⟨S, 4, none⟩ ev') ∧ No P X ((X4.setCell ⟨S, 3, none⟩ sv').setCell ⟨S, 4, none⟩ ev') := by
  have t0 : Tb (fun _ => False) X (X.alloc tmp) := (Tb.refl _ X).alloc tmp
  have t4 : Tb (fun k => ev.ownBlock = some k) X X4 := Tb.trans (t0.mono (fun _ _ h => h.elim)) (Tb.of_grown (S := fun k => ev.ownBlock = some k) hg (fun k e => e)) (fun i _ h => h)
  have hSe : ∀ k, ev.ownBlock = some k → k ≠ S := fun k hk => hS.not_row hS.ends (by decide) hk
  have o4 : X4.heap[S]? = _ := (t4.block S hS.lt (fun e => hSe S e rfl)).trans hS.obj
  have o5 := heap_setCell_same X4 S 3 _ (75 : TypeId) sv' o4
  have o6 := heap_setCell_same _ S 4 _ (75 : TypeId) ev' o5
  have t6 : Tb (fun k => k = S) X4 ((X4.setCell ⟨S, 3, none⟩ sv').setCell ⟨S, 4, none⟩ ev') := Tb.trans (Tb.set (S := fun k => k = S) S 3 _ rfl) (Tb.set (S := fun k => k = S) S 4 _ rfl) (fun _ _ h => h)
  have hs4 : X4.ownsRow 0 5 1 sv' (flat (bs ++ [b])).length (U (flat (bs ++ [b]))) := row_tb hs t4 (fun k hk e => own_types hs hS.ends (by decide) hk e)
  have nS : ∀ (v : Value) (n : Nat) (e : TypeId) (xs : List Value), X4.ownsRow 0 e 1 v n xs → e ≠ (75 : TypeId) → ∀ k, v.ownBlock = some k → ¬ k = S := fun v n e xs ho he k hk hs => by
    rcases ho.2 with ⟨h1, _⟩ | ⟨g', cap, cur, h1, _, hgg, _⟩
    · rw [h1] at hk; cases hk
    · rw [h1] at hk
      simp only [Value.ownBlock, Option.some.injEq] at hk
      rw [hk, hs, o4] at hgg
      cases hgg
      exact he rfl
  have s4 := t4.size
  obtain ⟨q1, n1⟩ := hQ.own (V := (X4.setCell ⟨S, 3, none⟩ sv').setCell ⟨S, 4, none⟩ ev') (Tb.trans (t4.mono (fun i _ e => h7 i e)) t6 (fun i _ e => by rw [e]; exact h5))
  have s6 := t6.size
  refine ⟨⟨by rw [cell_of_row X4 S 3 _ (75 : TypeId) (0, 0) o4]; rfl, frozen_of_row X4 S 3 _ (75 : TypeId) o4, by rw [cell_of_row _ S 4 _ (75 : TypeId) (0, 0) o5]; rfl, frozen_of_row _ S 4 _ (75 : TypeId) o5, by rw [cell_of_row _ S 4 _ (75 : TypeId) (0, 0) o6]; rfl⟩, q1.sgx ⟨o6, row_tb hs4 t6 (nS _ _ _ _ hs4 (by decide)), ?_, ?_, ?_, hm⟩ (.inl h5) (fun k hk => .inl (h6 k hk)) (fun k hk => ?_), n1⟩
  · rw [eds_snoc, List.length_append, List.length_singleton]
    have : Nn (eds bs ++ [(flat (bs ++ [b])).length]) = Nn (eds bs) ++ [.int .i64 ((flat (bs ++ [b])).length : Int)] := by simp [Nn]
    rw [this]
    exact row_tb he t6 (nS _ _ _ _ he (by decide))
  · intro x hx
    rcases List.mem_append.1 hx with hx | hx
    · exact hS.byte x hx
    · rw [List.mem_singleton.1 hx]; exact hb
  · intro x hx
    rcases List.mem_append.1 hx with hx | hx
    · exact hS.short x hx
    · rw [List.mem_singleton.1 hx]; exact hl
  · rcases hgo with e | e
    · rw [e] at hk; exact .inl (h7 k hk)
    · have h8 := (he.lt k hk).2
      rw [e] at hk
      simp only [World.size_alloc, Option.some.injEq] at hk
      exact .inr ⟨by omega, by omega⟩

/-- What Append answers, and what it does. -/
structure Apd where
  at' : Int
  err : Int
  d : Dsk
  bs : List (List Int)
  br : Bool
def Dsk.sapp (d : Dsk) (s : ByteArray) (bs : List (List Int)) (br : Bool) (b : List Int) : Apd :=
  if br then ⟨0, 4, d, bs, true⟩ else if 65536 < b.length then ⟨0, 3, d, bs, false⟩ else if 4096 < nsec (flat bs ++ fr b).length then ⟨0, 5, d, bs, false⟩
  else if (d.sput s (flat bs ++ fr b) ((flat bs).length / 62)).1 ≠ 0 then ⟨0, (d.sput s (flat bs ++ fr b) ((flat bs).length / 62)).1, (d.sput s (flat bs ++ fr b) ((flat bs).length / 62)).2, bs, true⟩
  else ⟨bs.length, 0, (d.sput s (flat bs ++ fr b) ((flat bs).length / 62)).2, bs ++ [b], false⟩

set_option maxHeartbeats 4000000 in
theorem append_on {w W : World} {P : Nat → Prop} {R S : Nat} {d : Dsk} {K : Nat} {nm : ByteArray} {bs : List (List Int)} {br : Bool} {a : Option Addr} {n cap : Nat} {b : List Int} (h : Sgx w P R S d nm bs br W) (hz : Bw d K) (hK : K + 13000 < 700000) (hs : nm.size ≤ 1000000) (hB : Bs W a n cap b) :
    Calls Tryz.prog 7 #[.pointer (some ⟨S, 0, none⟩), .slice a n cap] W fun e W' => e = .returned (.tuple #[.int .i64 (d.sapp nm bs br b).at', .int .i64 (d.sapp nm bs br b).err]) ∧ Sgx w P R S (d.sapp nm bs br b).d nm (d.sapp nm bs br b).bs (d.sapp nm bs br b).br W' ∧ No P W W' := by
  have HX := hide h
  obtain ⟨Q, sv, ev, h1, h2, h3, h4, h5, h6, h7⟩ := h
  have QX : Qx w P Q R d W := ⟨h1, h2, h3⟩
  have hrf := refused_any h4
  have hbl := hB.len
  have hF4 := flat_len4 bs
  have hmost := h4.most
  have hF5 : (flat bs).length ≤ 253952 := by unfold nsec at hmost; omega
  have hcr := hB.reach
  have hcl := hB.le
  cases br with
  | true =>
    have hsd : Hid (d.sapp nm bs true b = ⟨0, 4, d, bs, true⟩) := hide (by unfold Dsk.sapp; rw [if_pos rfl])
    clear h1 h4
    go_enter Tryz.func7, Tryz.ntmps7
    go_wp2_with (go_at_call 33; refine hrf.mono ?_; rintro e w1 ⟨rfl, hw1⟩; subst w1)
    go_ret2
    rw [hsd.out]
    exact ⟨rfl, HX.out, No.refl⟩
  | false =>
    by_cases hlong : 65536 < n
    · have hsd : Hid (d.sapp nm bs false b = ⟨0, 3, d, bs, false⟩) := hide (by unfold Dsk.sapp; rw [if_neg (by simp), if_pos (by omega)])
      clear h1 h4
      go_enter Tryz.func7, Tryz.ntmps7
      go_wp2_with (go_at_call 33; refine hrf.mono ?_; rintro e w1 ⟨rfl, hw1⟩; subst w1)
      refine (fput_no a n cap W hlong (by omega)).mono ?_
      rintro e w1 ⟨rfl, hw1⟩
      subst w1
      go_wp2_with fail
      go_ret2
      rw [hsd.out]
      exact ⟨rfl, HX.out, No.refl⟩
    · obtain ⟨sa, sc, rfl⟩ := row_val h4.str
      obtain ⟨F, hF⟩ : ∃ F, Hid (F = (flat bs).length) := ⟨_, hide rfl⟩
      have hfl : Hid ((flat bs ++ fr b).length = F + (4 + n)) := hide (by rw [List.length_append, fr_length, hbl, hF.out])
      have HS := hide h4
      rw [← hF.out] at hF4 hF5
      have c3 : W.cell? ⟨S, 3, none⟩ = some (.slice sa F sc) := by rw [hF.out]; exact h4.c 3
      by_cases hfull : 4096 < nsec (F + (4 + n))
      · have hsd : Hid (d.sapp nm bs false b = ⟨0, 5, d, bs, false⟩) := hide (by unfold Dsk.sapp; rw [if_neg (by simp), if_neg (by omega), if_pos (by rw [hfl.out]; exact hfull)])
        have C51 := fun V => sectorsFor_any (F + (4 + n)) (by omega) V
        push_cast at C51
        have hns : (4096 : Int) < (nsec (F + (4 + n)) : Int) := by omega
        clear h1 h4
        go_enter Tryz.func7, Tryz.ntmps7
        go_wp2_with (go_at_call 33; refine hrf.mono ?_; rintro e w1 ⟨rfl, hw1⟩; subst w1)
        refine (fput_yes a n cap b W hB (by omega)).mono ?_
        rintro e W1 ⟨g, c, rfl, hr1, t1⟩
        have c31 := (t1.cell (p := ⟨S, 3, none⟩) HS.out.lt).trans c3
        have FX := hide (HX.out.kept (Tb.of_fresh t1))
        have FN := hide (No.of (P := P) (Tb.of_fresh t1))
        clear hr1 t1 c3
        go_wp2_with (go_at_call 35; refine (C51 _).mono ?_; rintro e w2 ⟨rfl, hw2⟩; subst w2)
        go_ret2
        rw [hsd.out]
        exact ⟨rfl, FX.out, FN.out⟩
      · obtain ⟨i3, hi3, hy0, hy1, hy2⟩ := info_parts info3
        obtain ⟨ea, ec, rfl⟩ := row_val h4.ends
        obtain ⟨B, hBe⟩ : ∃ B, Hid (B = bs.length) := ⟨_, hide rfl⟩
        have hsf : Hid (flat (bs ++ [b]) = flat bs ++ fr b) := hide (flat_snoc bs b)
        have hby : ∀ z ∈ flat bs ++ fr b, 0 ≤ z ∧ z ≤ 255 := fun z hz => (List.mem_append.1 hz).elim (flat_byte h4.byte z) (fr_byte hB.byte z)
        obtain ⟨r, hr⟩ : ∃ r, Hid (r = d.sput nm (flat bs ++ fr b) (F / 62)) := ⟨_, hide rfl⟩
        have hsd : Hid (d.sapp nm bs false b = if r.1 ≠ 0 then ⟨0, r.1, r.2, bs, true⟩ else ⟨bs.length, 0, r.2, bs ++ [b], false⟩) := hide (by unfold Dsk.sapp; rw [if_neg (by simp), if_neg (by omega), if_neg (by rw [hfl.out]; exact hfull), ← hF.out, ← hr.out])
        have C51 := fun V => sectorsFor_any (F + (4 + n)) (by omega) V
        push_cast at C51
        have hns : (nsec (F + (4 + n)) : Int) ≤ 4096 := by omega
        have hq : ((F : Int)).tdiv 62 = ((F / 62 : Nat) : Int) := by rw [Int.tdiv_eq_ediv_of_nonneg (by omega)]; omega
        have HBY := hide hby
        have HQX := hide QX
        clear h1 h4 QX hby
        go_enter Tryz.func7, Tryz.ntmps7
        go_wp2_with (go_at_call 33; refine hrf.mono ?_; rintro e w1 ⟨rfl, hw1⟩; subst w1)
        refine (fput_yes a n cap b W hB (by omega)).mono ?_
        rintro e W1 ⟨g, c, rfl, hr1, t1⟩
        have c31 := (t1.cell (p := ⟨S, 3, none⟩) HS.out.lt).trans c3
        have S1 : Sg W1 R S nm (.slice sa F sc) (.slice ea bs.length ec) bs false := by rw [hF.out]; exact HS.out.tb (Tb.of_fresh (S := fun _ => False) t1) (fun h => h) (fun _ _ h => h) (fun _ _ h => h)
        obtain ⟨Q1, N1⟩ := HQX.out.own (Tb.of_fresh t1)
        obtain ⟨g', c', W2, hrun, ho2, S2, t2, hw2⟩ := app_in S1 hF.out hF5 (own_less hr1 (Nat.zero_le _)) (by omega) (by omega)
        obtain ⟨Q2, N2⟩ := Q1.own (t2.mono (fun k _ e => .inl (h6 k (by rw [← hF.out]; exact e))))
        have hg2 : (Q g' ∨ (W.heap.size ≤ g' ∧ g' < W1.heap.size)) ∨ (W1.heap.size ≤ g' ∧ g' < W2.heap.size) := hw2.imp (fun e => .inl (h6 g' (by rw [← hF.out]; exact e))) id
        have tdr : Tb (fun _ => False) W2 W2.drew := (Tb.refl _ W2).drew
        have hB2 : Bs W2.drew (some ⟨g', 0, none⟩) (F + (4 + n)) c' (flat bs ++ fr b) := own_bs (row_tb ho2 tdr (fun _ _ h => h)) HBY.out
        have CP := put_on (s := nm) (from' := F / 62) (Q2.ay.kept tdr) hz (by omega) (by omega) hB2 (fun b' off' _ e => by cases e; exact .inr hg2) (by omega) (by omega)
        rw [← hr.out, show ((F / 62 : Nat) : Int) = (F : Int) / 62 from by omega] at CP
        have hwr : Hid (IntKind.i64.wrap ((F : Int) / 62) = (F : Int) / 62) := hide (by rw [IntKind.wrap_i64]; omega)
        have CPq : ∀ q : Int, q = (F : Int) / 62 → Calls Tryz.prog 36 #[.pointer (some ⟨R, 0, none⟩), .string nm, .slice (some ⟨g', 0, none⟩) (F + (4 + n)) c', .int .i64 q] W2.drew _ := fun q hq => by rw [hq]; exact CP
        clear CP
        have FIN : Hid (∀ X, Ay w _ R r.2 X → No _ W2.drew X → Qx w P _ R r.2 X ∧ No P W X ∧ Sg X R S nm (.slice sa F sc) (.slice ea bs.length ec) bs false ∧ X.ownsRow 0 5 1 (.slice (some ⟨g', 0, none⟩) (F + (4 + n)) c') (F + (4 + n)) (U (flat bs ++ fr b))) := hide (fun X a1 a2 => by
          obtain ⟨q3, n3⟩ := Q2.disk a1 ((No.of tdr).trans a2)
          refine ⟨q3, (N1.trans N2).trans n3, S2.tb ((No.of tdr).trans a2) (fun hn => hn (.inr (.inl (.inl h5)))) (fun k hk hn => hn (.inr (.inl (.inl (h6 k (by rw [← hF.out]; exact hk)))))) (fun k hk hn => hn (.inr (.inl (.inl (h7 k hk))))), ((No.of tdr).trans a2).row ho2 (fun k hk => ?_)⟩
          simp only [Value.ownBlock, Option.some.injEq] at hk
          rw [← hk]
          exact .inr hg2)
        have k1 : W2.cell? ⟨S, 1, none⟩ = some (.pointer (some ⟨R, 0, none⟩)) := S2.c 1
        have k2 : W2.cell? ⟨S, 2, none⟩ = some (.string nm) := S2.c 2
        have k3 : W2.cell? ⟨S, 3, none⟩ = some (.slice sa F sc) := S2.c 3
        have HG2 := hide hg2
        clear c3 hr1 t1 S1 Q1 N1 ho2 S2 t2 hw2 Q2 N2 hB2 hg2
        go_wp2_with (first | (go_at_call 35; refine (C51 _).mono ?_; rintro e w2 ⟨rfl, hw2⟩; subst w2) | (at_builtin; refine wpList_append_run rfl 30 (.tmp 37) (.tmp 38) rfl _ _ _ rfl rfl hrun ?_))
        go_region_held3 (fun V => V.cell? ⟨S, 1, none⟩ = some (.pointer (some ⟨R, 0, none⟩)) ∧ V.cell? ⟨S, 2, none⟩ = some (.string nm) ∧ V.cell? ⟨S, 3, none⟩ = some (.slice sa F sc))
          (first | exact ⟨k1, k2, k3⟩ | exact ⟨s3.c 1, s3.c 2, s3.c 3⟩)
          (first | (go_at_call 36; refine (CPq _ ?_).mono ?_; exact hwr.out; rintro e X ⟨rfl, a1, a2⟩; obtain ⟨q3, n3, s3, o3⟩ := FIN.out X a1 a2))
        have HQ3 := hide q3
        have HN3 := hide n3
        have HS3 := hide s3
        have HO3 := hide o3
        clear a1 a2 CPq FIN k1 k2 k3 c31 hq hrun
        by_cases h0 : r.1 = 0
        · rw [h0]
          have hst : Hid (flat bs ++ fr b = flat (bs ++ [b])) := hide hsf.out.symm
          obtain ⟨tmp, htmp⟩ : ∃ tmp : Obj, tmp = .cells #[.int .i64 ((F : Int) + (4 + (n : Int)))] 3 := ⟨_, rfl⟩
          have hrt : (X.alloc tmp).ownsRow 0 3 1 (.slice (some ⟨X.heap.size, 0, none⟩) 1 1) 1 [.int .i64 ((F : Int) + (4 + (n : Int)))] := by
            rw [htmp]
            exact ⟨rfl, .inr ⟨X.heap.size, 1, #[.int .i64 ((F : Int) + (4 + (n : Int)))], rfl, Nat.zero_le _, heap_alloc_new X _, Nat.le_refl _, by unfold maxLen; omega, rfl, rfl⟩⟩
          obtain ⟨u, X4, hrun4, ho4, hg4, hu4⟩ := run_append_rows (P := Tryz.prog) (w := X.alloc tmp) 0 43 43 3 i3 (.int .i64 0) 1 8 Tryz.underlying43 hi3 hy0 hy1 hy2 rfl (by omega) (.slice ea bs.length ec) bs.length (Nn (eds bs)) (HS3.out.ends.alloc tmp) _ 1 _ 0 hrt (by simp [Value.oneCell']) (by unfold maxLen; omega) (by omega) (Nat.zero_le _)
          obtain ⟨ua, uc, rfl⟩ := row_val ho4
          have hlen4 : Hid ((flat (bs ++ [b])).length = F + (4 + n)) := hide (by rw [hsf.out]; exact hfl.out)
          have G := seg_grown (b := b) (sv' := .slice (some ⟨g', 0, none⟩) (F + (4 + n)) c') HQ3.out HS3.out (.inl (.inl h5)) (fun k hk => .inl (.inl (h7 k hk))) (fun k hk => by simp only [Value.ownBlock, Option.some.injEq] at hk; rw [← hk]; exact HG2.out)
            (by rw [hlen4.out, hsf.out]; exact HO3.out) (by rw [hlen4.out]; simpa using ho4) hg4 hu4 hB.byte (by omega) (by rw [hlen4.out]; omega)
          obtain ⟨⟨m1, m2, m3, m4, m5⟩, hfin, nfin⟩ := G
          have cc4 : X.cell? ⟨S, 4, none⟩ = some (.slice ea bs.length ec) := HS3.out.c 4
          have HF := hide hfin
          have HN := hide nfin
          have HT := hide htmp
          clear hfin nfin htmp hrt ho4 hg4 hu4
          go_wp2_with (first | (rw [← HT.out]) | (at_builtin; refine wpList_append_run rfl 43 (.tmp 68) (.tmp 71) rfl _ _ _ rfl rfl hrun4 ?_))
          go_ret2
          rw [hsd.out, if_neg (by simp [h0])]
          exact ⟨rfl, HF.out, HN3.out.trans HN.out⟩
        · have e0 : (r.1 == 0) = false := by simpa using h0
          have c5 : X.cell? ⟨S, 5, none⟩ = some (.bool false) := HS3.out.c 5
          have f5 := HS3.out.free 5
          go_wp2_with fail
          go_ret2
          rw [hsd.out, if_pos h0]
          have hst : Tb (fun k => k = S) X (X.setCell ⟨S, 5, none⟩ (.bool true)) := Tb.set (S := fun k => k = S) S 5 _ rfl
          obtain ⟨q4, n4⟩ := HQ3.out.own (hst.mono (fun k _ e => by rw [e]; exact .inl (.inl h5)))
          exact ⟨rfl, q4.sgx (HS3.out.brk true) (.inl (.inl (.inl h5))) (fun k hk => .inl (.inl (.inl (h6 k (by rw [← hF.out]; exact hk))))) (fun k hk => .inl (.inl (.inl (h7 k hk)))), HN3.out.trans n4⟩

end Go.Proofs.YtkdolabhcbjipaaGreat

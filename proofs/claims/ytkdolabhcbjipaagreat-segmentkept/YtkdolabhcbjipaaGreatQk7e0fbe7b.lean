/-
  The chapter's examples, as disks.
-/
import Derived.Test.YtkdolabhcbjipaaGreatMx298a5823
import Derived.Test.YtkdolabhcbjipaaGreatQkff30b729
import Derived.Lib.SlBytesConst
import Derived.Test.YtkdolabhcbjipaaGreatSam
namespace Go.Proofs.YtkdolabhcbjipaaGreat
open Go.RowKit
set_option maxRecDepth 100000
set_option linter.unusedVariables false

theorem sapp_bw {d : Dsk} {K : Nat} (h : Bw d K) {s : ByteArray} {bs : List (List Int)} {br : Bool} {b : List Int} (hb : ∀ x ∈ bs, ∀ z ∈ x, 0 ≤ z ∧ z ≤ 255) (hb2 : ∀ z ∈ b, 0 ≤ z ∧ z ≤ 255) (hK : K + 13000 < 800000) : Bw (d.sapp s bs br b).d (K + 3 * (nsec (flat bs ++ fr b).length - (flat bs).length / 62)) := by
  unfold Dsk.sapp
  split
  · exact h.wide (by omega)
  · split
    · exact h.wide (by omega)
    · split
      · exact h.wide (by omega)
      · rename_i hn
        have h2 := sput_bw (s := s) (zs := flat bs ++ fr b) (fun z hz => (List.mem_append.1 hz).elim (flat_byte hb z) (fr_byte hb2 z)) h ((flat bs).length / 62) (by omega)
        split
        · exact h2
        · exact h2

theorem ssync_bw {d : Dsk} {K : Nat} (h : Bw d K) (s : ByteArray) (br : Bool) : Bw (d.ssync s br).2.1 K := by
  unfold Dsk.ssync
  split
  · exact h
  · split
    · exact h.sync s
    · exact h.sync s

def sS : ByteArray := ⟨#[115]⟩
def aw1 : Dsk := (newDsk.sapp sS [] false [97]).d
def aw2 : Dsk := (aw1.ssync sS false).2.1
def m60 : List Int := mk 1 60
def aw3 : Dsk := (aw2.sapp sS [[97]] false m60).d
def aw4 : Dsk := aw3.crash [false, true]
def aw5 : Dsk := (aw4.opn sS).2

theorem aw_o : (newDsk.opn sS).1 = 0 ∧ newDsk.frames sS = [] := ⟨by kernel_rfl, by kernel_rfl⟩
theorem aw_o2 : (newDsk.opn sS).2 = newDsk := by
  unfold Dsk.opn
  rw [if_neg (by decide), if_pos (by decide)]
theorem aw_a : (newDsk.sapp sS [] false [97]).at' = 0 ∧ (newDsk.sapp sS [] false [97]).err = 0 ∧ (newDsk.sapp sS [] false [97]).bs = [[97]] ∧ (newDsk.sapp sS [] false [97]).br = false := ⟨by kernel_rfl, by kernel_rfl, by kernel_rfl, by kernel_rfl⟩
theorem aw_s : (aw1.ssync sS false).1 = 0 ∧ (aw1.ssync sS false).2.2 = false := ⟨by kernel_rfl, by kernel_rfl⟩
theorem aw_b : (aw2.sapp sS [[97]] false m60).at' = 1 ∧ (aw2.sapp sS [[97]] false m60).err = 0 ∧ (aw2.sapp sS [[97]] false m60).bs = [[97], m60] ∧ (aw2.sapp sS [[97]] false m60).br = false := ⟨by kernel_rfl, by kernel_rfl, by kernel_rfl, by kernel_rfl⟩
theorem aw_r : (aw3.held sS).length = 2 ∧ aw3.read sS = 0 ∧ (aw3.held sS).flatten.getD 0 0 = 62 ∧ (aw3.held sS).flatten.getD 64 0 = 7 := ⟨by kernel_rfl, by kernel_rfl, by kernel_rfl, by kernel_rfl⟩
theorem aw_p : (aw4.opn sS).1 = 0 ∧ aw4.frames sS = [[97]] := ⟨by kernel_rfl, by kernel_rfl⟩
theorem aw_q : (aw5.held sS).length = 1 ∧ aw5.read sS = 0 ∧ (aw5.held sS).flatten.take 7 = [5, 0, 0, 0, 0, 1, 97] := ⟨by kernel_rfl, by kernel_rfl, by kernel_rfl⟩
theorem aw_l : (flat [[97], m60]).length = 69 := by kernel_rfl

theorem aw_bw1 : Bw aw1 100 := (sapp_bw (bs := []) bw_new (by simp) (by decide) (by omega)).wide (by decide)
theorem aw_bw2 : Bw aw2 100 := ssync_bw aw_bw1 sS false
theorem aw_bw3 : Bw aw3 200 := (sapp_bw aw_bw2 (by decide) (mk_byte 1 60) (by omega)).wide (by
  have h1 : (flat [[97]] ++ fr (mk 1 60)).length = 69 := by kernel_rfl
  rw [h1]
  decide)
theorem aw_bw4 : Bw aw4 200 := aw_bw3.crash _
theorem aw_bw5 : Bw aw5 300 := (opn_bw aw_bw4 (by omega) sS).wide (by omega)

/-- A text written out as bytes, as a slice. -/
theorem row_mark (w : World) (g : Nat) (hg : w.heap.size = g) (l : List Int) (n : Nat) (fz : Nat × Nat) (hn : l.length = n) (h2 : n ≤ 1000) (hb : ∀ z ∈ l, 0 ≤ z ∧ z ≤ 255) : Bs (w.alloc (.cells (U l).toArray 5 fz)) (some ⟨g, 0, none⟩) n n l := by
  subst hg
  refine ⟨hn, Nat.le_refl _, by omega, hb, fun h => (by cases h), fun _ => ⟨w.heap.size, 0, rfl, fun i hi => ?_⟩⟩
  rw [cell_of_row _ w.heap.size (0 + i) (U l).toArray 5 fz (heap_alloc_new w _)]
  have h2 : i < l.length := by omega
  simp [U, List.getD, List.getElem?_eq_getElem h2]

theorem fresh_tb (w : World) (o : Obj) : Tb (fun _ => False) w (w.alloc o) := (Tb.refl _ w).alloc o

set_option maxHeartbeats 4000000 in
theorem sawake_any (w : World) : Calls Tryz.prog 19 #[] w fun e w' => e = .returned (.bool true) ∧ Below w.heap.size w w' := by
  have kc := fun (w : World) (C : Array Value) (n c : Nat) => Lib.run_convert_bytes_const (P := Tryz.prog) w 30 5 C n c Tryz.underlying30 Tryz.underlying5
  obtain ⟨s, hs⟩ : ∃ s, Hid (s = sS) := ⟨_, hide rfl⟩
  have hss : s.size ≤ 1000000 := by rw [hs.out]; decide
  go_enter Tryz.func19, Tryz.ntmps19
  go_wp2_with fail
  refine (ay_new (w := w)).mono ?_
  rintro e W1 ⟨R, rfl, hR, hA1⟩
  go_wp2_with fail
  rw [show ({ data := #[115] } : ByteArray) = s from hs.out.symm]
  refine (open_on (s := s) hA1 bw_new (by omega) hss).mono ?_
  rintro e W2 ⟨pv, rfl, _, _, hO, _⟩
  rw [hs.out] at hO
  obtain ⟨S, rfl, _, hX2⟩ := hO aw_o.1
  rw [hs.out, aw_o.1]
  rw [aw_o2, aw_o.2] at hX2
  clear hA1
  go_wp2_with fail
  refine (append_on (hX2.kept (fresh_tb W2 _)) bw_new (by omega) (by decide) (row_mark W2 _ rfl [97] 1 (1, 2) rfl (by decide) (by decide))).mono ?_
  rintro e W3 ⟨rfl, hX3, _⟩
  have hX3 : Sgx w (fun g => g < w.heap.size) R S aw1 sS [[97]] false W3 := by have := hX3; rw [aw_a.2.2.1, aw_a.2.2.2] at this; exact this
  rw [aw_a.1, aw_a.2.1]
  clear hX2
  go_wp2_with fail
  refine (ssync_on hX3 aw_bw1 (by omega) (by decide)).mono ?_
  rintro e W4 ⟨rfl, hX4, _⟩
  have hX4 : Sgx w (fun g => g < w.heap.size) R S aw2 sS [[97]] false W4 := by have := hX4; rw [aw_s.2] at this; exact this
  rw [aw_s.1]
  clear hX3
  go_wp2_with fail
  refine (made_any 1 60 (by omega) (by omega) W4).mono ?_
  rintro e W5 ⟨rfl, hr5, t5⟩
  have hB5 := own_bs hr5 (mk_byte 1 60)
  have hX5 := hX4.kept (Tb.of_fresh t5)
  clear hX4 hr5 t5
  go_wp2_with fail
  refine (append_on hX5 aw_bw2 (by omega) (by decide) hB5).mono ?_
  rintro e W6 ⟨rfl, hX6, _⟩
  have hX6 : Sgx w (fun g => g < w.heap.size) R S aw3 sS [[97], m60] false W6 := by have := hX6; rw [show mk 1 60 = m60 from rfl, aw_b.2.2.1, aw_b.2.2.2] at this; exact this
  rw [show mk 1 60 = m60 from rfl, aw_b.1, aw_b.2.1]
  clear hX5 hB5
  go_wp2_with fail
  refine (ay_read (s := sS) hX6.ay aw_bw3 (by omega) (by decide)).mono ?_
  rintro e W7 ⟨a2, c2, rfl, hr7, t7⟩
  rw [aw_r.1] at hr7
  rw [aw_r.1, aw_r.2.1]
  have hX7 := hX6.new t7
  have hp7 : ∀ g, (Value.slice a2 (64 * 2) c2).ownBlock = some g → g < w.heap.size ∨ (W6.heap.size ≤ g ∧ g < W7.heap.size) := fun g hg => .inr (hr7.lt g hg)
  clear hX6
  go_wp2_with fail
  obtain ⟨X8, hX8e⟩ : ∃ X8, X8 = W7.alloc (.cells #[.bool false, .bool true] 4) := ⟨_, rfl⟩
  have t8 : Tb (fun _ => False) W7 X8 := by rw [hX8e]; exact fresh_tb W7 _
  have hkp : Kp X8 (some ⟨W7.heap.size, 0, none⟩) [false, true] := fun i b hb => by
    refine ⟨W7.heap.size, 0, rfl, ?_⟩
    rw [hX8e, cell_of_row _ W7.heap.size (0 + i) _ 4 (0, 0) (heap_alloc_new W7 _), Nat.zero_add]
    match i, hb with
    | 0, hb => simp at hb; rw [← hb]; rfl
    | 1, hb => simp at hb; rw [← hb]; rfl
  have s8 : W7.heap.size < X8.heap.size := by rw [hX8e]; simp
  rw [← hX8e]
  clear hX8e
  have hX8 := hX7.new t8
  obtain ⟨Q, sv, ev, q1, q2, q3, q4, q5, q6, q7⟩ := hX8
  obtain ⟨PQ, hPQ⟩ : ∃ PQ : Nat → Prop, PQ = fun g => ((g < w.heap.size ∨ (W6.heap.size ≤ g ∧ g < W7.heap.size)) ∨ (W7.heap.size ≤ g ∧ g < X8.heap.size)) ∨ Q g := ⟨_, rfl⟩
  rw [← hPQ] at q1
  have pS : PQ S := by rw [hPQ]; exact .inr q5
  have psv : ∀ g, sv.ownBlock = some g → PQ g := fun g hg => by rw [hPQ]; exact .inr (q6 g hg)
  have pev : ∀ g, ev.ownBlock = some g → PQ g := fun g hg => by rw [hPQ]; exact .inr (q7 g hg)
  have ptw : ∀ g, (Value.slice a2 (64 * 2) c2).ownBlock = some g → PQ g := fun g hg => by rw [hPQ]; exact .inl (.inl (hp7 g hg))
  have pk : PQ W7.heap.size := by rw [hPQ]; exact .inl (.inr ⟨Nat.le_refl _, s8⟩)
  clear hPQ hp7 q2 q3 q5 q6 q7 hX7
  have hr8 := row_tb hr7 t8 (fun _ _ h => h)
  refine (ay_crash q1 aw_bw3 (by omega) (ks := [false, true]) (m := 2) (cap := 2) rfl ⟨Nat.le_refl _, by decide⟩ hkp (fun a _ ha => by cases ha; exact pk)).mono ?_
  rintro e W8 ⟨rfl, hA8, n8⟩
  have hA8 : Ay w PQ R aw4 W8 := hA8
  have hr8 := n8.row hr8 ptw
  have hg8 := q4.tb n8 (fun hn => hn pS) (fun g hg hn => hn (psv g hg)) (fun g hg hn => hn (pev g hg))
  clear q1 q4 hkp hr7 t7 t8 n8
  go_wp2_with fail
  rw [show ({ data := #[115] } : ByteArray) = s from hs.out.symm]
  refine (open_on (s := s) hA8 aw_bw4 (by omega) hss).mono ?_
  rintro e W9 ⟨pv, rfl, n9, _, hO, _⟩
  rw [hs.out] at hO
  obtain ⟨T, rfl, _, hX9⟩ := hO aw_p.1
  rw [hs.out, aw_p.1]
  rw [aw_p.2] at hX9
  have hX9 : Sgx w PQ R T aw5 sS [[97]] false W9 := hX9
  have hr9 := n9.row hr8 ptw
  have hg9 := hg8.tb n9 (fun hn => hn pS) (fun g hg hn => hn (psv g hg)) (fun g hg hn => hn (pev g hg))
  clear hA8 hr8 hg8 n9
  go_wp2_with fail
  refine (ay_read (s := sS) hX9.ay aw_bw5 (by omega) (by decide)).mono ?_
  rintro e W10 ⟨a3, c3, rfl, hr10, t10⟩
  rw [aw_q.1] at hr10
  rw [aw_q.1, aw_q.2.1]
  have hX10 := hX9.kept t10
  have hr9 := row_tb hr9 t10 (fun _ _ h => h)
  have hg9 := hg9.tb t10 (fun h => h) (fun _ _ h => h) (fun _ _ h => h)
  clear hX9
  obtain ⟨Q', tv, te, q1, q2, q3, q4, q5, q6, q7⟩ := hX10
  have hbel := q1.below
  have hred := sread_yes (i := 0) q4 (by decide)
  clear q1 q2 q3 q5 q6 q7 t10
  go_wp2_with fail
  refine hred.mono ?_
  rintro e W11 ⟨g, c, rfl, hr11, t11⟩
  have t11' : Tb (fun _ => False) W10 W11 := Tb.of_fresh t11
  have hb3 := (held_bw aw_bw3 sS).2
  have hb5 := (held_bw aw_bw5 sS).2
  have hB2 : Bs W11 a2 (64 * 2) c2 (aw3.held sS).flatten := own_bs (row_tb hr9 t11' (fun _ _ h => h)) (fun z hz => by obtain ⟨r, hr, hz⟩ := List.mem_flatten.1 hz; exact (hb3 r hr).2 z hz)
  have hr10' := row_tb hr10 t11' (fun _ _ h => h)
  have hby5 : ∀ z ∈ (aw5.held sS).flatten, 0 ≤ z ∧ z ≤ 255 := fun z hz => by obtain ⟨r, hr, hz⟩ := List.mem_flatten.1 hz; exact (hb5 r hr).2 z hz
  have hS11 := hg9.tb t11' (fun h => h) (fun _ _ h => h) (fun _ _ h => h)
  have hT11 := q4.tb t11' (fun h => h) (fun _ _ h => h) (fun _ _ h => h)
  have hSz := ssize_any hS11
  rw [aw_l] at hSz
  have hCt := scount_any hT11
  obtain ⟨b2, off2, rfl, hl2⟩ := hB2.lies (by omega)
  have k0 := hl2 0 (by omega)
  have k64 := hl2 64 (by omega)
  rw [aw_r.2.2.1, Nat.add_zero] at k0
  rw [aw_r.2.2.2] at k64
  have hc2 := hB2.le
  have hc2r := hB2.reach
  obtain ⟨g3, c3', e3⟩ := own_shape hr10' (by omega)
  simp only [Value.slice.injEq] at e3
  obtain ⟨rfl, _, rfl⟩ := e3
  have hcp := own_caps hr10'
  have hc31 := hcp.1
  have hc32 := hcp.2
  have h7 : Bs W11 (some ⟨g3, 0, none⟩) 7 c3 [5, 0, 0, 0, 0, 1, 97] := by
    have := own_take hr10' (k := 7) (by omega)
    have e : (U (aw5.held sS).flatten).take 7 = U [5, 0, 0, 0, 0, 1, 97] := by rw [← aw_q.2.2]; simp [U]
    rw [e] at this
    exact own_bs this (by decide)
  have hBx : Bs W11 (some ⟨g, 0, none⟩) 1 c [97] := own_bs hr11 (by decide)
  have hstr : (strOfNums [97]).toList = [97] := by rw [ByteArray.toList_eq, strOfNums_data]; rfl
  have HBL := hide (hbel.trans (t11.mono hbel.size))
  have kx := fun (V : World) (hV : Bs V (some ⟨g, 0, none⟩) 1 c [97]) => run_str (P := Tryz.prog) 30 5 Tryz.underlying30 Tryz.underlying5 hV 9 Tryz.underlying9
  have kx1 := kx _ (hBx.alloc (.cells (U [5, 0, 0, 0, 0, 1, 97]).toArray 5))
  have CS := same_true rfl (h7.alloc (.cells (U [5, 0, 0, 0, 0, 1, 97]).toArray 5)) (row_lit W11 _ rfl [5, 0, 0, 0, 0, 1, 97] 7 rfl (by decide) (by decide))
  clear hB2 hr10' hr10 hr9 hS11 hT11 hl2 hr11 t11 t11' q4 hg9 hred hb3 hb5 hby5 hbel h7 hcp kx hBx
  go_wp2_with (first
    | (go_at_call 13; refine hSz.mono ?_; rintro e w1 ⟨rfl, hw1⟩; subst w1)
    | (go_at_call 12; refine hCt.mono ?_; rintro e w1 ⟨rfl, hw1⟩; subst w1)
    | (go_at_call 48; refine CS.mono ?_; rintro e w1 ⟨rfl, hw1⟩; subst w1))
  go_ret
  exact ⟨rfl, HBL.out.alloc HBL.out.size _⟩

end Go.Proofs.YtkdolabhcbjipaaGreat

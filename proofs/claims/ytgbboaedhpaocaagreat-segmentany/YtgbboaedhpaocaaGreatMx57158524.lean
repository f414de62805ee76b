/-
  Texts put into one.
-/
import Derived.Test.YtgbboaedhpaocaaGreatMx043b8088
import Derived.Test.YtgbboaedhpaocaaGreatMxc15f249b
import Derived.Lib.AppendZerosOnto
import Derived.Test.YtgbboaedhpaocaaGreatMx67952a53

/-
  append(b, make([]byte, k)...), for a row of one's own; a slice of slices of bytes among the arguments, opened.
-/
namespace Go.Proofs.YtgbboaedhpaocaaGreat
open Go.RowKit
set_option maxRecDepth 100000
set_option maxRecDepth 100000
set_option linter.unusedVariables false

theorem zeros_list (k : Nat) : (Builtin.zeroCells (Value.int .u8 0).cells k).toList = U (List.replicate k 0) := by
  simp [Builtin.zeroCells, Value.cells, U, Nat.mod_one, List.map_const']

theorem run_append_zeros (w : World) (base : Nat) (v : Value) (n : Nat) (xs : List Value) (hown : w.ownsRow base 5 1 v n xs) (k : Nat) (h0 : 0 < k) (hn : n + k ≤ 140737488355328) (hbase : base ≤ w.heap.size) (ty : TypeId) :
    ∃ v' w', (Builtin.append_ #[30, 3] ty #[v, .int .i64 k]).run Tryz.prog w = .ok v' w' ∧ w'.ownsRow base 5 1 v' (n + k) (xs ++ U (List.replicate k 0)) ∧ w.grownBy w' v.ownBlock := by
  obtain ⟨i, hi, hz, hs, hby⟩ := info_parts info5
  have hxl : xs.length = n := by have := hown.1; omega
  have hzl : (U (List.replicate k 0)).length = k := by simp [U]
  have hlen : (xs ++ U (List.replicate k 0)).length = (n + k) * 1 := by rw [List.length_append, hxl, hzl]; omega
  have grown : ∀ (old : Nat) (row : Option Nat),
      (w.drew.alloc (.cells (xs.toArray ++ Builtin.zeroCells (Value.int .u8 0).cells k ++ Builtin.zeroCells (Value.int .u8 0).cells (grownCap w (n + k) old 5 - (n + k))) 5)).ownsRow base 5 1
        (.slice (some ⟨w.heap.size, 0, none⟩) (n + k) (grownCap w (n + k) old 5)) (n + k) (xs ++ U (List.replicate k 0)) ∧
      w.grownBy (w.drew.alloc (.cells (xs.toArray ++ Builtin.zeroCells (Value.int .u8 0).cells k ++ Builtin.zeroCells (Value.int .u8 0).cells (grownCap w (n + k) old 5 - (n + k))) 5)) row := by
    intro old row
    have hge := grownCap_ge w (n + k) old 5
    have hcm : grownCap w (n + k) old 5 ≤ maxLen := grownCap_le_maxLen w (n + k) old 5 (by unfold maxLen; omega)
    refine ⟨⟨hlen, .inr ⟨w.heap.size, _, _, rfl, hbase, heap_alloc_new w.drew _, hge, hcm, ?_, ?_⟩⟩, ⟨rfl, rfl, rfl, by simp, fun j hj _ => heap_alloc_old w.drew _ hj⟩⟩
    · simp only [Array.size_append, List.size_toArray, size_zeroCells, hxl]
      simp only [Value.cells, List.size_toArray, List.length_cons, List.length_nil]
      omega
    · rw [Array.toList_append, Array.toList_append, zeros_list, ← hlen]
      exact List.take_left
  rcases hown.2 with ⟨rfl, rfl⟩ | ⟨g, cap, cur, rfl, hbg, hg, hnc, hcm, hcs, htake⟩
  · have hx : xs = [] := List.eq_nil_of_length_eq_zero hxl
    subst hx
    have hr := Lib.run_append_nil_zeros (P := Tryz.prog) w 30 3 ty 5 i (.int .u8 0) .i64 .i64 Tryz.underlying30 Tryz.underlying3 hi hz k h0 (by omega) (by omega) (by rw [hby]; omega)
    have hgr := grown 0 (Value.ownBlock (.slice none 0 0))
    simp only [Nat.zero_add, List.nil_append, Array.empty_append] at hgr ⊢
    exact ⟨_, _, hr, hgr.1, hgr.2⟩
  · by_cases hroom : n + k ≤ cap
    · have hfit : n + (U (List.replicate k 0)).length ≤ cur.size := by rw [hzl, hcs]; omega
      have hst := run_storeCells_at Tryz.prog g n 5 (U (List.replicate k 0)) 0 cur w hg (by simpa using hfit) (fun u hu => by
        obtain ⟨z, _, rfl⟩ := List.mem_map.1 hu
        rfl)
      simp only [Nat.add_zero] at hst
      have hw : IntKind.i64.wrap (k : Int) = k := by rw [IntKind.wrap_i64]; omega
      have h48i : ¬ (281474976710656 < (k : Int) * (i.bytes : Int)) := by rw [hby]; omega
      have hneg : ¬ ((k : Int) < 0) := by omega
      have hk : k ≠ 0 := by omega
      have hr : (Builtin.append_ #[30, 3] ty #[.slice (some ⟨g, 0, none⟩) n cap, .int .i64 k]).run Tryz.prog w = .ok (.slice (some ⟨g, 0, none⟩) (n + k) cap) (w.setRow g (cur.toList.take n ++ U (List.replicate k 0) ++ cur.toList.drop (n + (U (List.replicate k 0)).length)).toArray) := by
        simp [Builtin.append_, run_underlying Tryz.underlying30, run_underlying Tryz.underlying3, sizeOf, typeInfo, zeroValue, hi, hz, hs, asInt, asIntOf, hw, hneg, hk, h48i, hroom, zeros_list, Addr.add_lit, hst]
      refine ⟨_, _, hr, ⟨hlen, .inr ⟨g, cap, _, rfl, hbg, setRow_heap w g cur _ 5 _ hg, hroom, hcm, ?_, ?_⟩⟩, ⟨rfl, rfl, rfl, by simp, fun k _ hk => setRow_other w g k _ (fun e => hk (by simp [Value.ownBlock, e]))⟩⟩
      · simp only [List.size_toArray, List.length_append, List.length_take, List.length_drop, Array.length_toList]
        omega
      · rw [Nat.mul_one] at htake
        rw [htake, ← hlen]
        exact List.take_left
    · have holds : ∀ j u, xs[j]? = some u → w.cell? ((⟨g, 0, none⟩ : Addr).add j) = some u := hown.cells (g := g) rfl
      have hfo := run_firstCells_some (P := Tryz.prog) w.drew i.size n ⟨g, 0, none⟩ n cap xs (by rw [hs]; omega) (by simpa using holds)
      have hr := Lib.run_append_grow_zeros (P := Tryz.prog) w 30 3 ty 5 i (.int .u8 0) .i64 .i64 Tryz.underlying30 Tryz.underlying3 hi hz (some ⟨g, 0, none⟩) n cap xs hfo k h0 (by omega) (by omega) (by omega) (by rw [hby]; omega) (growslice_fits (by omega) (by rw [hby]; omega))
      have hgr := grown cap (Value.ownBlock (.slice (some ⟨g, 0, none⟩) n cap))
      exact ⟨_, _, hr, hgr.1, hgr.2⟩

end Go.Proofs.YtgbboaedhpaocaaGreat

/-
  SegmentAny: the disk's tale, and lists of rows beside calls.
-/
namespace Go.Proofs.YtgbboaedhpaocaaGreat
open Go.RowKit
set_option maxRecDepth 100000
set_option maxRecDepth 100000
set_option linter.unusedVariables false

theorem Fy.ssync {s : ByteArray} {d : Dsk} {rs : List (List Int)} (h : Fy s d rs) : d.ssync s false = (0, (d.sync s).2, false) := by
  have e := h.sync.1
  unfold Dsk.ssync
  rw [if_neg (by simp), if_neg (by omega), e]
  rfl

theorem any_pure {s : ByteArray} {d : Dsk} {rs : List (List Int)} (h : Fq s d rs) (hs : 1 ≤ s.size ∧ s.size ≤ 64) (hb : Bw d 70) (hl : rs.length ≤ 20) : ∃ d1 d2 bs, d.opn s = (0, d1) ∧ d.frames s = bs ∧ Bw d1 74 ∧ d1.opn s = (0, d2) ∧ d1.frames s = bs ∧ Bw d2 78 ∧ (flat bs).length ≤ 1240 ∧ (∀ x ∈ bs, ∀ z ∈ x, 0 ≤ z ∧ z ≤ 255) ∧
    ∀ b : List Int, b.length ≤ 65536 → (∀ z ∈ b, 0 ≤ z ∧ z ≤ 255) → ∃ d3 d4 d5, d2.sapp s bs false b = ⟨bs.length, 0, d3, bs ++ [b], false⟩ ∧ Bw d3 4000 ∧ d3.ssync s false = (0, d4, false) ∧ Bw d4 4000 ∧ Bw (d4.crash []) 4000 ∧ (d4.crash []).opn s = (0, d5) ∧ (d4.crash []).frames s = bs ++ [b] := by
  obtain ⟨bs, hbs⟩ : ∃ bs, bs = d.frames s := ⟨_, rfl⟩
  obtain ⟨f1, f2, f3⟩ := frames_ok hb s
  obtain ⟨e1, e2, r1, q1, q2⟩ := h.opn hs hb
  have hb1 := opn_bw hb (by omega) s
  obtain ⟨g1, g2, r2, q3, q4⟩ := q1.opn hs hb1
  have hb2 := opn_bw hb1 (by omega) s
  rw [← hbs] at q2 f1 f2 e2
  have hfr : (d.opn s).2.frames s = bs := by
    rw [g2, strm_hd q2]
    have := frs_of_flat f2 []
    simpa [frs_nil] using this
  rw [hfr] at q4
  have hby := strm_byte (fun r hr => ((held_bw hb s).2 r hr).2)
  rw [h.held.1] at hby
  have hfl : (flat bs).length ≤ 1240 := by
    have h1 := frs_le hby
    have h2 := strm_le rs
    rw [e2]
    omega
  refine ⟨(d.opn s).2, ((d.opn s).2.opn s).2, bs, by rw [← e1], hbs.symm, hb1, by rw [← g1], hfr, hb2, hfl, f1, fun b hbl hbb => ?_⟩
  have hm : (flat bs ++ fr b).length ≤ 66780 := by rw [List.length_append, fr_length]; omega
  obtain ⟨d3, r3, s1, s2, s3⟩ := q3.sapp (b := b) hs q4 hbl (by unfold nsec; omega)
  have hb3 : Bw d3 4000 := by
    have := sapp_bw (s := s) (bs := bs) (br := false) (b := b) hb2 f1 hbb (by omega)
    rw [s1] at this
    exact this.wide (by unfold nsec; omega)
  obtain ⟨y1, y2, y3⟩ := s2.sync
  have hb4 : Bw (d3.sync s).2 4000 := hb3.sync s
  have hb5 := hb4.crash []
  obtain ⟨o1, o2, _⟩ := (show Fq s ((d3.sync s).2.crash []) r3 from .inl y3).opn hs hb5
  refine ⟨d3, (d3.sync s).2, (((d3.sync s).2.crash []).opn s).2, s1, hb3, s2.ssync, hb4, hb5, by rw [← o1], ?_⟩
  rw [o2, strm_hd s3]
  have hsh : ∀ x ∈ bs ++ [b], x.length ≤ 65536 := fun x hx => by
    rcases List.mem_append.1 hx with hx | hx
    · exact f2 x hx
    · rw [List.mem_singleton.1 hx]; exact hbl
  have := frs_of_flat hsh []
  simpa [frs_nil] using this

theorem LL.tb {T : Nat → Prop} {W V : World} {base : Nat} {v : Value} {rs : List (Value × List Int)} (h : LL W base v rs) (hb : Tb T W V) (h1 : ∀ g, base ≤ g → g < W.heap.size → ¬ T g) : LL V base v rs :=
  ⟨row_tb h.own hb (fun g hg => h1 g (h.own.lt g hg).1 (h.own.lt g hg).2), fun r hr => row_tb (h.row r hr) hb (fun g hg => h1 g ((h.row r hr).lt g hg).1 ((h.row r hr).lt g hg).2), h.byte, h.apart⟩

theorem rl_more {W W' : World} {base : Nat} {v v' : Value} {rs : List (Value × List Int)} {c : Option Addr} {m dap : Nat} {b : List Int} (h : LL W base v rs) (hB : Bs W' c m dap b) (hown : W'.ownsRow base 30 1 v' (rs.length + 1) (rs.map (·.1) ++ [.slice c m dap])) (hg : W.grownBy W' v.ownBlock) :
    ∃ a cap, v' = .slice a (rs.length + 1) cap ∧ Rl W' a (rs.length + 1) cap (rs.map (·.2) ++ [b]) := by
  have hr : ∀ r ∈ rs, W'.ownsRow base 5 1 r.1 r.2.length (U r.2) := fun r hr => own_bar (h.row r hr) (Bar.of_grown hg) (fun b hb => own_types (h.row r hr) h.own (by decide) hb)
  rcases hown.2 with ⟨h1, h0⟩ | ⟨g, cap', cur, h1, _, hh, hc, hm, hs, ht⟩
  · omega
  · refine ⟨_, cap', h1, by simp, hc, by unfold maxLen at hm; omega, fun hn => ⟨g, 0, rfl, fun i hi => ?_⟩⟩
    have hadd : (⟨g, 0, none⟩ : Addr).add i = ⟨g, 0 + i, none⟩ := by unfold Addr.add; split <;> simp_all
    by_cases hi2 : i < rs.length
    · obtain ⟨c, d, hv⟩ := own_val (hr rs[i] (List.getElem_mem _))
      refine ⟨c, rs[i].2.length, d, ?_, ?_⟩
      · have hcs := hown.cells (g := g) (by rw [h1]; rfl) i rs[i].1 (by rw [List.getElem?_append_left (by simpa using hi2)]; simp [List.getElem?_eq_getElem hi2])
        rw [← hadd, hcs, hv]
      · have hrow := hr rs[i] (List.getElem_mem _)
        rw [hv] at hrow
        have := own_bs hrow (h.byte rs[i] (List.getElem_mem _))
        have e : (rs.map (·.2) ++ [b]).getD i [] = rs[i].2 := by rw [List.getD, List.getElem?_append_left (by simpa using hi2)]; simp [List.getElem?_eq_getElem hi2]
        rw [e]
        exact this
    · obtain rfl : i = rs.length := by omega
      refine ⟨c, m, dap, ?_, ?_⟩
      · have hcs := hown.cells (g := g) (by rw [h1]; rfl) rs.length (.slice c m dap) (by rw [List.getElem?_append_right (by simp)]; simp)
        rw [← hadd, hcs]
      · have e : (rs.map (·.2) ++ [b]).getD rs.length [] = b := by rw [List.getD, List.getElem?_append_right (by simp)]; simp
        rw [e]
        exact hB

end Go.Proofs.YtgbboaedhpaocaaGreat

/-
  SegmentAny's walk.
-/
namespace Go.Proofs.YtgbboaedhpaocaaGreat
open Go.RowKit
set_option maxRecDepth 100000
set_option maxRecDepth 100000
set_option linter.unusedVariables false

theorem wpList_append_runw {P : Program} {w w' : World} {ops : Array Oper} {rest : List Oper} {o : Oper} {a : Act} {Q : Exit → Act → World → Prop} (hgd : Region.wanted o (yielded ops a.tmps) = true) (t : TypeId) (m x : Operand) (hop : o.op = Op.call { callee := Callee.builtin Builtin.append, args := #[m, x], argTypes := #[t, t] }) (mv key v : Value) (hm : a.eval m = mv) (hx : a.eval x = key) (hrun : (Builtin.append_ #[t, t] o.type #[mv, key]).run P w = .ok v w')
    (hK : wpList P ops Q rest (a.put o.dst v) w') : wpList P ops Q (o :: rest) a w := by
  refine wpList_step fun K hK' => ?_
  rw [if_pos hgd]
  unfold Oper.wp
  simp [execOp, hop, resolve, invoke, builtin, hm, hx, hrun, Result.andThen]
  exact hK' _ _ hK

/-- A sector out of whatever bytes. -/
def sixty (x : List Int) : List Int := (x ++ List.replicate 64 0).take 64

theorem below_grown0 {w W V : World} {v : Value} {base : Nat} {e : TypeId} {n : Nat} {xs : List Value} (hb : Below W.heap.size W w) (ho : w.ownsRow W.heap.size e 1 v n xs) (hg : w.grownBy V v.ownBlock) : Below W.heap.size W V :=
  hb.grown hg hb.size (fun k hk => (ho.lt k hk).1)

namespace segmentAny

set_option maxHeartbeats 8000000 in
theorem walk (a : Option Addr) (n cap : Nat) (bss : List (List Int)) (c : Option Addr) (m dap : Nat) (b : List Int) (w : World) (hR : Rl w a n cap bss) (hS : ∀ x ∈ bss, x.length ≤ 140737488351232) (hB0 : Bs w c m dap b) : Calls Tryz.prog 7 #[.slice a n cap, .slice c m dap] w fun e w' => e = .returned (.bool true) ∧ Below w.heap.size w w' := by
  obtain ⟨i0, hi0, hz0, hz1, hz2⟩ := info_parts info22
  obtain ⟨s, hs⟩ : ∃ s, Hid (s = sS) := ⟨_, hide rfl⟩
  have hss : s.size ≤ 1000000 := by rw [hs.out]; decide
  have hs1 : Hid (1 ≤ s.size ∧ s.size ≤ 64) := hide (by rw [hs.out]; decide)
  have hbl := hB0.len
  have hrl := hR.len
  have hcap1 := hR.le
  have hcap2 := hR.reach
  have hdap1 := hB0.le
  have hdap2 := hB0.reach
  have HR := hide hR
  have HS := hide hS
  have HB := hide hB0
  clear hR hS hB0
  go_enter Tryz.func7, Tryz.ntmps7
  go_wp2_with fail
  refine (ay_new (w := w)).mono ?_
  rintro e W1 ⟨R, rfl, hRs, hA1⟩
  have HA1 := hide hA1
  clear hA1
  go_wp2_with fail
  go_loopw [6] (fun iv wr => ∃ (k : Nat) (rs : List (List Int)) (d : Dsk), k ≤ n ∧ k ≤ 20 ∧ Hid (rs.length = k) ∧ iv = .int .i64 k ∧ Hid (Ay w (fun g => g < w.heap.size) R d wr) ∧ Hid (Fq s d rs) ∧ Hid (Bw d (10 + 3 * k)))
    (fun iv _ => n - (intOf iv).toNat)
  case atStart => exact ⟨0, [], newDsk, Nat.zero_le _, by omega, hide rfl, rfl, HA1, hide (fq_new s), hide bw_new⟩
  case round =>
    obtain ⟨k, rs, d, hkn, hk20, hrsl, rfl, hA, hF, hW⟩ := hrel
    by_cases hgo : k < n ∧ k < 20
    · have h1 := hgo.1
      have h2 := hgo.2
      clear hgo
      have hRr := HR.out.keep hA.out.below
      obtain ⟨bb, off, rfl, hc⟩ := hRr.lies (by omega)
      obtain ⟨p1, m1, d1, hk1, hB1⟩ := hc k h1
      obtain ⟨x, hx⟩ : ∃ x, Hid (x = bss.getD k []) := ⟨_, hide rfl⟩
      rw [← hx.out] at hB1
      have hxl : x.length ≤ 140737488351232 := by
        rw [hx.out, List.getD, List.getElem?_eq_getElem (by omega)]
        exact HS.out _ (List.getElem_mem _)
      have hm1 := hB1.len
      have HB1 := hide hB1
      clear hc hRr hB1
      go_wp2_with fail
      refine (copy_any p1 m1 d1 x wr HB1.out (by omega)).mono ?_
      rintro e W2 ⟨ca, cc, rfl, hr2, t2⟩
      obtain ⟨v3, W3, hrun, hr3, g3⟩ := run_append_zeros W2 wr.heap.size (.slice ca m1 cc) m1 (U x) hr2 64 (by omega) (by omega) t2.size 30
      have t3 := below_grown0 (base := 0) t2 hr2 g3
      obtain ⟨g, c3, rfl⟩ := own_shape hr3 (by omega)
      have hc3 := own_caps hr3
      have hlt3 := hr3.lt g rfl
      have hB3 : Bs W3 (some ⟨g, 0, none⟩) 64 c3 (sixty x) := by
        rw [← U_append] at hr3
        exact (own_bs hr3 (fun z hz => by
          rcases List.mem_append.1 hz with hz | hz
          · exact HB1.out.byte z hz
          · rw [(List.mem_replicate.1 hz).2]; omega)).head 64 (by omega)
      have hA3 := hA.out.new (Tb.of_fresh t3)
      have C := ay_put (s := s) (at' := (k : Int)) hA3 hW.out (by omega) (by omega) hB3 (.inr hlt3)
      obtain ⟨f1, f2⟩ := hF.out.put hs1.out (i := k) (by rw [hrsl.out]; exact Nat.le_refl _) (by omega) (sixty x)
      have hw2 : Hid (Bw (d.put s (k : Int) 64 (sixty x)).2 (10 + 3 * (k + 1))) := hide ((hW.out.put (by omega) hB3.len hB3.byte).wide (by omega))
      rw [f1] at C
      have F2 := hide f2
      have HRUN := hide hrun
      clear f1 f2 hr2 t2 hr3 g3 t3 hB3 hA3 hrun
      have hc31 := hc3.1
      have hc32 := hc3.2
      clear hc3
      go_wp2_with (at_builtin; refine Lib.wpList_append_run _ rfl _ _ 30 3 rfl _ _ rfl rfl _ W3 HRUN.out ?_)
      rw [show ({ data := #[115] } : ByteArray) = s from hs.out.symm]
      refine C.mono ?_
      rintro e W4 ⟨rfl, hA4, n4⟩
      have HA4 := hide (hA4.less (fun g hg => .inl hg) (fun g hg => hg))
      clear hA4 n4 C
      go_wp2_with fail
      go_roundw
      case rel => exact ⟨k + 1, _, _, by omega, by omega, hide (by rw [putIn_len, hrsl.out]; omega), by go_num, HA4, hide (.inl F2.out), hw2⟩
      case measure => simp [intOf]; omega
    · have hrs20 : rs.length ≤ 20 := by rw [hrsl.out]; exact hk20
      obtain ⟨D1, D2, bs, e1, e2, bw1, e3, e4, bw2, hfl, hby, hrest⟩ := any_pure hF.out hs1.out (hW.out.wide (by omega)) hrs20
      have hbs4 := flat_len4 bs
      have CO := open_on (s := s) hA.out hW.out (by omega) hss
      rw [e1, e2] at CO
      have hex : ¬ k < n ∨ (k < n ∧ ¬ k < 20) := by omega
      have HREST := hide hrest
      have HBY := hide hby
      have E3 := hide e3
      have E4 := hide e4
      have BW1 := hide bw1
      have BW2 := hide bw2
      clear hrest hby e1 e2 e3 e4 bw1 bw2 hgo hrs20 hF hW hrsl hA
      rcases hex with hex | hex
      case' inr => obtain ⟨h1, h2⟩ := hex
      all_goals
        go_wp2_with fail
        rw [show ({ data := #[115] } : ByteArray) = s from hs.out.symm]
        refine CO.mono ?_
        rintro e W2 ⟨pv, rfl, _, _, hO, _⟩
        obtain ⟨S, rfl, _, hX2⟩ := hO trivial
        obtain ⟨Q, sv, ev, q1, q2, q3, q4, q5, q6, q7⟩ := hX2
        have CT := told_any q4
        go_wp2_with fail
        refine CT.mono ?_
        rintro e W3 ⟨lv, rs1, rfl, hL, hmap, t3⟩
        obtain ⟨la, lc, rfl⟩ := own_val hL.own
        have hBl : rs1.length = bs.length := by rw [← hmap, List.length_map]
        obtain ⟨B, hB⟩ : ∃ B, Hid (B = rs1.length) := ⟨_, hide rfl⟩
        have hB400 : B ≤ 400 := by rw [hB.out]; omega
        have hRl : Rl W3 la B lc bs := by
          have := hL.rl
          rw [hmap, ← hB.out] at this
          exact this
        have HL := hide hL
        have HMAP := hide hmap
        have HBL := hide hBl
        rw [← hB.out]
        have lR1 := hRl.le
        have lR2 := hRl.reach
        have HRl := hide hRl
        have hA3 := q1.new (Tb.of_fresh t3)
        have CO2 := open_on (s := s) hA3 BW1.out (by omega) hss
        rw [E3.out, E4.out] at CO2
        have hS3 := q4.new t3
        have b3 : Below w.heap.size w W3 := hA3.below
        have HA3 := hide hA3
        have HS3 := hide hS3
        have hs23 := t3.size
        have hw2 := q1.below.size
        have hQ : Hid (Q S ∧ (∀ g, sv.ownBlock = some g → Q g) ∧ (∀ g, ev.ownBlock = some g → Q g)) := hide ⟨q5, q6, q7⟩
        clear hL hmap hBl hRl hA3 hS3 q1 q2 q3 q4 q5 q6 q7 CT CO hO t3
        go_wp2_with fail
        go_loopw [10, 11] (fun zv iv wr => ∃ j : Nat, j ≤ B ∧ zv = .int .i64 (edAt bs j : Nat) ∧ iv = .int .i64 j ∧ wr = W3) (fun _ iv _ => B - (intOf iv).toNat)
        case atStart => exact ⟨0, Nat.zero_le _, by simp [edAt, flat], rfl, rfl⟩
        case round =>
          obtain ⟨j, hj, rfl, rfl, hwr⟩ := hrel
          subst wr
          have hjl := edAt_le bs j
          by_cases hlt : j < B
          · obtain ⟨g1, o1, rfl, hcs⟩ := HRl.out.lies (by omega)
            obtain ⟨pj, mj, dj, hkj, hBj⟩ := hcs j hlt
            have hjb : j < bs.length := by have := HBL.out; have := hB.out; omega
            have hmj := hBj.len
            rw [List.getD, List.getElem?_eq_getElem hjb, Option.getD_some] at hmj
            have hes := edAt_succ bs j hjb
            have hes2 := edAt_le bs (j + 1)
            rw [hmj] at hes
            have hnext : Hid (edAt bs (j + 1) = edAt bs j + mj + 4) := hide (by omega)
            have hmj2 : edAt bs j + mj + 4 ≤ 1240 := by omega
            obtain ⟨E, hE⟩ : ∃ E, Hid (E = edAt bs j) := ⟨_, hide rfl⟩
            rw [← hE.out] at hmj2 hnext
            rw [← hE.out]
            clear hBj hcs hes hes2 hjl hmj
            go_wp2_with fail
            go_roundw
            case rel => exact ⟨j + 1, by omega, by rw [hnext.out]; go_num, by go_num, by trivial⟩
            case measure => simp [intOf]; omega
          · obtain rfl : j = B := by omega
            have hjF : edAt bs j = (flat bs).length := by rw [hB.out, HBL.out]; exact edAt_all bs
            rw [hjF]
            have hBp : rs1.length = j := hB.out.symm
            go_wp2_with fail
            rw [show ({ data := #[115] } : ByteArray) = s from hs.out.symm]
            refine CO2.mono ?_
            rintro e W4 ⟨pv, rfl, n4, _, hO4, _⟩
            obtain ⟨S2, rfl, _, hX4⟩ := hO4 trivial
            have hS4 := HS3.out.tb n4 (fun h => h (.inl (.inr hQ.out.1))) (fun g hg h => h (.inl (.inr (hQ.out.2.1 g hg)))) (fun g hg h => h (.inl (.inr (hQ.out.2.2 g hg))))
            have CS := ssize_any hS4
            have HX4 := hide hX4
            have b4 := hX4.below
            obtain ⟨Q4, sv4, ev4, u1, u2, u3, u4, u5, u6, u7⟩ := hX4
            have CT4 := told_any u4
            have HCL : Hid (∀ W5 la2 lc2 n2 rs2, LL W5 W4.heap.size (.slice la2 n2 lc2) rs2 → rs2.map (·.2) = bs → Below W4.heap.size W4 W5 → Calls Tryz.prog 35 #[.slice la2 n2 lc2, .slice la j lc] W5 fun e w' => e = .returned (.bool true) ∧ Below W4.heap.size W4 w') := hide (fun W5 la2 lc2 n2 rs2 k1 k2 k3 => by
              have k4 := HL.out.tb (n4.trans (No.of (Tb.of_fresh k3))) (fun g h1 h2 h => h (.inr ⟨h1, h2⟩))
              have k5 := k4.rl
              have k6 := k1.rl
              rw [HMAP.out, hBp] at k5
              rw [k2] at k6
              refine (lists_any _ _ _ _ _ _ _ _ W5 k6 k5).mono ?_
              rintro e w' ⟨rfl, q, rfl⟩
              exact ⟨by simp, below_drewN k3 q⟩)
            have N4 := hide n4
            clear hO4 n4 hS4 u1 u2 u3 u4 u5 u6 u7 CO2
            by_cases hmb : 65536 < m
            · go_wp2_with (first
                | (go_at_call 17; refine CS.mono ?_; rintro e w1 ⟨rfl, hw1⟩; subst w1)
                | (go_at_call 36; refine CT4.mono ?_; rintro e W5 ⟨lv2, rs2, rfl, hL2, hmap2, t5⟩; obtain ⟨la2, lc2, rfl⟩ := own_val hL2.own; have CL := HCL.out W5 la2 lc2 _ rs2 hL2 hmap2 t5; clear hL2 hmap2 t5)
                | (go_at_call 35; refine CL.mono ?_; rintro e W6 ⟨rfl, t6⟩)
                | (go_at_call 23; refine (sawake_any _).mono ?_; rintro e W7 ⟨rfl, b7⟩))
              go_ret
              exact ⟨rfl, (b4.trans (t6.mono b4.size)).trans (b7.mono (b4.trans (t6.mono b4.size)).size)⟩
            · obtain ⟨D3, D4, D5, r1, r2, r3, r4, r5, r6, r7⟩ := HREST.out b (by omega) HB.out.byte
              go_wp2_with (first
                | (go_at_call 17; refine CS.mono ?_; rintro e w1 ⟨rfl, hw1⟩; subst w1)
                | (go_at_call 36; refine CT4.mono ?_; rintro e W5 ⟨lv2, rs2, rfl, hL2, hmap2, t5⟩; obtain ⟨la2, lc2, rfl⟩ := own_val hL2.own; have CL := HCL.out W5 la2 lc2 _ rs2 hL2 hmap2 t5; clear hL2 hmap2 t5)
                | (go_at_call 35; refine CL.mono ?_; rintro e W6 ⟨rfl, t6⟩))
              have hX6 := HX4.out.kept (Tb.of_fresh t6)
              have CA := append_on hX6 BW2.out (by omega) hss (HB.out.keep hX6.below)
              rw [r1] at CA
              refine CA.mono ?_
              rintro e W7 ⟨rfl, hX7, n7⟩
              have CY := ssync_on hX7 r2 (by omega) hss
              rw [r3] at CY
              clear CA CL CS CT4 hX6
              go_wp2_with fail
              refine CY.mono ?_
              rintro e W8 ⟨rfl, hX8, n8⟩
              have CC := ay_crash (p := none) (m := 0) (cap := 0) (ks := []) hX8.ay r4 (by omega) rfl ⟨by omega, by omega⟩ (fun i b h => by simp at h) (fun a h => absurd rfl h)
              clear CY hX7
              go_wp2_with fail
              refine CC.mono ?_
              rintro e W9 ⟨rfl, hA9, n9⟩
              have CO5 := open_on (s := s) hA9 r5 (by omega) hss
              rw [r6, r7] at CO5
              clear CC hX8
              go_wp2_with fail
              rw [show ({ data := #[115] } : ByteArray) = s from hs.out.symm]
              refine CO5.mono ?_
              rintro e W10 ⟨pv, rfl, n10, _, hO10, _⟩
              obtain ⟨S3, rfl, _, hX10⟩ := hO10 trivial
              have b10 := hX10.below
              have NN := (((((N4.out.trans (No.of (Tb.of_fresh t6))).trans n7).trans n8).trans n9).trans n10)
              have hs310 : W3.heap.size ≤ W10.heap.size := Tb.size NN
              obtain ⟨Q10, sv10, ev10, z1, z2, z3, z4, z5, z6, z7⟩ := hX10
              have CT10 := told_any z4
              have HT : Hid (∀ W11 lv3 rs3, LL W11 W10.heap.size lv3 rs3 → rs3.map (·.2) = bs ++ [b] → Below W10.heap.size W10 W11 → ∃ v12 W12, (Builtin.append_ #[41, 41] 41 #[.slice la j lc, .slice (some ⟨W11.heap.size, 0, none⟩) 1 1]).run Tryz.prog (W11.alloc (.cells #[.slice c m dap] 30)) = .ok v12 W12 ∧
                  Calls Tryz.prog 35 #[lv3, v12] W12 fun e w' => e = .returned (.bool true) ∧ Below w.heap.size w w') := hide (fun W11 lv3 rs3 k1 k2 k3 => by
                have hs11 := k3.size
                have k4 := HL.out.tb (NN.trans (No.of (Tb.of_fresh k3))) (fun g h1 h2 h => h (.inr ⟨h1, h2⟩))
                have ka : Below W11.heap.size W11 (W11.alloc (.cells #[.slice c m dap] 30)) := (Below.refl _ W11).alloc (Nat.le_refl _) _
                have k5 := k4.keep ka
                have k6 := k1.keep ka
                have hown := k5.own
                rw [hBp] at hown
                obtain ⟨v12, W12, hrun, ho, hg, _⟩ := run_append_own (P := Tryz.prog) (W11.alloc (.cells #[.slice c m dap] 30)) W2.heap.size 41 41 30 i0 (.slice none 0 0) 1 24 Tryz.underlying41 hi0 hz0 hz1 hz2 rfl (by omega) _ j _ hown ⟨W11.heap.size, 0, none⟩ 1 1 [.slice c m dap] rfl (cell_one_new _ _ _) (by simp [Value.oneCell']) (by unfold maxLen; omega) (by omega) (by simp; omega)
                have lt1 : ∀ g, (Value.slice la j lc).ownBlock = some g → W2.heap.size ≤ g ∧ g < W3.heap.size := fun g hgg => by
                  have := HL.out.own
                  rw [hBp] at this
                  exact this.lt g hgg
                have bel : Below w.heap.size w W12 := ((b10.trans (k3.mono b10.size)).trans (ka.mono (b10.trans (k3.mono b10.size)).size)).grown hg (by simp; omega) (fun g hgg => by have := lt1 g hgg; omega)
                rw [← hBp] at ho hg
                obtain ⟨a12, c12, rfl, hR12⟩ := rl_more k5 (HB.out.keep bel) ho hg
                have k7 := k6.bar (Bar.of_grown hg) (fun g hgg h => by
                  rw [hBp] at h
                  have := lt1 g h
                  have := (k6.own.lt g hgg).1
                  omega) (fun r hr g hgg h => by
                  rw [hBp] at h
                  have := lt1 g h
                  have := ((k6.row r hr).lt g hgg).1
                  omega)
                obtain ⟨la3, lc3, rfl⟩ := own_val k7.own
                have k8 := k7.rl
                rw [k2] at k8
                rw [HMAP.out] at hR12
                refine ⟨_, W12, hrun, (lists_any _ _ _ _ _ _ _ _ W12 k8 hR12).mono ?_⟩
                rintro e w' ⟨rfl, q, rfl⟩
                exact ⟨by simp, below_drewN bel q⟩)
              have BLj : (bs.length : Int) = (j : Int) := by have := HBL.out; omega
              rw [BLj]
              clear CO5 hA9 hO10 n7 n8 n9 n10 NN z1 z2 z3 z4 z5 z6 z7 BLj hBp hjF
              go_wp2_with (first
                | (go_at_call 36; refine CT10.mono ?_; rintro e W11 ⟨lv3, rs3, rfl, hL3, hm3, t11⟩; obtain ⟨v12, W12, HRUN, CL⟩ := HT.out W11 lv3 rs3 hL3 hm3 t11; clear hL3 hm3 t11)
                | (at_builtin; refine wpList_append_runw rfl 41 _ _ rfl _ _ _ rfl rfl HRUN ?_; clear HRUN)
                | (go_at_call 35; refine CL.mono ?_; rintro e W13 ⟨rfl, b13⟩)
                | (go_at_call 23; refine (sawake_any _).mono ?_; rintro e W14 ⟨rfl, b14⟩))
              go_ret
              exact ⟨rfl, b13.trans (b14.mono b13.size)⟩

end segmentAny
end Go.Proofs.YtgbboaedhpaocaaGreat

/-
  Texts put into one.
-/
import Derived.Test.YtnimfkcnkkjlkaaGreatPk5b7452b1
import Derived.Test.YtnimfkcnkkjlkaaGreatPkb39a30be
import Derived.Test.YtnimfkcnkkjlkaaGreatPk173512b3
import Derived.Test.YtnimfkcnkkjlkaaGreatPk78edb5fc
import Derived.Test.YtnimfkcnkkjlkaaGreatPk1e2c802a

/-
  The document's reader: its beginning, its end; what is taken for a thing.
-/
namespace Go.Proofs.YtnimfkcnkkjlkaaGreat
open Go.RowKit
set_option maxRecDepth 100000
set_option linter.unusedVariables false

/-- What lies so lies as an argument does. -/
def La {α : Type} (L M : Lay α) : Prop := ∀ (w : World) (x : α) (cs : List Value), L w x cs → M w x cs
theorem La.refl {α : Type} (L : Lay α) : La L L := fun _ _ _ h => h
theorem La.by : La LBy ABy := fun _ _ _ ⟨a, m, d, h1, h2, _⟩ => ⟨a, m, d, h1, h2⟩
theorem La.pr {α β : Type} {L L' : Lay α} {M M' : Lay β} (h : La L L') (k : La M M') : La (LPr L M) (LPr L' M') := fun w q cs ⟨c, d, h1, h2, h3⟩ => ⟨c, d, h1, h w _ _ h2, k w _ _ h3⟩
theorem La.is {α β : Type} {L L' : Lay α} (h : La L L') (g : β → α) : La (LIs L g) (LIs L' g) := fun w x cs hl => h w (g x) cs hl
theorem La.ls {α : Type} {L : Lay α} {R : World → Nat → Nat → α → Prop} {size : Nat} (h : Lr L R size) (T : TypeId) : La (LLs T size L) (ALs R size) := fun w x cs hl => by
  obtain ⟨a, m, d, rfl, _⟩ := id hl
  exact ⟨a, m, d, rfl, LLs.sq h hl⟩

section
variable {Wb w w' w0 w1 w2 : World} {R n cap most : Nat} {l l' l0 l1 l2 zs : List Int} {bad bad' b0 b1 b2 : Bool}

/-- A reader at its beginning. -/
def Pbg (w : World) (n : Nat) (zs : List Int) (e : Ending) (w' : World) : Prop := ∃ R l0 b0, e = .returned (.pointer (some ⟨R, 0, none⟩)) ∧ Tq w R l0 b0 w' ∧ Below w.heap.size w w' ∧ ((b0 = true ∧ (n = 0 ∨ 65545 < n)) ∨ (b0 = false ∧ 0 < n ∧ n ≤ 65545 ∧ l0 = zs.drop 1))

set_option maxHeartbeats 1000000 in
theorem tbegin_any (a : Option Addr) (hB : Bs w a n cap zs) : Calls Tryz.prog 53 #[.slice a n cap] w (Pbg w n zs) := by
  have hln := hB.len
  have hle := hB.le
  have hfin : ∀ (a' : Option Addr) (m' c' : Nat) (l0 : List Int) (b0 : Bool), Bs w a' m' c' l0 → l0.length ≤ 70000 → Tq w w.heap.size l0 b0 (w.alloc (.cells #[.slice a' m' c', .bool b0] (157 : TypeId))) := fun a' m' c' l0 b0 h1 h2 => ⟨fresh w _, Nat.le_refl _, h2, a', m', c', heap_alloc_new w _, h1⟩
  by_cases h0 : n = 0
  · subst h0
    have HE := hide (hfin none 0 0 [] true (Bs.nil _) (by simp))
    go_enter Tryz.func53, Tryz.ntmps53
    go_wp2_with fail
    go_ret
    exact ⟨_, _, _, rfl, HE.out, fresh w _, .inl ⟨rfl, .inl rfl⟩⟩
  · by_cases h1 : 65545 < n
    · have HE := hide (hfin none 0 0 [] true (Bs.nil _) (by simp))
      have j0 : ((n : Int) == 0) = false := by simp; omega
      have j1 : (65545 : Int) < (n : Int) := by omega
      go_enter Tryz.func53, Tryz.ntmps53
      go_wp2_with fail
      go_ret
      exact ⟨_, _, _, rfl, HE.out, fresh w _, .inl ⟨rfl, .inr h1⟩⟩
    · obtain ⟨bb, off, rfl, _⟩ := hB.lies (by omega)
      obtain ⟨t1, t2⟩ := hB.tail (k := 1) (by omega)
      have j0 : ((n : Int) == 0) = false := by simp; omega
      have j1 : ¬ ((65545 : Int) < (n : Int)) := by omega
      have j2 : (1 : Int) ≤ (n : Int) := by omega
      have HD := hide (show (zs.drop 1).length ≤ 70000 by rw [List.length_drop]; omega)
      have HF := hide hfin
      rcases Nat.lt_or_ge 1 cap with hkc | hkc
      · have HE := hide (HF.out _ _ _ _ false (t1 hkc) HD.out)
        clear t1 t2 hfin hB
        go_enter Tryz.func53, Tryz.ntmps53
        go_wp2_with fail
        go_ret
        exact ⟨_, _, _, rfl, HE.out, fresh w _, .inr ⟨rfl, by omega, by omega, rfl⟩⟩
      · obtain rfl : cap = 1 := by omega
        obtain rfl : n = 1 := by omega
        have HE := hide (HF.out _ _ _ _ false (t2 rfl) HD.out)
        clear t1 t2 hfin hB
        go_enter Tryz.func53, Tryz.ntmps53
        go_wp2_with fail
        go_ret
        exact ⟨_, _, _, rfl, HE.out, fresh w _, .inr ⟨rfl, by omega, by omega, rfl⟩⟩

/-- Whether it is the thing. -/
def Pis (w : World) (bad : Bool) (n most : Nat) (own zs : List Int) (e : Ending) (w' : World) : Prop := e = .returned (.bool (decide (bad = false ∧ n ≤ most ∧ own = zs))) ∧ w' = w

set_option maxHeartbeats 1000000 in
theorem tis_any (h : Tq Wb R l bad w) {oa a : Option Addr} {on oc : Nat} {own : List Int} (hO : Bs w oa on oc own) (hB : Bs w a n cap zs) (m : Int) (hm : m = (most : Int)) :
    Calls Tryz.prog 56 #[.pointer (some ⟨R, 0, none⟩), .slice oa on oc, .slice a n cap, .int .i64 m] w (Pis w bad n most own zs) := by
  obtain ⟨ta, tm, tc, g1, _⟩ := h.is
  have c1 := (row_at g1 1 (.bool bad) rfl).1
  have HC := hide (same_any oa a on oc n cap own zs w hO hB)
  subst hm
  clear h g1 hO hB
  cases bad with
  | true =>
    have HE : Hid (Pis w true n most own zs (.returned (.bool false)) w) := hide ⟨by simp, rfl⟩
    go_enter Tryz.func56, Tryz.ntmps56
    go_wp2_with fail
    go_ret
    exact HE.out
  | false =>
    by_cases hnm : n ≤ most
    · have HE : Hid (Pis w false n most own zs (.returned (.bool (decide (own = zs)))) w) := hide ⟨by simp [hnm], rfl⟩
      have j1 : (n : Int) ≤ (most : Int) := by omega
      generalize decide (own = zs) = P at HC HE
      go_enter Tryz.func56, Tryz.ntmps56
      go_wp2_with fail
      refine HC.out.mono ?_
      rintro e w1 ⟨rfl, rfl⟩
      cases P
      · go_wp2_with fail
        go_ret
        exact HE.out
      · go_wp2_with fail
        go_ret
        exact HE.out
    · have HE : Hid (Pis w false n most own zs (.returned (.bool false)) w) := hide ⟨by simp [hnm], rfl⟩
      have j1 : ¬ ((n : Int) ≤ (most : Int)) := by omega
      go_enter Tryz.func56, Tryz.ntmps56
      go_wp2_with fail
      go_ret
      exact HE.out

/-- What was read is taken for the thing just if it is. -/
theorem get_same {α : Type} {c : Cod.Way α} {k : Int} {x : α} (hlaw : Cod.Law c) (hby : ∀ z ∈ zs, 0 ≤ z ∧ z ≤ 255) (hok : c.ok x) (hn : zs.length = n) (hmost : most ≤ 65545) (hor : (b0 = true ∧ (n = 0 ∨ 65545 < n)) ∨ (b0 = false ∧ 0 < n ∧ n ≤ 65545 ∧ l0 = zs.drop 1)) (hex : b0 = false → ∀ a t, c.get l0 = some (a, t) → x = a ∧ l1 = t ∧ b1 = false) :
    ((b1 = false ∧ n ≤ most ∧ Cod.thing c k x = zs) → Cod.got c k most zs = some x) ∧ (¬ (b1 = false ∧ n ≤ most ∧ Cod.thing c k x = zs) → Cod.got c k most zs = none) := by
  refine ⟨fun ⟨h1, h2, h3⟩ => (Cod.got_iff hlaw hby x).2 ⟨hok, by omega, h3.symm⟩, fun hno => ?_⟩
  cases e : Cod.got c k most zs with
  | none => rfl
  | some y =>
    exfalso
    obtain ⟨h1, h2, h3⟩ := (Cod.got_iff hlaw hby y).1 e
    have hz : zs = k :: c.put y := h3
    have hpos : 0 < zs.length := by rw [hz]; simp
    rcases hor with ⟨_, h4⟩ | ⟨rfl, _, _, rfl⟩
    · omega
    · have hg := hlaw.got y [] h1 Cod.Byte.nil
      rw [List.append_nil] at hg
      obtain ⟨rfl, rfl, rfl⟩ := hex rfl y [] (by rw [hz]; exact hg)
      exact hno ⟨rfl, by omega, h3.symm⟩
end

end Go.Proofs.YtnimfkcnkkjlkaaGreat

/-
  The document's GetPart and GetMeta.
-/
namespace Go.Proofs.YtnimfkcnkkjlkaaGreat
open Go.RowKit
set_option maxRecDepth 100000
set_option linter.unusedVariables false

section
variable {Wb w w' w0 w1 w2 : World} {R n cap : Nat} {l l' l1 l2 zs : List Int} {bad bad' b1 b2 : Bool}

theorem LPlace.arg : La LPlace APlace := ((La.pr (La.refl _) (La.refl _))).is _

theorem LBatch.arg : La LBatch ABatch := ((La.pr (La.refl _) (La.pr (La.refl _) (La.pr (La.refl _) (La.ls LBy.r _))))).is _

theorem LPartC.arg : La LPartC APartC := ((La.pr (La.refl _) (La.pr LBatch.arg (La.refl _)))).is _

theorem LMetaC.arg : La LMetaC AMetaC := ((La.pr (La.refl _) (La.pr (La.refl _) (La.pr (La.refl _) (La.pr (La.refl _) (La.pr (La.ls LTx.r _) (La.pr LPlace.arg (La.pr (La.refl _) (La.pr (La.refl _) (La.pr (La.refl _) (La.refl _))))))))))).is _

set_option maxHeartbeats 40000000 in
theorem refGetPart_any (a : Option Addr) (hB : Bs w a n cap zs) (hn : n ≤ 70000) : Calls Tryz.prog 15 #[.slice a n cap] w (GPartC w zs) := by
  obtain ⟨W0, HW0⟩ : ∃ W0, Hid (W0 = w.alloc (.cells #[.int .u8 0, .int .i64 0, .int .i64 0, .int .i64 0, .slice none 0 0, .int .i64 0] (48 : TypeId))) := ⟨_, hide rfl⟩
  have hbW : Below w.heap.size w W0 := by rw [HW0.out]; exact fresh w _
  have hG0 : W0.heap[w.heap.size]? = some (.cells #[.int .u8 0, .int .i64 0, .int .i64 0, .int .i64 0, .slice none 0 0, .int .i64 0] (48 : TypeId) (0, 0)) := by rw [HW0.out]; exact heap_alloc_new w _
  have HB := hide (hB.keep hbW)
  have HBY := hide hB.byte
  have HLN := hide hB.len
  have HC := hide (tbegin_any a HB.out)
  clear hB
  go_enter Tryz.func15, Tryz.ntmps15
  go_wp2_with fail
  rw [← HW0.out]
  refine HC.out.mono ?_
  rintro e wb ⟨R, l, bad, rfl, hT0, hbb, hor⟩
  have HOR := hide hor
  have hRl := hT0.lt
  have hG0 := (hbb.block _ (hp_lt hG0)).trans hG0
  have hb0 := Below.refl wb.heap.size wb
  have hsh := hT0.short
  have HC := hide (tnum_any hT0)
  clear hT0 hor
  go_wp2_with fail
  refine HC.out.mono ?_
  rintro e w1 ⟨yk, rfl, hI1, l1, b1, hB⟩
  clear HC
  replace hB := hB.u8
  have hG0 := hB.kt.block _ _ _ _ hG0 (by decide)
  have hA := hB.first hb0
  clear hB
  obtain ⟨V0, HV0⟩ : ∃ V, Hid (V = w1.alloc (.cells #[.int .u8 (yk % 256), .int .i64 0, .int .i64 0, .int .i64 0, .slice none 0 0, .int .i64 0] (48 : TypeId))) := ⟨_, hide rfl⟩
  have hbx : Below w1.heap.size w1 V0 := by rw [HV0.out]; exact fresh w1 _
  have hG1 : V0.heap[w1.heap.size]? = some (.cells #[.int .u8 (yk % 256), .int .i64 0, .int .i64 0, .int .i64 0, .slice none 0 0, .int .i64 0] (48 : TypeId) (0, 0)) := by rw [HV0.out]; exact heap_alloc_new w1 _
  have hne : w.heap.size < w1.heap.size := hp_lt hG0
  replace hG0 := (hbx.block _ (hp_lt hG0)).trans hG0
  have hlB : wb.heap.size ≤ w1.heap.size := hA.kt.size
  replace hA := hA.beside (S := (48 : TypeId)) (by decide) (Kt.of_below hbx) (hbx.mono hA.kt.size) hRl
  clear hbx
  have HC := hide (tbatch_any hA.tq)
  go_wp2_with fail
  rw [← HV0.out]
  refine HC.out.mono ?_
  rintro e w2 ⟨ybp, ybe, ybf, ybla, ybln, yblc, rfl, l2, b2, hB⟩
  clear HC
  have hG0 := hB.kt.block _ _ _ _ hG0 (by decide)
  have hG1 := hB.kt.block _ _ _ _ hG1 (by decide)
  replace hA := hA.step hB (by decide)
  clear hB
  have HTH := hide (there_row hG1 1 4 (by simp))
  have s1 : (w2.setCells w1.heap.size 1 [.int .i64 ybp, .int .i64 ybe, .int .i64 ybf, .slice ybla ybln yblc]).heap[w1.heap.size]? = some (.cells #[.int .u8 (yk % 256), .int .i64 ybp, .int .i64 ybe, .int .i64 ybf, .slice ybla ybln yblc, .int .i64 0] (48 : TypeId) (0, 0)) := row_setCells [.int .i64 ybp, .int .i64 ybe, .int .i64 ybf, .slice ybla ybln yblc] 1 _ _ hG1
  have h0_1 : (w2.setCells w1.heap.size 1 [.int .i64 ybp, .int .i64 ybe, .int .i64 ybf, .slice ybla ybln yblc]).heap[w.heap.size]? = some (.cells #[.int .u8 0, .int .i64 0, .int .i64 0, .int .i64 0, .slice none 0 0, .int .i64 0] (48 : TypeId) (0, 0)) := (other_setCells (Nat.ne_of_lt hne) [.int .i64 ybp, .int .i64 ybe, .int .i64 ybf, .slice ybla ybln yblc] 1 _).trans hG0
  replace hA := hA.beside (S := (48 : TypeId)) (by decide) (kt_setCells [.int .i64 ybp, .int .i64 ybe, .int .i64 ybf, .slice ybla ybln yblc] 1 _ _ hG1) (below_setCells hlB [.int .i64 ybp, .int .i64 ybe, .int .i64 ybf, .slice ybla ybln yblc] 1 _ _ (Below.refl wb.heap.size w2)) hRl
  obtain ⟨V1, HV1⟩ : ∃ V, Hid (V = w2.setCells w1.heap.size 1 [.int .i64 ybp, .int .i64 ybe, .int .i64 ybf, .slice ybla ybln yblc]) := ⟨_, hide rfl⟩
  rw [← HV1.out] at hA h0_1 s1
  have HX := hide hA
  have HY := hide h0_1
  have HZ := hide s1
  clear hA h0_1 hG1 hG0 s1
  have hA := HX.out
  have hG0 := HY.out
  have hG1 := HZ.out
  clear HX HY HZ
  have HC := hide (tnum_any hA.tq)
  go_wp2_with (refine wpList_store_mid rfl (46 : TypeId) _ _ rfl w1.heap.size 1 #[.int .i64 ybp, .int .i64 ybe, .int .i64 ybf, .slice ybla ybln yblc] rfl rfl HTH.out (by kernel_rfl) (by simp [Value.oneCell']) ?_)
  rw [← HV1.out]
  refine HC.out.mono ?_
  rintro e w3 ⟨yo, rfl, hI3, l3, b3, hB⟩
  clear HC
  have hG0 := hB.kt.block _ _ _ _ hG0 (by decide)
  have hG1 := hB.kt.block _ _ _ _ hG1 (by decide)
  replace hA := hA.step hB (by decide)
  clear hB
  have c2_0 := (row_at hG1 5 (.int .i64 0) rfl).1
  have f2_0 := (row_at hG1 5 (.int .i64 0) rfl).2
  have s2 : (w3.setCell ⟨w1.heap.size, 5, none⟩ (.int .i64 yo)).heap[w1.heap.size]? = some (.cells #[.int .u8 (yk % 256), .int .i64 ybp, .int .i64 ybe, .int .i64 ybf, .slice ybla ybln yblc, .int .i64 yo] (48 : TypeId) (0, 0)) := heap_setCell_same _ (w1.heap.size) 5 _ (48 : TypeId) (.int .i64 yo) hG1
  have h0_2 : (w3.setCell ⟨w1.heap.size, 5, none⟩ (.int .i64 yo)).heap[w.heap.size]? = some (.cells #[.int .u8 0, .int .i64 0, .int .i64 0, .int .i64 0, .slice none 0 0, .int .i64 0] (48 : TypeId) (0, 0)) := (Below.heap_setCell _ _ _ _ (Nat.ne_of_lt hne)).trans hG0
  replace hA := hA.beside (S := (48 : TypeId)) (by decide) (Kt.set (i := 5) hG1 (.int .i64 yo)) ((Below.refl wb.heap.size w3).setCell hlB (.int .i64 yo)) hRl
  obtain ⟨V2, HV2⟩ : ∃ V, Hid (V = w3.setCell ⟨w1.heap.size, 5, none⟩ (.int .i64 yo)) := ⟨_, hide rfl⟩
  rw [← HV2.out] at hA h0_2 s2
  have HX := hide hA
  have HY := hide h0_2
  have HZ := hide s2
  clear hA h0_2 hG1 hG0 s2
  have hA := HX.out
  have hG0 := HY.out
  have hG1 := HZ.out
  clear HX HY HZ
  have hF : Aq Cod.part (fun V q => LPartC V q [.int .u8 (yk % 256), .int .i64 ybp, .int .i64 ybe, .int .i64 ybf, .slice ybla ybln yblc, .int .i64 yo]) [(32 : TypeId), (5 : TypeId)] 17 W0 R l bad l3 b3 wb V2 := (hA.assoc).iso (f := _) (g := _) (fun _ => rfl) (fun q hq => by obtain ⟨⟨h0, h1⟩, h2⟩ := hq; exact ⟨_, _, rfl, h0, _, _, rfl, h1, h2⟩) LPartC.k
  obtain ⟨x, hLx, hlen, hex⟩ := hF.ex
  have hAx := LPartC.arg _ _ _ hLx
  have hok := APartC.o _ _ _ hAx
  have hroom : (Cod.thing Cod.part 1 x).length ≤ 140737488355328 := by
    simp only [Cod.thing, List.length_cons]
    split at hlen <;> omega
  have hthb := thing_byte (k := 1) Cod.part_law (by omega) hok
  obtain ⟨hyes, hno⟩ := get_same (k := 1) (most := 60000) Cod.part_law HBY.out hok HLN.out (by omega) HOR.out hex
  have HP := hide (hAx.ref hroom)
  have HT := hide hF.tq
  have hBn := HB.out.keep hF.tq.low
  have hlow : Below w.heap.size w V2 := hbW.trans (hF.tq.low.mono hbW.size)
  have HLOW := hide hlow
  have HBN := hide hBn
  have HLX := hide hLx
  have HYES := hide hyes
  have HNO := hide hno
  have HTB := hide hthb
  have HG0 := hide hG0
  have HG1 := hide hG1
  clear hF hlen hex hAx hok hroom hthb hyes hno hBn hlow hLx hG0 hG1 hA
  have HGX : Hid (w3.setCell ⟨w1.heap.size, 5, none⟩ (.int .i64 yo) = V2) := hide HV2.out.symm
  go_wp2_with (first | (rw [HGX.out]; refine wpList_load_row rfl (48 : TypeId) _ rfl w1.heap.size rfl (48 : TypeId) _ (0, 0) _ HG1.out Tryz.underlying48 rfl (by kernel_rfl) ?_))
  refine HP.out.mono ?_
  rintro e wp ⟨vp, rfl, hop, hbp⟩
  obtain ⟨pa, pd, rfl⟩ := own_val hop
  have HI := hide (tis_any (HT.out.keep hbp HT.out.lt) (own_bs hop HTB.out) (HBN.out.keep hbp) 60000 (most := 60000) rfl)
  have HBP := hide hbp
  clear hop hbp HP
  go_wp2_with fail
  refine HI.out.mono ?_
  rintro e wq ⟨rfl, rfl⟩
  clear HI
  have HG1 := hide ((HBP.out.block _ (hp_lt HG1.out)).trans HG1.out)
  have HG0 := hide ((HBP.out.block _ (hp_lt HG0.out)).trans HG0.out)
  have hlowq : Below w.heap.size w wq := HLOW.out.trans (HBP.out.mono HLOW.out.size)
  by_cases hP : b3 = false ∧ n ≤ 60000 ∧ Cod.thing Cod.part 1 x = zs
  · have hgot := HYES.out hP
    rw [decide_eq_true hP]
    have hLq : LPartC (wq.setRow w.heap.size #[.int .u8 (yk % 256), .int .i64 ybp, .int .i64 ybe, .int .i64 ybf, .slice ybla ybln yblc, .int .i64 yo]) x [.int .u8 (yk % 256), .int .i64 ybp, .int .i64 ybe, .int .i64 ybf, .slice ybla ybln yblc, .int .i64 yo] := LPartC.k (48 : TypeId) wq _ _ _ (by decide) (Kt.row1 HG0.out) (LPartC.k.below HLX.out HBP.out)
    have HE : Hid (GPartC w zs (.returned (.tuple #[.agg #[.int .u8 (yk % 256), .int .i64 ybp, .int .i64 ybe, .int .i64 ybf, .slice ybla ybln yblc, .int .i64 yo], .int .i64 0])) (wq.setRow w.heap.size #[.int .u8 (yk % 256), .int .i64 ybp, .int .i64 ybe, .int .i64 ybf, .slice ybla ybln yblc, .int .i64 yo])) := hide (GPartC.yes hgot (below_setRow hlowq (Nat.le_refl _) _) hLq)
    have HR : Hid ((wq.setRow w.heap.size #[.int .u8 (yk % 256), .int .i64 ybp, .int .i64 ybe, .int .i64 ybf, .slice ybla ybln yblc, .int .i64 yo]).heap[w.heap.size]? = some (.cells #[.int .u8 (yk % 256), .int .i64 ybp, .int .i64 ybe, .int .i64 ybf, .slice ybla ybln yblc, .int .i64 yo] (48 : TypeId) (0, 0))) := hide (setRow_heap wq w.heap.size _ _ (48 : TypeId) _ HG0.out)
    clear hLq hgot hP hlowq
    go_wp2_with (first | (refine wpList_load_row rfl (48 : TypeId) _ rfl w1.heap.size rfl (48 : TypeId) _ (0, 0) _ HG1.out Tryz.underlying48 rfl (by kernel_rfl) ?_) | (refine wpList_store_row rfl (48 : TypeId) _ _ rfl w.heap.size #[.int .u8 (yk % 256), .int .i64 ybp, .int .i64 ybe, .int .i64 ybf, .slice ybla ybln yblc, .int .i64 yo] rfl rfl (48 : TypeId) _ HG0.out (by kernel_rfl) rfl (by simp [Value.oneCell']) ?_))
    refine bodyPost_ret (v := .tuple #[.agg #[.int .u8 (yk % 256), .int .i64 ybp, .int .i64 ybe, .int .i64 ybf, .slice ybla ybln yblc, .int .i64 yo], .int .i64 0]) (results_cell_tmp Tryz.results15 _ _ w.heap.size (48 : TypeId) _ (0, 0) _ _ rfl rfl HR.out Tryz.underlying48 rfl (by kernel_rfl)) rfl ?_
    exact HE.out
  · have hgot := HNO.out hP
    rw [decide_eq_false hP]
    have HE : Hid (GPartC w zs (.returned (.tuple #[.agg #[.int .u8 0, .int .i64 0, .int .i64 0, .int .i64 0, .slice none 0 0, .int .i64 0], .int .i64 60])) (wq.setRow w.heap.size #[.int .u8 0, .int .i64 0, .int .i64 0, .int .i64 0, .slice none 0 0, .int .i64 0])) := hide (GPartC.no hgot (below_setRow hlowq (Nat.le_refl _) _))
    have HR : Hid ((wq.setRow w.heap.size #[.int .u8 0, .int .i64 0, .int .i64 0, .int .i64 0, .slice none 0 0, .int .i64 0]).heap[w.heap.size]? = some (.cells #[.int .u8 0, .int .i64 0, .int .i64 0, .int .i64 0, .slice none 0 0, .int .i64 0] (48 : TypeId) (0, 0))) := hide (setRow_heap wq w.heap.size _ _ (48 : TypeId) _ HG0.out)
    clear hgot hP hlowq
    go_wp2_with (refine wpList_store_row rfl (48 : TypeId) _ _ rfl w.heap.size #[.int .u8 0, .int .i64 0, .int .i64 0, .int .i64 0, .slice none 0 0, .int .i64 0] rfl rfl (48 : TypeId) _ HG0.out (by kernel_rfl) rfl (by simp [Value.oneCell']) ?_)
    refine bodyPost_ret (v := .tuple #[.agg #[.int .u8 0, .int .i64 0, .int .i64 0, .int .i64 0, .slice none 0 0, .int .i64 0], .int .i64 60]) (results_cell_tmp Tryz.results15 _ _ w.heap.size (48 : TypeId) _ (0, 0) _ _ rfl rfl HR.out Tryz.underlying48 rfl (by kernel_rfl)) rfl ?_
    exact HE.out

set_option maxHeartbeats 40000000 in
theorem refGetMeta_any (a : Option Addr) (hB : Bs w a n cap zs) (hn : n ≤ 70000) : Calls Tryz.prog 18 #[.slice a n cap] w (GMetaC w zs) := by
  obtain ⟨W0, HW0⟩ : ∃ W0, Hid (W0 = w.alloc (.cells #[.int .u8 0, .string ⟨#[]⟩, .string ⟨#[]⟩, .int .i64 0, .slice none 0 0, .string ⟨#[]⟩, .int .i64 0, .int .i64 0, .int .i64 0, .int .i64 0, .int .i64 0] (57 : TypeId))) := ⟨_, hide rfl⟩
  have hbW : Below w.heap.size w W0 := by rw [HW0.out]; exact fresh w _
  have hG0 : W0.heap[w.heap.size]? = some (.cells #[.int .u8 0, .string ⟨#[]⟩, .string ⟨#[]⟩, .int .i64 0, .slice none 0 0, .string ⟨#[]⟩, .int .i64 0, .int .i64 0, .int .i64 0, .int .i64 0, .int .i64 0] (57 : TypeId) (0, 0)) := by rw [HW0.out]; exact heap_alloc_new w _
  have HB := hide (hB.keep hbW)
  have HBY := hide hB.byte
  have HLN := hide hB.len
  have HC := hide (tbegin_any a HB.out)
  clear hB
  go_enter Tryz.func18, Tryz.ntmps18
  go_wp2_with fail
  rw [← HW0.out]
  refine HC.out.mono ?_
  rintro e wb ⟨R, l, bad, rfl, hT0, hbb, hor⟩
  have HOR := hide hor
  have hRl := hT0.lt
  have hG0 := (hbb.block _ (hp_lt hG0)).trans hG0
  have hb0 := Below.refl wb.heap.size wb
  have hsh := hT0.short
  have HC := hide (tmeta_any hT0)
  clear hT0 hor
  go_wp2_with fail
  refine HC.out.mono ?_
  rintro e w1 ⟨yk, yg, ym, yn, yla, yln, ylc, yqt, yqp, yo, yu, yc, ya, rfl, l1, b1, hB⟩
  clear HC
  have hG0 := hB.kt.block _ _ _ _ hG0 (by decide)
  have hA := hB.first hb0
  clear hB
  obtain ⟨V0, HV0⟩ : ∃ V, Hid (V = w1.alloc (.cells #[.int .u8 yk, .string yg, .string ym, .int .i64 yn, .slice yla yln ylc, .string yqt, .int .i64 yqp, .int .i64 yo, .int .i64 yu, .int .i64 yc, .int .i64 ya] (57 : TypeId))) := ⟨_, hide rfl⟩
  have hbx : Below w1.heap.size w1 V0 := by rw [HV0.out]; exact fresh w1 _
  have hG1 : V0.heap[w1.heap.size]? = some (.cells #[.int .u8 yk, .string yg, .string ym, .int .i64 yn, .slice yla yln ylc, .string yqt, .int .i64 yqp, .int .i64 yo, .int .i64 yu, .int .i64 yc, .int .i64 ya] (57 : TypeId) (0, 0)) := by rw [HV0.out]; exact heap_alloc_new w1 _
  have hne : w.heap.size < w1.heap.size := hp_lt hG0
  replace hG0 := (hbx.block _ (hp_lt hG0)).trans hG0
  replace hA := hA.beside (S := (57 : TypeId)) (by decide) (Kt.of_below hbx) (hbx.mono hA.kt.size) hRl
  clear hbx
  have hF : Aq Cod.meta' (fun V q => LMetaC V q [.int .u8 yk, .string yg, .string ym, .int .i64 yn, .slice yla yln ylc, .string yqt, .int .i64 yqp, .int .i64 yo, .int .i64 yu, .int .i64 yc, .int .i64 ya]) [(9 : TypeId)] 22 W0 R l bad l1 b1 wb V0 := hA
  obtain ⟨x, hLx, hlen, hex⟩ := hF.ex
  have hAx := LMetaC.arg _ _ _ hLx
  have hok := AMetaC.o _ _ _ hAx
  have hroom : (Cod.thing Cod.meta' 2 x).length ≤ 140737488355328 := by
    simp only [Cod.thing, List.length_cons]
    split at hlen <;> omega
  have hthb := thing_byte (k := 2) Cod.meta_law (by omega) hok
  obtain ⟨hyes, hno⟩ := get_same (k := 2) (most := 60000) Cod.meta_law HBY.out hok HLN.out (by omega) HOR.out hex
  have HP := hide (hAx.ref hroom)
  have HT := hide hF.tq
  have hBn := HB.out.keep hF.tq.low
  have hlow : Below w.heap.size w V0 := hbW.trans (hF.tq.low.mono hbW.size)
  have HLOW := hide hlow
  have HBN := hide hBn
  have HLX := hide hLx
  have HYES := hide hyes
  have HNO := hide hno
  have HTB := hide hthb
  have HG0 := hide hG0
  have HG1 := hide hG1
  clear hF hlen hex hAx hok hroom hthb hyes hno hBn hlow hLx hG0 hG1 hA
  have HGX : Hid (w1.alloc (.cells #[.int .u8 yk, .string yg, .string ym, .int .i64 yn, .slice yla yln ylc, .string yqt, .int .i64 yqp, .int .i64 yo, .int .i64 yu, .int .i64 yc, .int .i64 ya] (57 : TypeId)) = V0) := hide HV0.out.symm
  go_wp2_with (first | (rw [HGX.out]; refine wpList_load_row rfl (57 : TypeId) _ rfl w1.heap.size rfl (57 : TypeId) _ (0, 0) _ HG1.out Tryz.underlying57 rfl (by kernel_rfl) ?_))
  refine HP.out.mono ?_
  rintro e wp ⟨vp, rfl, hop, hbp⟩
  obtain ⟨pa, pd, rfl⟩ := own_val hop
  have HI := hide (tis_any (HT.out.keep hbp HT.out.lt) (own_bs hop HTB.out) (HBN.out.keep hbp) 60000 (most := 60000) rfl)
  have HBP := hide hbp
  clear hop hbp HP
  go_wp2_with fail
  refine HI.out.mono ?_
  rintro e wq ⟨rfl, rfl⟩
  clear HI
  have HG1 := hide ((HBP.out.block _ (hp_lt HG1.out)).trans HG1.out)
  have HG0 := hide ((HBP.out.block _ (hp_lt HG0.out)).trans HG0.out)
  have hlowq : Below w.heap.size w wq := HLOW.out.trans (HBP.out.mono HLOW.out.size)
  by_cases hP : b1 = false ∧ n ≤ 60000 ∧ Cod.thing Cod.meta' 2 x = zs
  · have hgot := HYES.out hP
    rw [decide_eq_true hP]
    have hLq : LMetaC (wq.setRow w.heap.size #[.int .u8 yk, .string yg, .string ym, .int .i64 yn, .slice yla yln ylc, .string yqt, .int .i64 yqp, .int .i64 yo, .int .i64 yu, .int .i64 yc, .int .i64 ya]) x [.int .u8 yk, .string yg, .string ym, .int .i64 yn, .slice yla yln ylc, .string yqt, .int .i64 yqp, .int .i64 yo, .int .i64 yu, .int .i64 yc, .int .i64 ya] := LMetaC.k (57 : TypeId) wq _ _ _ (by decide) (Kt.row1 HG0.out) (LMetaC.k.below HLX.out HBP.out)
    have HE : Hid (GMetaC w zs (.returned (.tuple #[.agg #[.int .u8 yk, .string yg, .string ym, .int .i64 yn, .slice yla yln ylc, .string yqt, .int .i64 yqp, .int .i64 yo, .int .i64 yu, .int .i64 yc, .int .i64 ya], .int .i64 0])) (wq.setRow w.heap.size #[.int .u8 yk, .string yg, .string ym, .int .i64 yn, .slice yla yln ylc, .string yqt, .int .i64 yqp, .int .i64 yo, .int .i64 yu, .int .i64 yc, .int .i64 ya])) := hide (GMetaC.yes hgot (below_setRow hlowq (Nat.le_refl _) _) hLq)
    have HR : Hid ((wq.setRow w.heap.size #[.int .u8 yk, .string yg, .string ym, .int .i64 yn, .slice yla yln ylc, .string yqt, .int .i64 yqp, .int .i64 yo, .int .i64 yu, .int .i64 yc, .int .i64 ya]).heap[w.heap.size]? = some (.cells #[.int .u8 yk, .string yg, .string ym, .int .i64 yn, .slice yla yln ylc, .string yqt, .int .i64 yqp, .int .i64 yo, .int .i64 yu, .int .i64 yc, .int .i64 ya] (57 : TypeId) (0, 0))) := hide (setRow_heap wq w.heap.size _ _ (57 : TypeId) _ HG0.out)
    clear hLq hgot hP hlowq
    go_wp2_with (first | (refine wpList_load_row rfl (57 : TypeId) _ rfl w1.heap.size rfl (57 : TypeId) _ (0, 0) _ HG1.out Tryz.underlying57 rfl (by kernel_rfl) ?_) | (refine wpList_store_row rfl (57 : TypeId) _ _ rfl w.heap.size #[.int .u8 yk, .string yg, .string ym, .int .i64 yn, .slice yla yln ylc, .string yqt, .int .i64 yqp, .int .i64 yo, .int .i64 yu, .int .i64 yc, .int .i64 ya] rfl rfl (57 : TypeId) _ HG0.out (by kernel_rfl) rfl (by simp [Value.oneCell']) ?_))
    refine bodyPost_ret (v := .tuple #[.agg #[.int .u8 yk, .string yg, .string ym, .int .i64 yn, .slice yla yln ylc, .string yqt, .int .i64 yqp, .int .i64 yo, .int .i64 yu, .int .i64 yc, .int .i64 ya], .int .i64 0]) (results_cell_tmp Tryz.results18 _ _ w.heap.size (57 : TypeId) _ (0, 0) _ _ rfl rfl HR.out Tryz.underlying57 rfl (by kernel_rfl)) rfl ?_
    exact HE.out
  · have hgot := HNO.out hP
    rw [decide_eq_false hP]
    have HE : Hid (GMetaC w zs (.returned (.tuple #[.agg #[.int .u8 0, .string ⟨#[]⟩, .string ⟨#[]⟩, .int .i64 0, .slice none 0 0, .string ⟨#[]⟩, .int .i64 0, .int .i64 0, .int .i64 0, .int .i64 0, .int .i64 0], .int .i64 60])) (wq.setRow w.heap.size #[.int .u8 0, .string ⟨#[]⟩, .string ⟨#[]⟩, .int .i64 0, .slice none 0 0, .string ⟨#[]⟩, .int .i64 0, .int .i64 0, .int .i64 0, .int .i64 0, .int .i64 0])) := hide (GMetaC.no hgot (below_setRow hlowq (Nat.le_refl _) _))
    have HR : Hid ((wq.setRow w.heap.size #[.int .u8 0, .string ⟨#[]⟩, .string ⟨#[]⟩, .int .i64 0, .slice none 0 0, .string ⟨#[]⟩, .int .i64 0, .int .i64 0, .int .i64 0, .int .i64 0, .int .i64 0]).heap[w.heap.size]? = some (.cells #[.int .u8 0, .string ⟨#[]⟩, .string ⟨#[]⟩, .int .i64 0, .slice none 0 0, .string ⟨#[]⟩, .int .i64 0, .int .i64 0, .int .i64 0, .int .i64 0, .int .i64 0] (57 : TypeId) (0, 0))) := hide (setRow_heap wq w.heap.size _ _ (57 : TypeId) _ HG0.out)
    clear hgot hP hlowq
    go_wp2_with (refine wpList_store_row rfl (57 : TypeId) _ _ rfl w.heap.size #[.int .u8 0, .string ⟨#[]⟩, .string ⟨#[]⟩, .int .i64 0, .slice none 0 0, .string ⟨#[]⟩, .int .i64 0, .int .i64 0, .int .i64 0, .int .i64 0, .int .i64 0] rfl rfl (57 : TypeId) _ HG0.out (by kernel_rfl) rfl (by simp [Value.oneCell']) ?_)
    refine bodyPost_ret (v := .tuple #[.agg #[.int .u8 0, .string ⟨#[]⟩, .string ⟨#[]⟩, .int .i64 0, .slice none 0 0, .string ⟨#[]⟩, .int .i64 0, .int .i64 0, .int .i64 0, .int .i64 0, .int .i64 0], .int .i64 60]) (results_cell_tmp Tryz.results18 _ _ w.heap.size (57 : TypeId) _ (0, 0) _ _ rfl rfl HR.out Tryz.underlying57 rfl (by kernel_rfl)) rfl ?_
    exact HE.out

end

end Go.Proofs.YtnimfkcnkkjlkaaGreat

/-
  The document's GetRequest.
-/
namespace Go.Proofs.YtnimfkcnkkjlkaaGreat
open Go.RowKit
set_option maxRecDepth 100000
set_option linter.unusedVariables false

section
variable {Wb w w' w0 w1 w2 : World} {R n cap : Nat} {l l' l1 l2 zs : List Int} {bad bad' b1 b2 : Bool}

theorem LRequest.arg : La LRequest ARequest := ((La.pr (La.refl _) (La.pr (La.refl _) (La.pr (La.refl _) (La.pr (La.refl _) (La.pr (La.refl _) (La.pr LBatch.arg (La.pr (La.refl _) (La.pr (La.refl _) (La.pr (La.refl _) LMetaC.arg)))))))))).is _

set_option maxHeartbeats 40000000 in
theorem refGetRequest_any (a : Option Addr) (hB : Bs w a n cap zs) (hn : n ≤ 70000) : Calls Tryz.prog 21 #[.slice a n cap] w (GRequest w zs) := by
  obtain ⟨W0, HW0⟩ : ∃ W0, Hid (W0 = w.alloc (.cells #[.int .u8 0, .int .i64 0, .int .i64 0, .string ⟨#[]⟩, .int .i64 0, .int .i64 0, .int .i64 0, .int .i64 0, .slice none 0 0, .int .i64 0, .int .i64 0, .int .i64 0, .int .u8 0, .string ⟨#[]⟩, .string ⟨#[]⟩, .int .i64 0, .slice none 0 0, .string ⟨#[]⟩, .int .i64 0, .int .i64 0, .int .i64 0, .int .i64 0, .int .i64 0] (63 : TypeId))) := ⟨_, hide rfl⟩
  have hbW : Below w.heap.size w W0 := by rw [HW0.out]; exact fresh w _
  have hG0 : W0.heap[w.heap.size]? = some (.cells #[.int .u8 0, .int .i64 0, .int .i64 0, .string ⟨#[]⟩, .int .i64 0, .int .i64 0, .int .i64 0, .int .i64 0, .slice none 0 0, .int .i64 0, .int .i64 0, .int .i64 0, .int .u8 0, .string ⟨#[]⟩, .string ⟨#[]⟩, .int .i64 0, .slice none 0 0, .string ⟨#[]⟩, .int .i64 0, .int .i64 0, .int .i64 0, .int .i64 0, .int .i64 0] (63 : TypeId) (0, 0)) := by rw [HW0.out]; exact heap_alloc_new w _
  have HB := hide (hB.keep hbW)
  have HBY := hide hB.byte
  have HLN := hide hB.len
  have HC := hide (tbegin_any a HB.out)
  clear hB
  go_enter Tryz.func21, Tryz.ntmps21
  go_wp2_with fail
  rw [← HW0.out]
  refine HC.out.mono ?_
  rintro e wb ⟨R, l, bad, rfl, hT0, hbb, hor⟩
  have HOR := hide hor
  have hRl := hT0.lt
  have hG0 := (hbb.block _ (hp_lt hG0)).trans hG0
  have hb0 := Below.refl wb.heap.size wb
  have hsh := hT0.short
  have HC := hide (tnum_any hT0)
  clear hT0 hor
  go_wp2_with fail
  refine HC.out.mono ?_
  rintro e w1 ⟨yk, rfl, hI1, l1, b1, hB⟩
  clear HC
  replace hB := hB.u8
  have hG0 := hB.kt.block _ _ _ _ hG0 (by decide)
  have hA := hB.first hb0
  clear hB
  have HAL := hide (heap_alloc_new w1 (.cells #[.int .u8 0, .int .i64 0, .int .i64 0, .string ⟨#[]⟩, .int .i64 0, .int .i64 0, .int .i64 0, .int .i64 0, .slice none 0 0, .int .i64 0, .int .i64 0, .int .i64 0, .int .u8 0, .string ⟨#[]⟩, .string ⟨#[]⟩, .int .i64 0, .slice none 0 0, .string ⟨#[]⟩, .int .i64 0, .int .i64 0, .int .i64 0, .int .i64 0, .int .i64 0] (63 : TypeId)))
  obtain ⟨V0, HV0⟩ : ∃ V, Hid (V = (w1.alloc (.cells #[.int .u8 0, .int .i64 0, .int .i64 0, .string ⟨#[]⟩, .int .i64 0, .int .i64 0, .int .i64 0, .int .i64 0, .slice none 0 0, .int .i64 0, .int .i64 0, .int .i64 0, .int .u8 0, .string ⟨#[]⟩, .string ⟨#[]⟩, .int .i64 0, .slice none 0 0, .string ⟨#[]⟩, .int .i64 0, .int .i64 0, .int .i64 0, .int .i64 0, .int .i64 0] (63 : TypeId))).setRow w1.heap.size #[.int .u8 (yk % 256), .int .i64 0, .int .i64 0, .string ⟨#[]⟩, .int .i64 0, .int .i64 0, .int .i64 0, .int .i64 0, .slice none 0 0, .int .i64 0, .int .i64 0, .int .i64 0, .int .u8 0, .string ⟨#[]⟩, .string ⟨#[]⟩, .int .i64 0, .slice none 0 0, .string ⟨#[]⟩, .int .i64 0, .int .i64 0, .int .i64 0, .int .i64 0, .int .i64 0]) := ⟨_, hide rfl⟩
  have hbx : Below w1.heap.size w1 V0 := by rw [HV0.out]; exact below_setRow (fresh w1 _) (Nat.le_refl _) _
  have hG1 : V0.heap[w1.heap.size]? = some (.cells #[.int .u8 (yk % 256), .int .i64 0, .int .i64 0, .string ⟨#[]⟩, .int .i64 0, .int .i64 0, .int .i64 0, .int .i64 0, .slice none 0 0, .int .i64 0, .int .i64 0, .int .i64 0, .int .u8 0, .string ⟨#[]⟩, .string ⟨#[]⟩, .int .i64 0, .slice none 0 0, .string ⟨#[]⟩, .int .i64 0, .int .i64 0, .int .i64 0, .int .i64 0, .int .i64 0] (63 : TypeId) (0, 0)) := by rw [HV0.out]; exact setRow_heap (w1.alloc (.cells #[.int .u8 0, .int .i64 0, .int .i64 0, .string ⟨#[]⟩, .int .i64 0, .int .i64 0, .int .i64 0, .int .i64 0, .slice none 0 0, .int .i64 0, .int .i64 0, .int .i64 0, .int .u8 0, .string ⟨#[]⟩, .string ⟨#[]⟩, .int .i64 0, .slice none 0 0, .string ⟨#[]⟩, .int .i64 0, .int .i64 0, .int .i64 0, .int .i64 0, .int .i64 0] (63 : TypeId))) w1.heap.size _ _ (63 : TypeId) _ HAL.out
  have hne : w.heap.size < w1.heap.size := hp_lt hG0
  replace hG0 := (hbx.block _ (hp_lt hG0)).trans hG0
  have hlB : wb.heap.size ≤ w1.heap.size := hA.kt.size
  replace hA := hA.beside (S := (63 : TypeId)) (by decide) (Kt.of_below hbx) (hbx.mono hA.kt.size) hRl
  have HA := hide hA
  have HG0 := hide hG0
  have HG1 := hide hG1
  clear hbx hA hG0 hG1
  have HC := hide (tnum_any HA.out.tq)
  go_wp2_with (refine wpList_store_row rfl (63 : TypeId) _ _ rfl w1.heap.size #[.int .u8 (yk % 256), .int .i64 0, .int .i64 0, .string ⟨#[]⟩, .int .i64 0, .int .i64 0, .int .i64 0, .int .i64 0, .slice none 0 0, .int .i64 0, .int .i64 0, .int .i64 0, .int .u8 0, .string ⟨#[]⟩, .string ⟨#[]⟩, .int .i64 0, .slice none 0 0, .string ⟨#[]⟩, .int .i64 0, .int .i64 0, .int .i64 0, .int .i64 0, .int .i64 0] rfl rfl (63 : TypeId) _ HAL.out (by kernel_rfl) rfl (by simp [Value.oneCell']) ?_; rw [← HV0.out])
  clear HAL
  refine HC.out.mono ?_
  rintro e w2 ⟨yc, rfl, hI2, l2, b2, hB⟩
  clear HC
  have hG0 := hB.kt.block _ _ _ _ HG0.out (by decide)
  have hG1 := hB.kt.block _ _ _ _ HG1.out (by decide)
  have hA := HA.out.step hB (by decide)
  clear hB HA HG0 HG1
  have c1_0 := (row_at hG1 1 (.int .i64 0) rfl).1
  have f1_0 := (row_at hG1 1 (.int .i64 0) rfl).2
  have s1 : (w2.setCell ⟨w1.heap.size, 1, none⟩ (.int .i64 yc)).heap[w1.heap.size]? = some (.cells #[.int .u8 (yk % 256), .int .i64 yc, .int .i64 0, .string ⟨#[]⟩, .int .i64 0, .int .i64 0, .int .i64 0, .int .i64 0, .slice none 0 0, .int .i64 0, .int .i64 0, .int .i64 0, .int .u8 0, .string ⟨#[]⟩, .string ⟨#[]⟩, .int .i64 0, .slice none 0 0, .string ⟨#[]⟩, .int .i64 0, .int .i64 0, .int .i64 0, .int .i64 0, .int .i64 0] (63 : TypeId) (0, 0)) := heap_setCell_same _ (w1.heap.size) 1 _ (63 : TypeId) (.int .i64 yc) hG1
  have h0_1 : (w2.setCell ⟨w1.heap.size, 1, none⟩ (.int .i64 yc)).heap[w.heap.size]? = some (.cells #[.int .u8 0, .int .i64 0, .int .i64 0, .string ⟨#[]⟩, .int .i64 0, .int .i64 0, .int .i64 0, .int .i64 0, .slice none 0 0, .int .i64 0, .int .i64 0, .int .i64 0, .int .u8 0, .string ⟨#[]⟩, .string ⟨#[]⟩, .int .i64 0, .slice none 0 0, .string ⟨#[]⟩, .int .i64 0, .int .i64 0, .int .i64 0, .int .i64 0, .int .i64 0] (63 : TypeId) (0, 0)) := (Below.heap_setCell _ _ _ _ (Nat.ne_of_lt hne)).trans hG0
  replace hA := hA.beside (S := (63 : TypeId)) (by decide) (Kt.set (i := 1) hG1 (.int .i64 yc)) ((Below.refl wb.heap.size w2).setCell hlB (.int .i64 yc)) hRl
  obtain ⟨V1, HV1⟩ : ∃ V, Hid (V = w2.setCell ⟨w1.heap.size, 1, none⟩ (.int .i64 yc)) := ⟨_, hide rfl⟩
  rw [← HV1.out] at hA h0_1 s1
  have HA := hide hA
  have HG0 := hide h0_1
  have HG1 := hide s1
  clear hA h0_1 hG1 hG0 s1
  have HC := hide (tnum_any HA.out.tq)
  go_wp2_with fail
  rw [← HV1.out]
  clear c1_0 f1_0
  refine HC.out.mono ?_
  rintro e w3 ⟨yd, rfl, hI3, l3, b3, hB⟩
  clear HC
  have hG0 := hB.kt.block _ _ _ _ HG0.out (by decide)
  have hG1 := hB.kt.block _ _ _ _ HG1.out (by decide)
  have hA := HA.out.step hB (by decide)
  clear hB HA HG0 HG1
  have c2_0 := (row_at hG1 2 (.int .i64 0) rfl).1
  have f2_0 := (row_at hG1 2 (.int .i64 0) rfl).2
  have s2 : (w3.setCell ⟨w1.heap.size, 2, none⟩ (.int .i64 yd)).heap[w1.heap.size]? = some (.cells #[.int .u8 (yk % 256), .int .i64 yc, .int .i64 yd, .string ⟨#[]⟩, .int .i64 0, .int .i64 0, .int .i64 0, .int .i64 0, .slice none 0 0, .int .i64 0, .int .i64 0, .int .i64 0, .int .u8 0, .string ⟨#[]⟩, .string ⟨#[]⟩, .int .i64 0, .slice none 0 0, .string ⟨#[]⟩, .int .i64 0, .int .i64 0, .int .i64 0, .int .i64 0, .int .i64 0] (63 : TypeId) (0, 0)) := heap_setCell_same _ (w1.heap.size) 2 _ (63 : TypeId) (.int .i64 yd) hG1
  have h0_2 : (w3.setCell ⟨w1.heap.size, 2, none⟩ (.int .i64 yd)).heap[w.heap.size]? = some (.cells #[.int .u8 0, .int .i64 0, .int .i64 0, .string ⟨#[]⟩, .int .i64 0, .int .i64 0, .int .i64 0, .int .i64 0, .slice none 0 0, .int .i64 0, .int .i64 0, .int .i64 0, .int .u8 0, .string ⟨#[]⟩, .string ⟨#[]⟩, .int .i64 0, .slice none 0 0, .string ⟨#[]⟩, .int .i64 0, .int .i64 0, .int .i64 0, .int .i64 0, .int .i64 0] (63 : TypeId) (0, 0)) := (Below.heap_setCell _ _ _ _ (Nat.ne_of_lt hne)).trans hG0
  replace hA := hA.beside (S := (63 : TypeId)) (by decide) (Kt.set (i := 2) hG1 (.int .i64 yd)) ((Below.refl wb.heap.size w3).setCell hlB (.int .i64 yd)) hRl
  obtain ⟨V2, HV2⟩ : ∃ V, Hid (V = w3.setCell ⟨w1.heap.size, 2, none⟩ (.int .i64 yd)) := ⟨_, hide rfl⟩
  rw [← HV2.out] at hA h0_2 s2
  have HA := hide hA
  have HG0 := hide h0_2
  have HG1 := hide s2
  clear hA h0_2 hG1 hG0 s2
  have HC := hide (ttext_any HA.out.tq)
  go_wp2_with fail
  rw [← HV2.out]
  clear c2_0 f2_0
  refine HC.out.mono ?_
  rintro e w4 ⟨yt, rfl, l4, b4, hB⟩
  clear HC
  have hG0 := hB.kt.block _ _ _ _ HG0.out (by decide)
  have hG1 := hB.kt.block _ _ _ _ HG1.out (by decide)
  have hA := HA.out.step hB (by decide)
  clear hB HA HG0 HG1
  have c3_0 := (row_at hG1 3 (.string ⟨#[]⟩) rfl).1
  have f3_0 := (row_at hG1 3 (.string ⟨#[]⟩) rfl).2
  have s3 : (w4.setCell ⟨w1.heap.size, 3, none⟩ (.string yt)).heap[w1.heap.size]? = some (.cells #[.int .u8 (yk % 256), .int .i64 yc, .int .i64 yd, .string yt, .int .i64 0, .int .i64 0, .int .i64 0, .int .i64 0, .slice none 0 0, .int .i64 0, .int .i64 0, .int .i64 0, .int .u8 0, .string ⟨#[]⟩, .string ⟨#[]⟩, .int .i64 0, .slice none 0 0, .string ⟨#[]⟩, .int .i64 0, .int .i64 0, .int .i64 0, .int .i64 0, .int .i64 0] (63 : TypeId) (0, 0)) := heap_setCell_same _ (w1.heap.size) 3 _ (63 : TypeId) (.string yt) hG1
  have h0_3 : (w4.setCell ⟨w1.heap.size, 3, none⟩ (.string yt)).heap[w.heap.size]? = some (.cells #[.int .u8 0, .int .i64 0, .int .i64 0, .string ⟨#[]⟩, .int .i64 0, .int .i64 0, .int .i64 0, .int .i64 0, .slice none 0 0, .int .i64 0, .int .i64 0, .int .i64 0, .int .u8 0, .string ⟨#[]⟩, .string ⟨#[]⟩, .int .i64 0, .slice none 0 0, .string ⟨#[]⟩, .int .i64 0, .int .i64 0, .int .i64 0, .int .i64 0, .int .i64 0] (63 : TypeId) (0, 0)) := (Below.heap_setCell _ _ _ _ (Nat.ne_of_lt hne)).trans hG0
  replace hA := hA.beside (S := (63 : TypeId)) (by decide) (Kt.set (i := 3) hG1 (.string yt)) ((Below.refl wb.heap.size w4).setCell hlB (.string yt)) hRl
  obtain ⟨V3, HV3⟩ : ∃ V, Hid (V = w4.setCell ⟨w1.heap.size, 3, none⟩ (.string yt)) := ⟨_, hide rfl⟩
  rw [← HV3.out] at hA h0_3 s3
  have HA := hide hA
  have HG0 := hide h0_3
  have HG1 := hide s3
  clear hA h0_3 hG1 hG0 s3
  have HC := hide (tnum_any HA.out.tq)
  go_wp2_with fail
  rw [← HV3.out]
  clear c3_0 f3_0
  refine HC.out.mono ?_
  rintro e w5 ⟨yp, rfl, hI5, l5, b5, hB⟩
  clear HC
  have hG0 := hB.kt.block _ _ _ _ HG0.out (by decide)
  have hG1 := hB.kt.block _ _ _ _ HG1.out (by decide)
  have hA := HA.out.step hB (by decide)
  clear hB HA HG0 HG1
  have c4_0 := (row_at hG1 4 (.int .i64 0) rfl).1
  have f4_0 := (row_at hG1 4 (.int .i64 0) rfl).2
  have s4 : (w5.setCell ⟨w1.heap.size, 4, none⟩ (.int .i64 yp)).heap[w1.heap.size]? = some (.cells #[.int .u8 (yk % 256), .int .i64 yc, .int .i64 yd, .string yt, .int .i64 yp, .int .i64 0, .int .i64 0, .int .i64 0, .slice none 0 0, .int .i64 0, .int .i64 0, .int .i64 0, .int .u8 0, .string ⟨#[]⟩, .string ⟨#[]⟩, .int .i64 0, .slice none 0 0, .string ⟨#[]⟩, .int .i64 0, .int .i64 0, .int .i64 0, .int .i64 0, .int .i64 0] (63 : TypeId) (0, 0)) := heap_setCell_same _ (w1.heap.size) 4 _ (63 : TypeId) (.int .i64 yp) hG1
  have h0_4 : (w5.setCell ⟨w1.heap.size, 4, none⟩ (.int .i64 yp)).heap[w.heap.size]? = some (.cells #[.int .u8 0, .int .i64 0, .int .i64 0, .string ⟨#[]⟩, .int .i64 0, .int .i64 0, .int .i64 0, .int .i64 0, .slice none 0 0, .int .i64 0, .int .i64 0, .int .i64 0, .int .u8 0, .string ⟨#[]⟩, .string ⟨#[]⟩, .int .i64 0, .slice none 0 0, .string ⟨#[]⟩, .int .i64 0, .int .i64 0, .int .i64 0, .int .i64 0, .int .i64 0] (63 : TypeId) (0, 0)) := (Below.heap_setCell _ _ _ _ (Nat.ne_of_lt hne)).trans hG0
  replace hA := hA.beside (S := (63 : TypeId)) (by decide) (Kt.set (i := 4) hG1 (.int .i64 yp)) ((Below.refl wb.heap.size w5).setCell hlB (.int .i64 yp)) hRl
  obtain ⟨V4, HV4⟩ : ∃ V, Hid (V = w5.setCell ⟨w1.heap.size, 4, none⟩ (.int .i64 yp)) := ⟨_, hide rfl⟩
  rw [← HV4.out] at hA h0_4 s4
  have HA := hide hA
  have HG0 := hide h0_4
  have HG1 := hide s4
  clear hA h0_4 hG1 hG0 s4
  have HC := hide (tbatch_any HA.out.tq)
  go_wp2_with fail
  rw [← HV4.out]
  clear c4_0 f4_0
  refine HC.out.mono ?_
  rintro e w6 ⟨ybp, ybe, ybf, ybla, ybln, yblc, rfl, l6, b6, hB⟩
  clear HC
  have hG0 := hB.kt.block _ _ _ _ HG0.out (by decide)
  have hG1 := hB.kt.block _ _ _ _ HG1.out (by decide)
  have hA := HA.out.step hB (by decide)
  clear hB HA HG0 HG1
  have HTH := hide (there_row hG1 5 4 (by simp))
  have s5 : (w6.setCells w1.heap.size 5 [.int .i64 ybp, .int .i64 ybe, .int .i64 ybf, .slice ybla ybln yblc]).heap[w1.heap.size]? = some (.cells #[.int .u8 (yk % 256), .int .i64 yc, .int .i64 yd, .string yt, .int .i64 yp, .int .i64 ybp, .int .i64 ybe, .int .i64 ybf, .slice ybla ybln yblc, .int .i64 0, .int .i64 0, .int .i64 0, .int .u8 0, .string ⟨#[]⟩, .string ⟨#[]⟩, .int .i64 0, .slice none 0 0, .string ⟨#[]⟩, .int .i64 0, .int .i64 0, .int .i64 0, .int .i64 0, .int .i64 0] (63 : TypeId) (0, 0)) := by rw [row_setCells [.int .i64 ybp, .int .i64 ybe, .int .i64 ybf, .slice ybla ybln yblc] 5 _ _ hG1, show putAt #[.int .u8 (yk % 256), .int .i64 yc, .int .i64 yd, .string yt, .int .i64 yp, .int .i64 0, .int .i64 0, .int .i64 0, .slice none 0 0, .int .i64 0, .int .i64 0, .int .i64 0, .int .u8 0, .string ⟨#[]⟩, .string ⟨#[]⟩, .int .i64 0, .slice none 0 0, .string ⟨#[]⟩, .int .i64 0, .int .i64 0, .int .i64 0, .int .i64 0, .int .i64 0] 5 [.int .i64 ybp, .int .i64 ybe, .int .i64 ybf, .slice ybla ybln yblc] = #[.int .u8 (yk % 256), .int .i64 yc, .int .i64 yd, .string yt, .int .i64 yp, .int .i64 ybp, .int .i64 ybe, .int .i64 ybf, .slice ybla ybln yblc, .int .i64 0, .int .i64 0, .int .i64 0, .int .u8 0, .string ⟨#[]⟩, .string ⟨#[]⟩, .int .i64 0, .slice none 0 0, .string ⟨#[]⟩, .int .i64 0, .int .i64 0, .int .i64 0, .int .i64 0, .int .i64 0] by simp only [putAt, List.setIfInBounds_toArray, List.set_cons_succ, List.set_cons_zero]]
  have h0_5 : (w6.setCells w1.heap.size 5 [.int .i64 ybp, .int .i64 ybe, .int .i64 ybf, .slice ybla ybln yblc]).heap[w.heap.size]? = some (.cells #[.int .u8 0, .int .i64 0, .int .i64 0, .string ⟨#[]⟩, .int .i64 0, .int .i64 0, .int .i64 0, .int .i64 0, .slice none 0 0, .int .i64 0, .int .i64 0, .int .i64 0, .int .u8 0, .string ⟨#[]⟩, .string ⟨#[]⟩, .int .i64 0, .slice none 0 0, .string ⟨#[]⟩, .int .i64 0, .int .i64 0, .int .i64 0, .int .i64 0, .int .i64 0] (63 : TypeId) (0, 0)) := (other_setCells (Nat.ne_of_lt hne) [.int .i64 ybp, .int .i64 ybe, .int .i64 ybf, .slice ybla ybln yblc] 5 _).trans hG0
  replace hA := hA.beside (S := (63 : TypeId)) (by decide) (kt_setCells [.int .i64 ybp, .int .i64 ybe, .int .i64 ybf, .slice ybla ybln yblc] 5 _ _ hG1) (below_setCells hlB [.int .i64 ybp, .int .i64 ybe, .int .i64 ybf, .slice ybla ybln yblc] 5 _ _ (Below.refl wb.heap.size w6)) hRl
  obtain ⟨V5, HV5⟩ : ∃ V, Hid (V = w6.setCells w1.heap.size 5 [.int .i64 ybp, .int .i64 ybe, .int .i64 ybf, .slice ybla ybln yblc]) := ⟨_, hide rfl⟩
  rw [← HV5.out] at hA h0_5 s5
  have HA := hide hA
  have HG0 := hide h0_5
  have HG1 := hide s5
  clear hA h0_5 hG1 hG0 s5
  have HC := hide (tnum_any HA.out.tq)
  go_wp2_with (refine wpList_store_mid rfl (46 : TypeId) _ _ rfl w1.heap.size 5 #[.int .i64 ybp, .int .i64 ybe, .int .i64 ybf, .slice ybla ybln yblc] rfl rfl HTH.out (by kernel_rfl) (by simp [Value.oneCell']) ?_; rw [← HV5.out])
  clear HTH
  refine HC.out.mono ?_
  rintro e w7 ⟨yo, rfl, hI7, l7, b7, hB⟩
  clear HC
  have hG0 := hB.kt.block _ _ _ _ HG0.out (by decide)
  have hG1 := hB.kt.block _ _ _ _ HG1.out (by decide)
  have hA := HA.out.step hB (by decide)
  clear hB HA HG0 HG1
  have c6_0 := (row_at hG1 9 (.int .i64 0) rfl).1
  have f6_0 := (row_at hG1 9 (.int .i64 0) rfl).2
  have s6 : (w7.setCell ⟨w1.heap.size, 9, none⟩ (.int .i64 yo)).heap[w1.heap.size]? = some (.cells #[.int .u8 (yk % 256), .int .i64 yc, .int .i64 yd, .string yt, .int .i64 yp, .int .i64 ybp, .int .i64 ybe, .int .i64 ybf, .slice ybla ybln yblc, .int .i64 yo, .int .i64 0, .int .i64 0, .int .u8 0, .string ⟨#[]⟩, .string ⟨#[]⟩, .int .i64 0, .slice none 0 0, .string ⟨#[]⟩, .int .i64 0, .int .i64 0, .int .i64 0, .int .i64 0, .int .i64 0] (63 : TypeId) (0, 0)) := heap_setCell_same _ (w1.heap.size) 9 _ (63 : TypeId) (.int .i64 yo) hG1
  have h0_6 : (w7.setCell ⟨w1.heap.size, 9, none⟩ (.int .i64 yo)).heap[w.heap.size]? = some (.cells #[.int .u8 0, .int .i64 0, .int .i64 0, .string ⟨#[]⟩, .int .i64 0, .int .i64 0, .int .i64 0, .int .i64 0, .slice none 0 0, .int .i64 0, .int .i64 0, .int .i64 0, .int .u8 0, .string ⟨#[]⟩, .string ⟨#[]⟩, .int .i64 0, .slice none 0 0, .string ⟨#[]⟩, .int .i64 0, .int .i64 0, .int .i64 0, .int .i64 0, .int .i64 0] (63 : TypeId) (0, 0)) := (Below.heap_setCell _ _ _ _ (Nat.ne_of_lt hne)).trans hG0
  replace hA := hA.beside (S := (63 : TypeId)) (by decide) (Kt.set (i := 9) hG1 (.int .i64 yo)) ((Below.refl wb.heap.size w7).setCell hlB (.int .i64 yo)) hRl
  obtain ⟨V6, HV6⟩ : ∃ V, Hid (V = w7.setCell ⟨w1.heap.size, 9, none⟩ (.int .i64 yo)) := ⟨_, hide rfl⟩
  rw [← HV6.out] at hA h0_6 s6
  have HA := hide hA
  have HG0 := hide h0_6
  have HG1 := hide s6
  clear hA h0_6 hG1 hG0 s6
  have HC := hide (tnum_any HA.out.tq)
  go_wp2_with fail
  rw [← HV6.out]
  clear c6_0 f6_0
  refine HC.out.mono ?_
  rintro e w8 ⟨ym, rfl, hI8, l8, b8, hB⟩
  clear HC
  have hG0 := hB.kt.block _ _ _ _ HG0.out (by decide)
  have hG1 := hB.kt.block _ _ _ _ HG1.out (by decide)
  have hA := HA.out.step hB (by decide)
  clear hB HA HG0 HG1
  have c7_0 := (row_at hG1 10 (.int .i64 0) rfl).1
  have f7_0 := (row_at hG1 10 (.int .i64 0) rfl).2
  have s7 : (w8.setCell ⟨w1.heap.size, 10, none⟩ (.int .i64 ym)).heap[w1.heap.size]? = some (.cells #[.int .u8 (yk % 256), .int .i64 yc, .int .i64 yd, .string yt, .int .i64 yp, .int .i64 ybp, .int .i64 ybe, .int .i64 ybf, .slice ybla ybln yblc, .int .i64 yo, .int .i64 ym, .int .i64 0, .int .u8 0, .string ⟨#[]⟩, .string ⟨#[]⟩, .int .i64 0, .slice none 0 0, .string ⟨#[]⟩, .int .i64 0, .int .i64 0, .int .i64 0, .int .i64 0, .int .i64 0] (63 : TypeId) (0, 0)) := heap_setCell_same _ (w1.heap.size) 10 _ (63 : TypeId) (.int .i64 ym) hG1
  have h0_7 : (w8.setCell ⟨w1.heap.size, 10, none⟩ (.int .i64 ym)).heap[w.heap.size]? = some (.cells #[.int .u8 0, .int .i64 0, .int .i64 0, .string ⟨#[]⟩, .int .i64 0, .int .i64 0, .int .i64 0, .int .i64 0, .slice none 0 0, .int .i64 0, .int .i64 0, .int .i64 0, .int .u8 0, .string ⟨#[]⟩, .string ⟨#[]⟩, .int .i64 0, .slice none 0 0, .string ⟨#[]⟩, .int .i64 0, .int .i64 0, .int .i64 0, .int .i64 0, .int .i64 0] (63 : TypeId) (0, 0)) := (Below.heap_setCell _ _ _ _ (Nat.ne_of_lt hne)).trans hG0
  replace hA := hA.beside (S := (63 : TypeId)) (by decide) (Kt.set (i := 10) hG1 (.int .i64 ym)) ((Below.refl wb.heap.size w8).setCell hlB (.int .i64 ym)) hRl
  obtain ⟨V7, HV7⟩ : ∃ V, Hid (V = w8.setCell ⟨w1.heap.size, 10, none⟩ (.int .i64 ym)) := ⟨_, hide rfl⟩
  rw [← HV7.out] at hA h0_7 s7
  have HA := hide hA
  have HG0 := hide h0_7
  have HG1 := hide s7
  clear hA h0_7 hG1 hG0 s7
  have HC := hide (tnum_any HA.out.tq)
  go_wp2_with fail
  rw [← HV7.out]
  clear c7_0 f7_0
  refine HC.out.mono ?_
  rintro e w9 ⟨yz, rfl, hI9, l9, b9, hB⟩
  clear HC
  have hG0 := hB.kt.block _ _ _ _ HG0.out (by decide)
  have hG1 := hB.kt.block _ _ _ _ HG1.out (by decide)
  have hA := HA.out.step hB (by decide)
  clear hB HA HG0 HG1
  have c8_0 := (row_at hG1 11 (.int .i64 0) rfl).1
  have f8_0 := (row_at hG1 11 (.int .i64 0) rfl).2
  have s8 : (w9.setCell ⟨w1.heap.size, 11, none⟩ (.int .i64 yz)).heap[w1.heap.size]? = some (.cells #[.int .u8 (yk % 256), .int .i64 yc, .int .i64 yd, .string yt, .int .i64 yp, .int .i64 ybp, .int .i64 ybe, .int .i64 ybf, .slice ybla ybln yblc, .int .i64 yo, .int .i64 ym, .int .i64 yz, .int .u8 0, .string ⟨#[]⟩, .string ⟨#[]⟩, .int .i64 0, .slice none 0 0, .string ⟨#[]⟩, .int .i64 0, .int .i64 0, .int .i64 0, .int .i64 0, .int .i64 0] (63 : TypeId) (0, 0)) := heap_setCell_same _ (w1.heap.size) 11 _ (63 : TypeId) (.int .i64 yz) hG1
  have h0_8 : (w9.setCell ⟨w1.heap.size, 11, none⟩ (.int .i64 yz)).heap[w.heap.size]? = some (.cells #[.int .u8 0, .int .i64 0, .int .i64 0, .string ⟨#[]⟩, .int .i64 0, .int .i64 0, .int .i64 0, .int .i64 0, .slice none 0 0, .int .i64 0, .int .i64 0, .int .i64 0, .int .u8 0, .string ⟨#[]⟩, .string ⟨#[]⟩, .int .i64 0, .slice none 0 0, .string ⟨#[]⟩, .int .i64 0, .int .i64 0, .int .i64 0, .int .i64 0, .int .i64 0] (63 : TypeId) (0, 0)) := (Below.heap_setCell _ _ _ _ (Nat.ne_of_lt hne)).trans hG0
  replace hA := hA.beside (S := (63 : TypeId)) (by decide) (Kt.set (i := 11) hG1 (.int .i64 yz)) ((Below.refl wb.heap.size w9).setCell hlB (.int .i64 yz)) hRl
  obtain ⟨V8, HV8⟩ : ∃ V, Hid (V = w9.setCell ⟨w1.heap.size, 11, none⟩ (.int .i64 yz)) := ⟨_, hide rfl⟩
  rw [← HV8.out] at hA h0_8 s8
  have HA := hide hA
  have HG0 := hide h0_8
  have HG1 := hide s8
  clear hA h0_8 hG1 hG0 s8
  have HC := hide (tmeta_any HA.out.tq)
  go_wp2_with fail
  rw [← HV8.out]
  clear c8_0 f8_0
  refine HC.out.mono ?_
  rintro e w10 ⟨yyk, yyg, yym, yyn, yyla, yyln, yylc, yyqt, yyqp, yyo, yyu, yyc, yya, rfl, l10, b10, hB⟩
  clear HC
  have hG0 := hB.kt.block _ _ _ _ HG0.out (by decide)
  have hG1 := hB.kt.block _ _ _ _ HG1.out (by decide)
  have hA := HA.out.step hB (by decide)
  clear hB HA HG0 HG1
  have HTH := hide (there_row hG1 12 11 (by simp))
  have s9 : (w10.setCells w1.heap.size 12 [.int .u8 yyk, .string yyg, .string yym, .int .i64 yyn, .slice yyla yyln yylc, .string yyqt, .int .i64 yyqp, .int .i64 yyo, .int .i64 yyu, .int .i64 yyc, .int .i64 yya]).heap[w1.heap.size]? = some (.cells #[.int .u8 (yk % 256), .int .i64 yc, .int .i64 yd, .string yt, .int .i64 yp, .int .i64 ybp, .int .i64 ybe, .int .i64 ybf, .slice ybla ybln yblc, .int .i64 yo, .int .i64 ym, .int .i64 yz, .int .u8 yyk, .string yyg, .string yym, .int .i64 yyn, .slice yyla yyln yylc, .string yyqt, .int .i64 yyqp, .int .i64 yyo, .int .i64 yyu, .int .i64 yyc, .int .i64 yya] (63 : TypeId) (0, 0)) := by rw [row_setCells [.int .u8 yyk, .string yyg, .string yym, .int .i64 yyn, .slice yyla yyln yylc, .string yyqt, .int .i64 yyqp, .int .i64 yyo, .int .i64 yyu, .int .i64 yyc, .int .i64 yya] 12 _ _ hG1, show putAt #[.int .u8 (yk % 256), .int .i64 yc, .int .i64 yd, .string yt, .int .i64 yp, .int .i64 ybp, .int .i64 ybe, .int .i64 ybf, .slice ybla ybln yblc, .int .i64 yo, .int .i64 ym, .int .i64 yz, .int .u8 0, .string ⟨#[]⟩, .string ⟨#[]⟩, .int .i64 0, .slice none 0 0, .string ⟨#[]⟩, .int .i64 0, .int .i64 0, .int .i64 0, .int .i64 0, .int .i64 0] 12 [.int .u8 yyk, .string yyg, .string yym, .int .i64 yyn, .slice yyla yyln yylc, .string yyqt, .int .i64 yyqp, .int .i64 yyo, .int .i64 yyu, .int .i64 yyc, .int .i64 yya] = #[.int .u8 (yk % 256), .int .i64 yc, .int .i64 yd, .string yt, .int .i64 yp, .int .i64 ybp, .int .i64 ybe, .int .i64 ybf, .slice ybla ybln yblc, .int .i64 yo, .int .i64 ym, .int .i64 yz, .int .u8 yyk, .string yyg, .string yym, .int .i64 yyn, .slice yyla yyln yylc, .string yyqt, .int .i64 yyqp, .int .i64 yyo, .int .i64 yyu, .int .i64 yyc, .int .i64 yya] by simp only [putAt, List.setIfInBounds_toArray, List.set_cons_succ, List.set_cons_zero]]
  have h0_9 : (w10.setCells w1.heap.size 12 [.int .u8 yyk, .string yyg, .string yym, .int .i64 yyn, .slice yyla yyln yylc, .string yyqt, .int .i64 yyqp, .int .i64 yyo, .int .i64 yyu, .int .i64 yyc, .int .i64 yya]).heap[w.heap.size]? = some (.cells #[.int .u8 0, .int .i64 0, .int .i64 0, .string ⟨#[]⟩, .int .i64 0, .int .i64 0, .int .i64 0, .int .i64 0, .slice none 0 0, .int .i64 0, .int .i64 0, .int .i64 0, .int .u8 0, .string ⟨#[]⟩, .string ⟨#[]⟩, .int .i64 0, .slice none 0 0, .string ⟨#[]⟩, .int .i64 0, .int .i64 0, .int .i64 0, .int .i64 0, .int .i64 0] (63 : TypeId) (0, 0)) := (other_setCells (Nat.ne_of_lt hne) [.int .u8 yyk, .string yyg, .string yym, .int .i64 yyn, .slice yyla yyln yylc, .string yyqt, .int .i64 yyqp, .int .i64 yyo, .int .i64 yyu, .int .i64 yyc, .int .i64 yya] 12 _).trans hG0
  replace hA := hA.beside (S := (63 : TypeId)) (by decide) (kt_setCells [.int .u8 yyk, .string yyg, .string yym, .int .i64 yyn, .slice yyla yyln yylc, .string yyqt, .int .i64 yyqp, .int .i64 yyo, .int .i64 yyu, .int .i64 yyc, .int .i64 yya] 12 _ _ hG1) (below_setCells hlB [.int .u8 yyk, .string yyg, .string yym, .int .i64 yyn, .slice yyla yyln yylc, .string yyqt, .int .i64 yyqp, .int .i64 yyo, .int .i64 yyu, .int .i64 yyc, .int .i64 yya] 12 _ _ (Below.refl wb.heap.size w10)) hRl
  obtain ⟨V9, HV9⟩ : ∃ V, Hid (V = w10.setCells w1.heap.size 12 [.int .u8 yyk, .string yyg, .string yym, .int .i64 yyn, .slice yyla yyln yylc, .string yyqt, .int .i64 yyqp, .int .i64 yyo, .int .i64 yyu, .int .i64 yyc, .int .i64 yya]) := ⟨_, hide rfl⟩
  rw [← HV9.out] at hA h0_9 s9
  have HA := hide hA
  have HG0 := hide h0_9
  have HG1 := hide s9
  clear hA h0_9 hG1 hG0 s9
  have hA := HA.out
  have hG0 := HG0.out
  have hG1 := HG1.out
  clear HA HG0 HG1
  have hF : Aq Cod.request (fun V q => LRequest V q [.int .u8 (yk % 256), .int .i64 yc, .int .i64 yd, .string yt, .int .i64 yp, .int .i64 ybp, .int .i64 ybe, .int .i64 ybf, .slice ybla ybln yblc, .int .i64 yo, .int .i64 ym, .int .i64 yz, .int .u8 yyk, .string yyg, .string yym, .int .i64 yyn, .slice yyla yyln yylc, .string yyqt, .int .i64 yyqp, .int .i64 yyo, .int .i64 yyu, .int .i64 yyc, .int .i64 yya]) [(32 : TypeId), (5 : TypeId), (9 : TypeId)] 45 W0 R l bad l10 b10 wb V9 := (hA.assoc.assoc.assoc.assoc.assoc.assoc.assoc.assoc).iso (f := _) (g := _) (fun _ => rfl) (fun q hq => by obtain ⟨⟨⟨⟨⟨⟨⟨⟨⟨h0, h1⟩, h2⟩, h3⟩, h4⟩, h5⟩, h6⟩, h7⟩, h8⟩, h9⟩ := hq; exact ⟨_, _, rfl, h0, _, _, rfl, h1, _, _, rfl, h2, _, _, rfl, h3, _, _, rfl, h4, _, _, rfl, h5, _, _, rfl, h6, _, _, rfl, h7, _, _, rfl, h8, h9⟩) LRequest.k
  obtain ⟨x, hLx, hlen, hex⟩ := hF.ex
  have hAx := LRequest.arg _ _ _ hLx
  have hok := ARequest.o _ _ _ hAx
  have hroom : (Cod.thing Cod.request 5 x).length ≤ 140737488355328 := by
    simp only [Cod.thing, List.length_cons]
    split at hlen <;> omega
  have hthb := thing_byte (k := 5) Cod.request_law (by omega) hok
  obtain ⟨hyes, hno⟩ := get_same (k := 5) (most := 60000) Cod.request_law HBY.out hok HLN.out (by omega) HOR.out hex
  have HP := hide (hAx.ref hroom)
  have HT := hide hF.tq
  have hBn := HB.out.keep hF.tq.low
  have hlow : Below w.heap.size w V9 := hbW.trans (hF.tq.low.mono hbW.size)
  have HLOW := hide hlow
  have HBN := hide hBn
  have HLX := hide hLx
  have HYES := hide hyes
  have HNO := hide hno
  have HTB := hide hthb
  have HG0 := hide hG0
  have HG1 := hide hG1
  clear hF hlen hex hAx hok hroom hthb hyes hno hBn hlow hLx hG0 hG1 hA
  have HGX : Hid (w10.setCells w1.heap.size 12 [.int .u8 yyk, .string yyg, .string yym, .int .i64 yyn, .slice yyla yyln yylc, .string yyqt, .int .i64 yyqp, .int .i64 yyo, .int .i64 yyu, .int .i64 yyc, .int .i64 yya] = V9) := hide HV9.out.symm
  go_wp2_with (first | (refine wpList_store_mid rfl (57 : TypeId) _ _ rfl w1.heap.size 12 #[.int .u8 yyk, .string yyg, .string yym, .int .i64 yyn, .slice yyla yyln yylc, .string yyqt, .int .i64 yyqp, .int .i64 yyo, .int .i64 yyu, .int .i64 yyc, .int .i64 yya] rfl rfl HTH.out (by kernel_rfl) (by simp [Value.oneCell']) ?_; rw [HGX.out]) | ((try rw [HGX.out]); refine wpList_load_row rfl (63 : TypeId) _ rfl w1.heap.size rfl (63 : TypeId) _ (0, 0) _ HG1.out Tryz.underlying63 rfl (by kernel_rfl) ?_))
  refine HP.out.mono ?_
  rintro e wp ⟨vp, rfl, hop, hbp⟩
  obtain ⟨pa, pd, rfl⟩ := own_val hop
  have HI := hide (tis_any (HT.out.keep hbp HT.out.lt) (own_bs hop HTB.out) (HBN.out.keep hbp) 60000 (most := 60000) rfl)
  have HBP := hide hbp
  clear hop hbp HP
  go_wp2_with fail
  refine HI.out.mono ?_
  rintro e wq ⟨rfl, rfl⟩
  clear HI
  have HG1 := hide ((HBP.out.block _ (hp_lt HG1.out)).trans HG1.out)
  have HG0 := hide ((HBP.out.block _ (hp_lt HG0.out)).trans HG0.out)
  have hlowq : Below w.heap.size w wq := HLOW.out.trans (HBP.out.mono HLOW.out.size)
  by_cases hP : b10 = false ∧ n ≤ 60000 ∧ Cod.thing Cod.request 5 x = zs
  · have hgot := HYES.out hP
    rw [decide_eq_true hP]
    have hLq : LRequest (wq.setRow w.heap.size #[.int .u8 (yk % 256), .int .i64 yc, .int .i64 yd, .string yt, .int .i64 yp, .int .i64 ybp, .int .i64 ybe, .int .i64 ybf, .slice ybla ybln yblc, .int .i64 yo, .int .i64 ym, .int .i64 yz, .int .u8 yyk, .string yyg, .string yym, .int .i64 yyn, .slice yyla yyln yylc, .string yyqt, .int .i64 yyqp, .int .i64 yyo, .int .i64 yyu, .int .i64 yyc, .int .i64 yya]) x [.int .u8 (yk % 256), .int .i64 yc, .int .i64 yd, .string yt, .int .i64 yp, .int .i64 ybp, .int .i64 ybe, .int .i64 ybf, .slice ybla ybln yblc, .int .i64 yo, .int .i64 ym, .int .i64 yz, .int .u8 yyk, .string yyg, .string yym, .int .i64 yyn, .slice yyla yyln yylc, .string yyqt, .int .i64 yyqp, .int .i64 yyo, .int .i64 yyu, .int .i64 yyc, .int .i64 yya] := LRequest.k (63 : TypeId) wq _ _ _ (by decide) (Kt.row1 HG0.out) (LRequest.k.below HLX.out HBP.out)
    have HE : Hid (GRequest w zs (.returned (.tuple #[.agg #[.int .u8 (yk % 256), .int .i64 yc, .int .i64 yd, .string yt, .int .i64 yp, .int .i64 ybp, .int .i64 ybe, .int .i64 ybf, .slice ybla ybln yblc, .int .i64 yo, .int .i64 ym, .int .i64 yz, .int .u8 yyk, .string yyg, .string yym, .int .i64 yyn, .slice yyla yyln yylc, .string yyqt, .int .i64 yyqp, .int .i64 yyo, .int .i64 yyu, .int .i64 yyc, .int .i64 yya], .int .i64 0])) (wq.setRow w.heap.size #[.int .u8 (yk % 256), .int .i64 yc, .int .i64 yd, .string yt, .int .i64 yp, .int .i64 ybp, .int .i64 ybe, .int .i64 ybf, .slice ybla ybln yblc, .int .i64 yo, .int .i64 ym, .int .i64 yz, .int .u8 yyk, .string yyg, .string yym, .int .i64 yyn, .slice yyla yyln yylc, .string yyqt, .int .i64 yyqp, .int .i64 yyo, .int .i64 yyu, .int .i64 yyc, .int .i64 yya])) := hide (GRequest.yes hgot (below_setRow hlowq (Nat.le_refl _) _) hLq)
    have HR : Hid ((wq.setRow w.heap.size #[.int .u8 (yk % 256), .int .i64 yc, .int .i64 yd, .string yt, .int .i64 yp, .int .i64 ybp, .int .i64 ybe, .int .i64 ybf, .slice ybla ybln yblc, .int .i64 yo, .int .i64 ym, .int .i64 yz, .int .u8 yyk, .string yyg, .string yym, .int .i64 yyn, .slice yyla yyln yylc, .string yyqt, .int .i64 yyqp, .int .i64 yyo, .int .i64 yyu, .int .i64 yyc, .int .i64 yya]).heap[w.heap.size]? = some (.cells #[.int .u8 (yk % 256), .int .i64 yc, .int .i64 yd, .string yt, .int .i64 yp, .int .i64 ybp, .int .i64 ybe, .int .i64 ybf, .slice ybla ybln yblc, .int .i64 yo, .int .i64 ym, .int .i64 yz, .int .u8 yyk, .string yyg, .string yym, .int .i64 yyn, .slice yyla yyln yylc, .string yyqt, .int .i64 yyqp, .int .i64 yyo, .int .i64 yyu, .int .i64 yyc, .int .i64 yya] (63 : TypeId) (0, 0))) := hide (setRow_heap wq w.heap.size _ _ (63 : TypeId) _ HG0.out)
    clear hLq hgot hP hlowq
    go_wp2_with (first | (refine wpList_load_row rfl (63 : TypeId) _ rfl w1.heap.size rfl (63 : TypeId) _ (0, 0) _ HG1.out Tryz.underlying63 rfl (by kernel_rfl) ?_) | (refine wpList_store_row rfl (63 : TypeId) _ _ rfl w.heap.size #[.int .u8 (yk % 256), .int .i64 yc, .int .i64 yd, .string yt, .int .i64 yp, .int .i64 ybp, .int .i64 ybe, .int .i64 ybf, .slice ybla ybln yblc, .int .i64 yo, .int .i64 ym, .int .i64 yz, .int .u8 yyk, .string yyg, .string yym, .int .i64 yyn, .slice yyla yyln yylc, .string yyqt, .int .i64 yyqp, .int .i64 yyo, .int .i64 yyu, .int .i64 yyc, .int .i64 yya] rfl rfl (63 : TypeId) _ HG0.out (by kernel_rfl) rfl (by simp [Value.oneCell']) ?_))
    refine bodyPost_ret (v := .tuple #[.agg #[.int .u8 (yk % 256), .int .i64 yc, .int .i64 yd, .string yt, .int .i64 yp, .int .i64 ybp, .int .i64 ybe, .int .i64 ybf, .slice ybla ybln yblc, .int .i64 yo, .int .i64 ym, .int .i64 yz, .int .u8 yyk, .string yyg, .string yym, .int .i64 yyn, .slice yyla yyln yylc, .string yyqt, .int .i64 yyqp, .int .i64 yyo, .int .i64 yyu, .int .i64 yyc, .int .i64 yya], .int .i64 0]) (results_cell_tmp Tryz.results21 _ _ w.heap.size (63 : TypeId) _ (0, 0) _ _ rfl rfl HR.out Tryz.underlying63 rfl (by kernel_rfl)) rfl ?_
    exact HE.out
  · have hgot := HNO.out hP
    rw [decide_eq_false hP]
    have HE : Hid (GRequest w zs (.returned (.tuple #[.agg #[.int .u8 0, .int .i64 0, .int .i64 0, .string ⟨#[]⟩, .int .i64 0, .int .i64 0, .int .i64 0, .int .i64 0, .slice none 0 0, .int .i64 0, .int .i64 0, .int .i64 0, .int .u8 0, .string ⟨#[]⟩, .string ⟨#[]⟩, .int .i64 0, .slice none 0 0, .string ⟨#[]⟩, .int .i64 0, .int .i64 0, .int .i64 0, .int .i64 0, .int .i64 0], .int .i64 60])) (wq.setRow w.heap.size #[.int .u8 0, .int .i64 0, .int .i64 0, .string ⟨#[]⟩, .int .i64 0, .int .i64 0, .int .i64 0, .int .i64 0, .slice none 0 0, .int .i64 0, .int .i64 0, .int .i64 0, .int .u8 0, .string ⟨#[]⟩, .string ⟨#[]⟩, .int .i64 0, .slice none 0 0, .string ⟨#[]⟩, .int .i64 0, .int .i64 0, .int .i64 0, .int .i64 0, .int .i64 0])) := hide (GRequest.no hgot (below_setRow hlowq (Nat.le_refl _) _))
    have HR : Hid ((wq.setRow w.heap.size #[.int .u8 0, .int .i64 0, .int .i64 0, .string ⟨#[]⟩, .int .i64 0, .int .i64 0, .int .i64 0, .int .i64 0, .slice none 0 0, .int .i64 0, .int .i64 0, .int .i64 0, .int .u8 0, .string ⟨#[]⟩, .string ⟨#[]⟩, .int .i64 0, .slice none 0 0, .string ⟨#[]⟩, .int .i64 0, .int .i64 0, .int .i64 0, .int .i64 0, .int .i64 0]).heap[w.heap.size]? = some (.cells #[.int .u8 0, .int .i64 0, .int .i64 0, .string ⟨#[]⟩, .int .i64 0, .int .i64 0, .int .i64 0, .int .i64 0, .slice none 0 0, .int .i64 0, .int .i64 0, .int .i64 0, .int .u8 0, .string ⟨#[]⟩, .string ⟨#[]⟩, .int .i64 0, .slice none 0 0, .string ⟨#[]⟩, .int .i64 0, .int .i64 0, .int .i64 0, .int .i64 0, .int .i64 0] (63 : TypeId) (0, 0))) := hide (setRow_heap wq w.heap.size _ _ (63 : TypeId) _ HG0.out)
    clear hgot hP hlowq
    go_wp2_with (refine wpList_store_row rfl (63 : TypeId) _ _ rfl w.heap.size #[.int .u8 0, .int .i64 0, .int .i64 0, .string ⟨#[]⟩, .int .i64 0, .int .i64 0, .int .i64 0, .int .i64 0, .slice none 0 0, .int .i64 0, .int .i64 0, .int .i64 0, .int .u8 0, .string ⟨#[]⟩, .string ⟨#[]⟩, .int .i64 0, .slice none 0 0, .string ⟨#[]⟩, .int .i64 0, .int .i64 0, .int .i64 0, .int .i64 0, .int .i64 0] rfl rfl (63 : TypeId) _ HG0.out (by kernel_rfl) rfl (by simp [Value.oneCell']) ?_)
    refine bodyPost_ret (v := .tuple #[.agg #[.int .u8 0, .int .i64 0, .int .i64 0, .string ⟨#[]⟩, .int .i64 0, .int .i64 0, .int .i64 0, .int .i64 0, .slice none 0 0, .int .i64 0, .int .i64 0, .int .i64 0, .int .u8 0, .string ⟨#[]⟩, .string ⟨#[]⟩, .int .i64 0, .slice none 0 0, .string ⟨#[]⟩, .int .i64 0, .int .i64 0, .int .i64 0, .int .i64 0, .int .i64 0], .int .i64 60]) (results_cell_tmp Tryz.results21 _ _ w.heap.size (63 : TypeId) _ (0, 0) _ _ rfl rfl HR.out Tryz.underlying63 rfl (by kernel_rfl)) rfl ?_
    exact HE.out

end

end Go.Proofs.YtnimfkcnkkjlkaaGreat

/-
  The document's GetResponse.
-/
namespace Go.Proofs.YtnimfkcnkkjlkaaGreat
open Go.RowKit
set_option maxRecDepth 100000
set_option linter.unusedVariables false

section
variable {Wb w w' w0 w1 w2 : World} {R n cap : Nat} {l l' l1 l2 zs : List Int} {bad bad' b1 b2 : Bool}

theorem LAnswer.arg : La LAnswer AAnswer := ((La.pr (La.refl _) (La.pr (La.refl _) (La.pr (La.refl _) (La.pr (La.refl _) (La.pr (La.refl _) (La.ls LPlace.r _))))))).is _

theorem LResponse.arg : La LResponse AResponse := ((La.pr (La.refl _) (La.pr (La.refl _) (La.pr (La.refl _) (La.pr (La.refl _) (La.pr (La.refl _) (La.pr (La.refl _) (La.pr (La.refl _) (La.pr (La.refl _) (La.pr (La.refl _) (La.pr (La.ls LBy.r _) LAnswer.arg))))))))))).is _

set_option maxHeartbeats 40000000 in
theorem refGetResponse_any (a : Option Addr) (hB : Bs w a n cap zs) (hn : n ≤ 70000) : Calls Tryz.prog 24 #[.slice a n cap] w (GResponse w zs) := by
  obtain ⟨W0, HW0⟩ : ∃ W0, Hid (W0 = w.alloc (.cells #[.int .u8 0, .int .i64 0, .int .i64 0, .int .i64 0, .int .i64 0, .int .i64 0, .int .i64 0, .int .i64 0, .bool false, .slice none 0 0, .int .i64 0, .int .i64 0, .int .i64 0, .int .i64 0, .int .u8 0, .slice none 0 0] (72 : TypeId))) := ⟨_, hide rfl⟩
  have hbW : Below w.heap.size w W0 := by rw [HW0.out]; exact fresh w _
  have hG0 : W0.heap[w.heap.size]? = some (.cells #[.int .u8 0, .int .i64 0, .int .i64 0, .int .i64 0, .int .i64 0, .int .i64 0, .int .i64 0, .int .i64 0, .bool false, .slice none 0 0, .int .i64 0, .int .i64 0, .int .i64 0, .int .i64 0, .int .u8 0, .slice none 0 0] (72 : TypeId) (0, 0)) := by rw [HW0.out]; exact heap_alloc_new w _
  have HB := hide (hB.keep hbW)
  have HBY := hide hB.byte
  have HLN := hide hB.len
  have HC := hide (tbegin_any a HB.out)
  clear hB
  go_enter Tryz.func24, Tryz.ntmps24
  go_wp2_with fail
  rw [← HW0.out]
  refine HC.out.mono ?_
  rintro e wb ⟨R, l, bad, rfl, hT0, hbb, hor⟩
  have HOR := hide hor
  have hRl := hT0.lt
  have hG0 := (hbb.block _ (hp_lt hG0)).trans hG0
  have hb0 := Below.refl wb.heap.size wb
  have hsh := hT0.short
  have HC := hide (tnum_any hT0)
  clear hT0 hor
  go_wp2_with fail
  refine HC.out.mono ?_
  rintro e w1 ⟨yk, rfl, hI1, l1, b1, hB⟩
  clear HC
  replace hB := hB.u8
  have hG0 := hB.kt.block _ _ _ _ hG0 (by decide)
  have hA := hB.first hb0
  clear hB
  obtain ⟨V0, HV0⟩ : ∃ V, Hid (V = w1.alloc (.cells #[.int .u8 (yk % 256), .int .i64 0, .int .i64 0, .int .i64 0, .int .i64 0, .int .i64 0, .int .i64 0, .int .i64 0, .bool false, .slice none 0 0, .int .i64 0, .int .i64 0, .int .i64 0, .int .i64 0, .int .u8 0, .slice none 0 0] (72 : TypeId))) := ⟨_, hide rfl⟩
  have hbx : Below w1.heap.size w1 V0 := by rw [HV0.out]; exact fresh w1 _
  have hG1 : V0.heap[w1.heap.size]? = some (.cells #[.int .u8 (yk % 256), .int .i64 0, .int .i64 0, .int .i64 0, .int .i64 0, .int .i64 0, .int .i64 0, .int .i64 0, .bool false, .slice none 0 0, .int .i64 0, .int .i64 0, .int .i64 0, .int .i64 0, .int .u8 0, .slice none 0 0] (72 : TypeId) (0, 0)) := by rw [HV0.out]; exact heap_alloc_new w1 _
  have hne : w.heap.size < w1.heap.size := hp_lt hG0
  replace hG0 := (hbx.block _ (hp_lt hG0)).trans hG0
  have hlB : wb.heap.size ≤ w1.heap.size := hA.kt.size
  replace hA := hA.beside (S := (72 : TypeId)) (by decide) (Kt.of_below hbx) (hbx.mono hA.kt.size) hRl
  have HA := hide hA
  have HG0 := hide hG0
  have HG1 := hide hG1
  clear hbx hA hG0 hG1
  have HC := hide (tnum_any HA.out.tq)
  go_wp2_with fail
  rw [← HV0.out]
  refine HC.out.mono ?_
  rintro e w2 ⟨yc, rfl, hI2, l2, b2, hB⟩
  clear HC
  have hG0 := hB.kt.block _ _ _ _ HG0.out (by decide)
  have hG1 := hB.kt.block _ _ _ _ HG1.out (by decide)
  have hA := HA.out.step hB (by decide)
  clear hB HA HG0 HG1
  have c1_0 := (row_at hG1 1 (.int .i64 0) rfl).1
  have f1_0 := (row_at hG1 1 (.int .i64 0) rfl).2
  have s1 : (w2.setCell ⟨w1.heap.size, 1, none⟩ (.int .i64 yc)).heap[w1.heap.size]? = some (.cells #[.int .u8 (yk % 256), .int .i64 yc, .int .i64 0, .int .i64 0, .int .i64 0, .int .i64 0, .int .i64 0, .int .i64 0, .bool false, .slice none 0 0, .int .i64 0, .int .i64 0, .int .i64 0, .int .i64 0, .int .u8 0, .slice none 0 0] (72 : TypeId) (0, 0)) := heap_setCell_same _ (w1.heap.size) 1 _ (72 : TypeId) (.int .i64 yc) hG1
  have h0_1 : (w2.setCell ⟨w1.heap.size, 1, none⟩ (.int .i64 yc)).heap[w.heap.size]? = some (.cells #[.int .u8 0, .int .i64 0, .int .i64 0, .int .i64 0, .int .i64 0, .int .i64 0, .int .i64 0, .int .i64 0, .bool false, .slice none 0 0, .int .i64 0, .int .i64 0, .int .i64 0, .int .i64 0, .int .u8 0, .slice none 0 0] (72 : TypeId) (0, 0)) := (Below.heap_setCell _ _ _ _ (Nat.ne_of_lt hne)).trans hG0
  replace hA := hA.beside (S := (72 : TypeId)) (by decide) (Kt.set (i := 1) hG1 (.int .i64 yc)) ((Below.refl wb.heap.size w2).setCell hlB (.int .i64 yc)) hRl
  obtain ⟨V1, HV1⟩ : ∃ V, Hid (V = w2.setCell ⟨w1.heap.size, 1, none⟩ (.int .i64 yc)) := ⟨_, hide rfl⟩
  rw [← HV1.out] at hA h0_1 s1
  have HA := hide hA
  have HG0 := hide h0_1
  have HG1 := hide s1
  clear hA h0_1 hG1 hG0 s1
  have HC := hide (tnum_any HA.out.tq)
  go_wp2_with fail
  rw [← HV1.out]
  clear c1_0 f1_0
  refine HC.out.mono ?_
  rintro e w3 ⟨yd, rfl, hI3, l3, b3, hB⟩
  clear HC
  have hG0 := hB.kt.block _ _ _ _ HG0.out (by decide)
  have hG1 := hB.kt.block _ _ _ _ HG1.out (by decide)
  have hA := HA.out.step hB (by decide)
  clear hB HA HG0 HG1
  have c2_0 := (row_at hG1 2 (.int .i64 0) rfl).1
  have f2_0 := (row_at hG1 2 (.int .i64 0) rfl).2
  have s2 : (w3.setCell ⟨w1.heap.size, 2, none⟩ (.int .i64 yd)).heap[w1.heap.size]? = some (.cells #[.int .u8 (yk % 256), .int .i64 yc, .int .i64 yd, .int .i64 0, .int .i64 0, .int .i64 0, .int .i64 0, .int .i64 0, .bool false, .slice none 0 0, .int .i64 0, .int .i64 0, .int .i64 0, .int .i64 0, .int .u8 0, .slice none 0 0] (72 : TypeId) (0, 0)) := heap_setCell_same _ (w1.heap.size) 2 _ (72 : TypeId) (.int .i64 yd) hG1
  have h0_2 : (w3.setCell ⟨w1.heap.size, 2, none⟩ (.int .i64 yd)).heap[w.heap.size]? = some (.cells #[.int .u8 0, .int .i64 0, .int .i64 0, .int .i64 0, .int .i64 0, .int .i64 0, .int .i64 0, .int .i64 0, .bool false, .slice none 0 0, .int .i64 0, .int .i64 0, .int .i64 0, .int .i64 0, .int .u8 0, .slice none 0 0] (72 : TypeId) (0, 0)) := (Below.heap_setCell _ _ _ _ (Nat.ne_of_lt hne)).trans hG0
  replace hA := hA.beside (S := (72 : TypeId)) (by decide) (Kt.set (i := 2) hG1 (.int .i64 yd)) ((Below.refl wb.heap.size w3).setCell hlB (.int .i64 yd)) hRl
  obtain ⟨V2, HV2⟩ : ∃ V, Hid (V = w3.setCell ⟨w1.heap.size, 2, none⟩ (.int .i64 yd)) := ⟨_, hide rfl⟩
  rw [← HV2.out] at hA h0_2 s2
  have HA := hide hA
  have HG0 := hide h0_2
  have HG1 := hide s2
  clear hA h0_2 hG1 hG0 s2
  have HC := hide (tnum_any HA.out.tq)
  go_wp2_with fail
  rw [← HV2.out]
  clear c2_0 f2_0
  refine HC.out.mono ?_
  rintro e w4 ⟨yr, rfl, hI4, l4, b4, hB⟩
  clear HC
  have hG0 := hB.kt.block _ _ _ _ HG0.out (by decide)
  have hG1 := hB.kt.block _ _ _ _ HG1.out (by decide)
  have hA := HA.out.step hB (by decide)
  clear hB HA HG0 HG1
  have c3_0 := (row_at hG1 3 (.int .i64 0) rfl).1
  have f3_0 := (row_at hG1 3 (.int .i64 0) rfl).2
  have s3 : (w4.setCell ⟨w1.heap.size, 3, none⟩ (.int .i64 yr)).heap[w1.heap.size]? = some (.cells #[.int .u8 (yk % 256), .int .i64 yc, .int .i64 yd, .int .i64 yr, .int .i64 0, .int .i64 0, .int .i64 0, .int .i64 0, .bool false, .slice none 0 0, .int .i64 0, .int .i64 0, .int .i64 0, .int .i64 0, .int .u8 0, .slice none 0 0] (72 : TypeId) (0, 0)) := heap_setCell_same _ (w1.heap.size) 3 _ (72 : TypeId) (.int .i64 yr) hG1
  have h0_3 : (w4.setCell ⟨w1.heap.size, 3, none⟩ (.int .i64 yr)).heap[w.heap.size]? = some (.cells #[.int .u8 0, .int .i64 0, .int .i64 0, .int .i64 0, .int .i64 0, .int .i64 0, .int .i64 0, .int .i64 0, .bool false, .slice none 0 0, .int .i64 0, .int .i64 0, .int .i64 0, .int .i64 0, .int .u8 0, .slice none 0 0] (72 : TypeId) (0, 0)) := (Below.heap_setCell _ _ _ _ (Nat.ne_of_lt hne)).trans hG0
  replace hA := hA.beside (S := (72 : TypeId)) (by decide) (Kt.set (i := 3) hG1 (.int .i64 yr)) ((Below.refl wb.heap.size w4).setCell hlB (.int .i64 yr)) hRl
  obtain ⟨V3, HV3⟩ : ∃ V, Hid (V = w4.setCell ⟨w1.heap.size, 3, none⟩ (.int .i64 yr)) := ⟨_, hide rfl⟩
  rw [← HV3.out] at hA h0_3 s3
  have HA := hide hA
  have HG0 := hide h0_3
  have HG1 := hide s3
  clear hA h0_3 hG1 hG0 s3
  have HC := hide (tnum_any HA.out.tq)
  go_wp2_with fail
  rw [← HV3.out]
  clear c3_0 f3_0
  refine HC.out.mono ?_
  rintro e w5 ⟨yp, rfl, hI5, l5, b5, hB⟩
  clear HC
  have hG0 := hB.kt.block _ _ _ _ HG0.out (by decide)
  have hG1 := hB.kt.block _ _ _ _ HG1.out (by decide)
  have hA := HA.out.step hB (by decide)
  clear hB HA HG0 HG1
  have c4_0 := (row_at hG1 4 (.int .i64 0) rfl).1
  have f4_0 := (row_at hG1 4 (.int .i64 0) rfl).2
  have s4 : (w5.setCell ⟨w1.heap.size, 4, none⟩ (.int .i64 yp)).heap[w1.heap.size]? = some (.cells #[.int .u8 (yk % 256), .int .i64 yc, .int .i64 yd, .int .i64 yr, .int .i64 yp, .int .i64 0, .int .i64 0, .int .i64 0, .bool false, .slice none 0 0, .int .i64 0, .int .i64 0, .int .i64 0, .int .i64 0, .int .u8 0, .slice none 0 0] (72 : TypeId) (0, 0)) := heap_setCell_same _ (w1.heap.size) 4 _ (72 : TypeId) (.int .i64 yp) hG1
  have h0_4 : (w5.setCell ⟨w1.heap.size, 4, none⟩ (.int .i64 yp)).heap[w.heap.size]? = some (.cells #[.int .u8 0, .int .i64 0, .int .i64 0, .int .i64 0, .int .i64 0, .int .i64 0, .int .i64 0, .int .i64 0, .bool false, .slice none 0 0, .int .i64 0, .int .i64 0, .int .i64 0, .int .i64 0, .int .u8 0, .slice none 0 0] (72 : TypeId) (0, 0)) := (Below.heap_setCell _ _ _ _ (Nat.ne_of_lt hne)).trans hG0
  replace hA := hA.beside (S := (72 : TypeId)) (by decide) (Kt.set (i := 4) hG1 (.int .i64 yp)) ((Below.refl wb.heap.size w5).setCell hlB (.int .i64 yp)) hRl
  obtain ⟨V4, HV4⟩ : ∃ V, Hid (V = w5.setCell ⟨w1.heap.size, 4, none⟩ (.int .i64 yp)) := ⟨_, hide rfl⟩
  rw [← HV4.out] at hA h0_4 s4
  have HA := hide hA
  have HG0 := hide h0_4
  have HG1 := hide s4
  clear hA h0_4 hG1 hG0 s4
  have HC := hide (tnum_any HA.out.tq)
  go_wp2_with fail
  rw [← HV4.out]
  clear c4_0 f4_0
  refine HC.out.mono ?_
  rintro e w6 ⟨yo, rfl, hI6, l6, b6, hB⟩
  clear HC
  have hG0 := hB.kt.block _ _ _ _ HG0.out (by decide)
  have hG1 := hB.kt.block _ _ _ _ HG1.out (by decide)
  have hA := HA.out.step hB (by decide)
  clear hB HA HG0 HG1
  have c5_0 := (row_at hG1 5 (.int .i64 0) rfl).1
  have f5_0 := (row_at hG1 5 (.int .i64 0) rfl).2
  have s5 : (w6.setCell ⟨w1.heap.size, 5, none⟩ (.int .i64 yo)).heap[w1.heap.size]? = some (.cells #[.int .u8 (yk % 256), .int .i64 yc, .int .i64 yd, .int .i64 yr, .int .i64 yp, .int .i64 yo, .int .i64 0, .int .i64 0, .bool false, .slice none 0 0, .int .i64 0, .int .i64 0, .int .i64 0, .int .i64 0, .int .u8 0, .slice none 0 0] (72 : TypeId) (0, 0)) := heap_setCell_same _ (w1.heap.size) 5 _ (72 : TypeId) (.int .i64 yo) hG1
  have h0_5 : (w6.setCell ⟨w1.heap.size, 5, none⟩ (.int .i64 yo)).heap[w.heap.size]? = some (.cells #[.int .u8 0, .int .i64 0, .int .i64 0, .int .i64 0, .int .i64 0, .int .i64 0, .int .i64 0, .int .i64 0, .bool false, .slice none 0 0, .int .i64 0, .int .i64 0, .int .i64 0, .int .i64 0, .int .u8 0, .slice none 0 0] (72 : TypeId) (0, 0)) := (Below.heap_setCell _ _ _ _ (Nat.ne_of_lt hne)).trans hG0
  replace hA := hA.beside (S := (72 : TypeId)) (by decide) (Kt.set (i := 5) hG1 (.int .i64 yo)) ((Below.refl wb.heap.size w6).setCell hlB (.int .i64 yo)) hRl
  obtain ⟨V5, HV5⟩ : ∃ V, Hid (V = w6.setCell ⟨w1.heap.size, 5, none⟩ (.int .i64 yo)) := ⟨_, hide rfl⟩
  rw [← HV5.out] at hA h0_5 s5
  have HA := hide hA
  have HG0 := hide h0_5
  have HG1 := hide s5
  clear hA h0_5 hG1 hG0 s5
  have HC := hide (tnum_any HA.out.tq)
  go_wp2_with fail
  rw [← HV5.out]
  clear c5_0 f5_0
  refine HC.out.mono ?_
  rintro e w7 ⟨ys, rfl, hI7, l7, b7, hB⟩
  clear HC
  have hG0 := hB.kt.block _ _ _ _ HG0.out (by decide)
  have hG1 := hB.kt.block _ _ _ _ HG1.out (by decide)
  have hA := HA.out.step hB (by decide)
  clear hB HA HG0 HG1
  have c6_0 := (row_at hG1 6 (.int .i64 0) rfl).1
  have f6_0 := (row_at hG1 6 (.int .i64 0) rfl).2
  have s6 : (w7.setCell ⟨w1.heap.size, 6, none⟩ (.int .i64 ys)).heap[w1.heap.size]? = some (.cells #[.int .u8 (yk % 256), .int .i64 yc, .int .i64 yd, .int .i64 yr, .int .i64 yp, .int .i64 yo, .int .i64 ys, .int .i64 0, .bool false, .slice none 0 0, .int .i64 0, .int .i64 0, .int .i64 0, .int .i64 0, .int .u8 0, .slice none 0 0] (72 : TypeId) (0, 0)) := heap_setCell_same _ (w1.heap.size) 6 _ (72 : TypeId) (.int .i64 ys) hG1
  have h0_6 : (w7.setCell ⟨w1.heap.size, 6, none⟩ (.int .i64 ys)).heap[w.heap.size]? = some (.cells #[.int .u8 0, .int .i64 0, .int .i64 0, .int .i64 0, .int .i64 0, .int .i64 0, .int .i64 0, .int .i64 0, .bool false, .slice none 0 0, .int .i64 0, .int .i64 0, .int .i64 0, .int .i64 0, .int .u8 0, .slice none 0 0] (72 : TypeId) (0, 0)) := (Below.heap_setCell _ _ _ _ (Nat.ne_of_lt hne)).trans hG0
  replace hA := hA.beside (S := (72 : TypeId)) (by decide) (Kt.set (i := 6) hG1 (.int .i64 ys)) ((Below.refl wb.heap.size w7).setCell hlB (.int .i64 ys)) hRl
  obtain ⟨V6, HV6⟩ : ∃ V, Hid (V = w7.setCell ⟨w1.heap.size, 6, none⟩ (.int .i64 ys)) := ⟨_, hide rfl⟩
  rw [← HV6.out] at hA h0_6 s6
  have HA := hide hA
  have HG0 := hide h0_6
  have HG1 := hide s6
  clear hA h0_6 hG1 hG0 s6
  have HC := hide (tnum_any HA.out.tq)
  go_wp2_with fail
  rw [← HV6.out]
  clear c6_0 f6_0
  refine HC.out.mono ?_
  rintro e w8 ⟨yz, rfl, hI8, l8, b8, hB⟩
  clear HC
  have hG0 := hB.kt.block _ _ _ _ HG0.out (by decide)
  have hG1 := hB.kt.block _ _ _ _ HG1.out (by decide)
  have hA := HA.out.step hB (by decide)
  clear hB HA HG0 HG1
  have c7_0 := (row_at hG1 7 (.int .i64 0) rfl).1
  have f7_0 := (row_at hG1 7 (.int .i64 0) rfl).2
  have s7 : (w8.setCell ⟨w1.heap.size, 7, none⟩ (.int .i64 yz)).heap[w1.heap.size]? = some (.cells #[.int .u8 (yk % 256), .int .i64 yc, .int .i64 yd, .int .i64 yr, .int .i64 yp, .int .i64 yo, .int .i64 ys, .int .i64 yz, .bool false, .slice none 0 0, .int .i64 0, .int .i64 0, .int .i64 0, .int .i64 0, .int .u8 0, .slice none 0 0] (72 : TypeId) (0, 0)) := heap_setCell_same _ (w1.heap.size) 7 _ (72 : TypeId) (.int .i64 yz) hG1
  have h0_7 : (w8.setCell ⟨w1.heap.size, 7, none⟩ (.int .i64 yz)).heap[w.heap.size]? = some (.cells #[.int .u8 0, .int .i64 0, .int .i64 0, .int .i64 0, .int .i64 0, .int .i64 0, .int .i64 0, .int .i64 0, .bool false, .slice none 0 0, .int .i64 0, .int .i64 0, .int .i64 0, .int .i64 0, .int .u8 0, .slice none 0 0] (72 : TypeId) (0, 0)) := (Below.heap_setCell _ _ _ _ (Nat.ne_of_lt hne)).trans hG0
  replace hA := hA.beside (S := (72 : TypeId)) (by decide) (Kt.set (i := 7) hG1 (.int .i64 yz)) ((Below.refl wb.heap.size w8).setCell hlB (.int .i64 yz)) hRl
  obtain ⟨V7, HV7⟩ : ∃ V, Hid (V = w8.setCell ⟨w1.heap.size, 7, none⟩ (.int .i64 yz)) := ⟨_, hide rfl⟩
  rw [← HV7.out] at hA h0_7 s7
  have HA := hide hA
  have HG0 := hide h0_7
  have HG1 := hide s7
  clear hA h0_7 hG1 hG0 s7
  have HC := hide (tbool_any HA.out.tq)
  go_wp2_with fail
  rw [← HV7.out]
  clear c7_0 f7_0
  refine HC.out.mono ?_
  rintro e w9 ⟨yx, rfl, l9, b9, hB⟩
  clear HC
  have hG0 := hB.kt.block _ _ _ _ HG0.out (by decide)
  have hG1 := hB.kt.block _ _ _ _ HG1.out (by decide)
  have hA := HA.out.step hB (by decide)
  clear hB HA HG0 HG1
  have c8_0 := (row_at hG1 8 (.bool false) rfl).1
  have f8_0 := (row_at hG1 8 (.bool false) rfl).2
  have s8 : (w9.setCell ⟨w1.heap.size, 8, none⟩ (.bool yx)).heap[w1.heap.size]? = some (.cells #[.int .u8 (yk % 256), .int .i64 yc, .int .i64 yd, .int .i64 yr, .int .i64 yp, .int .i64 yo, .int .i64 ys, .int .i64 yz, .bool yx, .slice none 0 0, .int .i64 0, .int .i64 0, .int .i64 0, .int .i64 0, .int .u8 0, .slice none 0 0] (72 : TypeId) (0, 0)) := heap_setCell_same _ (w1.heap.size) 8 _ (72 : TypeId) (.bool yx) hG1
  have h0_8 : (w9.setCell ⟨w1.heap.size, 8, none⟩ (.bool yx)).heap[w.heap.size]? = some (.cells #[.int .u8 0, .int .i64 0, .int .i64 0, .int .i64 0, .int .i64 0, .int .i64 0, .int .i64 0, .int .i64 0, .bool false, .slice none 0 0, .int .i64 0, .int .i64 0, .int .i64 0, .int .i64 0, .int .u8 0, .slice none 0 0] (72 : TypeId) (0, 0)) := (Below.heap_setCell _ _ _ _ (Nat.ne_of_lt hne)).trans hG0
  replace hA := hA.beside (S := (72 : TypeId)) (by decide) (Kt.set (i := 8) hG1 (.bool yx)) ((Below.refl wb.heap.size w9).setCell hlB (.bool yx)) hRl
  obtain ⟨V8, HV8⟩ : ∃ V, Hid (V = w9.setCell ⟨w1.heap.size, 8, none⟩ (.bool yx)) := ⟨_, hide rfl⟩
  rw [← HV8.out] at hA h0_8 s8
  have HA := hide hA
  have HG0 := hide h0_8
  have HG1 := hide s8
  clear hA h0_8 hG1 hG0 s8
  have HC := hide (trecords_any HA.out.tq)
  go_wp2_with fail
  rw [← HV8.out]
  clear c8_0 f8_0
  refine HC.out.mono ?_
  rintro e w10 ⟨yla, yln, ylc, rfl, l10, b10, hB⟩
  clear HC
  have hG0 := hB.kt.block _ _ _ _ HG0.out (by decide)
  have hG1 := hB.kt.block _ _ _ _ HG1.out (by decide)
  have hA := HA.out.step hB (by decide)
  clear hB HA HG0 HG1
  have c9_0 := (row_at hG1 9 (.slice none 0 0) rfl).1
  have f9_0 := (row_at hG1 9 (.slice none 0 0) rfl).2
  have s9 : (w10.setCell ⟨w1.heap.size, 9, none⟩ (.slice yla yln ylc)).heap[w1.heap.size]? = some (.cells #[.int .u8 (yk % 256), .int .i64 yc, .int .i64 yd, .int .i64 yr, .int .i64 yp, .int .i64 yo, .int .i64 ys, .int .i64 yz, .bool yx, .slice yla yln ylc, .int .i64 0, .int .i64 0, .int .i64 0, .int .i64 0, .int .u8 0, .slice none 0 0] (72 : TypeId) (0, 0)) := heap_setCell_same _ (w1.heap.size) 9 _ (72 : TypeId) (.slice yla yln ylc) hG1
  have h0_9 : (w10.setCell ⟨w1.heap.size, 9, none⟩ (.slice yla yln ylc)).heap[w.heap.size]? = some (.cells #[.int .u8 0, .int .i64 0, .int .i64 0, .int .i64 0, .int .i64 0, .int .i64 0, .int .i64 0, .int .i64 0, .bool false, .slice none 0 0, .int .i64 0, .int .i64 0, .int .i64 0, .int .i64 0, .int .u8 0, .slice none 0 0] (72 : TypeId) (0, 0)) := (Below.heap_setCell _ _ _ _ (Nat.ne_of_lt hne)).trans hG0
  replace hA := hA.beside (S := (72 : TypeId)) (by decide) (Kt.set (i := 9) hG1 (.slice yla yln ylc)) ((Below.refl wb.heap.size w10).setCell hlB (.slice yla yln ylc)) hRl
  obtain ⟨V9, HV9⟩ : ∃ V, Hid (V = w10.setCell ⟨w1.heap.size, 9, none⟩ (.slice yla yln ylc)) := ⟨_, hide rfl⟩
  rw [← HV9.out] at hA h0_9 s9
  have HA := hide hA
  have HG0 := hide h0_9
  have HG1 := hide s9
  clear hA h0_9 hG1 hG0 s9
  have HC := hide (tanswer_any HA.out.tq)
  go_wp2_with fail
  rw [← HV9.out]
  clear c9_0 f9_0
  refine HC.out.mono ?_
  rintro e w11 ⟨yyr, yyp, yye, yyn, yyk, yyla, yyln, yylc, rfl, l11, b11, hB⟩
  clear HC
  have hG0 := hB.kt.block _ _ _ _ HG0.out (by decide)
  have hG1 := hB.kt.block _ _ _ _ HG1.out (by decide)
  have hA := HA.out.step hB (by decide)
  clear hB HA HG0 HG1
  have HTH := hide (there_row hG1 10 6 (by simp))
  have s10 : (w11.setCells w1.heap.size 10 [.int .i64 yyr, .int .i64 yyp, .int .i64 yye, .int .i64 yyn, .int .u8 yyk, .slice yyla yyln yylc]).heap[w1.heap.size]? = some (.cells #[.int .u8 (yk % 256), .int .i64 yc, .int .i64 yd, .int .i64 yr, .int .i64 yp, .int .i64 yo, .int .i64 ys, .int .i64 yz, .bool yx, .slice yla yln ylc, .int .i64 yyr, .int .i64 yyp, .int .i64 yye, .int .i64 yyn, .int .u8 yyk, .slice yyla yyln yylc] (72 : TypeId) (0, 0)) := by rw [row_setCells [.int .i64 yyr, .int .i64 yyp, .int .i64 yye, .int .i64 yyn, .int .u8 yyk, .slice yyla yyln yylc] 10 _ _ hG1, show putAt #[.int .u8 (yk % 256), .int .i64 yc, .int .i64 yd, .int .i64 yr, .int .i64 yp, .int .i64 yo, .int .i64 ys, .int .i64 yz, .bool yx, .slice yla yln ylc, .int .i64 0, .int .i64 0, .int .i64 0, .int .i64 0, .int .u8 0, .slice none 0 0] 10 [.int .i64 yyr, .int .i64 yyp, .int .i64 yye, .int .i64 yyn, .int .u8 yyk, .slice yyla yyln yylc] = #[.int .u8 (yk % 256), .int .i64 yc, .int .i64 yd, .int .i64 yr, .int .i64 yp, .int .i64 yo, .int .i64 ys, .int .i64 yz, .bool yx, .slice yla yln ylc, .int .i64 yyr, .int .i64 yyp, .int .i64 yye, .int .i64 yyn, .int .u8 yyk, .slice yyla yyln yylc] by kernel_rfl]
  have h0_10 : (w11.setCells w1.heap.size 10 [.int .i64 yyr, .int .i64 yyp, .int .i64 yye, .int .i64 yyn, .int .u8 yyk, .slice yyla yyln yylc]).heap[w.heap.size]? = some (.cells #[.int .u8 0, .int .i64 0, .int .i64 0, .int .i64 0, .int .i64 0, .int .i64 0, .int .i64 0, .int .i64 0, .bool false, .slice none 0 0, .int .i64 0, .int .i64 0, .int .i64 0, .int .i64 0, .int .u8 0, .slice none 0 0] (72 : TypeId) (0, 0)) := (other_setCells (Nat.ne_of_lt hne) [.int .i64 yyr, .int .i64 yyp, .int .i64 yye, .int .i64 yyn, .int .u8 yyk, .slice yyla yyln yylc] 10 _).trans hG0
  replace hA := hA.beside (S := (72 : TypeId)) (by decide) (kt_setCells [.int .i64 yyr, .int .i64 yyp, .int .i64 yye, .int .i64 yyn, .int .u8 yyk, .slice yyla yyln yylc] 10 _ _ hG1) (below_setCells hlB [.int .i64 yyr, .int .i64 yyp, .int .i64 yye, .int .i64 yyn, .int .u8 yyk, .slice yyla yyln yylc] 10 _ _ (Below.refl wb.heap.size w11)) hRl
  obtain ⟨V10, HV10⟩ : ∃ V, Hid (V = w11.setCells w1.heap.size 10 [.int .i64 yyr, .int .i64 yyp, .int .i64 yye, .int .i64 yyn, .int .u8 yyk, .slice yyla yyln yylc]) := ⟨_, hide rfl⟩
  rw [← HV10.out] at hA h0_10 s10
  have HA := hide hA
  have HG0 := hide h0_10
  have HG1 := hide s10
  clear hA h0_10 hG1 hG0 s10
  have hA := HA.out
  have hG0 := HG0.out
  have hG1 := HG1.out
  clear HA HG0 HG1
  have hF : Aq Cod.response (fun V q => LResponse V q [.int .u8 (yk % 256), .int .i64 yc, .int .i64 yd, .int .i64 yr, .int .i64 yp, .int .i64 yo, .int .i64 ys, .int .i64 yz, .bool yx, .slice yla yln ylc, .int .i64 yyr, .int .i64 yyp, .int .i64 yye, .int .i64 yyn, .int .u8 yyk, .slice yyla yyln yylc]) [(32 : TypeId), (5 : TypeId), (55 : TypeId)] 39 W0 R l bad l11 b11 wb V10 := (hA.assoc.assoc.assoc.assoc.assoc.assoc.assoc.assoc.assoc).iso (f := _) (g := _) (fun _ => rfl) (fun q hq => by obtain ⟨⟨⟨⟨⟨⟨⟨⟨⟨⟨h0, h1⟩, h2⟩, h3⟩, h4⟩, h5⟩, h6⟩, h7⟩, h8⟩, h9⟩, h10⟩ := hq; exact ⟨_, _, rfl, h0, _, _, rfl, h1, _, _, rfl, h2, _, _, rfl, h3, _, _, rfl, h4, _, _, rfl, h5, _, _, rfl, h6, _, _, rfl, h7, _, _, rfl, h8, _, _, rfl, h9, h10⟩) LResponse.k
  obtain ⟨x, hLx, hlen, hex⟩ := hF.ex
  have hAx := LResponse.arg _ _ _ hLx
  have hok := AResponse.o _ _ _ hAx
  have hroom : (Cod.thing Cod.response 6 x).length ≤ 140737488355328 := by
    simp only [Cod.thing, List.length_cons]
    split at hlen <;> omega
  have hthb := thing_byte (k := 6) Cod.response_law (by omega) hok
  obtain ⟨hyes, hno⟩ := get_same (k := 6) (most := 60000) Cod.response_law HBY.out hok HLN.out (by omega) HOR.out hex
  have HP := hide (hAx.ref hroom)
  have HT := hide hF.tq
  have hBn := HB.out.keep hF.tq.low
  have hlow : Below w.heap.size w V10 := hbW.trans (hF.tq.low.mono hbW.size)
  have HLOW := hide hlow
  have HBN := hide hBn
  have HLX := hide hLx
  have HYES := hide hyes
  have HNO := hide hno
  have HTB := hide hthb
  have HG0 := hide hG0
  have HG1 := hide hG1
  clear hF hlen hex hAx hok hroom hthb hyes hno hBn hlow hLx hG0 hG1 hA
  have HGX : Hid (w11.setCells w1.heap.size 10 [.int .i64 yyr, .int .i64 yyp, .int .i64 yye, .int .i64 yyn, .int .u8 yyk, .slice yyla yyln yylc] = V10) := hide HV10.out.symm
  go_wp2_with (first | (refine wpList_store_mid rfl (70 : TypeId) _ _ rfl w1.heap.size 10 #[.int .i64 yyr, .int .i64 yyp, .int .i64 yye, .int .i64 yyn, .int .u8 yyk, .slice yyla yyln yylc] rfl rfl HTH.out (by kernel_rfl) (by simp [Value.oneCell']) ?_; rw [HGX.out]) | ((try rw [HGX.out]); refine wpList_load_row rfl (72 : TypeId) _ rfl w1.heap.size rfl (72 : TypeId) _ (0, 0) _ HG1.out Tryz.underlying72 rfl (by kernel_rfl) ?_))
  refine HP.out.mono ?_
  rintro e wp ⟨vp, rfl, hop, hbp⟩
  obtain ⟨pa, pd, rfl⟩ := own_val hop
  have HI := hide (tis_any (HT.out.keep hbp HT.out.lt) (own_bs hop HTB.out) (HBN.out.keep hbp) 60000 (most := 60000) rfl)
  have HBP := hide hbp
  clear hop hbp HP
  go_wp2_with fail
  refine HI.out.mono ?_
  rintro e wq ⟨rfl, rfl⟩
  clear HI
  have HG1 := hide ((HBP.out.block _ (hp_lt HG1.out)).trans HG1.out)
  have HG0 := hide ((HBP.out.block _ (hp_lt HG0.out)).trans HG0.out)
  have hlowq : Below w.heap.size w wq := HLOW.out.trans (HBP.out.mono HLOW.out.size)
  by_cases hP : b11 = false ∧ n ≤ 60000 ∧ Cod.thing Cod.response 6 x = zs
  · have hgot := HYES.out hP
    rw [decide_eq_true hP]
    have hLq : LResponse (wq.setRow w.heap.size #[.int .u8 (yk % 256), .int .i64 yc, .int .i64 yd, .int .i64 yr, .int .i64 yp, .int .i64 yo, .int .i64 ys, .int .i64 yz, .bool yx, .slice yla yln ylc, .int .i64 yyr, .int .i64 yyp, .int .i64 yye, .int .i64 yyn, .int .u8 yyk, .slice yyla yyln yylc]) x [.int .u8 (yk % 256), .int .i64 yc, .int .i64 yd, .int .i64 yr, .int .i64 yp, .int .i64 yo, .int .i64 ys, .int .i64 yz, .bool yx, .slice yla yln ylc, .int .i64 yyr, .int .i64 yyp, .int .i64 yye, .int .i64 yyn, .int .u8 yyk, .slice yyla yyln yylc] := LResponse.k (72 : TypeId) wq _ _ _ (by decide) (Kt.row1 HG0.out) (LResponse.k.below HLX.out HBP.out)
    have HE : Hid (GResponse w zs (.returned (.tuple #[.agg #[.int .u8 (yk % 256), .int .i64 yc, .int .i64 yd, .int .i64 yr, .int .i64 yp, .int .i64 yo, .int .i64 ys, .int .i64 yz, .bool yx, .slice yla yln ylc, .int .i64 yyr, .int .i64 yyp, .int .i64 yye, .int .i64 yyn, .int .u8 yyk, .slice yyla yyln yylc], .int .i64 0])) (wq.setRow w.heap.size #[.int .u8 (yk % 256), .int .i64 yc, .int .i64 yd, .int .i64 yr, .int .i64 yp, .int .i64 yo, .int .i64 ys, .int .i64 yz, .bool yx, .slice yla yln ylc, .int .i64 yyr, .int .i64 yyp, .int .i64 yye, .int .i64 yyn, .int .u8 yyk, .slice yyla yyln yylc])) := hide (GResponse.yes hgot (below_setRow hlowq (Nat.le_refl _) _) hLq)
    have HR : Hid ((wq.setRow w.heap.size #[.int .u8 (yk % 256), .int .i64 yc, .int .i64 yd, .int .i64 yr, .int .i64 yp, .int .i64 yo, .int .i64 ys, .int .i64 yz, .bool yx, .slice yla yln ylc, .int .i64 yyr, .int .i64 yyp, .int .i64 yye, .int .i64 yyn, .int .u8 yyk, .slice yyla yyln yylc]).heap[w.heap.size]? = some (.cells #[.int .u8 (yk % 256), .int .i64 yc, .int .i64 yd, .int .i64 yr, .int .i64 yp, .int .i64 yo, .int .i64 ys, .int .i64 yz, .bool yx, .slice yla yln ylc, .int .i64 yyr, .int .i64 yyp, .int .i64 yye, .int .i64 yyn, .int .u8 yyk, .slice yyla yyln yylc] (72 : TypeId) (0, 0))) := hide (setRow_heap wq w.heap.size _ _ (72 : TypeId) _ HG0.out)
    clear hLq hgot hP hlowq
    go_wp2_with (first | (refine wpList_load_row rfl (72 : TypeId) _ rfl w1.heap.size rfl (72 : TypeId) _ (0, 0) _ HG1.out Tryz.underlying72 rfl (by kernel_rfl) ?_) | (refine wpList_store_row rfl (72 : TypeId) _ _ rfl w.heap.size #[.int .u8 (yk % 256), .int .i64 yc, .int .i64 yd, .int .i64 yr, .int .i64 yp, .int .i64 yo, .int .i64 ys, .int .i64 yz, .bool yx, .slice yla yln ylc, .int .i64 yyr, .int .i64 yyp, .int .i64 yye, .int .i64 yyn, .int .u8 yyk, .slice yyla yyln yylc] rfl rfl (72 : TypeId) _ HG0.out (by kernel_rfl) rfl (by simp [Value.oneCell']) ?_))
    refine bodyPost_ret (v := .tuple #[.agg #[.int .u8 (yk % 256), .int .i64 yc, .int .i64 yd, .int .i64 yr, .int .i64 yp, .int .i64 yo, .int .i64 ys, .int .i64 yz, .bool yx, .slice yla yln ylc, .int .i64 yyr, .int .i64 yyp, .int .i64 yye, .int .i64 yyn, .int .u8 yyk, .slice yyla yyln yylc], .int .i64 0]) (results_cell_tmp Tryz.results24 _ _ w.heap.size (72 : TypeId) _ (0, 0) _ _ rfl rfl HR.out Tryz.underlying72 rfl (by kernel_rfl)) rfl ?_
    exact HE.out
  · have hgot := HNO.out hP
    rw [decide_eq_false hP]
    have HE : Hid (GResponse w zs (.returned (.tuple #[.agg #[.int .u8 0, .int .i64 0, .int .i64 0, .int .i64 0, .int .i64 0, .int .i64 0, .int .i64 0, .int .i64 0, .bool false, .slice none 0 0, .int .i64 0, .int .i64 0, .int .i64 0, .int .i64 0, .int .u8 0, .slice none 0 0], .int .i64 60])) (wq.setRow w.heap.size #[.int .u8 0, .int .i64 0, .int .i64 0, .int .i64 0, .int .i64 0, .int .i64 0, .int .i64 0, .int .i64 0, .bool false, .slice none 0 0, .int .i64 0, .int .i64 0, .int .i64 0, .int .i64 0, .int .u8 0, .slice none 0 0])) := hide (GResponse.no hgot (below_setRow hlowq (Nat.le_refl _) _))
    have HR : Hid ((wq.setRow w.heap.size #[.int .u8 0, .int .i64 0, .int .i64 0, .int .i64 0, .int .i64 0, .int .i64 0, .int .i64 0, .int .i64 0, .bool false, .slice none 0 0, .int .i64 0, .int .i64 0, .int .i64 0, .int .i64 0, .int .u8 0, .slice none 0 0]).heap[w.heap.size]? = some (.cells #[.int .u8 0, .int .i64 0, .int .i64 0, .int .i64 0, .int .i64 0, .int .i64 0, .int .i64 0, .int .i64 0, .bool false, .slice none 0 0, .int .i64 0, .int .i64 0, .int .i64 0, .int .i64 0, .int .u8 0, .slice none 0 0] (72 : TypeId) (0, 0))) := hide (setRow_heap wq w.heap.size _ _ (72 : TypeId) _ HG0.out)
    clear hgot hP hlowq
    go_wp2_with (refine wpList_store_row rfl (72 : TypeId) _ _ rfl w.heap.size #[.int .u8 0, .int .i64 0, .int .i64 0, .int .i64 0, .int .i64 0, .int .i64 0, .int .i64 0, .int .i64 0, .bool false, .slice none 0 0, .int .i64 0, .int .i64 0, .int .i64 0, .int .i64 0, .int .u8 0, .slice none 0 0] rfl rfl (72 : TypeId) _ HG0.out (by kernel_rfl) rfl (by simp [Value.oneCell']) ?_)
    refine bodyPost_ret (v := .tuple #[.agg #[.int .u8 0, .int .i64 0, .int .i64 0, .int .i64 0, .int .i64 0, .int .i64 0, .int .i64 0, .int .i64 0, .bool false, .slice none 0 0, .int .i64 0, .int .i64 0, .int .i64 0, .int .i64 0, .int .u8 0, .slice none 0 0], .int .i64 60]) (results_cell_tmp Tryz.results24 _ _ w.heap.size (72 : TypeId) _ (0, 0) _ _ rfl rfl HR.out Tryz.underlying72 rfl (by kernel_rfl)) rfl ?_
    exact HE.out

end

end Go.Proofs.YtnimfkcnkkjlkaaGreat

/-
  The document's GetRaft.
-/
namespace Go.Proofs.YtnimfkcnkkjlkaaGreat
open Go.RowKit
set_option maxRecDepth 100000
set_option linter.unusedVariables false

section
variable {Wb w w' w0 w1 w2 : World} {R n cap : Nat} {l l' l1 l2 zs : List Int} {bad bad' b1 b2 : Bool}

theorem Aq.stepb {α β : Type} {c : Cod.Way α} {d : Cod.Way β} {G : World → α → Prop} {L : Lay β} {cs : List Value} {ts us : List TypeId} {C D : Nat} (h : Aq c G ts C Wb R l bad l1 b1 w0 w1) (k : Aq d (fun V q => L V q cs) us D Wb R l1 b1 l2 b2 w0 w2) (hG : ∀ q, G w1 q → G w2 q) :
    Aq (Cod.pair c d) (fun V q => G V q.1 ∧ L V q.2 cs) (ts ++ us) (C + D) Wb R l bad l2 b2 w0 w2 := by
  obtain ⟨q1, g1, e1, x1⟩ := h.ex
  obtain ⟨q2, g2, e2, x2⟩ := k.ex
  refine ⟨k.tq, k.kt, Nat.le_trans k.le h.le, fun hb => k.mono (h.mono hb), ⟨(q1, q2), ⟨hG q1 g1, g2⟩, ?_, fun hb a t hg => ?_⟩, fun t V V' q hq hk hG => ?_⟩
  · have e : (Cod.pair c d).put (q1, q2) = c.put q1 ++ d.put q2 := rfl
    rw [e, List.length_append]
    cases b2 with
    | true =>
      simp only [if_true] at e2 ⊢
      split at e1 <;> omega
    | false =>
      have hb1 : b1 = false := by
        cases b1 with
        | true => exact absurd (k.mono rfl) (by simp)
        | false => rfl
      subst hb1
      simp only [Bool.false_eq_true, if_false] at e1 e2 ⊢
      omega
  · simp only [Cod.pair] at hg
    cases e3 : c.get l with
    | none => simp [e3] at hg
    | some r =>
      obtain ⟨a1, t1⟩ := r
      simp only [e3] at hg
      cases e4 : d.get t1 with
      | none => simp [e4] at hg
      | some r2 =>
        obtain ⟨a2, t2⟩ := r2
        simp only [e4, Option.some.injEq, Prod.mk.injEq] at hg
        obtain ⟨rfl, rfl⟩ := hg
        obtain ⟨rfl, rfl, rfl⟩ := x1 hb a1 t1 e3
        obtain ⟨rfl, rfl, rfl⟩ := x2 rfl a2 t2 e4
        exact ⟨rfl, rfl, rfl⟩
  · rw [List.mem_append, not_or] at hq
    exact ⟨h.keep t V V' q.1 hq.1 hk hG.1, k.keep t V V' q.2 hq.2 hk hG.2⟩

theorem Lq.beside {α : Type} {c : Cod.Way α} {T S : TypeId} {size C n0 : Nat} {L : Lay α} {ts : List TypeId} {r : List α} {u : Value} (h : Lq c T size L C Wb R l1 b1 n0 w0 r l' bad' u w) (hL : Lk ts L) (hS : T ≠ S) (hS2 : S ∉ ts) (hk : Kt S w w') (hb : Below w0.heap.size w w') (hR : R < w0.heap.size) : Lq c T size L C Wb R l1 b1 n0 w0 r l' bad' u w' :=
  ⟨h.tq.keep hb hR, ⟨Nat.le_trans h.kt.size hb.size, fun k c u f hk' hu => (hb.block k (hp_lt hk')).trans (h.kt.block k c u f hk' hu)⟩, h.tk.keep hL hk hS hS2, h.few, h.le, h.len, h.mono, h.ex⟩

theorem LEntry.arg : La LEntry AEntry := ((La.pr (La.refl _) La.by)).is _

theorem LRaft.arg : La LRaft ARaft := ((La.pr (La.refl _) (La.pr (La.refl _) (La.pr (La.refl _) (La.pr (La.refl _) (La.pr (La.refl _) (La.pr (La.refl _) (La.pr (La.refl _) (La.pr (La.refl _) (La.pr (La.refl _) (La.pr (La.refl _) (La.pr (La.ls LEntry.r _) La.by)))))))))))).is _

set_option maxHeartbeats 40000000 in
theorem refGetRaft_any (a : Option Addr) (hB : Bs w a n cap zs) (hn : n ≤ 70000) : Calls Tryz.prog 27 #[.slice a n cap] w (GRaft w zs) := by
  obtain ⟨i1, hi', hy0, hy1, hy2⟩ := info_parts infoEntry
  obtain ⟨W0, HW0⟩ : ∃ W0, Hid (W0 = w.alloc (.cells #[.string ⟨#[]⟩, .int .u8 0, .int .i64 0, .int .i64 0, .int .i64 0, .int .i64 0, .int .i64 0, .int .i64 0, .int .i64 0, .bool false, .slice none 0 0, .slice none 0 0] (79 : TypeId))) := ⟨_, hide rfl⟩
  have hbW : Below w.heap.size w W0 := by rw [HW0.out]; exact fresh w _
  have hG0 : W0.heap[w.heap.size]? = some (.cells #[.string ⟨#[]⟩, .int .u8 0, .int .i64 0, .int .i64 0, .int .i64 0, .int .i64 0, .int .i64 0, .int .i64 0, .int .i64 0, .bool false, .slice none 0 0, .slice none 0 0] (79 : TypeId) (0, 0)) := by rw [HW0.out]; exact heap_alloc_new w _
  have HB := hide (hB.keep hbW)
  have HBY := hide hB.byte
  have HLN := hide hB.len
  have HC := hide (tbegin_any a HB.out)
  clear hB
  go_enter Tryz.func27, Tryz.ntmps27
  go_wp2_with fail
  rw [← HW0.out]
  refine HC.out.mono ?_
  rintro e wb ⟨R, l, bad, rfl, hT0, hbb, hor⟩
  have HOR := hide hor
  have hRl := hT0.lt
  have hG0 := (hbb.block _ (hp_lt hG0)).trans hG0
  have hb0 := Below.refl wb.heap.size wb
  have hsh := hT0.short
  have hWb : W0.heap.size ≤ wb.heap.size := hbb.size
  have HC := hide (ttext_any hT0)
  clear hT0 hor
  go_wp2_with fail
  refine HC.out.mono ?_
  rintro e w1 ⟨yg, rfl, l1, b1, hB⟩
  clear HC
  have hG0 := hB.kt.block _ _ _ _ hG0 (by decide)
  have hA := hB.first hb0
  clear hB
  obtain ⟨V0, HV0⟩ : ∃ V, Hid (V = w1.alloc (.cells #[.string yg, .int .u8 0, .int .i64 0, .int .i64 0, .int .i64 0, .int .i64 0, .int .i64 0, .int .i64 0, .int .i64 0, .bool false, .slice none 0 0, .slice none 0 0] (79 : TypeId))) := ⟨_, hide rfl⟩
  have hbx : Below w1.heap.size w1 V0 := by rw [HV0.out]; exact fresh w1 _
  have hG1 : V0.heap[w1.heap.size]? = some (.cells #[.string yg, .int .u8 0, .int .i64 0, .int .i64 0, .int .i64 0, .int .i64 0, .int .i64 0, .int .i64 0, .int .i64 0, .bool false, .slice none 0 0, .slice none 0 0] (79 : TypeId) (0, 0)) := by rw [HV0.out]; exact heap_alloc_new w1 _
  have hne : w.heap.size < w1.heap.size := hp_lt hG0
  replace hG0 := (hbx.block _ (hp_lt hG0)).trans hG0
  have hlB : wb.heap.size ≤ w1.heap.size := hA.kt.size
  replace hA := hA.beside (S := (79 : TypeId)) (by decide) (Kt.of_below hbx) (hbx.mono hA.kt.size) hRl
  clear hbx
  have HC := hide (tnum_any hA.tq)
  go_wp2_with fail
  rw [← HV0.out]
  refine HC.out.mono ?_
  rintro e w2 ⟨yk, rfl, hI2, l2, b2, hB⟩
  clear HC
  replace hB := hB.u8
  have hG0 := hB.kt.block _ _ _ _ hG0 (by decide)
  have hG1 := hB.kt.block _ _ _ _ hG1 (by decide)
  replace hA := hA.step hB (by decide)
  clear hB
  have c1_0 := (row_at hG1 1 (.int .u8 0) rfl).1
  have f1_0 := (row_at hG1 1 (.int .u8 0) rfl).2
  have s1 : (w2.setCell ⟨w1.heap.size, 1, none⟩ (.int .u8 (yk % 256))).heap[w1.heap.size]? = some (.cells #[.string yg, .int .u8 (yk % 256), .int .i64 0, .int .i64 0, .int .i64 0, .int .i64 0, .int .i64 0, .int .i64 0, .int .i64 0, .bool false, .slice none 0 0, .slice none 0 0] (79 : TypeId) (0, 0)) := heap_setCell_same _ (w1.heap.size) 1 _ (79 : TypeId) (.int .u8 (yk % 256)) hG1
  have h0_1 : (w2.setCell ⟨w1.heap.size, 1, none⟩ (.int .u8 (yk % 256))).heap[w.heap.size]? = some (.cells #[.string ⟨#[]⟩, .int .u8 0, .int .i64 0, .int .i64 0, .int .i64 0, .int .i64 0, .int .i64 0, .int .i64 0, .int .i64 0, .bool false, .slice none 0 0, .slice none 0 0] (79 : TypeId) (0, 0)) := (Below.heap_setCell _ _ _ _ (Nat.ne_of_lt hne)).trans hG0
  replace hA := hA.beside (S := (79 : TypeId)) (by decide) (Kt.set (i := 1) hG1 (.int .u8 (yk % 256))) ((Below.refl wb.heap.size w2).setCell hlB (.int .u8 (yk % 256))) hRl
  obtain ⟨V1, HV1⟩ : ∃ V, Hid (V = w2.setCell ⟨w1.heap.size, 1, none⟩ (.int .u8 (yk % 256))) := ⟨_, hide rfl⟩
  rw [← HV1.out] at hA h0_1 s1
  have HX := hide hA
  have HY := hide h0_1
  have HZ := hide s1
  clear hA h0_1 hG1 hG0 s1
  have hA := HX.out
  have hG0 := HY.out
  have hG1 := HZ.out
  clear HX HY HZ
  have HC := hide (tnum_any hA.tq)
  go_wp2_with fail
  rw [← HV1.out]
  refine HC.out.mono ?_
  rintro e w3 ⟨yf, rfl, hI3, l3, b3, hB⟩
  clear HC
  have hG0 := hB.kt.block _ _ _ _ hG0 (by decide)
  have hG1 := hB.kt.block _ _ _ _ hG1 (by decide)
  replace hA := hA.step hB (by decide)
  clear hB
  have c2_0 := (row_at hG1 2 (.int .i64 0) rfl).1
  have f2_0 := (row_at hG1 2 (.int .i64 0) rfl).2
  have s2 : (w3.setCell ⟨w1.heap.size, 2, none⟩ (.int .i64 yf)).heap[w1.heap.size]? = some (.cells #[.string yg, .int .u8 (yk % 256), .int .i64 yf, .int .i64 0, .int .i64 0, .int .i64 0, .int .i64 0, .int .i64 0, .int .i64 0, .bool false, .slice none 0 0, .slice none 0 0] (79 : TypeId) (0, 0)) := heap_setCell_same _ (w1.heap.size) 2 _ (79 : TypeId) (.int .i64 yf) hG1
  have h0_2 : (w3.setCell ⟨w1.heap.size, 2, none⟩ (.int .i64 yf)).heap[w.heap.size]? = some (.cells #[.string ⟨#[]⟩, .int .u8 0, .int .i64 0, .int .i64 0, .int .i64 0, .int .i64 0, .int .i64 0, .int .i64 0, .int .i64 0, .bool false, .slice none 0 0, .slice none 0 0] (79 : TypeId) (0, 0)) := (Below.heap_setCell _ _ _ _ (Nat.ne_of_lt hne)).trans hG0
  replace hA := hA.beside (S := (79 : TypeId)) (by decide) (Kt.set (i := 2) hG1 (.int .i64 yf)) ((Below.refl wb.heap.size w3).setCell hlB (.int .i64 yf)) hRl
  obtain ⟨V2, HV2⟩ : ∃ V, Hid (V = w3.setCell ⟨w1.heap.size, 2, none⟩ (.int .i64 yf)) := ⟨_, hide rfl⟩
  rw [← HV2.out] at hA h0_2 s2
  have HX := hide hA
  have HY := hide h0_2
  have HZ := hide s2
  clear hA h0_2 hG1 hG0 s2
  have hA := HX.out
  have hG0 := HY.out
  have hG1 := HZ.out
  clear HX HY HZ
  have HC := hide (tnum_any hA.tq)
  go_wp2_with fail
  rw [← HV2.out]
  refine HC.out.mono ?_
  rintro e w4 ⟨yt, rfl, hI4, l4, b4, hB⟩
  clear HC
  have hG0 := hB.kt.block _ _ _ _ hG0 (by decide)
  have hG1 := hB.kt.block _ _ _ _ hG1 (by decide)
  replace hA := hA.step hB (by decide)
  clear hB
  have c3_0 := (row_at hG1 3 (.int .i64 0) rfl).1
  have f3_0 := (row_at hG1 3 (.int .i64 0) rfl).2
  have s3 : (w4.setCell ⟨w1.heap.size, 3, none⟩ (.int .i64 yt)).heap[w1.heap.size]? = some (.cells #[.string yg, .int .u8 (yk % 256), .int .i64 yf, .int .i64 yt, .int .i64 0, .int .i64 0, .int .i64 0, .int .i64 0, .int .i64 0, .bool false, .slice none 0 0, .slice none 0 0] (79 : TypeId) (0, 0)) := heap_setCell_same _ (w1.heap.size) 3 _ (79 : TypeId) (.int .i64 yt) hG1
  have h0_3 : (w4.setCell ⟨w1.heap.size, 3, none⟩ (.int .i64 yt)).heap[w.heap.size]? = some (.cells #[.string ⟨#[]⟩, .int .u8 0, .int .i64 0, .int .i64 0, .int .i64 0, .int .i64 0, .int .i64 0, .int .i64 0, .int .i64 0, .bool false, .slice none 0 0, .slice none 0 0] (79 : TypeId) (0, 0)) := (Below.heap_setCell _ _ _ _ (Nat.ne_of_lt hne)).trans hG0
  replace hA := hA.beside (S := (79 : TypeId)) (by decide) (Kt.set (i := 3) hG1 (.int .i64 yt)) ((Below.refl wb.heap.size w4).setCell hlB (.int .i64 yt)) hRl
  obtain ⟨V3, HV3⟩ : ∃ V, Hid (V = w4.setCell ⟨w1.heap.size, 3, none⟩ (.int .i64 yt)) := ⟨_, hide rfl⟩
  rw [← HV3.out] at hA h0_3 s3
  have HX := hide hA
  have HY := hide h0_3
  have HZ := hide s3
  clear hA h0_3 hG1 hG0 s3
  have hA := HX.out
  have hG0 := HY.out
  have hG1 := HZ.out
  clear HX HY HZ
  have HC := hide (tnum_any hA.tq)
  go_wp2_with fail
  rw [← HV3.out]
  refine HC.out.mono ?_
  rintro e w5 ⟨ym, rfl, hI5, l5, b5, hB⟩
  clear HC
  have hG0 := hB.kt.block _ _ _ _ hG0 (by decide)
  have hG1 := hB.kt.block _ _ _ _ hG1 (by decide)
  replace hA := hA.step hB (by decide)
  clear hB
  have c4_0 := (row_at hG1 4 (.int .i64 0) rfl).1
  have f4_0 := (row_at hG1 4 (.int .i64 0) rfl).2
  have s4 : (w5.setCell ⟨w1.heap.size, 4, none⟩ (.int .i64 ym)).heap[w1.heap.size]? = some (.cells #[.string yg, .int .u8 (yk % 256), .int .i64 yf, .int .i64 yt, .int .i64 ym, .int .i64 0, .int .i64 0, .int .i64 0, .int .i64 0, .bool false, .slice none 0 0, .slice none 0 0] (79 : TypeId) (0, 0)) := heap_setCell_same _ (w1.heap.size) 4 _ (79 : TypeId) (.int .i64 ym) hG1
  have h0_4 : (w5.setCell ⟨w1.heap.size, 4, none⟩ (.int .i64 ym)).heap[w.heap.size]? = some (.cells #[.string ⟨#[]⟩, .int .u8 0, .int .i64 0, .int .i64 0, .int .i64 0, .int .i64 0, .int .i64 0, .int .i64 0, .int .i64 0, .bool false, .slice none 0 0, .slice none 0 0] (79 : TypeId) (0, 0)) := (Below.heap_setCell _ _ _ _ (Nat.ne_of_lt hne)).trans hG0
  replace hA := hA.beside (S := (79 : TypeId)) (by decide) (Kt.set (i := 4) hG1 (.int .i64 ym)) ((Below.refl wb.heap.size w5).setCell hlB (.int .i64 ym)) hRl
  obtain ⟨V4, HV4⟩ : ∃ V, Hid (V = w5.setCell ⟨w1.heap.size, 4, none⟩ (.int .i64 ym)) := ⟨_, hide rfl⟩
  rw [← HV4.out] at hA h0_4 s4
  have HX := hide hA
  have HY := hide h0_4
  have HZ := hide s4
  clear hA h0_4 hG1 hG0 s4
  have hA := HX.out
  have hG0 := HY.out
  have hG1 := HZ.out
  clear HX HY HZ
  have HC := hide (tnum_any hA.tq)
  go_wp2_with fail
  rw [← HV4.out]
  refine HC.out.mono ?_
  rintro e w6 ⟨yi, rfl, hI6, l6, b6, hB⟩
  clear HC
  have hG0 := hB.kt.block _ _ _ _ hG0 (by decide)
  have hG1 := hB.kt.block _ _ _ _ hG1 (by decide)
  replace hA := hA.step hB (by decide)
  clear hB
  have c5_0 := (row_at hG1 5 (.int .i64 0) rfl).1
  have f5_0 := (row_at hG1 5 (.int .i64 0) rfl).2
  have s5 : (w6.setCell ⟨w1.heap.size, 5, none⟩ (.int .i64 yi)).heap[w1.heap.size]? = some (.cells #[.string yg, .int .u8 (yk % 256), .int .i64 yf, .int .i64 yt, .int .i64 ym, .int .i64 yi, .int .i64 0, .int .i64 0, .int .i64 0, .bool false, .slice none 0 0, .slice none 0 0] (79 : TypeId) (0, 0)) := heap_setCell_same _ (w1.heap.size) 5 _ (79 : TypeId) (.int .i64 yi) hG1
  have h0_5 : (w6.setCell ⟨w1.heap.size, 5, none⟩ (.int .i64 yi)).heap[w.heap.size]? = some (.cells #[.string ⟨#[]⟩, .int .u8 0, .int .i64 0, .int .i64 0, .int .i64 0, .int .i64 0, .int .i64 0, .int .i64 0, .int .i64 0, .bool false, .slice none 0 0, .slice none 0 0] (79 : TypeId) (0, 0)) := (Below.heap_setCell _ _ _ _ (Nat.ne_of_lt hne)).trans hG0
  replace hA := hA.beside (S := (79 : TypeId)) (by decide) (Kt.set (i := 5) hG1 (.int .i64 yi)) ((Below.refl wb.heap.size w6).setCell hlB (.int .i64 yi)) hRl
  obtain ⟨V5, HV5⟩ : ∃ V, Hid (V = w6.setCell ⟨w1.heap.size, 5, none⟩ (.int .i64 yi)) := ⟨_, hide rfl⟩
  rw [← HV5.out] at hA h0_5 s5
  have HX := hide hA
  have HY := hide h0_5
  have HZ := hide s5
  clear hA h0_5 hG1 hG0 s5
  have hA := HX.out
  have hG0 := HY.out
  have hG1 := HZ.out
  clear HX HY HZ
  have HC := hide (tnum_any hA.tq)
  go_wp2_with fail
  rw [← HV5.out]
  refine HC.out.mono ?_
  rintro e w7 ⟨yo, rfl, hI7, l7, b7, hB⟩
  clear HC
  have hG0 := hB.kt.block _ _ _ _ hG0 (by decide)
  have hG1 := hB.kt.block _ _ _ _ hG1 (by decide)
  replace hA := hA.step hB (by decide)
  clear hB
  have c6_0 := (row_at hG1 6 (.int .i64 0) rfl).1
  have f6_0 := (row_at hG1 6 (.int .i64 0) rfl).2
  have s6 : (w7.setCell ⟨w1.heap.size, 6, none⟩ (.int .i64 yo)).heap[w1.heap.size]? = some (.cells #[.string yg, .int .u8 (yk % 256), .int .i64 yf, .int .i64 yt, .int .i64 ym, .int .i64 yi, .int .i64 yo, .int .i64 0, .int .i64 0, .bool false, .slice none 0 0, .slice none 0 0] (79 : TypeId) (0, 0)) := heap_setCell_same _ (w1.heap.size) 6 _ (79 : TypeId) (.int .i64 yo) hG1
  have h0_6 : (w7.setCell ⟨w1.heap.size, 6, none⟩ (.int .i64 yo)).heap[w.heap.size]? = some (.cells #[.string ⟨#[]⟩, .int .u8 0, .int .i64 0, .int .i64 0, .int .i64 0, .int .i64 0, .int .i64 0, .int .i64 0, .int .i64 0, .bool false, .slice none 0 0, .slice none 0 0] (79 : TypeId) (0, 0)) := (Below.heap_setCell _ _ _ _ (Nat.ne_of_lt hne)).trans hG0
  replace hA := hA.beside (S := (79 : TypeId)) (by decide) (Kt.set (i := 6) hG1 (.int .i64 yo)) ((Below.refl wb.heap.size w7).setCell hlB (.int .i64 yo)) hRl
  obtain ⟨V6, HV6⟩ : ∃ V, Hid (V = w7.setCell ⟨w1.heap.size, 6, none⟩ (.int .i64 yo)) := ⟨_, hide rfl⟩
  rw [← HV6.out] at hA h0_6 s6
  have HX := hide hA
  have HY := hide h0_6
  have HZ := hide s6
  clear hA h0_6 hG1 hG0 s6
  have hA := HX.out
  have hG0 := HY.out
  have hG1 := HZ.out
  clear HX HY HZ
  have HC := hide (tnum_any hA.tq)
  go_wp2_with fail
  rw [← HV6.out]
  refine HC.out.mono ?_
  rintro e w8 ⟨yc, rfl, hI8, l8, b8, hB⟩
  clear HC
  have hG0 := hB.kt.block _ _ _ _ hG0 (by decide)
  have hG1 := hB.kt.block _ _ _ _ hG1 (by decide)
  replace hA := hA.step hB (by decide)
  clear hB
  have c7_0 := (row_at hG1 7 (.int .i64 0) rfl).1
  have f7_0 := (row_at hG1 7 (.int .i64 0) rfl).2
  have s7 : (w8.setCell ⟨w1.heap.size, 7, none⟩ (.int .i64 yc)).heap[w1.heap.size]? = some (.cells #[.string yg, .int .u8 (yk % 256), .int .i64 yf, .int .i64 yt, .int .i64 ym, .int .i64 yi, .int .i64 yo, .int .i64 yc, .int .i64 0, .bool false, .slice none 0 0, .slice none 0 0] (79 : TypeId) (0, 0)) := heap_setCell_same _ (w1.heap.size) 7 _ (79 : TypeId) (.int .i64 yc) hG1
  have h0_7 : (w8.setCell ⟨w1.heap.size, 7, none⟩ (.int .i64 yc)).heap[w.heap.size]? = some (.cells #[.string ⟨#[]⟩, .int .u8 0, .int .i64 0, .int .i64 0, .int .i64 0, .int .i64 0, .int .i64 0, .int .i64 0, .int .i64 0, .bool false, .slice none 0 0, .slice none 0 0] (79 : TypeId) (0, 0)) := (Below.heap_setCell _ _ _ _ (Nat.ne_of_lt hne)).trans hG0
  replace hA := hA.beside (S := (79 : TypeId)) (by decide) (Kt.set (i := 7) hG1 (.int .i64 yc)) ((Below.refl wb.heap.size w8).setCell hlB (.int .i64 yc)) hRl
  obtain ⟨V7, HV7⟩ : ∃ V, Hid (V = w8.setCell ⟨w1.heap.size, 7, none⟩ (.int .i64 yc)) := ⟨_, hide rfl⟩
  rw [← HV7.out] at hA h0_7 s7
  have HX := hide hA
  have HY := hide h0_7
  have HZ := hide s7
  clear hA h0_7 hG1 hG0 s7
  have hA := HX.out
  have hG0 := HY.out
  have hG1 := HZ.out
  clear HX HY HZ
  have HC := hide (tnum_any hA.tq)
  go_wp2_with fail
  rw [← HV7.out]
  refine HC.out.mono ?_
  rintro e w9 ⟨yr, rfl, hI9, l9, b9, hB⟩
  clear HC
  have hG0 := hB.kt.block _ _ _ _ hG0 (by decide)
  have hG1 := hB.kt.block _ _ _ _ hG1 (by decide)
  replace hA := hA.step hB (by decide)
  clear hB
  have c8_0 := (row_at hG1 8 (.int .i64 0) rfl).1
  have f8_0 := (row_at hG1 8 (.int .i64 0) rfl).2
  have s8 : (w9.setCell ⟨w1.heap.size, 8, none⟩ (.int .i64 yr)).heap[w1.heap.size]? = some (.cells #[.string yg, .int .u8 (yk % 256), .int .i64 yf, .int .i64 yt, .int .i64 ym, .int .i64 yi, .int .i64 yo, .int .i64 yc, .int .i64 yr, .bool false, .slice none 0 0, .slice none 0 0] (79 : TypeId) (0, 0)) := heap_setCell_same _ (w1.heap.size) 8 _ (79 : TypeId) (.int .i64 yr) hG1
  have h0_8 : (w9.setCell ⟨w1.heap.size, 8, none⟩ (.int .i64 yr)).heap[w.heap.size]? = some (.cells #[.string ⟨#[]⟩, .int .u8 0, .int .i64 0, .int .i64 0, .int .i64 0, .int .i64 0, .int .i64 0, .int .i64 0, .int .i64 0, .bool false, .slice none 0 0, .slice none 0 0] (79 : TypeId) (0, 0)) := (Below.heap_setCell _ _ _ _ (Nat.ne_of_lt hne)).trans hG0
  replace hA := hA.beside (S := (79 : TypeId)) (by decide) (Kt.set (i := 8) hG1 (.int .i64 yr)) ((Below.refl wb.heap.size w9).setCell hlB (.int .i64 yr)) hRl
  obtain ⟨V8, HV8⟩ : ∃ V, Hid (V = w9.setCell ⟨w1.heap.size, 8, none⟩ (.int .i64 yr)) := ⟨_, hide rfl⟩
  rw [← HV8.out] at hA h0_8 s8
  have HX := hide hA
  have HY := hide h0_8
  have HZ := hide s8
  clear hA h0_8 hG1 hG0 s8
  have hA := HX.out
  have hG0 := HY.out
  have hG1 := HZ.out
  clear HX HY HZ
  have HC := hide (tbool_any hA.tq)
  go_wp2_with fail
  rw [← HV8.out]
  refine HC.out.mono ?_
  rintro e w10 ⟨yx, rfl, l10, b10, hB⟩
  clear HC
  have hG0 := hB.kt.block _ _ _ _ hG0 (by decide)
  have hG1 := hB.kt.block _ _ _ _ hG1 (by decide)
  replace hA := hA.step hB (by decide)
  clear hB
  have c9_0 := (row_at hG1 9 (.bool false) rfl).1
  have f9_0 := (row_at hG1 9 (.bool false) rfl).2
  have s9 : (w10.setCell ⟨w1.heap.size, 9, none⟩ (.bool yx)).heap[w1.heap.size]? = some (.cells #[.string yg, .int .u8 (yk % 256), .int .i64 yf, .int .i64 yt, .int .i64 ym, .int .i64 yi, .int .i64 yo, .int .i64 yc, .int .i64 yr, .bool yx, .slice none 0 0, .slice none 0 0] (79 : TypeId) (0, 0)) := heap_setCell_same _ (w1.heap.size) 9 _ (79 : TypeId) (.bool yx) hG1
  have h0_9 : (w10.setCell ⟨w1.heap.size, 9, none⟩ (.bool yx)).heap[w.heap.size]? = some (.cells #[.string ⟨#[]⟩, .int .u8 0, .int .i64 0, .int .i64 0, .int .i64 0, .int .i64 0, .int .i64 0, .int .i64 0, .int .i64 0, .bool false, .slice none 0 0, .slice none 0 0] (79 : TypeId) (0, 0)) := (Below.heap_setCell _ _ _ _ (Nat.ne_of_lt hne)).trans hG0
  replace hA := hA.beside (S := (79 : TypeId)) (by decide) (Kt.set (i := 9) hG1 (.bool yx)) ((Below.refl wb.heap.size w10).setCell hlB (.bool yx)) hRl
  obtain ⟨V9, HV9⟩ : ∃ V, Hid (V = w10.setCell ⟨w1.heap.size, 9, none⟩ (.bool yx)) := ⟨_, hide rfl⟩
  rw [← HV9.out] at hA h0_9 s9
  have HX := hide hA
  have HY := hide h0_9
  have HZ := hide s9
  clear hA h0_9 hG1 hG0 s9
  have hA := HX.out
  have hG0 := HY.out
  have hG1 := HZ.out
  clear HX HY HZ
  have HC := hide (tsize_any hA.tq)
  have hby10 := hA.tq.byte
  have hsh10 := hA.tq.short
  go_wp2_with fail
  rw [← HV9.out]
  refine HC.out.mono ?_
  rintro e ws ⟨nn, l11, b11, rfl, hTs, hks, hnn, hors⟩
  have HORS := hide hors
  have hG0 := hks.block _ _ _ _ hG0 (by decide)
  have hG1 := hks.block _ _ _ _ hG1 (by decide)
  have HA := hide hA
  have HST := hide (Lq.start (c := Cod.entry) (T := (159 : TypeId)) (size := 2) (L := LEntry) (C := 2) (n0 := nn) (w0 := wb) hTs (hA.kt.trans hks))
  have HG1s := hide hG1
  have HG0s := hide hG0
  clear hTs hks hors HC hA hG0 hG1
  go_wp2_with fail
  go_loopw [6, 7] (fun i _ wr => ∃ (k : Nat) (r : List Cod.Entry) (l2 : List Int) (bd : Bool) (u : Value), r.length + k = nn ∧ i = .int .i64 k ∧ Hid (Lq Cod.entry (159 : TypeId) 2 LEntry 2 W0 R l11 b11 nn wb r l2 bd u wr) ∧ Hid (wr.heap[w1.heap.size]? = some (.cells #[.string yg, .int .u8 (yk % 256), .int .i64 yf, .int .i64 yt, .int .i64 ym, .int .i64 yi, .int .i64 yo, .int .i64 yc, .int .i64 yr, .bool yx, u, .slice none 0 0] (79 : TypeId) (0, 0))) ∧ Hid (wr.heap[w.heap.size]? = some (.cells #[.string ⟨#[]⟩, .int .u8 0, .int .i64 0, .int .i64 0, .int .i64 0, .int .i64 0, .int .i64 0, .int .i64 0, .int .i64 0, .bool false, .slice none 0 0, .slice none 0 0] (79 : TypeId) (0, 0)))) (fun i _ _ => (intOf i).toNat)
  case atStart => exact ⟨nn, [], l11, b11, _, by simp, rfl, HST, HG1s, HG0s⟩
  case round =>
    obtain ⟨k, r, l2, bd, u, hrk, rfl, hH, hX1, hX0⟩ := hrel
    obtain ⟨ua, ud, rfl⟩ := hH.out.val
    obtain ⟨ta, tm, tc, g1, _⟩ := hH.out.tq.is
    have q1 := (row_at g1 1 (.bool bd) rfl).1
    clear g1
    rcases Nat.eq_zero_or_pos k with rfl | hk
    · have hLs := hH.out.done (.inl (by omega)) Cod.entry_law Cod.entry_much LEntry.k hby10 hsh10 hnn HORS.out
      have hA := HA.out.stepb hLs (fun q h => h)
      have hG1 := hX1.out
      have hG0 := hX0.out
      have HC := hide (tdata_any hLs.tq)
      have hn1 : w.heap.size < w1.heap.size := hne
      clear hLs hH hX1 hX0
      go_wp2_with fail
      refine HC.out.mono ?_
      rintro e w12 ⟨yya, yyn, yyc, rfl, hM12, l12, b12, hB⟩
      clear HC
      have hG0 := hB.kt.block _ _ _ _ hG0 (by decide)
      have hG1 := hB.kt.block _ _ _ _ hG1 (by decide)
      replace hA := hA.step hB (by decide)
      clear hB
      have c11_0 := (row_at hG1 11 (.slice none 0 0) rfl).1
      have f11_0 := (row_at hG1 11 (.slice none 0 0) rfl).2
      have s11 : (w12.setCell ⟨w1.heap.size, 11, none⟩ (.slice yya yyn yyc)).heap[w1.heap.size]? = some (.cells #[.string yg, .int .u8 (yk % 256), .int .i64 yf, .int .i64 yt, .int .i64 ym, .int .i64 yi, .int .i64 yo, .int .i64 yc, .int .i64 yr, .bool yx, .slice ua r.length ud, .slice yya yyn yyc] (79 : TypeId) (0, 0)) := heap_setCell_same _ (w1.heap.size) 11 _ (79 : TypeId) (.slice yya yyn yyc) hG1
      have h0_11 : (w12.setCell ⟨w1.heap.size, 11, none⟩ (.slice yya yyn yyc)).heap[w.heap.size]? = some (.cells #[.string ⟨#[]⟩, .int .u8 0, .int .i64 0, .int .i64 0, .int .i64 0, .int .i64 0, .int .i64 0, .int .i64 0, .int .i64 0, .bool false, .slice none 0 0, .slice none 0 0] (79 : TypeId) (0, 0)) := (Below.heap_setCell _ _ _ _ (Nat.ne_of_lt hne)).trans hG0
      replace hA := hA.beside (S := (79 : TypeId)) (by decide) (Kt.set (i := 11) hG1 (.slice yya yyn yyc)) ((Below.refl wb.heap.size w12).setCell hlB (.slice yya yyn yyc)) hRl
      obtain ⟨V11, HV11⟩ : ∃ V, Hid (V = w12.setCell ⟨w1.heap.size, 11, none⟩ (.slice yya yyn yyc)) := ⟨_, hide rfl⟩
      rw [← HV11.out] at hA h0_11 s11
      have HX := hide hA
      have HY := hide h0_11
      have HZ := hide s11
      clear hA h0_11 hG1 hG0 s11
      have hA := HX.out
      have hG0 := HY.out
      have hG1 := HZ.out
      clear HX HY HZ
      have hF : Aq Cod.raft (fun V q => LRaft V q [.string yg, .int .u8 (yk % 256), .int .i64 yf, .int .i64 yt, .int .i64 ym, .int .i64 yi, .int .i64 yo, .int .i64 yc, .int .i64 yr, .bool yx, .slice ua r.length ud, .slice yya yyn yyc]) [(159 : TypeId), (5 : TypeId), (5 : TypeId)] 24 W0 R l bad l12 b12 wb V11 := (hA.assoc.assoc.assoc.assoc.assoc.assoc.assoc.assoc.assoc.assoc).iso (f := _) (g := _) (fun _ => rfl) (fun q hq => by obtain ⟨⟨⟨⟨⟨⟨⟨⟨⟨⟨⟨h0, h1⟩, h2⟩, h3⟩, h4⟩, h5⟩, h6⟩, h7⟩, h8⟩, h9⟩, h10⟩, h11⟩ := hq; exact ⟨_, _, rfl, h0, _, _, rfl, h1, _, _, rfl, h2, _, _, rfl, h3, _, _, rfl, h4, _, _, rfl, h5, _, _, rfl, h6, _, _, rfl, h7, _, _, rfl, h8, _, _, rfl, h9, _, _, rfl, h10, h11⟩) LRaft.k
      obtain ⟨x, hLx, hlen, hex⟩ := hF.ex
      have hAx := LRaft.arg _ _ _ hLx
      have hok := ARaft.o _ _ _ hAx
      have hroom : (Cod.thing Cod.raft 7 x).length ≤ 140737488355328 := by
        simp only [Cod.thing, List.length_cons]
        split at hlen <;> omega
      have hthb := thing_byte (k := 7) Cod.raft_law (by omega) hok
      obtain ⟨hyes, hno⟩ := get_same (k := 7) (most := 65545) Cod.raft_law HBY.out hok HLN.out (by omega) HOR.out hex
      have HP := hide (hAx.ref hroom)
      have HT := hide hF.tq
      have hBn := HB.out.keep hF.tq.low
      have hlow : Below w.heap.size w V11 := hbW.trans (hF.tq.low.mono hbW.size)
      have HLOW := hide hlow
      have HBN := hide hBn
      have HLX := hide hLx
      have HYES := hide hyes
      have HNO := hide hno
      have HTB := hide hthb
      have HG0 := hide hG0
      have HG1 := hide hG1
      clear hF hlen hex hAx hok hroom hthb hyes hno hBn hlow hLx hG0 hG1 hA
      have HGX : Hid (w12.setCell ⟨w1.heap.size, 11, none⟩ (.slice yya yyn yyc) = V11) := hide HV11.out.symm
      go_wp2_with (first | (rw [HGX.out]; refine wpList_load_row rfl (79 : TypeId) _ rfl w1.heap.size rfl (79 : TypeId) _ (0, 0) _ HG1.out Tryz.underlying79 rfl (by kernel_rfl) ?_))
      refine HP.out.mono ?_
      rintro e wp ⟨vp, rfl, hop, hbp⟩
      obtain ⟨pa, pd, rfl⟩ := own_val hop
      have HI := hide (tis_any (HT.out.keep hbp HT.out.lt) (own_bs hop HTB.out) (HBN.out.keep hbp) 65545 (most := 65545) rfl)
      have HBP := hide hbp
      clear hop hbp HP
      go_wp2_with fail
      refine HI.out.mono ?_
      rintro e wq ⟨rfl, rfl⟩
      clear HI
      have HG1 := hide ((HBP.out.block _ (hp_lt HG1.out)).trans HG1.out)
      have HG0 := hide ((HBP.out.block _ (hp_lt HG0.out)).trans HG0.out)
      have hlowq : Below w.heap.size w wq := HLOW.out.trans (HBP.out.mono HLOW.out.size)
      by_cases hP : b12 = false ∧ n ≤ 65545 ∧ Cod.thing Cod.raft 7 x = zs
      · have hgot := HYES.out hP
        rw [decide_eq_true hP]
        have hLq : LRaft (wq.setRow w.heap.size #[.string yg, .int .u8 (yk % 256), .int .i64 yf, .int .i64 yt, .int .i64 ym, .int .i64 yi, .int .i64 yo, .int .i64 yc, .int .i64 yr, .bool yx, .slice ua r.length ud, .slice yya yyn yyc]) x [.string yg, .int .u8 (yk % 256), .int .i64 yf, .int .i64 yt, .int .i64 ym, .int .i64 yi, .int .i64 yo, .int .i64 yc, .int .i64 yr, .bool yx, .slice ua r.length ud, .slice yya yyn yyc] := LRaft.k (79 : TypeId) wq _ _ _ (by decide) (Kt.row1 HG0.out) (LRaft.k.below HLX.out HBP.out)
        have HE : Hid (GRaft w zs (.returned (.tuple #[.agg #[.string yg, .int .u8 (yk % 256), .int .i64 yf, .int .i64 yt, .int .i64 ym, .int .i64 yi, .int .i64 yo, .int .i64 yc, .int .i64 yr, .bool yx, .slice ua r.length ud, .slice yya yyn yyc], .int .i64 0])) (wq.setRow w.heap.size #[.string yg, .int .u8 (yk % 256), .int .i64 yf, .int .i64 yt, .int .i64 ym, .int .i64 yi, .int .i64 yo, .int .i64 yc, .int .i64 yr, .bool yx, .slice ua r.length ud, .slice yya yyn yyc])) := hide (GRaft.yes hgot (below_setRow hlowq (Nat.le_refl _) _) hLq)
        have HR : Hid ((wq.setRow w.heap.size #[.string yg, .int .u8 (yk % 256), .int .i64 yf, .int .i64 yt, .int .i64 ym, .int .i64 yi, .int .i64 yo, .int .i64 yc, .int .i64 yr, .bool yx, .slice ua r.length ud, .slice yya yyn yyc]).heap[w.heap.size]? = some (.cells #[.string yg, .int .u8 (yk % 256), .int .i64 yf, .int .i64 yt, .int .i64 ym, .int .i64 yi, .int .i64 yo, .int .i64 yc, .int .i64 yr, .bool yx, .slice ua r.length ud, .slice yya yyn yyc] (79 : TypeId) (0, 0))) := hide (setRow_heap wq w.heap.size _ _ (79 : TypeId) _ HG0.out)
        clear hLq hgot hP hlowq
        go_wp2_with (first | (refine wpList_load_row rfl (79 : TypeId) _ rfl w1.heap.size rfl (79 : TypeId) _ (0, 0) _ HG1.out Tryz.underlying79 rfl (by kernel_rfl) ?_) | (refine wpList_store_row rfl (79 : TypeId) _ _ rfl w.heap.size #[.string yg, .int .u8 (yk % 256), .int .i64 yf, .int .i64 yt, .int .i64 ym, .int .i64 yi, .int .i64 yo, .int .i64 yc, .int .i64 yr, .bool yx, .slice ua r.length ud, .slice yya yyn yyc] rfl rfl (79 : TypeId) _ HG0.out (by kernel_rfl) rfl (by simp [Value.oneCell']) ?_))
        refine bodyPost_ret (v := .tuple #[.agg #[.string yg, .int .u8 (yk % 256), .int .i64 yf, .int .i64 yt, .int .i64 ym, .int .i64 yi, .int .i64 yo, .int .i64 yc, .int .i64 yr, .bool yx, .slice ua r.length ud, .slice yya yyn yyc], .int .i64 0]) (results_cell_tmp Tryz.results27 _ _ w.heap.size (79 : TypeId) _ (0, 0) _ _ rfl rfl HR.out Tryz.underlying79 rfl (by kernel_rfl)) rfl ?_
        exact HE.out
      · have hgot := HNO.out hP
        rw [decide_eq_false hP]
        have HE : Hid (GRaft w zs (.returned (.tuple #[.agg #[.string ⟨#[]⟩, .int .u8 0, .int .i64 0, .int .i64 0, .int .i64 0, .int .i64 0, .int .i64 0, .int .i64 0, .int .i64 0, .bool false, .slice none 0 0, .slice none 0 0], .int .i64 60])) (wq.setRow w.heap.size #[.string ⟨#[]⟩, .int .u8 0, .int .i64 0, .int .i64 0, .int .i64 0, .int .i64 0, .int .i64 0, .int .i64 0, .int .i64 0, .bool false, .slice none 0 0, .slice none 0 0])) := hide (GRaft.no hgot (below_setRow hlowq (Nat.le_refl _) _))
        have HR : Hid ((wq.setRow w.heap.size #[.string ⟨#[]⟩, .int .u8 0, .int .i64 0, .int .i64 0, .int .i64 0, .int .i64 0, .int .i64 0, .int .i64 0, .int .i64 0, .bool false, .slice none 0 0, .slice none 0 0]).heap[w.heap.size]? = some (.cells #[.string ⟨#[]⟩, .int .u8 0, .int .i64 0, .int .i64 0, .int .i64 0, .int .i64 0, .int .i64 0, .int .i64 0, .int .i64 0, .bool false, .slice none 0 0, .slice none 0 0] (79 : TypeId) (0, 0))) := hide (setRow_heap wq w.heap.size _ _ (79 : TypeId) _ HG0.out)
        clear hgot hP hlowq
        go_wp2_with (refine wpList_store_row rfl (79 : TypeId) _ _ rfl w.heap.size #[.string ⟨#[]⟩, .int .u8 0, .int .i64 0, .int .i64 0, .int .i64 0, .int .i64 0, .int .i64 0, .int .i64 0, .int .i64 0, .bool false, .slice none 0 0, .slice none 0 0] rfl rfl (79 : TypeId) _ HG0.out (by kernel_rfl) rfl (by simp [Value.oneCell']) ?_)
        refine bodyPost_ret (v := .tuple #[.agg #[.string ⟨#[]⟩, .int .u8 0, .int .i64 0, .int .i64 0, .int .i64 0, .int .i64 0, .int .i64 0, .int .i64 0, .int .i64 0, .bool false, .slice none 0 0, .slice none 0 0], .int .i64 60]) (results_cell_tmp Tryz.results27 _ _ w.heap.size (79 : TypeId) _ (0, 0) _ _ rfl rfl HR.out Tryz.underlying79 rfl (by kernel_rfl)) rfl ?_
        exact HE.out
    · have j1 : (0 : Int) < (k : Int) := by omega
      cases bd with
      | true =>
        have hLs := hH.out.done (.inr rfl) Cod.entry_law Cod.entry_much LEntry.k hby10 hsh10 hnn HORS.out
        have hA := HA.out.stepb hLs (fun q h => h)
        have hG1 := hX1.out
        have hG0 := hX0.out
        have HC := hide (tdata_any hLs.tq)
        have hn1 : w.heap.size < w1.heap.size := hne
        clear hLs hH hX1 hX0
        go_wp2_with fail
        refine HC.out.mono ?_
        rintro e w12 ⟨yya, yyn, yyc, rfl, hM12, l12, b12, hB⟩
        clear HC
        have hG0 := hB.kt.block _ _ _ _ hG0 (by decide)
        have hG1 := hB.kt.block _ _ _ _ hG1 (by decide)
        replace hA := hA.step hB (by decide)
        clear hB
        have c11_0 := (row_at hG1 11 (.slice none 0 0) rfl).1
        have f11_0 := (row_at hG1 11 (.slice none 0 0) rfl).2
        have s11 : (w12.setCell ⟨w1.heap.size, 11, none⟩ (.slice yya yyn yyc)).heap[w1.heap.size]? = some (.cells #[.string yg, .int .u8 (yk % 256), .int .i64 yf, .int .i64 yt, .int .i64 ym, .int .i64 yi, .int .i64 yo, .int .i64 yc, .int .i64 yr, .bool yx, .slice ua r.length ud, .slice yya yyn yyc] (79 : TypeId) (0, 0)) := heap_setCell_same _ (w1.heap.size) 11 _ (79 : TypeId) (.slice yya yyn yyc) hG1
        have h0_11 : (w12.setCell ⟨w1.heap.size, 11, none⟩ (.slice yya yyn yyc)).heap[w.heap.size]? = some (.cells #[.string ⟨#[]⟩, .int .u8 0, .int .i64 0, .int .i64 0, .int .i64 0, .int .i64 0, .int .i64 0, .int .i64 0, .int .i64 0, .bool false, .slice none 0 0, .slice none 0 0] (79 : TypeId) (0, 0)) := (Below.heap_setCell _ _ _ _ (Nat.ne_of_lt hne)).trans hG0
        replace hA := hA.beside (S := (79 : TypeId)) (by decide) (Kt.set (i := 11) hG1 (.slice yya yyn yyc)) ((Below.refl wb.heap.size w12).setCell hlB (.slice yya yyn yyc)) hRl
        obtain ⟨V11, HV11⟩ : ∃ V, Hid (V = w12.setCell ⟨w1.heap.size, 11, none⟩ (.slice yya yyn yyc)) := ⟨_, hide rfl⟩
        rw [← HV11.out] at hA h0_11 s11
        have HX := hide hA
        have HY := hide h0_11
        have HZ := hide s11
        clear hA h0_11 hG1 hG0 s11
        have hA := HX.out
        have hG0 := HY.out
        have hG1 := HZ.out
        clear HX HY HZ
        have hF : Aq Cod.raft (fun V q => LRaft V q [.string yg, .int .u8 (yk % 256), .int .i64 yf, .int .i64 yt, .int .i64 ym, .int .i64 yi, .int .i64 yo, .int .i64 yc, .int .i64 yr, .bool yx, .slice ua r.length ud, .slice yya yyn yyc]) [(159 : TypeId), (5 : TypeId), (5 : TypeId)] 24 W0 R l bad l12 b12 wb V11 := (hA.assoc.assoc.assoc.assoc.assoc.assoc.assoc.assoc.assoc.assoc).iso (f := _) (g := _) (fun _ => rfl) (fun q hq => by obtain ⟨⟨⟨⟨⟨⟨⟨⟨⟨⟨⟨h0, h1⟩, h2⟩, h3⟩, h4⟩, h5⟩, h6⟩, h7⟩, h8⟩, h9⟩, h10⟩, h11⟩ := hq; exact ⟨_, _, rfl, h0, _, _, rfl, h1, _, _, rfl, h2, _, _, rfl, h3, _, _, rfl, h4, _, _, rfl, h5, _, _, rfl, h6, _, _, rfl, h7, _, _, rfl, h8, _, _, rfl, h9, _, _, rfl, h10, h11⟩) LRaft.k
        obtain ⟨x, hLx, hlen, hex⟩ := hF.ex
        have hAx := LRaft.arg _ _ _ hLx
        have hok := ARaft.o _ _ _ hAx
        have hroom : (Cod.thing Cod.raft 7 x).length ≤ 140737488355328 := by
          simp only [Cod.thing, List.length_cons]
          split at hlen <;> omega
        have hthb := thing_byte (k := 7) Cod.raft_law (by omega) hok
        obtain ⟨hyes, hno⟩ := get_same (k := 7) (most := 65545) Cod.raft_law HBY.out hok HLN.out (by omega) HOR.out hex
        have HP := hide (hAx.ref hroom)
        have HT := hide hF.tq
        have hBn := HB.out.keep hF.tq.low
        have hlow : Below w.heap.size w V11 := hbW.trans (hF.tq.low.mono hbW.size)
        have HLOW := hide hlow
        have HBN := hide hBn
        have HLX := hide hLx
        have HYES := hide hyes
        have HNO := hide hno
        have HTB := hide hthb
        have HG0 := hide hG0
        have HG1 := hide hG1
        clear hF hlen hex hAx hok hroom hthb hyes hno hBn hlow hLx hG0 hG1 hA
        have HGX : Hid (w12.setCell ⟨w1.heap.size, 11, none⟩ (.slice yya yyn yyc) = V11) := hide HV11.out.symm
        go_wp2_with (first | (rw [HGX.out]; refine wpList_load_row rfl (79 : TypeId) _ rfl w1.heap.size rfl (79 : TypeId) _ (0, 0) _ HG1.out Tryz.underlying79 rfl (by kernel_rfl) ?_))
        refine HP.out.mono ?_
        rintro e wp ⟨vp, rfl, hop, hbp⟩
        obtain ⟨pa, pd, rfl⟩ := own_val hop
        have HI := hide (tis_any (HT.out.keep hbp HT.out.lt) (own_bs hop HTB.out) (HBN.out.keep hbp) 65545 (most := 65545) rfl)
        have HBP := hide hbp
        clear hop hbp HP
        go_wp2_with fail
        refine HI.out.mono ?_
        rintro e wq ⟨rfl, rfl⟩
        clear HI
        have HG1 := hide ((HBP.out.block _ (hp_lt HG1.out)).trans HG1.out)
        have HG0 := hide ((HBP.out.block _ (hp_lt HG0.out)).trans HG0.out)
        have hlowq : Below w.heap.size w wq := HLOW.out.trans (HBP.out.mono HLOW.out.size)
        by_cases hP : b12 = false ∧ n ≤ 65545 ∧ Cod.thing Cod.raft 7 x = zs
        · have hgot := HYES.out hP
          rw [decide_eq_true hP]
          have hLq : LRaft (wq.setRow w.heap.size #[.string yg, .int .u8 (yk % 256), .int .i64 yf, .int .i64 yt, .int .i64 ym, .int .i64 yi, .int .i64 yo, .int .i64 yc, .int .i64 yr, .bool yx, .slice ua r.length ud, .slice yya yyn yyc]) x [.string yg, .int .u8 (yk % 256), .int .i64 yf, .int .i64 yt, .int .i64 ym, .int .i64 yi, .int .i64 yo, .int .i64 yc, .int .i64 yr, .bool yx, .slice ua r.length ud, .slice yya yyn yyc] := LRaft.k (79 : TypeId) wq _ _ _ (by decide) (Kt.row1 HG0.out) (LRaft.k.below HLX.out HBP.out)
          have HE : Hid (GRaft w zs (.returned (.tuple #[.agg #[.string yg, .int .u8 (yk % 256), .int .i64 yf, .int .i64 yt, .int .i64 ym, .int .i64 yi, .int .i64 yo, .int .i64 yc, .int .i64 yr, .bool yx, .slice ua r.length ud, .slice yya yyn yyc], .int .i64 0])) (wq.setRow w.heap.size #[.string yg, .int .u8 (yk % 256), .int .i64 yf, .int .i64 yt, .int .i64 ym, .int .i64 yi, .int .i64 yo, .int .i64 yc, .int .i64 yr, .bool yx, .slice ua r.length ud, .slice yya yyn yyc])) := hide (GRaft.yes hgot (below_setRow hlowq (Nat.le_refl _) _) hLq)
          have HR : Hid ((wq.setRow w.heap.size #[.string yg, .int .u8 (yk % 256), .int .i64 yf, .int .i64 yt, .int .i64 ym, .int .i64 yi, .int .i64 yo, .int .i64 yc, .int .i64 yr, .bool yx, .slice ua r.length ud, .slice yya yyn yyc]).heap[w.heap.size]? = some (.cells #[.string yg, .int .u8 (yk % 256), .int .i64 yf, .int .i64 yt, .int .i64 ym, .int .i64 yi, .int .i64 yo, .int .i64 yc, .int .i64 yr, .bool yx, .slice ua r.length ud, .slice yya yyn yyc] (79 : TypeId) (0, 0))) := hide (setRow_heap wq w.heap.size _ _ (79 : TypeId) _ HG0.out)
          clear hLq hgot hP hlowq
          go_wp2_with (first | (refine wpList_load_row rfl (79 : TypeId) _ rfl w1.heap.size rfl (79 : TypeId) _ (0, 0) _ HG1.out Tryz.underlying79 rfl (by kernel_rfl) ?_) | (refine wpList_store_row rfl (79 : TypeId) _ _ rfl w.heap.size #[.string yg, .int .u8 (yk % 256), .int .i64 yf, .int .i64 yt, .int .i64 ym, .int .i64 yi, .int .i64 yo, .int .i64 yc, .int .i64 yr, .bool yx, .slice ua r.length ud, .slice yya yyn yyc] rfl rfl (79 : TypeId) _ HG0.out (by kernel_rfl) rfl (by simp [Value.oneCell']) ?_))
          refine bodyPost_ret (v := .tuple #[.agg #[.string yg, .int .u8 (yk % 256), .int .i64 yf, .int .i64 yt, .int .i64 ym, .int .i64 yi, .int .i64 yo, .int .i64 yc, .int .i64 yr, .bool yx, .slice ua r.length ud, .slice yya yyn yyc], .int .i64 0]) (results_cell_tmp Tryz.results27 _ _ w.heap.size (79 : TypeId) _ (0, 0) _ _ rfl rfl HR.out Tryz.underlying79 rfl (by kernel_rfl)) rfl ?_
          exact HE.out
        · have hgot := HNO.out hP
          rw [decide_eq_false hP]
          have HE : Hid (GRaft w zs (.returned (.tuple #[.agg #[.string ⟨#[]⟩, .int .u8 0, .int .i64 0, .int .i64 0, .int .i64 0, .int .i64 0, .int .i64 0, .int .i64 0, .int .i64 0, .bool false, .slice none 0 0, .slice none 0 0], .int .i64 60])) (wq.setRow w.heap.size #[.string ⟨#[]⟩, .int .u8 0, .int .i64 0, .int .i64 0, .int .i64 0, .int .i64 0, .int .i64 0, .int .i64 0, .int .i64 0, .bool false, .slice none 0 0, .slice none 0 0])) := hide (GRaft.no hgot (below_setRow hlowq (Nat.le_refl _) _))
          have HR : Hid ((wq.setRow w.heap.size #[.string ⟨#[]⟩, .int .u8 0, .int .i64 0, .int .i64 0, .int .i64 0, .int .i64 0, .int .i64 0, .int .i64 0, .int .i64 0, .bool false, .slice none 0 0, .slice none 0 0]).heap[w.heap.size]? = some (.cells #[.string ⟨#[]⟩, .int .u8 0, .int .i64 0, .int .i64 0, .int .i64 0, .int .i64 0, .int .i64 0, .int .i64 0, .int .i64 0, .bool false, .slice none 0 0, .slice none 0 0] (79 : TypeId) (0, 0))) := hide (setRow_heap wq w.heap.size _ _ (79 : TypeId) _ HG0.out)
          clear hgot hP hlowq
          go_wp2_with (refine wpList_store_row rfl (79 : TypeId) _ _ rfl w.heap.size #[.string ⟨#[]⟩, .int .u8 0, .int .i64 0, .int .i64 0, .int .i64 0, .int .i64 0, .int .i64 0, .int .i64 0, .int .i64 0, .bool false, .slice none 0 0, .slice none 0 0] rfl rfl (79 : TypeId) _ HG0.out (by kernel_rfl) rfl (by simp [Value.oneCell']) ?_)
          refine bodyPost_ret (v := .tuple #[.agg #[.string ⟨#[]⟩, .int .u8 0, .int .i64 0, .int .i64 0, .int .i64 0, .int .i64 0, .int .i64 0, .int .i64 0, .int .i64 0, .bool false, .slice none 0 0, .slice none 0 0], .int .i64 60]) (results_cell_tmp Tryz.results27 _ _ w.heap.size (79 : TypeId) _ (0, 0) _ _ rfl rfl HR.out Tryz.underlying79 rfl (by kernel_rfl)) rfl ?_
          exact HE.out
      | false =>
        obtain ⟨wo, hwo⟩ : ∃ wo, wo = wr := ⟨_, rfl⟩
        subst hwo
        have hRo : R < wo.heap.size := hH.out.tq.lt
        have HC := hide (tnum_any hH.out.tq)
        go_wp2_with fail
        refine HC.out.mono ?_
        rintro e x1 ⟨zt, rfl, hI1, l3, b3, hB⟩
        clear HC
        have hX1a := hB.kt.block _ _ _ _ hX1.out (by decide)
        have hX0a := hB.kt.block _ _ _ _ hX0.out (by decide)
        obtain ⟨X0, HX0⟩ : ∃ V, Hid (V = x1.alloc (.cells #[.int .i64 zt, .slice none 0 0] (159 : TypeId))) := ⟨_, hide rfl⟩
        have hbx : Below x1.heap.size x1 X0 := by rw [HX0.out]; exact fresh x1 _
        have hE1 : X0.heap[x1.heap.size]? = some (.cells #[.int .i64 zt, .slice none 0 0] (159 : TypeId) (0, 0)) := by rw [HX0.out]; exact heap_alloc_new x1 _
        have hle1 : wo.heap.size ≤ x1.heap.size := hB.kt.size
        replace hB := hB.beside (S := (159 : TypeId)) (by decide) (Kt.of_below hbx) (hbx.mono hB.kt.size) hRo
        replace hX1a := (hbx.block _ (hp_lt hX1a)).trans hX1a
        replace hX0a := (hbx.block _ (hp_lt hX0a)).trans hX0a
        have HC := hide (tdata_any hB.tq)
        clear hbx
        go_wp2_with fail
        rw [← HX0.out]
        refine HC.out.mono ?_
        rintro e x2 ⟨zxa, zxn, zxc, rfl, hM2, l4, b4, hD⟩
        clear HC
        have hX1a := hD.kt.block _ _ _ _ hX1a (by decide)
        have hX0a := hD.kt.block _ _ _ _ hX0a (by decide)
        have hE1 := hD.kt.block _ _ _ _ hE1 (by decide)
        replace hB := hB.step hD (by decide)
        clear hD
        have c1 := (row_at hE1 1 (.slice none 0 0) rfl).1
        have f1 := (row_at hE1 1 (.slice none 0 0) rfl).2
        have s1 : (x2.setCell ⟨x1.heap.size, 1, none⟩ (.slice zxa zxn zxc)).heap[x1.heap.size]? = some (.cells #[.int .i64 zt, .slice zxa zxn zxc] (159 : TypeId) (0, 0)) := heap_setCell_same _ (x1.heap.size) 1 _ (159 : TypeId) (.slice zxa zxn zxc) hE1
        have hn1 : w1.heap.size < x1.heap.size := Nat.lt_of_lt_of_le (hp_lt hX1.out) hle1
        have hn0 : w.heap.size < x1.heap.size := Nat.lt_of_lt_of_le (hp_lt hX0.out) hle1
        have hX1b := (Below.heap_setCell x2 ⟨x1.heap.size, 1, none⟩ (.slice zxa zxn zxc) _ (Nat.ne_of_lt hn1)).trans hX1a
        have hX0b := (Below.heap_setCell x2 ⟨x1.heap.size, 1, none⟩ (.slice zxa zxn zxc) _ (Nat.ne_of_lt hn0)).trans hX0a
        replace hB := hB.beside (S := (159 : TypeId)) (by decide) (Kt.set (i := 1) hE1 (.slice zxa zxn zxc)) ((Below.refl wo.heap.size x2).setCell hle1 (.slice zxa zxn zxc)) hRo
        obtain ⟨X1, HX1⟩ : ∃ V, Hid (V = x2.setCell ⟨x1.heap.size, 1, none⟩ (.slice zxa zxn zxc)) := ⟨_, hide rfl⟩
        rw [← HX1.out] at hB s1 hX1b hX0b
        have hEn : Aq Cod.entry (fun V q => LEntry V q [.int .i64 zt, .slice zxa zxn zxc]) [(5 : TypeId)] 2 W0 R l2 false l4 b4 wo X1 := hB.iso (f := _) (g := _) (fun _ => rfl) (fun q hq => by obtain ⟨h0, h1⟩ := hq; exact ⟨_, _, rfl, h0, h1⟩) LEntry.k
        obtain ⟨xs, hox, hxx⟩ := hH.out.step hEn LEntry.k (by decide) (by decide) (by decide) rfl hWb (by omega) (.cells #[.int .i64 zt, .slice zxa zxn zxc] (159 : TypeId))
        have hbs : wb.heap.size ≤ X1.heap.size + 1 := by have h1 := hH.out.kt.size; have h2 := hEn.kt.size; omega
        have hbX := fresh X1 (.cells #[.int .i64 zt, .slice zxa zxn zxc] (159 : TypeId))
        have hGr : Hid (∀ (V : World), (X1.alloc (.cells #[.int .i64 zt, .slice zxa zxn zxc] (159 : TypeId))).grownBy V (Value.slice ua r.length ud).ownBlock → V.heap[w1.heap.size]? = some (.cells #[.string yg, .int .u8 (yk % 256), .int .i64 yf, .int .i64 yt, .int .i64 ym, .int .i64 yi, .int .i64 yo, .int .i64 yc, .int .i64 yr, .bool yx, .slice ua r.length ud, .slice none 0 0] (79 : TypeId) (0, 0)) ∧ V.heap[w.heap.size]? = some (.cells #[.string ⟨#[]⟩, .int .u8 0, .int .i64 0, .int .i64 0, .int .i64 0, .int .i64 0, .int .i64 0, .int .i64 0, .int .i64 0, .bool false, .slice none 0 0, .slice none 0 0] (79 : TypeId) (0, 0))) := hide fun V hg => ⟨(Kt.grown hox hg).block _ _ _ _ ((hbX.block _ (hp_lt hX1b)).trans hX1b) (by decide), (Kt.grown hox hg).block _ _ _ _ ((hbX.block _ (hp_lt hX0b)).trans hX0b) (by decide)⟩
        have HXX := hide hxx
        have HOX := hide hox
        have HNW := hide (World.news_of_block (heap_alloc_new X1 (.cells #[.int .i64 zt, .slice zxa zxn zxc] (159 : TypeId))))
        have hrn : r.length ≤ 70000 := by omega
        have d10 : (x2.setCell ⟨x1.heap.size, 1, none⟩ (.slice zxa zxn zxc)).cell? ⟨w1.heap.size, 10, none⟩ = some (.slice ua r.length ud) := by rw [← HX1.out]; exact (row_at hX1b 10 (.slice ua r.length ud) rfl).1
        have HS1 := hide s1
        have HGX : Hid (x2.setCell ⟨x1.heap.size, 1, none⟩ (.slice zxa zxn zxc) = X1) := hide HX1.out.symm
        have HLB := hide hlB
        have hRb := hRl
        clear hxx hox hB hEn hX1a hX0a hX1b hX0b hE1 s1 q1 hbX
        go_wp2_with (first | (rw [HGX.out]; refine wpList_load_row rfl (159 : TypeId) _ rfl x1.heap.size rfl (159 : TypeId) _ (0, 0) _ HS1.out Tryz.underlying159 rfl (by kernel_rfl) ?_) | (at_builtin; refine wpList_append_own _ rfl (.tmp 61) (.tmp 63) (77 : TypeId) rfl wb.heap.size (159 : TypeId) i1 (.agg #[.int .i64 0, .slice none 0 0]) 2 32 Tryz.underlying77 hi' hy0 hy1 hy2 rfl (by omega) _ r.length xs (by rfl) HOX.out ⟨X1.heap.size, 0, none⟩ 1 1 [.int .i64 zt, .slice zxa zxn zxc] (by rfl) rfl HNW.out (by simp [Value.oneCell']) (by unfold maxLen; omega) (by omega) (by simp; omega) ?_; intro v6 w6 ho6 hg6 hn6; clear hn6; obtain ⟨x, hL6⟩ := HXX.out _ w6 ho6 hg6; obtain ⟨a6, d6, hv6⟩ := hL6.val; rw [List.length_append, List.length_singleton] at hv6; subst hv6; obtain ⟨hY1, hY0⟩ := hGr.out w6 hg6; have c6 := (row_at hY1 10 (.slice ua r.length ud) rfl).1; have f6 := (row_at hY1 10 (.slice ua r.length ud) rfl).2; have HL6 := hide (hL6.beside (S := (79 : TypeId)) LEntry.k (by decide) (by decide) (Kt.set (i := 10) hY1 (.slice a6 (r.length + 1) d6)) ((Below.refl wb.heap.size w6).setCell HLB.out (.slice a6 (r.length + 1) d6)) hRb); have HY1 : Hid ((w6.setCell ⟨w1.heap.size, 10, none⟩ (.slice a6 (r.length + 1) d6)).heap[w1.heap.size]? = some (.cells #[.string yg, .int .u8 (yk % 256), .int .i64 yf, .int .i64 yt, .int .i64 ym, .int .i64 yi, .int .i64 yo, .int .i64 yc, .int .i64 yr, .bool yx, .slice a6 (r.length + 1) d6, .slice none 0 0] (79 : TypeId) (0, 0))) := hide (heap_setCell_same _ (w1.heap.size) 10 _ (79 : TypeId) (.slice a6 (r.length + 1) d6) hY1); have HY0 := hide ((Below.heap_setCell w6 ⟨w1.heap.size, 10, none⟩ (.slice a6 (r.length + 1) d6) _ (Nat.ne_of_lt hne)).trans hY0); clear hL6 ho6 hg6 hY1 hY0))
        go_roundw
        case rel => exact ⟨k - 1, r ++ [x], l4, b4, .slice a6 (r.length + 1) d6, by simp; omega, by rw [show ((k - 1 : Nat) : Int) = (k : Int) - 1 by omega], HL6, HY1, HY0⟩
        case measure => simp [intOf]; omega
        
end

end Go.Proofs.YtnimfkcnkkjlkaaGreat

/-
  What a Get of layer 6 answers, said without cases; loads that are guarded.
-/
namespace Go.Proofs.YtnimfkcnkkjlkaaGreat
open Go.RowKit
set_option maxRecDepth 100000
set_option linter.unusedVariables false

/-- The error beside a thing: none, or that it is no such bytes. -/
def era (b : Bool) : Int := if b then 0 else 60

theorem wpList_load_row_w {P : Program} {ops : Array Oper} {rest : List Oper} {o : Oper} {a : Act} {w : World} {Q : Exit → Act → World → Prop} (hgd : Region.wanted o (yielded ops a.tmps) = true) (ty : TypeId) (x : Operand) (ho : o.op = .load ty x) (g : Nat) (hx : a.eval x = .pointer (some ⟨g, 0, none⟩)) (t : TypeId) (cs : Array Value) (fr : Nat × Nat) (d : TypeDesc) (hg : w.heap[g]? = some (.cells cs t fr))
    (hu : P.underlying ty = some d) (hd : (match d with | .struct _ | .array _ _ => true | _ => false) = true) (hi : (P.info? ty).map (·.size) = some cs.size) (h : wpList P ops Q rest (a.put o.dst (.agg cs)) w) : wpList P ops Q (o :: rest) a w := by
  refine wpList_step fun K hK => ?_
  rw [if_pos hgd]
  exact wp_load_row ty x ho g hx t cs fr d hg hu hd hi (hK _ _ h)

/-- A struct in a variable of its own. -/
theorem boxed {w : World} {T : TypeId} {z c : Array Value} : Below w.heap.size w ((w.alloc (.cells z T)).setRow w.heap.size c) ∧ ((w.alloc (.cells z T)).setRow w.heap.size c).heap[w.heap.size]? = some (.cells c T (0, 0)) :=
  ⟨below_setRow (fresh w _) (Nat.le_refl _) _, setRow_heap _ _ _ _ T _ (heap_alloc_new w _)⟩

def zeroPartC : Cod.PartC := ⟨0, ⟨0, 0, 0, []⟩, 0⟩
theorem GPartC.get {w w' : World} {zs : List Int} {e : Ending} (h : GPartC w zs e w') : ∃ (yk : Int) (ybp : Int) (ybe : Int) (ybf : Int) (ybla : Option Addr) (ybln yblc : Nat) (yo : Int), e = .returned (.tuple #[.agg #[.int .u8 yk, .int .i64 ybp, .int .i64 ybe, .int .i64 ybf, .slice ybla ybln yblc, .int .i64 yo], .int .i64 (era (Cod.got Cod.part 1 60000 zs).isSome)]) ∧ APartC w' ((Cod.got Cod.part 1 60000 zs).getD zeroPartC) [.int .u8 yk, .int .i64 ybp, .int .i64 ybe, .int .i64 ybf, .slice ybla ybln yblc, .int .i64 yo] ∧ Below w.heap.size w w' := by
  have i0 : I64 0 := ⟨by omega, by omega⟩
  have u0 : U8 0 := ⟨by omega, by omega⟩
  have hz : (⟨#[]⟩ : ByteArray).size ≤ 9223372036854775807 := by decide
  obtain ⟨hb, hm⟩ := h
  cases hg : Cod.got Cod.part 1 60000 zs with
  | none =>
    rw [hg] at hm
    exact ⟨0, 0, 0, 0, none, 0, 0, 0, hm, ⟨_, _, rfl, ⟨rfl, u0⟩, ⟨_, _, rfl, ⟨_, _, rfl, ⟨rfl, i0⟩, ⟨_, _, rfl, ⟨rfl, i0⟩, ⟨_, _, rfl, ⟨rfl, i0⟩, ⟨none, 0, 0, rfl, Sq.nil _ _ _⟩⟩⟩⟩, ⟨rfl, i0⟩⟩⟩, hb⟩
  | some x =>
    rw [hg] at hm
    obtain ⟨yk, ybp, ybe, ybf, ybla, ybln, yblc, yo, rfl, hL⟩ := hm
    exact ⟨yk, ybp, ybe, ybf, ybla, ybln, yblc, yo, rfl, LPartC.arg _ _ _ hL, hb⟩

def zeroMetaC : Cod.MetaC := ⟨0, sb ⟨#[]⟩, sb ⟨#[]⟩, 0, [], ⟨sb ⟨#[]⟩, 0⟩, 0, 0, 0, 0⟩
theorem GMetaC.get {w w' : World} {zs : List Int} {e : Ending} (h : GMetaC w zs e w') : ∃ (yk : Int) (yg : ByteArray) (ym : ByteArray) (yn : Int) (yla : Option Addr) (yln ylc : Nat) (yqt : ByteArray) (yqp : Int) (yo : Int) (yu : Int) (yc : Int) (ya : Int), e = .returned (.tuple #[.agg #[.int .u8 yk, .string yg, .string ym, .int .i64 yn, .slice yla yln ylc, .string yqt, .int .i64 yqp, .int .i64 yo, .int .i64 yu, .int .i64 yc, .int .i64 ya], .int .i64 (era (Cod.got Cod.meta' 2 60000 zs).isSome)]) ∧ AMetaC w' ((Cod.got Cod.meta' 2 60000 zs).getD zeroMetaC) [.int .u8 yk, .string yg, .string ym, .int .i64 yn, .slice yla yln ylc, .string yqt, .int .i64 yqp, .int .i64 yo, .int .i64 yu, .int .i64 yc, .int .i64 ya] ∧ Below w.heap.size w w' := by
  have i0 : I64 0 := ⟨by omega, by omega⟩
  have u0 : U8 0 := ⟨by omega, by omega⟩
  have hz : (⟨#[]⟩ : ByteArray).size ≤ 9223372036854775807 := by decide
  obtain ⟨hb, hm⟩ := h
  cases hg : Cod.got Cod.meta' 2 60000 zs with
  | none =>
    rw [hg] at hm
    exact ⟨0, ⟨#[]⟩, ⟨#[]⟩, 0, none, 0, 0, ⟨#[]⟩, 0, 0, 0, 0, 0, hm, ⟨_, _, rfl, ⟨rfl, u0⟩, ⟨_, _, rfl, ⟨⟨#[]⟩, rfl, rfl, hz⟩, ⟨_, _, rfl, ⟨⟨#[]⟩, rfl, rfl, hz⟩, ⟨_, _, rfl, ⟨rfl, i0⟩, ⟨_, _, rfl, ⟨none, 0, 0, rfl, Sq.nil _ _ _⟩, ⟨_, _, rfl, ⟨_, _, rfl, ⟨⟨#[]⟩, rfl, rfl, hz⟩, ⟨rfl, i0⟩⟩, ⟨_, _, rfl, ⟨rfl, i0⟩, ⟨_, _, rfl, ⟨rfl, i0⟩, ⟨_, _, rfl, ⟨rfl, i0⟩, ⟨rfl, i0⟩⟩⟩⟩⟩⟩⟩⟩⟩⟩, hb⟩
  | some x =>
    rw [hg] at hm
    obtain ⟨yk, yg, ym, yn, yla, yln, ylc, yqt, yqp, yo, yu, yc, ya, rfl, hL⟩ := hm
    exact ⟨yk, yg, ym, yn, yla, yln, ylc, yqt, yqp, yo, yu, yc, ya, rfl, LMetaC.arg _ _ _ hL, hb⟩

def zeroRequest : Cod.Request := ⟨0, 0, 0, sb ⟨#[]⟩, 0, ⟨0, 0, 0, []⟩, 0, 0, 0, ⟨0, sb ⟨#[]⟩, sb ⟨#[]⟩, 0, [], ⟨sb ⟨#[]⟩, 0⟩, 0, 0, 0, 0⟩⟩
theorem GRequest.get {w w' : World} {zs : List Int} {e : Ending} (h : GRequest w zs e w') : ∃ (yk : Int) (yc : Int) (yd : Int) (yt : ByteArray) (yp : Int) (ybp : Int) (ybe : Int) (ybf : Int) (ybla : Option Addr) (ybln yblc : Nat) (yo : Int) (ym : Int) (yz : Int) (yyk : Int) (yyg : ByteArray) (yym : ByteArray) (yyn : Int) (yyla : Option Addr) (yyln yylc : Nat) (yyqt : ByteArray) (yyqp : Int) (yyo : Int) (yyu : Int) (yyc : Int) (yya : Int), e = .returned (.tuple #[.agg #[.int .u8 yk, .int .i64 yc, .int .i64 yd, .string yt, .int .i64 yp, .int .i64 ybp, .int .i64 ybe, .int .i64 ybf, .slice ybla ybln yblc, .int .i64 yo, .int .i64 ym, .int .i64 yz, .int .u8 yyk, .string yyg, .string yym, .int .i64 yyn, .slice yyla yyln yylc, .string yyqt, .int .i64 yyqp, .int .i64 yyo, .int .i64 yyu, .int .i64 yyc, .int .i64 yya], .int .i64 (era (Cod.got Cod.request 5 60000 zs).isSome)]) ∧ ARequest w' ((Cod.got Cod.request 5 60000 zs).getD zeroRequest) [.int .u8 yk, .int .i64 yc, .int .i64 yd, .string yt, .int .i64 yp, .int .i64 ybp, .int .i64 ybe, .int .i64 ybf, .slice ybla ybln yblc, .int .i64 yo, .int .i64 ym, .int .i64 yz, .int .u8 yyk, .string yyg, .string yym, .int .i64 yyn, .slice yyla yyln yylc, .string yyqt, .int .i64 yyqp, .int .i64 yyo, .int .i64 yyu, .int .i64 yyc, .int .i64 yya] ∧ Below w.heap.size w w' := by
  have i0 : I64 0 := ⟨by omega, by omega⟩
  have u0 : U8 0 := ⟨by omega, by omega⟩
  have hz : (⟨#[]⟩ : ByteArray).size ≤ 9223372036854775807 := by decide
  obtain ⟨hb, hm⟩ := h
  cases hg : Cod.got Cod.request 5 60000 zs with
  | none =>
    rw [hg] at hm
    exact ⟨0, 0, 0, ⟨#[]⟩, 0, 0, 0, 0, none, 0, 0, 0, 0, 0, 0, ⟨#[]⟩, ⟨#[]⟩, 0, none, 0, 0, ⟨#[]⟩, 0, 0, 0, 0, 0, hm, ⟨_, _, rfl, ⟨rfl, u0⟩, ⟨_, _, rfl, ⟨rfl, i0⟩, ⟨_, _, rfl, ⟨rfl, i0⟩, ⟨_, _, rfl, ⟨⟨#[]⟩, rfl, rfl, hz⟩, ⟨_, _, rfl, ⟨rfl, i0⟩, ⟨_, _, rfl, ⟨_, _, rfl, ⟨rfl, i0⟩, ⟨_, _, rfl, ⟨rfl, i0⟩, ⟨_, _, rfl, ⟨rfl, i0⟩, ⟨none, 0, 0, rfl, Sq.nil _ _ _⟩⟩⟩⟩, ⟨_, _, rfl, ⟨rfl, i0⟩, ⟨_, _, rfl, ⟨rfl, i0⟩, ⟨_, _, rfl, ⟨rfl, i0⟩, ⟨_, _, rfl, ⟨rfl, u0⟩, ⟨_, _, rfl, ⟨⟨#[]⟩, rfl, rfl, hz⟩, ⟨_, _, rfl, ⟨⟨#[]⟩, rfl, rfl, hz⟩, ⟨_, _, rfl, ⟨rfl, i0⟩, ⟨_, _, rfl, ⟨none, 0, 0, rfl, Sq.nil _ _ _⟩, ⟨_, _, rfl, ⟨_, _, rfl, ⟨⟨#[]⟩, rfl, rfl, hz⟩, ⟨rfl, i0⟩⟩, ⟨_, _, rfl, ⟨rfl, i0⟩, ⟨_, _, rfl, ⟨rfl, i0⟩, ⟨_, _, rfl, ⟨rfl, i0⟩, ⟨rfl, i0⟩⟩⟩⟩⟩⟩⟩⟩⟩⟩⟩⟩⟩⟩⟩⟩⟩⟩⟩, hb⟩
  | some x =>
    rw [hg] at hm
    obtain ⟨yk, yc, yd, yt, yp, ybp, ybe, ybf, ybla, ybln, yblc, yo, ym, yz, yyk, yyg, yym, yyn, yyla, yyln, yylc, yyqt, yyqp, yyo, yyu, yyc, yya, rfl, hL⟩ := hm
    exact ⟨yk, yc, yd, yt, yp, ybp, ybe, ybf, ybla, ybln, yblc, yo, ym, yz, yyk, yyg, yym, yyn, yyla, yyln, yylc, yyqt, yyqp, yyo, yyu, yyc, yya, rfl, LRequest.arg _ _ _ hL, hb⟩

def zeroResponse : Cod.Response := ⟨0, 0, 0, 0, 0, 0, 0, 0, false, [], ⟨0, 0, 0, 0, 0, []⟩⟩
theorem GResponse.get {w w' : World} {zs : List Int} {e : Ending} (h : GResponse w zs e w') : ∃ (yk : Int) (yc : Int) (yd : Int) (yr : Int) (yp : Int) (yo : Int) (ys : Int) (yz : Int) (yx : Bool) (yla : Option Addr) (yln ylc : Nat) (yyr : Int) (yyp : Int) (yye : Int) (yyn : Int) (yyk : Int) (yyla : Option Addr) (yyln yylc : Nat), e = .returned (.tuple #[.agg #[.int .u8 yk, .int .i64 yc, .int .i64 yd, .int .i64 yr, .int .i64 yp, .int .i64 yo, .int .i64 ys, .int .i64 yz, .bool yx, .slice yla yln ylc, .int .i64 yyr, .int .i64 yyp, .int .i64 yye, .int .i64 yyn, .int .u8 yyk, .slice yyla yyln yylc], .int .i64 (era (Cod.got Cod.response 6 60000 zs).isSome)]) ∧ AResponse w' ((Cod.got Cod.response 6 60000 zs).getD zeroResponse) [.int .u8 yk, .int .i64 yc, .int .i64 yd, .int .i64 yr, .int .i64 yp, .int .i64 yo, .int .i64 ys, .int .i64 yz, .bool yx, .slice yla yln ylc, .int .i64 yyr, .int .i64 yyp, .int .i64 yye, .int .i64 yyn, .int .u8 yyk, .slice yyla yyln yylc] ∧ Below w.heap.size w w' := by
  have i0 : I64 0 := ⟨by omega, by omega⟩
  have u0 : U8 0 := ⟨by omega, by omega⟩
  have hz : (⟨#[]⟩ : ByteArray).size ≤ 9223372036854775807 := by decide
  obtain ⟨hb, hm⟩ := h
  cases hg : Cod.got Cod.response 6 60000 zs with
  | none =>
    rw [hg] at hm
    exact ⟨0, 0, 0, 0, 0, 0, 0, 0, false, none, 0, 0, 0, 0, 0, 0, 0, none, 0, 0, hm, ⟨_, _, rfl, ⟨rfl, u0⟩, ⟨_, _, rfl, ⟨rfl, i0⟩, ⟨_, _, rfl, ⟨rfl, i0⟩, ⟨_, _, rfl, ⟨rfl, i0⟩, ⟨_, _, rfl, ⟨rfl, i0⟩, ⟨_, _, rfl, ⟨rfl, i0⟩, ⟨_, _, rfl, ⟨rfl, i0⟩, ⟨_, _, rfl, ⟨rfl, i0⟩, ⟨_, _, rfl, rfl, ⟨_, _, rfl, ⟨none, 0, 0, rfl, Sq.nil _ _ _⟩, ⟨_, _, rfl, ⟨rfl, i0⟩, ⟨_, _, rfl, ⟨rfl, i0⟩, ⟨_, _, rfl, ⟨rfl, i0⟩, ⟨_, _, rfl, ⟨rfl, i0⟩, ⟨_, _, rfl, ⟨rfl, u0⟩, ⟨none, 0, 0, rfl, Sq.nil _ _ _⟩⟩⟩⟩⟩⟩⟩⟩⟩⟩⟩⟩⟩⟩⟩⟩, hb⟩
  | some x =>
    rw [hg] at hm
    obtain ⟨yk, yc, yd, yr, yp, yo, ys, yz, yx, yla, yln, ylc, yyr, yyp, yye, yyn, yyk, yyla, yyln, yylc, rfl, hL⟩ := hm
    exact ⟨yk, yc, yd, yr, yp, yo, ys, yz, yx, yla, yln, ylc, yyr, yyp, yye, yyn, yyk, yyla, yyln, yylc, rfl, LResponse.arg _ _ _ hL, hb⟩

def zeroRaft : Cod.Raft := ⟨sb ⟨#[]⟩, 0, 0, 0, 0, 0, 0, 0, 0, false, [], []⟩
theorem GRaft.get {w w' : World} {zs : List Int} {e : Ending} (h : GRaft w zs e w') : ∃ (yg : ByteArray) (yk : Int) (yf : Int) (yt : Int) (ym : Int) (yi : Int) (yo : Int) (yc : Int) (yr : Int) (yx : Bool) (yla : Option Addr) (yln ylc : Nat) (yya : Option Addr) (yyn yyc : Nat), e = .returned (.tuple #[.agg #[.string yg, .int .u8 yk, .int .i64 yf, .int .i64 yt, .int .i64 ym, .int .i64 yi, .int .i64 yo, .int .i64 yc, .int .i64 yr, .bool yx, .slice yla yln ylc, .slice yya yyn yyc], .int .i64 (era (Cod.got Cod.raft 7 65545 zs).isSome)]) ∧ ARaft w' ((Cod.got Cod.raft 7 65545 zs).getD zeroRaft) [.string yg, .int .u8 yk, .int .i64 yf, .int .i64 yt, .int .i64 ym, .int .i64 yi, .int .i64 yo, .int .i64 yc, .int .i64 yr, .bool yx, .slice yla yln ylc, .slice yya yyn yyc] ∧ Below w.heap.size w w' := by
  have i0 : I64 0 := ⟨by omega, by omega⟩
  have u0 : U8 0 := ⟨by omega, by omega⟩
  have hz : (⟨#[]⟩ : ByteArray).size ≤ 9223372036854775807 := by decide
  obtain ⟨hb, hm⟩ := h
  cases hg : Cod.got Cod.raft 7 65545 zs with
  | none =>
    rw [hg] at hm
    exact ⟨⟨#[]⟩, 0, 0, 0, 0, 0, 0, 0, 0, false, none, 0, 0, none, 0, 0, hm, ⟨_, _, rfl, ⟨⟨#[]⟩, rfl, rfl, hz⟩, ⟨_, _, rfl, ⟨rfl, u0⟩, ⟨_, _, rfl, ⟨rfl, i0⟩, ⟨_, _, rfl, ⟨rfl, i0⟩, ⟨_, _, rfl, ⟨rfl, i0⟩, ⟨_, _, rfl, ⟨rfl, i0⟩, ⟨_, _, rfl, ⟨rfl, i0⟩, ⟨_, _, rfl, ⟨rfl, i0⟩, ⟨_, _, rfl, ⟨rfl, i0⟩, ⟨_, _, rfl, rfl, ⟨_, _, rfl, ⟨none, 0, 0, rfl, Sq.nil _ _ _⟩, ⟨none, 0, 0, rfl, Bs.nil _⟩⟩⟩⟩⟩⟩⟩⟩⟩⟩⟩⟩, hb⟩
  | some x =>
    rw [hg] at hm
    obtain ⟨yg, yk, yf, yt, ym, yi, yo, yc, yr, yx, yla, yln, ylc, yya, yyn, yyc, rfl, hL⟩ := hm
    exact ⟨yg, yk, yf, yt, ym, yi, yo, yc, yr, yx, yla, yln, ylc, yya, yyn, yyc, rfl, LRaft.arg _ _ _ hL, hb⟩

end Go.Proofs.YtnimfkcnkkjlkaaGreat

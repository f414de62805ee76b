/-
  Steps in the order of their numbers.
-/
import Derived.Test.YtkdolabhcbjipaaGreatMx5443ac3c
import Derived.Test.YtkdolabhcbjipaaGreatDly
import Derived.Shelf.SlSortCmp.NoneTotal
namespace Go.Proofs.YtkdolabhcbjipaaGreat
open Go.RowKit
set_option maxRecDepth 100000

/-- Steps that are right. -/
abbrev OkStp := { t : Stp // t.Ok }
theorem okStp : (putStp 1 0 (List.replicate 64 0)).Ok := putStp_ok (by omega) (by omega) (by simp) (fun z hz => by rw [(List.mem_replicate.1 hz).2]; omega)

/-- How two stand to each other. -/
def cmpStp (x y : OkStp) : Int := Lib.compareInt x.1.no y.1.no

theorem cmp_lt (x y : OkStp) : ltOf cmpStp x y = decide (x.1.no < y.1.no) := by
  unfold ltOf cmpStp Lib.compareInt
  by_cases h : x.1.no < y.1.no
  · simp [h]
  · by_cases h2 : x.1.no > y.1.no
    · simp [h]
      split <;> omega
    · simp [h]
      split <;> omega

theorem cmp_swo : Sort.SWO (ltOf cmpStp) := ⟨fun x => by rw [cmp_lt]; simp, fun x y z h1 h2 => by rw [cmp_lt, decide_eq_true_eq] at *; omega, fun x y z h1 h2 => by rw [cmp_lt, decide_eq_false_iff_not] at *; omega⟩

set_option maxHeartbeats 1000000 in
theorem cmp59 (x y : Stp) (w : World) : Calls Tryz.prog 63 #[.agg x.cells.toArray, .agg y.cells.toArray] w fun e w' => e = .returned (.int .i64 (Lib.compareInt x.no y.no)) ∧ w' = (w.alloc (.cells x.cells.toArray (87 : TypeId))).alloc (.cells y.cells.toArray (87 : TypeId)) := by
  obtain ⟨cs, hcs⟩ : ∃ cs, Hid (cs = x.cells.toArray) := ⟨_, hide rfl⟩
  obtain ⟨ds, hds⟩ : ∃ ds, Hid (ds = y.cells.toArray) := ⟨_, hide rfl⟩
  have h1 : cs[0]? = some (.int .i64 x.no) := by rw [hcs.out]; rfl
  have h2 : ds[0]? = some (.int .i64 y.no) := by rw [hds.out]; rfl
  rw [← hcs.out, ← hds.out]
  go_enter Tryz.func63, Tryz.ntmps63
  go_wp2_with (go_at_call 64; refine (compare_any _ _ _).mono ?_; rintro e w1 ⟨rfl, hw1⟩; subst w1)
  go_ret
  exact ⟨rfl, rfl⟩

/-- An element's cells within a row of steps. -/
theorem flat_at (ts : List Stp) (hok : ∀ t ∈ ts, t.Ok) (j : Nat) : (ts.flatMap Stp.cells)[j]? = (ts[j / 70]?).bind fun t => t.cells[j % 70]? := by
  have h := Great.flat_get (s := 70) (by decide) (ts.map fun t => Value.agg t.cells.toArray) (fun v hv => by
    obtain ⟨t, ht, rfl⟩ := List.mem_map.1 hv
    simp only [Value.cells, List.size_toArray]
    exact (hok t ht).len) j
  rw [List.flatMap_map] at h
  have e : (ts.flatMap fun a => (Value.agg a.cells.toArray).cells.toList) = ts.flatMap Stp.cells := by
    congr 1
  rw [e] at h
  rw [h, List.getElem?_map]
  cases ts[j / 70]? <;> simp [Value.cells]

/-- What a sort leaves. -/
theorem sort_left [Inhabited OkStp] {w : World} {g n cap m : Nat} {ts : List Stp} {d' : Array OkStp} {os : Array Obj} (hx : w.ownsRow 0 (87 : TypeId) 70 (.slice (some ⟨g, 0, none⟩) n cap) n (ts.flatMap Stp.cells)) (hd : d'.size = n) :
    (sortWorldK (fun x : OkStp => x.1.cells) 70 w g 0 m d' os).ownsRow 0 (87 : TypeId) 70 (.slice (some ⟨g, 0, none⟩) n cap) n ((d'.toList.map (·.1)).flatMap Stp.cells) ∧ Tb (fun k => k = g) w (sortWorldK (fun x : OkStp => x.1.cells) 70 w g 0 m d' os) := by
  rcases hx.2 with ⟨h1, _⟩ | ⟨g', c', cur, h1, hb, hg, hn, hm, hs, ht⟩
  · cases h1
  · simp only [Value.slice.injEq, Option.some.injEq, Addr.mk.injEq] at h1
    obtain ⟨⟨rfl, _, _⟩, _, rfl⟩ := h1
    have hlt := (Array.getElem?_eq_some_iff.1 hg).1
    obtain ⟨F, hF⟩ : ∃ F, F = Go.Sort.flatK (fun x : OkStp => x.1.cells) 70 d' := ⟨_, rfl⟩
    have hFs : F.size = n * 70 := by rw [hF, Go.Sort.size_flatK, hd]
    have hh : ∀ k, k < w.heap.size → (sortWorldK (fun x : OkStp => x.1.cells) 70 w g 0 m d' os).heap[k]? = if k = g then some (.cells (Go.Sort.putCells id 0 F cur) (87 : TypeId) (0, 0)) else w.heap[k]? := fun k hk => by
      unfold sortWorldK Go.Sort.putRowK Go.Sort.putRow Go.Sort.grow Go.Sort.mapBlock Go.Sort.ahead
      simp only
      rw [Array.getElem?_append_left (by simpa using hk), Array.getElem?_modify, ← hF]
      by_cases e : g = k
      · subst e
        rw [if_pos rfl, if_pos rfl, hg]
        rfl
      · rw [if_neg e, if_neg (fun h => e h.symm)]
    have hcs : (Go.Sort.putCells id 0 F cur).size = cur.size := by simp [Go.Sort.putCells]
    have hnc : n * 70 ≤ cur.size := by rw [hs]; exact Nat.mul_le_mul_right _ hn
    have htk : (Go.Sort.putCells id 0 F cur).toList.take (n * 70) = (d'.toList.map (·.1)).flatMap Stp.cells := by
      apply List.ext_getElem?
      intro j
      rw [flat_at _ (fun t ht => by obtain ⟨x, _, rfl⟩ := List.mem_map.1 ht; exact x.2)]
      rw [List.getElem?_take]
      by_cases hj : j < n * 70
      · rw [if_pos hj]
        have hj2 : j / 70 < n := Nat.div_lt_of_lt_mul (by omega)
        have hj3 : j / 70 < d'.size := by omega
        have hget : (Go.Sort.flatK (fun x : OkStp => x.1.cells) 70 d')[j]! = (d'[j / 70]!).1.cells[j % 70]! := Go.Sort.get_flatK _ 70 d' j (by rw [hd]; exact hj)
        have hl := (d'[j / 70]!).2.len
        have e1 : (Go.Sort.putCells id 0 F cur).toList[j]? = some ((d'[j / 70]!).1.cells[j % 70]!) := by
          rw [Array.getElem?_toList]
          unfold Go.Sort.putCells
          rw [Array.getElem?_mapIdx, Array.getElem?_eq_getElem (by omega)]
          simp only [Option.map_some, Nat.zero_le, true_and, Nat.zero_add, Nat.sub_zero, id_eq]
          rw [if_pos (by omega), hF, hget]
        rw [e1, List.getElem?_map, Array.getElem?_toList, Array.getElem?_eq_getElem hj3]
        simp only [Option.map_some, Option.bind_some]
        rw [getElem!_pos d' (j / 70) hj3] at hl ⊢
        have hm70 : j % 70 < 70 := Nat.mod_lt _ (by decide)
        rw [List.getElem?_eq_getElem (by omega), getElem!_pos _ _ (by omega)]
      · rw [if_neg hj, List.getElem?_map, Array.getElem?_toList, Array.getElem?_eq_none (by
          have : n ≤ j / 70 := (Nat.le_div_iff_mul_le (by decide)).2 (by omega)
          omega)]
        rfl
    refine ⟨⟨?_, .inr ⟨g, cap, _, rfl, Nat.zero_le _, by rw [hh g hlt, if_pos rfl], hn, hm, by rw [hcs, hs], htk⟩⟩, ⟨rfl, rfl, rfl, ?_, fun k hk hne => by rw [hh k hk, if_neg hne]⟩⟩
    · rw [← htk, List.length_take, Array.length_toList, hcs]
      omega
    · unfold sortWorldK Go.Sort.putRowK Go.Sort.putRow Go.Sort.grow Go.Sort.mapBlock Go.Sort.ahead
      simp

theorem cmp_lays [Inhabited OkStp] (g n : Nat) (w : World) : CmpLays Tryz.prog 63 #[] (fun x : OkStp => x.1.cells) 70 cmpStp g 0 n w := fun m os dk _ x y => by
  refine (cmp59 x.1 y.1 _).mono ?_
  rintro e w' ⟨rfl, rfl⟩
  refine ⟨rfl, 0, #[.cells x.1.cells.toArray (87 : TypeId), .cells y.1.cells.toArray (87 : TypeId)], ?_⟩
  rw [Go.Sort.alloc_eq_grow, Go.Sort.alloc_eq_grow, Go.Sort.grow_grow]
  rfl

theorem holds_row [Inhabited OkStp] {w : World} {g n cap : Nat} {d : Array OkStp} (hn : d.size = n) (hx : w.ownsRow 0 (87 : TypeId) 70 (.slice (some ⟨g, 0, none⟩) n cap) n ((d.toList.map (·.1)).flatMap Stp.cells)) : Go.Sort.HoldsK (fun x : OkStp => x.1.cells) 70 w g 0 d := by
  rcases hx.2 with ⟨h1, _⟩ | ⟨g', c', cur, h1, hb, hg, hn', hm, hs, ht⟩
  · cases h1
  · simp only [Value.slice.injEq, Option.some.injEq, Addr.mk.injEq] at h1
    obtain ⟨⟨rfl, _, _⟩, _, rfl⟩ := h1
    intro j hj
    rw [Go.Sort.size_flatK, hn] at hj
    have hnc : n * 70 ≤ cur.size := by rw [hs]; exact Nat.mul_le_mul_right _ hn'
    have hj2 : j / 70 < n := Nat.div_lt_of_lt_mul (by omega)
    have hj3 : j / 70 < d.size := by omega
    have hl := (d[j / 70]!).2.len
    have hm70 : j % 70 < 70 := Nat.mod_lt _ (by decide)
    have hc : cur[j]? = some ((Go.Sort.flatK (fun x : OkStp => x.1.cells) 70 d)[j]!) := by
      rw [Go.Sort.get_flatK _ 70 d j (by rw [hn]; exact hj)]
      have e := congrArg (·[j]?) ht
      simp only [List.getElem?_take, if_pos hj, Array.getElem?_toList] at e
      rw [e, flat_at _ (fun t ht => by obtain ⟨x, _, rfl⟩ := List.mem_map.1 ht; exact x.2), List.getElem?_map, Array.getElem?_toList, Array.getElem?_eq_getElem hj3]
      simp only [Option.map_some, Option.bind_some]
      rw [getElem!_pos d (j / 70) hj3] at hl ⊢
      rw [List.getElem?_eq_getElem (by omega), getElem!_pos _ _ (by omega)]
    constructor
    · simp only [World.cell?, hg, Nat.zero_add, hc, id_eq]
      rfl
    · simp [World.frozen?, hg]

theorem sorted_eq : ∀ {l m : List Stp}, m.Perm l → l.Pairwise (fun x y => x.no < y.no) → m.Pairwise (fun x y => x.no ≤ y.no) → m = l := by
  intro l
  induction l with
  | nil => intro m h _ _; exact h.eq_nil
  | cons a l ih =>
    intro m h h1 h2
    cases m with
    | nil => exact h.symm.eq_nil.symm
    | cons b m =>
      obtain ⟨u1, u2⟩ := List.pairwise_cons.1 h1
      obtain ⟨v1, v2⟩ := List.pairwise_cons.1 h2
      have hb : b ∈ a :: l := h.mem_iff.1 (by simp)
      have ha : a ∈ b :: m := h.mem_iff.2 (by simp)
      by_cases e : b = a
      · subst e
        rw [ih (List.Perm.cons_inv h) u2 v2]
      · have hb' : b ∈ l := (List.mem_cons.1 hb).resolve_left e
        have ha' : a ∈ m := (List.mem_cons.1 ha).resolve_left (fun h => e h.symm)
        have := u1 b hb'
        have := v1 a ha'
        omega

theorem enters59 : ∀ args w, (callFunc 63 args).run Tryz.prog w = .ok (.enter 63 args) w := enters_of Tryz.func63 (by kernel_rfl) rfl

theorem sort_any {w : World} {x : Value} {ts l : List Stp} (hx : w.ownsRow 0 (87 : TypeId) 70 x ts.length (ts.flatMap Stp.cells)) (hok : ∀ t ∈ ts, t.Ok) (hp : ts.Perm l) (hup : l.Pairwise fun x y => x.no < y.no) (hn : ts.length ≤ 1000000000) :
    Calls Tryz.prog 62 #[x, .func (.func 63) #[] #[]] w fun e w' => e = .returned (.tuple #[]) ∧ w'.ownsRow 0 (87 : TypeId) 70 x l.length (l.flatMap Stp.cells) ∧ Tb (fun k => x.ownBlock = some k) w w' := by
  haveI : Inhabited OkStp := ⟨⟨_, okStp⟩⟩
  have hll : l.length = ts.length := hp.length_eq.symm
  rw [hll]
  rcases hx.2 with ⟨rfl, h0⟩ | ⟨g, cap, cur, rfl, hb, hg, hn', hm, hs, ht⟩
  · have hnil : ts = [] := List.eq_nil_of_length_eq_zero h0
    subst hnil
    have hl0 : l = [] := List.eq_nil_of_length_eq_zero hll
    subst hl0
    refine (AnyF.slices_SortFunc_none laysSort none 0 (.func (.func 63) #[] #[]) w).mono ?_
    rintro e w' ⟨rfl, rfl⟩
    exact ⟨rfl, hx, Tb.refl _ _⟩
  · obtain ⟨d, hd⟩ : ∃ d : Array OkStp, d = (ts.attach.map (fun t => (⟨t.1, hok t.1 t.2⟩ : OkStp))).toArray := ⟨_, rfl⟩
    have hds : d.size = ts.length := by simp [hd]
    have hdm : d.toList.map (·.1) = ts := by
      rw [hd]
      simp [List.map_map, Function.comp_def]
    have hcon := AnyQ.slices_SortFunc laysSort 70 Tryz.isAgg87 Tryz.sizeOf87 (fun x : OkStp => x.1.cells) (fun x => x.2.len) (fun x => x.1.one) cmpStp cmp_swo 63 #[] g 0 cap d w enters59 (cmp_lays g _ w) (holds_row hds (by rw [hdm]; exact hx)) (Array.getElem?_eq_some_iff.1 hg).1 (by omega)
    rw [hds] at hcon
    refine hcon.mono ?_
    rintro e w' ⟨rfl, d', m, os, hP, hS, rfl⟩
    obtain ⟨p1, p2, p3⟩ := hP
    have hd's : d'.size = ts.length := by rw [p1, hds]
    have hpm : (d'.toList.map (·.1)).Perm ts := by
      have := p3.map (·.1)
      rw [← hds, ← p1] at this
      rw [Array.extract_size] at this
      rw [p1, Array.extract_size, hdm] at this
      exact this
    have hsr : (d'.toList.map (·.1)).Pairwise fun x y => x.no ≤ y.no := by
      rw [List.pairwise_map, List.pairwise_iff_getElem]
      intro i j hi hj hij
      simp only [Array.length_toList] at hi hj
      have := hS i j (Nat.zero_le _) hij (by omega)
      rw [cmp_lt, decide_eq_false_iff_not, getElem!_pos d' i hi, getElem!_pos d' j hj] at this
      simp only [Array.getElem_toList]
      omega
    have hfin := sorted_eq (hpm.trans hp) hup hsr
    obtain ⟨r1, r2⟩ := sort_left (m := m) (os := os) hx hd's
    rw [hfin] at r1
    exact ⟨rfl, r1, r2.mono fun i _ hi => by rw [hi]; rfl⟩

end Go.Proofs.YtkdolabhcbjipaaGreat

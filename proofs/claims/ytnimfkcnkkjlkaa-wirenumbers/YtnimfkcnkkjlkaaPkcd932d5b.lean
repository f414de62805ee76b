/-
  Texts put into one.
-/
import Derived.Test.YtnimfkcnkkjlkaaPke73b9e83
import Derived.Test.YtnimfkcnkkjlkaaPk171f8931
import Derived.Deep.AppendLies

/-
  The program's reader: records, batches.
-/
namespace Go.Proofs.Ytnimfkcnkkjlkaa
open Go.RowKit
set_option maxRecDepth 100000
set_option linter.unusedVariables false

/-- What a reading leaves, and what it got. -/
def Pst {α : Type} (c : Cod.Way α) (L : Lay α) (cs : List Value) (Wb : World) (R B O n cap : Nat) (zs : List Int) (s : Option (List Int)) (w w' : World) : Prop :=
  Rs Wb R B O n cap zs (Cod.nx c s) w' ∧ Kt (107 : TypeId) w w' ∧ ∀ y, Cod.vl c s = some y → L w' y cs

section
variable {Wb w w' : World} {R B O n cap : Nat} {zs : List Int} {s : Option (List Int)}

/-- The variable that holds the reader, as a closure has it. -/
def Rv (w : World) (X R : Nat) : Prop := w.heap[X]? = some (.cells #[.pointer (some ⟨R, 0, none⟩)] (78 : TypeId) (0, 0))
theorem Rv.cell {X : Nat} (h : Rv w X R) : w.cell? ⟨X, 0, none⟩ = some (.pointer (some ⟨R, 0, none⟩)) := by rw [cell_of_row w X 0 _ _ (0, 0) h]; rfl
theorem Rv.keep {t : TypeId} {X : Nat} (h : Rv w X R) (k : Kt t w w') (ht : (78 : TypeId) ≠ t) : Rv w' X R := k.block _ _ _ _ h ht

/-- A slice that was read. -/
def Psl {α : Type} (c : Cod.Way α) (L : Lay α) (Wb : World) (R B O n cap : Nat) (zs : List Int) (s : Option (List Int)) (w : World) (e : Ending) (w' : World) : Prop :=
  ∃ a m d, e = .returned (.slice a m d) ∧ Pst c L [.slice a m d] Wb R B O n cap zs s w w'

theorem Pby.sl {e : Ending} (h : Pby Wb R B O n cap zs s w e w') : Psl Cod.data LBy Wb R B O n cap zs s w e w' := by
  obtain ⟨a, m, d, h1, h2, h3, h4, h5⟩ := h
  refine ⟨a, m, d, h1, h2, h3, fun y hy => ?_⟩
  rw [hy] at h4 h5
  exact own_by h4 h5

theorem Rs.byte (h : Rs Wb R B O n cap zs s w) (hB : Bs Wb (some ⟨B, O, none⟩) n cap zs) : ∀ l, s = some l → Cod.Byte l ∧ l.length ≤ n := by
  intro l hl
  obtain ⟨k, _, hs⟩ := h.rp
  rw [hs l hl, List.length_drop, hB.len]
  exact ⟨drop_byte hB.byte k, by omega⟩

theorem cnt_is {l t : List Int} {m : Nat} (h : Cod.cnt.get l = some (m, t)) : Cod.nx Cod.cnt (some l) = some t ∧ Cod.vl Cod.cnt (some l) = some m := ⟨Cod.nx_some h, Cod.vl_some h⟩

/-- A list's reading goes wrong with its count. -/
theorem list_wrong {α : Type} {c : Cod.Way α} (hc : Cod.Law c) (hm : Cod.Much c) (hb : ∀ l, s = some l → Cod.Byte l) (h : Cod.nx Cod.cnt s = none) : Cod.nx (Cod.list c) s = none ∧ Cod.vl (Cod.list c) s = none := by
  cases s with
  | none => exact ⟨rfl, rfl⟩
  | some l =>
    have e : Cod.cnt.get l = none := by
      cases e : Cod.cnt.get l with
      | none => rfl
      | some q => rw [Cod.nx_some (a := q.1) (t := q.2) e] at h; cases h
    have e2 : (Cod.list c).get l = none := by rw [Cod.list_cnt hc hm l (hb l rfl), e]
    exact ⟨Cod.nx_bad e2, Cod.vl_bad e2⟩

/-- Behind its count it is so many values. -/
theorem list_right {α : Type} {c : Cod.Way α} (hc : Cod.Law c) (hm : Cod.Much c) (hb : ∀ l, s = some l → Cod.Byte l) {t : List Int} {m : Nat} (h : Cod.nx Cod.cnt s = some t) (hv : m = (Cod.vl Cod.cnt s).getD 0) :
    (∀ r u, Cod.gets c m t = some (r, u) → Cod.nx (Cod.list c) s = some u ∧ Cod.vl (Cod.list c) s = some r) ∧ (Cod.gets c m t = none → Cod.nx (Cod.list c) s = none ∧ Cod.vl (Cod.list c) s = none) := by
  cases s with
  | none => cases h
  | some l =>
    cases e : Cod.cnt.get l with
    | none => rw [Cod.nx_bad e] at h; cases h
    | some q =>
      obtain ⟨j, t'⟩ := q
      rw [Cod.nx_some e] at h
      rw [Cod.vl_some e] at hv
      cases h
      have hj : m = j := hv
      subst hj
      have e2 : (Cod.list c).get l = Cod.gets c m t := by rw [Cod.list_cnt hc hm l (hb l rfl), e]
      refine ⟨fun r u hg => ?_, fun hg => ?_⟩
      · rw [hg] at e2
        exact ⟨Cod.nx_some e2, Cod.vl_some e2⟩
      · rw [hg] at e2
        exact ⟨Cod.nx_bad e2, Cod.vl_bad e2⟩

theorem Rs.flag (h : Rs Wb R B O n cap zs s w) : w.cell? ⟨R, 2, none⟩ = some (.bool s.isNone) := by
  obtain ⟨k, hp, _⟩ := h.rp
  exact hp.c2

/-- One value more. -/
theorem Tk.more {α : Type} {T : TypeId} {size : Nat} {L : Lay α} {ts : List TypeId} {w0 : World} {r : List α} {u : Value} (h : Tk T size L w0.heap.size r u w) (hL : Lk ts L) (hT : T ∉ ts) (hR : (107 : TypeId) ≠ T) (hS : Rs Wb R B O n cap zs s w) (hk : Kt (107 : TypeId) w0 w) (hW : Wb.heap.size ≤ w0.heap.size) (cs : List Value) :
    ∃ xs, w.ownsRow w0.heap.size T size u r.length xs ∧ ∀ v6 w6, w6.ownsRow w0.heap.size T size v6 (r.length + 1) (xs ++ cs) → w.grownBy w6 u.ownBlock →
      (∃ a6 d6, v6 = .slice a6 (r.length + 1) d6) ∧ Rs Wb R B O n cap zs s w6 ∧ Kt (107 : TypeId) w0 w6 ∧ ∀ x, L w x cs → cs.length = size → Tk T size L w0.heap.size (r ++ [x]) v6 w6 := by
  have h' := h
  obtain ⟨css, k1, k2, k3⟩ := h'.is
  refine ⟨css.flatten, k1, fun v6 w6 ho hg => ?_⟩
  have hkT : Kt T w w6 := Kt.grown k1 hg
  have hub : ∀ k, u.ownBlock = some k → w0.heap.size ≤ k := fun k hk => (k1.lt k hk).1
  refine ⟨?_, ?_, ?_, fun x hx hs => ?_⟩
  · rcases ho.2 with ⟨h2, h3⟩ | ⟨g, c, cur, h2, _⟩
    · omega
    · exact ⟨_, _, h2⟩
  · obtain ⟨k, e1, e2, e3⟩ := hS.is
    exact ⟨hS.low.grown hg (Nat.le_trans hW hk.size) (fun k hk => Nat.le_trans hW (hub k hk)), hS.ge, k, e1, hkT.block _ _ _ _ e2 hR, e3⟩
  · refine ⟨Nat.le_trans hk.size hg.size, fun i c v f hi hv => ?_⟩
    have e1 := hk.block i c v f hi hv
    refine (hg.block i (hp_lt e1) (fun e => ?_)).trans e1
    have := hub i e.symm
    have := hp_lt hi
    omega
  · refine ⟨css ++ [cs], by simpa using ho, by simp [k2], fun i hi => ?_⟩
    rw [List.length_append, List.length_singleton] at hi
    rcases Nat.lt_or_ge i r.length with hlt | hge
    · have e1 : (css ++ [cs]).getD i [] = css.getD i [] := by
        simp [List.getD, List.getElem?_append_left (show i < css.length by omega)]
      rw [e1, List.getElem_append_left hlt]
      exact ⟨(k3 i hlt).1, hL T w w6 _ _ hT hkT (k3 i hlt).2⟩
    · obtain rfl : i = r.length := by omega
      have e1 : (css ++ [cs]).getD r.length [] = cs := by
        rw [← k2]
        simp [List.getD]
      rw [e1]
      refine ⟨hs, ?_⟩
      have := hL T w w6 _ _ hT hkT hx
      simpa using this

set_option maxHeartbeats 1000000 in
theorem rrecord_any (X : Nat) (hv : Rv w X R) (hB : Bs Wb (some ⟨B, O, none⟩) n cap zs) (hn : n ≤ 100000) (h : Rs Wb R B O n cap zs s w) :
    Calls Try.prog 107 #[.pointer (some ⟨X, 0, none⟩)] w (Psl Cod.data LBy Wb R B O n cap zs s w) := by
  have c0 := hv.cell
  have HC := hide (rbytes_any hB hn h)
  clear hv h hB
  go_enter Try.func107, Try.ntmps107
  go_wp2_with fail
  refine HC.out.mono ?_
  intro e w1 hp
  obtain ⟨a, m, d, rfl, hp'⟩ := hp.sl
  have HE := hide hp'
  clear hp hp' HC
  go_wp2_with fail
  go_ret
  exact ⟨_, _, _, rfl, HE.out⟩

theorem infoBytes : (Try.prog.info? (22 : TypeId)).map (fun i => (i.zero, i.size, i.bytes)) = some (some (.slice none 0 0), 1, 24) := by kernel_rfl

set_option maxHeartbeats 2000000 in
theorem rlbytes_any (X : Nat) (hv : Rv w X R) (hB : Bs Wb (some ⟨B, O, none⟩) n cap zs) (hn : n ≤ 100000) (h : Rs Wb R B O n cap zs s w) :
    Calls Try.prog 106 #[.pointer (some ⟨R, 0, none⟩), .func (.func 107) #[] #[.pointer (some ⟨X, 0, none⟩)]] w (Psl (Cod.list Cod.data) LRecs Wb R B O n cap zs s w) := by
  obtain ⟨i1, hi', hy0, hy1, hy2⟩ := info_parts infoBytes
  have HWL := hide h.low.size
  have hby := h.byte hB
  have HV := hide hv
  clear hv
  go_enter Try.func106, Try.ntmps106
  go_wp2_with fail
  refine (rsize_any hB hn h).mono ?_
  rintro e w1 ⟨m, rfl, hmn, hS, hk, hm⟩
  have HK := hide hk
  cases hnx : Cod.nx Cod.cnt s with
  | none =>
    obtain ⟨e1, e2⟩ := list_wrong Cod.data_law Cod.Much.data (fun l hl => (hby l hl).1) hnx
    have hm0 : m = 0 := by
      rw [hm]
      cases s with
      | none => rfl
      | some l =>
        cases e : Cod.cnt.get l with
        | none => rw [Cod.vl_bad e]; rfl
        | some q => rw [Cod.nx_some (a := q.1) (t := q.2) e] at hnx; cases hnx
    rw [hnx] at hS
    have HE : Hid (Pst (Cod.list Cod.data) LRecs [.slice none 0 0] Wb R B O n cap zs s w w1) := hide ⟨by rw [e1]; exact hS, hk, fun y hy => by rw [e2] at hy; cases hy⟩
    clear hS hk h hm hby
    subst hm0
    go_wp2_with fail
    go_loopw [5, 8] (fun u i wr => u = .slice none 0 0 ∧ i = .int .i64 0 ∧ wr = w1) (fun _ _ _ => 0)
    case atStart => exact ⟨rfl, rfl, rfl⟩
    case round =>
      obtain ⟨rfl, rfl, rfl⟩ := hrel
      go_wp2_with fail
      go_ret
      exact ⟨_, _, _, rfl, HE.out⟩
  | some t =>
    rw [hnx] at hS
    obtain ⟨E1, E2⟩ := list_right Cod.data_law Cod.Much.data (fun l hl => (hby l hl).1) hnx hm
    have HE1 := hide E1
    have HE2 := hide E2
    have H1 := hide hS
    clear hS hk h hm hby E1 E2 hnx
    go_wp2_with fail
    go_loopw [5, 8] (fun u i wr => ∃ (k : Nat) (r : List (List Int)) (t' : List Int), k ≤ m ∧ i = .int .i64 k ∧ Cod.gets Cod.data k t = some (r, t') ∧ Hid (Rs Wb R B O n cap zs (some t') wr ∧ Kt (107 : TypeId) w wr ∧ Tk (22 : TypeId) 1 LBy w.heap.size r u wr)) (fun _ i _ => m - (intOf i).toNat)
    case atStart => exact ⟨0, [], t, Nat.zero_le _, rfl, rfl, hide ⟨H1.out, HK.out, Tk.nil _⟩⟩
    case round =>
      obtain ⟨k, r, t', hkm, rfl, hg, hH⟩ := hrel
      obtain ⟨ua, ud, rfl⟩ := hH.out.2.2.val
      have hrl := Cod.gets_len k t r t' hg
      by_cases hlt : k < m
      · have j1 : (k : Int) < (m : Int) := by omega
        have j2 : (0 : Int) ≤ (k : Int) := by omega
        have hv := HV.out.keep hH.out.2.1 (by decide)
        have HC := hide (rrecord_any X hv hB hn hH.out.1)
        clear hv
        go_wp2_with fail
        refine HC.out.mono ?_
        rintro e w2 ⟨a2, m2, d2, rfl, h2, k2, l2⟩
        have hW0 := HWL.out
        have hT2 := (hH.out.2.2.keep LBy.k k2 (by decide) (by decide)).keep LBy.k (Kt.of_below (t := 0) (fresh w2 (.cells #[.slice a2 m2 d2] (22 : TypeId)))) (by decide) (by decide)
        have hk2 := (hH.out.2.1.trans k2).trans (Kt.of_below (fresh w2 (.cells #[.slice a2 m2 d2] (22 : TypeId))))
        have hl2 : ∀ y, Cod.vl Cod.data (some t') = some y → LBy (w2.alloc (.cells #[.slice a2 m2 d2] (22 : TypeId))) y [.slice a2 m2 d2] := fun y hy => LBy.k.below (l2 y hy) (fresh w2 _)
        obtain ⟨xs, hox, hxx⟩ := hT2.more LBy.k (by decide) (by decide) (h2.alloc _) hk2 hW0 [.slice a2 m2 d2]
        rw [hrl] at hox hxx
        have hbs := hk2.size
        rw [World.size_alloc] at hbs
        have HXX := hide hxx
        have HL2 := hide hl2
        have HOX := hide hox
        have hnw := World.news_of_block (heap_alloc_new w2 (.cells #[.slice a2 m2 d2] (22 : TypeId)))
        have HNW := hide hnw
        clear hT2 hk2 hl2 hxx hox hnw h2 k2 l2 HC
        cases eg : Cod.data.get t' with
        | none =>
          rw [Cod.nx_bad eg] at HXX
          have hend : Cod.gets Cod.data m t = none := Cod.gets_stop (n := k + 1) (by omega) t (by rw [Cod.gets_snoc, hg]; simp [eg])
          obtain ⟨e1, e2⟩ := HE2.out hend
          go_wp2_with (at_builtin; refine wpList_append_own _ rfl (.tmp 10) (.tmp 13) (23 : TypeId) rfl w.heap.size (22 : TypeId) i1 (.slice none 0 0) 1 24 Try.underlying23 hi' hy0 hy1 hy2 rfl (by omega) _ k xs (by rfl) HOX.out ⟨w2.heap.size, 0, none⟩ 1 1 [.slice a2 m2 d2] (by rfl) rfl HNW.out (by simp [Value.oneCell']) (by unfold maxLen; omega) (by omega) (by simp; omega) ?_; intro v6 w6 ho6 hg6 hn6; clear hn6; obtain ⟨⟨a6, d6, rfl⟩, hS6, hK6, hT6⟩ := HXX.out _ w6 ho6 hg6; clear ho6 hg6; have q2 := hS6.flag; have HS6 := hide hS6; have HK6 := hide hK6; have HT6 := hide hT6; clear hS6 hK6 hT6)
          go_ret
          exact ⟨_, _, _, rfl, by rw [e1]; exact HS6.out, HK6.out, fun y hy => by rw [e2] at hy; cases hy⟩
        | some q =>
          obtain ⟨x, t2⟩ := q
          rw [Cod.nx_some eg] at HXX
          have hg2 : Cod.gets Cod.data (k + 1) t = some (r ++ [x], t2) := by rw [Cod.gets_snoc, hg]; simp [eg]
          go_wp2_with (at_builtin; refine wpList_append_own _ rfl (.tmp 10) (.tmp 13) (23 : TypeId) rfl w.heap.size (22 : TypeId) i1 (.slice none 0 0) 1 24 Try.underlying23 hi' hy0 hy1 hy2 rfl (by omega) _ k xs (by rfl) HOX.out ⟨w2.heap.size, 0, none⟩ 1 1 [.slice a2 m2 d2] (by rfl) rfl HNW.out (by simp [Value.oneCell']) (by unfold maxLen; omega) (by omega) (by simp; omega) ?_; intro v6 w6 ho6 hg6 hn6; clear hn6; obtain ⟨⟨a6, d6, rfl⟩, hS6, hK6, hT6⟩ := HXX.out _ w6 ho6 hg6; clear ho6 hg6; have q2 := hS6.flag; have HS6 := hide hS6; have HK6 := hide hK6; have HT6 := hide hT6; clear hS6 hK6 hT6)
          go_roundw
          case rel => exact ⟨k + 1, r ++ [x], t2, by omega, by go_num, hg2, hide ⟨HS6.out, HK6.out, HT6.out x (HL2.out x (Cod.vl_some eg)) rfl⟩⟩
          case measure => simp [intOf]; omega
      · obtain rfl : k = m := by omega
        obtain ⟨e1, e2⟩ := HE1.out r t' hg
        have HF : Hid (Pst (Cod.list Cod.data) LRecs [.slice ua r.length ud] Wb R B O n cap zs s w wr) := hide ⟨by rw [e1]; exact hH.out.1, hH.out.2.1, fun y hy => by rw [e2] at hy; cases hy; exact hH.out.2.2.lay⟩
        clear hH hg
        go_wp2_with fail
        go_ret
        exact ⟨_, _, _, rfl, HF.out⟩

set_option maxHeartbeats 1000000 in
theorem rrecords_any (hB : Bs Wb (some ⟨B, O, none⟩) n cap zs) (hn : n ≤ 100000) (h : Rs Wb R B O n cap zs s w) :
    Calls Try.prog 88 #[.pointer (some ⟨R, 0, none⟩)] w (Psl (Cod.list Cod.data) LRecs Wb R B O n cap zs s w) := by
  have hv : Rv (w.alloc (.cells #[.pointer (some ⟨R, 0, none⟩)] (78 : TypeId))) w.heap.size R := heap_alloc_new w _
  have c0 := hv.cell
  have HC := hide (rlbytes_any w.heap.size hv hB hn (h.alloc _))
  have hmf : ∀ (fn : Fn) (first cap : Array Value) (w : World), (Instr.makeFunc fn first cap).run Try.prog w = .ok (.func fn first cap) w := fun _ _ _ _ => rfl
  clear hv h
  go_enter Try.func88, Try.ntmps88
  go_wp2_with fail
  refine HC.out.mono ?_
  rintro e w1 ⟨a, m, d, rfl, h1, k1, l1⟩
  have HE : Hid (Pst (Cod.list Cod.data) LRecs [.slice a m d] Wb R B O n cap zs s w w1) := hide ⟨h1, (Kt.of_below (fresh w _)).trans k1, l1⟩
  clear h1 k1 l1 HC
  go_wp2_with fail
  go_ret
  exact ⟨_, _, _, rfl, HE.out⟩

/-- A batch that was read. -/
def Pbatch (Wb : World) (R B O n cap : Nat) (zs : List Int) (s : Option (List Int)) (w : World) (e : Ending) (w' : World) : Prop :=
  ∃ (p ep f : Int) (la : Option Addr) (ln lc : Nat), e = .returned (.agg #[.int .i64 p, .int .i64 ep, .int .i64 f, .slice la ln lc]) ∧ Pst Cod.batch LBatch [.int .i64 p, .int .i64 ep, .int .i64 f, .slice la ln lc] Wb R B O n cap zs s w w'

theorem Kt.row {t u : TypeId} {w0 : World} {G : Nat} {old cs : Array Value} {f : Nat × Nat} (h : Kt t w0 w) (hG : w.heap[G]? = some (.cells old u f)) (hg : w0.heap.size ≤ G) : Kt t w0 (w.setRow G cs) ∧ Kt u w (w.setRow G cs) := by
  have hs : (w.setRow G cs).heap.size = w.heap.size := by simp [World.setRow]
  refine ⟨⟨by rw [hs]; exact h.size, fun k c v f' hk hv => ?_⟩, ⟨by rw [hs]; exact Nat.le_refl _, fun k c v f' hk hv => ?_⟩⟩
  · have := hp_lt hk
    exact (setRow_other w G k cs (by omega)).trans (h.block k c v f' hk hv)
  · refine (setRow_other w G k cs fun e => ?_).trans hk
    subst e
    rw [hG] at hk
    simp only [Option.some.injEq, Obj.cells.injEq] at hk
    exact hv hk.2.1.symm

theorem Rs.row {G : Nat} {old cs : Array Value} {u : TypeId} {f : Nat × Nat} (h : Rs Wb R B O n cap zs s w) (hG : w.heap[G]? = some (.cells old u f)) (hu : (107 : TypeId) ≠ u) (hg : Wb.heap.size ≤ G) : Rs Wb R B O n cap zs s (w.setRow G cs) := by
  obtain ⟨k, e1, e2, e3⟩ := h.is
  refine ⟨h.low.trans ⟨rfl, rfl, rfl, by simp [World.setRow], fun i hi => setRow_other w G i cs (by omega)⟩, h.ge, k, e1, (setRow_other w G R cs fun e => ?_).trans e2, e3⟩
  subst e
  rw [hG] at e2
  simp only [Option.some.injEq, Obj.cells.injEq] at e2
  exact hu e2.2.1.symm

set_option maxHeartbeats 2000000 in
theorem rbatch_any (hB : Bs Wb (some ⟨B, O, none⟩) n cap zs) (hn : n ≤ 100000) (h : Rs Wb R B O n cap zs s w) :
    Calls Try.prog 55 #[.pointer (some ⟨R, 0, none⟩)] w (Pbatch Wb R B O n cap zs s w) := by
  have hbox := heap_alloc_new w (.cells #[.int .i64 0, .int .i64 0, .int .i64 0, .slice none 0 0] (26 : TypeId))
  have hWs := h.low.size
  have k0 : Kt (107 : TypeId) w (w.alloc (.cells #[.int .i64 0, .int .i64 0, .int .i64 0, .slice none 0 0] (26 : TypeId))) := Kt.of_below (fresh w _)
  have h0 := h.alloc (.cells #[.int .i64 0, .int .i64 0, .int .i64 0, .slice none 0 0] (26 : TypeId))
  go_enter Try.func55, Try.ntmps55
  go_wp2_with fail
  refine (rnint64_any hB hn h0).mono ?_
  rintro e w1 ⟨x1, rfl, h1, k1, l1⟩
  go_wp2_with fail
  refine (rnint_any hB hn h1).mono ?_
  rintro e w2 ⟨x2, rfl, h2, k2, l2⟩
  go_wp2_with fail
  refine (rnint64_any hB hn h2).mono ?_
  rintro e w3 ⟨x3, rfl, h3, k3, l3⟩
  go_wp2_with fail
  refine (rrecords_any hB hn h3).mono ?_
  rintro e w4 ⟨a4, m4, d4, rfl, h4, k4, l4⟩
  have hG := ((k1.trans k2).trans (k3.trans k4)).block _ _ _ _ hbox (by decide)
  have HG := hide hG
  have hkw : Kt (107 : TypeId) w w4 := k0.trans ((k1.trans k2).trans (k3.trans k4))
  have HE : Hid (Pst Cod.batch LBatch [.int .i64 x1, .int .i64 x2, .int .i64 x3, .slice a4 m4 d4] Wb R B O n cap zs s w (w4.setRow w.heap.size #[.int .i64 x1, .int .i64 x2, .int .i64 x3, .slice a4 m4 d4])) := by
    obtain ⟨r1, r2⟩ := Kt.row (cs := #[.int .i64 x1, .int .i64 x2, .int .i64 x3, .slice a4 m4 d4]) hkw hG (Nat.le_refl _)
    refine hide ⟨?_, r1, fun y hy => ?_⟩
    · have := h4.row (cs := #[.int .i64 x1, .int .i64 x2, .int .i64 x3, .slice a4 m4 d4]) hG (by decide) hWs
      simpa only [Cod.batch, Cod.nx_iso, Cod.nx_pair] using this
    · obtain ⟨q, hq, rfl⟩ := Cod.vl_iso.1 hy
      obtain ⟨q1, hq⟩ := Cod.vl_pair.1 hq
      obtain ⟨q2, hq⟩ := Cod.vl_pair.1 hq
      obtain ⟨q3, q4⟩ := Cod.vl_pair.1 hq
      exact LBatch.k (26 : TypeId) w4 _ _ _ (by decide) r2
        ⟨_, _, rfl, LI64.k _ _ _ _ _ (by decide) ((k2.trans k3).trans k4) (l1 _ q1), _, _, rfl, LI64.k _ _ _ _ _ (by decide) (k3.trans k4) (l2 _ q2), _, _, rfl, LI64.k _ _ _ _ _ (by decide) k4 (l3 _ q3), l4 _ q4⟩
  clear h h0 h1 h2 h3 h4 k0 k1 k2 k3 k4 l1 l2 l3 l4 hkw hbox
  have HR := hide (setRow_heap w4 w.heap.size _ #[.int .i64 x1, .int .i64 x2, .int .i64 x3, .slice a4 m4 d4] _ _ hG)
  clear hG
  go_wp2_with (refine wpList_store_row rfl (26 : TypeId) _ _ rfl w.heap.size #[.int .i64 x1, .int .i64 x2, .int .i64 x3, .slice a4 m4 d4] rfl rfl (26 : TypeId) _ HG.out (by kernel_rfl) rfl (by simp [Value.oneCell']) ?_)
  refine bodyPost_ret (v := .agg #[.int .i64 x1, .int .i64 x2, .int .i64 x3, .slice a4 m4 d4]) (results_cell_row Try.results55 _ _ w.heap.size (26 : TypeId) _ (0, 0) _ rfl HR.out Try.underlying26 rfl (by kernel_rfl)) rfl ?_
  exact ⟨_, _, _, _, _, _, rfl, HE.out⟩
end

end Go.Proofs.Ytnimfkcnkkjlkaa

/-
  Readings one behind the other.
-/
namespace Go.Proofs.Ytnimfkcnkkjlkaa
open Go.RowKit
set_option maxRecDepth 100000
set_option linter.unusedVariables false

namespace Cod
/-- Nothing at all. -/
def unit : Way Unit := ⟨fun _ => True, fun _ => [], fun l => some ((), l)⟩
theorem nx_unit (s : Option (List Int)) : nx unit s = s := by cases s <;> rfl
theorem vl_unit {s : Option (List Int)} {q : Unit} : vl unit s = some q ↔ s.isSome = true := by cases s <;> simp [vl, unit]
theorem vl_left {α : Type} {c : Way α} {s : Option (List Int)} {a : α} (h : vl c s = some a) : s.isSome = true := by
  cases s with
  | none => cases h
  | some l => rfl
end Cod

/-- What was read so far. -/
structure Acc {α : Type} (c : Cod.Way α) (G : World → α → Prop) (Wb : World) (R B O n cap : Nat) (zs : List Int) (s : Option (List Int)) (w0 w : World) : Prop where
  rs : Rs Wb R B O n cap zs (Cod.nx c s) w
  kt : Kt (107 : TypeId) w0 w
  vl : ∀ q, Cod.vl c s = some q → G w q
  keep : ∀ V V' q, Kt (107 : TypeId) V V' → G V q → G V' q

section
variable {Wb w w' w0 : World} {R B O n cap : Nat} {zs : List Int} {s : Option (List Int)}

theorem Acc.start (h : Rs Wb R B O n cap zs s w) : Acc Cod.unit (fun _ _ => True) Wb R B O n cap zs s w w :=
  ⟨by rw [Cod.nx_unit]; exact h, Kt.refl _ _, fun _ _ => trivial, fun _ _ _ _ _ => trivial⟩

theorem Acc.drew {α : Type} {c : Cod.Way α} {G : World → α → Prop} (h : Acc c G Wb R B O n cap zs s w0 w) : Acc c G Wb R B O n cap zs s w0 w.drew :=
  ⟨h.rs.drew, h.kt.trans (Kt.of_below (Below.refl _ _).drew), fun q hq => h.keep _ _ q (Kt.of_below (Below.refl _ _).drew) (h.vl q hq), h.keep⟩

theorem Acc.step {α β : Type} {c : Cod.Way α} {d : Cod.Way β} {G : World → α → Prop} {L : Lay β} {cs : List Value} {ts : List TypeId} (h : Acc c G Wb R B O n cap zs s w0 w) (hp : Pst d L cs Wb R B O n cap zs (Cod.nx c s) w w') (hL : Lk ts L) (ht : (107 : TypeId) ∉ ts) :
    Acc (Cod.pair c d) (fun V q => G V q.1 ∧ L V q.2 cs) Wb R B O n cap zs s w0 w' := by
  obtain ⟨h1, h2, h3⟩ := hp
  refine ⟨by rw [Cod.nx_pair]; exact h1, h.kt.trans h2, fun q hq => ?_, fun V V' q hk hg => ⟨h.keep V V' q.1 hk hg.1, hL _ V V' _ _ ht hk hg.2⟩⟩
  obtain ⟨q1, q2⟩ := Cod.vl_pair.1 hq
  exact ⟨h.keep w w' q.1 h2 (h.vl q.1 q1), h3 q.2 q2⟩

theorem rbytes_sl (hB : Bs Wb (some ⟨B, O, none⟩) n cap zs) (hn : n ≤ 100000) (h : Rs Wb R B O n cap zs s w) :
    Calls Try.prog 72 #[.pointer (some ⟨R, 0, none⟩)] w (Psl Cod.data LBy Wb R B O n cap zs s w) := (rbytes_any hB hn h).mono fun _ _ hp => hp.sl

/-- The result's own variable. -/
theorem row_facts {G : Nat} {c : Array Value} {u : TypeId} (hG : w.heap[G]? = some (.cells c u (0, 0))) (i : Nat) (x : Value) (hx : c[i]? = some x) : w.cell? ⟨G, i, none⟩ = some x ∧ w.frozen? ⟨G, i, none⟩ = false :=
  ⟨by rw [cell_of_row w G i c u (0, 0) hG]; exact hx, frozen_of_row w G i c u hG⟩

theorem boxes2r (w : World) (o o' : Obj) : ((w.alloc o).alloc o').heap[w.heap.size]? = some o ∧ ((w.alloc o).alloc o').heap[w.heap.size + 1]? = some o' := by
  refine ⟨(Below.heap_alloc _ _ _ (by simp)).trans (heap_alloc_new w o), ?_⟩
  have := heap_alloc_new (w.alloc o) o'
  simpa using this

theorem Kt.low {t : TypeId} {V : World} (h : Kt t w0 w) (hb : Below w0.heap.size w V) : Kt t w0 V :=
  ⟨Nat.le_trans h.size hb.size, fun k c u f hk hu => (hb.block k (hp_lt hk)).trans (h.block k c u f hk hu)⟩

theorem Rs.low2 {V : World} {m : Nat} (h : Rs Wb R B O n cap zs s w) (hb : Below m w V) (hR : R < m) (hW : Wb.heap.size ≤ m) : Rs Wb R B O n cap zs s V := by
  obtain ⟨k, e1, e2, e3⟩ := h.is
  exact ⟨h.low.trans (hb.mono hW), h.ge, k, e1, (hb.block R hR).trans e2, e3⟩

theorem Kt.row1 {u : TypeId} {G : Nat} {old cs : Array Value} {f : Nat × Nat} (hG : w.heap[G]? = some (.cells old u f)) : Kt u w (w.setRow G cs) := by
  have hs : (w.setRow G cs).heap.size = w.heap.size := by simp [World.setRow]
  refine ⟨by rw [hs]; exact Nat.le_refl _, fun k c v f' hk hv => (setRow_other w G k cs fun e => ?_).trans hk⟩
  subst e
  rw [hG] at hk
  simp only [Option.some.injEq, Obj.cells.injEq] at hk
  exact hv hk.2.1.symm
end

end Go.Proofs.Ytnimfkcnkkjlkaa

/-
  The program's reader: a partition's commands.
-/
namespace Go.Proofs.Ytnimfkcnkkjlkaa
open Go.RowKit
set_option maxRecDepth 100000
set_option linter.unusedVariables false

section
variable {Wb w w' : World} {R B O n cap : Nat} {zs : List Int} {s : Option (List Int)}

/-- What was read. -/
def PPartC (Wb : World) (R B O n cap : Nat) (zs : List Int) (s : Option (List Int)) (w : World) (e : Ending) (w' : World) : Prop :=
  ∃ (k : Int) (bp : Int) (be : Int) (bf : Int) (bla : Option Addr) (bln blc : Nat) (o : Int), e = .returned (.agg #[.int .u8 k, .int .i64 bp, .int .i64 be, .int .i64 bf, .slice bla bln blc, .int .i64 o]) ∧ Pst Cod.part LPartC [.int .u8 k, .int .i64 bp, .int .i64 be, .int .i64 bf, .slice bla bln blc, .int .i64 o] Wb R B O n cap zs s w w'

set_option maxHeartbeats 40000000 in
theorem rpartc_any (hB : Bs Wb (some ⟨B, O, none⟩) n cap zs) (hn : n ≤ 100000) (h : Rs Wb R B O n cap zs s w) :
    Calls Try.prog 25 #[.pointer (some ⟨R, 0, none⟩)] w (PPartC Wb R B O n cap zs s w) := by
  have hWs := h.low.size
  have hRl : R < w.heap.size := by
    obtain ⟨_, _, e2, _⟩ := h.is
    exact hp_lt e2
  obtain ⟨W0, HW⟩ : ∃ W0, Hid (W0 = (w.alloc (.cells #[.int .u8 0, .int .i64 0, .int .i64 0, .int .i64 0, .slice none 0 0, .int .i64 0] (28 : TypeId)))) := ⟨_, hide rfl⟩
  have hbox : W0.heap[w.heap.size]? = some (.cells #[.int .u8 0, .int .i64 0, .int .i64 0, .int .i64 0, .slice none 0 0, .int .i64 0] (28 : TypeId) (0, 0)) := by rw [HW.out]; exact heap_alloc_new w _
  have hk0 : Kt (107 : TypeId) w W0 := by rw [HW.out]; exact Kt.of_below (fresh w _)
  have hA0 : Acc Cod.unit (fun _ _ => True) Wb R B O n cap zs s W0 W0 := Acc.start (by rw [HW.out]; exact h.alloc _)
  have HBX := hide hbox
  have HK0 := hide hk0
  have hA := hA0
  clear h hbox hk0 hA0
  go_enter Try.func25, Try.ntmps25
  go_wp2_with fail
  rw [← HW.out]
  refine (rnpartkind_any hB hn hA.rs).mono ?_
  rintro e w1 ⟨y0_0, rfl, hp⟩
  replace hA := hA.step hp LU8.k (by decide)
  clear hp
  go_wp2_with fail
  refine (rbatch_any hB hn hA.rs).mono ?_
  rintro e w2 ⟨y1_0, y1_1, y1_2, y1_3, y1_4, y1_5, rfl, hp⟩
  replace hA := hA.step hp LBatch.k (by decide)
  clear hp
  go_wp2_with fail
  refine (rnint64_any hB hn hA.rs).mono ?_
  rintro e w3 ⟨y2_0, rfl, hp⟩
  replace hA := hA.step hp LI64.k (by decide)
  clear hp
  have hG := hA.kt.block _ _ _ _ HBX.out (by decide)
  have HG := hide hG
  have HR := hide (setRow_heap w3 w.heap.size _ #[.int .u8 y0_0, .int .i64 y1_0, .int .i64 y1_1, .int .i64 y1_2, .slice y1_3 y1_4 y1_5, .int .i64 y2_0] _ _ hG)
  have hbV : Below w.heap.size w3 (w3.setRow w.heap.size #[.int .u8 y0_0, .int .i64 y1_0, .int .i64 y1_1, .int .i64 y1_2, .slice y1_3 y1_4 y1_5, .int .i64 y2_0]) := below_setRow (Below.refl _ _) (by omega) _
  have hkT : Kt (28 : TypeId) w3 (w3.setRow w.heap.size #[.int .u8 y0_0, .int .i64 y1_0, .int .i64 y1_1, .int .i64 y1_2, .slice y1_3 y1_4 y1_5, .int .i64 y2_0]) := Kt.row1 hG
  have HE : Hid (Pst Cod.part LPartC [.int .u8 y0_0, .int .i64 y1_0, .int .i64 y1_1, .int .i64 y1_2, .slice y1_3 y1_4 y1_5, .int .i64 y2_0] Wb R B O n cap zs s w (w3.setRow w.heap.size #[.int .u8 y0_0, .int .i64 y1_0, .int .i64 y1_1, .int .i64 y1_2, .slice y1_3 y1_4 y1_5, .int .i64 y2_0])) := by
    have hrs := hA.rs
    simp only [Cod.nx_pair, Cod.nx_unit] at hrs
    refine hide ⟨?_, (HK0.out.trans hA.kt).low hbV, fun y hy => ?_⟩
    · have := hrs.low2 hbV hRl hWs
      simpa only [Cod.part, Cod.nx_iso, Cod.nx_pair] using this
    · obtain ⟨q, hq, rfl⟩ := Cod.vl_iso.1 hy
      obtain ⟨p0, hq⟩ := Cod.vl_pair.1 hq
      obtain ⟨p1, hq⟩ := Cod.vl_pair.1 hq
      have p2 := hq
      have hv := hA.vl ((((), q.1), q.2.1), q.2.2) (by simp only [Cod.vl_pair, Cod.nx_pair, Cod.nx_unit, Cod.vl_unit]; exact ⟨⟨⟨Cod.vl_left p0, p0⟩, p1⟩, p2⟩)
      obtain ⟨⟨⟨_, v0⟩, v1⟩, v2⟩ := hv
      exact LPartC.k (28 : TypeId) w3 _ _ _ (by decide) hkT ⟨_, _, rfl, v0, _, _, rfl, v1, v2⟩
  clear hA hbV hkT hG
  go_wp2_with (refine wpList_store_row rfl (28 : TypeId) _ _ rfl w.heap.size #[.int .u8 y0_0, .int .i64 y1_0, .int .i64 y1_1, .int .i64 y1_2, .slice y1_3 y1_4 y1_5, .int .i64 y2_0] rfl rfl (28 : TypeId) _ HG.out (by kernel_rfl) rfl (by simp [Value.oneCell']) ?_)
  refine bodyPost_ret (v := .agg #[.int .u8 y0_0, .int .i64 y1_0, .int .i64 y1_1, .int .i64 y1_2, .slice y1_3 y1_4 y1_5, .int .i64 y2_0]) (results_cell_row Try.results25 _ _ (w.heap.size) (28 : TypeId) _ (0, 0) _ rfl HR.out Try.underlying28 rfl (by kernel_rfl)) rfl ?_
  exact ⟨_, _, _, _, _, _, _, _, rfl, HE.out⟩

end

end Go.Proofs.Ytnimfkcnkkjlkaa

/-
  What get does: bytes of a kind, read whole.
-/
namespace Go.Proofs.Ytnimfkcnkkjlkaa
open Go.RowKit
set_option maxRecDepth 100000

/-- Where a thing's bytes begin, and what is behind. -/
theorem got_cons {α : Type} {c : Cod.Way α} {k : Int} {most : Nat} {zs : List Int} (h0 : 0 < zs.length) (h1 : zs.length ≤ most) (h2 : zs.getD 0 0 = k) : Cod.got c k most zs = match c.get (zs.drop 1) with
    | some (a, []) => some a
    | _ => none := by
  cases zs with
  | nil => simp at h0
  | cons z t =>
    simp only [List.getD_cons_zero] at h2
    unfold Cod.got
    rw [if_pos h1]
    simp only [h2, if_true, List.drop_succ_cons, List.drop_zero]
    cases c.get t with
    | none => rfl
    | some q =>
      obtain ⟨a, l⟩ := q
      cases l <;> rfl

theorem got_no {α : Type} {c : Cod.Way α} {k : Int} {most : Nat} {zs : List Int} (h : zs.length = 0 ∨ most < zs.length ∨ zs.getD 0 0 ≠ k) : Cod.got c k most zs = none := by
  unfold Cod.got
  split
  · next hm =>
    cases zs with
    | nil => rfl
    | cons z t =>
      simp only [List.getD_cons_zero] at h
      simp only
      rw [if_neg]
      rcases h with h | h | h
      · simp at h
      · omega
      · exact h
  · rfl

theorem results_cell_tmp {P : Program} {fn : Func} {p q : Tmp} {ty : TypeId} (h : fn.results = #[.cell p ty, .tmp q]) (tmps : Array Value) (w : World) (g : Nat) (t : TypeId) (cs : Array Value) (fr : Nat × Nat) (d : TypeDesc) (x : Value)
    (hp : tmps.getD p undef = .pointer (some ⟨g, 0, none⟩)) (hq : tmps.getD q undef = x) (hg : w.heap[g]? = some (.cells cs t fr))
    (hu : P.underlying ty = some d) (hd : (match d with | .struct _ | .array _ _ => true | _ => false) = true) (hi : (P.info? ty).map (·.size) = some cs.size) :
    (results fn tmps).run P w = .ok (.tuple #[.agg cs, x]) w := by
  have hp' : tmps[p]?.getD undef = .pointer (some ⟨g, 0, none⟩) := by simpa using hp
  have hq' : tmps[q]?.getD undef = x := by simpa using hq
  simp [results, h, hp', hq', asAddr, run_loadVar_row w g t ty cs fr d hg hu hd hi]

theorem setRow_alloc (w : World) (c d : Array Value) (t : TypeId) (f : Nat × Nat) : (w.alloc (.cells c t f)).setRow w.heap.size d = w.alloc (.cells d t f) := by
  show ({ w with heap := (w.heap.push (.cells c t f)).modify w.heap.size fun | .cells _ e z => .cells d e z | o => o } : World) = { w with heap := w.heap.push (.cells d t f) }
  congr 1
  apply Array.ext_getElem?
  intro i
  rw [Array.getElem?_modify]
  by_cases h : w.heap.size = i
  · subst h
    simp
  · rw [if_neg h]
    simp [Array.getElem?_push, Ne.symm h]

section
variable {w : World} {B O n cap : Nat} {zs : List Int}

theorem Rs.first (h0 : 1 ≤ n) (W : World) (hW : Below w.heap.size w W) : Rs w W.heap.size B O n cap zs (some (zs.drop 1)) (W.alloc (.cells #[.slice (some ⟨B, O, none⟩) n cap, .int .i64 1, .bool false] (107 : TypeId))) :=
  ⟨hW.alloc hW.size _, hW.size, 1, h0, heap_alloc_new W _, fun l h => by cases h; rfl⟩
end

end Go.Proofs.Ytnimfkcnkkjlkaa

/-
  What GetPart answers.
-/
namespace Go.Proofs.Ytnimfkcnkkjlkaa
open Go.RowKit
set_option maxRecDepth 100000
set_option linter.unusedVariables false

section
variable {Wb w w' : World} {R B O n cap : Nat} {zs : List Int} {s : Option (List Int)}

/-- What bytes are as a thing of this kind. -/
def GPartC (w : World) (zs : List Int) (e : Ending) (w' : World) : Prop := Below w.heap.size w w' ∧ match Cod.got Cod.part 1 60000 zs with
  | some x => ∃ (yyk : Int) (yybp : Int) (yybe : Int) (yybf : Int) (yybla : Option Addr) (yybln yyblc : Nat) (yyo : Int), e = .returned (.tuple #[.agg #[.int .u8 yyk, .int .i64 yybp, .int .i64 yybe, .int .i64 yybf, .slice yybla yybln yyblc, .int .i64 yyo], .int .i64 0]) ∧ LPartC w' x [.int .u8 yyk, .int .i64 yybp, .int .i64 yybe, .int .i64 yybf, .slice yybla yybln yyblc, .int .i64 yyo]
  | none => e = .returned (.tuple #[.agg #[.int .u8 0, .int .i64 0, .int .i64 0, .int .i64 0, .slice none 0 0, .int .i64 0], .int .i64 60])

theorem GPartC.no {w w' : World} {zs : List Int} (h : Cod.got Cod.part 1 60000 zs = none) (hb : Below w.heap.size w w') : GPartC w zs (.returned (.tuple #[.agg #[.int .u8 0, .int .i64 0, .int .i64 0, .int .i64 0, .slice none 0 0, .int .i64 0], .int .i64 60])) w' := ⟨hb, by rw [h]⟩
theorem GPartC.yes {w w' : World} {zs : List Int} {x : Cod.PartC} {yyk : Int} {yybp : Int} {yybe : Int} {yybf : Int} {yybla : Option Addr} {yybln yyblc : Nat} {yyo : Int} (h : Cod.got Cod.part 1 60000 zs = some x) (hb : Below w.heap.size w w') (hl : LPartC w' x [.int .u8 yyk, .int .i64 yybp, .int .i64 yybe, .int .i64 yybf, .slice yybla yybln yyblc, .int .i64 yyo]) : GPartC w zs (.returned (.tuple #[.agg #[.int .u8 yyk, .int .i64 yybp, .int .i64 yybe, .int .i64 yybf, .slice yybla yybln yyblc, .int .i64 yyo], .int .i64 0])) w' := ⟨hb, by rw [h]; exact ⟨_, _, _, _, _, _, _, _, rfl, hl⟩⟩

set_option maxHeartbeats 2000000 in
theorem getPart_clo (hB : Bs Wb (some ⟨B, O, none⟩) n cap zs) (hn : n ≤ 100000) (h : Rs Wb R B O n cap zs s w) :
    Calls Try.prog 24 #[.pointer (some ⟨R, 0, none⟩)] w (PPartC Wb R B O n cap zs s w) := by
  have hWs := h.low.size
  have hRl : R < w.heap.size := by
    obtain ⟨_, _, e2, _⟩ := h.is
    exact hp_lt e2
  have hbox := heap_alloc_new w (.cells #[.int .u8 0, .int .i64 0, .int .i64 0, .int .i64 0, .slice none 0 0, .int .i64 0] (28 : TypeId))
  have hk0 : Kt (107 : TypeId) w (w.alloc (.cells #[.int .u8 0, .int .i64 0, .int .i64 0, .int .i64 0, .slice none 0 0, .int .i64 0] (28 : TypeId))) := Kt.of_below (fresh w _)
  have HC := hide (rpartc_any hB hn (h.alloc (.cells #[.int .u8 0, .int .i64 0, .int .i64 0, .int .i64 0, .slice none 0 0, .int .i64 0] (28 : TypeId))))
  clear h
  go_enter Try.func24, Try.ntmps24
  go_wp2_with fail
  refine HC.out.mono ?_
  rintro e w1 ⟨yyk, yybp, yybe, yybf, yybla, yybln, yyblc, yyo, rfl, h1, k1, l1⟩
  have hG := k1.block _ _ _ _ hbox (by decide)
  have HG := hide hG
  have HR := hide (setRow_heap w1 w.heap.size _ #[.int .u8 yyk, .int .i64 yybp, .int .i64 yybe, .int .i64 yybf, .slice yybla yybln yyblc, .int .i64 yyo] _ _ hG)
  have hbV : Below w.heap.size w1 (w1.setRow w.heap.size #[.int .u8 yyk, .int .i64 yybp, .int .i64 yybe, .int .i64 yybf, .slice yybla yybln yyblc, .int .i64 yyo]) := below_setRow (Below.refl _ _) (Nat.le_refl _) _
  have HE : Hid (Pst Cod.part LPartC [.int .u8 yyk, .int .i64 yybp, .int .i64 yybe, .int .i64 yybf, .slice yybla yybln yyblc, .int .i64 yyo] Wb R B O n cap zs s w (w1.setRow w.heap.size #[.int .u8 yyk, .int .i64 yybp, .int .i64 yybe, .int .i64 yybf, .slice yybla yybln yyblc, .int .i64 yyo])) := hide ⟨h1.low2 hbV hRl hWs, (hk0.trans k1).low hbV, fun y hy => LPartC.k (28 : TypeId) w1 _ _ _ (by decide) (Kt.row1 hG) (l1 y hy)⟩
  clear h1 k1 l1 hG hbV HC hbox hk0
  go_wp2_with (refine wpList_store_row rfl (28 : TypeId) _ _ rfl w.heap.size #[.int .u8 yyk, .int .i64 yybp, .int .i64 yybe, .int .i64 yybf, .slice yybla yybln yyblc, .int .i64 yyo] rfl rfl (28 : TypeId) _ HG.out (by kernel_rfl) rfl (by simp [Value.oneCell']) ?_)
  refine bodyPost_ret (v := .agg #[.int .u8 yyk, .int .i64 yybp, .int .i64 yybe, .int .i64 yybf, .slice yybla yybln yyblc, .int .i64 yyo]) (results_cell_row Try.results24 _ _ w.heap.size (28 : TypeId) _ (0, 0) _ rfl HR.out Try.underlying28 rfl (by kernel_rfl)) rfl ?_
  exact ⟨_, _, _, _, _, _, _, _, rfl, HE.out⟩

set_option maxHeartbeats 2000000 in
theorem getPart_no (a : Option Addr) (hB : Bs w a n cap zs) (hno : n = 0 ∨ 60000 < n ∨ zs.getD 0 0 ≠ 1) : Calls Try.prog 23 #[.int .u8 1, .int .i64 60000, .slice a n cap, .func (.func 24) #[] #[]] w (GPartC w zs) := by
  have hgot : Cod.got Cod.part 1 60000 zs = none := got_no (by rw [hB.len]; exact hno)
  have hl := hB.len
  have hle := hB.le
  have hre := hB.reach
  obtain ⟨W, HW⟩ : ∃ W, Hid (W = ((w.alloc (.cells #[.int .u8 0, .int .i64 0, .int .i64 0, .int .i64 0, .slice none 0 0, .int .i64 0] (28 : TypeId))).alloc (.cells #[.int .u8 0, .int .i64 0, .int .i64 0, .int .i64 0, .slice none 0 0, .int .i64 0] (28 : TypeId)))) := ⟨_, hide rfl⟩
  have hx := boxes2r w (.cells #[.int .u8 0, .int .i64 0, .int .i64 0, .int .i64 0, .slice none 0 0, .int .i64 0] (28 : TypeId)) (.cells #[.int .u8 0, .int .i64 0, .int .i64 0, .int .i64 0, .slice none 0 0, .int .i64 0] (28 : TypeId))
  rw [← HW.out] at hx
  have hbW : Below w.heap.size w W := by rw [HW.out]; exact (fresh w _).alloc (by simp) _
  have HE := hide (GPartC.no hgot (below_setRow (g := w.heap.size) hbW (Nat.le_refl _) #[.int .u8 0, .int .i64 0, .int .i64 0, .int .i64 0, .slice none 0 0, .int .i64 0]))
  have HR := hide (setRow_heap W w.heap.size _ #[.int .u8 0, .int .i64 0, .int .i64 0, .int .i64 0, .slice none 0 0, .int .i64 0] _ _ hx.1)
  have hx1 := hx.1
  have hx2 := hx.2
  by_cases h0 : n = 0
  · subst h0
    have hz : ((0 : Int) == 0) = true := rfl
    clear hB
    rw [HW.out] at hx1 hx2 HE HR
    go_enter Try.func23, Try.ntmps23
    go_wp2_with (first | (refine wpList_load_row rfl (28 : TypeId) _ rfl (w.heap.size + 1) rfl (28 : TypeId) _ (0, 0) _ hx2 Try.underlying28 rfl (by kernel_rfl) ?_) | (refine wpList_store_row rfl (28 : TypeId) _ _ rfl w.heap.size #[.int .u8 0, .int .i64 0, .int .i64 0, .int .i64 0, .slice none 0 0, .int .i64 0] rfl rfl (28 : TypeId) _ hx1 (by kernel_rfl) rfl (by simp [Value.oneCell']) ?_))
    refine bodyPost_ret (v := .tuple #[.agg #[.int .u8 0, .int .i64 0, .int .i64 0, .int .i64 0, .slice none 0 0, .int .i64 0], .int .i64 60]) (results_cell_tmp Try.results23 _ _ w.heap.size (28 : TypeId) _ (0, 0) _ _ rfl rfl HR.out Try.underlying28 rfl (by kernel_rfl)) rfl ?_
    exact HE.out
  · obtain ⟨B, O, rfl, hc⟩ := hB.lies (by omega)
    have hc0 := cell_keep (hc 0 (by omega)) hbW
    rw [Nat.add_zero] at hc0
    have hzz := hB.byte
    have hz0 : ((n : Int) == 0) = false := by simp; omega
    by_cases h1 : 60000 < n
    · have h1i : (60000 : Int) < (n : Int) := by omega
      clear hB hc0 hc
      rw [HW.out] at hx1 hx2 HE HR
      go_enter Try.func23, Try.ntmps23
      go_wp2_with (first | (refine wpList_load_row rfl (28 : TypeId) _ rfl (w.heap.size + 1) rfl (28 : TypeId) _ (0, 0) _ hx2 Try.underlying28 rfl (by kernel_rfl) ?_) | (refine wpList_store_row rfl (28 : TypeId) _ _ rfl w.heap.size #[.int .u8 0, .int .i64 0, .int .i64 0, .int .i64 0, .slice none 0 0, .int .i64 0] rfl rfl (28 : TypeId) _ hx1 (by kernel_rfl) rfl (by simp [Value.oneCell']) ?_))
      refine bodyPost_ret (v := .tuple #[.agg #[.int .u8 0, .int .i64 0, .int .i64 0, .int .i64 0, .slice none 0 0, .int .i64 0], .int .i64 60]) (results_cell_tmp Try.results23 _ _ w.heap.size (28 : TypeId) _ (0, 0) _ _ rfl rfl HR.out Try.underlying28 rfl (by kernel_rfl)) rfl ?_
      exact HE.out
    · have h1i : ¬ (60000 : Int) < (n : Int) := by omega
      have h2 : zs.getD 0 0 ≠ 1 := by rcases hno with h | h | h <;> first | omega | exact h
      generalize zs.getD 0 0 = z at hc0 h2
      have hne : (z != 1) = true := by simpa using h2
      rw [HW.out] at hc0
      clear hB hc
      rw [HW.out] at hx1 hx2 HE HR
      go_enter Try.func23, Try.ntmps23
      go_wp2_with (first | (refine wpList_load_row rfl (28 : TypeId) _ rfl (w.heap.size + 1) rfl (28 : TypeId) _ (0, 0) _ hx2 Try.underlying28 rfl (by kernel_rfl) ?_) | (refine wpList_store_row rfl (28 : TypeId) _ _ rfl w.heap.size #[.int .u8 0, .int .i64 0, .int .i64 0, .int .i64 0, .slice none 0 0, .int .i64 0] rfl rfl (28 : TypeId) _ hx1 (by kernel_rfl) rfl (by simp [Value.oneCell']) ?_))
      refine bodyPost_ret (v := .tuple #[.agg #[.int .u8 0, .int .i64 0, .int .i64 0, .int .i64 0, .slice none 0 0, .int .i64 0], .int .i64 60]) (results_cell_tmp Try.results23 _ _ w.heap.size (28 : TypeId) _ (0, 0) _ _ rfl rfl HR.out Try.underlying28 rfl (by kernel_rfl)) rfl ?_
      exact HE.out

set_option maxHeartbeats 4000000 in
theorem getPart_in (hB : Bs w (some ⟨B, O, none⟩) n cap zs) (h0 : 0 < n) (h1 : n ≤ 60000) (h2 : zs.getD 0 0 = 1) : Calls Try.prog 23 #[.int .u8 1, .int .i64 60000, .slice (some ⟨B, O, none⟩) n cap, .func (.func 24) #[] #[]] w (GPartC w zs) := by
  have hgot := got_cons (c := Cod.part) (k := 1) (most := 60000) (zs := zs) (by rw [hB.len]; exact h0) (by rw [hB.len]; exact h1) h2
  have hl := hB.len
  have hle := hB.le
  have hre := hB.reach
  obtain ⟨W, HW⟩ : ∃ W, Hid (W = ((w.alloc (.cells #[.int .u8 0, .int .i64 0, .int .i64 0, .int .i64 0, .slice none 0 0, .int .i64 0] (28 : TypeId))).alloc (.cells #[.int .u8 0, .int .i64 0, .int .i64 0, .int .i64 0, .slice none 0 0, .int .i64 0] (28 : TypeId)))) := ⟨_, hide rfl⟩
  have hx := boxes2r w (.cells #[.int .u8 0, .int .i64 0, .int .i64 0, .int .i64 0, .slice none 0 0, .int .i64 0] (28 : TypeId)) (.cells #[.int .u8 0, .int .i64 0, .int .i64 0, .int .i64 0, .slice none 0 0, .int .i64 0] (28 : TypeId))
  rw [← HW.out] at hx
  have hbW : Below w.heap.size w W := by rw [HW.out]; exact (fresh w _).alloc (by simp) _
  have hWsz : W.heap.size = w.heap.size + 2 := by rw [HW.out]; simp
  obtain ⟨b', o', ha, hc⟩ := hB.lies (by omega)
  simp only [Option.some.injEq, Addr.mk.injEq, and_true] at ha
  obtain ⟨rfl, rfl⟩ := ha
  have hc0 := cell_keep (hc 0 (by omega)) hbW
  rw [Nat.add_zero, h2] at hc0
  have hz0 : ((n : Int) == 0) = false := by simp; omega
  have h1i : ¬ (60000 : Int) < (n : Int) := by omega
  have hS := Rs.first (w := w) (B := B) (O := O) (cap := cap) (zs := zs) (show 1 ≤ n by omega) W hbW
  have HC := hide (getPart_clo hB (by omega) hS)
  have hkx := Kt.of_below (t := (107 : TypeId)) (fresh W (.cells #[.slice (some ⟨B, O, none⟩) n cap, .int .i64 1, .bool false] (107 : TypeId)))
  have hy1 := hkx.block _ _ _ _ hx.1 (by decide)
  have hy2 := hkx.block _ _ _ _ hx.2 (by decide)
  rw [hWsz] at HC
  rw [HW.out] at hc0 HC
  have HY1 := hide hy1
  have HY2 := hide hy2
  clear hy1 hy2 hS hc hx hkx
  go_enter Try.func23, Try.ntmps23
  go_wp2_with fail
  refine HC.out.mono ?_
  rintro e w1 ⟨yyk, yybp, yybe, yybf, yybla, yybln, yyblc, yyo, rfl, h3, k3, l3⟩
  rw [← HW.out] at k3
  obtain ⟨k, hp, hs⟩ := h3.rp
  have hG1 := k3.block _ _ _ _ HY1.out (by decide)
  have hG2 := k3.block _ _ _ _ HY2.out (by decide)
  have hrl := Kt.of_below (t := 0) (fresh w1 (.cells #[.int .u8 yyk, .int .i64 yybp, .int .i64 yybe, .int .i64 yybf, .slice yybla yybln yyblc, .int .i64 yyo] (28 : TypeId)))
  have hG1a := hrl.block _ _ _ _ hG1 (by decide)
  have hG2a := hrl.block _ _ _ _ hG2 (by decide)
  have hG3a := heap_alloc_new w1 (.cells #[.int .u8 yyk, .int .i64 yybp, .int .i64 yybe, .int .i64 yybf, .slice yybla yybln yyblc, .int .i64 yyo] (28 : TypeId))
  have hpa := hp.keep (fresh w1 (.cells #[.int .u8 yyk, .int .i64 yybp, .int .i64 yybe, .int .i64 yybf, .slice yybla yybln yyblc, .int .i64 yyo] (28 : TypeId)))
  have c1 := hpa.c1
  have c2 := hpa.c2
  have hlow := hpa.low
  have hbE : Below w.heap.size w ((w1.alloc (.cells #[.int .u8 yyk, .int .i64 yybp, .int .i64 yybe, .int .i64 yybf, .slice yybla yybln yyblc, .int .i64 yyo] (28 : TypeId))).setRow w.heap.size #[.int .u8 0, .int .i64 0, .int .i64 0, .int .i64 0, .slice none 0 0, .int .i64 0]) := below_setRow hlow (Nat.le_refl _) _
  have hbS : Below w.heap.size w ((w1.alloc (.cells #[.int .u8 yyk, .int .i64 yybp, .int .i64 yybe, .int .i64 yybf, .slice yybla yybln yyblc, .int .i64 yyo] (28 : TypeId))).setRow w.heap.size #[.int .u8 yyk, .int .i64 yybp, .int .i64 yybe, .int .i64 yybf, .slice yybla yybln yyblc, .int .i64 yyo]) := below_setRow hlow (Nat.le_refl _) _
  have HRE := hide (setRow_heap _ w.heap.size _ #[.int .u8 0, .int .i64 0, .int .i64 0, .int .i64 0, .slice none 0 0, .int .i64 0] _ _ hG1a)
  have HRS := hide (setRow_heap _ w.heap.size _ #[.int .u8 yyk, .int .i64 yybp, .int .i64 yybe, .int .i64 yybf, .slice yybla yybln yyblc, .int .i64 yyo] _ _ hG1a)
  have HFIN : Hid (∀ x, Cod.vl Cod.part (some (zs.drop 1)) = some x → LPartC ((w1.alloc (.cells #[.int .u8 yyk, .int .i64 yybp, .int .i64 yybe, .int .i64 yybf, .slice yybla yybln yyblc, .int .i64 yyo] (28 : TypeId))).setRow w.heap.size #[.int .u8 yyk, .int .i64 yybp, .int .i64 yybe, .int .i64 yybf, .slice yybla yybln yyblc, .int .i64 yyo]) x [.int .u8 yyk, .int .i64 yybp, .int .i64 yybe, .int .i64 yybf, .slice yybla yybln yyblc, .int .i64 yyo]) := hide fun x hx => LPartC.k (28 : TypeId) _ _ _ _ (by decide) (Kt.row1 hG1a) (LPartC.k.below (l3 x hx) (fresh w1 _))
  have hkn := hp.le
  clear h3 l3 k3 hp hpa hrl hlow hG1 hG2 HC
  cases hg : Cod.part.get (zs.drop 1) with
  | none =>
    rw [Cod.nx_bad hg] at c2 hs
    rw [hg] at hgot
    have HE := hide (GPartC.no hgot hbE)
    clear hbE hbS
    go_wp2_with (first | (refine wpList_store_row rfl (28 : TypeId) _ _ rfl w1.heap.size #[.int .u8 yyk, .int .i64 yybp, .int .i64 yybe, .int .i64 yybf, .slice yybla yybln yyblc, .int .i64 yyo] rfl rfl (28 : TypeId) _ (heap_alloc_new w1 _) (by kernel_rfl) rfl (by simp [Value.oneCell']) ?_; rw [setRow_alloc]) | (refine wpList_load_row rfl (28 : TypeId) _ rfl (w.heap.size + 1) rfl (28 : TypeId) _ (0, 0) _ hG2a Try.underlying28 rfl (by kernel_rfl) ?_) | (refine wpList_store_row rfl (28 : TypeId) _ _ rfl w.heap.size #[.int .u8 0, .int .i64 0, .int .i64 0, .int .i64 0, .slice none 0 0, .int .i64 0] rfl rfl (28 : TypeId) _ hG1a (by kernel_rfl) rfl (by simp [Value.oneCell']) ?_))
    refine bodyPost_ret (v := .tuple #[.agg #[.int .u8 0, .int .i64 0, .int .i64 0, .int .i64 0, .slice none 0 0, .int .i64 0], .int .i64 60]) (results_cell_tmp Try.results23 _ _ w.heap.size (28 : TypeId) _ (0, 0) _ _ rfl rfl HRE.out Try.underlying28 rfl (by kernel_rfl)) rfl ?_
    exact HE.out
  | some q =>
    obtain ⟨x, t⟩ := q
    rw [Cod.nx_some hg] at c2 hs
    have ht := hs t rfl
    have hxl := HFIN.out x (Cod.vl_some hg)
    rw [hg] at hgot
    by_cases hkn2 : k = n
    · have ht0 : t = [] := by rw [ht]; exact List.drop_eq_nil_of_le (by omega)
      subst ht0
      have HE := hide (GPartC.yes hgot hbS hxl)
      have hnn : ((k : Int) != (n : Int)) = false := by simp [hkn2]
      subst hkn2
      clear hbE hbS hxl
      have hnn2 : ((k : Int) != (k : Int)) = false := by simp
      go_wp2_with (first | (refine wpList_store_row rfl (28 : TypeId) _ _ rfl w1.heap.size #[.int .u8 yyk, .int .i64 yybp, .int .i64 yybe, .int .i64 yybf, .slice yybla yybln yyblc, .int .i64 yyo] rfl rfl (28 : TypeId) _ (heap_alloc_new w1 _) (by kernel_rfl) rfl (by simp [Value.oneCell']) ?_; rw [setRow_alloc]) | (refine wpList_load_row rfl (28 : TypeId) _ rfl w1.heap.size rfl (28 : TypeId) _ (0, 0) _ hG3a Try.underlying28 rfl (by kernel_rfl) ?_) | (refine wpList_store_row rfl (28 : TypeId) _ _ rfl w.heap.size #[.int .u8 yyk, .int .i64 yybp, .int .i64 yybe, .int .i64 yybf, .slice yybla yybln yyblc, .int .i64 yyo] rfl rfl (28 : TypeId) _ hG1a (by kernel_rfl) rfl (by simp [Value.oneCell']) ?_))
      refine bodyPost_ret (v := .tuple #[.agg #[.int .u8 yyk, .int .i64 yybp, .int .i64 yybe, .int .i64 yybf, .slice yybla yybln yyblc, .int .i64 yyo], .int .i64 0]) (results_cell_tmp Try.results23 _ _ w.heap.size (28 : TypeId) _ (0, 0) _ _ rfl rfl HRS.out Try.underlying28 rfl (by kernel_rfl)) rfl ?_
      exact HE.out
    · have htn : t ≠ [] := by
        intro e
        have := congrArg List.length ht
        rw [e, List.length_drop, List.length_nil] at this
        omega
      have hgot2 : Cod.got Cod.part 1 60000 zs = none := by
        rw [hgot]
        cases t with
        | nil => exact absurd rfl htn
        | cons z t => rfl
      have HE := hide (GPartC.no hgot2 hbE)
      have hnn : ((k : Int) != (n : Int)) = true := by simp; omega
      clear hbE hbS hxl
      go_wp2_with (first | (refine wpList_store_row rfl (28 : TypeId) _ _ rfl w1.heap.size #[.int .u8 yyk, .int .i64 yybp, .int .i64 yybe, .int .i64 yybf, .slice yybla yybln yyblc, .int .i64 yyo] rfl rfl (28 : TypeId) _ (heap_alloc_new w1 _) (by kernel_rfl) rfl (by simp [Value.oneCell']) ?_; rw [setRow_alloc]) | (refine wpList_load_row rfl (28 : TypeId) _ rfl (w.heap.size + 1) rfl (28 : TypeId) _ (0, 0) _ hG2a Try.underlying28 rfl (by kernel_rfl) ?_) | (refine wpList_store_row rfl (28 : TypeId) _ _ rfl w.heap.size #[.int .u8 0, .int .i64 0, .int .i64 0, .int .i64 0, .slice none 0 0, .int .i64 0] rfl rfl (28 : TypeId) _ hG1a (by kernel_rfl) rfl (by simp [Value.oneCell']) ?_))
      refine bodyPost_ret (v := .tuple #[.agg #[.int .u8 0, .int .i64 0, .int .i64 0, .int .i64 0, .slice none 0 0, .int .i64 0], .int .i64 60]) (results_cell_tmp Try.results23 _ _ w.heap.size (28 : TypeId) _ (0, 0) _ _ rfl rfl HRE.out Try.underlying28 rfl (by kernel_rfl)) rfl ?_
      exact HE.out

set_option maxHeartbeats 2000000 in
theorem getPart_any (a : Option Addr) (hB : Bs w a n cap zs) : Calls Try.prog 6 #[.slice a n cap] w (GPartC w zs) := by
  have hC : Calls Try.prog 23 #[.int .u8 1, .int .i64 60000, .slice a n cap, .func (.func 24) #[] #[]] (w.alloc (.cells #[.int .u8 0, .int .i64 0, .int .i64 0, .int .i64 0, .slice none 0 0, .int .i64 0] (28 : TypeId))) (GPartC (w.alloc (.cells #[.int .u8 0, .int .i64 0, .int .i64 0, .int .i64 0, .slice none 0 0, .int .i64 0] (28 : TypeId))) zs) := by
    have hB1 := hB.keep (fresh w (.cells #[.int .u8 0, .int .i64 0, .int .i64 0, .int .i64 0, .slice none 0 0, .int .i64 0] (28 : TypeId)))
    by_cases hno : n = 0 ∨ 60000 < n ∨ zs.getD 0 0 ≠ 1
    · exact getPart_no a hB1 hno
    · have h1 : n ≠ 0 := fun h => hno (.inl h)
      have h2 : n ≤ 60000 := Nat.le_of_not_lt fun h => hno (.inr (.inl h))
      have h3 : zs.getD 0 0 = 1 := Classical.byContradiction fun h => hno (.inr (.inr h))
      obtain ⟨B, O, rfl, _⟩ := hB1.lies (by omega)
      exact getPart_in hB1 (by omega) h2 h3
  have HC := hide hC
  have hbox := heap_alloc_new w (.cells #[.int .u8 0, .int .i64 0, .int .i64 0, .int .i64 0, .slice none 0 0, .int .i64 0] (28 : TypeId))
  clear hC
  go_enter Try.func6, Try.ntmps6
  go_wp2_with fail
  refine HC.out.mono ?_
  rintro e w1 ⟨hb, hm⟩
  have hbw : Below w.heap.size w w1 := (fresh w _).trans (hb.mono (by simp))
  have hG := (hb.block _ (hp_lt hbox)).trans hbox
  cases hg : Cod.got Cod.part 1 60000 zs with
  | none =>
    rw [hg] at hm
    subst hm
    have HE := hide (GPartC.no hg (below_setRow hbw (Nat.le_refl _) #[.int .u8 0, .int .i64 0, .int .i64 0, .int .i64 0, .slice none 0 0, .int .i64 0]))
    have HR := hide (setRow_heap w1 w.heap.size _ #[.int .u8 0, .int .i64 0, .int .i64 0, .int .i64 0, .slice none 0 0, .int .i64 0] _ _ hG)
    clear hbw hb HC
    go_wp2_with (refine wpList_store_row rfl (28 : TypeId) _ _ rfl w.heap.size #[.int .u8 0, .int .i64 0, .int .i64 0, .int .i64 0, .slice none 0 0, .int .i64 0] rfl rfl (28 : TypeId) _ hG (by kernel_rfl) rfl (by simp [Value.oneCell']) ?_)
    refine bodyPost_ret (v := .tuple #[.agg #[.int .u8 0, .int .i64 0, .int .i64 0, .int .i64 0, .slice none 0 0, .int .i64 0], .int .i64 60]) (results_cell_tmp Try.results6 _ _ w.heap.size (28 : TypeId) _ (0, 0) _ _ rfl rfl HR.out Try.underlying28 rfl (by kernel_rfl)) rfl ?_
    exact HE.out
  | some x =>
    rw [hg] at hm
    obtain ⟨yyk, yybp, yybe, yybf, yybla, yybln, yyblc, yyo, rfl, hl⟩ := hm
    have HE := hide (GPartC.yes hg (below_setRow hbw (Nat.le_refl _) #[.int .u8 yyk, .int .i64 yybp, .int .i64 yybe, .int .i64 yybf, .slice yybla yybln yyblc, .int .i64 yyo]) (LPartC.k (28 : TypeId) _ _ _ _ (by decide) (Kt.row1 hG) hl))
    have HR := hide (setRow_heap w1 w.heap.size _ #[.int .u8 yyk, .int .i64 yybp, .int .i64 yybe, .int .i64 yybf, .slice yybla yybln yyblc, .int .i64 yyo] _ _ hG)
    clear hbw hb HC hl
    go_wp2_with (refine wpList_store_row rfl (28 : TypeId) _ _ rfl w.heap.size #[.int .u8 yyk, .int .i64 yybp, .int .i64 yybe, .int .i64 yybf, .slice yybla yybln yyblc, .int .i64 yyo] rfl rfl (28 : TypeId) _ hG (by kernel_rfl) rfl (by simp [Value.oneCell']) ?_)
    refine bodyPost_ret (v := .tuple #[.agg #[.int .u8 yyk, .int .i64 yybp, .int .i64 yybe, .int .i64 yybf, .slice yybla yybln yyblc, .int .i64 yyo], .int .i64 0]) (results_cell_tmp Try.results6 _ _ w.heap.size (28 : TypeId) _ (0, 0) _ _ rfl rfl HR.out Try.underlying28 rfl (by kernel_rfl)) rfl ?_
    exact HE.out

end

end Go.Proofs.Ytnimfkcnkkjlkaa

/-
  The program's reader: texts, places.
-/
namespace Go.Proofs.Ytnimfkcnkkjlkaa
open Go.RowKit
set_option maxRecDepth 100000
set_option linter.unusedVariables false

section
variable {Wb w w' : World} {R B O n cap : Nat} {zs : List Int} {s : Option (List Int)}

set_option maxHeartbeats 1000000 in
theorem rtextc_any (X : Nat) (hv : Rv w X R) (hB : Bs Wb (some ⟨B, O, none⟩) n cap zs) (hn : n ≤ 100000) (h : Rs Wb R B O n cap zs s w) :
    Calls Try.prog 91 #[.pointer (some ⟨X, 0, none⟩)] w (Ptx Wb R B O n cap zs s w) := by
  have c0 := hv.cell
  have HC := hide (rtext_any hB hn h)
  clear hv h hB
  go_enter Try.func91, Try.ntmps91
  go_wp2_with fail
  refine HC.out.mono ?_
  rintro e w1 ⟨x, rfl, hp⟩
  have HE := hide hp
  clear hp HC
  go_wp2_with fail
  go_ret
  exact ⟨_, rfl, HE.out⟩

theorem infostr : (Try.prog.info? 9).map (fun i => (i.zero, i.size, i.bytes)) = some (some (.string ⟨#[]⟩), 1, 16) := by kernel_rfl

set_option maxHeartbeats 4000000 in
theorem rlstr_any (X : Nat) (hv : Rv w X R) (hB : Bs Wb (some ⟨B, O, none⟩) n cap zs) (hn : n ≤ 100000) (h : Rs Wb R B O n cap zs s w) :
    Calls Try.prog 90 #[.pointer (some ⟨R, 0, none⟩), .func (.func 91) #[] #[.pointer (some ⟨X, 0, none⟩)]] w (Psl (Cod.list Cod.data) LTxs Wb R B O n cap zs s w) := by
  obtain ⟨i1, hi', hy0, hy1, hy2⟩ := info_parts infostr
  have HWL := hide h.low.size
  have hby := h.byte hB
  have HV := hide hv
  clear hv
  go_enter Try.func90, Try.ntmps90
  go_wp2_with fail
  refine (rsize_any hB hn h).mono ?_
  rintro e w1 ⟨m, rfl, hmn, hS, hk, hm⟩
  have HK := hide hk
  cases hnx : Cod.nx Cod.cnt s with
  | none =>
    obtain ⟨e1, e2⟩ := list_wrong Cod.data_law Cod.Much.data (fun l hl => (hby l hl).1) hnx
    have hm0 : m = 0 := by
      rw [hm]
      cases s with
      | none => rfl
      | some l =>
        cases e : Cod.cnt.get l with
        | none => rw [Cod.vl_bad e]; rfl
        | some q => rw [Cod.nx_some (a := q.1) (t := q.2) e] at hnx; cases hnx
    rw [hnx] at hS
    have HE : Hid (Pst (Cod.list Cod.data) LTxs [.slice none 0 0] Wb R B O n cap zs s w w1) := hide ⟨by rw [e1]; exact hS, hk, fun y hy => by rw [e2] at hy; cases hy⟩
    clear hS hk h hm hby
    subst hm0
    go_wp2_with fail
    go_loopw [5, 8] (fun u i wr => u = .slice none 0 0 ∧ i = .int .i64 0 ∧ wr = w1) (fun _ _ _ => 0)
    case atStart => exact ⟨rfl, rfl, rfl⟩
    case round =>
      obtain ⟨rfl, rfl, rfl⟩ := hrel
      go_wp2_with fail
      go_ret
      exact ⟨_, _, _, rfl, HE.out⟩
  | some t =>
    rw [hnx] at hS
    obtain ⟨E1, E2⟩ := list_right Cod.data_law Cod.Much.data (fun l hl => (hby l hl).1) hnx hm
    have HE1 := hide E1
    have HE2 := hide E2
    have H1 := hide hS
    clear hS hk h hm hby E1 E2 hnx
    go_wp2_with fail
    go_loopw [5, 8] (fun u i wr => ∃ (k : Nat) (r : List (List Int)) (t' : List Int), k ≤ m ∧ i = .int .i64 k ∧ Cod.gets Cod.data k t = some (r, t') ∧ Hid (Rs Wb R B O n cap zs (some t') wr ∧ Kt (107 : TypeId) w wr ∧ Tk 9 1 LTx w.heap.size r u wr)) (fun _ i _ => m - (intOf i).toNat)
    case atStart => exact ⟨0, [], t, Nat.zero_le _, rfl, rfl, hide ⟨H1.out, HK.out, Tk.nil _⟩⟩
    case round =>
      obtain ⟨k, r, t', hkm, rfl, hg, hH⟩ := hrel
      obtain ⟨ua, ud, rfl⟩ := hH.out.2.2.val
      have hrl := Cod.gets_len k t r t' hg
      by_cases hlt : k < m
      · have j1 : (k : Int) < (m : Int) := by omega
        have j2 : (0 : Int) ≤ (k : Int) := by omega
        have hv := HV.out.keep hH.out.2.1 (by decide)
        have HC := hide (rtextc_any X hv hB hn hH.out.1)
        clear hv
        go_wp2_with fail
        refine HC.out.mono ?_
        rintro e w2 ⟨z, rfl, h2, k2, l2⟩
        have hW0 := HWL.out
        have hT2 := (hH.out.2.2.keep LTx.k k2 (by decide) (by decide)).keep LTx.k (Kt.of_below (t := 0) (fresh w2 (.cells #[.string z] (9 : TypeId)))) (by decide) (by decide)
        have hk2 := (hH.out.2.1.trans k2).trans (Kt.of_below (fresh w2 (.cells #[.string z] (9 : TypeId))))
        have hl2 : ∀ y, Cod.vl Cod.data (some t') = some y → LTx (w2.alloc (.cells #[.string z] (9 : TypeId))) y [.string z] := fun y hy => LTx.k.below (l2 y hy) (fresh w2 _)
        obtain ⟨xs, hox, hxx⟩ := hT2.more LTx.k (by decide) (by decide) (h2.alloc _) hk2 hW0 [.string z]
        rw [hrl] at hox hxx
        have hbs := hk2.size
        rw [World.size_alloc] at hbs
        have HXX := hide hxx
        have HL2 := hide hl2
        have HOX := hide hox
        have hnw := World.news_of_block (heap_alloc_new w2 (.cells #[.string z] (9 : TypeId)))
        have HNW := hide hnw
        clear hT2 hk2 hl2 hxx hox hnw h2 k2 l2 HC
        cases eg : (Cod.data).get t' with
        | none =>
          rw [Cod.nx_bad eg] at HXX
          have hend : Cod.gets Cod.data m t = none := Cod.gets_stop (n := k + 1) (by omega) t (by rw [Cod.gets_snoc, hg]; simp [eg])
          obtain ⟨e1, e2⟩ := HE2.out hend
          go_wp2_with (at_builtin; refine wpList_append_own _ rfl (.tmp 10) (.tmp 13) (33 : TypeId) rfl w.heap.size 9 i1 (.string ⟨#[]⟩) 1 16 Try.underlying33 hi' hy0 hy1 hy2 rfl (by omega) _ k xs (by rfl) HOX.out ⟨w2.heap.size, 0, none⟩ 1 1 [.string z] (by rfl) rfl HNW.out (by simp [Value.oneCell']) (by unfold maxLen; omega) (by omega) (by simp; omega) ?_; intro v6 w6 ho6 hg6 hn6; clear hn6; obtain ⟨⟨a6, d6, rfl⟩, hS6, hK6, hT6⟩ := HXX.out _ w6 ho6 hg6; clear ho6 hg6; have q2 := hS6.flag; have HS6 := hide hS6; have HK6 := hide hK6; have HT6 := hide hT6; clear hS6 hK6 hT6)
          go_ret
          exact ⟨_, _, _, rfl, by rw [e1]; exact HS6.out, HK6.out, fun y hy => by rw [e2] at hy; cases hy⟩
        | some q =>
          obtain ⟨x, t2⟩ := q
          rw [Cod.nx_some eg] at HXX
          have hg2 : Cod.gets Cod.data (k + 1) t = some (r ++ [x], t2) := by rw [Cod.gets_snoc, hg]; simp [eg]
          go_wp2_with (at_builtin; refine wpList_append_own _ rfl (.tmp 10) (.tmp 13) (33 : TypeId) rfl w.heap.size 9 i1 (.string ⟨#[]⟩) 1 16 Try.underlying33 hi' hy0 hy1 hy2 rfl (by omega) _ k xs (by rfl) HOX.out ⟨w2.heap.size, 0, none⟩ 1 1 [.string z] (by rfl) rfl HNW.out (by simp [Value.oneCell']) (by unfold maxLen; omega) (by omega) (by simp; omega) ?_; intro v6 w6 ho6 hg6 hn6; clear hn6; obtain ⟨⟨a6, d6, rfl⟩, hS6, hK6, hT6⟩ := HXX.out _ w6 ho6 hg6; clear ho6 hg6; have q2 := hS6.flag; have HS6 := hide hS6; have HK6 := hide hK6; have HT6 := hide hT6; clear hS6 hK6 hT6)
          go_roundw
          case rel => exact ⟨k + 1, r ++ [x], t2, by omega, by go_num, hg2, hide ⟨HS6.out, HK6.out, HT6.out x (HL2.out x (Cod.vl_some eg)) rfl⟩⟩
          case measure => simp [intOf]; omega
      · obtain rfl : k = m := by omega
        obtain ⟨e1, e2⟩ := HE1.out r t' hg
        have HF : Hid (Pst (Cod.list Cod.data) LTxs [.slice ua r.length ud] Wb R B O n cap zs s w wr) := hide ⟨by rw [e1]; exact hH.out.1, hH.out.2.1, fun y hy => by rw [e2] at hy; cases hy; exact hH.out.2.2.lay⟩
        clear hH hg
        go_wp2_with fail
        go_ret
        exact ⟨_, _, _, rfl, HF.out⟩

set_option maxHeartbeats 1000000 in
theorem rtexts_any (hB : Bs Wb (some ⟨B, O, none⟩) n cap zs) (hn : n ≤ 100000) (h : Rs Wb R B O n cap zs s w) :
    Calls Try.prog 60 #[.pointer (some ⟨R, 0, none⟩)] w (Psl (Cod.list Cod.data) LTxs Wb R B O n cap zs s w) := by
  have hv : Rv (w.alloc (.cells #[.pointer (some ⟨R, 0, none⟩)] (78 : TypeId))) w.heap.size R := heap_alloc_new w _
  have c0 := hv.cell
  have HC := hide (rlstr_any w.heap.size hv hB hn (h.alloc _))
  have hmf : ∀ (fn : Fn) (first cap : Array Value) (w : World), (Instr.makeFunc fn first cap).run Try.prog w = .ok (.func fn first cap) w := fun _ _ _ _ => rfl
  clear hv h
  go_enter Try.func60, Try.ntmps60
  go_wp2_with fail
  refine HC.out.mono ?_
  rintro e w1 ⟨a, m, d, rfl, h1, k1, l1⟩
  have HE : Hid (Pst (Cod.list Cod.data) LTxs [.slice a m d] Wb R B O n cap zs s w w1) := hide ⟨h1, (Kt.of_below (fresh w _)).trans k1, l1⟩
  clear h1 k1 l1 HC
  go_wp2_with fail
  go_ret
  exact ⟨_, _, _, rfl, HE.out⟩

/-- What was read. -/
def PPlace (Wb : World) (R B O n cap : Nat) (zs : List Int) (s : Option (List Int)) (w : World) (e : Ending) (w' : World) : Prop :=
  ∃ (zt : ByteArray) (zp : Int), e = .returned (.agg #[.string zt, .int .i64 zp]) ∧ Pst Cod.place LPlace [.string zt, .int .i64 zp] Wb R B O n cap zs s w w'

set_option maxHeartbeats 40000000 in
theorem rplace_any (hB : Bs Wb (some ⟨B, O, none⟩) n cap zs) (hn : n ≤ 100000) (h : Rs Wb R B O n cap zs s w) :
    Calls Try.prog 61 #[.pointer (some ⟨R, 0, none⟩)] w (PPlace Wb R B O n cap zs s w) := by
  have hWs := h.low.size
  have hRl : R < w.heap.size := by
    obtain ⟨_, _, e2, _⟩ := h.is
    exact hp_lt e2
  obtain ⟨W0, HW⟩ : ∃ W0, Hid (W0 = (w.alloc (.cells #[.string ⟨#[]⟩, .int .i64 0] (35 : TypeId)))) := ⟨_, hide rfl⟩
  have hbox : W0.heap[w.heap.size]? = some (.cells #[.string ⟨#[]⟩, .int .i64 0] (35 : TypeId) (0, 0)) := by rw [HW.out]; exact heap_alloc_new w _
  have hk0 : Kt (107 : TypeId) w W0 := by rw [HW.out]; exact Kt.of_below (fresh w _)
  have hA0 : Acc Cod.unit (fun _ _ => True) Wb R B O n cap zs s W0 W0 := Acc.start (by rw [HW.out]; exact h.alloc _)
  have HBX := hide hbox
  have HK0 := hide hk0
  have hA := hA0
  clear h hbox hk0 hA0
  go_enter Try.func61, Try.ntmps61
  go_wp2_with fail
  rw [← HW.out]
  refine (rtext_any hB hn hA.rs).mono ?_
  rintro e w1 ⟨y0_0, rfl, hp⟩
  replace hA := hA.step hp LTx.k (by decide)
  clear hp
  go_wp2_with fail
  refine (rnint_any hB hn hA.rs).mono ?_
  rintro e w2 ⟨y1_0, rfl, hp⟩
  replace hA := hA.step hp LI64.k (by decide)
  clear hp
  have hG := hA.kt.block _ _ _ _ HBX.out (by decide)
  have HG := hide hG
  have HR := hide (setRow_heap w2 w.heap.size _ #[.string y0_0, .int .i64 y1_0] _ _ hG)
  have hbV : Below w.heap.size w2 (w2.setRow w.heap.size #[.string y0_0, .int .i64 y1_0]) := below_setRow (Below.refl _ _) (by omega) _
  have hkT : Kt (35 : TypeId) w2 (w2.setRow w.heap.size #[.string y0_0, .int .i64 y1_0]) := Kt.row1 hG
  have HE : Hid (Pst Cod.place LPlace [.string y0_0, .int .i64 y1_0] Wb R B O n cap zs s w (w2.setRow w.heap.size #[.string y0_0, .int .i64 y1_0])) := by
    have hrs := hA.rs
    simp only [Cod.nx_pair, Cod.nx_unit] at hrs
    refine hide ⟨?_, (HK0.out.trans hA.kt).low hbV, fun y hy => ?_⟩
    · have := hrs.low2 hbV hRl hWs
      simpa only [Cod.place, Cod.nx_iso, Cod.nx_pair] using this
    · obtain ⟨q, hq, rfl⟩ := Cod.vl_iso.1 hy
      obtain ⟨p0, hq⟩ := Cod.vl_pair.1 hq
      have p1 := hq
      have hv := hA.vl (((), q.1), q.2) (by simp only [Cod.vl_pair, Cod.nx_pair, Cod.nx_unit, Cod.vl_unit]; exact ⟨⟨Cod.vl_left p0, p0⟩, p1⟩)
      obtain ⟨⟨_, v0⟩, v1⟩ := hv
      exact LPlace.k (35 : TypeId) w2 _ _ _ (by decide) hkT ⟨_, _, rfl, v0, v1⟩
  clear hA hbV hkT hG
  go_wp2_with (refine wpList_store_row rfl (35 : TypeId) _ _ rfl w.heap.size #[.string y0_0, .int .i64 y1_0] rfl rfl (35 : TypeId) _ HG.out (by kernel_rfl) rfl (by simp [Value.oneCell']) ?_)
  refine bodyPost_ret (v := .agg #[.string y0_0, .int .i64 y1_0]) (results_cell_row Try.results61 _ _ (w.heap.size) (35 : TypeId) _ (0, 0) _ rfl HR.out Try.underlying35 rfl (by kernel_rfl)) rfl ?_
  exact ⟨_, _, rfl, HE.out⟩

end

end Go.Proofs.Ytnimfkcnkkjlkaa

/-
  The program's reader: commands of the metadata.
-/
namespace Go.Proofs.Ytnimfkcnkkjlkaa
open Go.RowKit
set_option maxRecDepth 100000
set_option linter.unusedVariables false

section
variable {Wb w w' : World} {R B O n cap : Nat} {zs : List Int} {s : Option (List Int)}

/-- What was read. -/
def PMetaC (Wb : World) (R B O n cap : Nat) (zs : List Int) (s : Option (List Int)) (w : World) (e : Ending) (w' : World) : Prop :=
  ∃ (zk : Int) (zg : ByteArray) (zm : ByteArray) (zn : Int) (zla : Option Addr) (zln zlc : Nat) (zqt : ByteArray) (zqp : Int) (zo : Int) (zu : Int) (zc : Int) (za : Int), e = .returned (.agg #[.int .u8 zk, .string zg, .string zm, .int .i64 zn, .slice zla zln zlc, .string zqt, .int .i64 zqp, .int .i64 zo, .int .i64 zu, .int .i64 zc, .int .i64 za]) ∧ Pst Cod.meta' LMetaC [.int .u8 zk, .string zg, .string zm, .int .i64 zn, .slice zla zln zlc, .string zqt, .int .i64 zqp, .int .i64 zo, .int .i64 zu, .int .i64 zc, .int .i64 za] Wb R B O n cap zs s w w'

set_option maxHeartbeats 40000000 in
theorem rmetac_any (hB : Bs Wb (some ⟨B, O, none⟩) n cap zs) (hn : n ≤ 100000) (h : Rs Wb R B O n cap zs s w) :
    Calls Try.prog 28 #[.pointer (some ⟨R, 0, none⟩)] w (PMetaC Wb R B O n cap zs s w) := by
  have hWs := h.low.size
  have hRl : R < w.heap.size := by
    obtain ⟨_, _, e2, _⟩ := h.is
    exact hp_lt e2
  obtain ⟨W0, HW⟩ : ∃ W0, Hid (W0 = (w.alloc (.cells #[.int .u8 0, .string ⟨#[]⟩, .string ⟨#[]⟩, .int .i64 0, .slice none 0 0, .string ⟨#[]⟩, .int .i64 0, .int .i64 0, .int .i64 0, .int .i64 0, .int .i64 0] (37 : TypeId)))) := ⟨_, hide rfl⟩
  have hbox : W0.heap[w.heap.size]? = some (.cells #[.int .u8 0, .string ⟨#[]⟩, .string ⟨#[]⟩, .int .i64 0, .slice none 0 0, .string ⟨#[]⟩, .int .i64 0, .int .i64 0, .int .i64 0, .int .i64 0, .int .i64 0] (37 : TypeId) (0, 0)) := by rw [HW.out]; exact heap_alloc_new w _
  have hk0 : Kt (107 : TypeId) w W0 := by rw [HW.out]; exact Kt.of_below (fresh w _)
  have hA0 : Acc Cod.unit (fun _ _ => True) Wb R B O n cap zs s W0 W0 := Acc.start (by rw [HW.out]; exact h.alloc _)
  have HBX := hide hbox
  have HK0 := hide hk0
  have hA := hA0
  clear h hbox hk0 hA0
  go_enter Try.func28, Try.ntmps28
  go_wp2_with fail
  rw [← HW.out]
  refine (rnmetakind_any hB hn hA.rs).mono ?_
  rintro e w1 ⟨y0_0, rfl, hp⟩
  replace hA := hA.step hp LU8.k (by decide)
  clear hp
  go_wp2_with fail
  refine (rtext_any hB hn hA.rs).mono ?_
  rintro e w2 ⟨y1_0, rfl, hp⟩
  replace hA := hA.step hp LTx.k (by decide)
  clear hp
  go_wp2_with fail
  refine (rtext_any hB hn hA.rs).mono ?_
  rintro e w3 ⟨y2_0, rfl, hp⟩
  replace hA := hA.step hp LTx.k (by decide)
  clear hp
  go_wp2_with fail
  refine (rnint_any hB hn hA.rs).mono ?_
  rintro e w4 ⟨y3_0, rfl, hp⟩
  replace hA := hA.step hp LI64.k (by decide)
  clear hp
  go_wp2_with fail
  refine (rtexts_any hB hn hA.rs).mono ?_
  rintro e w5 ⟨y4_0, y4_1, y4_2, rfl, hp⟩
  replace hA := hA.step hp LTxs.k (by decide)
  clear hp
  go_wp2_with fail
  refine (rplace_any hB hn hA.rs).mono ?_
  rintro e w6 ⟨y5_0, y5_1, rfl, hp⟩
  replace hA := hA.step hp LPlace.k (by decide)
  clear hp
  go_wp2_with fail
  refine (rnint64_any hB hn hA.rs).mono ?_
  rintro e w7 ⟨y6_0, rfl, hp⟩
  replace hA := hA.step hp LI64.k (by decide)
  clear hp
  go_wp2_with fail
  refine (rnint64_any hB hn hA.rs).mono ?_
  rintro e w8 ⟨y7_0, rfl, hp⟩
  replace hA := hA.step hp LI64.k (by decide)
  clear hp
  go_wp2_with fail
  refine (rnint_any hB hn hA.rs).mono ?_
  rintro e w9 ⟨y8_0, rfl, hp⟩
  replace hA := hA.step hp LI64.k (by decide)
  clear hp
  go_wp2_with fail
  refine (rnint_any hB hn hA.rs).mono ?_
  rintro e w10 ⟨y9_0, rfl, hp⟩
  replace hA := hA.step hp LI64.k (by decide)
  clear hp
  have hG := hA.kt.block _ _ _ _ HBX.out (by decide)
  have HG := hide hG
  have HR := hide (setRow_heap w10 w.heap.size _ #[.int .u8 y0_0, .string y1_0, .string y2_0, .int .i64 y3_0, .slice y4_0 y4_1 y4_2, .string y5_0, .int .i64 y5_1, .int .i64 y6_0, .int .i64 y7_0, .int .i64 y8_0, .int .i64 y9_0] _ _ hG)
  have hbV : Below w.heap.size w10 (w10.setRow w.heap.size #[.int .u8 y0_0, .string y1_0, .string y2_0, .int .i64 y3_0, .slice y4_0 y4_1 y4_2, .string y5_0, .int .i64 y5_1, .int .i64 y6_0, .int .i64 y7_0, .int .i64 y8_0, .int .i64 y9_0]) := below_setRow (Below.refl _ _) (by omega) _
  have hkT : Kt (37 : TypeId) w10 (w10.setRow w.heap.size #[.int .u8 y0_0, .string y1_0, .string y2_0, .int .i64 y3_0, .slice y4_0 y4_1 y4_2, .string y5_0, .int .i64 y5_1, .int .i64 y6_0, .int .i64 y7_0, .int .i64 y8_0, .int .i64 y9_0]) := Kt.row1 hG
  have HE : Hid (Pst Cod.meta' LMetaC [.int .u8 y0_0, .string y1_0, .string y2_0, .int .i64 y3_0, .slice y4_0 y4_1 y4_2, .string y5_0, .int .i64 y5_1, .int .i64 y6_0, .int .i64 y7_0, .int .i64 y8_0, .int .i64 y9_0] Wb R B O n cap zs s w (w10.setRow w.heap.size #[.int .u8 y0_0, .string y1_0, .string y2_0, .int .i64 y3_0, .slice y4_0 y4_1 y4_2, .string y5_0, .int .i64 y5_1, .int .i64 y6_0, .int .i64 y7_0, .int .i64 y8_0, .int .i64 y9_0])) := by
    have hrs := hA.rs
    simp only [Cod.nx_pair, Cod.nx_unit] at hrs
    refine hide ⟨?_, (HK0.out.trans hA.kt).low hbV, fun y hy => ?_⟩
    · have := hrs.low2 hbV hRl hWs
      simpa only [Cod.meta', Cod.nx_iso, Cod.nx_pair] using this
    · obtain ⟨q, hq, rfl⟩ := Cod.vl_iso.1 hy
      obtain ⟨p0, hq⟩ := Cod.vl_pair.1 hq
      obtain ⟨p1, hq⟩ := Cod.vl_pair.1 hq
      obtain ⟨p2, hq⟩ := Cod.vl_pair.1 hq
      obtain ⟨p3, hq⟩ := Cod.vl_pair.1 hq
      obtain ⟨p4, hq⟩ := Cod.vl_pair.1 hq
      obtain ⟨p5, hq⟩ := Cod.vl_pair.1 hq
      obtain ⟨p6, hq⟩ := Cod.vl_pair.1 hq
      obtain ⟨p7, hq⟩ := Cod.vl_pair.1 hq
      obtain ⟨p8, hq⟩ := Cod.vl_pair.1 hq
      have p9 := hq
      have hv := hA.vl (((((((((((), q.1), q.2.1), q.2.2.1), q.2.2.2.1), q.2.2.2.2.1), q.2.2.2.2.2.1), q.2.2.2.2.2.2.1), q.2.2.2.2.2.2.2.1), q.2.2.2.2.2.2.2.2.1), q.2.2.2.2.2.2.2.2.2) (by simp only [Cod.vl_pair, Cod.nx_pair, Cod.nx_unit, Cod.vl_unit]; exact ⟨⟨⟨⟨⟨⟨⟨⟨⟨⟨Cod.vl_left p0, p0⟩, p1⟩, p2⟩, p3⟩, p4⟩, p5⟩, p6⟩, p7⟩, p8⟩, p9⟩)
      obtain ⟨⟨⟨⟨⟨⟨⟨⟨⟨⟨_, v0⟩, v1⟩, v2⟩, v3⟩, v4⟩, v5⟩, v6⟩, v7⟩, v8⟩, v9⟩ := hv
      exact LMetaC.k (37 : TypeId) w10 _ _ _ (by decide) hkT ⟨_, _, rfl, v0, _, _, rfl, v1, _, _, rfl, v2, _, _, rfl, v3, _, _, rfl, v4, _, _, rfl, v5, _, _, rfl, v6, _, _, rfl, v7, _, _, rfl, v8, v9⟩
  clear hA hbV hkT hG
  go_wp2_with (refine wpList_store_row rfl (37 : TypeId) _ _ rfl w.heap.size #[.int .u8 y0_0, .string y1_0, .string y2_0, .int .i64 y3_0, .slice y4_0 y4_1 y4_2, .string y5_0, .int .i64 y5_1, .int .i64 y6_0, .int .i64 y7_0, .int .i64 y8_0, .int .i64 y9_0] rfl rfl (37 : TypeId) _ HG.out (by kernel_rfl) rfl (by simp [Value.oneCell']) ?_)
  refine bodyPost_ret (v := .agg #[.int .u8 y0_0, .string y1_0, .string y2_0, .int .i64 y3_0, .slice y4_0 y4_1 y4_2, .string y5_0, .int .i64 y5_1, .int .i64 y6_0, .int .i64 y7_0, .int .i64 y8_0, .int .i64 y9_0]) (results_cell_row Try.results28 _ _ (w.heap.size) (37 : TypeId) _ (0, 0) _ rfl HR.out Try.underlying37 rfl (by kernel_rfl)) rfl ?_
  exact ⟨_, _, _, _, _, _, _, _, _, _, _, _, _, rfl, HE.out⟩

end

end Go.Proofs.Ytnimfkcnkkjlkaa

/-
  What GetMeta answers.
-/
namespace Go.Proofs.Ytnimfkcnkkjlkaa
open Go.RowKit
set_option maxRecDepth 100000
set_option linter.unusedVariables false

section
variable {Wb w w' : World} {R B O n cap : Nat} {zs : List Int} {s : Option (List Int)}

/-- What bytes are as a thing of this kind. -/
def GMetaC (w : World) (zs : List Int) (e : Ending) (w' : World) : Prop := Below w.heap.size w w' ∧ match Cod.got Cod.meta' 2 60000 zs with
  | some x => ∃ (yyk : Int) (yyg : ByteArray) (yym : ByteArray) (yyn : Int) (yyla : Option Addr) (yyln yylc : Nat) (yyqt : ByteArray) (yyqp : Int) (yyo : Int) (yyu : Int) (yyc : Int) (yya : Int), e = .returned (.tuple #[.agg #[.int .u8 yyk, .string yyg, .string yym, .int .i64 yyn, .slice yyla yyln yylc, .string yyqt, .int .i64 yyqp, .int .i64 yyo, .int .i64 yyu, .int .i64 yyc, .int .i64 yya], .int .i64 0]) ∧ LMetaC w' x [.int .u8 yyk, .string yyg, .string yym, .int .i64 yyn, .slice yyla yyln yylc, .string yyqt, .int .i64 yyqp, .int .i64 yyo, .int .i64 yyu, .int .i64 yyc, .int .i64 yya]
  | none => e = .returned (.tuple #[.agg #[.int .u8 0, .string ⟨#[]⟩, .string ⟨#[]⟩, .int .i64 0, .slice none 0 0, .string ⟨#[]⟩, .int .i64 0, .int .i64 0, .int .i64 0, .int .i64 0, .int .i64 0], .int .i64 60])

theorem GMetaC.no {w w' : World} {zs : List Int} (h : Cod.got Cod.meta' 2 60000 zs = none) (hb : Below w.heap.size w w') : GMetaC w zs (.returned (.tuple #[.agg #[.int .u8 0, .string ⟨#[]⟩, .string ⟨#[]⟩, .int .i64 0, .slice none 0 0, .string ⟨#[]⟩, .int .i64 0, .int .i64 0, .int .i64 0, .int .i64 0, .int .i64 0], .int .i64 60])) w' := ⟨hb, by rw [h]⟩
theorem GMetaC.yes {w w' : World} {zs : List Int} {x : Cod.MetaC} {yyk : Int} {yyg : ByteArray} {yym : ByteArray} {yyn : Int} {yyla : Option Addr} {yyln yylc : Nat} {yyqt : ByteArray} {yyqp : Int} {yyo : Int} {yyu : Int} {yyc : Int} {yya : Int} (h : Cod.got Cod.meta' 2 60000 zs = some x) (hb : Below w.heap.size w w') (hl : LMetaC w' x [.int .u8 yyk, .string yyg, .string yym, .int .i64 yyn, .slice yyla yyln yylc, .string yyqt, .int .i64 yyqp, .int .i64 yyo, .int .i64 yyu, .int .i64 yyc, .int .i64 yya]) : GMetaC w zs (.returned (.tuple #[.agg #[.int .u8 yyk, .string yyg, .string yym, .int .i64 yyn, .slice yyla yyln yylc, .string yyqt, .int .i64 yyqp, .int .i64 yyo, .int .i64 yyu, .int .i64 yyc, .int .i64 yya], .int .i64 0])) w' := ⟨hb, by rw [h]; exact ⟨_, _, _, _, _, _, _, _, _, _, _, _, _, rfl, hl⟩⟩

set_option maxHeartbeats 2000000 in
theorem getMeta_clo (hB : Bs Wb (some ⟨B, O, none⟩) n cap zs) (hn : n ≤ 100000) (h : Rs Wb R B O n cap zs s w) :
    Calls Try.prog 27 #[.pointer (some ⟨R, 0, none⟩)] w (PMetaC Wb R B O n cap zs s w) := by
  have hWs := h.low.size
  have hRl : R < w.heap.size := by
    obtain ⟨_, _, e2, _⟩ := h.is
    exact hp_lt e2
  have hbox := heap_alloc_new w (.cells #[.int .u8 0, .string ⟨#[]⟩, .string ⟨#[]⟩, .int .i64 0, .slice none 0 0, .string ⟨#[]⟩, .int .i64 0, .int .i64 0, .int .i64 0, .int .i64 0, .int .i64 0] (37 : TypeId))
  have hk0 : Kt (107 : TypeId) w (w.alloc (.cells #[.int .u8 0, .string ⟨#[]⟩, .string ⟨#[]⟩, .int .i64 0, .slice none 0 0, .string ⟨#[]⟩, .int .i64 0, .int .i64 0, .int .i64 0, .int .i64 0, .int .i64 0] (37 : TypeId))) := Kt.of_below (fresh w _)
  have HC := hide (rmetac_any hB hn (h.alloc (.cells #[.int .u8 0, .string ⟨#[]⟩, .string ⟨#[]⟩, .int .i64 0, .slice none 0 0, .string ⟨#[]⟩, .int .i64 0, .int .i64 0, .int .i64 0, .int .i64 0, .int .i64 0] (37 : TypeId))))
  clear h
  go_enter Try.func27, Try.ntmps27
  go_wp2_with fail
  refine HC.out.mono ?_
  rintro e w1 ⟨yyk, yyg, yym, yyn, yyla, yyln, yylc, yyqt, yyqp, yyo, yyu, yyc, yya, rfl, h1, k1, l1⟩
  have hG := k1.block _ _ _ _ hbox (by decide)
  have HG := hide hG
  have HR := hide (setRow_heap w1 w.heap.size _ #[.int .u8 yyk, .string yyg, .string yym, .int .i64 yyn, .slice yyla yyln yylc, .string yyqt, .int .i64 yyqp, .int .i64 yyo, .int .i64 yyu, .int .i64 yyc, .int .i64 yya] _ _ hG)
  have hbV : Below w.heap.size w1 (w1.setRow w.heap.size #[.int .u8 yyk, .string yyg, .string yym, .int .i64 yyn, .slice yyla yyln yylc, .string yyqt, .int .i64 yyqp, .int .i64 yyo, .int .i64 yyu, .int .i64 yyc, .int .i64 yya]) := below_setRow (Below.refl _ _) (Nat.le_refl _) _
  have HE : Hid (Pst Cod.meta' LMetaC [.int .u8 yyk, .string yyg, .string yym, .int .i64 yyn, .slice yyla yyln yylc, .string yyqt, .int .i64 yyqp, .int .i64 yyo, .int .i64 yyu, .int .i64 yyc, .int .i64 yya] Wb R B O n cap zs s w (w1.setRow w.heap.size #[.int .u8 yyk, .string yyg, .string yym, .int .i64 yyn, .slice yyla yyln yylc, .string yyqt, .int .i64 yyqp, .int .i64 yyo, .int .i64 yyu, .int .i64 yyc, .int .i64 yya])) := hide ⟨h1.low2 hbV hRl hWs, (hk0.trans k1).low hbV, fun y hy => LMetaC.k (37 : TypeId) w1 _ _ _ (by decide) (Kt.row1 hG) (l1 y hy)⟩
  clear h1 k1 l1 hG hbV HC hbox hk0
  go_wp2_with (refine wpList_store_row rfl (37 : TypeId) _ _ rfl w.heap.size #[.int .u8 yyk, .string yyg, .string yym, .int .i64 yyn, .slice yyla yyln yylc, .string yyqt, .int .i64 yyqp, .int .i64 yyo, .int .i64 yyu, .int .i64 yyc, .int .i64 yya] rfl rfl (37 : TypeId) _ HG.out (by kernel_rfl) rfl (by simp [Value.oneCell']) ?_)
  refine bodyPost_ret (v := .agg #[.int .u8 yyk, .string yyg, .string yym, .int .i64 yyn, .slice yyla yyln yylc, .string yyqt, .int .i64 yyqp, .int .i64 yyo, .int .i64 yyu, .int .i64 yyc, .int .i64 yya]) (results_cell_row Try.results27 _ _ w.heap.size (37 : TypeId) _ (0, 0) _ rfl HR.out Try.underlying37 rfl (by kernel_rfl)) rfl ?_
  exact ⟨_, _, _, _, _, _, _, _, _, _, _, _, _, rfl, HE.out⟩

set_option maxHeartbeats 2000000 in
theorem getMeta_no (a : Option Addr) (hB : Bs w a n cap zs) (hno : n = 0 ∨ 60000 < n ∨ zs.getD 0 0 ≠ 2) : Calls Try.prog 26 #[.int .u8 2, .int .i64 60000, .slice a n cap, .func (.func 27) #[] #[]] w (GMetaC w zs) := by
  have hgot : Cod.got Cod.meta' 2 60000 zs = none := got_no (by rw [hB.len]; exact hno)
  have hl := hB.len
  have hle := hB.le
  have hre := hB.reach
  obtain ⟨W, HW⟩ : ∃ W, Hid (W = ((w.alloc (.cells #[.int .u8 0, .string ⟨#[]⟩, .string ⟨#[]⟩, .int .i64 0, .slice none 0 0, .string ⟨#[]⟩, .int .i64 0, .int .i64 0, .int .i64 0, .int .i64 0, .int .i64 0] (37 : TypeId))).alloc (.cells #[.int .u8 0, .string ⟨#[]⟩, .string ⟨#[]⟩, .int .i64 0, .slice none 0 0, .string ⟨#[]⟩, .int .i64 0, .int .i64 0, .int .i64 0, .int .i64 0, .int .i64 0] (37 : TypeId)))) := ⟨_, hide rfl⟩
  have hx := boxes2r w (.cells #[.int .u8 0, .string ⟨#[]⟩, .string ⟨#[]⟩, .int .i64 0, .slice none 0 0, .string ⟨#[]⟩, .int .i64 0, .int .i64 0, .int .i64 0, .int .i64 0, .int .i64 0] (37 : TypeId)) (.cells #[.int .u8 0, .string ⟨#[]⟩, .string ⟨#[]⟩, .int .i64 0, .slice none 0 0, .string ⟨#[]⟩, .int .i64 0, .int .i64 0, .int .i64 0, .int .i64 0, .int .i64 0] (37 : TypeId))
  rw [← HW.out] at hx
  have hbW : Below w.heap.size w W := by rw [HW.out]; exact (fresh w _).alloc (by simp) _
  have HE := hide (GMetaC.no hgot (below_setRow (g := w.heap.size) hbW (Nat.le_refl _) #[.int .u8 0, .string ⟨#[]⟩, .string ⟨#[]⟩, .int .i64 0, .slice none 0 0, .string ⟨#[]⟩, .int .i64 0, .int .i64 0, .int .i64 0, .int .i64 0, .int .i64 0]))
  have HR := hide (setRow_heap W w.heap.size _ #[.int .u8 0, .string ⟨#[]⟩, .string ⟨#[]⟩, .int .i64 0, .slice none 0 0, .string ⟨#[]⟩, .int .i64 0, .int .i64 0, .int .i64 0, .int .i64 0, .int .i64 0] _ _ hx.1)
  have hx1 := hx.1
  have hx2 := hx.2
  by_cases h0 : n = 0
  · subst h0
    have hz : ((0 : Int) == 0) = true := rfl
    clear hB
    rw [HW.out] at hx1 hx2 HE HR
    go_enter Try.func26, Try.ntmps26
    go_wp2_with (first | (refine wpList_load_row rfl (37 : TypeId) _ rfl (w.heap.size + 1) rfl (37 : TypeId) _ (0, 0) _ hx2 Try.underlying37 rfl (by kernel_rfl) ?_) | (refine wpList_store_row rfl (37 : TypeId) _ _ rfl w.heap.size #[.int .u8 0, .string ⟨#[]⟩, .string ⟨#[]⟩, .int .i64 0, .slice none 0 0, .string ⟨#[]⟩, .int .i64 0, .int .i64 0, .int .i64 0, .int .i64 0, .int .i64 0] rfl rfl (37 : TypeId) _ hx1 (by kernel_rfl) rfl (by simp [Value.oneCell']) ?_))
    refine bodyPost_ret (v := .tuple #[.agg #[.int .u8 0, .string ⟨#[]⟩, .string ⟨#[]⟩, .int .i64 0, .slice none 0 0, .string ⟨#[]⟩, .int .i64 0, .int .i64 0, .int .i64 0, .int .i64 0, .int .i64 0], .int .i64 60]) (results_cell_tmp Try.results26 _ _ w.heap.size (37 : TypeId) _ (0, 0) _ _ rfl rfl HR.out Try.underlying37 rfl (by kernel_rfl)) rfl ?_
    exact HE.out
  · obtain ⟨B, O, rfl, hc⟩ := hB.lies (by omega)
    have hc0 := cell_keep (hc 0 (by omega)) hbW
    rw [Nat.add_zero] at hc0
    have hzz := hB.byte
    have hz0 : ((n : Int) == 0) = false := by simp; omega
    by_cases h1 : 60000 < n
    · have h1i : (60000 : Int) < (n : Int) := by omega
      clear hB hc0 hc
      rw [HW.out] at hx1 hx2 HE HR
      go_enter Try.func26, Try.ntmps26
      go_wp2_with (first | (refine wpList_load_row rfl (37 : TypeId) _ rfl (w.heap.size + 1) rfl (37 : TypeId) _ (0, 0) _ hx2 Try.underlying37 rfl (by kernel_rfl) ?_) | (refine wpList_store_row rfl (37 : TypeId) _ _ rfl w.heap.size #[.int .u8 0, .string ⟨#[]⟩, .string ⟨#[]⟩, .int .i64 0, .slice none 0 0, .string ⟨#[]⟩, .int .i64 0, .int .i64 0, .int .i64 0, .int .i64 0, .int .i64 0] rfl rfl (37 : TypeId) _ hx1 (by kernel_rfl) rfl (by simp [Value.oneCell']) ?_))
      refine bodyPost_ret (v := .tuple #[.agg #[.int .u8 0, .string ⟨#[]⟩, .string ⟨#[]⟩, .int .i64 0, .slice none 0 0, .string ⟨#[]⟩, .int .i64 0, .int .i64 0, .int .i64 0, .int .i64 0, .int .i64 0], .int .i64 60]) (results_cell_tmp Try.results26 _ _ w.heap.size (37 : TypeId) _ (0, 0) _ _ rfl rfl HR.out Try.underlying37 rfl (by kernel_rfl)) rfl ?_
      exact HE.out
    · have h1i : ¬ (60000 : Int) < (n : Int) := by omega
      have h2 : zs.getD 0 0 ≠ 2 := by rcases hno with h | h | h <;> first | omega | exact h
      generalize zs.getD 0 0 = z at hc0 h2
      have hne : (z != 2) = true := by simpa using h2
      rw [HW.out] at hc0
      clear hB hc
      rw [HW.out] at hx1 hx2 HE HR
      go_enter Try.func26, Try.ntmps26
      go_wp2_with (first | (refine wpList_load_row rfl (37 : TypeId) _ rfl (w.heap.size + 1) rfl (37 : TypeId) _ (0, 0) _ hx2 Try.underlying37 rfl (by kernel_rfl) ?_) | (refine wpList_store_row rfl (37 : TypeId) _ _ rfl w.heap.size #[.int .u8 0, .string ⟨#[]⟩, .string ⟨#[]⟩, .int .i64 0, .slice none 0 0, .string ⟨#[]⟩, .int .i64 0, .int .i64 0, .int .i64 0, .int .i64 0, .int .i64 0] rfl rfl (37 : TypeId) _ hx1 (by kernel_rfl) rfl (by simp [Value.oneCell']) ?_))
      refine bodyPost_ret (v := .tuple #[.agg #[.int .u8 0, .string ⟨#[]⟩, .string ⟨#[]⟩, .int .i64 0, .slice none 0 0, .string ⟨#[]⟩, .int .i64 0, .int .i64 0, .int .i64 0, .int .i64 0, .int .i64 0], .int .i64 60]) (results_cell_tmp Try.results26 _ _ w.heap.size (37 : TypeId) _ (0, 0) _ _ rfl rfl HR.out Try.underlying37 rfl (by kernel_rfl)) rfl ?_
      exact HE.out

set_option maxHeartbeats 4000000 in
theorem getMeta_in (hB : Bs w (some ⟨B, O, none⟩) n cap zs) (h0 : 0 < n) (h1 : n ≤ 60000) (h2 : zs.getD 0 0 = 2) : Calls Try.prog 26 #[.int .u8 2, .int .i64 60000, .slice (some ⟨B, O, none⟩) n cap, .func (.func 27) #[] #[]] w (GMetaC w zs) := by
  have hgot := got_cons (c := Cod.meta') (k := 2) (most := 60000) (zs := zs) (by rw [hB.len]; exact h0) (by rw [hB.len]; exact h1) h2
  have hl := hB.len
  have hle := hB.le
  have hre := hB.reach
  obtain ⟨W, HW⟩ : ∃ W, Hid (W = ((w.alloc (.cells #[.int .u8 0, .string ⟨#[]⟩, .string ⟨#[]⟩, .int .i64 0, .slice none 0 0, .string ⟨#[]⟩, .int .i64 0, .int .i64 0, .int .i64 0, .int .i64 0, .int .i64 0] (37 : TypeId))).alloc (.cells #[.int .u8 0, .string ⟨#[]⟩, .string ⟨#[]⟩, .int .i64 0, .slice none 0 0, .string ⟨#[]⟩, .int .i64 0, .int .i64 0, .int .i64 0, .int .i64 0, .int .i64 0] (37 : TypeId)))) := ⟨_, hide rfl⟩
  have hx := boxes2r w (.cells #[.int .u8 0, .string ⟨#[]⟩, .string ⟨#[]⟩, .int .i64 0, .slice none 0 0, .string ⟨#[]⟩, .int .i64 0, .int .i64 0, .int .i64 0, .int .i64 0, .int .i64 0] (37 : TypeId)) (.cells #[.int .u8 0, .string ⟨#[]⟩, .string ⟨#[]⟩, .int .i64 0, .slice none 0 0, .string ⟨#[]⟩, .int .i64 0, .int .i64 0, .int .i64 0, .int .i64 0, .int .i64 0] (37 : TypeId))
  rw [← HW.out] at hx
  have hbW : Below w.heap.size w W := by rw [HW.out]; exact (fresh w _).alloc (by simp) _
  have hWsz : W.heap.size = w.heap.size + 2 := by rw [HW.out]; simp
  obtain ⟨b', o', ha, hc⟩ := hB.lies (by omega)
  simp only [Option.some.injEq, Addr.mk.injEq, and_true] at ha
  obtain ⟨rfl, rfl⟩ := ha
  have hc0 := cell_keep (hc 0 (by omega)) hbW
  rw [Nat.add_zero, h2] at hc0
  have hz0 : ((n : Int) == 0) = false := by simp; omega
  have h1i : ¬ (60000 : Int) < (n : Int) := by omega
  have hS := Rs.first (w := w) (B := B) (O := O) (cap := cap) (zs := zs) (show 1 ≤ n by omega) W hbW
  have HC := hide (getMeta_clo hB (by omega) hS)
  have hkx := Kt.of_below (t := (107 : TypeId)) (fresh W (.cells #[.slice (some ⟨B, O, none⟩) n cap, .int .i64 1, .bool false] (107 : TypeId)))
  have hy1 := hkx.block _ _ _ _ hx.1 (by decide)
  have hy2 := hkx.block _ _ _ _ hx.2 (by decide)
  rw [hWsz] at HC
  rw [HW.out] at hc0 HC
  have HY1 := hide hy1
  have HY2 := hide hy2
  clear hy1 hy2 hS hc hx hkx
  go_enter Try.func26, Try.ntmps26
  go_wp2_with fail
  refine HC.out.mono ?_
  rintro e w1 ⟨yyk, yyg, yym, yyn, yyla, yyln, yylc, yyqt, yyqp, yyo, yyu, yyc, yya, rfl, h3, k3, l3⟩
  rw [← HW.out] at k3
  obtain ⟨k, hp, hs⟩ := h3.rp
  have hG1 := k3.block _ _ _ _ HY1.out (by decide)
  have hG2 := k3.block _ _ _ _ HY2.out (by decide)
  have hrl := Kt.of_below (t := 0) (fresh w1 (.cells #[.int .u8 yyk, .string yyg, .string yym, .int .i64 yyn, .slice yyla yyln yylc, .string yyqt, .int .i64 yyqp, .int .i64 yyo, .int .i64 yyu, .int .i64 yyc, .int .i64 yya] (37 : TypeId)))
  have hG1a := hrl.block _ _ _ _ hG1 (by decide)
  have hG2a := hrl.block _ _ _ _ hG2 (by decide)
  have hG3a := heap_alloc_new w1 (.cells #[.int .u8 yyk, .string yyg, .string yym, .int .i64 yyn, .slice yyla yyln yylc, .string yyqt, .int .i64 yyqp, .int .i64 yyo, .int .i64 yyu, .int .i64 yyc, .int .i64 yya] (37 : TypeId))
  have hpa := hp.keep (fresh w1 (.cells #[.int .u8 yyk, .string yyg, .string yym, .int .i64 yyn, .slice yyla yyln yylc, .string yyqt, .int .i64 yyqp, .int .i64 yyo, .int .i64 yyu, .int .i64 yyc, .int .i64 yya] (37 : TypeId)))
  have c1 := hpa.c1
  have c2 := hpa.c2
  have hlow := hpa.low
  have hbE : Below w.heap.size w ((w1.alloc (.cells #[.int .u8 yyk, .string yyg, .string yym, .int .i64 yyn, .slice yyla yyln yylc, .string yyqt, .int .i64 yyqp, .int .i64 yyo, .int .i64 yyu, .int .i64 yyc, .int .i64 yya] (37 : TypeId))).setRow w.heap.size #[.int .u8 0, .string ⟨#[]⟩, .string ⟨#[]⟩, .int .i64 0, .slice none 0 0, .string ⟨#[]⟩, .int .i64 0, .int .i64 0, .int .i64 0, .int .i64 0, .int .i64 0]) := below_setRow hlow (Nat.le_refl _) _
  have hbS : Below w.heap.size w ((w1.alloc (.cells #[.int .u8 yyk, .string yyg, .string yym, .int .i64 yyn, .slice yyla yyln yylc, .string yyqt, .int .i64 yyqp, .int .i64 yyo, .int .i64 yyu, .int .i64 yyc, .int .i64 yya] (37 : TypeId))).setRow w.heap.size #[.int .u8 yyk, .string yyg, .string yym, .int .i64 yyn, .slice yyla yyln yylc, .string yyqt, .int .i64 yyqp, .int .i64 yyo, .int .i64 yyu, .int .i64 yyc, .int .i64 yya]) := below_setRow hlow (Nat.le_refl _) _
  have HRE := hide (setRow_heap _ w.heap.size _ #[.int .u8 0, .string ⟨#[]⟩, .string ⟨#[]⟩, .int .i64 0, .slice none 0 0, .string ⟨#[]⟩, .int .i64 0, .int .i64 0, .int .i64 0, .int .i64 0, .int .i64 0] _ _ hG1a)
  have HRS := hide (setRow_heap _ w.heap.size _ #[.int .u8 yyk, .string yyg, .string yym, .int .i64 yyn, .slice yyla yyln yylc, .string yyqt, .int .i64 yyqp, .int .i64 yyo, .int .i64 yyu, .int .i64 yyc, .int .i64 yya] _ _ hG1a)
  have HFIN : Hid (∀ x, Cod.vl Cod.meta' (some (zs.drop 1)) = some x → LMetaC ((w1.alloc (.cells #[.int .u8 yyk, .string yyg, .string yym, .int .i64 yyn, .slice yyla yyln yylc, .string yyqt, .int .i64 yyqp, .int .i64 yyo, .int .i64 yyu, .int .i64 yyc, .int .i64 yya] (37 : TypeId))).setRow w.heap.size #[.int .u8 yyk, .string yyg, .string yym, .int .i64 yyn, .slice yyla yyln yylc, .string yyqt, .int .i64 yyqp, .int .i64 yyo, .int .i64 yyu, .int .i64 yyc, .int .i64 yya]) x [.int .u8 yyk, .string yyg, .string yym, .int .i64 yyn, .slice yyla yyln yylc, .string yyqt, .int .i64 yyqp, .int .i64 yyo, .int .i64 yyu, .int .i64 yyc, .int .i64 yya]) := hide fun x hx => LMetaC.k (37 : TypeId) _ _ _ _ (by decide) (Kt.row1 hG1a) (LMetaC.k.below (l3 x hx) (fresh w1 _))
  have hkn := hp.le
  clear h3 l3 k3 hp hpa hrl hlow hG1 hG2 HC
  cases hg : Cod.meta'.get (zs.drop 1) with
  | none =>
    rw [Cod.nx_bad hg] at c2 hs
    rw [hg] at hgot
    have HE := hide (GMetaC.no hgot hbE)
    clear hbE hbS
    go_wp2_with (first | (refine wpList_store_row rfl (37 : TypeId) _ _ rfl w1.heap.size #[.int .u8 yyk, .string yyg, .string yym, .int .i64 yyn, .slice yyla yyln yylc, .string yyqt, .int .i64 yyqp, .int .i64 yyo, .int .i64 yyu, .int .i64 yyc, .int .i64 yya] rfl rfl (37 : TypeId) _ (heap_alloc_new w1 _) (by kernel_rfl) rfl (by simp [Value.oneCell']) ?_; rw [setRow_alloc]) | (refine wpList_load_row rfl (37 : TypeId) _ rfl (w.heap.size + 1) rfl (37 : TypeId) _ (0, 0) _ hG2a Try.underlying37 rfl (by kernel_rfl) ?_) | (refine wpList_store_row rfl (37 : TypeId) _ _ rfl w.heap.size #[.int .u8 0, .string ⟨#[]⟩, .string ⟨#[]⟩, .int .i64 0, .slice none 0 0, .string ⟨#[]⟩, .int .i64 0, .int .i64 0, .int .i64 0, .int .i64 0, .int .i64 0] rfl rfl (37 : TypeId) _ hG1a (by kernel_rfl) rfl (by simp [Value.oneCell']) ?_))
    refine bodyPost_ret (v := .tuple #[.agg #[.int .u8 0, .string ⟨#[]⟩, .string ⟨#[]⟩, .int .i64 0, .slice none 0 0, .string ⟨#[]⟩, .int .i64 0, .int .i64 0, .int .i64 0, .int .i64 0, .int .i64 0], .int .i64 60]) (results_cell_tmp Try.results26 _ _ w.heap.size (37 : TypeId) _ (0, 0) _ _ rfl rfl HRE.out Try.underlying37 rfl (by kernel_rfl)) rfl ?_
    exact HE.out
  | some q =>
    obtain ⟨x, t⟩ := q
    rw [Cod.nx_some hg] at c2 hs
    have ht := hs t rfl
    have hxl := HFIN.out x (Cod.vl_some hg)
    rw [hg] at hgot
    by_cases hkn2 : k = n
    · have ht0 : t = [] := by rw [ht]; exact List.drop_eq_nil_of_le (by omega)
      subst ht0
      have HE := hide (GMetaC.yes hgot hbS hxl)
      have hnn : ((k : Int) != (n : Int)) = false := by simp [hkn2]
      subst hkn2
      clear hbE hbS hxl
      have hnn2 : ((k : Int) != (k : Int)) = false := by simp
      go_wp2_with (first | (refine wpList_store_row rfl (37 : TypeId) _ _ rfl w1.heap.size #[.int .u8 yyk, .string yyg, .string yym, .int .i64 yyn, .slice yyla yyln yylc, .string yyqt, .int .i64 yyqp, .int .i64 yyo, .int .i64 yyu, .int .i64 yyc, .int .i64 yya] rfl rfl (37 : TypeId) _ (heap_alloc_new w1 _) (by kernel_rfl) rfl (by simp [Value.oneCell']) ?_; rw [setRow_alloc]) | (refine wpList_load_row rfl (37 : TypeId) _ rfl w1.heap.size rfl (37 : TypeId) _ (0, 0) _ hG3a Try.underlying37 rfl (by kernel_rfl) ?_) | (refine wpList_store_row rfl (37 : TypeId) _ _ rfl w.heap.size #[.int .u8 yyk, .string yyg, .string yym, .int .i64 yyn, .slice yyla yyln yylc, .string yyqt, .int .i64 yyqp, .int .i64 yyo, .int .i64 yyu, .int .i64 yyc, .int .i64 yya] rfl rfl (37 : TypeId) _ hG1a (by kernel_rfl) rfl (by simp [Value.oneCell']) ?_))
      refine bodyPost_ret (v := .tuple #[.agg #[.int .u8 yyk, .string yyg, .string yym, .int .i64 yyn, .slice yyla yyln yylc, .string yyqt, .int .i64 yyqp, .int .i64 yyo, .int .i64 yyu, .int .i64 yyc, .int .i64 yya], .int .i64 0]) (results_cell_tmp Try.results26 _ _ w.heap.size (37 : TypeId) _ (0, 0) _ _ rfl rfl HRS.out Try.underlying37 rfl (by kernel_rfl)) rfl ?_
      exact HE.out
    · have htn : t ≠ [] := by
        intro e
        have := congrArg List.length ht
        rw [e, List.length_drop, List.length_nil] at this
        omega
      have hgot2 : Cod.got Cod.meta' 2 60000 zs = none := by
        rw [hgot]
        cases t with
        | nil => exact absurd rfl htn
        | cons z t => rfl
      have HE := hide (GMetaC.no hgot2 hbE)
      have hnn : ((k : Int) != (n : Int)) = true := by simp; omega
      clear hbE hbS hxl
      go_wp2_with (first | (refine wpList_store_row rfl (37 : TypeId) _ _ rfl w1.heap.size #[.int .u8 yyk, .string yyg, .string yym, .int .i64 yyn, .slice yyla yyln yylc, .string yyqt, .int .i64 yyqp, .int .i64 yyo, .int .i64 yyu, .int .i64 yyc, .int .i64 yya] rfl rfl (37 : TypeId) _ (heap_alloc_new w1 _) (by kernel_rfl) rfl (by simp [Value.oneCell']) ?_; rw [setRow_alloc]) | (refine wpList_load_row rfl (37 : TypeId) _ rfl (w.heap.size + 1) rfl (37 : TypeId) _ (0, 0) _ hG2a Try.underlying37 rfl (by kernel_rfl) ?_) | (refine wpList_store_row rfl (37 : TypeId) _ _ rfl w.heap.size #[.int .u8 0, .string ⟨#[]⟩, .string ⟨#[]⟩, .int .i64 0, .slice none 0 0, .string ⟨#[]⟩, .int .i64 0, .int .i64 0, .int .i64 0, .int .i64 0, .int .i64 0] rfl rfl (37 : TypeId) _ hG1a (by kernel_rfl) rfl (by simp [Value.oneCell']) ?_))
      refine bodyPost_ret (v := .tuple #[.agg #[.int .u8 0, .string ⟨#[]⟩, .string ⟨#[]⟩, .int .i64 0, .slice none 0 0, .string ⟨#[]⟩, .int .i64 0, .int .i64 0, .int .i64 0, .int .i64 0, .int .i64 0], .int .i64 60]) (results_cell_tmp Try.results26 _ _ w.heap.size (37 : TypeId) _ (0, 0) _ _ rfl rfl HRE.out Try.underlying37 rfl (by kernel_rfl)) rfl ?_
      exact HE.out

set_option maxHeartbeats 2000000 in
theorem getMeta_any (a : Option Addr) (hB : Bs w a n cap zs) : Calls Try.prog 7 #[.slice a n cap] w (GMetaC w zs) := by
  have hC : Calls Try.prog 26 #[.int .u8 2, .int .i64 60000, .slice a n cap, .func (.func 27) #[] #[]] (w.alloc (.cells #[.int .u8 0, .string ⟨#[]⟩, .string ⟨#[]⟩, .int .i64 0, .slice none 0 0, .string ⟨#[]⟩, .int .i64 0, .int .i64 0, .int .i64 0, .int .i64 0, .int .i64 0] (37 : TypeId))) (GMetaC (w.alloc (.cells #[.int .u8 0, .string ⟨#[]⟩, .string ⟨#[]⟩, .int .i64 0, .slice none 0 0, .string ⟨#[]⟩, .int .i64 0, .int .i64 0, .int .i64 0, .int .i64 0, .int .i64 0] (37 : TypeId))) zs) := by
    have hB1 := hB.keep (fresh w (.cells #[.int .u8 0, .string ⟨#[]⟩, .string ⟨#[]⟩, .int .i64 0, .slice none 0 0, .string ⟨#[]⟩, .int .i64 0, .int .i64 0, .int .i64 0, .int .i64 0, .int .i64 0] (37 : TypeId)))
    by_cases hno : n = 0 ∨ 60000 < n ∨ zs.getD 0 0 ≠ 2
    · exact getMeta_no a hB1 hno
    · have h1 : n ≠ 0 := fun h => hno (.inl h)
      have h2 : n ≤ 60000 := Nat.le_of_not_lt fun h => hno (.inr (.inl h))
      have h3 : zs.getD 0 0 = 2 := Classical.byContradiction fun h => hno (.inr (.inr h))
      obtain ⟨B, O, rfl, _⟩ := hB1.lies (by omega)
      exact getMeta_in hB1 (by omega) h2 h3
  have HC := hide hC
  have hbox := heap_alloc_new w (.cells #[.int .u8 0, .string ⟨#[]⟩, .string ⟨#[]⟩, .int .i64 0, .slice none 0 0, .string ⟨#[]⟩, .int .i64 0, .int .i64 0, .int .i64 0, .int .i64 0, .int .i64 0] (37 : TypeId))
  clear hC
  go_enter Try.func7, Try.ntmps7
  go_wp2_with fail
  refine HC.out.mono ?_
  rintro e w1 ⟨hb, hm⟩
  have hbw : Below w.heap.size w w1 := (fresh w _).trans (hb.mono (by simp))
  have hG := (hb.block _ (hp_lt hbox)).trans hbox
  cases hg : Cod.got Cod.meta' 2 60000 zs with
  | none =>
    rw [hg] at hm
    subst hm
    have HE := hide (GMetaC.no hg (below_setRow hbw (Nat.le_refl _) #[.int .u8 0, .string ⟨#[]⟩, .string ⟨#[]⟩, .int .i64 0, .slice none 0 0, .string ⟨#[]⟩, .int .i64 0, .int .i64 0, .int .i64 0, .int .i64 0, .int .i64 0]))
    have HR := hide (setRow_heap w1 w.heap.size _ #[.int .u8 0, .string ⟨#[]⟩, .string ⟨#[]⟩, .int .i64 0, .slice none 0 0, .string ⟨#[]⟩, .int .i64 0, .int .i64 0, .int .i64 0, .int .i64 0, .int .i64 0] _ _ hG)
    clear hbw hb HC
    go_wp2_with (refine wpList_store_row rfl (37 : TypeId) _ _ rfl w.heap.size #[.int .u8 0, .string ⟨#[]⟩, .string ⟨#[]⟩, .int .i64 0, .slice none 0 0, .string ⟨#[]⟩, .int .i64 0, .int .i64 0, .int .i64 0, .int .i64 0, .int .i64 0] rfl rfl (37 : TypeId) _ hG (by kernel_rfl) rfl (by simp [Value.oneCell']) ?_)
    refine bodyPost_ret (v := .tuple #[.agg #[.int .u8 0, .string ⟨#[]⟩, .string ⟨#[]⟩, .int .i64 0, .slice none 0 0, .string ⟨#[]⟩, .int .i64 0, .int .i64 0, .int .i64 0, .int .i64 0, .int .i64 0], .int .i64 60]) (results_cell_tmp Try.results7 _ _ w.heap.size (37 : TypeId) _ (0, 0) _ _ rfl rfl HR.out Try.underlying37 rfl (by kernel_rfl)) rfl ?_
    exact HE.out
  | some x =>
    rw [hg] at hm
    obtain ⟨yyk, yyg, yym, yyn, yyla, yyln, yylc, yyqt, yyqp, yyo, yyu, yyc, yya, rfl, hl⟩ := hm
    have HE := hide (GMetaC.yes hg (below_setRow hbw (Nat.le_refl _) #[.int .u8 yyk, .string yyg, .string yym, .int .i64 yyn, .slice yyla yyln yylc, .string yyqt, .int .i64 yyqp, .int .i64 yyo, .int .i64 yyu, .int .i64 yyc, .int .i64 yya]) (LMetaC.k (37 : TypeId) _ _ _ _ (by decide) (Kt.row1 hG) hl))
    have HR := hide (setRow_heap w1 w.heap.size _ #[.int .u8 yyk, .string yyg, .string yym, .int .i64 yyn, .slice yyla yyln yylc, .string yyqt, .int .i64 yyqp, .int .i64 yyo, .int .i64 yyu, .int .i64 yyc, .int .i64 yya] _ _ hG)
    clear hbw hb HC hl
    go_wp2_with (refine wpList_store_row rfl (37 : TypeId) _ _ rfl w.heap.size #[.int .u8 yyk, .string yyg, .string yym, .int .i64 yyn, .slice yyla yyln yylc, .string yyqt, .int .i64 yyqp, .int .i64 yyo, .int .i64 yyu, .int .i64 yyc, .int .i64 yya] rfl rfl (37 : TypeId) _ hG (by kernel_rfl) rfl (by simp [Value.oneCell']) ?_)
    refine bodyPost_ret (v := .tuple #[.agg #[.int .u8 yyk, .string yyg, .string yym, .int .i64 yyn, .slice yyla yyln yylc, .string yyqt, .int .i64 yyqp, .int .i64 yyo, .int .i64 yyu, .int .i64 yyc, .int .i64 yya], .int .i64 0]) (results_cell_tmp Try.results7 _ _ w.heap.size (37 : TypeId) _ (0, 0) _ _ rfl rfl HR.out Try.underlying37 rfl (by kernel_rfl)) rfl ?_
    exact HE.out

end

end Go.Proofs.Ytnimfkcnkkjlkaa

/-
  The program's reader: entries.
-/
namespace Go.Proofs.Ytnimfkcnkkjlkaa
open Go.RowKit
set_option maxRecDepth 100000
set_option linter.unusedVariables false

section
variable {Wb w w' : World} {R B O n cap : Nat} {zs : List Int} {s : Option (List Int)}

/-- What was read. -/
def PEntry (Wb : World) (R B O n cap : Nat) (zs : List Int) (s : Option (List Int)) (w : World) (e : Ending) (w' : World) : Prop :=
  ∃ (zt : Int) (zxa : Option Addr) (zxn zxc : Nat), e = .returned (.agg #[.int .i64 zt, .slice zxa zxn zxc]) ∧ Pst Cod.entry LEntry [.int .i64 zt, .slice zxa zxn zxc] Wb R B O n cap zs s w w'

set_option maxHeartbeats 4000000 in
theorem rentry_end {W0 wz : World} {y0_0 : Int} {y1_0 : Option Addr} {y1_1 y1_2 : Nat} (hA : Acc (Cod.pair (Cod.pair Cod.unit Cod.i64) Cod.data) (fun V q => (fun V q => (fun _ _ => True) V q.1 ∧ LI64 V q.2 [.int .i64 y0_0]) V q.1 ∧ LBy V q.2 [.slice y1_0 y1_1 y1_2]) Wb R B O n cap zs s W0 wz) (hbx : W0.heap[w.heap.size]? = some (.cells #[.int .i64 0, .slice none 0 0] (41 : TypeId) (0, 0))) (hk0 : Kt (107 : TypeId) w W0) (hRl : R < w.heap.size) (hWs : Wb.heap.size ≤ w.heap.size) :
    ((wz.setCell ⟨w.heap.size, 0, none⟩ (.int .i64 y0_0)).setCell ⟨w.heap.size, 1, none⟩ (.slice y1_0 y1_1 y1_2)).heap[w.heap.size]? = some (.cells #[.int .i64 y0_0, .slice y1_0 y1_1 y1_2] (41 : TypeId) (0, 0)) ∧ Pst Cod.entry LEntry [.int .i64 y0_0, .slice y1_0 y1_1 y1_2] Wb R B O n cap zs s w ((wz.setCell ⟨w.heap.size, 0, none⟩ (.int .i64 y0_0)).setCell ⟨w.heap.size, 1, none⟩ (.slice y1_0 y1_1 y1_2)) := by
  have hG := hA.kt.block _ _ _ _ hbx (by decide)
  have e0 : (wz.setCell ⟨w.heap.size, 0, none⟩ (.int .i64 y0_0)).heap[w.heap.size]? = some (.cells #[.int .i64 y0_0, .slice none 0 0] (41 : TypeId) (0, 0)) := heap_setCell_same _ (w.heap.size) 0 _ (41 : TypeId) (.int .i64 y0_0) hG
  have e1 : ((wz.setCell ⟨w.heap.size, 0, none⟩ (.int .i64 y0_0)).setCell ⟨w.heap.size, 1, none⟩ (.slice y1_0 y1_1 y1_2)).heap[w.heap.size]? = some (.cells #[.int .i64 y0_0, .slice y1_0 y1_1 y1_2] (41 : TypeId) (0, 0)) := heap_setCell_same _ (w.heap.size) 1 _ (41 : TypeId) (.slice y1_0 y1_1 y1_2) e0
  refine ⟨e1, ?_⟩
  have hbV : Below w.heap.size wz ((wz.setCell ⟨w.heap.size, 0, none⟩ (.int .i64 y0_0)).setCell ⟨w.heap.size, 1, none⟩ (.slice y1_0 y1_1 y1_2)) := (((Below.refl w.heap.size wz).setCell (by simp) (.int .i64 y0_0)).setCell (by simp) (.slice y1_0 y1_1 y1_2))
  have hkT : Kt (41 : TypeId) wz ((wz.setCell ⟨w.heap.size, 0, none⟩ (.int .i64 y0_0)).setCell ⟨w.heap.size, 1, none⟩ (.slice y1_0 y1_1 y1_2)) := ((Kt.set hG (.int .i64 y0_0)).trans (Kt.set e0 (.slice y1_0 y1_1 y1_2)))
  have hrs := hA.rs
  simp only [Cod.nx_pair, Cod.nx_unit] at hrs
  refine ⟨?_, (hk0.trans hA.kt).low hbV, fun y hy => ?_⟩
  · have := hrs.low2 hbV hRl hWs
    simpa only [Cod.entry, Cod.nx_iso, Cod.nx_pair] using this
  · obtain ⟨q, hq, rfl⟩ := Cod.vl_iso.1 hy
    obtain ⟨p0, hq⟩ := Cod.vl_pair.1 hq
    have p1 := hq
    have hv := hA.vl (((), q.1), q.2) (by simp only [Cod.vl_pair, Cod.nx_pair, Cod.nx_unit, Cod.vl_unit]; exact ⟨⟨Cod.vl_left p0, p0⟩, p1⟩)
    obtain ⟨⟨_, v0⟩, v1⟩ := hv
    exact LEntry.k (41 : TypeId) wz _ _ _ (by decide) hkT ⟨_, _, rfl, v0, v1⟩

set_option maxHeartbeats 40000000 in
theorem rentry_any (X : Nat) (hv : Rv w X R) (hB : Bs Wb (some ⟨B, O, none⟩) n cap zs) (hn : n ≤ 100000) (h : Rs Wb R B O n cap zs s w) :
    Calls Try.prog 71 #[.pointer (some ⟨X, 0, none⟩)] w (PEntry Wb R B O n cap zs s w) := by
  have hWs := h.low.size
  have hRl : R < w.heap.size := by
    obtain ⟨_, _, e2, _⟩ := h.is
    exact hp_lt e2
  obtain ⟨W0, HW⟩ : ∃ W0, Hid (W0 = (w.alloc (.cells #[.int .i64 0, .slice none 0 0] (41 : TypeId)))) := ⟨_, hide rfl⟩
  have hbox : W0.heap[w.heap.size]? = some (.cells #[.int .i64 0, .slice none 0 0] (41 : TypeId) (0, 0)) := by rw [HW.out]; exact heap_alloc_new w _
  have hk0 : Kt (107 : TypeId) w W0 := by rw [HW.out]; exact Kt.of_below (fresh w _)
  have hA0 : Acc Cod.unit (fun _ _ => True) Wb R B O n cap zs s W0 W0 := Acc.start (by rw [HW.out]; exact h.alloc _)
  have HV : Hid (∀ V, Kt (107 : TypeId) W0 V → Rv V X R) := hide fun V k => (hv.keep hk0 (by decide)).keep k (by decide)
  have HBX := hide hbox
  have HK0 := hide hk0
  have hA := hA0.drew
  clear h hbox hk0 hA0 hv
  go_enter Try.func71, Try.ntmps71
  go_wp2_with fail
  rw [← HW.out]
  have hGX : X ≠ w.heap.size := by
    have := hp_lt (HV.out W0 (Kt.refl _ _))
    intro e
    have h1 := HBX.out
    have h2 := HV.out W0 (Kt.refl _ _)
    unfold Rv at h2
    rw [e, h1] at h2
    simp at h2
  have HS : Hid (∀ (V : World) (i : Nat) (x : Value), V.cell? ⟨X, 0, none⟩ = some (.pointer (some ⟨R, 0, none⟩)) → (V.setCell ⟨w.heap.size, i, none⟩ x).cell? ⟨X, 0, none⟩ = some (.pointer (some ⟨R, 0, none⟩))) := hide fun V i x hc => (World.cell?_of_block (Below.heap_setCell V ⟨w.heap.size, i, none⟩ x _ hGX)).trans hc
  have hI0 : True := trivial
  go_region_held3 (fun V => V.cell? ⟨X, 0, none⟩ = some (.pointer (some ⟨R, 0, none⟩)))
    (first | ((repeat (with_reducible refine HS.out _ _ _ ?_)); exact (HV.out _ hA.kt).cell))
    (first
      | (go_at_call 59; clear hI0; refine (rnint_any hB hn hA.rs).mono ?_; rintro e w1 ⟨y0_0, rfl, hp⟩; have hI1 : True := trivial; replace hA := hA.step hp LI64.k (by decide))
      | (go_at_call 72; clear hI1; refine (rbytes_sl hB hn hA.rs).mono ?_; rintro e w2 ⟨y1_0, y1_1, y1_2, rfl, hp⟩; have hI2 : True := trivial; replace hA := hA.step hp LBy.k (by decide); have g0 := (row_facts (hA.kt.block _ _ _ _ HBX.out (by decide)) 0 _ rfl).1; have f0 := (row_facts (hA.kt.block _ _ _ _ HBX.out (by decide)) 0 _ rfl).2; have g1 := (row_facts (hA.kt.block _ _ _ _ HBX.out (by decide)) 1 _ rfl).1; have f1 := (row_facts (hA.kt.block _ _ _ _ HBX.out (by decide)) 1 _ rfl).2))
  all_goals
    go_split_ands
    have HEND := hide (rentry_end hA HBX.out HK0.out hRl hWs)
    clear hA
    go_wp2_with fail
    refine bodyPost_ret (v := .agg #[.int .i64 y0_0, .slice y1_0 y1_1 y1_2]) (results_cell_row Try.results71 _ _ (w.heap.size) (41 : TypeId) _ (0, 0) _ rfl HEND.out.1 Try.underlying41 rfl (by kernel_rfl)) rfl ?_
    exact ⟨_, _, _, _, rfl, HEND.out.2⟩

theorem infoEntry : (Try.prog.info? (41 : TypeId)).map (fun i => (i.zero, i.size, i.bytes)) = some (some (.agg #[.int .i64 0, .slice none 0 0]), 2, 32) := by kernel_rfl

set_option maxHeartbeats 4000000 in
theorem rlentry_any (X : Nat) (hv : Rv w X R) (hB : Bs Wb (some ⟨B, O, none⟩) n cap zs) (hn : n ≤ 100000) (h : Rs Wb R B O n cap zs s w) :
    Calls Try.prog 70 #[.pointer (some ⟨R, 0, none⟩), .func (.func 71) #[] #[.pointer (some ⟨X, 0, none⟩)]] w (Psl (Cod.list Cod.entry) LEnts Wb R B O n cap zs s w) := by
  obtain ⟨i1, hi', hy0, hy1, hy2⟩ := info_parts infoEntry
  have HWL := hide h.low.size
  have hby := h.byte hB
  have HV := hide hv
  clear hv
  go_enter Try.func70, Try.ntmps70
  go_wp2_with fail
  refine (rsize_any hB hn h).mono ?_
  rintro e w1 ⟨m, rfl, hmn, hS, hk, hm⟩
  have HK := hide hk
  cases hnx : Cod.nx Cod.cnt s with
  | none =>
    obtain ⟨e1, e2⟩ := list_wrong Cod.entry_law Cod.entry_much (fun l hl => (hby l hl).1) hnx
    have hm0 : m = 0 := by
      rw [hm]
      cases s with
      | none => rfl
      | some l =>
        cases e : Cod.cnt.get l with
        | none => rw [Cod.vl_bad e]; rfl
        | some q => rw [Cod.nx_some (a := q.1) (t := q.2) e] at hnx; cases hnx
    rw [hnx] at hS
    have HE : Hid (Pst (Cod.list Cod.entry) LEnts [.slice none 0 0] Wb R B O n cap zs s w w1) := hide ⟨by rw [e1]; exact hS, hk, fun y hy => by rw [e2] at hy; cases hy⟩
    clear hS hk h hm hby
    subst hm0
    go_wp2_with fail
    go_loopw [5, 8] (fun u i wr => u = .slice none 0 0 ∧ i = .int .i64 0 ∧ wr = w1) (fun _ _ _ => 0)
    case atStart => exact ⟨rfl, rfl, rfl⟩
    case round =>
      obtain ⟨rfl, rfl, rfl⟩ := hrel
      go_wp2_with fail
      go_ret
      exact ⟨_, _, _, rfl, HE.out⟩
  | some t =>
    rw [hnx] at hS
    obtain ⟨E1, E2⟩ := list_right Cod.entry_law Cod.entry_much (fun l hl => (hby l hl).1) hnx hm
    have HE1 := hide E1
    have HE2 := hide E2
    have H1 := hide hS
    clear hS hk h hm hby E1 E2 hnx
    go_wp2_with fail
    go_loopw [5, 8] (fun u i wr => ∃ (k : Nat) (r : List (Cod.Entry)) (t' : List Int), k ≤ m ∧ i = .int .i64 k ∧ Cod.gets Cod.entry k t = some (r, t') ∧ Hid (Rs Wb R B O n cap zs (some t') wr ∧ Kt (107 : TypeId) w wr ∧ Tk (41 : TypeId) 2 LEntry w.heap.size r u wr)) (fun _ i _ => m - (intOf i).toNat)
    case atStart => exact ⟨0, [], t, Nat.zero_le _, rfl, rfl, hide ⟨H1.out, HK.out, Tk.nil _⟩⟩
    case round =>
      obtain ⟨k, r, t', hkm, rfl, hg, hH⟩ := hrel
      obtain ⟨ua, ud, rfl⟩ := hH.out.2.2.val
      have hrl := Cod.gets_len k t r t' hg
      by_cases hlt : k < m
      · have j1 : (k : Int) < (m : Int) := by omega
        have j2 : (0 : Int) ≤ (k : Int) := by omega
        have hv := HV.out.keep hH.out.2.1 (by decide)
        have HC := hide (rentry_any X hv hB hn hH.out.1)
        clear hv
        go_wp2_with fail
        refine HC.out.mono ?_
        rintro e w2 ⟨zt, zxa, zxn, zxc, rfl, h2, k2, l2⟩
        have hW0 := HWL.out
        have hT2 := (hH.out.2.2.keep LEntry.k k2 (by decide) (by decide)).keep LEntry.k (Kt.of_below (t := 0) (fresh w2 (.cells #[.int .i64 zt, .slice zxa zxn zxc] (41 : TypeId)))) (by decide) (by decide)
        have hk2 := (hH.out.2.1.trans k2).trans (Kt.of_below (fresh w2 (.cells #[.int .i64 zt, .slice zxa zxn zxc] (41 : TypeId))))
        have hl2 : ∀ y, Cod.vl Cod.entry (some t') = some y → LEntry (w2.alloc (.cells #[.int .i64 zt, .slice zxa zxn zxc] (41 : TypeId))) y [.int .i64 zt, .slice zxa zxn zxc] := fun y hy => LEntry.k.below (l2 y hy) (fresh w2 _)
        obtain ⟨xs, hox, hxx⟩ := hT2.more LEntry.k (by decide) (by decide) (h2.alloc _) hk2 hW0 [.int .i64 zt, .slice zxa zxn zxc]
        rw [hrl] at hox hxx
        have hbs := hk2.size
        rw [World.size_alloc] at hbs
        have HXX := hide hxx
        have HL2 := hide hl2
        have HOX := hide hox
        have hnw := World.news_of_block (heap_alloc_new w2 (.cells #[.int .i64 zt, .slice zxa zxn zxc] (41 : TypeId)))
        have HNW := hide hnw
        clear hT2 hk2 hl2 hxx hox hnw h2 k2 l2 HC
        cases eg : (Cod.entry).get t' with
        | none =>
          rw [Cod.nx_bad eg] at HXX
          have hend : Cod.gets Cod.entry m t = none := Cod.gets_stop (n := k + 1) (by omega) t (by rw [Cod.gets_snoc, hg]; simp [eg])
          obtain ⟨e1, e2⟩ := HE2.out hend
          go_wp2_with (at_builtin; refine wpList_append_own _ rfl (.tmp 10) (.tmp 13) (42 : TypeId) rfl w.heap.size (41 : TypeId) i1 (.agg #[.int .i64 0, .slice none 0 0]) 2 32 Try.underlying42 hi' hy0 hy1 hy2 rfl (by omega) _ k xs (by rfl) HOX.out ⟨w2.heap.size, 0, none⟩ 1 1 [.int .i64 zt, .slice zxa zxn zxc] (by rfl) rfl HNW.out (by simp [Value.oneCell']) (by unfold maxLen; omega) (by omega) (by simp; omega) ?_; intro v6 w6 ho6 hg6 hn6; clear hn6; obtain ⟨⟨a6, d6, rfl⟩, hS6, hK6, hT6⟩ := HXX.out _ w6 ho6 hg6; clear ho6 hg6; have q2 := hS6.flag; have HS6 := hide hS6; have HK6 := hide hK6; have HT6 := hide hT6; clear hS6 hK6 hT6)
          go_ret
          exact ⟨_, _, _, rfl, by rw [e1]; exact HS6.out, HK6.out, fun y hy => by rw [e2] at hy; cases hy⟩
        | some q =>
          obtain ⟨x, t2⟩ := q
          rw [Cod.nx_some eg] at HXX
          have hg2 : Cod.gets Cod.entry (k + 1) t = some (r ++ [x], t2) := by rw [Cod.gets_snoc, hg]; simp [eg]
          go_wp2_with (at_builtin; refine wpList_append_own _ rfl (.tmp 10) (.tmp 13) (42 : TypeId) rfl w.heap.size (41 : TypeId) i1 (.agg #[.int .i64 0, .slice none 0 0]) 2 32 Try.underlying42 hi' hy0 hy1 hy2 rfl (by omega) _ k xs (by rfl) HOX.out ⟨w2.heap.size, 0, none⟩ 1 1 [.int .i64 zt, .slice zxa zxn zxc] (by rfl) rfl HNW.out (by simp [Value.oneCell']) (by unfold maxLen; omega) (by omega) (by simp; omega) ?_; intro v6 w6 ho6 hg6 hn6; clear hn6; obtain ⟨⟨a6, d6, rfl⟩, hS6, hK6, hT6⟩ := HXX.out _ w6 ho6 hg6; clear ho6 hg6; have q2 := hS6.flag; have HS6 := hide hS6; have HK6 := hide hK6; have HT6 := hide hT6; clear hS6 hK6 hT6)
          go_roundw
          case rel => exact ⟨k + 1, r ++ [x], t2, by omega, by go_num, hg2, hide ⟨HS6.out, HK6.out, HT6.out x (HL2.out x (Cod.vl_some eg)) rfl⟩⟩
          case measure => simp [intOf]; omega
      · obtain rfl : k = m := by omega
        obtain ⟨e1, e2⟩ := HE1.out r t' hg
        have HF : Hid (Pst (Cod.list Cod.entry) LEnts [.slice ua r.length ud] Wb R B O n cap zs s w wr) := hide ⟨by rw [e1]; exact hH.out.1, hH.out.2.1, fun y hy => by rw [e2] at hy; cases hy; exact hH.out.2.2.lay⟩
        clear hH hg
        go_wp2_with fail
        go_ret
        exact ⟨_, _, _, rfl, HF.out⟩

end

end Go.Proofs.Ytnimfkcnkkjlkaa

/-
  The program's reader: messages of nodes.
-/
namespace Go.Proofs.Ytnimfkcnkkjlkaa
open Go.RowKit
set_option maxRecDepth 100000
set_option linter.unusedVariables false

section
variable {Wb w w' : World} {R B O n cap : Nat} {zs : List Int} {s : Option (List Int)}

/-- What was read. -/
def PRaft (Wb : World) (R B O n cap : Nat) (zs : List Int) (s : Option (List Int)) (w : World) (e : Ending) (w' : World) : Prop :=
  ∃ (zg : ByteArray) (zk : Int) (zf : Int) (zt : Int) (zm : Int) (zi : Int) (zo : Int) (zc : Int) (zr : Int) (zx : Bool) (zla : Option Addr) (zln zlc : Nat) (zya : Option Addr) (zyn zyc : Nat), e = .returned (.agg #[.string zg, .int .u8 zk, .int .i64 zf, .int .i64 zt, .int .i64 zm, .int .i64 zi, .int .i64 zo, .int .i64 zc, .int .i64 zr, .bool zx, .slice zla zln zlc, .slice zya zyn zyc]) ∧ Pst Cod.raft LRaft [.string zg, .int .u8 zk, .int .i64 zf, .int .i64 zt, .int .i64 zm, .int .i64 zi, .int .i64 zo, .int .i64 zc, .int .i64 zr, .bool zx, .slice zla zln zlc, .slice zya zyn zyc] Wb R B O n cap zs s w w'

set_option maxHeartbeats 4000000 in
theorem rraft_end {W0 wz : World} {y0_0 : ByteArray} {y1_0 : Int} {y2_0 : Int} {y3_0 : Int} {y4_0 : Int} {y5_0 : Int} {y6_0 : Int} {y7_0 : Int} {y8_0 : Int} {y9_0 : Bool} {y10_0 : Option Addr} {y10_1 y10_2 : Nat} {y11_0 : Option Addr} {y11_1 y11_2 : Nat} (hA : Acc (Cod.pair (Cod.pair (Cod.pair (Cod.pair (Cod.pair (Cod.pair (Cod.pair (Cod.pair (Cod.pair (Cod.pair (Cod.pair (Cod.pair Cod.unit Cod.data) Cod.u8) Cod.i64) Cod.i64) Cod.i64) Cod.i64) Cod.i64) Cod.i64) Cod.i64) Cod.bool) (Cod.list Cod.entry)) Cod.data) (fun V q => (fun V q => (fun V q => (fun V q => (fun V q => (fun V q => (fun V q => (fun V q => (fun V q => (fun V q => (fun V q => (fun V q => (fun _ _ => True) V q.1 ∧ LTx V q.2 [.string y0_0]) V q.1 ∧ LU8 V q.2 [.int .u8 y1_0]) V q.1 ∧ LI64 V q.2 [.int .i64 y2_0]) V q.1 ∧ LI64 V q.2 [.int .i64 y3_0]) V q.1 ∧ LI64 V q.2 [.int .i64 y4_0]) V q.1 ∧ LI64 V q.2 [.int .i64 y5_0]) V q.1 ∧ LI64 V q.2 [.int .i64 y6_0]) V q.1 ∧ LI64 V q.2 [.int .i64 y7_0]) V q.1 ∧ LI64 V q.2 [.int .i64 y8_0]) V q.1 ∧ LBl V q.2 [.bool y9_0]) V q.1 ∧ LEnts V q.2 [.slice y10_0 y10_1 y10_2]) V q.1 ∧ LBy V q.2 [.slice y11_0 y11_1 y11_2]) Wb R B O n cap zs s W0 wz) (hbx : W0.heap[w.heap.size + 1]? = some (.cells #[.string ⟨#[]⟩, .int .u8 0, .int .i64 0, .int .i64 0, .int .i64 0, .int .i64 0, .int .i64 0, .int .i64 0, .int .i64 0, .bool false, .slice none 0 0, .slice none 0 0] (45 : TypeId) (0, 0))) (hk0 : Kt (107 : TypeId) w W0) (hRl : R < w.heap.size) (hWs : Wb.heap.size ≤ w.heap.size) :
    ((((((((((((wz.setCell ⟨w.heap.size + 1, 0, none⟩ (.string y0_0)).setCell ⟨w.heap.size + 1, 1, none⟩ (.int .u8 y1_0)).setCell ⟨w.heap.size + 1, 2, none⟩ (.int .i64 y2_0)).setCell ⟨w.heap.size + 1, 3, none⟩ (.int .i64 y3_0)).setCell ⟨w.heap.size + 1, 4, none⟩ (.int .i64 y4_0)).setCell ⟨w.heap.size + 1, 5, none⟩ (.int .i64 y5_0)).setCell ⟨w.heap.size + 1, 6, none⟩ (.int .i64 y6_0)).setCell ⟨w.heap.size + 1, 7, none⟩ (.int .i64 y7_0)).setCell ⟨w.heap.size + 1, 8, none⟩ (.int .i64 y8_0)).setCell ⟨w.heap.size + 1, 9, none⟩ (.bool y9_0)).setCell ⟨w.heap.size + 1, 10, none⟩ (.slice y10_0 y10_1 y10_2)).setCell ⟨w.heap.size + 1, 11, none⟩ (.slice y11_0 y11_1 y11_2)).heap[w.heap.size + 1]? = some (.cells #[.string y0_0, .int .u8 y1_0, .int .i64 y2_0, .int .i64 y3_0, .int .i64 y4_0, .int .i64 y5_0, .int .i64 y6_0, .int .i64 y7_0, .int .i64 y8_0, .bool y9_0, .slice y10_0 y10_1 y10_2, .slice y11_0 y11_1 y11_2] (45 : TypeId) (0, 0)) ∧ Pst Cod.raft LRaft [.string y0_0, .int .u8 y1_0, .int .i64 y2_0, .int .i64 y3_0, .int .i64 y4_0, .int .i64 y5_0, .int .i64 y6_0, .int .i64 y7_0, .int .i64 y8_0, .bool y9_0, .slice y10_0 y10_1 y10_2, .slice y11_0 y11_1 y11_2] Wb R B O n cap zs s w ((((((((((((wz.setCell ⟨w.heap.size + 1, 0, none⟩ (.string y0_0)).setCell ⟨w.heap.size + 1, 1, none⟩ (.int .u8 y1_0)).setCell ⟨w.heap.size + 1, 2, none⟩ (.int .i64 y2_0)).setCell ⟨w.heap.size + 1, 3, none⟩ (.int .i64 y3_0)).setCell ⟨w.heap.size + 1, 4, none⟩ (.int .i64 y4_0)).setCell ⟨w.heap.size + 1, 5, none⟩ (.int .i64 y5_0)).setCell ⟨w.heap.size + 1, 6, none⟩ (.int .i64 y6_0)).setCell ⟨w.heap.size + 1, 7, none⟩ (.int .i64 y7_0)).setCell ⟨w.heap.size + 1, 8, none⟩ (.int .i64 y8_0)).setCell ⟨w.heap.size + 1, 9, none⟩ (.bool y9_0)).setCell ⟨w.heap.size + 1, 10, none⟩ (.slice y10_0 y10_1 y10_2)).setCell ⟨w.heap.size + 1, 11, none⟩ (.slice y11_0 y11_1 y11_2)) := by
  have hG := hA.kt.block _ _ _ _ hbx (by decide)
  have e0 : (wz.setCell ⟨w.heap.size + 1, 0, none⟩ (.string y0_0)).heap[w.heap.size + 1]? = some (.cells #[.string y0_0, .int .u8 0, .int .i64 0, .int .i64 0, .int .i64 0, .int .i64 0, .int .i64 0, .int .i64 0, .int .i64 0, .bool false, .slice none 0 0, .slice none 0 0] (45 : TypeId) (0, 0)) := heap_setCell_same _ (w.heap.size + 1) 0 _ (45 : TypeId) (.string y0_0) hG
  have e1 : ((wz.setCell ⟨w.heap.size + 1, 0, none⟩ (.string y0_0)).setCell ⟨w.heap.size + 1, 1, none⟩ (.int .u8 y1_0)).heap[w.heap.size + 1]? = some (.cells #[.string y0_0, .int .u8 y1_0, .int .i64 0, .int .i64 0, .int .i64 0, .int .i64 0, .int .i64 0, .int .i64 0, .int .i64 0, .bool false, .slice none 0 0, .slice none 0 0] (45 : TypeId) (0, 0)) := heap_setCell_same _ (w.heap.size + 1) 1 _ (45 : TypeId) (.int .u8 y1_0) e0
  have e2 : (((wz.setCell ⟨w.heap.size + 1, 0, none⟩ (.string y0_0)).setCell ⟨w.heap.size + 1, 1, none⟩ (.int .u8 y1_0)).setCell ⟨w.heap.size + 1, 2, none⟩ (.int .i64 y2_0)).heap[w.heap.size + 1]? = some (.cells #[.string y0_0, .int .u8 y1_0, .int .i64 y2_0, .int .i64 0, .int .i64 0, .int .i64 0, .int .i64 0, .int .i64 0, .int .i64 0, .bool false, .slice none 0 0, .slice none 0 0] (45 : TypeId) (0, 0)) := heap_setCell_same _ (w.heap.size + 1) 2 _ (45 : TypeId) (.int .i64 y2_0) e1
  have e3 : ((((wz.setCell ⟨w.heap.size + 1, 0, none⟩ (.string y0_0)).setCell ⟨w.heap.size + 1, 1, none⟩ (.int .u8 y1_0)).setCell ⟨w.heap.size + 1, 2, none⟩ (.int .i64 y2_0)).setCell ⟨w.heap.size + 1, 3, none⟩ (.int .i64 y3_0)).heap[w.heap.size + 1]? = some (.cells #[.string y0_0, .int .u8 y1_0, .int .i64 y2_0, .int .i64 y3_0, .int .i64 0, .int .i64 0, .int .i64 0, .int .i64 0, .int .i64 0, .bool false, .slice none 0 0, .slice none 0 0] (45 : TypeId) (0, 0)) := heap_setCell_same _ (w.heap.size + 1) 3 _ (45 : TypeId) (.int .i64 y3_0) e2
  have e4 : (((((wz.setCell ⟨w.heap.size + 1, 0, none⟩ (.string y0_0)).setCell ⟨w.heap.size + 1, 1, none⟩ (.int .u8 y1_0)).setCell ⟨w.heap.size + 1, 2, none⟩ (.int .i64 y2_0)).setCell ⟨w.heap.size + 1, 3, none⟩ (.int .i64 y3_0)).setCell ⟨w.heap.size + 1, 4, none⟩ (.int .i64 y4_0)).heap[w.heap.size + 1]? = some (.cells #[.string y0_0, .int .u8 y1_0, .int .i64 y2_0, .int .i64 y3_0, .int .i64 y4_0, .int .i64 0, .int .i64 0, .int .i64 0, .int .i64 0, .bool false, .slice none 0 0, .slice none 0 0] (45 : TypeId) (0, 0)) := heap_setCell_same _ (w.heap.size + 1) 4 _ (45 : TypeId) (.int .i64 y4_0) e3
  have e5 : ((((((wz.setCell ⟨w.heap.size + 1, 0, none⟩ (.string y0_0)).setCell ⟨w.heap.size + 1, 1, none⟩ (.int .u8 y1_0)).setCell ⟨w.heap.size + 1, 2, none⟩ (.int .i64 y2_0)).setCell ⟨w.heap.size + 1, 3, none⟩ (.int .i64 y3_0)).setCell ⟨w.heap.size + 1, 4, none⟩ (.int .i64 y4_0)).setCell ⟨w.heap.size + 1, 5, none⟩ (.int .i64 y5_0)).heap[w.heap.size + 1]? = some (.cells #[.string y0_0, .int .u8 y1_0, .int .i64 y2_0, .int .i64 y3_0, .int .i64 y4_0, .int .i64 y5_0, .int .i64 0, .int .i64 0, .int .i64 0, .bool false, .slice none 0 0, .slice none 0 0] (45 : TypeId) (0, 0)) := heap_setCell_same _ (w.heap.size + 1) 5 _ (45 : TypeId) (.int .i64 y5_0) e4
  have e6 : (((((((wz.setCell ⟨w.heap.size + 1, 0, none⟩ (.string y0_0)).setCell ⟨w.heap.size + 1, 1, none⟩ (.int .u8 y1_0)).setCell ⟨w.heap.size + 1, 2, none⟩ (.int .i64 y2_0)).setCell ⟨w.heap.size + 1, 3, none⟩ (.int .i64 y3_0)).setCell ⟨w.heap.size + 1, 4, none⟩ (.int .i64 y4_0)).setCell ⟨w.heap.size + 1, 5, none⟩ (.int .i64 y5_0)).setCell ⟨w.heap.size + 1, 6, none⟩ (.int .i64 y6_0)).heap[w.heap.size + 1]? = some (.cells #[.string y0_0, .int .u8 y1_0, .int .i64 y2_0, .int .i64 y3_0, .int .i64 y4_0, .int .i64 y5_0, .int .i64 y6_0, .int .i64 0, .int .i64 0, .bool false, .slice none 0 0, .slice none 0 0] (45 : TypeId) (0, 0)) := heap_setCell_same _ (w.heap.size + 1) 6 _ (45 : TypeId) (.int .i64 y6_0) e5
  have e7 : ((((((((wz.setCell ⟨w.heap.size + 1, 0, none⟩ (.string y0_0)).setCell ⟨w.heap.size + 1, 1, none⟩ (.int .u8 y1_0)).setCell ⟨w.heap.size + 1, 2, none⟩ (.int .i64 y2_0)).setCell ⟨w.heap.size + 1, 3, none⟩ (.int .i64 y3_0)).setCell ⟨w.heap.size + 1, 4, none⟩ (.int .i64 y4_0)).setCell ⟨w.heap.size + 1, 5, none⟩ (.int .i64 y5_0)).setCell ⟨w.heap.size + 1, 6, none⟩ (.int .i64 y6_0)).setCell ⟨w.heap.size + 1, 7, none⟩ (.int .i64 y7_0)).heap[w.heap.size + 1]? = some (.cells #[.string y0_0, .int .u8 y1_0, .int .i64 y2_0, .int .i64 y3_0, .int .i64 y4_0, .int .i64 y5_0, .int .i64 y6_0, .int .i64 y7_0, .int .i64 0, .bool false, .slice none 0 0, .slice none 0 0] (45 : TypeId) (0, 0)) := heap_setCell_same _ (w.heap.size + 1) 7 _ (45 : TypeId) (.int .i64 y7_0) e6
  have e8 : (((((((((wz.setCell ⟨w.heap.size + 1, 0, none⟩ (.string y0_0)).setCell ⟨w.heap.size + 1, 1, none⟩ (.int .u8 y1_0)).setCell ⟨w.heap.size + 1, 2, none⟩ (.int .i64 y2_0)).setCell ⟨w.heap.size + 1, 3, none⟩ (.int .i64 y3_0)).setCell ⟨w.heap.size + 1, 4, none⟩ (.int .i64 y4_0)).setCell ⟨w.heap.size + 1, 5, none⟩ (.int .i64 y5_0)).setCell ⟨w.heap.size + 1, 6, none⟩ (.int .i64 y6_0)).setCell ⟨w.heap.size + 1, 7, none⟩ (.int .i64 y7_0)).setCell ⟨w.heap.size + 1, 8, none⟩ (.int .i64 y8_0)).heap[w.heap.size + 1]? = some (.cells #[.string y0_0, .int .u8 y1_0, .int .i64 y2_0, .int .i64 y3_0, .int .i64 y4_0, .int .i64 y5_0, .int .i64 y6_0, .int .i64 y7_0, .int .i64 y8_0, .bool false, .slice none 0 0, .slice none 0 0] (45 : TypeId) (0, 0)) := heap_setCell_same _ (w.heap.size + 1) 8 _ (45 : TypeId) (.int .i64 y8_0) e7
  have e9 : ((((((((((wz.setCell ⟨w.heap.size + 1, 0, none⟩ (.string y0_0)).setCell ⟨w.heap.size + 1, 1, none⟩ (.int .u8 y1_0)).setCell ⟨w.heap.size + 1, 2, none⟩ (.int .i64 y2_0)).setCell ⟨w.heap.size + 1, 3, none⟩ (.int .i64 y3_0)).setCell ⟨w.heap.size + 1, 4, none⟩ (.int .i64 y4_0)).setCell ⟨w.heap.size + 1, 5, none⟩ (.int .i64 y5_0)).setCell ⟨w.heap.size + 1, 6, none⟩ (.int .i64 y6_0)).setCell ⟨w.heap.size + 1, 7, none⟩ (.int .i64 y7_0)).setCell ⟨w.heap.size + 1, 8, none⟩ (.int .i64 y8_0)).setCell ⟨w.heap.size + 1, 9, none⟩ (.bool y9_0)).heap[w.heap.size + 1]? = some (.cells #[.string y0_0, .int .u8 y1_0, .int .i64 y2_0, .int .i64 y3_0, .int .i64 y4_0, .int .i64 y5_0, .int .i64 y6_0, .int .i64 y7_0, .int .i64 y8_0, .bool y9_0, .slice none 0 0, .slice none 0 0] (45 : TypeId) (0, 0)) := heap_setCell_same _ (w.heap.size + 1) 9 _ (45 : TypeId) (.bool y9_0) e8
  have e10 : (((((((((((wz.setCell ⟨w.heap.size + 1, 0, none⟩ (.string y0_0)).setCell ⟨w.heap.size + 1, 1, none⟩ (.int .u8 y1_0)).setCell ⟨w.heap.size + 1, 2, none⟩ (.int .i64 y2_0)).setCell ⟨w.heap.size + 1, 3, none⟩ (.int .i64 y3_0)).setCell ⟨w.heap.size + 1, 4, none⟩ (.int .i64 y4_0)).setCell ⟨w.heap.size + 1, 5, none⟩ (.int .i64 y5_0)).setCell ⟨w.heap.size + 1, 6, none⟩ (.int .i64 y6_0)).setCell ⟨w.heap.size + 1, 7, none⟩ (.int .i64 y7_0)).setCell ⟨w.heap.size + 1, 8, none⟩ (.int .i64 y8_0)).setCell ⟨w.heap.size + 1, 9, none⟩ (.bool y9_0)).setCell ⟨w.heap.size + 1, 10, none⟩ (.slice y10_0 y10_1 y10_2)).heap[w.heap.size + 1]? = some (.cells #[.string y0_0, .int .u8 y1_0, .int .i64 y2_0, .int .i64 y3_0, .int .i64 y4_0, .int .i64 y5_0, .int .i64 y6_0, .int .i64 y7_0, .int .i64 y8_0, .bool y9_0, .slice y10_0 y10_1 y10_2, .slice none 0 0] (45 : TypeId) (0, 0)) := heap_setCell_same _ (w.heap.size + 1) 10 _ (45 : TypeId) (.slice y10_0 y10_1 y10_2) e9
  have e11 : ((((((((((((wz.setCell ⟨w.heap.size + 1, 0, none⟩ (.string y0_0)).setCell ⟨w.heap.size + 1, 1, none⟩ (.int .u8 y1_0)).setCell ⟨w.heap.size + 1, 2, none⟩ (.int .i64 y2_0)).setCell ⟨w.heap.size + 1, 3, none⟩ (.int .i64 y3_0)).setCell ⟨w.heap.size + 1, 4, none⟩ (.int .i64 y4_0)).setCell ⟨w.heap.size + 1, 5, none⟩ (.int .i64 y5_0)).setCell ⟨w.heap.size + 1, 6, none⟩ (.int .i64 y6_0)).setCell ⟨w.heap.size + 1, 7, none⟩ (.int .i64 y7_0)).setCell ⟨w.heap.size + 1, 8, none⟩ (.int .i64 y8_0)).setCell ⟨w.heap.size + 1, 9, none⟩ (.bool y9_0)).setCell ⟨w.heap.size + 1, 10, none⟩ (.slice y10_0 y10_1 y10_2)).setCell ⟨w.heap.size + 1, 11, none⟩ (.slice y11_0 y11_1 y11_2)).heap[w.heap.size + 1]? = some (.cells #[.string y0_0, .int .u8 y1_0, .int .i64 y2_0, .int .i64 y3_0, .int .i64 y4_0, .int .i64 y5_0, .int .i64 y6_0, .int .i64 y7_0, .int .i64 y8_0, .bool y9_0, .slice y10_0 y10_1 y10_2, .slice y11_0 y11_1 y11_2] (45 : TypeId) (0, 0)) := heap_setCell_same _ (w.heap.size + 1) 11 _ (45 : TypeId) (.slice y11_0 y11_1 y11_2) e10
  refine ⟨e11, ?_⟩
  have hbV : Below w.heap.size wz ((((((((((((wz.setCell ⟨w.heap.size + 1, 0, none⟩ (.string y0_0)).setCell ⟨w.heap.size + 1, 1, none⟩ (.int .u8 y1_0)).setCell ⟨w.heap.size + 1, 2, none⟩ (.int .i64 y2_0)).setCell ⟨w.heap.size + 1, 3, none⟩ (.int .i64 y3_0)).setCell ⟨w.heap.size + 1, 4, none⟩ (.int .i64 y4_0)).setCell ⟨w.heap.size + 1, 5, none⟩ (.int .i64 y5_0)).setCell ⟨w.heap.size + 1, 6, none⟩ (.int .i64 y6_0)).setCell ⟨w.heap.size + 1, 7, none⟩ (.int .i64 y7_0)).setCell ⟨w.heap.size + 1, 8, none⟩ (.int .i64 y8_0)).setCell ⟨w.heap.size + 1, 9, none⟩ (.bool y9_0)).setCell ⟨w.heap.size + 1, 10, none⟩ (.slice y10_0 y10_1 y10_2)).setCell ⟨w.heap.size + 1, 11, none⟩ (.slice y11_0 y11_1 y11_2)) := (((((((((((((Below.refl w.heap.size wz).setCell (by simp) (.string y0_0)).setCell (by simp) (.int .u8 y1_0)).setCell (by simp) (.int .i64 y2_0)).setCell (by simp) (.int .i64 y3_0)).setCell (by simp) (.int .i64 y4_0)).setCell (by simp) (.int .i64 y5_0)).setCell (by simp) (.int .i64 y6_0)).setCell (by simp) (.int .i64 y7_0)).setCell (by simp) (.int .i64 y8_0)).setCell (by simp) (.bool y9_0)).setCell (by simp) (.slice y10_0 y10_1 y10_2)).setCell (by simp) (.slice y11_0 y11_1 y11_2))
  have hkT : Kt (45 : TypeId) wz ((((((((((((wz.setCell ⟨w.heap.size + 1, 0, none⟩ (.string y0_0)).setCell ⟨w.heap.size + 1, 1, none⟩ (.int .u8 y1_0)).setCell ⟨w.heap.size + 1, 2, none⟩ (.int .i64 y2_0)).setCell ⟨w.heap.size + 1, 3, none⟩ (.int .i64 y3_0)).setCell ⟨w.heap.size + 1, 4, none⟩ (.int .i64 y4_0)).setCell ⟨w.heap.size + 1, 5, none⟩ (.int .i64 y5_0)).setCell ⟨w.heap.size + 1, 6, none⟩ (.int .i64 y6_0)).setCell ⟨w.heap.size + 1, 7, none⟩ (.int .i64 y7_0)).setCell ⟨w.heap.size + 1, 8, none⟩ (.int .i64 y8_0)).setCell ⟨w.heap.size + 1, 9, none⟩ (.bool y9_0)).setCell ⟨w.heap.size + 1, 10, none⟩ (.slice y10_0 y10_1 y10_2)).setCell ⟨w.heap.size + 1, 11, none⟩ (.slice y11_0 y11_1 y11_2)) := ((((((((((((Kt.set hG (.string y0_0)).trans (Kt.set e0 (.int .u8 y1_0))).trans (Kt.set e1 (.int .i64 y2_0))).trans (Kt.set e2 (.int .i64 y3_0))).trans (Kt.set e3 (.int .i64 y4_0))).trans (Kt.set e4 (.int .i64 y5_0))).trans (Kt.set e5 (.int .i64 y6_0))).trans (Kt.set e6 (.int .i64 y7_0))).trans (Kt.set e7 (.int .i64 y8_0))).trans (Kt.set e8 (.bool y9_0))).trans (Kt.set e9 (.slice y10_0 y10_1 y10_2))).trans (Kt.set e10 (.slice y11_0 y11_1 y11_2)))
  have hrs := hA.rs
  simp only [Cod.nx_pair, Cod.nx_unit] at hrs
  refine ⟨?_, (hk0.trans hA.kt).low hbV, fun y hy => ?_⟩
  · have := hrs.low2 hbV hRl hWs
    simpa only [Cod.raft, Cod.nx_iso, Cod.nx_pair] using this
  · obtain ⟨q, hq, rfl⟩ := Cod.vl_iso.1 hy
    obtain ⟨p0, hq⟩ := Cod.vl_pair.1 hq
    obtain ⟨p1, hq⟩ := Cod.vl_pair.1 hq
    obtain ⟨p2, hq⟩ := Cod.vl_pair.1 hq
    obtain ⟨p3, hq⟩ := Cod.vl_pair.1 hq
    obtain ⟨p4, hq⟩ := Cod.vl_pair.1 hq
    obtain ⟨p5, hq⟩ := Cod.vl_pair.1 hq
    obtain ⟨p6, hq⟩ := Cod.vl_pair.1 hq
    obtain ⟨p7, hq⟩ := Cod.vl_pair.1 hq
    obtain ⟨p8, hq⟩ := Cod.vl_pair.1 hq
    obtain ⟨p9, hq⟩ := Cod.vl_pair.1 hq
    obtain ⟨p10, hq⟩ := Cod.vl_pair.1 hq
    have p11 := hq
    have hv := hA.vl (((((((((((((), q.1), q.2.1), q.2.2.1), q.2.2.2.1), q.2.2.2.2.1), q.2.2.2.2.2.1), q.2.2.2.2.2.2.1), q.2.2.2.2.2.2.2.1), q.2.2.2.2.2.2.2.2.1), q.2.2.2.2.2.2.2.2.2.1), q.2.2.2.2.2.2.2.2.2.2.1), q.2.2.2.2.2.2.2.2.2.2.2) (by simp only [Cod.vl_pair, Cod.nx_pair, Cod.nx_unit, Cod.vl_unit]; exact ⟨⟨⟨⟨⟨⟨⟨⟨⟨⟨⟨⟨Cod.vl_left p0, p0⟩, p1⟩, p2⟩, p3⟩, p4⟩, p5⟩, p6⟩, p7⟩, p8⟩, p9⟩, p10⟩, p11⟩)
    obtain ⟨⟨⟨⟨⟨⟨⟨⟨⟨⟨⟨⟨_, v0⟩, v1⟩, v2⟩, v3⟩, v4⟩, v5⟩, v6⟩, v7⟩, v8⟩, v9⟩, v10⟩, v11⟩ := hv
    exact LRaft.k (45 : TypeId) wz _ _ _ (by decide) hkT ⟨_, _, rfl, v0, _, _, rfl, v1, _, _, rfl, v2, _, _, rfl, v3, _, _, rfl, v4, _, _, rfl, v5, _, _, rfl, v6, _, _, rfl, v7, _, _, rfl, v8, _, _, rfl, v9, _, _, rfl, v10, v11⟩

set_option maxHeartbeats 40000000 in
theorem rraft_any (hB : Bs Wb (some ⟨B, O, none⟩) n cap zs) (hn : n ≤ 100000) (h : Rs Wb R B O n cap zs s w) :
    Calls Try.prog 34 #[.pointer (some ⟨R, 0, none⟩)] w (PRaft Wb R B O n cap zs s w) := by
  have hWs := h.low.size
  have hRl : R < w.heap.size := by
    obtain ⟨_, _, e2, _⟩ := h.is
    exact hp_lt e2
  obtain ⟨W0, HW⟩ : ∃ W0, Hid (W0 = ((w.alloc (.cells #[.pointer (some ⟨R, 0, none⟩)] (78 : TypeId))).alloc (.cells #[.string ⟨#[]⟩, .int .u8 0, .int .i64 0, .int .i64 0, .int .i64 0, .int .i64 0, .int .i64 0, .int .i64 0, .int .i64 0, .bool false, .slice none 0 0, .slice none 0 0] (45 : TypeId)))) := ⟨_, hide rfl⟩
  have hx := boxes2r w (.cells #[.pointer (some ⟨R, 0, none⟩)] (78 : TypeId)) (.cells #[.string ⟨#[]⟩, .int .u8 0, .int .i64 0, .int .i64 0, .int .i64 0, .int .i64 0, .int .i64 0, .int .i64 0, .int .i64 0, .bool false, .slice none 0 0, .slice none 0 0] (45 : TypeId))
  rw [← HW.out] at hx
  have hbox := hx.2
  have hk0 : Kt (107 : TypeId) w W0 := by rw [HW.out]; exact Kt.of_below ((fresh w _).alloc (by simp) _)
  have HV : Hid (∀ V, Kt (107 : TypeId) W0 V → Rv V w.heap.size R) := hide fun V k => k.block _ _ _ _ hx.1 (by decide)
  have hA0 : Acc Cod.unit (fun _ _ => True) Wb R B O n cap zs s W0 W0 := Acc.start (by rw [HW.out]; exact (h.alloc _).alloc _)
  have HBX := hide hbox
  have HK0 := hide hk0
  have hA := hA0.drew
  clear h hbox hk0 hA0 hx
  have hmf : ∀ (fn : Fn) (first cap : Array Value) (w : World), (Instr.makeFunc fn first cap).run Try.prog w = .ok (.func fn first cap) w := fun _ _ _ _ => rfl
  go_enter Try.func34, Try.ntmps34
  go_wp2_with fail
  rw [← HW.out]
  have hGX : w.heap.size ≠ w.heap.size + 1 := by omega
  have HS : Hid (∀ (V : World) (i : Nat) (x : Value), V.cell? ⟨w.heap.size, 0, none⟩ = some (.pointer (some ⟨R, 0, none⟩)) → (V.setCell ⟨w.heap.size + 1, i, none⟩ x).cell? ⟨w.heap.size, 0, none⟩ = some (.pointer (some ⟨R, 0, none⟩))) := hide fun V i x hc => (World.cell?_of_block (Below.heap_setCell V ⟨w.heap.size + 1, i, none⟩ x _ hGX)).trans hc
  have hI0 : True := trivial
  go_region_held3 (fun V => V.cell? ⟨w.heap.size, 0, none⟩ = some (.pointer (some ⟨R, 0, none⟩)))
    (first | ((repeat (with_reducible refine HS.out _ _ _ ?_)); exact (HV.out _ hA.kt).cell))
    (first
      | (go_at_call 58; clear hI0; refine (rtext_any hB hn hA.rs).mono ?_; rintro e w1 ⟨y0_0, rfl, hp⟩; have hI1 : True := trivial; replace hA := hA.step hp LTx.k (by decide))
      | (go_at_call 68; clear hI1; refine (rnraftkind_any hB hn hA.rs).mono ?_; rintro e w2 ⟨y1_0, rfl, hp⟩; have hI2 : True := trivial; replace hA := hA.step hp LU8.k (by decide))
      | (go_at_call 59; clear hI2; refine (rnint_any hB hn hA.rs).mono ?_; rintro e w3 ⟨y2_0, rfl, hp⟩; have hI3 : True := trivial; replace hA := hA.step hp LI64.k (by decide))
      | (go_at_call 59; clear hI3; refine (rnint_any hB hn hA.rs).mono ?_; rintro e w4 ⟨y3_0, rfl, hp⟩; have hI4 : True := trivial; replace hA := hA.step hp LI64.k (by decide))
      | (go_at_call 59; clear hI4; refine (rnint_any hB hn hA.rs).mono ?_; rintro e w5 ⟨y4_0, rfl, hp⟩; have hI5 : True := trivial; replace hA := hA.step hp LI64.k (by decide))
      | (go_at_call 59; clear hI5; refine (rnint_any hB hn hA.rs).mono ?_; rintro e w6 ⟨y5_0, rfl, hp⟩; have hI6 : True := trivial; replace hA := hA.step hp LI64.k (by decide))
      | (go_at_call 59; clear hI6; refine (rnint_any hB hn hA.rs).mono ?_; rintro e w7 ⟨y6_0, rfl, hp⟩; have hI7 : True := trivial; replace hA := hA.step hp LI64.k (by decide))
      | (go_at_call 59; clear hI7; refine (rnint_any hB hn hA.rs).mono ?_; rintro e w8 ⟨y7_0, rfl, hp⟩; have hI8 : True := trivial; replace hA := hA.step hp LI64.k (by decide))
      | (go_at_call 59; clear hI8; refine (rnint_any hB hn hA.rs).mono ?_; rintro e w9 ⟨y8_0, rfl, hp⟩; have hI9 : True := trivial; replace hA := hA.step hp LI64.k (by decide))
      | (go_at_call 69; clear hI9; refine (rflag_any hB hn hA.rs).mono ?_; rintro e w10 ⟨y9_0, rfl, hp⟩; have hI10 : True := trivial; replace hA := hA.step hp LBl.k (by decide))
      | (go_at_call 70; clear hI10; refine (rlentry_any w.heap.size (HV.out _ hA.kt) hB hn hA.rs).mono ?_; rintro e w11 ⟨y10_0, y10_1, y10_2, rfl, hp⟩; have hI11 : True := trivial; replace hA := hA.step hp LEnts.k (by decide))
      | (go_at_call 72; clear hI11; refine (rbytes_sl hB hn hA.rs).mono ?_; rintro e w12 ⟨y11_0, y11_1, y11_2, rfl, hp⟩; have hI12 : True := trivial; replace hA := hA.step hp LBy.k (by decide); have g0 := (row_facts (hA.kt.block _ _ _ _ HBX.out (by decide)) 0 _ rfl).1; have f0 := (row_facts (hA.kt.block _ _ _ _ HBX.out (by decide)) 0 _ rfl).2; have g1 := (row_facts (hA.kt.block _ _ _ _ HBX.out (by decide)) 1 _ rfl).1; have f1 := (row_facts (hA.kt.block _ _ _ _ HBX.out (by decide)) 1 _ rfl).2; have g2 := (row_facts (hA.kt.block _ _ _ _ HBX.out (by decide)) 2 _ rfl).1; have f2 := (row_facts (hA.kt.block _ _ _ _ HBX.out (by decide)) 2 _ rfl).2; have g3 := (row_facts (hA.kt.block _ _ _ _ HBX.out (by decide)) 3 _ rfl).1; have f3 := (row_facts (hA.kt.block _ _ _ _ HBX.out (by decide)) 3 _ rfl).2; have g4 := (row_facts (hA.kt.block _ _ _ _ HBX.out (by decide)) 4 _ rfl).1; have f4 := (row_facts (hA.kt.block _ _ _ _ HBX.out (by decide)) 4 _ rfl).2; have g5 := (row_facts (hA.kt.block _ _ _ _ HBX.out (by decide)) 5 _ rfl).1; have f5 := (row_facts (hA.kt.block _ _ _ _ HBX.out (by decide)) 5 _ rfl).2; have g6 := (row_facts (hA.kt.block _ _ _ _ HBX.out (by decide)) 6 _ rfl).1; have f6 := (row_facts (hA.kt.block _ _ _ _ HBX.out (by decide)) 6 _ rfl).2; have g7 := (row_facts (hA.kt.block _ _ _ _ HBX.out (by decide)) 7 _ rfl).1; have f7 := (row_facts (hA.kt.block _ _ _ _ HBX.out (by decide)) 7 _ rfl).2; have g8 := (row_facts (hA.kt.block _ _ _ _ HBX.out (by decide)) 8 _ rfl).1; have f8 := (row_facts (hA.kt.block _ _ _ _ HBX.out (by decide)) 8 _ rfl).2; have g9 := (row_facts (hA.kt.block _ _ _ _ HBX.out (by decide)) 9 _ rfl).1; have f9 := (row_facts (hA.kt.block _ _ _ _ HBX.out (by decide)) 9 _ rfl).2; have g10 := (row_facts (hA.kt.block _ _ _ _ HBX.out (by decide)) 10 _ rfl).1; have f10 := (row_facts (hA.kt.block _ _ _ _ HBX.out (by decide)) 10 _ rfl).2; have g11 := (row_facts (hA.kt.block _ _ _ _ HBX.out (by decide)) 11 _ rfl).1; have f11 := (row_facts (hA.kt.block _ _ _ _ HBX.out (by decide)) 11 _ rfl).2))
  all_goals
    go_split_ands
    have HEND := hide (rraft_end hA HBX.out HK0.out hRl hWs)
    clear hA
    go_wp2_with fail
    refine bodyPost_ret (v := .agg #[.string y0_0, .int .u8 y1_0, .int .i64 y2_0, .int .i64 y3_0, .int .i64 y4_0, .int .i64 y5_0, .int .i64 y6_0, .int .i64 y7_0, .int .i64 y8_0, .bool y9_0, .slice y10_0 y10_1 y10_2, .slice y11_0 y11_1 y11_2]) (results_cell_row Try.results34 _ _ (w.heap.size + 1) (45 : TypeId) _ (0, 0) _ rfl HEND.out.1 Try.underlying45 rfl (by kernel_rfl)) rfl ?_
    exact ⟨_, _, _, _, _, _, _, _, _, _, _, _, _, _, _, _, rfl, HEND.out.2⟩

end

end Go.Proofs.Ytnimfkcnkkjlkaa

/-
  What GetRaft answers.
-/
namespace Go.Proofs.Ytnimfkcnkkjlkaa
open Go.RowKit
set_option maxRecDepth 100000
set_option linter.unusedVariables false

section
variable {Wb w w' : World} {R B O n cap : Nat} {zs : List Int} {s : Option (List Int)}

/-- What bytes are as a thing of this kind. -/
def GRaft (w : World) (zs : List Int) (e : Ending) (w' : World) : Prop := Below w.heap.size w w' ∧ match Cod.got Cod.raft 7 65545 zs with
  | some x => ∃ (yyg : ByteArray) (yyk : Int) (yyf : Int) (yyt : Int) (yym : Int) (yyi : Int) (yyo : Int) (yyc : Int) (yyr : Int) (yyx : Bool) (yyla : Option Addr) (yyln yylc : Nat) (yyya : Option Addr) (yyyn yyyc : Nat), e = .returned (.tuple #[.agg #[.string yyg, .int .u8 yyk, .int .i64 yyf, .int .i64 yyt, .int .i64 yym, .int .i64 yyi, .int .i64 yyo, .int .i64 yyc, .int .i64 yyr, .bool yyx, .slice yyla yyln yylc, .slice yyya yyyn yyyc], .int .i64 0]) ∧ LRaft w' x [.string yyg, .int .u8 yyk, .int .i64 yyf, .int .i64 yyt, .int .i64 yym, .int .i64 yyi, .int .i64 yyo, .int .i64 yyc, .int .i64 yyr, .bool yyx, .slice yyla yyln yylc, .slice yyya yyyn yyyc]
  | none => e = .returned (.tuple #[.agg #[.string ⟨#[]⟩, .int .u8 0, .int .i64 0, .int .i64 0, .int .i64 0, .int .i64 0, .int .i64 0, .int .i64 0, .int .i64 0, .bool false, .slice none 0 0, .slice none 0 0], .int .i64 60])

theorem GRaft.no {w w' : World} {zs : List Int} (h : Cod.got Cod.raft 7 65545 zs = none) (hb : Below w.heap.size w w') : GRaft w zs (.returned (.tuple #[.agg #[.string ⟨#[]⟩, .int .u8 0, .int .i64 0, .int .i64 0, .int .i64 0, .int .i64 0, .int .i64 0, .int .i64 0, .int .i64 0, .bool false, .slice none 0 0, .slice none 0 0], .int .i64 60])) w' := ⟨hb, by rw [h]⟩
theorem GRaft.yes {w w' : World} {zs : List Int} {x : Cod.Raft} {yyg : ByteArray} {yyk : Int} {yyf : Int} {yyt : Int} {yym : Int} {yyi : Int} {yyo : Int} {yyc : Int} {yyr : Int} {yyx : Bool} {yyla : Option Addr} {yyln yylc : Nat} {yyya : Option Addr} {yyyn yyyc : Nat} (h : Cod.got Cod.raft 7 65545 zs = some x) (hb : Below w.heap.size w w') (hl : LRaft w' x [.string yyg, .int .u8 yyk, .int .i64 yyf, .int .i64 yyt, .int .i64 yym, .int .i64 yyi, .int .i64 yyo, .int .i64 yyc, .int .i64 yyr, .bool yyx, .slice yyla yyln yylc, .slice yyya yyyn yyyc]) : GRaft w zs (.returned (.tuple #[.agg #[.string yyg, .int .u8 yyk, .int .i64 yyf, .int .i64 yyt, .int .i64 yym, .int .i64 yyi, .int .i64 yyo, .int .i64 yyc, .int .i64 yyr, .bool yyx, .slice yyla yyln yylc, .slice yyya yyyn yyyc], .int .i64 0])) w' := ⟨hb, by rw [h]; exact ⟨_, _, _, _, _, _, _, _, _, _, _, _, _, _, _, _, rfl, hl⟩⟩

set_option maxHeartbeats 2000000 in
theorem getRaft_clo (hB : Bs Wb (some ⟨B, O, none⟩) n cap zs) (hn : n ≤ 100000) (h : Rs Wb R B O n cap zs s w) :
    Calls Try.prog 33 #[.pointer (some ⟨R, 0, none⟩)] w (PRaft Wb R B O n cap zs s w) := by
  have hWs := h.low.size
  have hRl : R < w.heap.size := by
    obtain ⟨_, _, e2, _⟩ := h.is
    exact hp_lt e2
  have hbox := heap_alloc_new w (.cells #[.string ⟨#[]⟩, .int .u8 0, .int .i64 0, .int .i64 0, .int .i64 0, .int .i64 0, .int .i64 0, .int .i64 0, .int .i64 0, .bool false, .slice none 0 0, .slice none 0 0] (45 : TypeId))
  have hk0 : Kt (107 : TypeId) w (w.alloc (.cells #[.string ⟨#[]⟩, .int .u8 0, .int .i64 0, .int .i64 0, .int .i64 0, .int .i64 0, .int .i64 0, .int .i64 0, .int .i64 0, .bool false, .slice none 0 0, .slice none 0 0] (45 : TypeId))) := Kt.of_below (fresh w _)
  have HC := hide (rraft_any hB hn (h.alloc (.cells #[.string ⟨#[]⟩, .int .u8 0, .int .i64 0, .int .i64 0, .int .i64 0, .int .i64 0, .int .i64 0, .int .i64 0, .int .i64 0, .bool false, .slice none 0 0, .slice none 0 0] (45 : TypeId))))
  clear h
  go_enter Try.func33, Try.ntmps33
  go_wp2_with fail
  refine HC.out.mono ?_
  rintro e w1 ⟨yyg, yyk, yyf, yyt, yym, yyi, yyo, yyc, yyr, yyx, yyla, yyln, yylc, yyya, yyyn, yyyc, rfl, h1, k1, l1⟩
  have hG := k1.block _ _ _ _ hbox (by decide)
  have HG := hide hG
  have HR := hide (setRow_heap w1 w.heap.size _ #[.string yyg, .int .u8 yyk, .int .i64 yyf, .int .i64 yyt, .int .i64 yym, .int .i64 yyi, .int .i64 yyo, .int .i64 yyc, .int .i64 yyr, .bool yyx, .slice yyla yyln yylc, .slice yyya yyyn yyyc] _ _ hG)
  have hbV : Below w.heap.size w1 (w1.setRow w.heap.size #[.string yyg, .int .u8 yyk, .int .i64 yyf, .int .i64 yyt, .int .i64 yym, .int .i64 yyi, .int .i64 yyo, .int .i64 yyc, .int .i64 yyr, .bool yyx, .slice yyla yyln yylc, .slice yyya yyyn yyyc]) := below_setRow (Below.refl _ _) (Nat.le_refl _) _
  have HE : Hid (Pst Cod.raft LRaft [.string yyg, .int .u8 yyk, .int .i64 yyf, .int .i64 yyt, .int .i64 yym, .int .i64 yyi, .int .i64 yyo, .int .i64 yyc, .int .i64 yyr, .bool yyx, .slice yyla yyln yylc, .slice yyya yyyn yyyc] Wb R B O n cap zs s w (w1.setRow w.heap.size #[.string yyg, .int .u8 yyk, .int .i64 yyf, .int .i64 yyt, .int .i64 yym, .int .i64 yyi, .int .i64 yyo, .int .i64 yyc, .int .i64 yyr, .bool yyx, .slice yyla yyln yylc, .slice yyya yyyn yyyc])) := hide ⟨h1.low2 hbV hRl hWs, (hk0.trans k1).low hbV, fun y hy => LRaft.k (45 : TypeId) w1 _ _ _ (by decide) (Kt.row1 hG) (l1 y hy)⟩
  clear h1 k1 l1 hG hbV HC hbox hk0
  go_wp2_with (refine wpList_store_row rfl (45 : TypeId) _ _ rfl w.heap.size #[.string yyg, .int .u8 yyk, .int .i64 yyf, .int .i64 yyt, .int .i64 yym, .int .i64 yyi, .int .i64 yyo, .int .i64 yyc, .int .i64 yyr, .bool yyx, .slice yyla yyln yylc, .slice yyya yyyn yyyc] rfl rfl (45 : TypeId) _ HG.out (by kernel_rfl) rfl (by simp [Value.oneCell']) ?_)
  refine bodyPost_ret (v := .agg #[.string yyg, .int .u8 yyk, .int .i64 yyf, .int .i64 yyt, .int .i64 yym, .int .i64 yyi, .int .i64 yyo, .int .i64 yyc, .int .i64 yyr, .bool yyx, .slice yyla yyln yylc, .slice yyya yyyn yyyc]) (results_cell_row Try.results33 _ _ w.heap.size (45 : TypeId) _ (0, 0) _ rfl HR.out Try.underlying45 rfl (by kernel_rfl)) rfl ?_
  exact ⟨_, _, _, _, _, _, _, _, _, _, _, _, _, _, _, _, rfl, HE.out⟩

set_option maxHeartbeats 2000000 in
theorem getRaft_no (a : Option Addr) (hB : Bs w a n cap zs) (hno : n = 0 ∨ 65545 < n ∨ zs.getD 0 0 ≠ 7) : Calls Try.prog 32 #[.int .u8 7, .int .i64 65545, .slice a n cap, .func (.func 33) #[] #[]] w (GRaft w zs) := by
  have hgot : Cod.got Cod.raft 7 65545 zs = none := got_no (by rw [hB.len]; exact hno)
  have hl := hB.len
  have hle := hB.le
  have hre := hB.reach
  obtain ⟨W, HW⟩ : ∃ W, Hid (W = ((w.alloc (.cells #[.string ⟨#[]⟩, .int .u8 0, .int .i64 0, .int .i64 0, .int .i64 0, .int .i64 0, .int .i64 0, .int .i64 0, .int .i64 0, .bool false, .slice none 0 0, .slice none 0 0] (45 : TypeId))).alloc (.cells #[.string ⟨#[]⟩, .int .u8 0, .int .i64 0, .int .i64 0, .int .i64 0, .int .i64 0, .int .i64 0, .int .i64 0, .int .i64 0, .bool false, .slice none 0 0, .slice none 0 0] (45 : TypeId)))) := ⟨_, hide rfl⟩
  have hx := boxes2r w (.cells #[.string ⟨#[]⟩, .int .u8 0, .int .i64 0, .int .i64 0, .int .i64 0, .int .i64 0, .int .i64 0, .int .i64 0, .int .i64 0, .bool false, .slice none 0 0, .slice none 0 0] (45 : TypeId)) (.cells #[.string ⟨#[]⟩, .int .u8 0, .int .i64 0, .int .i64 0, .int .i64 0, .int .i64 0, .int .i64 0, .int .i64 0, .int .i64 0, .bool false, .slice none 0 0, .slice none 0 0] (45 : TypeId))
  rw [← HW.out] at hx
  have hbW : Below w.heap.size w W := by rw [HW.out]; exact (fresh w _).alloc (by simp) _
  have HE := hide (GRaft.no hgot (below_setRow (g := w.heap.size) hbW (Nat.le_refl _) #[.string ⟨#[]⟩, .int .u8 0, .int .i64 0, .int .i64 0, .int .i64 0, .int .i64 0, .int .i64 0, .int .i64 0, .int .i64 0, .bool false, .slice none 0 0, .slice none 0 0]))
  have HR := hide (setRow_heap W w.heap.size _ #[.string ⟨#[]⟩, .int .u8 0, .int .i64 0, .int .i64 0, .int .i64 0, .int .i64 0, .int .i64 0, .int .i64 0, .int .i64 0, .bool false, .slice none 0 0, .slice none 0 0] _ _ hx.1)
  have hx1 := hx.1
  have hx2 := hx.2
  by_cases h0 : n = 0
  · subst h0
    have hz : ((0 : Int) == 0) = true := rfl
    clear hB
    rw [HW.out] at hx1 hx2 HE HR
    go_enter Try.func32, Try.ntmps32
    go_wp2_with (first | (refine wpList_load_row rfl (45 : TypeId) _ rfl (w.heap.size + 1) rfl (45 : TypeId) _ (0, 0) _ hx2 Try.underlying45 rfl (by kernel_rfl) ?_) | (refine wpList_store_row rfl (45 : TypeId) _ _ rfl w.heap.size #[.string ⟨#[]⟩, .int .u8 0, .int .i64 0, .int .i64 0, .int .i64 0, .int .i64 0, .int .i64 0, .int .i64 0, .int .i64 0, .bool false, .slice none 0 0, .slice none 0 0] rfl rfl (45 : TypeId) _ hx1 (by kernel_rfl) rfl (by simp [Value.oneCell']) ?_))
    refine bodyPost_ret (v := .tuple #[.agg #[.string ⟨#[]⟩, .int .u8 0, .int .i64 0, .int .i64 0, .int .i64 0, .int .i64 0, .int .i64 0, .int .i64 0, .int .i64 0, .bool false, .slice none 0 0, .slice none 0 0], .int .i64 60]) (results_cell_tmp Try.results32 _ _ w.heap.size (45 : TypeId) _ (0, 0) _ _ rfl rfl HR.out Try.underlying45 rfl (by kernel_rfl)) rfl ?_
    exact HE.out
  · obtain ⟨B, O, rfl, hc⟩ := hB.lies (by omega)
    have hc0 := cell_keep (hc 0 (by omega)) hbW
    rw [Nat.add_zero] at hc0
    have hzz := hB.byte
    have hz0 : ((n : Int) == 0) = false := by simp; omega
    by_cases h1 : 65545 < n
    · have h1i : (65545 : Int) < (n : Int) := by omega
      clear hB hc0 hc
      rw [HW.out] at hx1 hx2 HE HR
      go_enter Try.func32, Try.ntmps32
      go_wp2_with (first | (refine wpList_load_row rfl (45 : TypeId) _ rfl (w.heap.size + 1) rfl (45 : TypeId) _ (0, 0) _ hx2 Try.underlying45 rfl (by kernel_rfl) ?_) | (refine wpList_store_row rfl (45 : TypeId) _ _ rfl w.heap.size #[.string ⟨#[]⟩, .int .u8 0, .int .i64 0, .int .i64 0, .int .i64 0, .int .i64 0, .int .i64 0, .int .i64 0, .int .i64 0, .bool false, .slice none 0 0, .slice none 0 0] rfl rfl (45 : TypeId) _ hx1 (by kernel_rfl) rfl (by simp [Value.oneCell']) ?_))
      refine bodyPost_ret (v := .tuple #[.agg #[.string ⟨#[]⟩, .int .u8 0, .int .i64 0, .int .i64 0, .int .i64 0, .int .i64 0, .int .i64 0, .int .i64 0, .int .i64 0, .bool false, .slice none 0 0, .slice none 0 0], .int .i64 60]) (results_cell_tmp Try.results32 _ _ w.heap.size (45 : TypeId) _ (0, 0) _ _ rfl rfl HR.out Try.underlying45 rfl (by kernel_rfl)) rfl ?_
      exact HE.out
    · have h1i : ¬ (65545 : Int) < (n : Int) := by omega
      have h2 : zs.getD 0 0 ≠ 7 := by rcases hno with h | h | h <;> first | omega | exact h
      generalize zs.getD 0 0 = z at hc0 h2
      have hne : (z != 7) = true := by simpa using h2
      rw [HW.out] at hc0
      clear hB hc
      rw [HW.out] at hx1 hx2 HE HR
      go_enter Try.func32, Try.ntmps32
      go_wp2_with (first | (refine wpList_load_row rfl (45 : TypeId) _ rfl (w.heap.size + 1) rfl (45 : TypeId) _ (0, 0) _ hx2 Try.underlying45 rfl (by kernel_rfl) ?_) | (refine wpList_store_row rfl (45 : TypeId) _ _ rfl w.heap.size #[.string ⟨#[]⟩, .int .u8 0, .int .i64 0, .int .i64 0, .int .i64 0, .int .i64 0, .int .i64 0, .int .i64 0, .int .i64 0, .bool false, .slice none 0 0, .slice none 0 0] rfl rfl (45 : TypeId) _ hx1 (by kernel_rfl) rfl (by simp [Value.oneCell']) ?_))
      refine bodyPost_ret (v := .tuple #[.agg #[.string ⟨#[]⟩, .int .u8 0, .int .i64 0, .int .i64 0, .int .i64 0, .int .i64 0, .int .i64 0, .int .i64 0, .int .i64 0, .bool false, .slice none 0 0, .slice none 0 0], .int .i64 60]) (results_cell_tmp Try.results32 _ _ w.heap.size (45 : TypeId) _ (0, 0) _ _ rfl rfl HR.out Try.underlying45 rfl (by kernel_rfl)) rfl ?_
      exact HE.out

set_option maxHeartbeats 4000000 in
theorem getRaft_in (hB : Bs w (some ⟨B, O, none⟩) n cap zs) (h0 : 0 < n) (h1 : n ≤ 65545) (h2 : zs.getD 0 0 = 7) : Calls Try.prog 32 #[.int .u8 7, .int .i64 65545, .slice (some ⟨B, O, none⟩) n cap, .func (.func 33) #[] #[]] w (GRaft w zs) := by
  have hgot := got_cons (c := Cod.raft) (k := 7) (most := 65545) (zs := zs) (by rw [hB.len]; exact h0) (by rw [hB.len]; exact h1) h2
  have hl := hB.len
  have hle := hB.le
  have hre := hB.reach
  obtain ⟨W, HW⟩ : ∃ W, Hid (W = ((w.alloc (.cells #[.string ⟨#[]⟩, .int .u8 0, .int .i64 0, .int .i64 0, .int .i64 0, .int .i64 0, .int .i64 0, .int .i64 0, .int .i64 0, .bool false, .slice none 0 0, .slice none 0 0] (45 : TypeId))).alloc (.cells #[.string ⟨#[]⟩, .int .u8 0, .int .i64 0, .int .i64 0, .int .i64 0, .int .i64 0, .int .i64 0, .int .i64 0, .int .i64 0, .bool false, .slice none 0 0, .slice none 0 0] (45 : TypeId)))) := ⟨_, hide rfl⟩
  have hx := boxes2r w (.cells #[.string ⟨#[]⟩, .int .u8 0, .int .i64 0, .int .i64 0, .int .i64 0, .int .i64 0, .int .i64 0, .int .i64 0, .int .i64 0, .bool false, .slice none 0 0, .slice none 0 0] (45 : TypeId)) (.cells #[.string ⟨#[]⟩, .int .u8 0, .int .i64 0, .int .i64 0, .int .i64 0, .int .i64 0, .int .i64 0, .int .i64 0, .int .i64 0, .bool false, .slice none 0 0, .slice none 0 0] (45 : TypeId))
  rw [← HW.out] at hx
  have hbW : Below w.heap.size w W := by rw [HW.out]; exact (fresh w _).alloc (by simp) _
  have hWsz : W.heap.size = w.heap.size + 2 := by rw [HW.out]; simp
  obtain ⟨b', o', ha, hc⟩ := hB.lies (by omega)
  simp only [Option.some.injEq, Addr.mk.injEq, and_true] at ha
  obtain ⟨rfl, rfl⟩ := ha
  have hc0 := cell_keep (hc 0 (by omega)) hbW
  rw [Nat.add_zero, h2] at hc0
  have hz0 : ((n : Int) == 0) = false := by simp; omega
  have h1i : ¬ (65545 : Int) < (n : Int) := by omega
  have hS := Rs.first (w := w) (B := B) (O := O) (cap := cap) (zs := zs) (show 1 ≤ n by omega) W hbW
  have HC := hide (getRaft_clo hB (by omega) hS)
  have hkx := Kt.of_below (t := (107 : TypeId)) (fresh W (.cells #[.slice (some ⟨B, O, none⟩) n cap, .int .i64 1, .bool false] (107 : TypeId)))
  have hy1 := hkx.block _ _ _ _ hx.1 (by decide)
  have hy2 := hkx.block _ _ _ _ hx.2 (by decide)
  rw [hWsz] at HC
  rw [HW.out] at hc0 HC
  have HY1 := hide hy1
  have HY2 := hide hy2
  clear hy1 hy2 hS hc hx hkx
  go_enter Try.func32, Try.ntmps32
  go_wp2_with fail
  refine HC.out.mono ?_
  rintro e w1 ⟨yyg, yyk, yyf, yyt, yym, yyi, yyo, yyc, yyr, yyx, yyla, yyln, yylc, yyya, yyyn, yyyc, rfl, h3, k3, l3⟩
  rw [← HW.out] at k3
  obtain ⟨k, hp, hs⟩ := h3.rp
  have hG1 := k3.block _ _ _ _ HY1.out (by decide)
  have hG2 := k3.block _ _ _ _ HY2.out (by decide)
  have hrl := Kt.of_below (t := 0) (fresh w1 (.cells #[.string yyg, .int .u8 yyk, .int .i64 yyf, .int .i64 yyt, .int .i64 yym, .int .i64 yyi, .int .i64 yyo, .int .i64 yyc, .int .i64 yyr, .bool yyx, .slice yyla yyln yylc, .slice yyya yyyn yyyc] (45 : TypeId)))
  have hG1a := hrl.block _ _ _ _ hG1 (by decide)
  have hG2a := hrl.block _ _ _ _ hG2 (by decide)
  have hG3a := heap_alloc_new w1 (.cells #[.string yyg, .int .u8 yyk, .int .i64 yyf, .int .i64 yyt, .int .i64 yym, .int .i64 yyi, .int .i64 yyo, .int .i64 yyc, .int .i64 yyr, .bool yyx, .slice yyla yyln yylc, .slice yyya yyyn yyyc] (45 : TypeId))
  have hpa := hp.keep (fresh w1 (.cells #[.string yyg, .int .u8 yyk, .int .i64 yyf, .int .i64 yyt, .int .i64 yym, .int .i64 yyi, .int .i64 yyo, .int .i64 yyc, .int .i64 yyr, .bool yyx, .slice yyla yyln yylc, .slice yyya yyyn yyyc] (45 : TypeId)))
  have c1 := hpa.c1
  have c2 := hpa.c2
  have hlow := hpa.low
  have hbE : Below w.heap.size w ((w1.alloc (.cells #[.string yyg, .int .u8 yyk, .int .i64 yyf, .int .i64 yyt, .int .i64 yym, .int .i64 yyi, .int .i64 yyo, .int .i64 yyc, .int .i64 yyr, .bool yyx, .slice yyla yyln yylc, .slice yyya yyyn yyyc] (45 : TypeId))).setRow w.heap.size #[.string ⟨#[]⟩, .int .u8 0, .int .i64 0, .int .i64 0, .int .i64 0, .int .i64 0, .int .i64 0, .int .i64 0, .int .i64 0, .bool false, .slice none 0 0, .slice none 0 0]) := below_setRow hlow (Nat.le_refl _) _
  have hbS : Below w.heap.size w ((w1.alloc (.cells #[.string yyg, .int .u8 yyk, .int .i64 yyf, .int .i64 yyt, .int .i64 yym, .int .i64 yyi, .int .i64 yyo, .int .i64 yyc, .int .i64 yyr, .bool yyx, .slice yyla yyln yylc, .slice yyya yyyn yyyc] (45 : TypeId))).setRow w.heap.size #[.string yyg, .int .u8 yyk, .int .i64 yyf, .int .i64 yyt, .int .i64 yym, .int .i64 yyi, .int .i64 yyo, .int .i64 yyc, .int .i64 yyr, .bool yyx, .slice yyla yyln yylc, .slice yyya yyyn yyyc]) := below_setRow hlow (Nat.le_refl _) _
  have HRE := hide (setRow_heap _ w.heap.size _ #[.string ⟨#[]⟩, .int .u8 0, .int .i64 0, .int .i64 0, .int .i64 0, .int .i64 0, .int .i64 0, .int .i64 0, .int .i64 0, .bool false, .slice none 0 0, .slice none 0 0] _ _ hG1a)
  have HRS := hide (setRow_heap _ w.heap.size _ #[.string yyg, .int .u8 yyk, .int .i64 yyf, .int .i64 yyt, .int .i64 yym, .int .i64 yyi, .int .i64 yyo, .int .i64 yyc, .int .i64 yyr, .bool yyx, .slice yyla yyln yylc, .slice yyya yyyn yyyc] _ _ hG1a)
  have HFIN : Hid (∀ x, Cod.vl Cod.raft (some (zs.drop 1)) = some x → LRaft ((w1.alloc (.cells #[.string yyg, .int .u8 yyk, .int .i64 yyf, .int .i64 yyt, .int .i64 yym, .int .i64 yyi, .int .i64 yyo, .int .i64 yyc, .int .i64 yyr, .bool yyx, .slice yyla yyln yylc, .slice yyya yyyn yyyc] (45 : TypeId))).setRow w.heap.size #[.string yyg, .int .u8 yyk, .int .i64 yyf, .int .i64 yyt, .int .i64 yym, .int .i64 yyi, .int .i64 yyo, .int .i64 yyc, .int .i64 yyr, .bool yyx, .slice yyla yyln yylc, .slice yyya yyyn yyyc]) x [.string yyg, .int .u8 yyk, .int .i64 yyf, .int .i64 yyt, .int .i64 yym, .int .i64 yyi, .int .i64 yyo, .int .i64 yyc, .int .i64 yyr, .bool yyx, .slice yyla yyln yylc, .slice yyya yyyn yyyc]) := hide fun x hx => LRaft.k (45 : TypeId) _ _ _ _ (by decide) (Kt.row1 hG1a) (LRaft.k.below (l3 x hx) (fresh w1 _))
  have hkn := hp.le
  clear h3 l3 k3 hp hpa hrl hlow hG1 hG2 HC
  cases hg : Cod.raft.get (zs.drop 1) with
  | none =>
    rw [Cod.nx_bad hg] at c2 hs
    rw [hg] at hgot
    have HE := hide (GRaft.no hgot hbE)
    clear hbE hbS
    go_wp2_with (first | (refine wpList_store_row rfl (45 : TypeId) _ _ rfl w1.heap.size #[.string yyg, .int .u8 yyk, .int .i64 yyf, .int .i64 yyt, .int .i64 yym, .int .i64 yyi, .int .i64 yyo, .int .i64 yyc, .int .i64 yyr, .bool yyx, .slice yyla yyln yylc, .slice yyya yyyn yyyc] rfl rfl (45 : TypeId) _ (heap_alloc_new w1 _) (by kernel_rfl) rfl (by simp [Value.oneCell']) ?_; rw [setRow_alloc]) | (refine wpList_load_row rfl (45 : TypeId) _ rfl (w.heap.size + 1) rfl (45 : TypeId) _ (0, 0) _ hG2a Try.underlying45 rfl (by kernel_rfl) ?_) | (refine wpList_store_row rfl (45 : TypeId) _ _ rfl w.heap.size #[.string ⟨#[]⟩, .int .u8 0, .int .i64 0, .int .i64 0, .int .i64 0, .int .i64 0, .int .i64 0, .int .i64 0, .int .i64 0, .bool false, .slice none 0 0, .slice none 0 0] rfl rfl (45 : TypeId) _ hG1a (by kernel_rfl) rfl (by simp [Value.oneCell']) ?_))
    refine bodyPost_ret (v := .tuple #[.agg #[.string ⟨#[]⟩, .int .u8 0, .int .i64 0, .int .i64 0, .int .i64 0, .int .i64 0, .int .i64 0, .int .i64 0, .int .i64 0, .bool false, .slice none 0 0, .slice none 0 0], .int .i64 60]) (results_cell_tmp Try.results32 _ _ w.heap.size (45 : TypeId) _ (0, 0) _ _ rfl rfl HRE.out Try.underlying45 rfl (by kernel_rfl)) rfl ?_
    exact HE.out
  | some q =>
    obtain ⟨x, t⟩ := q
    rw [Cod.nx_some hg] at c2 hs
    have ht := hs t rfl
    have hxl := HFIN.out x (Cod.vl_some hg)
    rw [hg] at hgot
    by_cases hkn2 : k = n
    · have ht0 : t = [] := by rw [ht]; exact List.drop_eq_nil_of_le (by omega)
      subst ht0
      have HE := hide (GRaft.yes hgot hbS hxl)
      have hnn : ((k : Int) != (n : Int)) = false := by simp [hkn2]
      subst hkn2
      clear hbE hbS hxl
      have hnn2 : ((k : Int) != (k : Int)) = false := by simp
      go_wp2_with (first | (refine wpList_store_row rfl (45 : TypeId) _ _ rfl w1.heap.size #[.string yyg, .int .u8 yyk, .int .i64 yyf, .int .i64 yyt, .int .i64 yym, .int .i64 yyi, .int .i64 yyo, .int .i64 yyc, .int .i64 yyr, .bool yyx, .slice yyla yyln yylc, .slice yyya yyyn yyyc] rfl rfl (45 : TypeId) _ (heap_alloc_new w1 _) (by kernel_rfl) rfl (by simp [Value.oneCell']) ?_; rw [setRow_alloc]) | (refine wpList_load_row rfl (45 : TypeId) _ rfl w1.heap.size rfl (45 : TypeId) _ (0, 0) _ hG3a Try.underlying45 rfl (by kernel_rfl) ?_) | (refine wpList_store_row rfl (45 : TypeId) _ _ rfl w.heap.size #[.string yyg, .int .u8 yyk, .int .i64 yyf, .int .i64 yyt, .int .i64 yym, .int .i64 yyi, .int .i64 yyo, .int .i64 yyc, .int .i64 yyr, .bool yyx, .slice yyla yyln yylc, .slice yyya yyyn yyyc] rfl rfl (45 : TypeId) _ hG1a (by kernel_rfl) rfl (by simp [Value.oneCell']) ?_))
      refine bodyPost_ret (v := .tuple #[.agg #[.string yyg, .int .u8 yyk, .int .i64 yyf, .int .i64 yyt, .int .i64 yym, .int .i64 yyi, .int .i64 yyo, .int .i64 yyc, .int .i64 yyr, .bool yyx, .slice yyla yyln yylc, .slice yyya yyyn yyyc], .int .i64 0]) (results_cell_tmp Try.results32 _ _ w.heap.size (45 : TypeId) _ (0, 0) _ _ rfl rfl HRS.out Try.underlying45 rfl (by kernel_rfl)) rfl ?_
      exact HE.out
    · have htn : t ≠ [] := by
        intro e
        have := congrArg List.length ht
        rw [e, List.length_drop, List.length_nil] at this
        omega
      have hgot2 : Cod.got Cod.raft 7 65545 zs = none := by
        rw [hgot]
        cases t with
        | nil => exact absurd rfl htn
        | cons z t => rfl
      have HE := hide (GRaft.no hgot2 hbE)
      have hnn : ((k : Int) != (n : Int)) = true := by simp; omega
      clear hbE hbS hxl
      go_wp2_with (first | (refine wpList_store_row rfl (45 : TypeId) _ _ rfl w1.heap.size #[.string yyg, .int .u8 yyk, .int .i64 yyf, .int .i64 yyt, .int .i64 yym, .int .i64 yyi, .int .i64 yyo, .int .i64 yyc, .int .i64 yyr, .bool yyx, .slice yyla yyln yylc, .slice yyya yyyn yyyc] rfl rfl (45 : TypeId) _ (heap_alloc_new w1 _) (by kernel_rfl) rfl (by simp [Value.oneCell']) ?_; rw [setRow_alloc]) | (refine wpList_load_row rfl (45 : TypeId) _ rfl (w.heap.size + 1) rfl (45 : TypeId) _ (0, 0) _ hG2a Try.underlying45 rfl (by kernel_rfl) ?_) | (refine wpList_store_row rfl (45 : TypeId) _ _ rfl w.heap.size #[.string ⟨#[]⟩, .int .u8 0, .int .i64 0, .int .i64 0, .int .i64 0, .int .i64 0, .int .i64 0, .int .i64 0, .int .i64 0, .bool false, .slice none 0 0, .slice none 0 0] rfl rfl (45 : TypeId) _ hG1a (by kernel_rfl) rfl (by simp [Value.oneCell']) ?_))
      refine bodyPost_ret (v := .tuple #[.agg #[.string ⟨#[]⟩, .int .u8 0, .int .i64 0, .int .i64 0, .int .i64 0, .int .i64 0, .int .i64 0, .int .i64 0, .int .i64 0, .bool false, .slice none 0 0, .slice none 0 0], .int .i64 60]) (results_cell_tmp Try.results32 _ _ w.heap.size (45 : TypeId) _ (0, 0) _ _ rfl rfl HRE.out Try.underlying45 rfl (by kernel_rfl)) rfl ?_
      exact HE.out

set_option maxHeartbeats 2000000 in
theorem getRaft_any (a : Option Addr) (hB : Bs w a n cap zs) : Calls Try.prog 9 #[.slice a n cap] w (GRaft w zs) := by
  have hC : Calls Try.prog 32 #[.int .u8 7, .int .i64 65545, .slice a n cap, .func (.func 33) #[] #[]] (w.alloc (.cells #[.string ⟨#[]⟩, .int .u8 0, .int .i64 0, .int .i64 0, .int .i64 0, .int .i64 0, .int .i64 0, .int .i64 0, .int .i64 0, .bool false, .slice none 0 0, .slice none 0 0] (45 : TypeId))) (GRaft (w.alloc (.cells #[.string ⟨#[]⟩, .int .u8 0, .int .i64 0, .int .i64 0, .int .i64 0, .int .i64 0, .int .i64 0, .int .i64 0, .int .i64 0, .bool false, .slice none 0 0, .slice none 0 0] (45 : TypeId))) zs) := by
    have hB1 := hB.keep (fresh w (.cells #[.string ⟨#[]⟩, .int .u8 0, .int .i64 0, .int .i64 0, .int .i64 0, .int .i64 0, .int .i64 0, .int .i64 0, .int .i64 0, .bool false, .slice none 0 0, .slice none 0 0] (45 : TypeId)))
    by_cases hno : n = 0 ∨ 65545 < n ∨ zs.getD 0 0 ≠ 7
    · exact getRaft_no a hB1 hno
    · have h1 : n ≠ 0 := fun h => hno (.inl h)
      have h2 : n ≤ 65545 := Nat.le_of_not_lt fun h => hno (.inr (.inl h))
      have h3 : zs.getD 0 0 = 7 := Classical.byContradiction fun h => hno (.inr (.inr h))
      obtain ⟨B, O, rfl, _⟩ := hB1.lies (by omega)
      exact getRaft_in hB1 (by omega) h2 h3
  have HC := hide hC
  have hbox := heap_alloc_new w (.cells #[.string ⟨#[]⟩, .int .u8 0, .int .i64 0, .int .i64 0, .int .i64 0, .int .i64 0, .int .i64 0, .int .i64 0, .int .i64 0, .bool false, .slice none 0 0, .slice none 0 0] (45 : TypeId))
  clear hC
  go_enter Try.func9, Try.ntmps9
  go_wp2_with fail
  refine HC.out.mono ?_
  rintro e w1 ⟨hb, hm⟩
  have hbw : Below w.heap.size w w1 := (fresh w _).trans (hb.mono (by simp))
  have hG := (hb.block _ (hp_lt hbox)).trans hbox
  cases hg : Cod.got Cod.raft 7 65545 zs with
  | none =>
    rw [hg] at hm
    subst hm
    have HE := hide (GRaft.no hg (below_setRow hbw (Nat.le_refl _) #[.string ⟨#[]⟩, .int .u8 0, .int .i64 0, .int .i64 0, .int .i64 0, .int .i64 0, .int .i64 0, .int .i64 0, .int .i64 0, .bool false, .slice none 0 0, .slice none 0 0]))
    have HR := hide (setRow_heap w1 w.heap.size _ #[.string ⟨#[]⟩, .int .u8 0, .int .i64 0, .int .i64 0, .int .i64 0, .int .i64 0, .int .i64 0, .int .i64 0, .int .i64 0, .bool false, .slice none 0 0, .slice none 0 0] _ _ hG)
    clear hbw hb HC
    go_wp2_with (refine wpList_store_row rfl (45 : TypeId) _ _ rfl w.heap.size #[.string ⟨#[]⟩, .int .u8 0, .int .i64 0, .int .i64 0, .int .i64 0, .int .i64 0, .int .i64 0, .int .i64 0, .int .i64 0, .bool false, .slice none 0 0, .slice none 0 0] rfl rfl (45 : TypeId) _ hG (by kernel_rfl) rfl (by simp [Value.oneCell']) ?_)
    refine bodyPost_ret (v := .tuple #[.agg #[.string ⟨#[]⟩, .int .u8 0, .int .i64 0, .int .i64 0, .int .i64 0, .int .i64 0, .int .i64 0, .int .i64 0, .int .i64 0, .bool false, .slice none 0 0, .slice none 0 0], .int .i64 60]) (results_cell_tmp Try.results9 _ _ w.heap.size (45 : TypeId) _ (0, 0) _ _ rfl rfl HR.out Try.underlying45 rfl (by kernel_rfl)) rfl ?_
    exact HE.out
  | some x =>
    rw [hg] at hm
    obtain ⟨yyg, yyk, yyf, yyt, yym, yyi, yyo, yyc, yyr, yyx, yyla, yyln, yylc, yyya, yyyn, yyyc, rfl, hl⟩ := hm
    have HE := hide (GRaft.yes hg (below_setRow hbw (Nat.le_refl _) #[.string yyg, .int .u8 yyk, .int .i64 yyf, .int .i64 yyt, .int .i64 yym, .int .i64 yyi, .int .i64 yyo, .int .i64 yyc, .int .i64 yyr, .bool yyx, .slice yyla yyln yylc, .slice yyya yyyn yyyc]) (LRaft.k (45 : TypeId) _ _ _ _ (by decide) (Kt.row1 hG) hl))
    have HR := hide (setRow_heap w1 w.heap.size _ #[.string yyg, .int .u8 yyk, .int .i64 yyf, .int .i64 yyt, .int .i64 yym, .int .i64 yyi, .int .i64 yyo, .int .i64 yyc, .int .i64 yyr, .bool yyx, .slice yyla yyln yylc, .slice yyya yyyn yyyc] _ _ hG)
    clear hbw hb HC hl
    go_wp2_with (refine wpList_store_row rfl (45 : TypeId) _ _ rfl w.heap.size #[.string yyg, .int .u8 yyk, .int .i64 yyf, .int .i64 yyt, .int .i64 yym, .int .i64 yyi, .int .i64 yyo, .int .i64 yyc, .int .i64 yyr, .bool yyx, .slice yyla yyln yylc, .slice yyya yyyn yyyc] rfl rfl (45 : TypeId) _ hG (by kernel_rfl) rfl (by simp [Value.oneCell']) ?_)
    refine bodyPost_ret (v := .tuple #[.agg #[.string yyg, .int .u8 yyk, .int .i64 yyf, .int .i64 yyt, .int .i64 yym, .int .i64 yyi, .int .i64 yyo, .int .i64 yyc, .int .i64 yyr, .bool yyx, .slice yyla yyln yylc, .slice yyya yyyn yyyc], .int .i64 0]) (results_cell_tmp Try.results9 _ _ w.heap.size (45 : TypeId) _ (0, 0) _ _ rfl rfl HR.out Try.underlying45 rfl (by kernel_rfl)) rfl ?_
    exact HE.out

end

end Go.Proofs.Ytnimfkcnkkjlkaa

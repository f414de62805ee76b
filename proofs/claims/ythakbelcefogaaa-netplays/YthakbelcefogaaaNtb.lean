/-
  A packet is put, found, told; Send, Double, Drop, Deliver; New.
-/
import Derived.Test.YthakbelcefogaaaNta
import Derived.Deep.RegionHeld3
namespace Go.Proofs.Ythakbelcefogaaa
open Go.RowKit
set_option maxRecDepth 100000

theorem results_cell_tmp {P : Program} {fn : Func} {p q : Tmp} {ty : TypeId} (h : fn.results = #[.cell p ty, .tmp q]) (tmps : Array Value) (w : World) (g : Nat) (t : TypeId) (cs : Array Value) (fr : Nat × Nat) (d : TypeDesc) (x : Value)
    (hp : tmps.getD p undef = .pointer (some ⟨g, 0, none⟩)) (hq : tmps.getD q undef = x) (hg : w.heap[g]? = some (.cells cs t fr))
    (hu : P.underlying ty = some d) (hd : (match d with | .struct _ | .array _ _ => true | _ => false) = true) (hi : (P.info? ty).map (·.size) = some cs.size) :
    (results fn tmps).run P w = .ok (.tuple #[.agg cs, x]) w := by
  have hp' : tmps[p]?.getD undef = .pointer (some ⟨g, 0, none⟩) := by simpa using hp
  have hq' : tmps[q]?.getD undef = x := by simpa using hq
  simp [results, h, hp', hq', asAddr, run_loadVar_row w g t ty cs fr d hg hu hd hi]

theorem size73 : (Try.prog.info? (73 : TypeId)).map (·.size) = some 3 := by kernel_rfl
theorem size31 : (Try.prog.info? (31 : TypeId)).map (·.size) = some 4 := by kernel_rfl

theorem Tb.row {S : Nat → Prop} {w : World} (g : Nat) (cs : Array Value) (h : S g) : Tb S w (w.setRow g cs) := ⟨rfl, rfl, rfl, by simp, fun k _ hne => setRow_other _ _ _ _ (fun e => hne (e ▸ h))⟩

theorem Nw.set2 {w : World} {R M : Nat} {n : Nt} (h : Nw w R M n) (x : Int) : (w.setCell ⟨R, 2, none⟩ (.int .i64 x)).heap[R]? = some (.cells (ncs R M x) (56 : TypeId) (0, 0)) := by
  rw [heap_setCell_same w R 2 (ncs R M n.last) (56 : TypeId) _ h.obj]
  rfl

set_option maxHeartbeats 1000000 in
theorem put_any {w : World} {R M : Nat} {n : Nt} {p : Pk} (h : Nw w R M n) (hp : p.Ok) (hl : n.last < 9223372036854775807) :
    Calls Try.prog 33 #[.pointer (some ⟨R, 0, none⟩), p.val] w fun e w' => e = .returned (.tuple #[.int .i64 n.putA.1, .int .i64 n.putA.2]) ∧ Nw w' R M (n.putN p) ∧ Tb (fun k => k = R ∨ k = M) w w' := by
  obtain ⟨cs, hcs⟩ : ∃ cs, Hid (cs = p.cells) := ⟨_, hide rfl⟩
  have hv : p.val = .agg cs := by rw [hcs.out]; rfl
  have hsz : cs.size = 3 := by rw [hcs.out]; rfl
  have hl0 := h.ok.last.1
  have hA : Nw (w.alloc (.cells cs (73 : TypeId))) R M n := h.below ((Below.refl _ w).alloc (Nat.le_refl _) _)
  have tA : Tb (fun k => k = R ∨ k = M) w (w.alloc (.cells cs (73 : TypeId))) := (Tb.refl _ _).alloc _
  have c1 : (w.alloc (.cells cs (73 : TypeId))).cell? ⟨R, 1, none⟩ = some (.map (some M)) := hA.c 1
  have c2 : (w.alloc (.cells cs (73 : TypeId))).cell? ⟨R, 2, none⟩ = some (.int .i64 n.last) := hA.c 2
  have f2 := hA.free 2
  have hlen := hA.len
  have hfew := h.ok.few
  obtain ⟨N, hN⟩ : ∃ N, N = n.m.length := ⟨_, rfl⟩
  by_cases hf : 256 ≤ n.m.length
  · have fin : Hid (n.putA = (0, 5) ∧ Nw (w.alloc (.cells cs (73 : TypeId))) R M (n.putN p) ∧ Tb (fun k => k = R ∨ k = M) w (w.alloc (.cells cs (73 : TypeId)))) := hide ⟨by simp [Nt.putA, hf], by unfold Nt.putN; rw [if_pos hf]; exact hA, tA⟩
    rw [← hN] at hlen hf
    rw [hv]
    clear h hA tA hv hN
    go_enter Try.func33, Try.ntmps33
    go_wp2_with fail
    go_ret2
    rw [fin.out.1]
    exact ⟨rfl, fin.out.2⟩
  · have hne := h.ne
    have o2 := hA.set2 (n.last + 1)
    have hMb : ((w.alloc (.cells cs (73 : TypeId))).setCell ⟨R, 2, none⟩ (.int .i64 (n.last + 1))).drew.heap[M]? = (w.alloc (.cells cs (73 : TypeId))).heap[M]? := Below.heap_setCell _ ⟨R, 2, none⟩ _ M (fun e => hne (by simpa using e.symm))
    obtain ⟨X, hr, hX, hT⟩ := hA.store (w' := ((w.alloc (.cells cs (73 : TypeId))).setCell ⟨R, 2, none⟩ (.int .i64 (n.last + 1))).drew) hMb o2 hp (by omega) hl rfl
    have tX : Tb (fun k => k = R ∨ k = M) w X := (tA.trans (Tb.set (S := fun k => k = R) R 2 (.int .i64 (n.last + 1)) rfl) (fun _ _ h => .inl h)).drew.trans (Tb.turned (S := fun k => k = M) hT rfl) (fun _ _ h => .inr h)
    have fin : Hid (n.putA = (n.last + 1, 0) ∧ Nw X R M (n.putN p) ∧ Tb (fun k => k = R ∨ k = M) w X) := hide ⟨by simp [Nt.putA, hf], by unfold Nt.putN; rw [if_neg hf]; exact hX, tX⟩
    have x2 : X.cell? ⟨R, 2, none⟩ = some (.int .i64 (n.last + 1)) := hX.c 2
    have hB : ((w.alloc (.cells cs (73 : TypeId))).setCell ⟨R, 2, none⟩ (.int .i64 (n.last + 1))).heap[w.heap.size]? = some (.cells cs (73 : TypeId) (0, 0)) := (Below.heap_setCell _ ⟨R, 2, none⟩ _ _ (fun e => by have := h.lt; simp only at e; omega)).trans (heap_alloc_new w _)
    have g1 : ((w.alloc (.cells cs (73 : TypeId))).setCell ⟨R, 2, none⟩ (.int .i64 (n.last + 1))).cell? ⟨R, 1, none⟩ = some (.map (some M)) := by rw [cell_of_row _ R 1 _ (56 : TypeId) (0, 0) o2]; rfl
    have g2 : ((w.alloc (.cells cs (73 : TypeId))).setCell ⟨R, 2, none⟩ (.int .i64 (n.last + 1))).cell? ⟨R, 2, none⟩ = some (.int .i64 (n.last + 1)) := by rw [cell_of_row _ R 2 _ (56 : TypeId) (0, 0) o2]; rfl
    rw [hv] at hr ⊢
    rw [← hN] at hlen hf
    clear h hA tA hv hN hX hT tX o2 hMb
    obtain ⟨W, HW⟩ : ∃ W, W = (w.alloc (.cells cs (73 : TypeId))).setCell ⟨R, 2, none⟩ (.int .i64 (n.last + 1)) := ⟨_, rfl⟩
    go_enter Try.func33, Try.ntmps33
    go_wp2_with fail
    obtain ⟨s, hs⟩ : ∃ s, s = strOfNums p.bd := ⟨_, rfl⟩
    have hc3 : cs = #[.int .i64 p.fr, .int .i64 p.to, .string s] := by rw [hcs.out, hs]; rfl
    rw [← HW] at hr g1 g2 hB
    rw [hc3] at hB
    have d0 := cell_of_row W w.heap.size 0 _ (73 : TypeId) (0, 0) hB
    have d1 := cell_of_row W w.heap.size 1 _ (73 : TypeId) (0, 0) hB
    have d2 := cell_of_row W w.heap.size 2 _ (73 : TypeId) (0, 0) hB
    simp only [List.getElem?_toArray, List.getElem?_cons_succ, List.getElem?_cons_zero] at d0 d1 d2
    rw [← HW]
    rw [hc3] at hr ⊢
    clear HW hB hc3 hcs c1 c2 f2 hlen hs
    go_region
    go_wp2_with fail
    go_ret2
    rw [fin.out.1]
    exact ⟨rfl, fin.out.2⟩


/-- What find answers. -/
def Nt.findA (n : Nt) (k : Int) : Pk := (lk n.m k).getD ⟨0, 0, []⟩
def Nt.findE (n : Nt) (k : Int) : Int := if (lk n.m k).isSome then 0 else 100

set_option maxHeartbeats 1000000 in
theorem find_any {w : World} {R M : Nat} {n : Nt} {k : Int} (h : Nw w R M n) (hk : I6 k) :
    Calls Try.prog 34 #[.pointer (some ⟨R, 0, none⟩), .int .i64 k] w fun e w' => e = .returned (.tuple #[(n.findA k).val, .int .i64 (n.findE k)]) ∧ Below w.heap.size w w' := by
  have hA : Nw (w.alloc (.cells #[.int .i64 0, .int .i64 0, .string ⟨#[]⟩] (73 : TypeId))) R M n := h.below ((Below.refl _ w).alloc (Nat.le_refl _) _)
  have hr := made_yes hA
  have c1 : (w.alloc (.cells #[.int .i64 0, .int .i64 0, .string ⟨#[]⟩] (73 : TypeId))).cell? ⟨R, 1, none⟩ = some (.map (some M)) := hA.c 1
  have hlk := hA.look_ok hk
  have heap2 : ∀ o o' : Obj, ((w.alloc o).alloc o').heap[w.heap.size]? = some o := fun o o' => (Below.heap_alloc _ o' _ (by simp)).trans (heap_alloc_new w o)
  have FB : Hid (∀ o o', Below w.heap.size w ((w.alloc o).alloc o')) := hide (fun o o' => ((Below.refl _ w).alloc (Nat.le_refl _) o).alloc (by simp) o')
  cases hf : lk n.m k with
  | none =>
    rw [hf] at hlk
    have hlk' : (Instr.lookup (54 : TypeId) (.map (some M)) (.int .i64 k) true).run Try.prog (w.alloc (.cells #[.int .i64 0, .int .i64 0, .string ⟨#[]⟩] (73 : TypeId))) = .ok (.tuple #[.agg #[.int .i64 0, .int .i64 0, .string ⟨#[]⟩], .bool false]) (w.alloc (.cells #[.int .i64 0, .int .i64 0, .string ⟨#[]⟩] (73 : TypeId))) := hlk
    have fin : Hid ((n.findA k).val = .agg #[.int .i64 0, .int .i64 0, .string ⟨#[]⟩] ∧ n.findE k = 100) := hide ⟨by simp [Nt.findA, hf]; rfl, by simp [Nt.findE, hf]⟩
    have H2 := hide heap2
    clear h hA hf hlk heap2
    go_enter Try.func34, Try.ntmps34
    go_wp2_with fail
    refine hr.mono ?_
    rintro e w1 ⟨rfl, hw1⟩
    subst w1
    go_wp2_with fail
    refine bodyPost_ret (v := .tuple #[.agg #[.int .i64 0, .int .i64 0, .string ⟨#[]⟩], .int .i64 100]) (results_cell_tmp Try.results34 _ _ w.heap.size (73 : TypeId) _ (0, 0) _ _ rfl rfl (H2.out _ _) Try.underlying73 rfl size73) rfl ?_
    rw [fin.out.1, fin.out.2]
    exact ⟨rfl, FB.out _ _⟩
  | some p =>
    obtain ⟨s, hs⟩ : ∃ s, Hid (s = strOfNums p.bd) := ⟨_, hide rfl⟩
    rw [hf] at hlk
    have hlk' : (Instr.lookup (54 : TypeId) (.map (some M)) (.int .i64 k) true).run Try.prog (w.alloc (.cells #[.int .i64 0, .int .i64 0, .string ⟨#[]⟩] (73 : TypeId))) = .ok (.tuple #[.agg #[.int .i64 p.fr, .int .i64 p.to, .string s], .bool true]) (w.alloc (.cells #[.int .i64 0, .int .i64 0, .string ⟨#[]⟩] (73 : TypeId))) := by rw [hs.out]; exact hlk
    have fin : Hid ((n.findA k).val = .agg #[.int .i64 p.fr, .int .i64 p.to, .string s] ∧ n.findE k = 0) := hide ⟨by simp [Nt.findA, hf, hs.out]; rfl, by simp [Nt.findE, hf]⟩
    have H2 := hide heap2
    clear h hA hf hlk heap2
    go_enter Try.func34, Try.ntmps34
    go_wp2_with fail
    refine hr.mono ?_
    rintro e w1 ⟨rfl, hw1⟩
    subst w1
    go_wp2_with fail
    refine bodyPost_ret (v := .tuple #[.agg #[.int .i64 p.fr, .int .i64 p.to, .string s], .int .i64 0]) (results_cell_tmp Try.results34 _ _ w.heap.size (73 : TypeId) _ (0, 0) _ _ rfl rfl (H2.out _ _) Try.underlying73 rfl size73) rfl ?_
    rw [fin.out.1, fin.out.2]
    exact ⟨rfl, FB.out _ _⟩

/-- A packet as it is answered. -/
structure Pt where
  no : Int
  fr : Int
  to : Int
  a : Option Addr
  ln : Nat
  cap : Nat

def Pt.cells (t : Pt) : List Value := [.int .i64 t.no, .int .i64 t.fr, .int .i64 t.to, .slice t.a t.ln t.cap]
def Pt.val (t : Pt) : Value := .agg t.cells.toArray

/-- It tells a packet: its body is new from a place on. -/
structure Pt.Is (w : World) (base : Nat) (t : Pt) (k : Int) (p : Pk) : Prop where
  no : t.no = k
  fr : t.fr = p.fr
  to : t.to = p.to
  bd : Bs w t.a t.ln t.cap p.bd
  new : ∃ g, t.a = some ⟨g, 0, none⟩ ∧ base ≤ g ∧ w.heap[g]? = some (.cells (bytesRow (strOfNums p.bd) t.cap) 5 ((bytesRow (strOfNums p.bd) t.cap).size, (bytesRow (strOfNums p.bd) t.cap).size + 1))

theorem Bs.heap {w w' : World} {a : Option Addr} {n cap : Nat} {zs : List Int} (h : Bs w a n cap zs) (hb : ∀ ad, a = some ad → w'.heap[ad.block]? = w.heap[ad.block]?) : Bs w' a n cap zs := by
  refine ⟨h.len, h.le, h.reach, h.byte, h.bare, fun hn => ?_⟩
  obtain ⟨b, off, ha, hc⟩ := h.lies hn
  refine ⟨b, off, ha, fun i hi => ?_⟩
  have hq : w'.heap[b]? = w.heap[b]? := hb _ ha
  have hc' := hc i hi
  unfold World.cell? at hc' ⊢
  rw [hq]
  exact hc'

theorem Pt.Is.heap {w w' : World} {base : Nat} {t : Pt} {k : Int} {p : Pk} (h : Pt.Is w base t k p) (hb : ∀ g, t.a = some ⟨g, 0, none⟩ → base ≤ g → g < w.heap.size → w'.heap[g]? = w.heap[g]?) : Pt.Is w' base t k p := by
  obtain ⟨g, h1, h2, h3⟩ := h.new
  refine ⟨h.no, h.fr, h.to, h.bd.heap (fun ad e => ?_), g, h1, h2, (hb g h1 h2 (heap_lt h3)).trans h3⟩
  rw [h1] at e
  cases e
  exact hb g h1 h2 (heap_lt h3)

theorem bytes_bs {w : World} {g n : Nat} {zs : List Int} {cap : Nat} {fr : Nat × Nat} (hg : w.heap[g]? = some (.cells (bytesRow (strOfNums zs) cap) 5 fr)) (hz : ∀ z ∈ zs, 0 ≤ z ∧ z ≤ 255) (hn : zs.length = n) (hc : n ≤ cap) (hr : cap ≤ 9223372036854775807) : Bs w (some ⟨g, 0, none⟩) n cap zs := by
  refine ⟨hn, hc, hr, hz, fun h => (by cases h), fun _ => ⟨g, 0, rfl, fun i hi => ?_⟩⟩
  rw [cell_of_row w g (0 + i) _ 5 fr hg]
  have hs : (strOfNums zs).data.toList = zs.map (fun n => UInt8.ofNat n.toNat) := strOfNums_data zs
  have h1 : i < zs.length := by omega
  have hi2 : (bytesRow (strOfNums zs) cap)[0 + i]? = ((strOfNums zs).data.toList.map (fun b => Value.int .u8 b.toNat))[i]? := by
    unfold bytesRow
    rw [Nat.zero_add, ← Array.getElem?_toList, Array.toList_append, List.getElem?_append_left (by simp [hs]; exact h1), Array.toList_map]
  rw [hi2, hs, List.map_map, List.getElem?_map, List.getElem?_eq_getElem h1]
  have hb := hz zs[i] (List.getElem_mem h1)
  simp only [Option.map_some, Function.comp_apply, UInt8.toNat_ofNat', List.getD, List.getElem?_eq_getElem h1, Option.getD_some]
  congr 2
  omega

theorem str_size (zs : List Int) : (strOfNums zs).size = zs.length := by
  show (strOfNums zs).data.size = _
  rw [← Array.length_toList, strOfNums_data, List.length_map]

set_option maxHeartbeats 1000000 in
theorem told_any {w : World} {p : Pk} {k : Int} (hp : p.Ok) :
    Calls Try.prog 35 #[p.val, .int .i64 k] w fun e w' => ∃ t : Pt, e = .returned t.val ∧ t.Is w' w.heap.size k p ∧ Below w.heap.size w w' := by
  obtain ⟨s, hs⟩ : ∃ s, Hid (s = strOfNums p.bd) := ⟨_, hide rfl⟩
  have hv : p.val = .agg #[.int .i64 p.fr, .int .i64 p.to, .string s] := by rw [hs.out]; rfl
  have hconv := fun W => run_bytes_of_string (P := Try.prog) W 9 (27 : TypeId) 5 s Try.underlying9 Try.underlying27 Try.underlying5
  rw [hv]
  clear hv
  have heap3 : ∀ o o' o'' : Obj, (((w.alloc o).alloc o').drew.alloc o'').heap[w.heap.size + 1]? = some o' := fun o o' o'' => (Below.heap_alloc _ o'' _ (by simp)).trans (show ((w.alloc o).alloc o').heap[w.heap.size + 1]? = some o' from by simpa using heap_alloc_new (w.alloc o) o')
  have heap4 : ∀ o o' o'' : Obj, (((w.alloc o).alloc o').drew.alloc o'').heap[w.heap.size + 1 + 1]? = some o'' := fun o o' o'' => by simpa using heap_alloc_new ((w.alloc o).alloc o').drew o''
  have H3 := hide heap3
  have H4 := hide heap4
  clear heap3 heap4
  have FB : Hid (∀ o o' o'', Below w.heap.size w (((w.alloc o).alloc o').drew.alloc o'')) := hide (fun o o' o'' => ((((Below.refl _ w).alloc (Nat.le_refl _) o).alloc (by simp) o').drew).alloc (by simp; omega) o'')
  go_enter Try.func35, Try.ntmps35
  go_wp2_with fail
  obtain ⟨C, hC⟩ : ∃ C, C = grownCap ((w.alloc (Obj.cells #[Value.int IntKind.i64 p.fr, Value.int IntKind.i64 p.to, Value.string s] (73 : TypeId))).alloc (Obj.cells #[Value.int IntKind.i64 0, Value.int IntKind.i64 0, Value.int IntKind.i64 0, Value.slice none 0 0] (31 : TypeId))) s.size 0 5 := ⟨_, rfl⟩
  have hC1 : s.size ≤ C := by rw [hC]; exact grownCap_ge _ _ _ _
  have hsz : s.size = p.bd.length := by rw [hs.out]; exact str_size _
  have hC2 : C ≤ maxLen := by rw [hC]; exact grownCap_le_maxLen _ _ _ _ (by rw [hsz]; have := hp.len; unfold maxLen; omega)
  rw [← hC]
  refine bodyPost_ret (results_cell_row rfl _ _ (w.heap.size + 1) (31 : TypeId) _ (0, 0) _ rfl (H3.out _ _ _) Try.underlying31 rfl size31) rfl ?_
  refine ⟨⟨k, p.fr, p.to, some ⟨w.heap.size + 1 + 1, 0, none⟩, s.size, C⟩, rfl, ⟨rfl, rfl, rfl, ?_, ?_⟩, FB.out _ _ _⟩
  · have := H4.out (Obj.cells #[Value.int IntKind.i64 p.fr, Value.int IntKind.i64 p.to, Value.string s] (73 : TypeId)) (Obj.cells #[Value.int IntKind.i64 k, Value.int IntKind.i64 p.fr, Value.int IntKind.i64 p.to, Value.slice (some ⟨w.heap.size + 1 + 1, 0, none⟩) s.size C] (31 : TypeId)) (Obj.cells (bytesRow s C) 5 ((bytesRow s C).size, (bytesRow s C).size + 1))
    rw [hs.out] at this ⊢
    rw [hs.out] at hC1 hsz
    exact bytes_bs this hp.byte (by rw [← hsz]) hC1 (by unfold maxLen at hC2; omega)
  · refine ⟨_, rfl, by omega, ?_⟩
    rw [← hs.out]
    exact H4.out _ _ _

/-- What Send answers, and leaves. -/
def Nt.sendA (n : Nt) (b : List Int) : Int × Int := if 65545 < b.length then (0, 3) else n.putA
def Nt.sendN (n : Nt) (f t : Int) (b : List Int) : Nt := if 65545 < b.length then n else n.putN ⟨f, t, b⟩

set_option maxHeartbeats 1000000 in
theorem send_any {w : World} {R M : Nat} {n : Nt} {f t : Int} {a : Option Addr} {m cap : Nat} {b : List Int} (h : Nw w R M n) (hl : n.last < 9223372036854775807) (hf : I6 f) (ht : I6 t) (hB : Bs w a m cap b) :
    Calls Try.prog 10 #[.pointer (some ⟨R, 0, none⟩), .int .i64 f, .int .i64 t, .slice a m cap] w fun e w' => e = .returned (.tuple #[.int .i64 (n.sendA b).1, .int .i64 (n.sendA b).2]) ∧ Nw w' R M (n.sendN f t b) ∧ Tb (fun k => k = R ∨ k = M) w w' := by
  have hr := made_yes h
  have hlen := hB.len
  by_cases hlong : 65545 < b.length
  · have fin : Hid (n.sendA b = (0, 3) ∧ Nw w R M (n.sendN f t b) ∧ Tb (fun k => k = R ∨ k = M) w w) := hide ⟨by simp [Nt.sendA, hlong], by unfold Nt.sendN; rw [if_pos hlong]; exact h, Tb.refl _ _⟩
    have e1 : decide ((m : Int) > 65545) = true := by simp; omega
    clear h
    go_enter Try.func10, Try.ntmps10
    go_wp2_with fail
    refine hr.mono ?_
    rintro e w1 ⟨rfl, rfl⟩
    go_wp2_with fail
    go_ret2
    rw [fin.out.1]
    exact ⟨rfl, fin.out.2⟩
  · have C := put_any (p := ⟨f, t, b⟩) h ⟨hf, ht, by show b.length ≤ 65545; omega, hB.byte⟩ hl
    obtain ⟨s, hs⟩ : ∃ s, Hid (s = strOfNums b) := ⟨_, hide rfl⟩
    have hcv : (convert (27 : TypeId) 9 (.slice a m cap)).run Try.prog w = .ok (.string s) w := by rw [hs.out]; exact run_str (27 : TypeId) 5 Try.underlying27 Try.underlying5 hB 9 Try.underlying9
    have hv : Pk.val ⟨f, t, b⟩ = .agg #[.int .i64 f, .int .i64 t, .string s] := by rw [hs.out]; rfl
    rw [hv] at C
    have eA : n.sendA b = n.putA := by simp [Nt.sendA, hlong]
    have eN : n.sendN f t b = n.putN ⟨f, t, b⟩ := by simp [Nt.sendN, hlong]
    have e1 : decide ((m : Int) > 65545) = false := by simp; omega
    rw [eA, eN]
    clear h hv eA eN
    go_enter Try.func10, Try.ntmps10
    go_wp2_with fail
    refine hr.mono ?_
    rintro e w1 ⟨rfl, hw1⟩
    subst w1
    go_wp2_with fail
    refine C.mono ?_
    rintro e w1 ⟨rfl, h1, h2⟩
    go_wp2_with fail
    go_ret2
    exact ⟨rfl, h1, h2⟩

/-- What Double answers, and leaves. -/
def Nt.dblA (n : Nt) (k : Int) : Int × Int := if (lk n.m k).isSome then n.putA else (0, 100)
def Nt.dblN (n : Nt) (k : Int) : Nt := if (lk n.m k).isSome then n.putN (n.findA k) else n

theorem Nt.Ok.find {n : Nt} (h : n.Ok) {k : Int} (hk : (lk n.m k).isSome = true) : (n.findA k).Ok := by
  obtain ⟨p, hp⟩ := Option.isSome_iff_exists.1 hk
  have : n.findA k = p := by simp [Nt.findA, hp]
  rw [this]
  exact h.pk _ (lk_mem hp)

set_option maxHeartbeats 1000000 in
theorem double_any {w : World} {R M : Nat} {n : Nt} {k : Int} (h : Nw w R M n) (hl : n.last < 9223372036854775807) (hk : I6 k) :
    Calls Try.prog 11 #[.pointer (some ⟨R, 0, none⟩), .int .i64 k] w fun e w' => e = .returned (.tuple #[.int .i64 (n.dblA k).1, .int .i64 (n.dblA k).2]) ∧ Nw w' R M (n.dblN k) ∧ Tb (fun k => k = R ∨ k = M) w w' := by
  have C := find_any h hk
  obtain ⟨s, hs⟩ : ∃ s, Hid (s = strOfNums (n.findA k).bd) := ⟨_, hide rfl⟩
  have hv : (n.findA k).val = .agg #[.int .i64 (n.findA k).fr, .int .i64 (n.findA k).to, .string s] := by rw [hs.out]; rfl
  by_cases hs : (lk n.m k).isSome = true
  · have e0 : n.findE k = 0 := by simp [Nt.findE, hs]
    have HP : Hid (∀ w' o, Below w.heap.size w w' → Calls Try.prog 33 #[.pointer (some ⟨R, 0, none⟩), (n.findA k).val] (w'.alloc o) fun e X => e = .returned (.tuple #[.int .i64 n.putA.1, .int .i64 n.putA.2]) ∧ Nw X R M (n.dblN k) ∧ Tb (fun k => k = R ∨ k = M) w X) := hide (fun w' o hb => by
      have hb' : Below w.heap.size w (w'.alloc o) := hb.alloc hb.size o
      refine (put_any (h.below hb') (h.ok.find hs) hl).mono ?_
      rintro e X ⟨rfl, h1, h2⟩
      refine ⟨rfl, by unfold Nt.dblN; rw [if_pos hs]; exact h1, (Tb.of_fresh (S := fun k => k = R ∨ k = M) hb').trans h2 (fun _ _ h => h)⟩)
    have eA : n.dblA k = n.putA := by simp [Nt.dblA, hs]
    rw [eA]
    rw [e0, hv] at C
    rw [hv] at HP
    clear h hv eA e0 hs
    go_enter Try.func11, Try.ntmps11
    go_wp2_with fail
    refine C.mono ?_
    rintro e w1 ⟨rfl, hb⟩
    go_wp2_with fail
    refine (HP.out _ _ hb).mono ?_
    rintro e w2 ⟨rfl, h1, h2⟩
    go_wp2_with fail
    go_ret2
    exact ⟨rfl, h1, h2⟩
  · have e0 : n.findE k = 100 := by simp [Nt.findE, hs]
    have fin : Hid (∀ w' o, Below w.heap.size w w' → n.dblA k = (0, 100) ∧ Nw (w'.alloc o) R M (n.dblN k) ∧ Tb (fun k => k = R ∨ k = M) w (w'.alloc o)) := hide (fun w' o hb => ⟨by simp [Nt.dblA, hs], by unfold Nt.dblN; rw [if_neg hs]; exact h.below (hb.alloc hb.size o), Tb.of_fresh (hb.alloc hb.size o)⟩)
    rw [e0, hv] at C
    clear h hv e0 hs
    go_enter Try.func11, Try.ntmps11
    go_wp2_with fail
    refine C.mono ?_
    rintro e w1 ⟨rfl, hb⟩
    go_wp2_with fail
    go_ret2
    obtain ⟨f1, f2⟩ := fin.out w1 (Obj.cells #[.int .i64 (n.findA k).fr, .int .i64 (n.findA k).to, .string s] (73 : TypeId)) hb
    rw [f1]
    exact ⟨rfl, f2⟩

end Go.Proofs.Ythakbelcefogaaa

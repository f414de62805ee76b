/-
  A net as a list of packets, and as it lies in memory; whether a net was made; a packet that is put.
-/
import Derived.Test.YthakbelcefogaaaDst
import Derived.OneCell
import Derived.LaidEql
import Derived.Great.BuildSlice
namespace Go.Proofs.Ythakbelcefogaaa
open Go.RowKit
set_option maxRecDepth 100000

theorem heap_lt {w : World} {g : Nat} {o : Obj} (h : w.heap[g]? = some o) : g < w.heap.size := (Array.getElem?_eq_some_iff.1 h).1

/-- A packet. -/
structure Pk where
  fr : Int
  to : Int
  bd : List Int

structure Pk.Ok (p : Pk) : Prop where
  fr : I6 p.fr
  to : I6 p.to
  len : p.bd.length ≤ 65545
  byte : ∀ z ∈ p.bd, 0 ≤ z ∧ z ≤ 255

def Pk.cells (p : Pk) : Array Value := #[.int .i64 p.fr, .int .i64 p.to, .string (strOfNums p.bd)]
def Pk.val (p : Pk) : Value := .agg p.cells

/-- A net: the packets on their way by their numbers, and the number that was given last. -/
structure Nt where
  m : List (Int × Pk)
  last : Int

structure Nt.Ok (n : Nt) : Prop where
  up : n.m.Pairwise fun p q => p.1 < q.1
  num : ∀ p ∈ n.m, 1 ≤ p.1 ∧ p.1 ≤ n.last
  pk : ∀ p ∈ n.m, p.2.Ok
  last : 0 ≤ n.last ∧ n.last ≤ 9223372036854775807
  few : n.m.length ≤ 256

def newNt : Nt := ⟨[], 0⟩
/-- One more. -/
def Nt.put (n : Nt) (p : Pk) : Nt := ⟨n.m ++ [(n.last + 1, p)], n.last + 1⟩
/-- One less. -/
def Nt.drop (n : Nt) (k : Int) : Nt := ⟨dl n.m k, n.last⟩

theorem Nt.Ok.un {n : Nt} (h : n.Ok) : Un n.m := h.up.imp (fun hab e => by omega)

theorem newNt_ok : newNt.Ok := ⟨List.Pairwise.nil, by simp [newNt], by simp [newNt], by simp [newNt], by simp [newNt]⟩

theorem Nt.Ok.put {n : Nt} (h : n.Ok) {p : Pk} (hp : p.Ok) (hf : n.m.length < 256) (hl : n.last < 9223372036854775807) : (n.put p).Ok := by
  have hL := h.last
  refine ⟨List.pairwise_append.2 ⟨h.up, by simp, fun a ha b hb => ?_⟩, fun q hq => ?_, fun q hq => ?_, ?_, by simp [Nt.put]; omega⟩
  · simp only [List.mem_singleton] at hb
    subst hb
    have := h.num a ha
    simp only
    omega
  · rcases List.mem_append.1 hq with hq | hq
    · have := h.num q hq
      simp only [Nt.put]
      omega
    · simp only [List.mem_singleton] at hq
      subst hq
      simp only [Nt.put]
      omega
  · rcases List.mem_append.1 hq with hq | hq
    · exact h.pk q hq
    · simp only [List.mem_singleton] at hq
      subst hq
      exact hp
  · simp only [Nt.put]
    omega

theorem Nt.Ok.drop {n : Nt} (h : n.Ok) (k : Int) : (n.drop k).Ok :=
  ⟨h.up.sublist List.filter_sublist, fun p hp => h.num p (List.mem_filter.1 hp).1, fun p hp => h.pk p (List.mem_filter.1 hp).1, h.last, Nat.le_trans (List.length_filter_le _ _) h.few⟩

theorem Nt.Ok.fresh {n : Nt} (h : n.Ok) : lk n.m (n.last + 1) = none := lk_none_iff.2 (fun p hp e => by have := h.num p hp; omega)

theorem dl_none {κ ν : Type} [DecidableEq κ] {l : List (κ × ν)} {k : κ} (h : lk l k = none) : dl l k = l := by
  unfold dl
  rw [List.filter_eq_self]
  intro p hp
  simpa using lk_none_iff.1 h p hp

theorem Nt.put_st {n : Nt} (h : n.Ok) (p : Pk) : (n.put p).m = st n.m (n.last + 1) p := by
  unfold Nt.put st
  rw [dl_none h.fresh]

/-- A net's own block. -/
def ncs (R M : Nat) (last : Int) : Array Value := #[.pointer (some ⟨R, 0, none⟩), .map (some M), .int .i64 last]

/-- A net in memory: its own block R, its map M. -/
structure Nw (w : World) (R M : Nat) (n : Nt) : Prop where
  ok : n.Ok
  obj : w.heap[R]? = some (.cells (ncs R M n.last) (56 : TypeId) (0, 0))
  map : ∃ D, Mp w 3 M D ∧ Maps.size D = n.m.length ∧ ∀ k, I6 k → gt D (.int .i64 k) = (lk n.m k).map Pk.val

section
variable {w w' : World} {R M : Nat} {n : Nt} {S : Nat → Prop}
theorem Nw.lt (h : Nw w R M n) : R < w.heap.size := heap_lt h.obj
theorem Nw.mlt (h : Nw w R M n) : M < w.heap.size := by
  obtain ⟨D, h1, _⟩ := h.map
  exact h1.lt
theorem Nw.ne (h : Nw w R M n) : R ≠ M := by
  obtain ⟨D, h1, _⟩ := h.map
  obtain ⟨es, clock, hb, _⟩ := h1.own
  intro e
  have := h.obj
  rw [e, hb] at this
  cases this
theorem Nw.heap (h : Nw w R M n) (h1 : w'.heap[R]? = w.heap[R]?) (h2 : w'.heap[M]? = w.heap[M]?) : Nw w' R M n := by
  obtain ⟨D, g1, g2⟩ := h.map
  exact ⟨h.ok, h1.trans h.obj, D, g1.heap h2, g2⟩
theorem Nw.tb (h : Nw w R M n) (hb : Tb S w w') (h1 : ¬ S R) (h2 : ¬ S M) : Nw w' R M n := h.heap (hb.block R h.lt h1) (hb.block M h.mlt h2)
theorem Nw.below (h : Nw w R M n) (hb : Below w.heap.size w w') : Nw w' R M n := h.heap (hb.block R h.lt) (hb.block M h.mlt)
theorem Nw.drew (h : Nw w R M n) : Nw w.drew R M n := h.heap rfl rfl
theorem Nw.free (h : Nw w R M n) (i : Nat) : w.frozen? ⟨R, i, none⟩ = false := frozen_of_row w R i _ (56 : TypeId) h.obj
theorem Nw.c (h : Nw w R M n) (i : Nat) : w.cell? ⟨R, i, none⟩ = (ncs R M n.last)[i]? := cell_of_row w R i _ (56 : TypeId) (0, 0) h.obj

theorem Nw.len (h : Nw w R M n) (ty : TypeId) : (Builtin.len_ #[(54 : TypeId)] ty #[.map (some M)]).run Try.prog w = .ok (.int .i64 n.m.length) w := by
  obtain ⟨D, h1, h2, _⟩ := h.map
  rw [h1.len Try.underlying54 ty, h2]

theorem zero73 (W : World) : (zeroValue (73 : TypeId)).run Try.prog W = .ok (Pk.val ⟨0, 0, []⟩) W := by
  have h : (Try.prog.info? (73 : TypeId)).map (·.zero) = some (some (Pk.val ⟨0, 0, []⟩)) := by kernel_rfl
  obtain ⟨i, hi, hz⟩ := Option.map_eq_some_iff.1 h
  simp [zeroValue, typeInfo, hi, hz]

theorem Nw.look_ok (h : Nw w R M n) {k : Int} (hk : I6 k) : (Instr.lookup (54 : TypeId) (.map (some M)) (.int .i64 k) true).run Try.prog w = .ok (.tuple #[((lk n.m k).map Pk.val).getD (Pk.val ⟨0, 0, []⟩), .bool (lk n.m k).isSome]) w := by
  obtain ⟨D, h1, _, h3⟩ := h.map
  rw [h1.look_ok K3 Try.underlying54 (zero73 w) (key3 hk), h3 k hk]
  simp

theorem Nw.look (h : Nw w R M n) {k : Int} (hk : I6 k) {p : Pk} (hp : lk n.m k = some p) : (Instr.lookup (54 : TypeId) (.map (some M)) (.int .i64 k) false).run Try.prog w = .ok p.val w := by
  obtain ⟨D, h1, _, h3⟩ := h.map
  rw [h1.look K3 Try.underlying54 (zero73 w) (key3 hk), h3 k hk, hp]
  rfl

/-- A packet is laid into the map behind the number that was set. -/
theorem Nw.store {last' : Int} (h : Nw w R M n) (hw : w'.heap[M]? = w.heap[M]?) (ho : w'.heap[R]? = some (.cells (ncs R M (n.last + 1)) (56 : TypeId) (0, 0))) {p : Pk} (hp : p.Ok) (hf : n.m.length < 256) (hl : n.last < 9223372036854775807) (e : last' = n.last + 1) :
    ∃ X, (Instr.mapUpdate (54 : TypeId) (.map (some M)) (.int .i64 last') p.val).run Try.prog w' = .ok () X ∧ Nw X R M (n.put p) ∧ w'.mapTurned X M := by
  subst e
  have hne := h.ne
  obtain ⟨D, h1, h2, h3⟩ := h.map
  have hk : I6 (n.last + 1) := by have := h.ok.last; unfold I6; omega
  have g1 := h1.heap hw
  obtain ⟨X, hr, h4, h5⟩ := g1.store K3 Try.underlying54 (by rw [h2]; unfold maxLen; omega) (key3 hk) p.val
  have hR : R < w'.heap.size := heap_lt ho
  refine ⟨X, hr, ⟨h.ok.put hp hf hl, ?_, _, h4, ?_, fun k hk' => ?_⟩, h5⟩
  · rw [h5.grown.block R hR (by simpa using hne)]
    exact ho
  · rw [Maps.size_put (g1.own.tidy K3), has_gt g1 K3 (key3 hk), h3 _ hk, h2, h.ok.fresh]
    simp [Nt.put]
  · rw [Nt.put_st h.ok]
    by_cases e : k = n.last + 1
    · subst e
      rw [gt_put_same g1.isMap (K3.key (key3 hk)), lk_st_same]
      rfl
    · rw [gt_put_other (by simpa using e), lk_st_other e, h3 k hk']

theorem Nw.delete (h : Nw w R M n) {k : Int} (hk : I6 k) (ty : TypeId) :
    ∃ X, (Builtin.delete_ #[(54 : TypeId), 3] ty #[.map (some M), .int .i64 k]).run Try.prog w = .ok (.tuple #[]) X ∧ Nw X R M (n.drop k) ∧ w.mapTurned X M := by
  have hne := h.ne
  obtain ⟨D, h1, h2, h3⟩ := h.map
  obtain ⟨X, hr, h4, h5⟩ := h1.drop K3 Try.underlying54 (key3 hk) ty
  refine ⟨X, hr, ⟨h.ok.drop k, ?_, _, h4, ?_, fun k' hk' => ?_⟩, h5⟩
  · rw [h5.grown.block R h.lt (by simpa using hne)]
    exact h.obj
  · have h6 := Maps.size_del (k := .int .i64 k) (h1.own.tidy K3)
    rw [has_gt h1 K3 (key3 hk), h3 k hk, h2] at h6
    have := dl_length (k := k) h.ok.un
    simp only [Option.isSome_map] at h6
    simp only [Nt.drop]
    omega
  · simp only [Nt.drop]
    by_cases e : k' = k
    · subst e
      rw [gt_del_same, lk_dl_same]
      rfl
    · rw [gt_del_other (by simpa using e), lk_dl_other e, h3 k' hk']
end

theorem eql_self {P : Program} {w : World} {tp te : TypeId} {j : TypeInfo} (a : Addr) (hp : P.underlying tp = some (.pointer te)) (hte : P.info? te = some j) : (binOp .eql tp (.pointer (some a)) (.pointer (some a))).run P w = .ok (.bool true) w := by
  have h : ∀ d : Nat, (Op.equalIn (d + 1) tp (.pointer (some a)) (.pointer (some a))).run P w = .ok true w := fun d => by simp [Op.equalIn, run_underlying hp, typeInfo, sizeOf, run_sameAddr_same, hte]
  simp only [binOp]
  simp [Op.equal, Op.maxDepth, h 9999]

theorem eql_nil {P : Program} {w : World} {tp te : TypeId} (a : Addr) (hp : P.underlying tp = some (.pointer te)) : (binOp .eql tp (.pointer none) (.pointer (some a))).run P w = .ok (.bool false) w := by
  have h : ∀ d : Nat, (Op.equalIn (d + 1) tp (.pointer none) (.pointer (some a))).run P w = .ok false w := fun d => by simp [Op.equalIn, run_underlying hp]
  simp only [binOp]
  simp [Op.equal, Op.maxDepth, h 9999]

theorem info56 : ∃ j, Try.prog.info? (56 : TypeId) = some j := by
  have h : (Try.prog.info? (56 : TypeId)).isSome = true := by kernel_rfl
  exact Option.isSome_iff_exists.1 h

set_option maxHeartbeats 400000 in
theorem made_yes {R M : Nat} {w : World} {n : Nt} (h : Nw w R M n) :
    Calls Try.prog 32 #[.pointer (some ⟨R, 0, none⟩)] w fun e w' => e = .returned (.bool true) ∧ w' = w := by
  have h0 : w.cell? ⟨R, 0, none⟩ = some (.pointer (some ⟨R, 0, none⟩)) := h.c 0
  clear h
  obtain ⟨j, hj⟩ := info56
  have he := eql_self (P := Try.prog) (w := w) (tp := (22 : TypeId)) (te := (56 : TypeId)) ⟨R, 0, none⟩ Try.underlying22 hj
  go_enter Try.func32, Try.ntmps32
  go_wp2_with fail
  go_ret
  exact ⟨rfl, rfl⟩

set_option maxHeartbeats 400000 in
theorem made_nil (w : World) :
    Calls Try.prog 32 #[.pointer none] w fun e w' => e = .returned (.bool false) ∧ w' = w := by
  go_enter Try.func32, Try.ntmps32
  go_wp2_with fail
  go_ret
  exact ⟨rfl, rfl⟩

set_option maxHeartbeats 400000 in
theorem made_zero {R : Nat} {w : World} (h0 : w.cell? ⟨R, 0, none⟩ = some (.pointer none)) :
    Calls Try.prog 32 #[.pointer (some ⟨R, 0, none⟩)] w fun e w' => e = .returned (.bool false) ∧ w' = w := by
  have he := eql_nil (P := Try.prog) (w := w) (tp := (22 : TypeId)) (te := (56 : TypeId)) ⟨R, 0, none⟩ Try.underlying22
  go_enter Try.func32, Try.ntmps32
  go_wp2_with fail
  go_ret
  exact ⟨rfl, rfl⟩

/-- What put answers. -/
def Nt.putA (n : Nt) : Int × Int := if 256 ≤ n.m.length then (0, 5) else (n.last + 1, 0)
/-- What it leaves. -/
def Nt.putN (n : Nt) (p : Pk) : Nt := if 256 ≤ n.m.length then n else n.put p

end Go.Proofs.Ythakbelcefogaaa

/-
  How places, entries, batches, commands and messages lie in cells; lists that are made one by one.
-/
import Derived.Test.YtnimfkcnkkjlkaaPk9bf0f6a5
import Derived.Laws.AppendOwn
namespace Go.Proofs.Ytnimfkcnkkjlkaa
open Go.RowKit
set_option maxRecDepth 100000

def LPlace : Lay Cod.Place := LIs (LPr LTx LI64) (fun p => (p.topic, p.part))
theorem LPlace.k : Lk [] LPlace := (LTx.k.pr LI64.k).is _
theorem LPlace.r : Lr LPlace RPlace 2 := fun _ _ _ _ _ hl hc => by
  obtain ⟨e, r1, r2⟩ := Lr.pr LTx.r LI64.r hl hc
  exact ⟨e, r1, r2.1, r2.2.1, r2.2.2⟩
def LEntry : Lay Cod.Entry := LIs (LPr LI64 LBy) (fun e => (e.term, e.data))
theorem LEntry.k : Lk [5] LEntry := (LI64.k.pr LBy.k).is _
theorem LEntry.r : Lr LEntry REntry 2 := fun _ _ _ _ _ hl hc => by
  obtain ⟨e, r1, r2⟩ := Lr.pr LI64.r LBy.r hl hc
  exact ⟨e, r1.1, r2, r1.2⟩
def LRecs : Lay (List (List Int)) := LLs (22 : TypeId) 1 LBy
theorem LRecs.k : Lk [(22 : TypeId), 5] LRecs := LBy.k.ls _ _
def LTxs : Lay (List (List Int)) := LLs 9 1 LTx
theorem LTxs.k : Lk [9] LTxs := LTx.k.ls _ _
def LBatch : Lay Cod.Batch := LIs (LPr LI64 (LPr LI64 (LPr LI64 LRecs))) (fun b => (b.pid, b.epoch, b.first, b.records))
theorem LBatch.k : Lk [(22 : TypeId), 5] LBatch := (LI64.k.pr (LI64.k.pr (LI64.k.pr LRecs.k))).is _
def LPartC : Lay Cod.PartC := LIs (LPr LU8 (LPr LBatch LI64)) (fun c => (c.kind, c.batch, c.offset))
theorem LPartC.k : Lk [(22 : TypeId), 5] LPartC := (LU8.k.pr (LBatch.k.pr LI64.k)).is _
def LMetaC : Lay Cod.MetaC := LIs (LPr LU8 (LPr LTx (LPr LTx (LPr LI64 (LPr LTxs (LPr LPlace (LPr LI64 (LPr LI64 (LPr LI64 LI64))))))))) (fun c => (c.kind, c.group, c.name, c.n, c.topics, c.place, c.offset, c.now, c.client, c.call))
theorem LMetaC.k : Lk [9] LMetaC := (LU8.k.pr (LTx.k.pr (LTx.k.pr (LI64.k.pr (LTxs.k.pr (LPlace.k.pr (LI64.k.pr (LI64.k.pr (LI64.k.pr LI64.k))))))))).is _
def LEnts : Lay (List Cod.Entry) := LLs (41 : TypeId) 2 LEntry
theorem LEnts.k : Lk [(41 : TypeId), 5] LEnts := LEntry.k.ls _ _
def LRaft : Lay Cod.Raft := LIs (LPr LTx (LPr LU8 (LPr LI64 (LPr LI64 (LPr LI64 (LPr LI64 (LPr LI64 (LPr LI64 (LPr LI64 (LPr LBl (LPr LEnts LBy))))))))))) (fun m => (m.group, m.kind, m.from', m.to, m.term, m.index, m.logTerm, m.commit, m.round, m.ok, m.entries, m.snap))
theorem LRaft.k : Lk [(41 : TypeId), 5, 5] LRaft := (LTx.k.pr (LU8.k.pr (LI64.k.pr (LI64.k.pr (LI64.k.pr (LI64.k.pr (LI64.k.pr (LI64.k.pr (LI64.k.pr (LBl.k.pr (LEnts.k.pr LBy.k))))))))))).is _

/-- A list that is being made, one by one: u is it. -/
structure Tk {α : Type} (T : TypeId) (size : Nat) (L : Lay α) (base : Nat) (r : List α) (u : Value) (w : World) : Prop where
  is : ∃ css : List (List Value), w.ownsRow base T size u r.length css.flatten ∧ css.length = r.length ∧ ∀ i (h : i < r.length), (css.getD i []).length = size ∧ L w r[i] (css.getD i [])

section
variable {α : Type} {T : TypeId} {size base : Nat} {L : Lay α} {ts : List TypeId} {r : List α} {u u' : Value} {w w' : World}

theorem Tk.nil (w : World) : Tk T size L base ([] : List α) (.slice none 0 0) w := ⟨[], World.ownsRow_nil _ _ _ _, rfl, fun i h => by simp at h⟩

theorem Tk.val (h : Tk T size L base r u w) : ∃ a d, u = .slice a r.length d := by
  obtain ⟨css, h1, _⟩ := h.is
  rcases h1.2 with ⟨h2, h3⟩ | ⟨g, c, cur, h2, _⟩
  · exact ⟨none, 0, by rw [h2, h3]⟩
  · exact ⟨_, _, h2⟩

theorem Tk.keep {t : TypeId} (h : Tk T size L base r u w) (hL : Lk ts L) (hk : Kt t w w') (h1 : T ≠ t) (h2 : t ∉ ts) : Tk T size L base r u w' := by
  obtain ⟨css, k1, k2, k3⟩ := h.is
  exact ⟨css, hk.own k1 h1, k2, fun i hi => ⟨(k3 i hi).1, hL t w w' _ _ h2 hk (k3 i hi).2⟩⟩

theorem Tk.push (h : Tk T size L base r u w) (hL : Lk ts L) (hT : T ∉ ts) {x : α} {cs : List Value} (hx : L w x cs) (hs : cs.length = size) (hf : ∀ css : List (List Value), w.ownsRow base T size u r.length css.flatten → w'.ownsRow base T size u' (r.length + 1) (css.flatten ++ cs))
    (hg : w.grownBy w' u.ownBlock) : Tk T size L base (r ++ [x]) u' w' := by
  obtain ⟨css, k1, k2, k3⟩ := h.is
  have hk : Kt T w w' := Kt.grown k1 hg
  refine ⟨css ++ [cs], ?_, by simp [k2], fun i hi => ?_⟩
  · have := hf css k1
    simpa using this
  · rw [List.length_append, List.length_singleton] at hi
    rcases Nat.lt_or_ge i r.length with hlt | hge
    · have e1 : (css ++ [cs]).getD i [] = css.getD i [] := by
        simp [List.getD, List.getElem?_append_left (show i < css.length by omega)]
      rw [e1, List.getElem_append_left hlt]
      exact ⟨(k3 i hlt).1, hL T w w' _ _ hT hk (k3 i hlt).2⟩
    · obtain rfl : i = r.length := by omega
      have e1 : (css ++ [cs]).getD r.length [] = cs := by
        rw [← k2]
        simp [List.getD]
      rw [e1]
      refine ⟨hs, ?_⟩
      have := hL T w w' _ _ hT hk hx
      simpa using this

theorem chunk (size : Nat) : ∀ (css : List (List Value)) (i : Nat), (∀ j, j < css.length → (css.getD j []).length = size) → i < css.length → (css.flatten.drop (i * size)).take size = css.getD i [] := by
  intro css
  induction css with
  | nil => intro i _ hi; simp at hi
  | cons c css ih =>
    intro i hc hi
    have h0 : c.length = size := by simpa using hc 0 (by simp)
    cases i with
    | zero => simp [← h0]
    | succ i =>
      have h1 := ih i (fun j hj => by simpa using hc (j + 1) (by simpa using hj)) (by simpa using hi)
      have e : (i + 1) * size = c.length + i * size := by rw [h0, Nat.add_mul]; omega
      rw [List.flatten_cons, e, ← List.drop_drop, List.drop_left, h1]
      simp

theorem Tk.lay (h : Tk T size L base r u w) : LLs T size L w r [u] := by
  obtain ⟨css, k1, k2, k3⟩ := h.is
  obtain ⟨a, d, rfl⟩ := h.val
  refine ⟨a, r.length, d, rfl, rfl, ?_⟩
  rcases k1.2 with ⟨h2, h3⟩ | ⟨g, c, cur, h2, _, hg, hle, hmax, hsz, htk⟩
  · simp only [Value.slice.injEq] at h2
    obtain ⟨rfl, _, rfl⟩ := h2
    exact ⟨by omega, by omega, fun hm => by omega⟩
  · simp only [Value.slice.injEq, true_and] at h2
    obtain ⟨rfl, rfl⟩ := h2
    refine ⟨hle, by unfold maxLen at hmax; omega, fun _ => ⟨g, cur, (0, 0), rfl, hg, fun i hi => ?_⟩⟩
    have hch := chunk size css i (fun j hj => (k3 j (by omega)).1) (by omega)
    have e : (cur.toList.drop (i * size)).take size = css.getD i [] := by
      rw [← hch, ← htk, List.drop_take, List.take_take]
      congr 1
      have : (i + 1) * size ≤ r.length * size := Nat.mul_le_mul_right _ (by omega)
      rw [Nat.add_mul] at this
      omega
    rw [e]
    exact k3 i hi
end

end Go.Proofs.Ytnimfkcnkkjlkaa

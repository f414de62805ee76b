/-
  Lists of bytes that lie apart: an append that tells where it went; the marks.
-/
import Derived.Test.YtkdolabhcbjipaaGreatBas
import Derived.Deep.RegionWith
namespace Go.Proofs.YtkdolabhcbjipaaGreat
open Go.RowKit
set_option maxRecDepth 100000

/-- An append to a row that is owned: in its place, or in a new one, with nothing else turned. -/
theorem run_append_tells {P : Program} (w : World) (base : Nat) (t ty e : TypeId) (i : TypeInfo) (z : Value) (ht : P.underlying t = some (.slice e)) (hi : P.info? e = some i) (hz : i.zero = some z) (hsize : i.size = 1) (hby : i.bytes = 1) (hzs : z.cells.size = 1)
    (v : Value) (n : Nat) (xs : List Value) (hown : w.ownsRow base e 1 v n xs)
    (a : Addr) (m c : Nat) (news : List Value) (hl : news.length = m) (hnews : ∀ j u, news[j]? = some u → w.cell? (a.add j) = some u) (h1 : ∀ u ∈ news, u.oneCell' = true) (hm : 0 < m)
    (hroom : n + m ≤ 140737488355328) (hbase : base ≤ w.heap.size) :
    ∃ v' w', (Builtin.append_ #[t, t] ty #[v, .slice (some a) m c]).run P w = .ok v' w' ∧ w'.ownsRow base e 1 v' (n + m) (xs ++ news) ∧
      ((∃ g cap, v = .slice (some ⟨g, 0, none⟩) n cap ∧ v' = .slice (some ⟨g, 0, none⟩) (n + m) cap ∧ w.grownBy w' (some g)) ∨ (∃ d, v' = .slice (some ⟨w.heap.size, 0, none⟩) (n + m) d ∧ w.grownBy w' none)) := by
  have hxl : xs.length = n := by have := hown.1; omega
  have hlen : (xs ++ news).length = (n + m) * 1 := by rw [List.length_append, hxl, hl, Nat.mul_one]
  have grown : ∀ old : Nat, old < n + m →
      (w.drew.alloc (.cells (xs.toArray ++ news.toArray ++ Builtin.zeroCells z.cells (grownCap w (n + m) old e - (n + m))) e)).ownsRow base e 1
        (.slice (some ⟨w.heap.size, 0, none⟩) (n + m) (grownCap w (n + m) old e)) (n + m) (xs ++ news) ∧
      w.grownBy (w.drew.alloc (.cells (xs.toArray ++ news.toArray ++ Builtin.zeroCells z.cells (grownCap w (n + m) old e - (n + m))) e)) none := by
    intro old _
    have hge := grownCap_ge w (n + m) old e
    have hcm : grownCap w (n + m) old e ≤ maxLen := grownCap_le_maxLen w (n + m) old e (by unfold maxLen; omega)
    refine ⟨⟨hlen, .inr ⟨w.heap.size, _, _, rfl, hbase, heap_alloc_new w.drew _, hge, hcm, ?_, ?_⟩⟩, ⟨rfl, rfl, rfl, by simp, fun k hk _ => Below.heap_alloc w.drew _ k hk⟩⟩
    · simp only [Array.size_append, List.size_toArray, size_zeroCells, hzs, hxl, hl]
      omega
    · simp only [Array.toList_append, List.append_assoc]
      rw [← List.append_assoc, ← hlen]
      exact List.take_left
  rcases hown.2 with ⟨rfl, rfl⟩ | ⟨g, cap, cur, rfl, hbg, hg, hnc, hcm, hcs, htake⟩
  · have hx : xs = [] := List.eq_nil_of_length_eq_zero hxl
    subst hx
    have hr := run_append_nil (P := P) w t ty e i z ht hi hz a m c news (by rw [hsize, hl, Nat.mul_one]) hnews (by omega) (by omega) (by rw [hby]; omega)
    have hgr := grown 0 (by omega)
    simp only [Nat.zero_add, List.nil_append, Array.empty_append] at hgr ⊢
    exact ⟨_, _, hr, hgr.1, .inr ⟨_, rfl, hgr.2⟩⟩
  · by_cases hfit : n + m ≤ cap
    · obtain ⟨w', hr, ho, hgr⟩ := run_append_fits (P := P) w base t ty e i 1 ht hi hsize g n cap xs hown a m c news (by omega) hnews h1 hfit
      exact ⟨_, _, hr, ho, .inl ⟨g, cap, rfl, rfl, hgr⟩⟩
    · have holds : ∀ j u, xs[j]? = some u → w.cell? ((⟨g, 0, none⟩ : Addr).add j) = some u := hown.cells (g := g) rfl
      have hr := run_append_grow (P := P) w t ty e i z ht hi hz ⟨g, 0, none⟩ n cap xs (by rw [hsize]; exact hown.1) holds a m c news (by rw [hsize, hl, Nat.mul_one]) hnews (by omega) (by omega) (growslice_fits (by omega) (by rw [hby]; omega))
      have hgr := grown cap (by omega)
      exact ⟨_, _, hr, hgr.1, .inr ⟨_, rfl, hgr.2⟩⟩

theorem wpList_append_tells {P : Program} {w : World} {ops : Array Oper} {rest : List Oper} {o : Oper} {a : Act} {Q : Exit → Act → World → Prop} (hgd : o.guard = none) (s x : Operand) (t : TypeId)
    (ho : o.op = .call { callee := .builtin .append, args := #[s, x], argTypes := #[t, t] })
    (base : Nat) (e : TypeId) (i : TypeInfo) (z : Value) (ht : P.underlying t = some (.slice e)) (hi : P.info? e = some i) (hz : i.zero = some z) (hsize : i.size = 1) (hby : i.bytes = 1) (hzs : z.cells.size = 1)
    (v : Value) (n : Nat) (xs : List Value) (hs : a.eval s = v) (hown : w.ownsRow base e 1 v n xs)
    (ad : Addr) (m c : Nat) (news : List Value) (hx : a.eval x = .slice (some ad) m c) (hl : news.length = m) (hnews : ∀ j u, news[j]? = some u → w.cell? (ad.add j) = some u) (h1 : ∀ u ∈ news, u.oneCell' = true) (hm : 0 < m)
    (hroom : n + m ≤ 140737488355328) (hbase : base ≤ w.heap.size)
    (h : ∀ v' w', w'.ownsRow base e 1 v' (n + m) (xs ++ news) → ((∃ g cap, v = .slice (some ⟨g, 0, none⟩) n cap ∧ v' = .slice (some ⟨g, 0, none⟩) (n + m) cap ∧ w.grownBy w' (some g)) ∨ (∃ d, v' = .slice (some ⟨w.heap.size, 0, none⟩) (n + m) d ∧ w.grownBy w' none)) →
      wpList P ops Q rest (a.put o.dst v') w') :
    wpList P ops Q (o :: rest) a w := by
  refine wpList_plain hgd fun K hK => ?_
  obtain ⟨v', w', hr, h2, h3⟩ := run_append_tells (P := P) w base t o.type e i z ht hi hz hsize hby hzs v n xs hown ad m c news hl hnews h1 hm hroom hbase
  unfold Oper.wp execOp
  simp only [ho, resolve, invoke, builtin, Sem.run_bind, Sem.run_pure, Result.andThen_ok, List.map_toArray, List.map_cons, List.map_nil, hs, hx, hr]
  exact hK _ _ (h v' w' h2 h3)

/-- The mark of a place in a list. -/
def mb (k i : Nat) : Int := IntKind.u64.wrap ((1000003 * ((k : Int) + 7) + (i : Int)) * 11400714819323198485) / 72057594037927936 % 256
def MB (k n : Nat) : List Int := (List.range n).map (mb k)

theorem MB_length (k n : Nat) : (MB k n).length = n := by simp [MB]
theorem MB_succ (k n : Nat) : MB k (n + 1) = MB k n ++ [mb k n] := by simp [MB, List.range_succ]
theorem MB_get (k n i : Nat) (h : i < n) : (U (MB k n))[i]? = some (.int .u8 (mb k i)) := by simp [U, MB, h]
theorem MB_take (k m n : Nat) (h : m ≤ n) : (U (MB k n)).take m = U (MB k m) := by
  induction n with
  | zero => obtain rfl : m = 0 := by omega
            simp [MB, U]
  | succ n ih =>
    by_cases hm : m = n + 1
    · subst hm; rw [List.take_of_length_le (by rw [U_length, MB_length]; exact Nat.le_refl _)]
    · rw [MB_succ, U_append, List.take_append_of_le_length (by rw [U_length, MB_length]; omega), ih (by omega)]

/-- What is held of memory while lists are marked: the lists' own rows, the row for what grows, the list of lists. -/
structure St (w : World) (base L n : Nat) (V : Nat → Value) (ln : Nat → Nat) (gs : Nat) (Gl : List Value) (Y : Nat → List Value) (wr : World) : Prop where
  rows : ∀ k, k < n → wr.ownsRow base 5 1 (V k) (ln k) (Y k)
  grow : wr.ownsRow base 30 1 (.slice (some ⟨gs, 0, none⟩) n n) n Gl
  list : ∀ k, k < n → wr.cell? ⟨L, k, none⟩ = some (V k)
  bel : Below base w wr
  tw : ∀ b, b < w.heap.size → (∀ k, k < n → (V k).ownBlock ≠ some b) → wr.heap[b]? = w.heap[b]?
  new : w.heap.size ≤ gs

section
variable {w wr : World} {base L n gs : Nat} {V : Nat → Value} {ln : Nat → Nat} {Gl : List Value} {Y Y' : Nat → List Value}

theorem St.congr (h : St w base L n V ln gs Gl Y wr) (he : ∀ k, k < n → Y k = Y' k) : St w base L n V ln gs Gl Y' wr :=
  ⟨fun k hk => he k hk ▸ h.rows k hk, h.grow, h.list, h.bel, h.tw, h.new⟩

theorem St.drew (h : St w base L n V ln gs Gl Y wr) : St w base L n V ln gs Gl Y wr.drew := ⟨h.rows, h.grow, h.list, h.bel.drew, h.tw, h.new⟩

/-- A row of bytes is none of lists. -/
theorem own_differ {w : World} {base n m : Nat} {v u : Value} {xs ys : List Value} (h1 : w.ownsRow base 5 1 v n xs) (h2 : w.ownsRow base 30 1 u m ys) : v.ownBlock = none ∨ v.ownBlock ≠ u.ownBlock := by
  rcases h1.2 with ⟨rfl, _⟩ | ⟨g, cap, cur, rfl, _, hg, _⟩
  · exact .inl rfl
  · refine .inr fun e => ?_
    rcases h2.2 with ⟨rfl, _⟩ | ⟨g', cap', cur', rfl, _, hg', _⟩
    · simp [Value.ownBlock] at e
    · simp only [Value.ownBlock, Option.some.injEq] at e
      subst e
      rw [hg] at hg'
      simp at hg'

/-- A byte of one list is written. -/
theorem St.store (h : St w base L n V ln gs Gl Y wr) (hVL : ∀ k, k < n → (V k).ownBlock ≠ some L) (hd : ∀ j k, j < n → k < n → j ≠ k → (V j).ownBlock = none ∨ (V j).ownBlock ≠ (V k).ownBlock)
    {k g cap i : Nat} (hk : k < n) (hV : V k = .slice (some ⟨g, 0, none⟩) (ln k) cap) (u : Value) :
    St w base L n V ln gs Gl (fun j => if j = k then (Y k).set i u else Y j) (wr.setCell ⟨g, i, none⟩ u) := by
  have h0 := h.rows k hk
  rw [hV] at h0
  obtain ⟨hs, hg⟩ := h0.stored i u
  have hob : (V k).ownBlock = some g := by rw [hV]; rfl
  have hbg := (own_lt h0).1
  refine ⟨fun j hj => ?_, ?_, fun j hj => ?_, h.bel.setCell (p := ⟨g, i, none⟩) hbg u, fun b hb hn => (Below.heap_setCell wr ⟨g, i, none⟩ u b (fun e => hn k hk (by rw [hob]; simp only at e; rw [e]))).trans (h.tw b hb hn), h.new⟩
  · by_cases hjk : j = k
    · subst hjk; rw [if_pos rfl, hV]; exact hs
    · rw [if_neg hjk]
      exact (h.rows j hj).kept hg (by rw [← hob]; exact hd j k hj hk hjk)
  · refine h.grow.kept hg (.inr fun e => ?_)
    have := own_differ (h.rows k hk) h.grow
    rw [hob, e] at this
    simp at this
  · have hLg : L ≠ g := fun e => hVL k hk (by rw [hob, e])
    have hlt := cell_lt (h.list j hj)
    have e1 : (wr.setCell ⟨g, i, none⟩ u).cell? ⟨L, j, none⟩ = wr.cell? ⟨L, j, none⟩ := by
      have hb := hg.block L hlt (by simp [hLg])
      unfold World.cell?
      rw [hb]
    rw [e1]
    exact h.list j hj
end

end Go.Proofs.YtkdolabhcbjipaaGreat

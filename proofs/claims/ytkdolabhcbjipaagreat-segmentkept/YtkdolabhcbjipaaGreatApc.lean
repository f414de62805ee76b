/-
  Lists of bytes that lie apart: what is held while each is grown.
-/
import Derived.Test.YtkdolabhcbjipaaGreatApt
namespace Go.Proofs.YtkdolabhcbjipaaGreat
open Go.RowKit
set_option maxRecDepth 100000

theorem grown_comp {A B C : World} {row row' : Option Nat} (h1 : A.grownBy B row) (h2 : B.grownBy C row') (hr : ∀ b, row' = some b → row = some b ∨ A.heap.size ≤ b) : A.grownBy C row := by
  obtain ⟨a1, a2, a3, a4, a5⟩ := h1
  obtain ⟨b1, b2, b3, b4, b5⟩ := h2
  refine ⟨b1.trans a1, b2.trans a2, b3.trans a3, Nat.le_trans a4 b4, fun k hk hne => (b5 k (Nat.lt_of_lt_of_le hk a4) (fun e => ?_)).trans (a5 k hk hne)⟩
  rcases hr k e.symm with h | h
  · exact hne h.symm
  · omega

theorem own_prefix {w : World} {base g m cap n : Nat} {e : TypeId} {xs : List Value} (h : w.ownsRow base e 1 (.slice (some ⟨g, 0, none⟩) m cap) m xs) (hn : n ≤ m) : w.ownsRow base e 1 (.slice (some ⟨g, 0, none⟩) n cap) n (xs.take n) := by
  have hl := h.1
  rcases h.2 with ⟨h', _⟩ | ⟨g', cap', cur, h', hb, hg, hnc, hcm, hcs, ht⟩
  · cases h'
  · simp only [Value.slice.injEq, Option.some.injEq, Addr.mk.injEq, and_true, true_and] at h'
    obtain ⟨rfl, rfl⟩ := h'
    refine ⟨by simp; omega, .inr ⟨g, cap, cur, rfl, hb, hg, by omega, hcm, hcs, ?_⟩⟩
    rw [← ht, List.take_take, Nat.mul_one, Nat.mul_one, Nat.min_eq_left hn]

theorem own_some {w : World} {base n : Nat} {e : TypeId} {v : Value} {xs : List Value} {b : Nat} (h : w.ownsRow base e 1 v n xs) (hb : v.ownBlock = some b) : ∃ cap, v = .slice (some ⟨b, 0, none⟩) n cap := by
  rcases h.2 with ⟨rfl, _⟩ | ⟨g, cap, _, rfl, _⟩
  · cases hb
  · simp only [Value.ownBlock, Option.some.injEq] at hb
    subst hb
    exact ⟨cap, rfl⟩

/-- One list is being grown, j bytes have come. -/
structure In (wk : World) (base k j : Nat) (V : Nat → Value) (ln : Nat → Nat) (gv : Value) (wr : World) : Prop where
  frame : wk.grownBy wr (V k).ownBlock
  grows : wr.ownsRow base 5 1 gv (ln k + j) (U (MB k (ln k + j)))
  stays : wr.ownsRow base 5 1 (V k) (ln k) (U (MB k (ln k)))
  place : (gv = V k ∧ j = 0) ∨ (∃ g cap, V k = .slice (some ⟨g, 0, none⟩) (ln k) cap ∧ gv = .slice (some ⟨g, 0, none⟩) (ln k + j) cap) ∨ (∃ b, gv.ownBlock = some b ∧ wk.heap.size ≤ b)

theorem In.step {wk wr w' : World} {base k j : Nat} {V : Nat → Value} {ln : Nat → Nat} {gv v' : Value} (h : In wk base k j V ln gv wr) (hlow : ∀ b, (V k).ownBlock = some b → b < wk.heap.size) (o : Obj)
    (hown : w'.ownsRow base 5 1 v' (ln k + j + 1) (U (MB k (ln k + j)) ++ [.int .u8 (mb k (ln k + j))]))
    (hw : (∃ g cap, gv = .slice (some ⟨g, 0, none⟩) (ln k + j) cap ∧ v' = .slice (some ⟨g, 0, none⟩) (ln k + j + 1) cap ∧ (wr.alloc o).grownBy w' (some g)) ∨ (∃ d, v' = .slice (some ⟨(wr.alloc o).heap.size, 0, none⟩) (ln k + j + 1) d ∧ (wr.alloc o).grownBy w' none)) :
    In wk base k (j + 1) V ln v' w' := by
  have hgrows : w'.ownsRow base 5 1 v' (ln k + (j + 1)) (U (MB k (ln k + (j + 1)))) := by
    rw [← Nat.add_assoc, MB_succ, U_append]
    exact hown
  have hal : wk.grownBy (wr.alloc o) (V k).ownBlock := grown_comp h.frame (World.grownBy_alloc wr o none) (fun b hb => by cases hb)
  have hwk : wk.heap.size ≤ wr.heap.size := h.frame.size
  rcases hw with ⟨g, cap, e1, e2, hg⟩ | ⟨d, e2, hg⟩
  · have hin : (V k = .slice (some ⟨g, 0, none⟩) (ln k) cap) → In wk base k (j + 1) V ln v' w' := by
      intro hV
      have hob : (V k).ownBlock = some g := by rw [hV]; rfl
      refine ⟨grown_comp hal hg (fun b hb => .inl (by rw [hob]; exact hb)), hgrows, ?_, .inr (.inl ⟨g, cap, hV, by rw [e2]; rfl⟩)⟩
      rw [e2] at hgrows
      have hp := own_prefix (n := ln k) hgrows (by omega)
      rw [MB_take _ _ _ (by omega)] at hp
      rw [hV]
      exact hp
    rcases h.place with ⟨e3, e4⟩ | ⟨g', cap', e3, e4⟩ | ⟨b, e3, e4⟩
    · refine hin ?_
      rw [← e3, e1, e4]
      rfl
    · refine hin ?_
      rw [e1] at e4
      simp only [Value.slice.injEq, Option.some.injEq, Addr.mk.injEq, and_true, true_and] at e4
      obtain ⟨rfl, rfl⟩ := e4
      exact e3
    · rw [e1] at e3
      simp only [Value.ownBlock, Option.some.injEq] at e3
      subst e3
      refine ⟨grown_comp hal hg (fun b hb => .inr (by cases hb; exact e4)), hgrows, (h.stays.alloc o).kept hg ?_, .inr (.inr ⟨g, by rw [e2]; rfl, e4⟩)⟩
      cases hv : (V k).ownBlock with
      | none => exact .inl rfl
      | some b => refine .inr fun e => ?_
                  cases e
                  have := hlow _ hv
                  omega
  · refine ⟨grown_comp hal hg (fun b hb => by cases hb), hgrows, (h.stays.alloc o).kept hg (by cases (V k).ownBlock <;> simp), .inr (.inr ⟨_, by rw [e2]; rfl, ?_⟩)⟩
    simp
    omega

/-- k lists have been grown. -/
structure Gr (w : World) (base L n S k : Nat) (V : Nat → Value) (ln : Nat → Nat) (gs : Nat) (Gl : List Value) (wr : World) : Prop where
  st : St w base L n V ln gs Gl (fun j => U (MB j (ln j))) wr
  got : ∀ j, j < k → wr.ownsRow base 5 1 (Gl.getD j undef) (ln j + 40) (U (MB j (ln j + 40)))
  far : ∀ j, j < k → (Gl.getD j undef).ownBlock = (V j).ownBlock ∨ ∃ b, (Gl.getD j undef).ownBlock = some b ∧ S ≤ b
  siz : S ≤ wr.heap.size

theorem Gr.next {w wk wr : World} {base L n S k gs : Nat} {V : Nat → Value} {ln : Nat → Nat} {Gl : List Value} {gv : Value} (h : Gr w base L n S k V ln gs Gl wk) (hk : k < n) (hi : In wk base k 40 V ln gv wr)
    (hVL : ∀ k, k < n → (V k).ownBlock ≠ some L) (hLg : L ≠ gs) (hd : ∀ j k, j < n → k < n → j ≠ k → (V j).ownBlock = none ∨ (V j).ownBlock ≠ (V k).ownBlock) (hlow : ∀ k, k < n → ∀ b, (V k).ownBlock = some b → b < S) :
    Gr w base L n S (k + 1) V ln gs (Gl.set k gv) (wr.setCell ⟨gs, k, none⟩ gv) := by
  have hgl : Gl.length = n := by have := h.st.grow.1; omega
  -- the lists' rows behind the growing
  have rows : ∀ j, j < n → wr.ownsRow base 5 1 (V j) (ln j) (U (MB j (ln j))) := by
    intro j hj
    by_cases hjk : j = k
    · subst hjk; exact hi.stays
    · exact (h.st.rows j hj).kept hi.frame (hd j k hj hk hjk)
  have grow : wr.ownsRow base 30 1 (.slice (some ⟨gs, 0, none⟩) n n) n Gl := by
    refine h.st.grow.kept hi.frame (.inr fun e => ?_)
    have := own_differ (h.st.rows k hk) h.st.grow
    rw [e] at this
    rcases this with h' | h'
    · rw [← e] at h'; cases h'
    · exact h' rfl
  obtain ⟨hs, hg⟩ := grow.stored k gv
  have keep : ∀ {v : Value} {m : Nat} {xs : List Value}, wr.ownsRow base 5 1 v m xs → (wr.setCell ⟨gs, k, none⟩ gv).ownsRow base 5 1 v m xs := by
    intro v m xs hv
    exact hv.kept hg (own_differ hv grow)
  have hbg : base ≤ gs := (own_lt grow).1
  have hgw : gs < wk.heap.size := (own_lt h.st.grow).2
  have belw : Below base w wr := h.st.bel.grown hi.frame (by omega) (fun b hb => ((h.st.rows k hk).lt b hb).1)
  have frameSet : ∀ b, b ≠ gs → b < wr.heap.size → (wr.setCell ⟨gs, k, none⟩ gv).heap[b]? = wr.heap[b]? := fun b hb hlt => hg.block b hlt (by simp [hb])
  have hdj : ∀ j, j < k → (Gl.getD j undef).ownBlock = none ∨ (Gl.getD j undef).ownBlock ≠ (V k).ownBlock := by
    intro j hj
    rcases h.far j hj with e | ⟨b, e, hb⟩
    · rw [e]
      exact hd j k (by omega) hk (by omega)
    · refine .inr fun e' => ?_
      rw [e] at e'
      have := hlow k hk b e'.symm
      omega
  have getk : (Gl.set k gv).getD k undef = gv := by simp [List.getD, hgl, hk]
  have getj : ∀ j, j ≠ k → (Gl.set k gv).getD j undef = Gl.getD j undef := by
    intro j hj
    simp [List.getD, Ne.symm hj]
  refine ⟨⟨fun j hj => keep (rows j hj), hs, fun j hj => ?_, belw.setCell (p := ⟨gs, k, none⟩) hbg gv, fun b hb hn => (Below.heap_setCell wr ⟨gs, k, none⟩ gv b (fun e => by have := h.st.new; simp only at e; omega)).trans ((hi.frame.block b (Nat.lt_of_lt_of_le hb h.st.bel.size) (fun e => hn k hk e.symm)).trans (h.st.tw b hb hn)), h.st.new⟩, fun j hj => ?_, fun j hj => ?_, ?_⟩
  · have hlt : L < wk.heap.size := cell_lt (h.st.list j hj)
    have hlt2 : L < wr.heap.size := Nat.lt_of_lt_of_le hlt hi.frame.size
    have e1 : (wr.setCell ⟨gs, k, none⟩ gv).cell? ⟨L, j, none⟩ = wr.cell? ⟨L, j, none⟩ := World.cell?_of_block (frameSet L hLg hlt2)
    have e2 : wr.cell? ⟨L, j, none⟩ = wk.cell? ⟨L, j, none⟩ := World.cell?_of_block (hi.frame.block L hlt (fun e => hVL k hk e.symm))
    rw [e1, e2]
    exact h.st.list j hj
  · by_cases hjk : j = k
    · subst hjk; rw [getk]; exact keep hi.grows
    · rw [getj j hjk]
      exact keep ((h.got j (by omega)).kept hi.frame (hdj j (by omega)))
  · by_cases hjk : j = k
    · subst hjk
      rw [getk]
      rcases hi.place with ⟨_, e⟩ | ⟨g, cap, e3, e4⟩ | ⟨b, e3, e4⟩
      · omega
      · exact .inl (by rw [e3, e4]; rfl)
      · exact .inr ⟨b, e3, Nat.le_trans h.siz e4⟩
    · rw [getj j hjk]
      exact h.far j (by omega)
  · have h1 := hi.frame.size
    have h2 := hg.size
    have h3 := h.siz
    omega

end Go.Proofs.YtkdolabhcbjipaaGreat

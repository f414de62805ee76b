/-
  The law's world: a task's turn.
-/
import Derived.Test.YtennciddjkijaaaCse
namespace Go.Proofs.Ytennciddjkijaaa
open Go.RowKit QI
set_option maxRecDepth 100000
set_option linter.unusedSimpArgs false

section
variable {w w' : World} {L B : Nat} {pv : Value} {σ : Sg} {F D F' D' Pb : Nat → Prop} {R : Nat} {bs bs' : List Nat} {run : Option Nat} {left : Nat} {pa : Option Addr} {np pcap : Nat} {ps : List (List Dop)}

/-- Programs in memory beside the law's world. -/
structure Pg (w : World) (Pb D : Nat → Prop) (pa : Option Addr) (np pcap : Nat) (ps : List (List Dop)) : Prop where
  pgs : Pgs Pb w pa np pcap ps
  lt : ∀ k, Pb k → k < w.heap.size
  ap : ∀ k, Pb k → ¬ D k
theorem Pg.step (h : Pg w Pb D pa np pcap ps) (x : Wx w F D bs w' F' D' bs') : Pg w' Pb D' pa np pcap ps :=
  ⟨h.pgs.tb x.tb h.ap, fun k hk => Nat.lt_of_lt_of_le (h.lt k hk) x.tb.size, fun k hk hd => (x.dom k hd).elim (h.ap k hk) (fun h' => by have := h.lt k hk; omega)⟩
theorem Pg.below (h : Pg w Pb D pa np pcap ps) (hb : Below w.heap.size w w') : Pg w' Pb D pa np pcap ps :=
  ⟨h.pgs.tb (S := fun _ => False) (Tb.of_fresh hb) (fun _ _ h => h), fun k hk => Nat.lt_of_lt_of_le (h.lt k hk) hb.size, h.ap⟩

theorem Wd.c0 (h : Wd w L B pv R bs σ run left F D) : w.cell? ⟨B, 0, none⟩ = some (.pointer (some ⟨R, 0, none⟩)) := by
  obtain ⟨a, s, tv, ev, m, q1, _⟩ := h.ex
  rw [← q1]
  exact cell_of_row w B 0 _ _ _ m.blk
theorem Wd.c1 (h : Wd w L B pv R bs σ run left F D) : w.cell? ⟨B, 1, none⟩ = some pv := by
  obtain ⟨a, s, tv, ev, m, _⟩ := h.ex
  exact cell_of_row w B 1 _ _ _ m.blk
theorem Wd.c2 (h : Wd w L B pv R bs σ run left F D) : ∃ p cap, w.cell? ⟨B, 2, none⟩ = some (.slice p σ.tk.length cap) ∧ bs.length = σ.tk.length ∧ (0 < σ.tk.length → ∃ g, p = some ⟨g, 0, none⟩ ∧ ∀ k b, bs[k]? = some b → w.cell? ⟨g, k, none⟩ = some (.pointer (some ⟨b, 0, none⟩))) := by
  obtain ⟨a, s, tv, ev, m, q1, q2, _⟩ := h.ex
  subst q2
  have htr := m.tr
  rw [m.len] at htr
  obtain ⟨p, cap, rfl⟩ := row_val htr
  refine ⟨p, cap, cell_of_row w B 2 _ _ _ m.blk, by simpa using m.len, fun hn => ?_⟩
  rcases htr.2 with ⟨e, _⟩ | ⟨g, c, cur, e, _, hh, h1, h2, h3, h4⟩
  · simp only [Value.slice.injEq] at e; omega
  · simp only [Value.slice.injEq] at e
    obtain ⟨rfl, _, rfl⟩ := e
    refine ⟨g, rfl, fun k b hk => ?_⟩
    rw [cell_of_row w g k _ _ _ hh]
    have hkl : k < s.ts.length := by
      have := (List.getElem?_eq_some_iff.1 hk).1
      simpa using this
    have e5 : (cur.toList.take (σ.tk.length * 1))[k]? = some (.pointer (some ⟨b, 0, none⟩)) := by
      rw [h4]
      rw [List.getElem?_map] at hk ⊢
      obtain ⟨t, ht, rfl⟩ := Option.map_eq_some_iff.1 hk
      simp [ht]
    rw [List.getElem?_take] at e5
    split at e5
    · simpa using e5
    · cases e5
theorem Wd.len (h : Wd w L B pv R bs σ run left F D) : bs.length = σ.tk.length := by
  obtain ⟨_, _, _, h1, _⟩ := h.c2
  exact h1
theorem Wd.fcell (h : Wd w L B pv R bs σ run left F D) : ∀ k, F k → D k := by
  obtain ⟨a, s, tv, ev, m, _, _, _, _, hd⟩ := h.ex
  exact fun k hk => (hd k).2 (.inr (.inr (.inr (.inr (.inr hk)))))
theorem Wx.low (x : Wx w F D bs w' F' D' bs') (hL : L ≤ w.heap.size) : L ≤ w'.heap.size := Nat.le_trans hL x.tb.size

/-- Memory was made besides. -/
theorem Wx.fresh {V : World} (x : Wx w F D bs w' F' D' bs') (hV : Below w'.heap.size w' V) : Wx w F D bs V F' D' bs' :=
  ⟨x.tb.trans (T := fun _ => False) (Tb.of_fresh hV) (fun _ _ h => h.elim), x.dom, x.sub, fun k hk => (hV.block k (Nat.lt_of_lt_of_le (x.lt k hk) x.tb.size)).trans (x.kp k hk), x.bs, x.lt⟩
theorem Bx.below {V : World} {h1 h2 h3 h4 b prog at' : Nat} (x : Bx F w h1 h2 h3 h4 B b prog at') (hV : Below w.heap.size w V) : Bx F V h1 h2 h3 h4 B b prog at' :=
  ⟨x.f1, x.f2, x.f3, x.f4, (hV.block _ (heap_lt x.e1)).trans x.e1, (hV.block _ (heap_lt x.e2)).trans x.e2, (hV.block _ (heap_lt x.e3)).trans x.e3, (hV.block _ (heap_lt x.e4)).trans x.e4⟩

/-- What a turn leaves. -/
def TnW (w : World) (L B : Nat) (pv : Value) (R : Nat) (bs : List Nat) (σ' : Sg) (i : Nat) (F D : Nat → Prop) (w' : World) : Prop :=
  ∃ left' F' D' bs', Wd w' L B pv R bs' σ' (some i) left' F' D' ∧ Wx w F D bs w' F' D' bs'
theorem TnW.on {w w1 w2 : World} {σ' : Sg} {i : Nat} (x : Wx w F D bs w1 F' D' bs') (h : TnW w1 L B pv R bs' σ' i F' D' w2) : TnW w L B pv R bs σ' i F D w2 := by
  obtain ⟨l, F2, D2, b2, h1, h2⟩ := h
  exact ⟨l, F2, D2, b2, h1, x.trans h2⟩
theorem TnW.of {w1 : World} {σ' : Sg} {i left' : Nat} (x : Wx w F D bs w1 F' D' bs') (h : Wd w1 L B pv R bs' σ' (some i) left' F' D') : TnW w L B pv R bs σ' i F D w1 := ⟨left', F', D', bs', h, x⟩
end

end Go.Proofs.Ytennciddjkijaaa

/-
  The law's world: a task is spawned.
-/
import Derived.Test.YtennciddjkijaaaCsd
namespace Go.Proofs.Ytennciddjkijaaa
open Go.RowKit QI
set_option maxRecDepth 100000
set_option linter.unusedSimpArgs false

theorem infoP : (Try.prog.info? (44 : TypeId)).map (fun i => (i.zero, i.size, i.bytes)) = some (some (.pointer none), 1, 8) := by kernel_rfl

section
variable {X w2 Y w6 Z : World} {L B : Nat} {pv : Value} {a a' : Ad} {s : Rs} {σ : Sg} {F F' D : Nat → Prop} {tv tv' ev : Value} {R : Nat} {bs : List Nat} {run : Option Nat} {left : Nat} {b : Nat} {v : Value}

theorem Wm.grow (m : Wm X L B pv a s σ F tv ev) (x : Rp X a s w2 a' (s.spawn b v)) (hL : L ≤ X.heap.size) (_hbX : X.heap.size ≤ b) (bY : Below w2.heap.size w2 Y) (hrow : w6.ownsRow L (44 : TypeId) 1 tv' (s.ts.length + 1) (s.ts.map (fun t => .pointer (some ⟨t.b, 0, none⟩)) ++ [.pointer (some ⟨b, 0, none⟩)])) (hgr : Y.grownBy w6 tv.ownBlock) (ho : ∀ k, tv'.ownBlock = some k → tv.ownBlock = some k ∨ w2.heap.size ≤ k)
    (hZ : Hid (Z = w6.setCell ⟨B, 2, none⟩ tv')) (hF : ∀ k, F k → F' k) (hF' : ∀ k, F' k → F k ∨ (X.heap.size ≤ k ∧ k < w2.heap.size ∧ ¬ own a' (s.spawn b v) k)) (prog : Nat) (hN : Nx F' w2 v B b prog 0 0) :
    Wm Z L B pv a' (s.spawn b v) (σ.add prog) F' tv' ev ∧ (∀ k, dom B a' (s.spawn b v) F' tv' ev k → dom B a s F tv ev k ∨ X.heap.size ≤ k) ∧ Tb (dom B a s F tv ev) X Z ∧ Agr F X Z := by
  have t := x.x.tb
  have hz := t.size
  have hzY := bY.size
  have t6 : Tb (fun k => tv.ownBlock = some k) Y w6 := Tb.of_grown hgr (fun k e => e)
  have tZ : Tb (fun k => k = B) w6 Z := by rw [hZ.out]; exact Tb.set B 2 _ rfl
  have hB2 : w2.heap[B]? = some (.cells #[.pointer (some ⟨a.R, 0, none⟩), pv, tv, ev] (31 : TypeId) (0, 0)) := (t.block _ (heap_lt m.blk) m.Bn.1).trans m.blk
  have hBl : B < X.heap.size := heap_lt m.blk
  have hB6 : w6.heap[B]? = some (.cells #[.pointer (some ⟨a.R, 0, none⟩), pv, tv, ev] (31 : TypeId) (0, 0)) := (t6.block _ (by omega) (fun e => (m.tvn e).2.2.1 rfl)).trans ((bY.block _ (by omega)).trans hB2)
  have key : ∀ k, k < w2.heap.size → k ≠ B → tv.ownBlock ≠ some k → Z.heap[k]? = w2.heap[k]? := fun k hk n1 n2 => by
    rw [tZ.block k (by have := t6.size; omega) n1, t6.block k (by omega) n2, bY.block k hk]
  have hnew : ∀ k, own a' (s.spawn b v) k ∨ k = a'.Q → k < w2.heap.size ∧ k ≠ B ∧ tv.ownBlock ≠ some k := fun k hk => by
    rcases hk with hk | rfl
    · refine ⟨x.rt.m.own_lt hk, ?_⟩
      rcases x.x.own hk with h1 | h1
      · exact ⟨fun e => m.Bn.1 (e ▸ h1), fun e => (m.tvn e).1 h1⟩
      · exact ⟨by omega, fun e => by have := (m.tr.lt k e).2; omega⟩
    · rw [x.x.Q]
      exact ⟨by have := m.rt.m.sd.lt; omega, fun e => m.Bn.2 e.symm, fun e => (m.tvn e).2.1 rfl⟩
  have hFk : ∀ k, F' k → k < w2.heap.size ∧ k ≠ B ∧ tv.ownBlock ≠ some k ∧ ev.ownBlock ≠ some k ∧ L ≤ k ∧ ¬ own a' (s.spawn b v) k := fun k hk => by
    rcases hF' k hk with h1 | ⟨h1, h2, h3⟩
    · obtain ⟨z1, z2, z3, z4, z5, z6⟩ := m.fz k h1
      exact ⟨by omega, z4, z5, z6, z1, fun ho => (x.x.own ho).elim z3 (fun h' => by omega)⟩
    · exact ⟨h2, by omega, fun e => by have := (m.tr.lt k e).2; omega, fun e => by have := (m.er.lt k e).2; omega, by omega, h3⟩
  have hagZ : Agr F' w2 Z := fun k hk => key k (hFk k hk).1 (hFk k hk).2.1 (hFk k hk).2.2.1
  have hagX : Agr F X Z := fun k hk => (hagZ k (hF k hk)).trans (t.block k (m.fz k hk).2.1 (m.fz k hk).2.2.1)
  have tXZ : Tb (dom B a s F tv ev) X Z := ((t.mono (fun k _ hk => .inl hk) : Tb (dom B a s F tv ev) X w2).trans (Tb.of_fresh (S := fun k => tv.ownBlock = some k) bY) (fun k _ e => .inr (.inr (.inr (.inl e))))).trans t6 (fun k _ e => .inr (.inr (.inr (.inl e)))) |>.trans tZ (fun k _ e => .inr (.inr (.inl e)))
  refine ⟨⟨?_, ?_, ?_, ?_, ?_, fun k hk => ?_, by simp [Rs.spawn, Sg.add, m.ln, m.len], by simp [Rs.spawn, Sg.add, m.len], fun i u p hi hp => ?_⟩, fun k hk => ?_, tXZ, hagX⟩
  · rw [hZ.out, heap_setCell_same w6 B 2 _ _ _ hB6, x.x.R]
    rfl
  · exact x.rt.tb (S := fun k => ¬ (own a' (s.spawn b v) k ∨ k = a'.Q)) ⟨by rw [tXZ.os, t.os], by rw [tXZ.tape, t.tape], by rw [tXZ.output, t.output], by have := t6.size; have := tZ.size; omega, fun k _ hn => by
      have := Classical.byContradiction hn
      exact key k (hnew k this).1 (hnew k this).2.1 (hnew k this).2.2⟩ (fun k hk hn => hn hk)
  · have e1 : (s.spawn b v).ts.length = s.ts.length + 1 := by simp [Rs.spawn]
    have e2 : (s.spawn b v).ts.map (fun t => Value.pointer (some ⟨t.b, 0, none⟩)) = s.ts.map (fun t => .pointer (some ⟨t.b, 0, none⟩)) ++ [.pointer (some ⟨b, 0, none⟩)] := by simp [Rs.spawn]
    rw [e1, e2]
    refine row_tb hrow tZ (fun g hg e => ?_)
    subst e
    obtain ⟨c2, h2⟩ := row_type hrow hg
    exact ne_type h2 hB6 (by decide) rfl
  · refine row_heap m.er (fun g hg => ?_)
    have hgl := (m.er.lt g hg).2
    rw [key g (by omega) (m.evn hg).2.2 (fun e => (m.tvn e).2.2.2 hg), t.block g hgl (m.evn hg).1]
  · rintro k (hk | rfl | rfl)
    · rcases x.x.own hk with h1 | h1
      · exact m.lo k (.inl h1)
      · omega
    · rw [x.x.Q]; exact m.lo _ (.inr (.inl rfl))
    · exact m.lo _ (.inr (.inr rfl))
  · obtain ⟨z1, z2, z3, z4, z5, z6⟩ := hFk k hk
    have hs6 : w2.heap.size ≤ Z.heap.size := by have := t6.size; have := tZ.size; omega
    exact ⟨z5, by omega, z6, z2, fun e => (ho k e).elim z3 (fun h' => by omega), z4⟩
  · by_cases hk : i < s.ts.length
    · simp only [Rs.spawn, List.getElem?_append_left hk] at hi
      simp only [Sg.add, List.getElem?_append_left (show i < σ.tk.length by rw [← m.len]; exact hk)] at hp
      exact (m.cl i u p hi hp).keep hagX hF
    · have : i = s.ts.length := by
        have := (List.getElem?_eq_some_iff.1 hi).1
        simp only [Rs.spawn, List.length_append, List.length_cons, List.length_nil] at this
        omega
      subst this
      rw [m.len] at hp
      simp only [Rs.spawn, List.getElem?_concat_length, Option.some.injEq] at hi
      simp only [Sg.add, List.getElem?_concat_length, Option.some.injEq] at hp
      subst hi hp
      refine ⟨by simp, fun _ => ⟨hN.keep hagZ (fun _ h => h), rfl⟩, fun h => ?_, fun h => ?_, fun h => ?_⟩ <;> simp at h
  · rcases hk with hk | rfl | rfl | hk | hk | hk
    · exact (x.x.own hk).elim (fun h' => .inl (.inl h')) .inr
    · exact .inl (.inr (.inl x.x.Q))
    · exact .inl (.inr (.inr (.inl rfl)))
    · exact (ho k hk).elim (fun h' => .inl (.inr (.inr (.inr (.inl h'))))) (fun h' => .inr (by omega))
    · exact .inl (.inr (.inr (.inr (.inr (.inl hk)))))
    · rcases hF' k hk with h1 | h1
      · exact .inl (.inr (.inr (.inr (.inr (.inr h1)))))
      · exact .inr h1.1
end

section
variable {w : World} {L B : Nat} {pv : Value} {σ : Sg} {F D : Nat → Prop} {R : Nat} {bs : List Nat} {run : Option Nat} {left : Nat}

/-- What a spawn leaves. -/
def SpW (w : World) (L B : Nat) (pv : Value) (R : Nat) (bs : List Nat) (σ : Sg) (run : Option Nat) (left : Nat) (F D : Nat → Prop) (prog : Nat) (w' : World) : Prop :=
  ∃ F' D' bs', Wd w' L B pv R bs' (σ.spawn prog) run left F' D' ∧ Wx w F D bs w' F' D' bs'

set_option maxHeartbeats 2000000 in
theorem wspawn (h : Wd w L B pv R bs σ run left F D) (hL : L ≤ w.heap.size) (hl : σ.tk.length ≤ 1000000) (prog : Nat) :
    Calls Try.prog 9 #[.pointer (some ⟨B, 0, none⟩), .int .i64 prog] w fun e w' => e = .returned (.int .i64 (if σ.opn = 256 then 5 else 0)) ∧ SpW w L B pv R bs σ run left F D prog w' := by
  obtain ⟨X, hX⟩ : ∃ X, Hid (X = w.alloc (.cells #[.pointer (some ⟨B, 0, none⟩)] (25 : TypeId))) := ⟨_, hide rfl⟩
  have bX : Below w.heap.size w X := by rw [hX.out]; exact (Below.refl _ w).alloc (Nat.le_refl _) _
  have hXs : X.heap.size = w.heap.size + 1 := by rw [hX.out]; simp
  obtain ⟨V, hV⟩ : ∃ V, Hid (V = X.alloc (.cells #[.int .i64 prog] 3)) := ⟨_, hide rfl⟩
  have bV : Below X.heap.size X V := by rw [hV.out]; exact (Below.refl _ X).alloc (Nat.le_refl _) _
  have hVs : V.heap.size = X.heap.size + 1 := by rw [hV.out]; simp
  have bwV : Below w.heap.size w V := bX.trans (bV.mono bX.size)
  have e1 : V.heap[w.heap.size]? = some (.cells #[.pointer (some ⟨B, 0, none⟩)] (25 : TypeId) (0, 0)) := by
    rw [bV.block _ (by omega), hX.out]
    exact heap_alloc_new w _
  have e2 : V.heap[X.heap.size]? = some (.cells #[.int .i64 prog] 3 (0, 0)) := by rw [hV.out]; exact heap_alloc_new X _
  obtain ⟨wd1, wx1⟩ := h.box (w' := V) (N := fun k => k = w.heap.size ∨ k = X.heap.size) bwV hL (fun k hk => by omega)
  obtain ⟨a, s, tv, ev, m, q1, q2, q3, q4, hd⟩ := wd1.ex
  obtain ⟨p, cap, rfl⟩ := row_val m.tr
  have c0 : V.cell? ⟨B, 0, none⟩ = some (.pointer (some ⟨R, 0, none⟩)) := by rw [← q1]; exact cell_of_row V B 0 _ _ _ m.blk
  have d1 : V.cell? ⟨w.heap.size, 0, none⟩ = some (.pointer (some ⟨B, 0, none⟩)) := cell_of_row V _ 0 _ _ _ e1
  have hlt := m.len
  obtain ⟨H1, hH1⟩ : ∃ H1, Hid (H1 = w.heap.size) := ⟨_, hide rfl⟩
  obtain ⟨H2, hH2⟩ : ∃ H2, Hid (H2 = X.heap.size) := ⟨_, hide rfl⟩
  have HH1 : Hid (w.heap.size = H1) := hide hH1.out.symm
  have HH2 : Hid (X.heap.size = H2) := hide hH2.out.symm
  have hLV : L ≤ V.heap.size := by omega
  by_cases hfull : σ.opn = 256
  · rw [if_pos hfull]
    have CS := spawn_full m.rt (by rw [m.opn]; exact hfull) (.func 42) #[] #[.pointer (some ⟨w.heap.size, 0, none⟩), .pointer (some ⟨X.heap.size, 0, none⟩)]
    have HC : Hid (Calls Try.prog 23 #[.pointer (some ⟨R, 0, none⟩), .func (.func 42) #[] #[.pointer (some ⟨H1, 0, none⟩), .pointer (some ⟨H2, 0, none⟩)]] V fun e w' => e = .returned (.tuple #[.pointer none, .int .i64 5]) ∧ SpW w L B pv R bs σ run left F D prog w') := hide (by
      rw [hH1.out, hH2.out, ← q1]
      refine CS.mono ?_
      rintro e w' ⟨rfl, x'⟩
      refine ⟨rfl, ?_⟩
      obtain ⟨D', y1, y2⟩ := m.wd (σ' := σ) (F' := fun k => F k ∨ (k = w.heap.size ∨ k = X.heap.size)) hd x' rfl hLV (fun _ h => h) (fun _ h => .inl h) rfl m.ln m.len (fun hag j u q hj hq => (m.cl j u q hj hq).keep hag (fun _ h => h))
      rw [q3, q4, q2] at y1
      rw [q2] at y2
      refine ⟨_, D', bs, ?_, wx1.trans y2⟩
      rw [show σ.spawn prog = σ from if_pos hfull]
      exact y1)
    clear CS m wd1 wx1 hd h hL hl bX bV bwV e1 e2 q1 q2 q3 q4 hXs hVs hlt hLV hfull
    obtain ⟨P, hP⟩ : ∃ P : World → Prop, Hid (P = SpW w L B pv R bs σ run left F D prog) := ⟨_, hide rfl⟩
    rw [← hP.out] at HC ⊢
    rw [← hH1.out] at d1
    go_enter Try.func9, Try.ntmps9
    go_wp2_with (first | (rw [← hX.out, HH1.out]) | (rw [← hV.out, HH2.out]))
    refine HC.out.mono ?_
    rintro e w1 ⟨rfl, hF⟩
    go_wp2_with fail
    go_ret
    exact ⟨rfl, hF⟩
  · rw [if_neg hfull]
    have hroom : s.lives.length < 256 := by
      have h1 := m.rt.ok.room
      have h2 := m.opn
      omega
    have CS := spawn_yes m.rt hroom (by omega) (.func 42) #[] #[.pointer (some ⟨w.heap.size, 0, none⟩), .pointer (some ⟨X.heap.size, 0, none⟩)]
    obtain ⟨t1, ht1⟩ := Option.map_eq_some_iff.1 infoP
    simp only [Prod.mk.injEq] at ht1
    obtain ⟨n, hn⟩ : ∃ n, Hid (n = s.ts.length) := ⟨_, hide rfl⟩
    have hnl : n ≤ 1000000 := by have := hn.out; omega
    obtain ⟨xs, hxs⟩ : ∃ xs, Hid (xs = s.ts.map fun t => Value.pointer (some ⟨t.b, 0, none⟩)) := ⟨_, hide rfl⟩
    have HT : Hid (∀ b w2, SpP V a s (.func (.func 42) #[] #[.pointer (some ⟨w.heap.size, 0, none⟩), .pointer (some ⟨X.heap.size, 0, none⟩)]) b w2 →
        w2.cell? ⟨H1, 0, none⟩ = some (.pointer (some ⟨B, 0, none⟩)) ∧ w2.cell? ⟨B, 2, none⟩ = some (.slice p n cap) ∧ (w2.alloc (.cells #[.pointer (some ⟨b, 0, none⟩)] (44 : TypeId))).cell? ⟨H1, 0, none⟩ = some (.pointer (some ⟨B, 0, none⟩)) ∧ (w2.alloc (.cells #[.pointer (some ⟨b, 0, none⟩)] (44 : TypeId))).cell? ⟨B, 2, none⟩ = some (.slice p n cap) ∧
        Hid ((w2.drew.alloc (.cells #[.pointer (some ⟨b, 0, none⟩)] (44 : TypeId))).ownsRow L (44 : TypeId) 1 (.slice p n cap) n xs) ∧ Hid (L ≤ w2.heap.size) ∧
        Hid (∀ g d w6, w6.ownsRow L (44 : TypeId) 1 (.slice (some ⟨g, 0, none⟩) (n + 1) d) (n + 1) (xs ++ [.pointer (some ⟨b, 0, none⟩)]) → (w2.drew.alloc (.cells #[.pointer (some ⟨b, 0, none⟩)] (44 : TypeId))).grownBy w6 (Value.slice p n cap).ownBlock → ((Value.slice p n cap).ownBlock = some g ∨ g = (w2.drew.alloc (.cells #[.pointer (some ⟨b, 0, none⟩)] (44 : TypeId))).heap.size) →
          w6.cell? ⟨H1, 0, none⟩ = some (.pointer (some ⟨B, 0, none⟩)) ∧ w6.cell? ⟨B, 2, none⟩ = some (.slice p n cap) ∧ w6.frozen? ⟨B, 2, none⟩ = false ∧ Hid (SpW w L B pv R bs σ run left F D prog (w6.setCell ⟨B, 2, none⟩ (.slice (some ⟨g, 0, none⟩) (n + 1) d))))) := hide (by
      intro b w2 hsp
      obtain ⟨a', g1, g2, x, hbV, z1, z2, z3, z4, z5, z6⟩ := hsp
      rw [hH1.out, hn.out, hxs.out]
      have t := x.x.tb
      have hz := t.size
      have hB2 : w2.heap[B]? = some (.cells #[.pointer (some ⟨a.R, 0, none⟩), pv, .slice p s.ts.length cap, ev] (31 : TypeId) (0, 0)) := (t.block _ (heap_lt m.blk) m.Bn.1).trans m.blk
      have hk1 : (fun k => F k ∨ (k = w.heap.size ∨ k = X.heap.size)) w.heap.size := .inr (.inl rfl)
      have hk2 : (fun k => F k ∨ (k = w.heap.size ∨ k = X.heap.size)) X.heap.size := .inr (.inr rfl)
      have f1 := m.fz _ hk1
      have f2 := m.fz _ hk2
      have e1' : w2.heap[w.heap.size]? = some (.cells #[.pointer (some ⟨B, 0, none⟩)] (25 : TypeId) (0, 0)) := (t.block _ f1.2.1 f1.2.2.1).trans e1
      have e2' : w2.heap[X.heap.size]? = some (.cells #[.int .i64 prog] 3 (0, 0)) := (t.block _ f2.2.1 f2.2.2.1).trans e2
      have bY : Below w2.heap.size w2 (w2.drew.alloc (.cells #[.pointer (some ⟨b, 0, none⟩)] (44 : TypeId))) := (Below.refl _ w2).drew.alloc (by simp) _
      have hYs : (w2.drew.alloc (.cells #[.pointer (some ⟨b, 0, none⟩)] (44 : TypeId))).heap.size = w2.heap.size + 1 := by simp
      have e1Y := (bY.block _ (heap_lt e1')).trans e1'
      have hBY := (bY.block _ (heap_lt hB2)).trans hB2
      have tr2 : w2.ownsRow L (44 : TypeId) 1 (.slice p s.ts.length cap) s.ts.length (s.ts.map fun t => .pointer (some ⟨t.b, 0, none⟩)) := row_tb m.tr t (fun g hg => (m.tvn hg).1)
      refine ⟨cell_of_row w2 _ 0 _ _ _ e1', cell_of_row w2 _ 2 _ _ _ hB2, cell_of_row _ _ 0 _ _ _ e1Y, cell_of_row _ _ 2 _ _ _ hBY, hide (row_tb (S := fun _ => False) tr2 (Tb.of_fresh bY) (fun _ _ h => h)), hide (by omega), hide (fun g d w6 ho hg hgg => ?_)⟩
      have t6 : Tb (fun k => (Value.slice p s.ts.length cap).ownBlock = some k) (w2.drew.alloc (.cells #[.pointer (some ⟨b, 0, none⟩)] (44 : TypeId))) w6 := Tb.of_grown hg (fun k e => e)
      have hB6 := (t6.block _ (heap_lt hBY) (fun e => (m.tvn e).2.2.1 rfl)).trans hBY
      have e16 := (t6.block _ (heap_lt e1Y) (fun e => by have := (m.fz _ hk1).2.2.2.2.1; exact this e)).trans e1Y
      refine ⟨cell_of_row w6 _ 0 _ _ _ e16, cell_of_row w6 _ 2 _ _ _ hB6, frozen_of_row w6 B 2 _ _ hB6, hide ?_⟩
      obtain ⟨m', y1, y2, y3⟩ := m.grow (F' := fun k => (F k ∨ (k = w.heap.size ∨ k = X.heap.size)) ∨ k = g1 ∨ k = g2) x hLV hbV bY ho hg (fun k hk => by
          simp only [Value.ownBlock, Option.some.injEq] at hk
          subst hk
          exact hgg.elim .inl (fun e => .inr (by omega))) (hide rfl) (fun _ h => .inl h) (fun k hk => by
          rcases hk with hk | rfl | rfl
          · exact .inl hk
          · exact .inr ⟨z1, heap_lt z3, z5⟩
          · exact .inr ⟨z2, heap_lt z4, z6⟩) prog (nx58 (.inr (.inl rfl)) (.inr (.inr rfl)) (.inl (.inr (.inl rfl))) (.inl (.inr (.inr rfl))) z3 z4 e1' e2')
      refine ⟨_, _, bs ++ [b], ⟨a', s.spawn b (spv g1 g2), _, ev, ?_, x.x.R.trans q1, by rw [← q2]; simp [Rs.spawn], q3, q4, fun k => Iff.rfl⟩, wx1.trans ⟨y2.mono (fun k _ hk => (hd k).2 hk), fun k hk => (y1 k hk).elim (fun h' => .inl ((hd k).2 h')) .inr, fun _ h => .inl h, y3, ⟨[b], rfl⟩, fun k hk => (m.fz k hk).2.1⟩⟩
      rw [show σ.spawn prog = σ.add prog from if_neg hfull]
      exact m')
    have HC : Hid (Calls Try.prog 23 #[.pointer (some ⟨R, 0, none⟩), .func (.func 42) #[] #[.pointer (some ⟨H1, 0, none⟩), .pointer (some ⟨H2, 0, none⟩)]] V fun e w' => ∃ b, e = .returned (.tuple #[.pointer (some ⟨b, 0, none⟩), .int .i64 0]) ∧ SpP V a s (.func (.func 42) #[] #[.pointer (some ⟨w.heap.size, 0, none⟩), .pointer (some ⟨X.heap.size, 0, none⟩)]) b w') := hide (by
      rw [hH1.out, hH2.out, ← q1]
      exact CS)
    clear CS m wd1 wx1 hd h hL hl bX bV bwV e1 e2 q1 q2 q3 q4 hXs hVs hlt hLV hfull hroom
    obtain ⟨P, hP⟩ : ∃ P : World → Prop, Hid (P = SpW w L B pv R bs σ run left F D prog) := ⟨_, hide rfl⟩
    rw [← hP.out] at HT ⊢
    rw [← hH1.out] at d1
    obtain ⟨hi, hz0, hz1, hz2⟩ := ht1
    go_enter Try.func9, Try.ntmps9
    go_wp2_with (first | (rw [← hX.out, HH1.out]) | (rw [← hV.out, HH2.out]))
    refine HC.out.mono ?_
    rintro e w2 ⟨b, rfl, hsp⟩
    obtain ⟨k1, k2, k3, k4, HO, HLw, HK⟩ := HT.out b w2 hsp
    clear HT HC hsp d1 c0
    go_wp2_with fail
    go_region_law (refine step_append_lies _ (by rfl) (.tmp 22) (.tmp 24) (28 : TypeId) (by rfl) L (44 : TypeId) t1 (.pointer none) 1 8 Try.underlying28 hi hz0 hz1 hz2 rfl (by omega) (.slice p n cap) n xs (by simp [Act.eval]) HO.out ⟨_, 0, none⟩ 1 1 [.pointer (some ⟨b, 0, none⟩)] (by simp [Act.eval]) rfl (cell_one_new _ _ _) (by simp [Value.oneCell']) (by omega) (by unfold maxLen; omega) (by omega) (by have := HLw.out; simp; omega) _ rfl ?_; intro g6 d6 w6 hown6 hgrow6 hg6 _; obtain ⟨j1, j2, j3, HP6⟩ := HK.out g6 d6 w6 hown6 hgrow6 hg6)
    all_goals (go_wp2_with fail; go_ret; exact ⟨rfl, HP6.out⟩)
end

end Go.Proofs.Ytennciddjkijaaa

/-
  Texts put into one.
-/
import Derived.Test.YtgjpbekmkhanhaaGreatMx541af68a
import Derived.Test.YtgjpbekmkhanhaaGreatMxaff4b391

/-
  The law's world: a channel is closed.
-/
namespace Go.Proofs.YtgjpbekmkhanhaaGreat.CH
open Go.RowKit QW
set_option maxRecDepth 100000

section
variable {w w' : World} {L B : Nat} {pv cv tvv : Value} {R : Nat} {zs : List Zc} {bs : List Nat} {m m' : Nat} {σ σ' : Sg} {run : Option Nat} {left : Nat} {lab lab' : Lb}

theorem Wm.below {ev : Value} {a : Ad} {s : Rs} {A : Nat → Bool} {K : Nat → Pkr} (h : Wm w L B pv cv tvv ev a s A zs m K σ lab) (hL : L ≤ w.heap.size) (hb : Below w.heap.size w w') : ∃ lab', Wm w' L B pv cv tvv ev a s A zs m K σ lab' ∧ Wy w lab w' lab' :=
  ⟨_, h.boxes hL hb (N := fun _ => False) (fun _ e => e.elim)⟩
theorem Wd.below (h : Wd w L B pv cv tvv R zs bs m σ run left lab) (hL : L ≤ w.heap.size) (hb : Below w.heap.size w w') : ∃ lab', Wd w' L B pv cv tvv R zs bs m σ run left lab' ∧ Wy w lab w' lab' :=
  ⟨_, h.boxes hL hb (N := fun _ => False) (fun _ e => e.elim)⟩

def pks (K : Nat → Pkr) (x : Nat × Int) : Wv := pkw (K x.1).k x.2 (K x.1).th (K x.1).sv

/-- In the midst of a close: who is to be told yet. -/
def Cl (w : World) (lab : Lb) (L B : Nat) (pv cv tvv : Value) (R : Nat) (zs : List Zc) (bs : List Nat) (m : Nat) (run : Option Nat) (left : Nat) (K : Nat → Pkr) (τ : Sg) (g : Option Nat) (ws : List Wv) (V : World) : Prop :=
  ∃ (ev : Value) (a : Ad) (s : Rs) (A : Nat → Bool) (σ' : Sg) (lab' : Lb) (rest : List (Nat × Int)), Wm V L B pv cv tvv ev a s A zs m K σ' lab' ∧ Wy w lab V lab' ∧ a.R = R ∧ s.ts.map Tc.b = bs ∧ s.run = run ∧ s.left = left ∧ ws.filter (al A) = rest.map (pks K) ∧ (∀ x ∈ ws, Tkv V A x) ∧ (∀ k, g = some k → lab' k = none ∧ w.heap.size ≤ k ∧ k < V.heap.size) ∧
    (rest.map Prod.fst).Nodup ∧ (∀ x ∈ rest, (σ'.p x.1).st = 3 ∧ x.1 < σ'.tk.length ∧ x.1 ∉ σ'.wts) ∧ σ'.tells (rest.map Prod.fst) = τ

theorem Wy.row {V V' : World} {l1 l2 : Lb} (h : Wy V l1 V' l2) {k : Nat} (hk : l1 k = none) (hl : k < V.heap.size) : V'.heap[k]? = V.heap[k]? ∧ l2 k = none ∧ k < V'.heap.size := by
  refine ⟨h.tb.block k hl (by simp [hk]), ?_, Nat.lt_of_lt_of_le hl h.tb.size⟩
  cases e : l2 k with
  | none => rfl
  | some l =>
    rcases h.dm k (by rw [e]; simp) with h1 | h1
    · exact absurd hk h1
    · omega

theorem Cl.below {K : Nat → Pkr} {τ : Sg} {g : Option Nat} {ws : List Wv} {V V' : World} (hz : L ≤ w.heap.size) (h : Cl w lab L B pv cv tvv R zs bs m run left K τ g ws V) (hb : Below V.heap.size V V') : Cl w lab L B pv cv tvv R zs bs m run left K τ g ws V' := by
  obtain ⟨ev, a, s, A, σ', lab', rest, hw, hy, q1, q2, q3, q4, hf, ht, hg, hn, hs, hτ⟩ := h
  obtain ⟨l2, hw2, hy2⟩ := hw.below (Nat.le_trans hz hy.tb.size) hb
  refine ⟨ev, a, s, A, σ', l2, rest, hw2, hy.trans hy2, q1, q2, q3, q4, hf, fun x hx => (ht x hx).below hb, fun k hk => ?_, hn, hs, hτ⟩
  obtain ⟨g1, g2, g3⟩ := hg k hk
  obtain ⟨_, g4, g5⟩ := hy2.row g1 g3
  exact ⟨g4, g2, g5⟩

theorem Cl.step {K : Nat → Pkr} {τ : Sg} {g : Option Nat} {x : Wv} {r : List Wv} {V : World} (hz : L ≤ w.heap.size) (h : Cl w lab L B pv cv tvv R zs bs m run left K τ g (x :: r) V) :
    Calls Tryz.prog 82 #[.agg #[.pointer x.tk, .int .i64 x.val, x.told], .int .i64 0, .bool false] V fun e V' => e = .returned (.tuple #[]) ∧ Cl w lab L B pv cv tvv R zs bs m run left K τ g r V' ∧ ∀ k, g = some k → V'.heap[k]? = V.heap[k]? := by
  have h0 := h
  obtain ⟨ev, a, s, A, σ', lab', rest, hw, hy, q1, q2, q3, q4, hf, ht, hg, hn, hs, hτ⟩ := h
  cases hx : al A x with
  | false =>
    obtain ⟨k, f, k1, k2, k3⟩ := ht x (by simp)
    have hAk : A k = false := by unfold al at hx; rw [k1] at hx; exact hx
    obtain rfl : f = .nilFunc := by
      rcases k3 with ⟨e, _⟩ | ⟨_, e⟩
      · rw [hAk] at e; cases e
      · exact e
    refine (serve_fired k1 k2).mono ?_
    rintro e V' ⟨rfl, hb⟩
    have h1 : Cl w lab L B pv cv tvv R zs bs m run left K τ g r V := ⟨ev, a, s, A, σ', lab', rest, hw, hy, q1, q2, q3, q4, by simpa [List.filter_cons, hx] using hf, fun y hy => ht y (List.mem_cons_of_mem _ hy), hg, hn, hs, hτ⟩
    exact ⟨rfl, h1.below hz hb, fun k hk => hb.block k (hg k hk).2.2⟩
  | true =>
    simp only [List.filter_cons, hx, if_true] at hf
    cases rest with
    | nil => simp at hf
    | cons y rest =>
      obtain ⟨i, v0⟩ := y
      simp only [List.map_cons, List.cons.injEq] at hf
      obtain ⟨rfl, hf⟩ := hf
      obtain ⟨g1, g2, g3⟩ := hs (i, v0) (by simp)
      have hzV := Nat.le_trans hz hy.tb.size
      refine (hw.sv hzV (i := i) g2 g1 g3 v0 0 false).mono ?_
      rintro e V' ⟨rfl, a', s', A', lab2, hw2, hy2, z1, z2, z3, z4, rfl, hkv, hAk⟩
      have e0 : (if (σ'.p i).rc then (0 : Int) else 0) = 0 := by split <;> rfl
      rw [e0] at hw2
      simp only [List.map_cons, List.nodup_cons] at hn
      have hne : ∀ y ∈ rest, y.1 ≠ i := fun y hy e => hn.1 (e ▸ List.mem_map_of_mem hy)
      have hkne : ∀ y ∈ rest, (K y.1).k ≠ (K i).k ∧ A (K y.1).k = true := fun y hy => by
        obtain ⟨u1, u2, u3⟩ := hs y (List.mem_cons_of_mem _ hy)
        have hp1 := of_p u2
        have hp2 := of_p g2
        have l1 : y.1 < s.ts.length := by rw [hw.len]; exact u2
        have l2 : i < s.ts.length := by rw [hw.len]; exact g2
        have r1 := (hw.cl y.1 _ _ (List.getElem?_eq_getElem l1) hp1).r3 u1
        have r2 := (hw.cl i _ _ (List.getElem?_eq_getElem l2) hp2).r3 g1
        refine ⟨fun e => ?_, r1.2.2.2.2.2.2.2.2.2⟩
        have a1 := r1.2.2.2.2.1
        have a2 := r2.2.2.2.2.1
        rw [e, a2] at a1
        exact hne y hy (by cases a1; rfl)
      refine ⟨rfl, ⟨ev, a', s', _, _, lab2, rest, hw2, hy.trans hy2, z1.trans q1, z2.trans q2, z3.trans q3, z4.trans q4, ?_, fun y hy => (hkv y (ht y (List.mem_cons_of_mem _ hy))).1, fun k hk => ?_, hn.2, fun y hy => ?_, ?_⟩, fun k hk => (hy2.row (hg k hk).1 (hg k hk).2.2).1⟩
      · have : r.filter (al (fire A (K i).k)) = (r.filter (al A)).filter (al (fire A (K i).k)) := by
          rw [List.filter_filter]
          refine List.filter_congr (fun y hy => ?_)
          cases h1 : al (fire A (K i).k) y with
          | false => simp
          | true => simp [(hkv y (ht y (List.mem_cons_of_mem _ hy))).2 h1]
        rw [this, hf]
        refine List.filter_eq_self.2 (fun y hy => ?_)
        obtain ⟨u, hu, rfl⟩ := List.mem_map.1 hy
        obtain ⟨k1, k2⟩ := hkne u hu
        show fire A (K i).k (K u.1).k = true
        simp [fire, k1, k2]
      · obtain ⟨g4, g5, g6⟩ := hg k hk
        obtain ⟨_, g7, g8⟩ := hy2.row g4 g6
        exact ⟨g7, g5, g8⟩
      · obtain ⟨u1, u2, u3⟩ := hs y (List.mem_cons_of_mem _ hy)
        refine ⟨by rw [gets_p g2 _ _ (hne y hy)]; exact u1, by simpa [Sg.gets] using u2, u3⟩
      · rw [← hτ]
        rfl

theorem wclose (h : Wd w L B pv cv tvv R zs bs m σ run left lab) (hL : L ≤ w.heap.size) {j : Nat} {z : Zc} (hz : zs[j]? = some z) :
    Calls Tryz.prog 33 #[.pointer (some ⟨z.C, 0, none⟩)] w fun e w' => e = .returned (.int .i64 (if (σ.close j).1 then 0 else 150)) ∧ ∃ lab', Wd w' L B pv cv tvv R zs bs m (σ.close j).2 run left lab' ∧ Wy w lab w' lab' := by
  obtain ⟨ev, a, s, A, K, h, q1, q2, q3, q4⟩ := h.ex
  have hjl : j < σ.ch.length := by rw [← h.cn]; exact (List.getElem?_eq_some_iff.1 hz).1
  have hc := of_c hjl
  obtain ⟨hzr, hzs, hch⟩ := h.ch j z _ hz hc
  have hbf := h.ok.bf j _ hc
  unfold Sg.close
  generalize hcc : σ.c j = c at *
  cases hcl : c.cl with
  | true =>
    simp only [if_true, Bool.false_eq_true, if_false]
    refine (close_closed hch hcl).mono ?_
    rintro e w' ⟨rfl, rfl⟩
    exact ⟨rfl, lab, ⟨ev, a, s, A, K, h, q1, q2, q3, q4⟩, ⟨Tb.refl _ _, fun _ hk => .inl hk, fun _ hk => ⟨hk, rfl⟩⟩⟩
  | false =>
    simp only [if_true, Bool.false_eq_true, if_false]
    have hok := h.ok.setc (d := { c with cl := true, snd := [], rcv := [] }) hc (List.nil_sublist _) (List.nil_sublist _) hbf.1 rfl
    have hnd : c.wts.Nodup := by
      have h1 := h.ok.nd
      obtain ⟨u, v, e1, _⟩ := flat_set (f := Cz.wts) (d := c) hc
      unfold Sg.wts at h1
      rw [e1] at h1
      exact (List.nodup_append.1 (List.nodup_append.1 h1).1).2.1
    have hno : ∀ x ∈ c.wts, x ∉ (σ.setc j { c with cl := true, snd := [], rcv := [] }).wts := fun x hx => by
      have h1 := h.ok.nd
      obtain ⟨u, v, e1, e2⟩ := flat_set (f := Cz.wts) (d := ({ c with cl := true, snd := [], rcv := [] } : Cz)) hc
      unfold Sg.wts at h1 ⊢
      show x ∉ List.flatMap Cz.wts (σ.ch.set j _)
      rw [e2]
      rw [e1] at h1
      obtain ⟨h2, _, h4⟩ := List.nodup_append.1 h1
      obtain ⟨_, _, h6⟩ := List.nodup_append.1 h2
      intro hm
      have hm' : x ∈ u ∨ x ∈ v := by simpa [Cz.wts] using hm
      rcases hm' with hm | hm
      · exact h6 x hm x hx rfl
      · exact h4 x (List.mem_append_right _ hx) x hm rfl
    refine (close_open hch hcl (Cl w lab L B pv cv tvv R zs bs m run left K ((σ.setc j { c with cl := true, snd := [], rcv := [] }).tells (c.rcv ++ c.snd.map Prod.fst))) (fun V D' g xs ys hd x hf1 hf2 htk hg => ?_) (fun g x r V hI => hI.step hL) (fun g ws V V' hI hb => hI.below hL hb)).mono ?_
    · obtain ⟨hw, hy⟩ := h.chan hL (d := { c with cl := true, snd := [], rcv := [] }) hz hc hd (Nat.le_refl _) x rfl hok
      refine ⟨ev, a, s, A, _, _, c.rcv.map (fun i => (i, 0)) ++ c.snd, hw, hy, q1, q2, q3, q4, ?_, htk, fun k hk => ?_, ?_, fun y hy => ?_, ?_⟩
      · rw [List.filter_append, hf1, hf2]
        simp [mem, pks, Function.comp_def]
      · obtain ⟨k1, k2, k3⟩ := hg k hk
        refine ⟨?_, k1, k2⟩
        unfold relab
        rw [if_neg k3, h.fresh k1]
        simp
      · have : (List.map Prod.fst (List.map (fun i => (i, (0 : Int))) c.rcv ++ c.snd)) = c.rcv ++ c.snd.map Prod.fst := by simp [Function.comp_def]
        rw [this]
        exact (List.perm_append_comm.nodup_iff).1 hnd
      · have hyw : y.1 ∈ c.wts := by
          rcases List.mem_append.1 hy with hy | hy
          · obtain ⟨i, hi, rfl⟩ := List.mem_map.1 hy
            exact List.mem_append_right _ hi
          · exact List.mem_append_left _ (List.mem_map_of_mem hy)
        have h3 := h.ok.st3 (mem_wts.2 ⟨j, c, hc, hyw⟩)
        exact ⟨by simpa [Sg.setc, Sg.p] using h3.1, by simpa [Sg.setc] using h3.2, hno _ hyw⟩
      · simp [Function.comp_def]
    · rintro e w' ⟨rfl, g, ev', a', s', A', σ', lab', rest, hw, hy, z1, z2, z3, z4, hf, _, _, _, _, hτ⟩
      have hr : rest = [] := by
        cases rest with
        | nil => rfl
        | cons y r => simp at hf
      subst hr
      refine ⟨rfl, lab', ⟨ev', a', s', A', K, ?_, z1, z2, z3, z4⟩, hy⟩
      have : σ' = ((σ.setc j { c with cl := true, snd := [], rcv := [] }).tells (c.rcv ++ c.snd.map Prod.fst)) := by rw [← hτ]; rfl
      rw [← this]
      exact hw
end

end Go.Proofs.YtgjpbekmkhanhaaGreat.CH

/-
  The law's world: tried sends and receives; Send and Recv.
-/
namespace Go.Proofs.YtgjpbekmkhanhaaGreat.CH
open Go.RowKit QW
set_option maxRecDepth 100000

section
variable {w w' : World} {L B : Nat} {pv cv tvv : Value} {R : Nat} {zs : List Zc} {bs : List Nat} {m m' : Nat} {σ σ' : Sg} {run : Option Nat} {left : Nat} {lab lab' : Lb}

/-- A channel that was asked stands as it stood. -/
theorem Wm.quiet {ev : Value} {a : Ad} {s : Rs} {A : Nat → Bool} {K : Nat → Pkr} (h : Wm w L B pv cv tvv ev a s A zs m K σ lab) (hL : L ≤ w.heap.size) {j : Nat} {z : Zc} (hz : zs[j]? = some z) {D' : Nat → Prop} (hd : Ch w' A z m (mem K (σ.c j)) D') (x : Lx w (fun k => lab k = some (.ch j)) w' D') :
    Wm w' L B pv cv tvv ev a s A zs m K σ (relab lab (.ch j) D') ∧ Wy w lab w' (relab lab (.ch j) D') := by
  have hjl : j < σ.ch.length := by rw [← h.cn]; exact (List.getElem?_eq_some_iff.1 hz).1
  have hc := of_c hjl
  have := h.chan hL (d := σ.c j) hz hc hd (Nat.le_refl _) x rfl (by rw [setc_same hc]; exact h.ok)
  rwa [setc_same hc] at this

theorem wtrySend (h : Wd w L B pv cv tvv R zs bs m σ run left lab) (hL : L ≤ w.heap.size) {j : Nat} {z : Zc} (hz : zs[j]? = some z) (v : Int) :
    Calls Tryz.prog 29 #[.pointer (some ⟨z.C, 0, none⟩), .int .i64 v] w fun e w' => e = .returned (.tuple #[.bool (if (σ.c j).canS then (σ.send j v).1 else false), .bool (σ.c j).canS]) ∧ ∃ lab', Wd w' L B pv cv tvv R zs bs m (if (σ.c j).canS then (σ.send j v).2 else σ) run left lab' ∧ Wy w lab w' lab' := by
  obtain ⟨ev, a, s, A, K, hw, q1, q2, q3, q4⟩ := h.ex
  have hjl : j < σ.ch.length := by rw [← hw.cn]; exact (List.getElem?_eq_some_iff.1 hz).1
  have hc := of_c hjl
  obtain ⟨hzr, hzs, hch⟩ := hw.ch j z _ hz hc
  have CM := cmade_yes hch
  have CS : Calls Tryz.prog 70 #[.pointer (some ⟨z.C, 0, none⟩), .pointer none] w fun e V => e = .returned (.bool (σ.c j).canS) ∧ ∃ lab', Wd V L B pv cv tvv R zs bs m σ run left lab' ∧ Wy w lab V lab' := (canSend_any hch (kp := none) (.inl rfl)).mono (by
    rintro e V ⟨rfl, D', hd, x⟩
    obtain ⟨h1, h2⟩ := hw.quiet hL hz hd x
    exact ⟨by rw [mem_canS hzs], _, ⟨ev, a, s, A, K, h1, q1, q2, q3, q4⟩, h2⟩)
  have HN : Hid (∀ V lab', Wd V L B pv cv tvv R zs bs m σ run left lab' → Wy w lab V lab' → (σ.c j).canS = true → Calls Tryz.prog 71 #[.pointer (some ⟨z.C, 0, none⟩), .int .i64 v] V fun e w' => e = .returned (.bool (σ.send j v).1) ∧ Hid (∃ lab', Wd w' L B pv cv tvv R zs bs m (σ.send j v).2 run left lab' ∧ Wy w lab w' lab')) := hide (fun V l1 h1 y1 hcan => (wsendNow h1 (Nat.le_trans hL y1.tb.size) hz hcan v).mono (by
    rintro e w' ⟨rfl, l2, h2, y2⟩
    exact ⟨rfl, hide ⟨l2, h2, y1.trans y2⟩⟩))
  clear hw q1 q2 q3 q4 hc hzr hzs hch h
  generalize (σ.send j v).1 = b1 at *
  generalize (σ.send j v).2 = τ at *
  cases hcan : (σ.c j).canS with
  | true =>
    simp only [if_true]
    rw [hcan] at CS
    go_enter Tryz.func29, Tryz.ntmps29
    go_wp2_with fail
    refine CM.mono ?_
    rintro e w1 ⟨rfl, hw1⟩
    subst w1
    go_wp2_with fail
    refine CS.mono ?_
    rintro e V ⟨rfl, l1, h1, y1⟩
    have CN := HN.out V l1 h1 y1 hcan
    clear HN CS CM h1 y1
    go_wp2_with fail
    refine CN.mono ?_
    rintro e w2 ⟨rfl, FIN⟩
    go_wp2_with fail
    go_ret2
    exact ⟨rfl, FIN.out⟩
  | false =>
    simp only [Bool.false_eq_true, if_false]
    rw [hcan] at CS
    go_enter Tryz.func29, Tryz.ntmps29
    go_wp2_with fail
    refine CM.mono ?_
    rintro e w1 ⟨rfl, hw1⟩
    subst w1
    go_wp2_with fail
    refine CS.mono ?_
    rintro e V ⟨rfl, l1, h1, y1⟩
    have FIN := hide (⟨l1, h1, y1⟩ : ∃ lab', Wd V L B pv cv tvv R zs bs m σ run left lab' ∧ Wy w lab V lab')
    clear HN CS CM h1 y1
    go_wp2_with fail
    go_ret2
    exact ⟨rfl, FIN.out⟩

theorem wtryRecv (h : Wd w L B pv cv tvv R zs bs m σ run left lab) (hL : L ≤ w.heap.size) {j : Nat} {z : Zc} (hz : zs[j]? = some z) :
    Calls Tryz.prog 30 #[.pointer (some ⟨z.C, 0, none⟩)] w fun e w' => e = .returned (.tuple #[.int .i64 (if (σ.c j).canR then (σ.recv j).1 else 0), .bool (if (σ.c j).canR then (σ.recv j).2.1 else false), .bool (σ.c j).canR]) ∧ ∃ lab', Wd w' L B pv cv tvv R zs bs m (if (σ.c j).canR then (σ.recv j).2.2 else σ) run left lab' ∧ Wy w lab w' lab' := by
  obtain ⟨ev, a, s, A, K, hw, q1, q2, q3, q4⟩ := h.ex
  have hjl : j < σ.ch.length := by rw [← hw.cn]; exact (List.getElem?_eq_some_iff.1 hz).1
  have hc := of_c hjl
  obtain ⟨hzr, hzs, hch⟩ := hw.ch j z _ hz hc
  have CM := cmade_yes hch
  have CS : Calls Tryz.prog 76 #[.pointer (some ⟨z.C, 0, none⟩), .pointer none] w fun e V => e = .returned (.bool (σ.c j).canR) ∧ ∃ lab', Wd V L B pv cv tvv R zs bs m σ run left lab' ∧ Wy w lab V lab' := (canRecv_any hch (kp := none) (.inl rfl)).mono (by
    rintro e V ⟨rfl, D', hd, x⟩
    obtain ⟨h1, h2⟩ := hw.quiet hL hz hd x
    exact ⟨by rw [mem_canR], _, ⟨ev, a, s, A, K, h1, q1, q2, q3, q4⟩, h2⟩)
  have HN : Hid (∀ V lab', Wd V L B pv cv tvv R zs bs m σ run left lab' → Wy w lab V lab' → Calls Tryz.prog 77 #[.pointer (some ⟨z.C, 0, none⟩)] V fun e w' => e = .returned (.tuple #[.int .i64 (σ.recv j).1, .bool (σ.recv j).2.1]) ∧ Hid (∃ lab', Wd w' L B pv cv tvv R zs bs m (σ.recv j).2.2 run left lab' ∧ Wy w lab w' lab')) := hide (fun V l1 h1 y1 => (wrecvNow h1 (Nat.le_trans hL y1.tb.size) hz).mono (by
    rintro e w' ⟨rfl, l2, h2, y2⟩
    exact ⟨rfl, hide ⟨l2, h2, y1.trans y2⟩⟩))
  clear hw q1 q2 q3 q4 hc hzr hzs hch h
  generalize (σ.recv j).1 = v1 at *
  generalize (σ.recv j).2.1 = b1 at *
  generalize (σ.recv j).2.2 = τ at *
  cases hcan : (σ.c j).canR with
  | true =>
    simp only [if_true]
    rw [hcan] at CS
    go_enter Tryz.func30, Tryz.ntmps30
    go_wp2_with fail
    refine CM.mono ?_
    rintro e w1 ⟨rfl, hw1⟩
    subst w1
    go_wp2_with fail
    refine CS.mono ?_
    rintro e V ⟨rfl, l1, h1, y1⟩
    have CN := HN.out V l1 h1 y1
    clear HN CS CM h1 y1
    go_wp2_with fail
    refine CN.mono ?_
    rintro e w2 ⟨rfl, FIN⟩
    go_wp2_with fail
    refine bodyPost_ret (v := .tuple #[.int .i64 v1, .bool b1, .bool true]) (by simp [results, Tryz.results30, go_sem]) rfl ?_
    exact ⟨rfl, FIN.out⟩
  | false =>
    simp only [Bool.false_eq_true, if_false]
    rw [hcan] at CS
    go_enter Tryz.func30, Tryz.ntmps30
    go_wp2_with fail
    refine CM.mono ?_
    rintro e w1 ⟨rfl, hw1⟩
    subst w1
    go_wp2_with fail
    refine CS.mono ?_
    rintro e V ⟨rfl, l1, h1, y1⟩
    have FIN := hide (⟨l1, h1, y1⟩ : ∃ lab', Wd V L B pv cv tvv R zs bs m σ run left lab' ∧ Wy w lab V lab')
    clear HN CS CM h1 y1
    go_wp2_with fail
    refine bodyPost_ret (v := .tuple #[.int .i64 0, .bool false, .bool false]) (by simp [results, Tryz.results30, go_sem]) rfl ?_
    exact ⟨rfl, FIN.out⟩

/-- A task that runs, in memory. -/
theorem Wm.runs {ev : Value} {a : Ad} {s : Rs} {A : Nat → Bool} {K : Nat → Pkr} (h : Wm w L B pv cv tvv ev a s A zs m K σ lab) {i : Nat} {p : Pt} (hp : σ.tk[i]? = some p) (hst : p.st = 2) : ∃ t, s.ts[i]? = some t ∧ s.run = some i ∧ t.nx = .nilFunc ∧ t.wk = .nilFunc ∧ t.goes = false := by
  have hil : i < s.ts.length := by rw [h.len]; exact (List.getElem?_eq_some_iff.1 hp).1
  have hi : s.ts[i]? = some s.ts[i] := List.getElem?_eq_getElem hil
  obtain ⟨h1, h2, h3⟩ := (h.cl i _ p hi hp).r2 hst
  exact ⟨_, hi, h1, h2, h3, by simp [Tc.goes, h2, h3, on]⟩

/-- A task that runs says that it yields. -/
theorem wyield (h : Wd w L B pv cv tvv R zs bs m σ run left lab) (hL : L ≤ w.heap.size) {i b : Nat} {p : Pt} (hp : σ.tk[i]? = some p) (hst : p.st = 2) (hb : bs[i]? = some b) {f : Fn} {xs ys : Array Value} {td : Tld} (hv : Go0 (Fz lab) w (.func f xs ys) (QT B b i p.at' td)) :
    Calls Tryz.prog 72 #[.pointer (some ⟨b, 0, none⟩), .func f xs ys] w fun e w' => e = .returned (.int .i64 0) ∧ ∃ lab', Wd w' L B pv cv tvv R zs bs m (σ.gets i td) run left lab' ∧ Wy w lab w' lab' := by
  obtain ⟨ev, a, s, A, K, h, q1, q2, q3, q4⟩ := h.ex
  obtain ⟨t, hi, hr, hnx, hwk, hg⟩ := h.runs hp hst
  obtain rfl : t.b = b := by
    rw [← q2, List.getElem?_map, hi] at hb
    simpa using hb
  refine (yield_yes h.rt hi hr hg f xs ys).mono ?_
  rintro e w' ⟨rfl, a', hrp⟩
  obtain ⟨h1, h2⟩ := h.yields hL hi hp (by omega) hv hwk hrp
  exact ⟨rfl, _, ⟨ev, a', _, A, K, h1, hrp.x.R.trans q1, (map_set (u := { t with nx := .func f xs ys }) hi rfl).trans q2, q3, q4⟩, h2⟩
end

end Go.Proofs.YtgjpbekmkhanhaaGreat.CH

/-
  The law's world: a task that runs sends, receives.
-/
namespace Go.Proofs.YtgjpbekmkhanhaaGreat.CH
open Go.RowKit QW
set_option maxRecDepth 100000

section
variable {w w' : World} {L B : Nat} {pv cv tvv : Value} {R : Nat} {zs : List Zc} {bs : List Nat} {m m' : Nat} {σ σ' : Sg} {run : Option Nat} {left : Nat} {lab lab' : Lb}

theorem Wd.mono (h : Wd w L B pv cv tvv R zs bs m σ run left lab) (hm : m ≤ m') : Wd w L B pv cv tvv R zs bs m' σ run left lab := by
  obtain ⟨ev, a, s, A, K, h, q⟩ := h.ex
  exact ⟨ev, a, s, A, K, ⟨h.blk, h.rt, h.cr, h.tr, h.er, h.lr, h.lq, h.lb, h.le, h.lc, h.lt, h.lo, fun j z c hz hc => ⟨(h.ch j z c hz hc).1, (h.ch j z c hz hc).2.1, (h.ch j z c hz hc).2.2.mono hm⟩, h.cn, h.ha, h.ln, h.len, h.cl, h.ok⟩, q⟩

/-- A task that runs is not told by others' sends and receives. -/
theorem gets_tk {i k : Nat} {p : Pt} (hp : σ.tk[i]? = some p) (hk : k ≠ i) (hl : k < σ.tk.length) (d : Tld) : (σ.gets k d).tk[i]? = some p := by
  rw [gets_get (of_p hl)]
  rw [if_neg (fun e => hk e.symm)]
  exact hp
theorem send_tk (h : Sok σ) {i j : Nat} {p : Pt} (hp : σ.tk[i]? = some p) (hst : p.st = 2) (hj : j < σ.ch.length) (v : Int) : (σ.send j v).2.tk[i]? = some p := by
  unfold Sg.send
  split
  · exact hp
  · split
    · rename_i k r hr
      obtain ⟨g1, g2, g3⟩ := h.rc j _ (of_c hj) k (by rw [hr]; simp)
      have hne : k ≠ i := fun e => by
        subst e
        rw [p_of hp, hst] at g1
        cases g1
      exact gets_tk (σ := σ.setc j _) hp hne g3 _
    · exact hp
theorem recv_tk (h : Sok σ) {i j : Nat} {p : Pt} (hp : σ.tk[i]? = some p) (hst : p.st = 2) (hj : j < σ.ch.length) : (σ.recv j).2.2.tk[i]? = some p := by
  unfold Sg.recv
  split
  · rename_i k x r hr
    obtain ⟨g1, g2, g3⟩ := h.sn j _ (of_c hj) (k, x) (by rw [hr]; simp)
    have hne : k ≠ i := fun e => by
      subst e
      rw [p_of hp, hst] at g1
      cases g1
    exact gets_tk (σ := σ.setc j _) hp hne g3 _
  · exact hp
theorem tells_tk {i : Nat} {p : Pt} (l : List Nat) : ∀ {σ : Sg}, σ.tk[i]? = some p → (∀ x ∈ l, x ≠ i ∧ x < σ.tk.length) → (σ.tells l).tk[i]? = some p := by
  induction l with
  | nil => exact fun h _ => h
  | cons x l ih =>
    intro σ hp hl
    obtain ⟨h1, h2⟩ := hl x (by simp)
    exact ih (gets_tk hp h1 h2 _) (fun y hy => ⟨(hl y (List.mem_cons_of_mem _ hy)).1, by simpa [Sg.gets] using (hl y (List.mem_cons_of_mem _ hy)).2⟩)
theorem close_tk (h : Sok σ) {i j : Nat} {p : Pt} (hp : σ.tk[i]? = some p) (hst : p.st = 2) (hj : j < σ.ch.length) : (σ.close j).2.tk[i]? = some p := by
  unfold Sg.close
  split
  · exact hp
  · refine tells_tk (σ := σ.setc j _) _ hp (fun x hx => ?_)
    have hx' : x ∈ (σ.c j).wts := by
      rcases List.mem_append.1 hx with hx | hx
      · exact List.mem_append_right _ hx
      · exact List.mem_append_left _ hx
    have h3 := h.st3 (mem_wts.2 ⟨j, _, of_c hj, hx'⟩)
    refine ⟨fun e => ?_, h3.2⟩
    subst e
    rw [p_of hp, hst] at h3
    cases h3.1

theorem Wy.keep1 (h : Wy w lab w' lab') {k : Nat} (hk : lab k = some .fz) {o : Obj} (ho : w.heap[k]? = some o) : w'.heap[k]? = some o := (h.fz k hk).2.trans ho

theorem Wm.apart {ev : Value} {a : Ad} {s : Rs} {A : Nat → Bool} {K : Nat → Pkr} (h : Wm w L B pv cv tvv ev a s A zs m K σ lab) {k : Nat} {l : Lab} (hk : lab k = some l) (n1 : l ≠ .rt) (n2 : l ≠ .q) : ¬ own a s k ∧ k ≠ a.Q :=
  ⟨fun e => by
    have := h.lr k e
    rw [hk] at this
    exact n1 (Option.some.inj this), fun e => by
    subst e
    rw [h.lq] at hk
    exact n2 (Option.some.inj hk).symm⟩

theorem wsend (h : Wd w L B pv cv tvv R zs bs m σ run left lab) (hL : L ≤ w.heap.size) {i b j : Nat} {p : Pt} {z : Zc} (hp : σ.tk[i]? = some p) (hst : p.st = 2) (hb : bs[i]? = some b) (hz : zs[j]? = some z) (hm : m + 1 < Mx) (v : Int) {f : Fn} {fr fc : Array Value} (hf : Go1 (Fz lab) w (.func f fr fc) (fun ok => QT B b i p.at' (0, 0, ok))) :
    Calls Tryz.prog 26 #[.pointer (some ⟨b, 0, none⟩), .pointer (some ⟨z.C, 0, none⟩), .int .i64 v, .func f fr fc] w fun e w' => e = .returned (.int .i64 0) ∧ ∃ lab', Wd w' L B pv cv tvv R zs bs (m + 1) (if (σ.c j).canS then (σ.send j v).2.gets i (0, 0, (σ.send j v).1) else σ.waitS i j v) run left lab' ∧ Wy w lab w' lab' := by
  obtain ⟨ev, a, s, A, K, hw, q1, q2, q3, q4⟩ := h.ex
  obtain ⟨t, hi, hr, hnx, hwk, hg⟩ := hw.runs hp hst
  obtain rfl : t.b = b := by
    rw [← q2, List.getElem?_map, hi] at hb
    simpa using hb
  have hjl : j < σ.ch.length := by rw [← hw.cn]; exact (List.getElem?_eq_some_iff.1 hz).1
  have hc := of_c hjl
  obtain ⟨hzr, hzs, hch⟩ := hw.ch j z _ hz hc
  cases hcan : (σ.c j).canS with
  | true =>
    rw [if_pos rfl]
    refine send_now hw.rt hi hr hg hch hzr (by rw [mem_canS hzs]; exact hcan) (v := v) (b := (σ.send j v).1) (fun V D' hd x hbox hnD => ?_)
    obtain ⟨w1, y1⟩ := hw.quiet hL hz hd x
    have hl1 : relab lab (.ch j) D' w.heap.size = none := by
      unfold relab
      rw [if_neg hnD, hw.fresh (Nat.le_refl _)]
      simp
    have h1 : Wd V L B pv cv tvv R zs bs m σ run left (relab lab (.ch j) D') := ⟨ev, a, s, A, K, w1, q1, q2, q3, q4⟩
    have h2 := h1.claim (N := fun k => k = w.heap.size) (fun k hk => by subst hk; exact ⟨hl1, hL, heap_lt hbox⟩)
    have y2 := y1.claim (N := fun k => k = w.heap.size) (fun k hk => by subst hk; exact Nat.le_refl _)
    have hn2 : relab (relab lab (.ch j) D') .fz (fun k => relab lab (.ch j) D' k = some .fz ∨ k = w.heap.size) w.heap.size = some .fz := relab_same.2 (.inr rfl)
    generalize relab (relab lab (.ch j) D') .fz (fun k => relab lab (.ch j) D' k = some .fz ∨ k = w.heap.size) = l2 at *
    refine (wsendNow h2 (Nat.le_trans hL y2.tb.size) hz hcan v).mono ?_
    rintro e w2 ⟨rfl, l3, h3, y3⟩
    have hz3 := (y2.trans y3).tb.size
    obtain ⟨h4, y4⟩ := h3.boxes (Nat.le_trans hL hz3) (w' := w2.alloc (.cells #[.bool (σ.send j v).1] 4)) ((Below.refl _ w2).alloc (Nat.le_refl _) _) (N := fun k => k = w2.heap.size) (fun k hk => by subst hk; exact ⟨Nat.le_refl _, by simp⟩)
    have hg4 : relab l3 .fz (fun k => l3 k = some .fz ∨ k = w2.heap.size) w2.heap.size = some .fz := relab_same.2 (.inr rfl)
    generalize relab l3 .fz (fun k => l3 k = some .fz ∨ k = w2.heap.size) = l4 at *
    have y := (y2.trans y3).trans y4
    have hn4 : l4 w.heap.size = some .fz := (y4.fz _ (y3.fz _ hn2).1).1
    have hbn : (w2.alloc (.cells #[.bool (σ.send j v).1] 4)).heap[w.heap.size]? = some (.cells #[.func f fr fc] (67 : TypeId) (0, 0)) := y4.keep1 (y3.fz _ hn2).1 (y3.keep1 hn2 hbox)
    have hnx1 := nx_send1 (hf.keep y.agr y.sub) hn4 hg4 hbn (heap_alloc_new w2 _)
    refine ⟨rfl, (wyield h4 (Nat.le_trans hL y.tb.size) (send_tk h.ok hp hst hjl v) hst hb hnx1).mono ?_⟩
    rintro e w' ⟨rfl, l5, h5, y5⟩
    exact ⟨rfl, l5, h5.mono (by omega), y.trans y5⟩
  | false =>
    rw [if_neg (by simp)]
    have hnw : i ∉ σ.wts := fun e => by
      have := (h.ok.st3 e).1
      rw [p_of hp, hst] at this
      cases this
    have hil := (List.getElem?_eq_some_iff.1 hp).1
    refine (send_park hw.rt hi hr hg hch hzr (by rw [mem_canS hzs]; exact hcan) hm (fun k hk => hw.apart hk (by simp) (by simp)) hw.ha v f fr fc).mono ?_
    rintro e w' ⟨rfl, hpk, hbn⟩
    have hpd : ({ σ.p i with st := 3, rc := false } : Pt) = { p with st := 3, rc := false } := by rw [p_of hp]
    have hok := h.ok.waitS hil hjl hnw v
    have hkey := hw.parks hL hi hp hst hz hc false (d := { σ.c j with snd := (σ.c j).snd ++ [(i, v)] }) hpk (fun r => ?_) rfl (by rw [← hpd]; exact hok) (fun k => k = w.heap.size) (fun k hk => by subst hk; exact ⟨Nat.le_refl _, _, hbn⟩) (fun lab' h1 h2 h3 => ?_)
    · obtain ⟨s', K', lab', hw', hy, e1, e2, e3⟩ := hkey
      rw [← hpd] at hw'
      exact ⟨rfl, lab', ⟨ev, a, s', A, K', hw', q1, e1.trans q2, e2.trans q3, e3.trans q4⟩, hy⟩
    · have hu : ∀ x ∈ (σ.c j).wts, upd K i r x = K x := fun x hx => by
        have : x ≠ i := fun e => hnw (e ▸ mem_wts.2 ⟨j, _, hc, hx⟩)
        simp [upd, this]
      simp only [mem, List.map_append, List.map_cons, List.map_nil]
      have e1 : (σ.c j).snd.map (fun x => pkw (upd K i r x.1).k x.2 (upd K i r x.1).th (upd K i r x.1).sv) = (σ.c j).snd.map (fun x => pkw (K x.1).k x.2 (K x.1).th (K x.1).sv) := List.map_congr_left (fun x hx => by rw [hu x.1 (List.mem_append_left _ (List.mem_map_of_mem hx))])
      have e2 : (σ.c j).rcv.map (fun x => pkw (upd K i r x).k 0 (upd K i r x).th (upd K i r x).sv) = (σ.c j).rcv.map (fun x => pkw (K x).k 0 (K x).th (K x).sv) := List.map_congr_left (fun x hx => by rw [hu x (List.mem_append_right _ hx)])
      rw [e1, e2]
      simp [upd]
    · exact go_send2 (hf.keep h3 h1) (h2 _ rfl) hbn

theorem wrecv (h : Wd w L B pv cv tvv R zs bs m σ run left lab) (hL : L ≤ w.heap.size) {i b j : Nat} {p : Pt} {z : Zc} (hp : σ.tk[i]? = some p) (hst : p.st = 2) (hb : bs[i]? = some b) (hz : zs[j]? = some z) (hm : m + 1 < Mx) {f : Fn} {fr fc : Array Value} (hf : Go2 (Fz lab) w (.func f fr fc) (fun v ok => QT B b i p.at' (0, v, ok))) :
    Calls Tryz.prog 27 #[.pointer (some ⟨b, 0, none⟩), .pointer (some ⟨z.C, 0, none⟩), .func f fr fc] w fun e w' => e = .returned (.int .i64 0) ∧ ∃ lab', Wd w' L B pv cv tvv R zs bs (m + 1) (if (σ.c j).canR then (σ.recv j).2.2.gets i (0, (σ.recv j).1, (σ.recv j).2.1) else σ.waitR i j) run left lab' ∧ Wy w lab w' lab' := by
  obtain ⟨ev, a, s, A, K, hw, q1, q2, q3, q4⟩ := h.ex
  obtain ⟨t, hi, hr, hnx, hwk, hg⟩ := hw.runs hp hst
  obtain rfl : t.b = b := by
    rw [← q2, List.getElem?_map, hi] at hb
    simpa using hb
  have hjl : j < σ.ch.length := by rw [← hw.cn]; exact (List.getElem?_eq_some_iff.1 hz).1
  have hc := of_c hjl
  obtain ⟨hzr, hzs, hch⟩ := hw.ch j z _ hz hc
  cases hcan : (σ.c j).canR with
  | true =>
    rw [if_pos rfl]
    refine recv_now hw.rt hi hr hg hch hzr (by rw [mem_canR]; exact hcan) (fun V D' hd x hbox hnD => ?_)
    obtain ⟨w1, y1⟩ := hw.quiet hL hz hd x
    have hl1 : relab lab (.ch j) D' w.heap.size = none := by
      unfold relab
      rw [if_neg hnD, hw.fresh (Nat.le_refl _)]
      simp
    have h1 : Wd V L B pv cv tvv R zs bs m σ run left (relab lab (.ch j) D') := ⟨ev, a, s, A, K, w1, q1, q2, q3, q4⟩
    have h2 := h1.claim (N := fun k => k = w.heap.size) (fun k hk => by subst hk; exact ⟨hl1, hL, heap_lt hbox⟩)
    have y2 := y1.claim (N := fun k => k = w.heap.size) (fun k hk => by subst hk; exact Nat.le_refl _)
    have hn2 : relab (relab lab (.ch j) D') .fz (fun k => relab lab (.ch j) D' k = some .fz ∨ k = w.heap.size) w.heap.size = some .fz := relab_same.2 (.inr rfl)
    generalize relab (relab lab (.ch j) D') .fz (fun k => relab lab (.ch j) D' k = some .fz ∨ k = w.heap.size) = l2 at *
    refine (wrecvNow h2 (Nat.le_trans hL y2.tb.size) hz).mono ?_
    rintro e w2 ⟨rfl, l3, h3, y3⟩
    have hz3 := (y2.trans y3).tb.size
    have hsz : (w2.alloc (.cells #[.int .i64 (σ.recv j).1] 3)).heap.size = w2.heap.size + 1 := by simp
    have hbb : Below w2.heap.size w2 ((w2.alloc (.cells #[.int .i64 (σ.recv j).1] 3)).alloc (.cells #[.bool (σ.recv j).2.1] 4)) := ((Below.refl _ w2).alloc (Nat.le_refl _) _).alloc (by simp) _
    obtain ⟨h4, y4⟩ := h3.boxes (Nat.le_trans hL hz3) hbb (N := fun k => k = w2.heap.size ∨ k = w2.heap.size + 1) (fun k hk => by
      rcases hk with rfl | rfl
      · exact ⟨Nat.le_refl _, by simp; omega⟩
      · exact ⟨by omega, by simp⟩)
    have hg4 : relab l3 .fz (fun k => l3 k = some .fz ∨ (k = w2.heap.size ∨ k = w2.heap.size + 1)) w2.heap.size = some .fz := relab_same.2 (.inr (.inl rfl))
    have hg5 : relab l3 .fz (fun k => l3 k = some .fz ∨ (k = w2.heap.size ∨ k = w2.heap.size + 1)) (w2.heap.size + 1) = some .fz := relab_same.2 (.inr (.inr rfl))
    generalize relab l3 .fz (fun k => l3 k = some .fz ∨ (k = w2.heap.size ∨ k = w2.heap.size + 1)) = l4 at *
    have y := (y2.trans y3).trans y4
    have hn4 : l4 w.heap.size = some .fz := (y4.fz _ (y3.fz _ hn2).1).1
    have hbn : ((w2.alloc (.cells #[.int .i64 (σ.recv j).1] 3)).alloc (.cells #[.bool (σ.recv j).2.1] 4)).heap[w.heap.size]? = some (.cells #[.func f fr fc] (68 : TypeId) (0, 0)) := y4.keep1 (y3.fz _ hn2).1 (y3.keep1 hn2 hbox)
    have he1 : ((w2.alloc (.cells #[.int .i64 (σ.recv j).1] 3)).alloc (.cells #[.bool (σ.recv j).2.1] 4)).heap[w2.heap.size]? = some (.cells #[.int .i64 (σ.recv j).1] 3 (0, 0)) := by
      rw [heap_alloc_old _ _ (by simp)]
      exact heap_alloc_new w2 _
    have he2 : ((w2.alloc (.cells #[.int .i64 (σ.recv j).1] 3)).alloc (.cells #[.bool (σ.recv j).2.1] 4)).heap[w2.heap.size + 1]? = some (.cells #[.bool (σ.recv j).2.1] 4 (0, 0)) := by
      rw [← hsz]
      exact heap_alloc_new _ _
    have hnx1 := nx_recv1 (hf.keep y.agr y.sub) hn4 hg4 hg5 hbn he1 he2
    refine ⟨_, _, rfl, (wyield h4 (Nat.le_trans hL y.tb.size) (recv_tk h.ok hp hst hjl) hst hb hnx1).mono ?_⟩
    rintro e w' ⟨rfl, l5, h5, y5⟩
    exact ⟨rfl, l5, h5.mono (by omega), y.trans y5⟩
  | false =>
    rw [if_neg (by simp)]
    have hnw : i ∉ σ.wts := fun e => by
      have := (h.ok.st3 e).1
      rw [p_of hp, hst] at this
      cases this
    have hil := (List.getElem?_eq_some_iff.1 hp).1
    refine (recv_park hw.rt hi hr hg hch hzr (by rw [mem_canR]; exact hcan) hm (fun k hk => hw.apart hk (by simp) (by simp)) hw.ha f fr fc).mono ?_
    rintro e w' ⟨rfl, hpk⟩
    have hpd : ({ σ.p i with st := 3, rc := true } : Pt) = { p with st := 3, rc := true } := by rw [p_of hp]
    have hok := h.ok.waitR hil hjl hnw
    have hkey := hw.parks hL hi hp hst hz hc true (d := { σ.c j with rcv := (σ.c j).rcv ++ [i] }) hpk (fun r => ?_) rfl (by rw [← hpd]; exact hok) (fun _ => False) (fun k hk => hk.elim) (fun lab' h1 h2 h3 => ?_)
    · obtain ⟨s', K', lab', hw', hy, e1, e2, e3⟩ := hkey
      rw [← hpd] at hw'
      exact ⟨rfl, lab', ⟨ev, a, s', A, K', hw', q1, e1.trans q2, e2.trans q3, e3.trans q4⟩, hy⟩
    · have hu : ∀ x ∈ (σ.c j).wts, upd K i r x = K x := fun x hx => by
        have : x ≠ i := fun e => hnw (e ▸ mem_wts.2 ⟨j, _, hc, hx⟩)
        simp [upd, this]
      simp only [mem, List.map_append, List.map_cons, List.map_nil]
      have e1 : (σ.c j).snd.map (fun x => pkw (upd K i r x.1).k x.2 (upd K i r x.1).th (upd K i r x.1).sv) = (σ.c j).snd.map (fun x => pkw (K x.1).k x.2 (K x.1).th (K x.1).sv) := List.map_congr_left (fun x hx => by rw [hu x.1 (List.mem_append_left _ (List.mem_map_of_mem hx))])
      have e2 : (σ.c j).rcv.map (fun x => pkw (upd K i r x).k 0 (upd K i r x).th (upd K i r x).sv) = (σ.c j).rcv.map (fun x => pkw (K x).k 0 (K x).th (K x).sv) := List.map_congr_left (fun x hx => by rw [hu x (List.mem_append_right _ hx)])
      rw [e1, e2]
      simp [upd]
    · simpa using hf.keep h3 h1
end

end Go.Proofs.YtgjpbekmkhanhaaGreat.CH

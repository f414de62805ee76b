/-
  Texts put into one.
-/
import Derived.Test.YtohndpmjdgfbeaaGreatMx66e34c43
import Derived.Test.YtohndpmjdgfbeaaGreatMxbc8c1628

/-
  ChansClosed: behind a close nobody waits; the tale.
-/
namespace Go.Proofs.YtohndpmjdgfbeaaGreat.CH
open Go.RowKit QW
set_option maxRecDepth 100000
set_option linter.unusedSimpArgs false
set_option linter.unusedVariables false

/-- Nobody waits at what is closed. -/
def Clo (σ : Sg) : Prop := ∀ c ∈ σ.ch, c.cl = true → c.snd = [] ∧ c.rcv = []
section
variable {σ : Sg} {i j : Nat}
theorem Clo.c (h : Clo σ) (j : Nat) (hc : (σ.c j).cl = true) : (σ.c j).snd = [] ∧ (σ.c j).rcv = [] := by
  unfold Sg.c at hc ⊢
  by_cases hl : j < σ.ch.length
  · rw [List.getD, List.getElem?_eq_getElem hl] at hc ⊢
    exact h _ (List.getElem_mem hl) hc
  · rw [List.getD, List.getElem?_eq_none (by omega)]
    exact ⟨rfl, rfl⟩
theorem Clo.setc (h : Clo σ) (j : Nat) {d : Cz} (hd : d.cl = true → d.snd = [] ∧ d.rcv = []) : Clo (σ.setc j d) := fun c hc => by
  rcases List.mem_or_eq_of_mem_set hc with h1 | h1
  · exact h c h1
  · rw [h1]; exact hd
theorem Clo.same {τ : Sg} (h : Clo σ) (e : τ.ch = σ.ch) : Clo τ := by
  unfold Clo
  rw [e]
  exact h
theorem ch_tells {σ : Sg} (l : List Nat) : (σ.tells l).ch = σ.ch := by
  induction l generalizing σ with
  | nil => rfl
  | cons i r ih => exact ih
theorem Clo.send (h : Clo σ) (j : Nat) (v : Int) : Clo (σ.send j v).2 := by
  unfold Sg.send
  split
  · exact h
  · rename_i hn
    split
    · rename_i i r hr
      exact (h.setc j (d := { σ.c j with rcv := r }) (fun hc => absurd hc hn)).same rfl
    · exact h.setc j (fun hc => absurd hc hn)
theorem Clo.recv (h : Clo σ) (j : Nat) : Clo (σ.recv j).2.2 := by
  unfold Sg.recv
  split
  · rename_i i x r hs
    exact (h.setc j (d := { σ.c j with buf := ((σ.c j).buf ++ [x]).tail, snd := r }) (fun hc => by
      have hc' : (σ.c j).cl = true := hc
      rw [(h.c j hc').1] at hs
      cases hs)).same rfl
  · exact h.setc j (fun hc => h.c j hc)
theorem Clo.close (h : Clo σ) (j : Nat) : Clo (σ.close j).2 := by
  unfold Sg.close
  split
  · exact h
  · exact (h.setc j (fun _ => ⟨rfl, rfl⟩)).same (ch_tells _)
theorem Clo.acts (h : Clo σ) (i : Nat) (d : Dop) : Clo (σ.acts i d) := by
  unfold Sg.acts
  split
  · exact h.same rfl
  split
  · split
    · exact (h.send _ _).same rfl
    · rename_i hn
      exact (h.setc _ (d := { σ.c d.c.toNat with snd := (σ.c d.c.toNat).snd ++ [(i, d.v)] }) (fun hc => absurd (show (σ.c d.c.toNat).canS = true by have hc' : (σ.c d.c.toNat).cl = true := hc; simp [Cz.canS, hc']) hn)).same rfl
  split
  · split
    · exact (h.recv _).same rfl
    · rename_i hn
      exact (h.setc _ (d := { σ.c d.c.toNat with rcv := (σ.c d.c.toNat).rcv ++ [i] }) (fun hc => absurd (show (σ.c d.c.toNat).canR = true by have hc' : (σ.c d.c.toNat).cl = true := hc; simp [Cz.canR, hc']) hn)).same rfl
  split
  · exact (h.close _).same rfl
  split
  · split
    · exact (h.send _ _).same rfl
    · exact h.same rfl
  split
  · split
    · exact (h.recv _).same rfl
    · exact h.same rfl
  · exact h
theorem Clo.step (h : Clo σ) (ps : List (List Dop)) (p : Nat) : Clo (σ.step ps p) := by
  unfold Sg.step
  split
  · exact h
  · unfold Sg.turn
    have e1 : ∀ (τ : Sg) (i : Nat), (τ.fin i).ch = τ.ch := fun τ i => by unfold Sg.fin; split <;> rfl
    refine Clo.same ?_ (e1 _ _)
    refine Clo.acts ?_ _ _
    exact h.same rfl

/-- What a close leaves. -/
theorem close_leaves (h : Clo σ) (hj : j < σ.ch.length) : (((σ.close j).2.c j).cl = true ∧ ((σ.close j).2.c j).snd = [] ∧ ((σ.close j).2.c j).rcv = []) ∧ ((σ.close j).2.c j).buf = (σ.c j).buf ∧ (σ.close j).1 = !(σ.c j).cl := by
  unfold Sg.close
  by_cases hc : (σ.c j).cl = true
  · rw [if_pos hc]
    obtain ⟨h1, h2⟩ := h.c j hc
    exact ⟨⟨hc, h1, h2⟩, rfl, by simp [hc]⟩
  · rw [if_neg hc]
    have e : ∀ l, (((σ.setc j { σ.c j with cl := true, snd := [], rcv := [] }).tells l).c j) = { σ.c j with cl := true, snd := [], rcv := [] } := fun l => by
      unfold Sg.c
      rw [ch_tells]
      simp [Sg.setc, List.getD, hj]
    simp only [e]
    exact ⟨⟨trivial, trivial, trivial⟩, trivial, by simp [hc]⟩
/-- What is received of a closed channel. -/
theorem recv_closed (hj : j < σ.ch.length) (hc : (σ.c j).cl = true) (hs : (σ.c j).snd = []) : (σ.c j).canR = true ∧ (σ.recv j).2.1 = !(σ.c j).buf.isEmpty ∧ ((σ.recv j).2.2.c j).cl = true ∧ ((σ.recv j).2.2.c j).snd = [] ∧ ((σ.recv j).2.2.c j).buf = (σ.c j).buf.tail ∧ (σ.recv j).2.2.ch.length = σ.ch.length ∧ ((σ.recv j).2.2.c j).rcv = (σ.c j).rcv := by
  unfold Sg.recv
  rw [hs]
  have e : ((σ.setc j { σ.c j with buf := (σ.c j).buf.tail }).c j) = { σ.c j with buf := (σ.c j).buf.tail } := by
    unfold Sg.c
    simp [Sg.setc, List.getD, hj]
  simp only [e]
  exact ⟨by simp [Cz.canR, hc], trivial, hc, hs, trivial, by simp [Sg.setc], trivial⟩
theorem send_closed (hc : (σ.c j).cl = true) (v : Int) : (σ.c j).canS = true ∧ σ.send j v = (false, σ) := by
  unfold Sg.send
  rw [if_pos hc]
  exact ⟨by simp [Cz.canS, hc], rfl⟩
end

end Go.Proofs.YtohndpmjdgfbeaaGreat.CH

/-
  ChansClosed: the walk.
-/
namespace Go.Proofs.YtohndpmjdgfbeaaGreat.CH
open Go.RowKit QW
set_option maxRecDepth 100000
set_option linter.unusedSimpArgs false
set_option linter.unusedVariables false

section
variable {w : World} {pa ua : Option Addr} {np pcap ul uc : Nat} {ps : List (List Dop)} {us : List Nat}

/-- In the midst of ChansClosed. -/
def Cld (w w3 : World) (pa : Option Addr) (np pcap : Nat) (ps : List (List Dop)) (B R : Nat) (z : Zc) (σ : Sg) (N : Nat) (V : World) : Prop := Lw w3 w3 pa np pcap ps (fun k => k < w3.heap.size) B R [z] σ N V ∧ Clo σ ∧ σ.ch.length = 1 ∧ Below w.heap.size w w3

theorem sz_ls {w1 : World} {g : Nat} {x : Int} (h : w1.heap[g]? = some (.cells #[.int .i64 x] 3 (0, 0))) : QI.Ls w1 (some ⟨g, 0, none⟩) 1 1 [x] := by
  refine ⟨rfl, by omega, by omega, fun _ => ⟨g, 0, rfl, fun i hi => ?_⟩⟩
  obtain rfl : i = 0 := by omega
  exact cell_of_row _ _ 0 _ _ _ h

theorem cld_begun {w2 w3 : World} {x : Int} (hb : Below w.heap.size w w2) (hP : Pgr w pa np pcap ps) (ht : tm ps [x]) (hw3 : w3 = w2.alloc (.cells #[.int .i64 x] 3)) :
    Calls Tryz.prog 11 #[.slice pa np pcap, .slice (some ⟨w2.heap.size, 0, none⟩) 1 1] w3 fun e w' => ∃ B E R z, e = .returned (.tuple #[.pointer (some ⟨B, 0, none⟩), .pointer (some ⟨E, 0, none⟩)]) ∧ Cld w w3 pa np pcap ps B R z (bsg [x.toNat] 1 np) 0 w' := by
  have b3 : Below w2.heap.size w2 w3 := by rw [hw3]; exact (Below.refl _ w2).alloc (Nat.le_refl _) _
  have h3 : w3.heap[w2.heap.size]? = some (.cells #[.int .i64 x] 3 (0, 0)) := by rw [hw3]; exact heap_alloc_new w2 _
  obtain ⟨t1, t2, t3, t4, t5⟩ := ht
  have hx := t4 x (by simp)
  have hpl := hP.len
  have bw3 := hb.trans (b3.mono hb.size)
  have CB := begun_any (w0 := w3) (sz := [x.toNat]) (pa := pa) (np := np) (pcap := pcap) (nc := 1) (scap := 1) (sb := w2.heap.size) (so := 0) (by omega) rfl (by simp; omega) (by omega) (fun i n hi => by
    have hl := (List.getElem?_eq_some_iff.1 hi).1
    simp at hl
    subst hl
    simp at hi
    subst hi
    rw [Int.toNat_of_nonneg hx.1]
    exact cell_of_row w3 w2.heap.size 0 _ _ _ h3) (by omega) (by omega)
  refine CB.mono ?_
  rintro e w' ⟨B, E, R, rfl, hn⟩
  have hPs := (hP.low bw3).pgs (nc := 1) (by simpa using t5)
  obtain ⟨zs, hzl, hL⟩ := Lw.of hn.out hPs (fun k hk => hk)
  obtain ⟨z, rfl⟩ : ∃ z, zs = [z] := by
    match zs, hzl with
    | [z], _ => exact ⟨z, rfl⟩
  exact ⟨B, E, R, z, rfl, hL, fun c hc hcl => by simp [bsg] at hc; subst hc; simp at hcl, rfl, bw3⟩

theorem Cld.step {w3 V : World} {B R N : Nat} {z : Zc} {σ : Sg} (h : Cld w w3 pa np pcap ps B R z σ N V) (hN : N ≤ 100000) (p : Nat) (hp : p ≤ 18446744073709551615) :
    Calls Tryz.prog 12 #[.pointer (some ⟨R, 0, none⟩), .int .u64 p] V fun e w' => e = .returned (.bool (decide (σ.line ≠ []))) ∧ Cld w w3 pa np pcap ps B R z (σ.step ps p) (N + 1) w' := by
  refine (h.1.step hN p hp).mono ?_
  rintro e w' ⟨rfl, h'⟩
  refine ⟨rfl, h', h.2.1.step ps p, ?_, h.2.2.2⟩
  have := h'.len
  simpa using this
theorem Cld.below {w3 V V' : World} {B R N : Nat} {z : Zc} {σ : Sg} (h : Cld w w3 pa np pcap ps B R z σ N V) (hb : Below V.heap.size V V') : Cld w w3 pa np pcap ps B R z σ N V' := ⟨h.1.below hb, h.2⟩
theorem Cld.bel {w3 V : World} {B R N : Nat} {z : Zc} {σ : Sg} (h : Cld w w3 pa np pcap ps B R z σ N V) : Below w.heap.size w V := h.2.2.2.trans (h.1.bel.mono h.2.2.2.size)

/-- The channel is closed, nobody waits; n things are in its buffer. -/
def Cle (w w3 : World) (pa : Option Addr) (np pcap : Nat) (ps : List (List Dop)) (B R : Nat) (z : Zc) (n N : Nat) (V : World) : Prop := ∃ σ, Lw w3 w3 pa np pcap ps (fun k => k < w3.heap.size) B R [z] σ N V ∧ σ.ch.length = 1 ∧ (σ.c 0).cl = true ∧ (σ.c 0).snd = [] ∧ (σ.c 0).rcv = [] ∧ (σ.c 0).buf.length = n ∧ Below w.heap.size w w3
theorem Lw.few {w0 wm : World} {Pb : Nat → Prop} {B R N : Nat} {zs : List Zc} {σ : Sg} {V : World} (h : Lw w0 wm pa np pcap ps Pb B R zs σ N V) (j : Nat) : (σ.c j).buf.length ≤ 64 := by
  obtain ⟨cv, tvv, bs, lab, ht, h0⟩ := h
  obtain ⟨left, wd⟩ := ht.wd
  have ok := wd.ok
  by_cases hl : j < σ.ch.length
  · obtain ⟨h1, h2⟩ := ok.bf j _ (of_c hl)
    omega
  · unfold Sg.c
    rw [List.getD, List.getElem?_eq_none (by omega)]
    exact Nat.zero_le _
theorem Cle.few {w3 V : World} {B R N n : Nat} {z : Zc} (h : Cle w w3 pa np pcap ps B R z n N V) : n ≤ 64 := by
  obtain ⟨σ, hl, h1, h2, h3, h4, h5, hb⟩ := h
  rw [← h5]
  exact hl.few 0
theorem Cle.bel {w3 V : World} {B R N n : Nat} {z : Zc} (h : Cle w w3 pa np pcap ps B R z n N V) : Below w.heap.size w V := by
  obtain ⟨σ, hl, _, _, _, _, _, hb⟩ := h
  exact hb.trans (hl.bel.mono hb.size)
theorem Cld.close {w3 V : World} {B R N : Nat} {z : Zc} {σ : Sg} (h : Cld w w3 pa np pcap ps B R z σ N V) :
    Calls Tryz.prog 33 #[.pointer (some ⟨z.C, 0, none⟩)] V fun e w' => e = .returned (.int .i64 (if (σ.c 0).cl then 150 else 0)) ∧ Cle w w3 pa np pcap ps B R z (σ.c 0).buf.length N w' := by
  obtain ⟨hl, hc, h1, hb⟩ := h
  obtain ⟨⟨q1, q2, q3⟩, q4, q5⟩ := close_leaves hc (j := 0) (by omega)
  refine (hl.close (j := 0) rfl).mono ?_
  rintro e w' ⟨rfl, hl'⟩
  refine ⟨by rw [q5]; cases (σ.c 0).cl <;> rfl, _, hl', ?_, q1, q2, q3, by rw [q4], hb⟩
  have := hl'.len
  simpa using this
theorem Cle.closed {w3 V : World} {B R N n : Nat} {z : Zc} (h : Cle w w3 pa np pcap ps B R z n N V) :
    Calls Tryz.prog 36 #[.pointer (some ⟨z.C, 0, none⟩)] V fun e w' => e = .returned (.bool true) ∧ w' = V := by
  obtain ⟨σ, hl, h1, h2, h3, h4, h5, hb⟩ := h
  have := hl.cclosed (j := 0) rfl
  rwa [h2] at this
theorem Cle.len {w3 V : World} {B R N n : Nat} {z : Zc} (h : Cle w w3 pa np pcap ps B R z n N V) :
    Calls Tryz.prog 34 #[.pointer (some ⟨z.C, 0, none⟩)] V fun e w' => e = .returned (.int .i64 n) ∧ w' = V := by
  obtain ⟨σ, hl, h1, h2, h3, h4, h5, hb⟩ := h
  have := hl.clen (j := 0) rfl
  rwa [h5] at this
theorem Cle.waits {w3 V : World} {B R N n : Nat} {z : Zc} (h : Cle w w3 pa np pcap ps B R z n N V) :
    Calls Tryz.prog 46 #[.pointer (some ⟨z.C, 0, none⟩)] V fun e w' => e = .returned (.tuple #[.int .i64 0, .int .i64 0]) ∧ Cle w w3 pa np pcap ps B R z n N w' := by
  obtain ⟨σ, hl, h1, h2, h3, h4, h5, hb⟩ := h
  have := hl.cwaits (j := 0) rfl
  rw [h3, h4] at this
  refine this.mono ?_
  rintro e w' ⟨rfl, hl'⟩
  exact ⟨rfl, σ, hl', h1, h2, h3, h4, h5, hb⟩
theorem Cle.trySend {w3 V : World} {B R N n : Nat} {z : Zc} (h : Cle w w3 pa np pcap ps B R z n N V) (v : Int) :
    Calls Tryz.prog 29 #[.pointer (some ⟨z.C, 0, none⟩), .int .i64 v] V fun e w' => e = .returned (.tuple #[.bool false, .bool true]) ∧ Cle w w3 pa np pcap ps B R z n N w' := by
  obtain ⟨σ, hl, h1, h2, h3, h4, h5, hb⟩ := h
  obtain ⟨q1, q2⟩ := send_closed h2 v
  have := hl.trySend (j := 0) rfl v
  rw [q1, q2] at this
  refine this.mono ?_
  rintro e w' ⟨rfl, hl'⟩
  exact ⟨rfl, σ, hl', h1, h2, h3, h4, h5, hb⟩
theorem Cle.tryRecv {w3 V : World} {B R N n : Nat} {z : Zc} (h : Cle w w3 pa np pcap ps B R z n N V) :
    Calls Tryz.prog 30 #[.pointer (some ⟨z.C, 0, none⟩)] V fun e w' => ∃ x : Int, e = .returned (.tuple #[.int .i64 x, .bool (decide (0 < n)), .bool true]) ∧ Cle w w3 pa np pcap ps B R z (n - 1) N w' := by
  obtain ⟨σ, hl, h1, h2, h3, h4, h5, hb⟩ := h
  obtain ⟨q1, q2, q3, q4, q5, q6, q7⟩ := recv_closed (σ := σ) (j := 0) (by omega) h2 h3
  have := hl.tryRecv (j := 0) rfl
  rw [q1] at this
  simp only [if_true] at this
  refine this.mono ?_
  rintro e w' ⟨rfl, hl'⟩
  have e2 : (σ.recv 0).2.1 = decide (0 < n) := by
    rw [q2, ← h5]
    cases (σ.c 0).buf <;> simp
  exact ⟨_, by rw [e2], _, hl', by omega, q3, q4, by rw [q7, h4], by rw [q5, List.length_tail, h5], hb⟩

set_option maxHeartbeats 4000000 in
theorem chansClosed_any (hP : Pgr w pa np pcap ps) (hU : Us w ua ul uc us) (x : Int) :
    Calls Tryz.prog 6 #[.slice pa np pcap, .int .i64 x, .slice ua ul uc] w fun e w' => e = .returned (.bool true) ∧ Below w.heap.size w w' := by
  obtain ⟨w1, hw1⟩ : ∃ w1, w1 = w.alloc (.cells #[.int .i64 x] 3) := ⟨_, rfl⟩
  have b1 : Below w.heap.size w w1 := by rw [hw1]; exact (Below.refl _ w).alloc (Nat.le_refl _) _
  have h1 : w1.heap[w.heap.size]? = some (.cells #[.int .i64 x] 3 (0, 0)) := by rw [hw1]; exact heap_alloc_new w _
  have CT := tame_any (hP.low b1) (sz_ls h1)
  have HP := hide hP
  have HU := hide hU
  have HB1 := hide b1
  have hu1 := hU.len
  have hu2 := hU.le
  have hu3 := hU.reach
  clear hP hU b1 h1
  go_enter Tryz.func6, Tryz.ntmps6
  go_wp2_with fail
  rw [← hw1]
  clear hw1
  refine CT.mono ?_
  rintro e w2 ⟨b, rfl, htm, hb2⟩
  have HB2 : Hid (Below w.heap.size w w2) := hide (HB1.out.trans (hb2.mono HB1.out.size))
  clear CT HB1 hb2
  cases b with
  | false =>
    have CA := awake_any w2
    clear htm
    go_wp2_with fail
    refine CA.mono ?_
    rintro e w3 ⟨rfl, hb⟩
    have HB3 := hide (HB2.out.trans (hb.mono HB2.out.size))
    clear CA hb
    go_wp2_with fail
    go_ret
    exact ⟨rfl, HB3.out⟩
  | true =>
    obtain ⟨w3, hw3⟩ : ∃ w3, w3 = w2.alloc (.cells #[.int .i64 x] 3) := ⟨_, rfl⟩
    have CB := cld_begun HB2.out HP.out (htm rfl) hw3
    clear htm
    go_wp2_with fail
    rw [← hw3]
    clear hw3
    refine CB.mono ?_
    rintro e w4 ⟨B, E, R, z, rfl, hc⟩
    have HC := hide hc
    clear CB hc HP HB2
    generalize bsg [x.toNat] 1 np = σ at *
    go_wp2_with fail
    go_loopw [9] (fun i wr => ∃ k : Nat, k ≤ ul ∧ k ≤ 100 ∧ i = .int .i64 k ∧ ∃ τ, Hid (Cld w w3 pa np pcap ps B R z τ k wr)) (fun i _ => ul - (intOf i).toNat)
    case atStart => exact ⟨0, by omega, by omega, rfl, σ, HC⟩
    case round =>
      obtain ⟨k, hk, hk1, rfl, τ, hd⟩ := hrel
      clear HC
      by_cases hl1 : k < ul
      · have hi1 : decide ((k : Int) < (ul : Int)) = true := by simp; omega
        by_cases hl2 : k < 100
        · have hi2 : decide ((k : Int) < 100) = true := by simp; omega
          obtain ⟨ub, uo, hua, huc⟩ := (HU.out.low hd.out.bel).lies (by omega)
          have hp := HU.out.few (us.getD k 0) (by
            have hl : k < us.length := by omega
            simp [List.getD, List.getElem?_eq_getElem hl])
          subst hua
          have cu := huc k hl1
          have c0 := hd.out.1.cR
          have HS : Hid (∀ V, Below wr.heap.size wr V → Calls Tryz.prog 12 #[.pointer (some ⟨R, 0, none⟩), .int .u64 (us.getD k 0 : Nat)] V fun e w' => ∃ b : Bool, e = .returned (.bool b) ∧ (w'.cell? ⟨B, 0, none⟩ = some (.pointer (some ⟨R, 0, none⟩)) ∧ w'.cell? ⟨ub, uo + k, none⟩ = some (.int .u64 (us.getD k 0 : Nat))) ∧ ∃ τ', Hid (Cld w w3 pa np pcap ps B R z τ' (k + 1) w')) := hide (fun V hV => by
            refine ((hd.out.below hV).step (by omega) _ hp).mono ?_
            rintro e w' ⟨rfl, h'⟩
            obtain ⟨ub', uo', hua, huc⟩ := (HU.out.low h'.bel).lies (by omega)
            simp only [Option.some.injEq, Addr.mk.injEq] at hua
            obtain ⟨rfl, rfl, _⟩ := hua
            exact ⟨_, rfl, ⟨h'.1.cR, huc k hl1⟩, _, hide h'⟩)
          clear hd huc
          generalize (us.getD k 0 : Nat) = u at *
          go_wp2_with fail
          go_region_held3 (fun V => V.cell? ⟨B, 0, none⟩ = some (.pointer (some ⟨R, 0, none⟩)) ∧ V.cell? ⟨ub, uo + k, none⟩ = some (.int .u64 u))
            (first | exact ⟨c0, cu⟩ | exact e1)
            ((go_at_call 12; refine (HS.out _ (Below.refl _ _).drew).mono ?_; rintro e w5 ⟨b, rfl, e1, τ', hd'⟩))
          all_goals
            go_wp2_with fail
            go_roundw
            case rel => exact ⟨k + 1, by omega, by omega, by go_num, τ', hd'⟩
            case measure => simp [intOf]; omega
        · have hi2 : decide ((k : Int) < 100) = false := by simp; omega
          obtain ⟨cg, cc, c2, hc1, hc2, cz⟩ := hd.out.1.chan (j := 0) rfl
          simp only [List.length_cons, List.length_nil, Nat.zero_add] at c2 hc1
          have C1 := hd.out.1.cclosed (j := 0) rfl
          have C2 := hd.out.1.clen (j := 0) rfl
          have C3 := hide hd.out.close
          generalize (τ.c 0).cl = cl at *
          generalize (τ.c 0).buf.length = n at *
          clear hd HU
          go_wp2_with fail
          refine C1.mono ?_
          rintro e w5 ⟨rfl, rfl⟩
          go_wp2_with fail
          refine C2.mono ?_
          rintro e w5 ⟨rfl, rfl⟩
          go_wp2_with fail
          refine C3.out.mono ?_
          rintro e w5 ⟨rfl, h5⟩
          have D1 := h5.closed
          have D2 := hide h5.waits
          clear C1 C2 C3 c2 cz h5
          cases cl
          all_goals
            simp only [if_true, Bool.false_eq_true, if_false]
            go_wp2_with fail
            refine D1.mono ?_
            rintro e w6 ⟨rfl, rfl⟩
            go_wp2_with fail
            refine D2.out.mono ?_
            rintro e w6 ⟨rfl, h6⟩
            have D3 := hide (h6.trySend 1)
            clear D1 D2 h6
            go_wp2_with fail
            refine D3.out.mono ?_
            rintro e w7 ⟨rfl, h7⟩
            have D4 := h7.len
            have H7 := hide h7
            clear D3 h7
            go_wp2_with fail
            refine D4.mono ?_
            rintro e w8 ⟨rfl, rfl⟩
            clear D4
            go_wp2_with fail
            have hn64 := H7.out.few
            go_loopw [18] (fun i wr => ∃ q : Nat, q ≤ n ∧ i = .int .i64 q ∧ Hid (Cle w w3 pa np pcap ps B R z (n - q) k wr)) (fun i _ => n - (intOf i).toNat)
            case atStart => exact ⟨0, Nat.zero_le _, rfl, H7⟩
            case round =>
              clear H7
              obtain ⟨q, hq, rfl, hq'⟩ := hrel
              have D5 := hide hq'.out.tryRecv
              by_cases hqn : q < n
              · have hi3 : decide ((q : Int) < (n : Int)) = true := by simp; omega
                rw [show decide (0 < n - q) = true by simp; omega] at D5
                clear hq'
                go_wp2_with fail
                refine D5.out.mono ?_
                rintro e w9 ⟨y, rfl, h9⟩
                have H9 := hide h9
                clear D5 h9
                go_wp2_with fail
                go_roundw
                case rel => exact ⟨q + 1, by omega, by go_num, by rw [show n - (q + 1) = n - q - 1 by omega]; exact H9⟩
                case measure => simp [intOf]; omega
              · obtain rfl : q = n := by omega
                have hi3 : decide ((q : Int) < (q : Int)) = false := by simp
                rw [show decide (0 < q - q) = false by simp] at D5
                clear hq'
                go_wp2_with fail
                refine D5.out.mono ?_
                rintro e w9 ⟨y, rfl, h9⟩
                have CA := awake_any w9
                have H9 := hide h9.bel
                clear D5 h9
                go_wp2_with fail
                refine CA.mono ?_
                rintro e w10 ⟨rfl, hb⟩
                have H10 := hide (H9.out.trans (hb.mono H9.out.size))
                clear CA hb H9
                go_wp2_with fail
                go_ret
                exact ⟨rfl, H10.out⟩
      · have hi1 : decide ((k : Int) < (ul : Int)) = false := by simp; omega
        obtain ⟨cg, cc, c2, hc1, hc2, cz⟩ := hd.out.1.chan (j := 0) rfl
        simp only [List.length_cons, List.length_nil, Nat.zero_add] at c2 hc1
        have C1 := hd.out.1.cclosed (j := 0) rfl
        have C2 := hd.out.1.clen (j := 0) rfl
        have C3 := hide hd.out.close
        generalize (τ.c 0).cl = cl at *
        generalize (τ.c 0).buf.length = n at *
        clear hd HU
        go_wp2_with fail
        refine C1.mono ?_
        rintro e w5 ⟨rfl, rfl⟩
        go_wp2_with fail
        refine C2.mono ?_
        rintro e w5 ⟨rfl, rfl⟩
        go_wp2_with fail
        refine C3.out.mono ?_
        rintro e w5 ⟨rfl, h5⟩
        have D1 := h5.closed
        have D2 := hide h5.waits
        clear C1 C2 C3 c2 cz h5
        cases cl
        all_goals
          simp only [if_true, Bool.false_eq_true, if_false]
          go_wp2_with fail
          refine D1.mono ?_
          rintro e w6 ⟨rfl, rfl⟩
          go_wp2_with fail
          refine D2.out.mono ?_
          rintro e w6 ⟨rfl, h6⟩
          have D3 := hide (h6.trySend 1)
          clear D1 D2 h6
          go_wp2_with fail
          refine D3.out.mono ?_
          rintro e w7 ⟨rfl, h7⟩
          have D4 := h7.len
          have H7 := hide h7
          clear D3 h7
          go_wp2_with fail
          refine D4.mono ?_
          rintro e w8 ⟨rfl, rfl⟩
          clear D4
          go_wp2_with fail
          have hn64 := H7.out.few
          go_loopw [18] (fun i wr => ∃ q : Nat, q ≤ n ∧ i = .int .i64 q ∧ Hid (Cle w w3 pa np pcap ps B R z (n - q) k wr)) (fun i _ => n - (intOf i).toNat)
          case atStart => exact ⟨0, Nat.zero_le _, rfl, H7⟩
          case round =>
            clear H7
            obtain ⟨q, hq, rfl, hq'⟩ := hrel
            have D5 := hide hq'.out.tryRecv
            by_cases hqn : q < n
            · have hi3 : decide ((q : Int) < (n : Int)) = true := by simp; omega
              rw [show decide (0 < n - q) = true by simp; omega] at D5
              clear hq'
              go_wp2_with fail
              refine D5.out.mono ?_
              rintro e w9 ⟨y, rfl, h9⟩
              have H9 := hide h9
              clear D5 h9
              go_wp2_with fail
              go_roundw
              case rel => exact ⟨q + 1, by omega, by go_num, by rw [show n - (q + 1) = n - q - 1 by omega]; exact H9⟩
              case measure => simp [intOf]; omega
            · obtain rfl : q = n := by omega
              have hi3 : decide ((q : Int) < (q : Int)) = false := by simp
              rw [show decide (0 < q - q) = false by simp] at D5
              clear hq'
              go_wp2_with fail
              refine D5.out.mono ?_
              rintro e w9 ⟨y, rfl, h9⟩
              have CA := awake_any w9
              have H9 := hide h9.bel
              clear D5 h9
              go_wp2_with fail
              refine CA.mono ?_
              rintro e w10 ⟨rfl, hb⟩
              have H10 := hide (H9.out.trans (hb.mono H9.out.size))
              clear CA hb H9
              go_wp2_with fail
              go_ret
              exact ⟨rfl, H10.out⟩
end

end Go.Proofs.YtohndpmjdgfbeaaGreat.CH

namespace Go.Proofs.YtohndpmjdgfbeaaGreat.chansClosed
open Go.RowKit
theorem walk {w : World} {pa ua : Option Addr} {np pcap ul uc : Nat} {ps : List (List CH.Dop)} {us : List Nat} (hP : CH.Pgr w pa np pcap ps) (hU : CH.Us w ua ul uc us) (x : Int) :
    Calls Tryz.prog 6 #[.slice pa np pcap, .int .i64 x, .slice ua ul uc] w fun e w' => e = .returned (.bool true) ∧ Below w.heap.size w w' := CH.chansClosed_any hP hU x
theorem open_progs {H : Type} {enc : TypeId × Value → H} {W : World} {a : Option Addr} {len cap : Nat} {d : DataW H} {p : List MemPlace}
    (h : DataW.Trod enc Tryz.prog W 0 (fun _ => true) true 22 (.slice a len cap) d p) : ∃ ps, CH.Pgr W a len cap ps ∧ ((d = .nil ∧ len = 0) ∨ ∃ es rs : List (DataW H), es.length = len ∧ d = .slice es rs) := CH.open_progs h
theorem open_u64s {H : Type} {enc : TypeId × Value → H} {W : World} {a : Option Addr} {len cap : Nat} {d : DataW H} {p : List MemPlace}
    (h : DataW.Trod enc Tryz.prog W 0 (fun _ => true) true 24 (.slice a len cap) d p) : ∃ xs, CH.Us W a len cap xs ∧ ((d = .nil ∧ len = 0) ∨ ∃ es rs : List (DataW H), es.length = len ∧ d = .slice es rs) := CH.open_u64s h
end Go.Proofs.YtohndpmjdgfbeaaGreat.chansClosed

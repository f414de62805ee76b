/-
  A disk of one's own, and rows beside it that no call on the disk turns.
-/
import Derived.Test.YtiijfgidfcfjoabDaw
namespace Go.Proofs.Ytiijfgidfcfjoab
open Go.RowKit
set_option maxRecDepth 100000
set_option maxRecDepth 100000
set_option linter.unusedVariables false

/-- A disk that was made since w, in W, and rows that are none of its own. -/
def Ax (w : World) (vs : List Value) (R : Nat) (d : Dsk) (W : World) : Prop :=
  ∃ L, Dk W L R d ∧ (∀ g, g < w.heap.size → L g = (0, 0)) ∧ (∀ v ∈ vs, ∀ g, v.ownBlock = some g → g < W.heap.size ∧ L g = (0, 0)) ∧ Tb (fun _ => False) w W

/-- The rows stay. -/
def Kr (vs : List Value) (W V : World) : Prop := ∀ v ∈ vs, ∀ (base size n : Nat) (e : TypeId) (xs : List Value), W.ownsRow base e size v n xs → V.ownsRow base e size v n xs

section
variable {w W V : World} {R : Nat} {d : Dsk} {vs : List Value}

theorem Kr.trans {X : World} (h : Kr vs W V) (k : Kr vs V X) : Kr vs W X := fun v hv base size n e xs ho => k v hv _ _ _ _ _ (h v hv _ _ _ _ _ ho)
theorem Kr.fresh (hb : Tb (fun _ => False) W V) : Kr vs W V := fun v _ base size n e xs ho => row_tb ho hb (fun _ _ h => h)

theorem Ax.tb (h : Ax w vs R d W) : Tb (fun _ => False) w W := by obtain ⟨_, _, _, _, h⟩ := h; exact h
theorem Ax.below (h : Ax w vs R d W) : Below w.heap.size w W := h.tb.below (fun _ h => h.elim) (Nat.le_refl _)

theorem Aw.ax (h : Aw w R d W) : Ax w [] R d W := by
  obtain ⟨L, h1, h2, h3⟩ := h
  exact ⟨L, h1, h2, fun v hv => by simp at hv, h3⟩

/-- New memory turns nothing; what is new may be a row beside it. -/
theorem Ax.on (h : Ax w vs R d W) (hb : Tb (fun _ => False) W V) : ∃ L, Dk V L R d ∧ (∀ g, g < w.heap.size → L g = (0, 0)) ∧ (∀ v ∈ vs, ∀ g, v.ownBlock = some g → g < V.heap.size ∧ L g = (0, 0)) ∧ (∀ g, W.heap.size ≤ g → L g = (0, 0)) ∧ Tb (fun _ => False) w V := by
  obtain ⟨L, h1, h2, hv, h3⟩ := h
  refine ⟨onlyL W L, h1.tb hb (onlyL_lx _ _) (fun _ _ h => h), fun g hg => ?_, fun v hvv g hg => ?_, fun g hg => onlyL_new hg, h3.trans hb (fun _ _ h => h)⟩
  · rw [onlyL_lx W L g (Nat.lt_of_lt_of_le hg h3.size)]
    exact h2 g hg
  · have := hv v hvv g hg
    exact ⟨Nat.lt_of_lt_of_le this.1 hb.size, by rw [onlyL_lx W L g this.1]; exact this.2⟩

theorem Ax.kept (h : Ax w vs R d W) (hb : Tb (fun _ => False) W V) : Ax w vs R d V := by
  obtain ⟨L, h1, h2, h3, _, h4⟩ := h.on hb
  exact ⟨L, h1, h2, h3, h4⟩

theorem Ax.with {v : Value} {size n : Nat} {e : TypeId} {xs : List Value} (h : Ax w vs R d W) (hb : Tb (fun _ => False) W V) (ho : V.ownsRow W.heap.size e size v n xs) : Ax w (v :: vs) R d V := by
  obtain ⟨L, h1, h2, h3, h4, h5⟩ := h.on hb
  refine ⟨L, h1, h2, fun u hu g hg => ?_, h5⟩
  rcases List.mem_cons.1 hu with rfl | hu
  · exact ⟨row_lt ho hg, h4 g (ho.lt g hg).1⟩
  · exact h3 u hu g hg

theorem Ax.less {us : List Value} (h : Ax w vs R d W) (hs : ∀ v ∈ us, v ∈ vs ∨ v.ownBlock = none) : Ax w us R d W := by
  obtain ⟨L, h1, h2, h3, h5⟩ := h
  refine ⟨L, h1, h2, fun u hu g hg => ?_, h5⟩
  rcases hs u hu with h | h
  · exact h3 u h g hg
  · rw [h] at hg; cases hg

/-- A row beside it grows: there, or in new memory. -/
theorem Ax.grow {v v' : Value} (h : Ax w (v :: vs) R d W) (hg : W.grownBy V v.ownBlock) (hw : ∀ g, v.ownBlock = some g → w.heap.size ≤ g) (hv : v'.ownBlock = v.ownBlock ∨ v'.ownBlock = some W.heap.size) (hlt : ∀ g, v'.ownBlock = some g → g < V.heap.size)
    (hne : ∀ u ∈ vs, ∀ g, u.ownBlock = some g → v.ownBlock ≠ some g) : Ax w (v' :: vs) R d V ∧ Kr vs W V := by
  obtain ⟨L, h1, h2, h3, h5⟩ := h
  have hgb : Tb (fun g => v.ownBlock = some g) W V := Tb.of_grown hg (fun k e => e)
  refine ⟨⟨onlyL W L, h1.tb hgb (onlyL_lx _ _) (fun g ht e => ?_), fun g hg' => ?_, fun u hu g hgu => ?_, h5.trans hgb (fun i hi e => ?_)⟩, ?_⟩
  · rw [(h3 v (by simp) g e).2] at ht
    exact notTD0 ht
  · rw [onlyL_lx W L g (Nat.lt_of_lt_of_le hg' h5.size)]
    exact h2 g hg'
  · rcases List.mem_cons.1 hu with rfl | hu
    · refine ⟨hlt g hgu, ?_⟩
      rcases hv with e | e
      · rw [e] at hgu
        have := h3 v (by simp) g hgu
        rw [onlyL_lx W L g this.1]
        exact this.2
      · rw [e] at hgu
        cases hgu
        exact onlyL_new (Nat.le_refl _)
    · have := h3 u (by simp [hu]) g hgu
      exact ⟨Nat.lt_of_lt_of_le this.1 hg.size, by rw [onlyL_lx W L g this.1]; exact this.2⟩
  · have := hw i e
    omega
  · intro u hu base size n e xs ho
    exact row_tb ho hgb (fun g hgu e => hne u hu g hgu e)

theorem Ax.step {L L' : Lb} {d' : Dsk} (h2 : ∀ g, g < w.heap.size → L g = (0, 0)) (hv : ∀ v ∈ vs, ∀ g, v.ownBlock = some g → g < W.heap.size ∧ L g = (0, 0)) (h3 : Tb (fun _ => False) w W) (hl : Lx W L L') (hd : Dk V L' R d') (ht : Tl L TD W V) :
    Ax w vs R d' V ∧ Kr vs W V := by
  refine ⟨⟨L', hd, fun g hg => ?_, fun v hvv g hg => ?_, Tb.trans h3 ht (fun i hi e => ?_)⟩, fun v hvv base size n e xs ho => ?_⟩
  · rw [hl g (Nat.lt_of_lt_of_le hg h3.size)]
    exact h2 g hg
  · have := hv v hvv g hg
    exact ⟨Nat.lt_of_lt_of_le this.1 ht.size, by rw [hl g this.1]; exact this.2⟩
  · rw [h2 i hi] at e
    exact notTD0 e
  · exact row_tb ho ht (fun g hg e => by rw [(hv v hvv g hg).2] at e; exact notTD0 e)

theorem ax_put {K : Nat} {v : Value} {s : ByteArray} {at' : Int} {data : List Int} (h : Ax w vs R d W) (hb : Tb (fun _ => False) W V) (hv : V.ownsRow W.heap.size 5 1 v 64 (U data)) (hby : ∀ z ∈ data, 0 ≤ z ∧ z ≤ 255) (hf : Few d K) (hs : 1 ≤ s.size ∧ s.size ≤ 64)
    (h1 : 0 ≤ at') (h2 : at' ≤ ((lk d.std.rw (d.find s)).getD []).length) (hfull : ¬ (at' = 4096 ∨ (d.find s = 0 ∧ 256 ≤ d.std.nm.length))) :
    Calls Try.prog 6 #[.pointer (some ⟨R, 0, none⟩), .string s, .int .i64 at', v] V fun e w' => e = .returned (.int .i64 (d.put s at' 64 data).1) ∧ Ax w vs R (d.put s at' 64 data).2 w' ∧ Kr vs V w' := by
  obtain ⟨g, cap, rfl⟩ := own_shape hv (by omega)
  obtain ⟨L, ⟨o, a1, a2⟩, a3, a6, a4, a5⟩ := h.on hb
  have hk := hf.k
  refine (put_go a1 a2 hf.std (by omega) hf.last hf.made hf.file hs (own_bs hv hby) (by rw [a4 g (own_lt hv).1]; exact notTD0) h1 h2 hfull).mono ?_
  rintro e w' ⟨rfl, L', b1, b2, b3⟩
  exact ⟨rfl, Ax.step a3 a6 a5 b1 b2 b3⟩

theorem ax_sync {K : Nat} {s : ByteArray} (h : Ax w vs R d W) (hf : Few d K) (hs : s.size ≤ 9223372036854775807) (h0 : d.find s ≠ 0) :
    Calls Try.prog 25 #[.pointer (some ⟨R, 0, none⟩), .string s] W fun e w' => e = .returned (.int .i64 (d.sync s).1) ∧ Ax w vs R (d.sync s).2 w' ∧ Kr vs W w' := by
  obtain ⟨L, ⟨o, a1, a2⟩, a3, a6, a5⟩ := h
  have hk := hf.k
  refine (sync_go a1 a2 hf.std hf.dur (by omega) hf.last hs h0).mono ?_
  rintro e w' ⟨rfl, L', b1, b2, b3⟩
  exact ⟨rfl, Ax.step a3 a6 a5 b1 b2 b3⟩

theorem ax_sync_no {s : ByteArray} (h : Ax w vs R d W) (hs : s.size ≤ 9223372036854775807) (h0 : d.find s = 0) :
    Calls Try.prog 25 #[.pointer (some ⟨R, 0, none⟩), .string s] W fun e w' => e = .returned (.int .i64 70) ∧ w' = W := by
  obtain ⟨L, ⟨o, a1, a2⟩, a3, a6, a5⟩ := h
  exact sync_no a1 hs h0

theorem ax_crash {K : Nat} {p : Option Addr} {m cap : Nat} {ks : List Bool} (h : Ax w vs R d W) (hf : Few d K) (hks : ks.length = m) (hcap : m ≤ cap ∧ cap ≤ 9223372036854775807) (hp : Kp w p ks) :
    Calls Try.prog 27 #[.pointer (some ⟨R, 0, none⟩), .slice p m cap] W fun e w' => e = .returned (.int .i64 0) ∧ Ax w vs R (d.crash ks) w' ∧ Kr vs W w' := by
  obtain ⟨L, ⟨o, a1, a2⟩, a3, a6, a5⟩ := h
  have hk := hf.k
  have hl := hf.last
  have hpl : ∀ a, ks ≠ [] → p = some a → a.block < w.heap.size := fun a hne ha => by
    cases ks with
    | nil => exact absurd rfl hne
    | cons b ks =>
      obtain ⟨g, off, e, hc⟩ := hp 0 b rfl
      rw [ha] at e
      cases e
      exact cell_lt hc
  have hp' : Kp W p ks := fun i b hb => by
    obtain ⟨g, off, e, hc⟩ := hp i b hb
    exact ⟨g, off, e, a5.cell hc (fun h => h)⟩
  refine (crash_any a1 (by rw [a2.last]; omega) hf.dur (by omega) hks hcap hp' (fun a hne ha => ?_) (fun a hne ha => Nat.lt_of_lt_of_le (hpl a hne ha) a5.size)).mono ?_
  · rw [a3 _ (hpl a hne ha)]
    unfold TA
    simp
  · rintro e w' ⟨rfl, L', sn, sr, us, b1, b2, b3⟩
    exact ⟨rfl, Ax.step a3 a6 a5 b1 ⟨_, b2, ⟨rfl, a2.made, rfl, rfl, rfl, a2.failure⟩⟩ b3⟩

theorem ax_read {K : Nat} {s : ByteArray} (h : Ax w vs R d W) (hf : Few d K) (hs : s.size ≤ 9223372036854775807) (h0 : d.find s ≠ 0) (hdn : d.down = false) :
    Calls Try.prog 7 #[.pointer (some ⟨R, 0, none⟩), .string s] W fun e w' => ∃ v, e = .returned (.tuple #[v, .int .i64 0]) ∧ w'.ownsRow W.heap.size 5 1 v (d.bytes s).length (U (d.bytes s)) ∧ Below W.heap.size W w' := by
  obtain ⟨L, ⟨o, a1, a2⟩, a3, _, a5⟩ := h
  exact read_yes a1 a2 hf.std hs h0 hdn
end

end Go.Proofs.Ytiijfgidfcfjoab

/-
  A disk of one's own: what each call does to it.
-/
import Derived.Test.YtiijfgidfcfjoabDfi
import Derived.Test.YtiijfgidfcfjoabDrd
namespace Go.Proofs.Ytiijfgidfcfjoab
open Go.RowKit
set_option maxRecDepth 100000
set_option maxRecDepth 100000

/-- A disk that was made since w, in W. -/
def Aw (w : World) (R : Nat) (d : Dsk) (W : World) : Prop := ∃ L, Dk W L R d ∧ (∀ g, g < w.heap.size → L g = (0, 0)) ∧ Tb (fun _ => False) w W

theorem notTD0 : ¬ TD (0, 0) := by unfold TD TA TB; simp

section
variable {w W V : World} {R : Nat} {d : Dsk}

theorem Dk.tb {L L' : Lb} {S : Nat → Prop} (h : Dk W L R d) (hb : Tb S W V) (hl : Lx W L L') (hS : ∀ g, TD (L g) → ¬ S g) : Dk V L' R d := by
  obtain ⟨o, h1, h2⟩ := h
  exact ⟨o, h1.tb hb hl hS, h2⟩

theorem Aw.on (h : Aw w R d W) (hb : Tb (fun _ => False) W V) : ∃ L, Dk V L R d ∧ (∀ g, g < w.heap.size → L g = (0, 0)) ∧ (∀ g, W.heap.size ≤ g → L g = (0, 0)) ∧ Tb (fun _ => False) w V := by
  obtain ⟨L, h1, h2, h3⟩ := h
  refine ⟨onlyL W L, h1.tb hb (onlyL_lx _ _) (fun _ _ h => h), fun g hg => ?_, fun g hg => onlyL_new hg, h3.trans hb (fun _ _ h => h)⟩
  rw [onlyL_lx W L g (Nat.lt_of_lt_of_le hg h3.size)]
  exact h2 g hg

theorem Aw.kept (h : Aw w R d W) (hb : Tb (fun _ => False) W V) : Aw w R d V := by
  obtain ⟨L, h1, h2, _, h3⟩ := h.on hb
  exact ⟨L, h1, h2, h3⟩

theorem Aw.step {L L' : Lb} {d' : Dsk} (h2 : ∀ g, g < w.heap.size → L g = (0, 0)) (h3 : Tb (fun _ => False) w W) (hl : Lx W L L') (hd : Dk V L' R d') (ht : Tl L TD W V) : Aw w R d' V := by
  refine ⟨L', hd, fun g hg => ?_, Tb.trans h3 ht (fun i hi e => ?_)⟩
  · rw [hl g (Nat.lt_of_lt_of_le hg h3.size)]
    exact h2 g hg
  · rw [h2 i hi] at e
    exact notTD0 e

theorem aw_new : Calls Try.prog 4 #[] w fun e w' => ∃ R, e = .returned (.pointer (some ⟨R, 0, none⟩)) ∧ w.heap.size ≤ R ∧ Aw w R newDsk w' := by
  refine (new_any w).mono ?_
  rintro e w' ⟨R, L, rfl, h1, h2, h3, h4⟩
  exact ⟨R, rfl, h1, L, h2, h3, h4⟩

/-- What keeps a disk's numbers small. -/
structure Few (d : Dsk) (K : Nat) : Prop where
  std : Sm d.std K
  dur : Sm d.dur K
  k : K < 1000000000
  last : d.last < 900000000
  made : 0 ≤ d.made ∧ d.made < 900000000
  file : ∀ p ∈ d.std.nm, 0 ≤ p.2

theorem aw_put {K : Nat} {v : Value} {s : ByteArray} {at' : Int} {data : List Int} (h : Aw w R d W) (hb : Tb (fun _ => False) W V) (hv : V.ownsRow W.heap.size 5 1 v 64 (U data)) (hby : ∀ z ∈ data, 0 ≤ z ∧ z ≤ 255) (hf : Few d K) (hs : 1 ≤ s.size ∧ s.size ≤ 64)
    (h1 : 0 ≤ at') (h2 : at' ≤ ((lk d.std.rw (d.find s)).getD []).length) (hfull : ¬ (at' = 4096 ∨ (d.find s = 0 ∧ 256 ≤ d.std.nm.length))) :
    Calls Try.prog 6 #[.pointer (some ⟨R, 0, none⟩), .string s, .int .i64 at', v] V fun e w' => e = .returned (.int .i64 (d.put s at' 64 data).1) ∧ Aw w R (d.put s at' 64 data).2 w' := by
  obtain ⟨g, cap, rfl⟩ := own_shape hv (by omega)
  obtain ⟨L, ⟨o, a1, a2⟩, a3, a4, a5⟩ := h.on hb
  have hk := hf.k
  refine (put_go a1 a2 hf.std (by omega) hf.last hf.made hf.file hs (own_bs hv hby) (by rw [a4 g (own_lt hv).1]; exact notTD0) h1 h2 hfull).mono ?_
  rintro e w' ⟨rfl, L', b1, b2, b3⟩
  exact ⟨rfl, Aw.step a3 a5 b1 b2 b3⟩

theorem aw_sync {K : Nat} {s : ByteArray} (h : Aw w R d W) (hf : Few d K) (hs : s.size ≤ 9223372036854775807) (h0 : d.find s ≠ 0) :
    Calls Try.prog 25 #[.pointer (some ⟨R, 0, none⟩), .string s] W fun e w' => e = .returned (.int .i64 (d.sync s).1) ∧ Aw w R (d.sync s).2 w' := by
  obtain ⟨L, ⟨o, a1, a2⟩, a3, a5⟩ := h
  have hk := hf.k
  refine (sync_go a1 a2 hf.std hf.dur (by omega) hf.last hs h0).mono ?_
  rintro e w' ⟨rfl, L', b1, b2, b3⟩
  exact ⟨rfl, Aw.step a3 a5 b1 b2 b3⟩

theorem aw_pending (h : Aw w R d W) (hl : d.last < 900000000) : Calls Try.prog 26 #[.pointer (some ⟨R, 0, none⟩)] W fun e w' => e = .returned (.int .i64 d.l.length) ∧ Tb (fun _ => False) W w' := by
  obtain ⟨L, ⟨o, a1, a2⟩, a3, a5⟩ := h
  exact pending_any a1 (by rw [a2.last]; omega)

/-- A crash that keeps some steps. -/
def Dsk.crash (d : Dsk) (ks : List Bool) : Dsk := ⟨(kep d.l ks).foldl Shp.does d.dur, (kep d.l ks).foldl Shp.does d.dur, [], 0, d.made, false, -1, -1, d.failure⟩

theorem aw_crash {K : Nat} {p : Option Addr} {m cap : Nat} {ks : List Bool} (h : Aw w R d W) (hb : Tb (fun _ => False) W V) (hf : Few d K) (hks : ks.length = m) (hcap : m ≤ cap ∧ cap ≤ 9223372036854775807) (hp : Kp V p ks) (hpl : ∀ a, p = some a → (W.heap.size ≤ a.block ∨ a.block < w.heap.size) ∧ a.block < V.heap.size) :
    Calls Try.prog 27 #[.pointer (some ⟨R, 0, none⟩), .slice p m cap] V fun e w' => e = .returned (.int .i64 0) ∧ Aw w R (d.crash ks) w' := by
  obtain ⟨L, ⟨o, a1, a2⟩, a3, a4, a5⟩ := h.on hb
  have hk := hf.k
  have hl := hf.last
  refine (crash_any a1 (by rw [a2.last]; omega) hf.dur (by omega) hks hcap hp (fun a _ ha => ?_) (fun a _ ha => (hpl a ha).2)).mono ?_
  · have : L a.block = (0, 0) := (hpl a ha).1.elim (a4 _) (a3 _)
    rw [this]
    unfold TA
    simp
  · rintro e w' ⟨rfl, L', sn, sr, us, b1, b2, b3⟩
    exact ⟨rfl, Aw.step a3 a5 b1 ⟨_, b2, ⟨rfl, a2.made, rfl, rfl, rfl, a2.failure⟩⟩ b3⟩

theorem aw_read {K : Nat} {s : ByteArray} (h : Aw w R d W) (hf : Few d K) (hs : s.size ≤ 9223372036854775807) (h0 : d.find s ≠ 0) (hdn : d.down = false) :
    Calls Try.prog 7 #[.pointer (some ⟨R, 0, none⟩), .string s] W fun e w' => ∃ v, e = .returned (.tuple #[v, .int .i64 0]) ∧ w'.ownsRow W.heap.size 5 1 v (d.bytes s).length (U (d.bytes s)) ∧ Below W.heap.size W w' := by
  obtain ⟨L, ⟨o, a1, a2⟩, a3, a5⟩ := h
  exact read_yes a1 a2 hf.std hs h0 hdn
end

end Go.Proofs.Ytiijfgidfcfjoab

/-
  FileWhole, walked: a file that is put whole under another name, synced and renamed is behind any crash the old one or the new one.
-/
import Derived.Test.YtiijfgidfcfjoaaDxb
namespace Go.Proofs.Ytiijfgidfcfjoaa
open Go.RowKit
set_option maxRecDepth 100000
set_option linter.unusedVariables false

/-- A sector of one byte. -/
def sec64 (b : Int) : List Int := List.replicate 64 b

theorem fill_any (b : Int) (w : World) : Calls Try.prog 10 #[.int .u8 b, .int .i64 0] w fun e w' => ∃ v, e = .returned v ∧ w'.ownsRow w.heap.size 5 1 v 64 (U (sec64 b)) ∧ Below w.heap.size w w' := by
  have h := filled_any b 0 (by omega) w
  rw [fz0] at h
  exact h

/-- A row beside a disk grows by another row. -/
theorem append_beside {w W : World} {v x : Value} {us : List Value} {R : Nat} {d : Dsk} {n m base' : Nat} {xs ys : List Value} (h : Ax w (v :: us) R d W) (ho : W.ownsRow w.heap.size 5 1 v n xs) (hx : W.ownsRow base' 5 1 x m ys) (h1 : ∀ u ∈ ys, u.oneCell' = true) (hb : n + m ≤ 1000000)
    (hne : ∀ u ∈ us, ∀ g, u.ownBlock = some g → v.ownBlock ≠ some g) :
    ∃ v' W', (Builtin.append_ #[28, 28] 28 #[v, x]).run Try.prog W = .ok v' W' ∧ W'.ownsRow w.heap.size 5 1 v' (n + m) (xs ++ ys) ∧ Ax w (v' :: us) R d W' ∧ Kr us W W' ∧ ∀ u ∈ us, ∀ g, u.ownBlock = some g → v'.ownBlock ≠ some g := by
  obtain ⟨i0, hi, hz0, hz1, hz2⟩ := info_parts info5
  have hs := h.below.size
  obtain ⟨v', W', hr, ho', hg, hw⟩ := run_append_rows (P := Try.prog) (w := W) w.heap.size 28 28 5 i0 (.int .u8 0) 1 1 Try.underlying28 hi hz0 hz1 hz2 rfl (by omega) v n xs ho x m ys base' hx h1 (by unfold maxLen; omega) (by omega) hs
  have hG := h.grow hg (fun g e => (ho.lt g e).1) hw (fun g e => row_lt ho' e) hne
  refine ⟨v', W', hr, ho', hG.1, hG.2, fun u hu g hgu e => ?_⟩
  rcases hw with h2 | h2
  · rw [h2] at e
    exact hne u hu g hgu e
  · obtain ⟨L, _, _, h3, _⟩ := h
    have := (h3 u (by simp [hu]) g hgu).1
    rw [h2] at e
    cases e
    omega

/-- A disk with a file upon it, or none. -/
def upon (s0 : Shp) (m n : Int) (s : ByteArray) (rs : List (List Int)) : Dsk := if rs = [] then calm s0 m n else more s0 m n s rs

section
variable {s0 : Shp} {m n : Int} {s : ByteArray} {rs : List (List Int)} {r : List Int}

theorem put_upon (h : Cl s0 m s) (hs : 1 ≤ s.size ∧ s.size ≤ 64) (hr : rs.length < 4096) : (upon s0 m n s rs).put s (rs.length : Int) 64 r = (0, upon s0 m n s (rs ++ [r])) := by
  have e2 : upon s0 m n s (rs ++ [r]) = more s0 m n s (rs ++ [r]) := if_neg (by simp)
  rw [e2]
  unfold upon
  by_cases e : rs = []
  · subst e
    rw [if_pos rfl]
    exact put_first h hs
  · rw [if_neg e]
    exact put_next h hs hr

theorem rows_upon (h : Cl s0 m s) : ((lk (upon s0 m n s rs).std.rw ((upon s0 m n s rs).find s)).getD []).length = rs.length := by
  unfold upon
  by_cases e : rs = []
  · subst e
    rw [if_pos rfl]
    have hf : (calm s0 m n).find s = 0 := by unfold Dsk.find calm; rw [h.nm]; rfl
    rw [hf]
    simp only [calm]
    rw [h.no]
    rfl
  · rw [if_neg e]
    have hf : (more s0 m n s rs).find s = m + 1 := by unfold Dsk.find more; simp only; rw [lk_st_same]; rfl
    rw [hf]
    simp only [more]
    rw [lk_st_same]
    rfl

theorem room_upon (h : Cl s0 m s) (hr : rs.length < 4096) : ¬ ((rs.length : Int) = 4096 ∨ ((upon s0 m n s rs).find s = 0 ∧ 256 ≤ (upon s0 m n s rs).std.nm.length)) := by
  have hp := h.pos
  have hf := h.few
  rintro (e | ⟨e1, e2⟩)
  · omega
  · unfold upon at e1 e2
    by_cases e : rs = []
    · rw [if_pos e] at e2
      simp only [calm] at e2
      omega
    · rw [if_neg e] at e1
      have hf : (more s0 m n s rs).find s = m + 1 := by unfold Dsk.find more; simp only; rw [lk_st_same]; rfl
      omega

theorem few_upon {K : Nat} (h : Sm s0 K) (hK : K < 999) (hm : 0 ≤ m ∧ m ≤ 1000) (hn : n ≤ 10000) (hp : ∀ p ∈ s0.nm, 0 ≤ p.2) (hr : Gr rs) : Few (upon s0 m n s rs) (K + 1) := by
  unfold upon
  split
  · have h2 := few_calm (m := m) (n := n) (s0 := s0) (K := K + 1) ⟨Nat.le_trans h.nm (by omega), Nat.le_trans h.rw (by omega), h.file, h.row⟩ (by omega) hm hn hp
    exact h2
  · exact few_more h (by omega) hm hn hp hr
end

def fS : ByteArray := ⟨#[102]⟩
def tS : ByteArray := ⟨#[116]⟩
def sA (A : List (List Int)) : Shp := ⟨[([102], 1)], [(1, A)]⟩
def sB (A B : List (List Int)) : Shp := ⟨[([102], 1), ([116], 2)], [(1, A), (2, B)]⟩
def sC (B : List (List Int)) : Shp := ⟨[([102], 2)], [(2, B)]⟩

theorem cl0 : Cl ⟨[], []⟩ 0 fS := ⟨by decide, rfl, rfl, rfl, by decide⟩
theorem cl0t : Cl ⟨[], []⟩ 0 tS := ⟨by decide, rfl, rfl, rfl, by decide⟩
theorem clA (A : List (List Int)) : Cl (sA A) 1 tS := ⟨by decide, rfl, rfl, rfl, by simp [sA]⟩
theorem st0 (A : List (List Int)) : (⟨st [] fS.data.toList (0 + 1), st [] (0 + 1) A⟩ : Shp) = sA A := rfl
theorem stA (A B : List (List Int)) : (⟨st (sA A).nm tS.data.toList (1 + 1), st (sA A).rw (1 + 1) B⟩ : Shp) = sB A B := rfl

theorem ren_B (A B : List (List Int)) (m n : Int) : (calm (sB A B) m n).rename tS fS = (0, ⟨sB A B, sC B, [(renStp 2 tS fS).num (n + 1)], n + 1, m, false, -1, -1, 0⟩) := rfl
theorem named_B (A B : List (List Int)) (m n : Int) : (⟨sB A B, sC B, [(renStp 2 tS fS).num (n + 1)], n + 1, m, false, -1, -1, 0⟩ : Dsk).syncNames = (0, ⟨sC B, sC B, [], n + 1, m, false, -1, -1, 0⟩) := rfl

end Go.Proofs.Ytiijfgidfcfjoaa

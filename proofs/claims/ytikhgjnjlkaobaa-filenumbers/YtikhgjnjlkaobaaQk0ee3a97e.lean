/-
  As many files as may be: the law's 'limits'.
-/
import Derived.Test.YtikhgjnjlkaobaaQk81b3f704
namespace Go.Proofs.Ytikhgjnjlkaobaa
open Go.RowKit Go.Sort
set_option maxRecDepth 100000
set_option maxRecDepth 100000
set_option linter.unusedVariables false
set_option linter.unusedSimpArgs false

/-- The names. -/
def nm3 (k : Nat) : ByteArray := strOfNums [102, 97 + (k : Int) / 16, 97 + (k : Int) % 16]
def kyn (k : Nat) : List UInt8 := (nm3 k).data.toList
theorem nm3_size (k : Nat) : (nm3 k).size = 3 := rfl

theorem keys_nodup : ((List.range 256).map kyn).Nodup := by decide +kernel

/-- The disk behind k of them. -/
def lim : Nat → Dsk
  | 0 => newDsk
  | k + 1 => ((lim k).put (nm3 k) 0 64 (sec64 (k : Int))).2

theorem sec64_k {k : Nat} (h : k < 256) : ∀ y ∈ sec64 (k : Int), 0 ≤ y ∧ y ≤ 255 := sec64_by ⟨by omega, by omega⟩

structure Lim (k : Nat) (d : Dsk) : Prop where
  bd : Bd d (10 + 3 * k)
  bz : Bz d (10 + 3 * k)
  keys : d.std.nm.map (·.1) = (List.range k).map kyn
  rows : k = 0 ∨ ∃ f, lk d.std.nm (kyn 0) = some f ∧ 0 < f ∧ ∃ r, lk d.std.rw f = some [r]

theorem lim_find {k : Nat} {d : Dsk} (h : Lim k d) (hk : k < 256) : d.find (nm3 k) = 0 := by
  unfold Dsk.find
  cases hl : lk d.std.nm (nm3 k).data.toList with
  | none => rfl
  | some f =>
    exfalso
    have h1 : kyn k ∈ d.std.nm.map (·.1) := List.mem_map.2 ⟨_, lk_mem hl, rfl⟩
    rw [h.keys] at h1
    have hn := keys_nodup
    have e : List.range 256 = List.range k ++ (k :: (List.range (255 - k)).map (fun x => k + 1 + x)) := by
      have : List.range (k + (1 + (255 - k))) = List.range k ++ (List.range (1 + (255 - k))).map (fun x => k + x) := List.range_add
      rw [show k + (1 + (255 - k)) = 256 by omega] at this
      rw [this]
      congr 1
      rw [Nat.add_comm 1, List.range_succ_eq_map, List.map_cons, List.map_map]
      congr 1
      refine List.map_congr_left (fun x _ => ?_)
      simp only [Function.comp]
      omega
    rw [e, List.map_append, List.map_cons] at hn
    have := (List.nodup_append.1 hn).2.2 _ h1 _ (List.mem_cons_self)
    exact this rfl

theorem lim_len {k : Nat} {d : Dsk} (h : Lim k d) : d.std.nm.length = k := by
  have := congrArg List.length h.keys
  simpa using this

theorem Bd.put_made {d : Dsk} {K : Nat} (h : Bd d K) {s : ByteArray} (hs : 1 ≤ s.size ∧ s.size ≤ 64) (h0 : d.find s = 0) (hl : d.std.nm.length < 256) (r : List Int) : d.put s 0 64 r = (0, (({ d with made := d.made + 1 } : Dsk).do (madeStp (d.made + 1) s)).do (putStp (d.made + 1) 0 r)) := by
  unfold Dsk.put
  rw [h0, if_neg (by omega), if_neg (by omega), h.begin]
  simp

theorem lim_ok : ∀ k, k ≤ 256 → Lim k (lim k) ∧ (k < 256 → ((lim k).put (nm3 k) 0 64 (sec64 (k : Int))).1 = 0) := by
  intro k
  induction k with
  | zero =>
    intro _
    refine ⟨⟨bd_new, bz_new, rfl, .inl rfl⟩, fun _ => ?_⟩
    have := bd_new.put_made (s := nm3 0) (by rw [nm3_size]; omega) rfl (by simp [newDsk]) (sec64 ((0 : Nat) : Int))
    show (newDsk.put (nm3 0) 0 64 (sec64 ((0 : Nat) : Int))).1 = 0
    rw [this]
  | succ k ih =>
    intro hk
    obtain ⟨hL, hr⟩ := ih (by omega)
    have h0 := lim_find hL (by omega)
    have hl := lim_len hL
    have e := hL.bd.put_made (s := nm3 k) (by rw [nm3_size]; omega) h0 (by omega) (sec64 (k : Int))
    have hm := hL.bd.made
    have hnone : ∀ p ∈ (lim k).std.nm, p.1 ≠ kyn k := by
      have h1 : lk (lim k).std.nm (kyn k) = none := by
        cases hh : lk (lim k).std.nm (kyn k) with
        | none => rfl
        | some f =>
          have h2 : (lim k).find (nm3 k) = f := by unfold Dsk.find; rw [show (nm3 k).data.toList = kyn k from rfl, hh]; rfl
          have h3 := hL.bd.file _ (lk_mem hh)
          simp only at h3
          omega
      exact lk_none_iff.1 h1
    have hS : ((lim k).std.does (madeStp ((lim k).made + 1) (nm3 k))).does (putStp ((lim k).made + 1) 0 (sec64 (k : Int))) = ⟨st ((lim k).std.take (kyn k)).nm (kyn k) ((lim k).made + 1), st ((lim k).std.take (kyn k)).rw ((lim k).made + 1) [sec64 (k : Int)]⟩ := by
      have e1 : (lim k).std.does (madeStp ((lim k).made + 1) (nm3 k)) = ⟨st ((lim k).std.take (kyn k)).nm (kyn k) ((lim k).made + 1), st ((lim k).std.take (kyn k)).rw ((lim k).made + 1) []⟩ := by
        unfold Shp.does
        exact if_pos rfl
      rw [e1]
      exact does_put _ _ _ 0 [] _
    have hN : (lim (k + 1)).std = ⟨st ((lim k).std.take (kyn k)).nm (kyn k) ((lim k).made + 1), st ((lim k).std.take (kyn k)).rw ((lim k).made + 1) [sec64 (k : Int)]⟩ := by
      show ((lim k).put (nm3 k) 0 64 (sec64 (k : Int))).2.std = _
      rw [e]
      exact hS
    have hL' : Lim (k + 1) (lim (k + 1)) := by
      refine ⟨(hL.bd.put (by omega) (by rw [nm3_size]; omega) (by omega) (sec64_len _) (sec64_k (by omega))).wide (by omega), (hL.bz.put (by omega) (sec64_len _) (sec64_k (by omega))).wide (by omega), ?_, .inr ?_⟩
      · rw [hN]
        simp only [Shp.take, st]
        rw [dl_none (fun p hp => hnone p (mem_dl hp)), dl_none hnone, List.map_append, hL.keys, List.range_succ, List.map_append]
        rfl
      · rw [hN]
        rcases hL.rows with h | ⟨f, f1, f2, r, f3⟩
        · subst h
          exact ⟨_, lk_st_same, by omega, _, lk_st_same⟩
        · have hk0 : k ≠ 0 := fun e => by
            subst e
            simp only [lim, newDsk, lk_nil] at f1
            cases f1
          have hne : kyn 0 ≠ kyn k := fun e => hnone _ (lk_mem f1) e
          have hff := hL.bd.file _ (lk_mem f1)
          simp only at hff
          refine ⟨f, ?_, f2, r, ?_⟩
          · rw [lk_st_other hne]
            simp only [Shp.take]
            rw [lk_dl_other hne]
            exact f1
          · rw [lk_st_other (by omega)]
            simp only [Shp.take]
            rw [lk_dl_other]
            · exact f3
            · have h1 : lk (lim k).std.nm (kyn k) = none := lk_none_iff.2 hnone
              rw [h1]
              simp
              omega
    refine ⟨hL', fun hk' => ?_⟩
    have h0' := lim_find hL' hk'
    have hl' := lim_len hL'
    have e' := hL'.bd.put_made (s := nm3 (k + 1)) (by rw [nm3_size]; omega) h0' (by omega) (sec64 ((k + 1 : Nat) : Int))
    rw [e']

end Go.Proofs.Ytikhgjnjlkaobaa

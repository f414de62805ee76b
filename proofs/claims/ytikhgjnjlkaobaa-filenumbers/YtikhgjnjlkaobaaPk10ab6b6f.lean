/-
  Names: what a disk's names are, sorted.
-/
import Derived.Test.YtikhgjnjlkaobaaPkdb76d125
import Derived.Test.YtikhgjnjlkaobaaPk6abb3141
namespace Go.Proofs.Ytikhgjnjlkaobaa
open Go.RowKit Go.Maps Go.Sort Go.Shelf
set_option maxRecDepth 100000
set_option maxRecDepth 100000

/-- The keys of a map of names are the names. -/
theorem keys_nm {w : World} {b : Nat} {D : DataW Value} {nm : List (List UInt8 × Int)} (hD : Mp w 9 b D) (hu : Un nm) (hgt : ∀ k, gt D (.string k) = (lk nm k).map (Value.int .i64)) : (strKeys D).Perm (nm.map (·.1)) := by
  obtain ⟨es, hDe, hpw, _⟩ := hD.own.entries K9
  obtain ⟨es', hDe', hko⟩ := hD.own.keysOf
  obtain rfl : es = es' := by rw [hDe] at hDe'; simpa using hDe'
  have hk : ∀ p ∈ es, ∃ x, p.1 = .string x := fun p hp => by obtain ⟨v, hv⟩ := hko p hp; obtain ⟨x, _, hx, _⟩ := Maps.keyOf_str Try.underlying9 hv; exact ⟨x, hx⟩
  have hperm := perm_strKeys (ss := nm.map (·.1)) hpw hk (by show (nm.map (·.1)).Nodup; exact List.pairwise_map.2 hu) (fun x => ?_)
  · rw [hDe]
    exact hperm.symm
  · rw [← hDe]
    constructor
    · intro hx
      obtain ⟨p, hp, rfl⟩ := List.mem_map.1 hx
      cases hh : Maps.has D (.string p.1) with
      | true => rfl
      | false =>
        exfalso
        have h1 := Maps.atKey_of_not_has hh (.nil : DataW Value)
        have h2 : gt D (.string p.1) = none := by simp [gt, h1]
        rw [hgt] at h2
        cases h3 : lk nm p.1 with
        | none => exact lk_none_iff.1 h3 p hp rfl
        | some f => rw [h3] at h2; simp at h2
    · intro hx
      have hx' := hx
      rw [hDe, Maps.has_eq, List.any_eq_true] at hx'
      obtain ⟨p, hp, hs⟩ := hx'
      obtain ⟨y, hy⟩ := hk p hp
      rw [hy] at hs
      obtain rfl : y = x := by simpa [Lit.sameKey] using hs
      obtain ⟨v, hv⟩ := hko p hp
      rw [hy] at hv
      rcases hD.at K9 hv with ⟨_, _, h3⟩ | ⟨u, _, h3, _⟩
      · rw [hx] at h3; cases h3
      · rw [hgt] at h3
        cases h4 : lk nm y with
        | none => rw [h4] at h3; cases h3
        | some f => exact List.mem_map.2 ⟨_, lk_mem h4, rfl⟩

set_option maxHeartbeats 1000000 in
theorem names_any {w : World} {L : Lb} {R : Nat} {o : Ob} {dur std : Shp} {l : List Stp} {K : Nat} (h : Di w L R o dur std l) (hm : Sm std K) (hK : K < 1000000000) :
    Calls Try.prog 14 #[.pointer (some ⟨R, 0, none⟩)] w fun e w' => ∃ (v : Value) (ss : List (List UInt8)), e = .returned v ∧ ss.Perm (std.nm.map (·.1)) ∧ w'.ownsRow w.heap.size 9 1 v ss.length ((ss.mergeSort (fun x y => decide (x ≤ y))).map encStr) ∧ Below w.heap.size w w' := by
  have hr := right_yes h.oj
  have c3 : w.cell? ⟨R, 3, none⟩ = some (.map (some o.sn)) := h.oj.c 3
  obtain ⟨D, hD, hsz, hgt⟩ := h.std.nm.ex
  have hperm := keys_nm hD h.std.nm.un hgt
  have hn := hm.nm
  have CK := callsIn_wide.1 (keys_at (some o.sn) w)
  have CS := callsIn_wide.1 (sorted_at o.sn _ D _ w hD.own (by rw [hsz]; unfold maxLen; omega) (by rw [hsz]; omega))
  have HP := hide hperm
  clear hperm hgt h hm hn hsz
  go_enter Try.func14, Try.ntmps14
  go_wp2_with fail
  refine hr.mono ?_
  rintro e w1 ⟨rfl, hw1⟩
  subst w1
  go_wp2_with fail
  refine CK.mono ?_
  rintro e w2 ⟨rfl, rfl⟩
  go_wp2_with fail
  refine CS.mono ?_
  rintro e w3 ⟨v, ss, rfl, hS, hrow, _, hb⟩
  go_wp2_with fail
  go_ret
  exact ⟨v, ss, rfl, hS.trans HP.out, ⟨hrow.1, hrow.2.imp id (fun ⟨g, cap, cur, h1, h2, r⟩ => ⟨g, cap, cur, h1, by simp at h2; omega, r⟩)⟩, ((Below.refl _ w).alloc (Nat.le_refl _) _).trans (hb.mono (by simp))⟩

end Go.Proofs.Ytikhgjnjlkaobaa

/-
  CspNone: choices' walk.
-/
import Derived.Test.YtnljgkemplebhaaCso
namespace Go.Proofs.Ytnljgkemplebhaa
open Go.RowKit QI
set_option maxRecDepth 100000
set_option linter.unusedSimpArgs false

theorem new_at (w : World) (o : Obj) (k : Nat) (h : k = w.heap.size) : (w.alloc o).heap[k]? = some o := by subst h; exact heap_alloc_new w o
theorem three_new (w : World) (o1 o2 o3 : Obj) : (((w.alloc o1).alloc o2).alloc o3).heap[w.heap.size]? = some o1 ∧ (((w.alloc o1).alloc o2).alloc o3).heap[w.heap.size + 1]? = some o2 ∧ (((w.alloc o1).alloc o2).alloc o3).heap[w.heap.size + 1 + 1]? = some o3 ∧ Below w.heap.size w (((w.alloc o1).alloc o2).alloc o3) := by
  have f1 := (Below.refl _ w).alloc (Nat.le_refl _) o1
  have n1 := heap_alloc_new w o1
  have s1 : (w.alloc o1).heap.size = w.heap.size + 1 := by simp
  generalize w.alloc o1 = A at *
  have f2 := (Below.refl _ A).alloc (Nat.le_refl _) o2
  have n2 := heap_alloc_new A o2
  have s2 : (A.alloc o2).heap.size = A.heap.size + 1 := by simp
  generalize A.alloc o2 = C at *
  have f3 := (Below.refl _ C).alloc (Nat.le_refl _) o3
  have n3 := heap_alloc_new C o3
  rw [s2, s1] at n3
  rw [s1] at n2
  exact ⟨((f3.block _ (by omega)).trans (f2.block _ (by omega))).trans n1, (f3.block _ (by omega)).trans n2, n3, f1.trans ((f2.trans (f3.mono (by omega))).mono (by omega))⟩
theorem four_new (w : World) (o1 o2 o3 o4 : Obj) : ((((w.alloc o1).alloc o2).alloc o3).alloc o4).heap[w.heap.size]? = some o1 ∧ ((((w.alloc o1).alloc o2).alloc o3).alloc o4).heap[w.heap.size + 1]? = some o2 ∧ ((((w.alloc o1).alloc o2).alloc o3).alloc o4).heap[w.heap.size + 1 + 1]? = some o3 ∧ ((((w.alloc o1).alloc o2).alloc o3).alloc o4).heap[w.heap.size + 1 + 1 + 1]? = some o4 ∧ Below w.heap.size w ((((w.alloc o1).alloc o2).alloc o3).alloc o4) := by
  obtain ⟨h1, h2, h3, hb⟩ := three_new w o1 o2 o3
  have s3 : (((w.alloc o1).alloc o2).alloc o3).heap.size = w.heap.size + 1 + 1 + 1 := by simp
  generalize ((w.alloc o1).alloc o2).alloc o3 = C at *
  have f4 := (Below.refl _ C).alloc (Nat.le_refl _) o4
  have n4 := heap_alloc_new C o4
  rw [s3] at n4
  exact ⟨(f4.block _ (by omega)).trans h1, (f4.block _ (by omega)).trans h2, (f4.block _ (by omega)).trans h3, n4, hb.trans (f4.mono hb.size)⟩

set_option maxHeartbeats 1000000 in
theorem choices_any (w : World) : Calls Try.prog 34 #[] w fun e w' => e = .returned (.bool true) ∧ Below w.heap.size w w' := by
  have CN := new_any w
  go_enter Try.func34, Try.ntmps34
  go_wp2_with fail
  refine CN.mono ?_
  rintro e w1 ⟨a, rfl, rt, hlo, hb1⟩
  obtain ⟨gr, hgr⟩ : ∃ gr, Hid (gr = w1.heap.size) := ⟨_, hide rfl⟩
  obtain ⟨V, hV⟩ : ∃ V, Hid (V = ((w1.alloc (.cells #[.pointer (some ⟨a.R, 0, none⟩)] (26 : TypeId))).alloc (.cells #[.int .i64 (-1)] 3)).alloc (.cells #[.int .i64 (-1)] 3)) := ⟨_, hide rfl⟩
  obtain ⟨er, ea, eb, bV⟩ := three_new w1 (.cells #[.pointer (some ⟨a.R, 0, none⟩)] (26 : TypeId)) (.cells #[.int .i64 (-1)] 3) (.cells #[.int .i64 (-1)] 3)
  rw [← hV.out] at er ea eb bV
  have rtV := rt.below bV
  have hbV : Below w.heap.size w V := hb1.trans (bV.mono hb1.size)
  have hlow : ∀ k, own a rs0 k ∨ k = a.Q → k < w1.heap.size := fun k hk => hk.elim (fun h => rt.m.own_lt h) (fun h => by rw [h]; exact rt.m.sd.lt)
  have z1 := hb1.size
  rw [← hgr.out] at er ea eb
  have hgw : w.heap.size ≤ gr := by rw [hgr.out]; exact z1
  have hng : ∀ k, gr ≤ k → ¬ own a rs0 k ∧ k ≠ a.Q := fun k hk => by
    have := hgr.out
    exact ⟨fun h => by have := hlow k (.inl h); omega, fun h => by have := hlow k (.inr h); omega⟩
  have CS := spawn_yes rtV (by simp [rs0, Rs.lives]) (by simp [rs0]) (.func 61) #[] #[.pointer (some ⟨gr, 0, none⟩), .pointer (some ⟨gr + 1, 0, none⟩), .pointer (some ⟨gr + 1 + 1, 0, none⟩)]
  obtain ⟨R, hR⟩ : ∃ R, Hid (R = a.R) := ⟨_, hide rfl⟩
  have HC : Hid (∀ b w2, SpP V a rs0 (.func (.func 61) #[] #[.pointer (some ⟨gr, 0, none⟩), .pointer (some ⟨gr + 1, 0, none⟩), .pointer (some ⟨gr + 1 + 1, 0, none⟩)]) b w2 → w2.cell? ⟨gr, 0, none⟩ = some (.pointer (some ⟨R, 0, none⟩)) ∧ Hid (Calls Try.prog 11 #[.pointer (some ⟨R, 0, none⟩), .int .u64 14] w2 fun e w' => e = .returned (.bool true) ∧ w'.cell? ⟨gr + 1, 0, none⟩ = some (.int .i64 2) ∧ w'.cell? ⟨gr + 1 + 1, 0, none⟩ = some (.int .i64 4) ∧ Below w.heap.size w w')) := hide (by
    rintro b w2 ⟨a2, g1, g2, x, hbw, y1, y2, y3, y4, y5, y6⟩
    obtain ⟨hb2, hlo2⟩ := x.low hbV hlo
    obtain ⟨er2, nr2⟩ := x.cell er (hng gr (by omega)).1
    obtain ⟨ea2, na2⟩ := x.cell ea (hng (gr + 1) (by omega)).1
    obtain ⟨eb2, nb2⟩ := x.cell eb (hng (gr + 1 + 1) (by omega)).1
    have hti : (rs0.spawn b (spv g1 g2)).ts[0]? = some ⟨b, spv g1 g2, .nilFunc⟩ := by simp [Rs.spawn, rs0]
    have hst := step_spawned x.rt (by simp [Rs.spawn, rs0]) 14 (by omega) (j := 0) (i := 0) (hide (by simp [Rs.spawn, rs0])) (by simp [Rs.spawn, rs0]) hti ent61 y3 y4 y5 y6 (fun w3 a3 s3 => w3.heap[gr + 1]? = some (.cells #[.int .i64 2] 3 (0, 0)) ∧ w3.heap[gr + 1 + 1]? = some (.cells #[.int .i64 4] 3 (0, 0)) ∧ Below w.heap.size w w3 ∧ (∀ k, own a3 s3 k ∨ k = a3.Q → w.heap.size ≤ k) ∧ ¬ own a3 s3 (gr + 1) ∧ ¬ own a3 s3 (gr + 1 + 1)) (fun X a1 x1 => by
      obtain ⟨hb3, hlo3⟩ := x1.low hb2 hlo2
      obtain ⟨er3, nr3⟩ := x1.cell er2 nr2
      obtain ⟨ea3, na3⟩ := x1.cell ea2 na2
      obtain ⟨eb3, nb3⟩ := x1.cell eb2 nb2
      rw [← x.x.R, ← x1.x.R] at er3
      have hQ : a1.Q = a.Q := x1.x.Q.trans x.x.Q
      refine (choices1 (b := b) (W := w) x1.rt rfl (by simp [Rs.begin, Rs.spawn, rs0]) er3 ea3 eb3 ⟨na3, by rw [hQ]; exact (hng _ (by omega)).2⟩ ⟨nb3, by rw [hQ]; exact (hng _ (by omega)).2⟩ nr3 (by omega) hb3 hlo3 (by omega) (by omega)).mono ?_
      rintro e w' ⟨rfl, hF⟩
      obtain ⟨q1, q2, q3, q4⟩ := hF.out
      exact ⟨rfl, a1, _, ⟨b, .nilFunc, .nilFunc⟩, q1, rfl, by simp [Rs.take, Rs.begin, get_set hti], rfl, x1.x.R, q2, q3, q4, hlo3, na3, nb3⟩)
    rw [x.x.R, ← hR.out] at hst
    refine ⟨by rw [hR.out]; exact cell_of_row w2 _ 0 _ _ _ er2, hide (hst.mono ?_)⟩
    rintro e w' ⟨rfl, w3, a3, s3, ⟨q1, q2, q3, q4, q5, q6⟩, x3⟩
    exact ⟨rfl, cell_of_row w' _ 0 _ _ _ (x3.cell q1 q5).1, cell_of_row w' _ 0 _ _ _ (x3.cell q2 q6).1, (x3.low q3 q4).1⟩)
  rw [← hR.out] at CS hV ⊢
  have HCS := hide CS
  have HGr : Hid (w1.heap.size = gr) := hide hgr.out.symm
  clear CS rt rtV hlo hb1 bV hbV hlow hng er ea eb CN z1 hgw
  go_wp2_with fail
  rw [← hV.out, HGr.out]
  refine HCS.out.mono ?_
  rintro e w2 ⟨b, rfl, hsp⟩
  obtain ⟨c0, HSt⟩ := HC.out b w2 hsp
  clear HC HCS hsp
  go_wp2_with fail
  refine HSt.out.mono ?_
  rintro e w3 ⟨rfl, k1, k2, hb⟩
  have HB := hide hb
  clear hb HSt
  go_wp2_with fail
  go_ret
  exact ⟨rfl, HB.out⟩

end Go.Proofs.Ytnljgkemplebhaa

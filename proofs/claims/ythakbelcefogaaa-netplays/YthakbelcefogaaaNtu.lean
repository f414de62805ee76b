/-
  The document's net: Send.
-/
import Derived.Test.YthakbelcefogaaaNtt
namespace Go.Proofs.Ythakbelcefogaaa
open Go.RowKit
set_option maxRecDepth 100000

/-- The document's net in memory: a list of packets, and the number that was given last. -/
def Rn (w : World) (F : Nat → Prop) (v : Value) (n : Nt) : Prop := ∃ a cap ts, v = .agg #[.slice a n.m.length cap, .int .i64 n.last] ∧ Pl w F a n.m.length cap ts n.m

set_option maxHeartbeats 2000000 in
theorem rsend_long {w : World} {a : Option Addr} {k cap : Nat} {la f t : Int} {c : Option Addr} {m d : Nat} (hm : 65545 < m) :
    Calls Try.prog 16 #[.agg #[.slice a k cap, .int .i64 la], .int .i64 f, .int .i64 t, .slice c m d] w fun e w' => e = .returned (.tuple #[.agg #[.slice a k cap, .int .i64 la], .int .i64 0, .int .i64 3]) ∧ Below w.heap.size w w' := by
  have H2 : Hid (∀ o o' : Obj, ((w.alloc o).alloc o').heap[w.heap.size + 1]? = some o') := hide (fun o o' => by simpa using heap_alloc_new (w.alloc o) o')
  have FB : Hid (∀ o o', Below w.heap.size w ((w.alloc o).alloc o')) := hide (fun o o' => ((Below.refl _ w).alloc (Nat.le_refl _) o).alloc (by simp) o')
  go_enter Try.func16, Try.ntmps16
  go_wp2_with fail
  refine bodyPost_ret (v := .tuple #[.agg #[.slice a k cap, .int .i64 la], .int .i64 0, .int .i64 3]) (results_cell_tmp2 Try.results16 _ _ (w.heap.size + 1) (40 : TypeId) _ (0, 0) _ _ _ rfl rfl rfl (H2.out _ _) Try.underlying40 rfl size40) rfl ?_
  exact ⟨rfl, FB.out _ _⟩

set_option maxHeartbeats 2000000 in
/-- Send, by what put answers. -/
theorem rsend_put {w : World} {a : Option Addr} {k cap : Nat} {la f t : Int} {c : Option Addr} {m d : Nat} (hm : ¬ 65545 < m) {Q : Value → Value → Value → World → Prop}
    (hp : ∀ W, Below w.heap.size w W → W.heap.size = w.heap.size + 2 → Calls Try.prog 38 #[.agg #[.slice a k cap, .int .i64 la], .agg #[.int .i64 0, .int .i64 f, .int .i64 t, .slice c m d]] W fun e w' => ∃ x0 x1 y z, e = .returned (.tuple #[.agg #[x0, x1], y, z]) ∧ x0.oneCell' = true ∧ x1.oneCell' = true ∧ Below W.heap.size W w' ∧ ∀ X, Below w.heap.size w X → (∀ g, W.heap.size ≤ g → X.heap[g]? = w'.heap[g]?) → X.heap.size = w'.heap.size → Q (.agg #[x0, x1]) y z X) :
    Calls Try.prog 16 #[.agg #[.slice a k cap, .int .i64 la], .int .i64 f, .int .i64 t, .slice c m d] w fun e w' => ∃ v y z, e = .returned (.tuple #[v, y, z]) ∧ Q v y z w' ∧ Below w.heap.size w w' := by
  obtain ⟨A, HA⟩ : ∃ A, Hid (A = ((w.alloc (.cells #[.slice a k cap, .int .i64 la] (40 : TypeId))).alloc (.cells #[.slice none 0 0, .int .i64 0] (40 : TypeId)))) := ⟨_, hide rfl⟩
  have bA : Below w.heap.size w A := by rw [HA.out]; exact ((Below.refl _ w).alloc (Nat.le_refl _) _).alloc (by simp) _
  have sA : A.heap.size = w.heap.size + 2 := by rw [HA.out]; simp
  have a1 : A.heap[w.heap.size + 1]? = some (.cells #[.slice none 0 0, .int .i64 0] (40 : TypeId) (0, 0)) := by rw [HA.out]; simpa using heap_alloc_new (w.alloc (.cells #[.slice a k cap, .int .i64 la] (40 : TypeId))) (.cells #[.slice none 0 0, .int .i64 0] (40 : TypeId))
  have C := hp A bA sA
  have FIN : Hid (∀ (x0 x1 y z : Value) (B : World), Below A.heap.size A B → (∀ X, Below w.heap.size w X → (∀ g, A.heap.size ≤ g → X.heap[g]? = B.heap[g]?) → X.heap.size = B.heap.size → Q (.agg #[x0, x1]) y z X) → B.heap[w.heap.size + 1]? = some (.cells #[.slice none 0 0, .int .i64 0] (40 : TypeId) (0, 0)) ∧ Q (.agg #[x0, x1]) y z (B.setRow (w.heap.size + 1) #[x0, x1]) ∧ Below w.heap.size w (B.setRow (w.heap.size + 1) #[x0, x1])) := hide (fun x0 x1 y z B hB hQ => by
    have b3 : Below w.heap.size w (B.setRow (w.heap.size + 1) #[x0, x1]) := below_setRow (bA.trans (hB.mono bA.size)) (by omega) _
    exact ⟨(hB.block _ (by omega)).trans a1, hQ _ b3 (fun g hg => setRow_other _ _ _ _ (by omega)) (by simp), b3⟩)
  have hmI : ¬ ((65545 : Int) < (m : Int)) := by omega
  clear hp bA sA a1
  go_enter Try.func16, Try.ntmps16
  go_wp2_with fail
  rw [← HA.out]
  refine C.mono ?_
  rintro e B ⟨x0, x1, y, z, rfl, o0, o1, hB, hQ⟩
  obtain ⟨f1, f2, f3⟩ := FIN.out x0 x1 y z B hB hQ
  have F2 := hide f2
  have F3 := hide f3
  clear f2 f3 hB hQ C
  go_wp2_with (refine wpList_store_rowTo rfl (40 : TypeId) (.tmp 8) (.tmp 21) rfl rfl (w.heap.size + 1) #[x0, x1] (by simp [Act.eval]) (by simp [Act.eval]) (40 : TypeId) _ f1 size40 rfl (by simp [o0, o1]) ?_)
  refine bodyPost_ret (v := .tuple #[.agg #[x0, x1], y, z]) (results_cell_tmp2 Try.results16 _ _ (w.heap.size + 1) (40 : TypeId) _ (0, 0) _ _ _ rfl rfl rfl (setRow_heap _ _ _ _ (40 : TypeId) (0, 0) f1) Try.underlying40 rfl size40) rfl ?_
  exact ⟨_, _, _, rfl, F2.out, F3.out⟩

theorem Rn.keep {w w' : World} {F : Nat → Prop} {v : Value} {n : Nt} (h : Rn w F v n) (hb : Below w.heap.size w w') : Rn w' F v n := by
  obtain ⟨a, cap, ts, h1, h2⟩ := h
  exact ⟨a, cap, ts, h1, h2.keep hb⟩
theorem Rn.mono {w : World} {F G : Nat → Prop} {v : Value} {n : Nt} (h : Rn w F v n) (hF : ∀ g, F g → G g) : Rn w G v n := by
  obtain ⟨a, cap, ts, h1, h2⟩ := h
  exact ⟨a, cap, ts, h1, h2.mono hF⟩

set_option maxHeartbeats 1000000 in
theorem rsend_any {w : World} {F : Nat → Prop} {v : Value} {n : Nt} {f t : Int} {c : Option Addr} {m d : Nat} {b : List Int} (h : Rn w F v n) (hla : 0 ≤ n.last ∧ n.last < 9223372036854775807) (hB : Bs w c m d b) :
    Calls Try.prog 16 #[v, .int .i64 f, .int .i64 t, .slice c m d] w fun e w' => ∃ v', e = .returned (.tuple #[v', .int .i64 (n.sendA b).1, .int .i64 (n.sendA b).2]) ∧ Rn w' (fun g => F g ∨ w.heap.size ≤ g) v' (n.sendN f t b) ∧ Below w.heap.size w w' := by
  have hR := h
  obtain ⟨a, cap, ts, rfl, hP⟩ := h
  have hlen := hB.len
  by_cases hm : 65545 < m
  · refine (rsend_long hm).mono ?_
    rintro e w' ⟨rfl, hb⟩
    have e1 : n.sendA b = (0, 3) := by unfold Nt.sendA; rw [if_pos (by omega)]
    have e2 : n.sendN f t b = n := by unfold Nt.sendN; rw [if_pos (by omega)]
    rw [e1, e2]
    exact ⟨_, rfl, (hR.keep hb).mono (fun g hg => .inl hg), hb⟩
  · refine (rsend_put hm (Q := fun v' y z X => y = .int .i64 (n.sendA b).1 ∧ z = .int .i64 (n.sendA b).2 ∧ Rn X (fun g => F g ∨ w.heap.size ≤ g) v' (n.sendN f t b)) ?_).mono ?_
    · intro W bW sW
      by_cases hf : 256 ≤ n.m.length
      · refine (rput_full hf).mono ?_
        rintro e w' ⟨rfl, hb⟩
        have e1 : n.sendA b = (0, 5) := by unfold Nt.sendA Nt.putA; rw [if_neg (by omega), if_pos hf]
        have e2 : n.sendN f t b = n := by unfold Nt.sendN Nt.putN; rw [if_neg (by omega), if_pos hf]
        rw [e1, e2]
        exact ⟨_, _, _, _, rfl, rfl, rfl, hb, fun X bX _ _ => ⟨rfl, rfl, (hR.keep bX).mono (fun g hg => .inl hg)⟩⟩
      · refine (rput_go (hP.low.keep bW) (by omega) hla (hB.keep bW) (by omega)).mono ?_
        rintro e w' ⟨a', cap', ts', rfl, hP', hb⟩
        have e1 : n.sendA b = (n.last + 1, 0) := by unfold Nt.sendA Nt.putA; rw [if_neg (by omega), if_neg hf]
        have e2 : n.sendN f t b = n.put ⟨f, t, b⟩ := by unfold Nt.sendN Nt.putN; rw [if_neg (by omega), if_neg hf]
        rw [e1, e2]
        refine ⟨_, _, _, _, rfl, rfl, rfl, hb, fun X bX hX sX => ⟨rfl, rfl, a', cap', ts', by simp [Nt.put], ?_⟩⟩
        have hl : (n.put ⟨f, t, b⟩).m.length = n.m.length + 1 := by simp [Nt.put]
        rw [hl]
        refine Pl.mono (F := fun g => (F g ∧ g < w.heap.size) ∨ W.heap.size ≤ g) (hP'.heap (fun g hg hlt => ?_) (by omega)) (fun g hg => hg.imp (fun h => h.1) (fun h => by omega))
        rcases hg with hg | hg
        · rw [bX.block g hg.2, hb.block g (by omega), bW.block g hg.2]
        · exact hX g hg
    · rintro e w' ⟨v', y, z, rfl, ⟨rfl, rfl, hn⟩, hb⟩
      exact ⟨v', rfl, hn, hb⟩

end Go.Proofs.Ythakbelcefogaaa

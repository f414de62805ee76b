/-
  A new disk; a step that a sector is put; find.
-/
import Derived.Test.YtgbboaedhpaocaaGreatDdo
namespace Go.Proofs.YtgbboaedhpaocaaGreat
open Go.RowKit
set_option maxRecDepth 100000
set_option maxRecDepth 100000

theorem Nm.made (w : World) : Nm (w.alloc (.map #[] 0)) w.heap.size [] :=
  ⟨List.Pairwise.nil, .map [], .of (World.ownsMap_made w Tryz.prog 9 hold), rfl, fun _ => rfl⟩
theorem Rw.made {α : Type} (c : α → List Value) (T : TypeId) (size : Nat) (w : World) (L : Lb) (tag : Int) : Rw c T size (w.alloc (.map #[] 0)) L tag w.heap.size [] :=
  ⟨List.Pairwise.nil, by simp, .map [], .of (World.ownsMap_made w Tryz.prog 3 hold), rfl, fun _ _ _ => rfl, fun _ _ h => by simp [lk] at h⟩

theorem mk43 (W : World) : (Instr.makeMap (83 : TypeId) none).run Tryz.prog W = .ok (.map (some W.heap.size)) (W.alloc (.map #[] 0)) := run_makeMap _ _
theorem mk44 (W : World) : (Instr.makeMap (84 : TypeId) none).run Tryz.prog W = .ok (.map (some W.heap.size)) (W.alloc (.map #[] 0)) := run_makeMap _ _
theorem mk48 (W : World) : (Instr.makeMap (89 : TypeId) none).run Tryz.prog W = .ok (.map (some W.heap.size)) (W.alloc (.map #[] 0)) := run_makeMap _ _

set_option maxHeartbeats 1000000 in
theorem newShape_any (w : World) : Calls Tryz.prog 40 #[] w fun e w' => ∃ nb rb, e = .returned (.agg #[.map (some nb), .map (some rb)]) ∧ w.heap.size ≤ nb ∧ nb < rb ∧ rb < w'.heap.size ∧ Nm w' nb [] ∧ (∀ L tag, Rw U (113 : TypeId) 64 w' L tag rb []) ∧ Tb (fun _ => False) w w' := by
  have m1 := mk43
  have m2 := mk44
  go_enter Tryz.func40, Tryz.ntmps40
  go_wp2_with fail
  refine bodyPost_ret (v := .agg #[.map (some (w.heap.size + 1)), .map (some (w.heap.size + 2))]) (by simp [results, Tryz.results40, go_sem]) rfl ?_
  refine ⟨w.heap.size + 1, w.heap.size + 2, rfl, by omega, by omega, by simp, ?_, fun L tag => ?_, ?_⟩
  · have := (Nm.made (w.alloc (.cells #[.map (some (w.heap.size + 1)), .map (some (w.heap.size + 2))] (86 : TypeId)))).heap (w' := ((w.alloc (.cells #[.map (some (w.heap.size + 1)), .map (some (w.heap.size + 2))] (86 : TypeId))).alloc (.map #[] 0)).alloc (.map #[] 0)) (((Tb.refl (fun _ => False) _).alloc _).block _ (by simp) (fun h => h))
    simpa using this
  · have := Rw.made U (113 : TypeId) 64 ((w.alloc (.cells #[.map (some (w.heap.size + 1)), .map (some (w.heap.size + 2))] (86 : TypeId))).alloc (.map #[] 0)) L tag
    simpa using this
  · exact (((Tb.refl _ _).alloc _).alloc _).alloc _

set_option maxHeartbeats 1000000 in
theorem newBacklog_any (w : World) : Calls Tryz.prog 41 #[] w fun e w' => ∃ us, e = .returned (.agg #[.int .i64 0, .slice none 0 0, .map (some us)]) ∧ w.heap.size ≤ us ∧ us < w'.heap.size ∧ (∀ L tag, Rw Stp.cells (115 : TypeId) 70 w' L tag us []) ∧ Tb (fun _ => False) w w' := by
  have m1 := mk48
  go_enter Tryz.func41, Tryz.ntmps41
  go_wp2_with fail
  refine bodyPost_ret (v := .agg #[.int .i64 0, .slice none 0 0, .map (some (w.heap.size + 1))]) (by simp [results, Tryz.results41, go_sem]) rfl ?_
  refine ⟨w.heap.size + 1, rfl, by omega, by simp, fun L tag => ?_, ((Tb.refl _ _).alloc _).alloc _⟩
  have := Rw.made Stp.cells (115 : TypeId) 70 (w.alloc (.cells #[.int .i64 0, .slice none 0 0, .map (some (w.heap.size + 1))] (91 : TypeId))) L tag
  simpa using this

/-- A disk. -/
structure Dsk where
  dur : Shp
  std : Shp
  l : List Stp
  last : Int
  made : Int
  down : Bool
  armed : Int
  failing : Int
  failure : Int

/-- What the own block says of it. -/
structure Says (o : Ob) (d : Dsk) : Prop where
  last : o.last = d.last
  made : o.made = d.made
  down : o.down = d.down
  armed : o.armed = d.armed
  failing : o.failing = d.failing
  failure : o.failure = d.failure

/-- A disk in memory. -/
def Dk (w : World) (L : Lb) (R : Nat) (d : Dsk) : Prop := ∃ o, Di w L R o d.dur d.std d.l ∧ Says o d

def newDsk : Dsk := ⟨⟨[], []⟩, ⟨[], []⟩, [], 0, 0, false, -1, -1, 0⟩

theorem built57 (a b c d e : Nat) : Tryz.prog.built (99 : TypeId) [(1, .agg #[.map (some a), .map (some b)]), (2, .agg #[.map (some c), .map (some d)]), (3, .agg #[.int .i64 0, .slice none 0 0, .map (some e)])] =
    some #[.pointer none, .map (some a), .map (some b), .map (some c), .map (some d), .int .i64 0, .slice none 0 0, .map (some e), .int .i64 0, .bool false, .int .i64 0, .int .i64 0, .int .i64 0] := by kernel_rfl

set_option maxHeartbeats 1000000 in
theorem new_any (w : World) : Calls Tryz.prog 9 #[] w fun e w' => ∃ R L, e = .returned (.pointer (some ⟨R, 0, none⟩)) ∧ w.heap.size ≤ R ∧ Dk w' L R newDsk ∧ (∀ g, g < w.heap.size → L g = (0, 0)) ∧ Tb (fun _ => False) w w' := by
  go_enter Tryz.func9, Tryz.ntmps9
  go_wp2_with fail
  refine (newShape_any w).mono ?_
  rintro e w1 ⟨dn, dr, rfl, a1, a2, a3, n1, r1, t1⟩
  go_wp2_with fail
  refine (newShape_any w1).mono ?_
  rintro e w2 ⟨sn, sr, rfl, b1, b2, b3, n2, r2, t2⟩
  go_wp2_with fail
  refine (newBacklog_any w2).mono ?_
  rintro e w3 ⟨us, rfl, c1, c2, r3, t3⟩
  have s1 := t1.size
  have s2 := t2.size
  have s3 := t3.size
  obtain ⟨L, hL⟩ : ∃ L : Lb, L = fun g => if g = w3.heap.size then (1, 0) else if g = dn then (2, 0) else if g = dr then (3, 0) else if g = sn then (4, 0) else if g = sr then (5, 0) else if g = us then (6, 0) else (0, 0) := ⟨_, rfl⟩
  have l1 : L w3.heap.size = (1, 0) := by rw [hL]; simp
  have l2 : L dn = (2, 0) := by rw [hL]; exact (if_neg (by omega)).trans (if_pos rfl)
  have l3 : L dr = (3, 0) := by rw [hL]; exact (if_neg (by omega)).trans ((if_neg (by omega)).trans (if_pos rfl))
  have l4 : L sn = (4, 0) := by rw [hL]; exact (if_neg (by omega)).trans ((if_neg (by omega)).trans ((if_neg (by omega)).trans (if_pos rfl)))
  have l5 : L sr = (5, 0) := by rw [hL]; exact (if_neg (by omega)).trans ((if_neg (by omega)).trans ((if_neg (by omega)).trans ((if_neg (by omega)).trans (if_pos rfl))))
  have l6 : L us = (6, 0) := by rw [hL]; exact (if_neg (by omega)).trans ((if_neg (by omega)).trans ((if_neg (by omega)).trans ((if_neg (by omega)).trans ((if_neg (by omega)).trans (if_pos rfl)))))
  have l7 : ∀ g, g < w.heap.size → L g = (0, 0) := fun g hg => by rw [hL]; exact (if_neg (by omega)).trans ((if_neg (by omega)).trans ((if_neg (by omega)).trans ((if_neg (by omega)).trans ((if_neg (by omega)).trans (if_neg (by omega))))))
  clear hL
  obtain ⟨o, ho⟩ : ∃ o : Ob, o = ⟨dn, dr, sn, sr, 0, .slice none 0 0, us, 0, false, 0, 0, 0⟩ := ⟨_, rfl⟩
  obtain ⟨W, HW⟩ : ∃ W, W = w3.alloc (.cells (o.cells w3.heap.size) (99 : TypeId)) := ⟨_, rfl⟩
  have hO : Oj W w3.heap.size o := ⟨by rw [HW]; exact heap_alloc_new w3 _, by rw [ho]; simp, by rw [ho]; simp⟩
  have t4 : Tb (fun _ => False) w3 W := by rw [HW]; exact (Tb.refl _ _).alloc _
  have fin : Hid (∀ X : World, Oj X w3.heap.size { o with armed := -1, failing := -1 } → Tb (fun k => k = w3.heap.size) W X → ∃ R L, (Ending.returned (.pointer (some ⟨w3.heap.size, 0, none⟩)) : Ending) = .returned (.pointer (some ⟨R, 0, none⟩)) ∧ w.heap.size ≤ R ∧ Dk X L R newDsk ∧ (∀ g, g < w.heap.size → L g = (0, 0)) ∧ Tb (fun _ => False) w X) := hide (by
    intro X hX tX
    have tE : ∀ {a b : World} {S : Nat → Prop}, Tb (fun _ => False) a b → Tb S a b := fun h => h.mono (fun _ _ h => h.elim)
    have u1 : Tb (fun k => k = w3.heap.size) w1 X := (((tE t2).trans t3 (fun _ _ h => h.elim)).trans t4 (fun _ _ h => h.elim)).trans tX (fun _ _ h => h)
    have u2 : Tb (fun k => k = w3.heap.size) w2 X := ((tE t3).trans t4 (fun _ _ h => h.elim)).trans tX (fun _ _ h => h)
    have u3 : Tb (fun k => k = w3.heap.size) w3 X := (tE t4).trans tX (fun _ _ h => h)
    have u0 : Tb (fun _ => False) w X := ((tE t1).trans u1 (fun i hi e => by omega))
    refine ⟨w3.heap.size, L, rfl, by omega, ⟨_, ⟨hX, l1, ⟨?_, ?_, ?_, ?_⟩, ⟨?_, ?_, ?_, ?_⟩, ⟨?_, ?_, ⟨[], ?_, fun _ => rfl, ?_⟩, ?_, by simp [newDsk], by simp [newDsk], by simp [newDsk], ?_⟩⟩, ?_⟩, l7, u0⟩
    all_goals (try rw [ho])
    · exact n1.tb u1 (by omega)
    · exact (r1 L _).tb u1 (Lx.refl _ _) (by omega) (fun g f e h => by rw [h, l1] at e; simp at e)
    · exact l2
    · exact l3
    · exact n2.tb u2 (by omega)
    · exact (r2 L _).tb u2 (Lx.refl _ _) (by omega) (fun g f e h => by rw [h, l1] at e; simp at e)
    · exact l4
    · exact l5
    · exact World.ownsRow_nil _ _ _ _
    · intro g hg; cases hg
    · exact (r3 L _).tb u3 (Lx.refl _ _) (by omega) (fun g f e h => by rw [h, l1] at e; simp at e)
    · simp
    · exact l6
    · simp
    · exact ⟨rfl, rfl, rfl, rfl, rfl, rfl⟩)
  have hd := disarm_any hO
  clear hO t4
  rw [ho] at HW
  simp only [Ob.cells] at HW
  go_wp2_with (refine wpList_buildTo rfl (99 : TypeId) #[(1, .tmp 2), (2, .tmp 3), (3, .tmp 4)] rfl (some 5) rfl #[.pointer none, .map (some dn), .map (some dr), .map (some sn), .map (some sr), .int .i64 0, .slice none 0 0, .map (some us), .int .i64 0, .bool false, .int .i64 0, .int .i64 0, .int .i64 0] (by simpa [Act.eval] using built57 dn dr sn sr us) ?_)
  rw [← HW]
  refine hd.mono ?_
  rintro e w5 ⟨rfl, hO5, t5⟩
  go_wp2_with fail
  go_ret
  exact fin.out w5 hO5 t5

/-- The step that a sector is put. -/
def putStp (f at' : Int) (d : List Int) : Stp := ⟨0, 1, f, ByteArray.empty, ByteArray.empty, at', d⟩
theorem putStp_ok {f at' : Int} {d : List Int} (hf : 1 ≤ f ∧ f ≤ 9223372036854775807) (ha : 0 ≤ at' ∧ at' ≤ 4095) (hd : d.length = 64) (hb : ∀ z ∈ d, 0 ≤ z ∧ z ≤ 255) : (putStp f at' d).Ok :=
  ⟨by simp [putStp], by simp [putStp], hf, by simp [putStp], by simp [putStp], ⟨ha.1, by simp only [putStp]; omega⟩, fun _ => ha.2, hd, hb⟩

/-- The step that a file is made. -/
def madeStp (f : Int) (s : ByteArray) : Stp := ⟨0, 0, f, s, ByteArray.empty, 0, List.replicate 64 0⟩
theorem madeStp_ok {f : Int} {s : ByteArray} (hf : 1 ≤ f ∧ f ≤ 9223372036854775807) (hs : s.size ≤ 64) : (madeStp f s).Ok :=
  ⟨by simp [madeStp], by simp [madeStp], hf, hs, by simp [madeStp], by simp [madeStp], fun h => by simp [madeStp] at h, by simp [madeStp], fun z hz => by rw [(List.mem_replicate.1 hz).2]; omega⟩

theorem built81m (f : Int) (s : ByteArray) : Tryz.prog.built (115 : TypeId) [(1, .int .u8 0), (2, .int .i64 f), (3, .string s)] = some (madeStp f s).cells.toArray := by kernel_rfl

/-- The fields of a step that is put, all but its data: six cells, then noughts. -/
theorem zero81 : ∃ i, Tryz.prog.info? (115 : TypeId) = some i ∧ i.zero = some (.agg ([Value.int .i64 0, .int .u8 0, .int .i64 0, .string ByteArray.empty, .string ByteArray.empty, .int .i64 0] ++ U (List.replicate 64 0)).toArray) := by
  have h : (Tryz.prog.info? (115 : TypeId)).map (·.zero) = some (some (.agg ([Value.int .i64 0, .int .u8 0, .int .i64 0, .string ByteArray.empty, .string ByteArray.empty, .int .i64 0] ++ U (List.replicate 64 0)).toArray)) := by kernel_rfl
  obtain ⟨i, hi, hz⟩ := Option.map_eq_some_iff.1 h
  exact ⟨i, hi, hz⟩

end Go.Proofs.YtgbboaedhpaocaaGreat

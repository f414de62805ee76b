/-
  putOf: the step that a sector is put.
-/
import Derived.Test.YtgbboaedhpaocaaGreatDnw
namespace Go.Proofs.YtgbboaedhpaocaaGreat
open Go.RowKit
set_option maxRecDepth 100000
set_option maxRecDepth 100000

/-- A part that is laid at the end. -/
theorem fill_last (place : Nat → Option (Nat × Nat)) (cells D : Array Value) (off : Nat) (i : Nat) (hp : place i = some (off, D.size)) (hs : off + D.size = cells.size) : Instr.fill place cells [(i, .agg D)] = some (cells.toList.take off ++ D.toList).toArray := by
  have h1 := Great.foldl_set off D.toList 0 cells
  simp only [Instr.fill, hp]
  rw [if_neg (by simp [Value.cells]; omega)]
  simp only [Option.some.injEq]
  show Array.foldl (fun cs (x : Value × Nat) => cs.setIfInBounds (off + x.2) x.1) cells D.zipIdx = _
  have e : Array.foldl (fun cs (x : Value × Nat) => cs.setIfInBounds (off + x.2) x.1) cells D.zipIdx = (D.toList.zipIdx 0).foldl (fun cs (x : Value × Nat) => cs.setIfInBounds (off + x.2) x.1) cells := by
    rw [← Array.foldl_toList, Array.toList_zipIdx]
  apply Array.ext_getElem?
  intro k
  rw [e, h1.2 k]
  simp only [Nat.add_zero, Array.length_toList, List.getElem?_toArray]
  by_cases hk : off ≤ k
  · rw [List.getElem?_append_right (by simp; omega)]
    simp only [List.length_take, Array.length_toList]
    rw [Nat.min_eq_left (by omega)]
    by_cases hk2 : k < off + D.size
    · rw [if_pos ⟨hk, hk2, by omega⟩]
    · rw [if_neg (fun h => hk2 h.2.1)]
      rw [Array.getElem?_eq_none (by omega), List.getElem?_eq_none (by simp; omega)]
  · rw [if_neg (fun h => hk h.1), List.getElem?_append_left (by simp; omega), List.getElem?_take, if_pos (by omega)]
    simp

theorem fill_append (place : Nat → Option (Nat × Nat)) (m : List (Nat × Value)) : ∀ (l : List (Nat × Value)) (cells : Array Value), Instr.fill place cells (l ++ m) = (Instr.fill place cells l).bind fun c => Instr.fill place c m := by
  intro l
  induction l with
  | nil => intro cells; rfl
  | cons p l ih =>
    intro cells
    obtain ⟨i, v⟩ := p
    simp only [List.cons_append, Instr.fill]
    cases place i with
    | none => rfl
    | some q =>
      obtain ⟨off, size⟩ := q
      simp only
      split
      · rfl
      · exact ih _

theorem built81_fill : ∃ (place : Nat → Option (Nat × Nat)) (z : Array Value), (∀ parts, Tryz.prog.built (115 : TypeId) parts = Instr.fill place z parts) ∧ place 6 = some (6, 64) := by
  have h : ((Tryz.prog.info? (115 : TypeId)).bind fun it => it.zero.bind fun z => (Tryz.prog.underlying (115 : TypeId)).bind fun d => match d with
      | .struct fields => (fields.toList.mapM (fun f => (Tryz.prog.info? f.type).map fun i => (f.offset, i.size))).map fun places => places.toArray[6]?
      | _ => none) = some (some (6, 64)) := by kernel_rfl
  cases hi : Tryz.prog.info? (115 : TypeId) with
  | none => rw [hi] at h; cases h
  | some it =>
    cases hz : it.zero with
    | none => rw [hi] at h; simp [hz] at h
    | some z =>
      cases hu : Tryz.prog.underlying (115 : TypeId) with
      | none => rw [hi, hu] at h; simp at h
      | some d =>
        rw [hi, hu] at h
        simp only [Option.bind_some, hz] at h
        cases d
        case struct fields =>
          simp only at h
          obtain ⟨places, hp, h6⟩ := Option.map_eq_some_iff.1 h
          refine ⟨(places.toArray[·]?), z.cells, fun parts => ?_, h6⟩
          unfold Program.built
          rw [hi, hu]
          simp only [hz, hp]
        all_goals cases h

theorem built81p (f at' : Int) (d : List Int) (hd : d.length = 64) : Tryz.prog.built (115 : TypeId) [(1, .int .u8 1), (2, .int .i64 f), (5, .int .i64 at'), (6, .agg (U d).toArray)] = some (putStp f at' d).cells.toArray := by
  obtain ⟨place, z, hb, h6⟩ := built81_fill
  have h1 : Tryz.prog.built (115 : TypeId) [(1, .int .u8 1), (2, .int .i64 f), (5, .int .i64 at')] = some ([Value.int .i64 0, .int .u8 1, .int .i64 f, .string ByteArray.empty, .string ByteArray.empty, .int .i64 at'] ++ U (List.replicate 64 0)).toArray := by kernel_rfl
  rw [hb] at h1 ⊢
  have e : ([(1, .int .u8 1), (2, .int .i64 f), (5, .int .i64 at'), (6, .agg (U d).toArray)] : List (Nat × Value)) = [(1, .int .u8 1), (2, .int .i64 f), (5, .int .i64 at')] ++ [(6, .agg (U d).toArray)] := rfl
  rw [e, fill_append, h1, Option.bind_some, fill_last place _ (U d).toArray 6 6 (by rw [h6]; simp [U_length, hd]) (by simp [U_length, hd])]
  rfl

theorem arr79 {a : Option Addr} {cap : Nat} (W : World) : (Instr.arrayAt (113 : TypeId) (.slice a 64 cap)).run Tryz.prog W = .ok (.pointer a) W := by
  simp [Instr.arrayAt, run_underlying Tryz.underlying113]

set_option maxHeartbeats 1000000 in
theorem putOf_any {w : World} {b off cap : Nat} {f at' : Int} {d : List Int} (hB : Bs w (some ⟨b, off, none⟩) 64 cap d) :
    Calls Tryz.prog 66 #[.int .i64 f, .int .i64 at', .slice (some ⟨b, off, none⟩) 64 cap] w fun e w' => e = .returned (.agg (putStp f at' d).cells.toArray) ∧ Tb (fun _ => False) w w' := by
  have hd := hB.len
  obtain ⟨i, z, hi, hz, h1, h2, h3⟩ := info81
  obtain ⟨i9, hi9, hz9⟩ := Option.map_eq_some_iff.1 info79
  simp only [Prod.mk.injEq] at hz9
  have ha := arr79 (a := some ⟨b, off, none⟩) (cap := cap)
  obtain ⟨b', off', e, hc⟩ := hB.lies (by omega)
  simp only [Option.some.injEq, Addr.mk.injEq, and_true] at e
  obtain ⟨rfl, rfl⟩ := e
  have hrg : ∀ x : Obj, (w.alloc x).rangeAt b off (U d) := fun x => World.rangeAt_alloc (fun j v hv => by
    have hj : j < d.length := by
      rcases Nat.lt_or_ge j d.length with h | h
      · exact h
      · simp [U, List.getElem?_eq_none h] at hv
    rw [hc j (by omega)]
    simp [U, List.getElem?_eq_getElem hj] at hv
    simp [← hv, List.getD, List.getElem?_eq_getElem hj]) x
  have hs79 : (Tryz.prog.info? (113 : TypeId)).map (·.size) = some (U d).length := by rw [hi9]; simp [hz9.2.1, U_length, hd]
  obtain ⟨cs, hcs⟩ : ∃ cs, Hid (cs = (putStp f at' d).cells.toArray) := ⟨_, hide rfl⟩
  have hsz : cs.size = 70 := by rw [hcs.out, List.size_toArray]; simp [Stp.cells, putStp, U, hd]
  have hone : cs.all (·.oneCell') = true := by rw [hcs.out]; exact all_oneCell_toArray (Stp.one _)
  have hbd := built81p f at' d hd
  rw [← hcs.out] at hbd
  rw [← hcs.out]
  have HR := hide hrg
  clear hB hc hrg
  go_enter Tryz.func66, Tryz.ntmps66
  go_wp2_with (first
    | (refine wpList_load_mid rfl (113 : TypeId) (.tmp 10) rfl b off rfl (U d) _ (HR.out _) Tryz.underlying113 rfl hs79 ?_)
    | (refine wpList_buildTo rfl (115 : TypeId) #[(1, .const (.int .u8 1)), (2, .tmp 7), (5, .tmp 8), (6, .tmp 11)] rfl (some 12) rfl cs (by simpa [Act.eval, Act.put] using hbd) ?_)
    | (refine wpList_store_rowTo rfl (115 : TypeId) (.tmp 6) (.tmp 12) rfl rfl w.heap.size cs (by simp [Act.eval, Act.put]) (by simp [Act.eval, Act.put]) (115 : TypeId) Tryz.zeroCells115 (heap_alloc_new w _) (by rw [hi]; simp [h1, hsz]) (by rw [hsz]; kernel_rfl) hone ?_))
  refine bodyPost_ret (results_cell_row rfl _ _ w.heap.size (115 : TypeId) cs (0, 0) _ rfl (setRow_heap _ _ _ _ (115 : TypeId) (0, 0) (heap_alloc_new w _)) Tryz.underlying115 rfl (by rw [hi]; simp [h1, hsz])) rfl ?_
  refine ⟨rfl, ?_⟩
  have t1 : Tb (fun _ => False) w (w.alloc (.cells Tryz.zeroCells115 (115 : TypeId))) := (Tb.refl _ _).alloc _
  refine t1.trans (T := fun k => k = w.heap.size) ⟨rfl, rfl, rfl, by simp, fun k _ hne => setRow_other _ _ _ _ hne⟩ (fun k hk e => ?_)
  omega

end Go.Proofs.YtgbboaedhpaocaaGreat

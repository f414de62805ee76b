/-
  Slices of things among the arguments, opened, with the weights of what they hold.
-/
import Derived.Test.YthakbelcefogaaaOpr
import Derived.Test.YthakbelcefogaaaOpk
import Derived.Test.YthakbelcefogaaaDst
namespace Go.Proofs.Ythakbelcefogaaa
open Go.ChangeShapes Go.WideShapes Go.ChangeAt Go.RowKit
set_option maxRecDepth 100000

theorem open_rowsW {α : Type} (f : α → List Value) (s : Nat) (Q : α → Prop) (Wt : Nat → α → Prop) {H : Type} {enc : TypeId × Value → H} {W : World} {a : Option Addr} {len cap : Nat} {d : DataW H} {p : List MemPlace} {t e : TypeId}
    (hu : Try.prog.underlying t = some (.slice e)) (hs : Try.prog.cellsOf e = s) (hp : 0 < s) (hf : ∀ v, (f v).length = s)
    (ho : ∀ fuel cs x, DataW.trod enc Try.prog W 0 (fun _ => true) true fuel e cs = some x → ∃ v : α, cs = f v ∧ Q v ∧ ∀ N, (x.1.weights Try.prog e).all (· ≤ N) = true → Wt N v)
    (h : DataW.Trod enc Try.prog W 0 (fun _ => true) true t (.slice a len cap) d p) : ∃ xs : List α, Lr f s Q W a len cap xs ∧ ∀ N, (d.weights Try.prog t).all (· ≤ N) = true → ∀ x ∈ xs, Wt N x := by
  obtain ⟨fuel, hf'⟩ := h
  rcases DataW.trod_slice hu hf' with ⟨hcs, hx⟩ | ⟨x, l, c, elems, rest, n, _, hcs, hx, _, hle, hmax, hel, hat, _, _⟩
  · simp [Value.cells] at hcs
    obtain ⟨rfl, rfl, rfl⟩ := hcs
    exact ⟨[], ⟨rfl, Nat.le_refl _, by omega, by simp, fun h => by omega⟩, by simp⟩
  · simp [Value.cells] at hcs
    obtain ⟨rfl, rfl, rfl⟩ := hcs
    simp only [Prod.mk.injEq] at hx
    unfold maxLen at hmax
    rw [hs] at hat
    by_cases hn0 : len = 0
    · exact ⟨[], ⟨by simp [hn0], hle, by omega, by simp, fun h => by omega⟩, by simp⟩
    have key : ∀ k, k ≤ len → ∃ l : List α, l.length = k ∧ (∀ x ∈ l, Q x) ∧ (∀ N, (d.weights Try.prog t).all (· ≤ N) = true → ∀ x ∈ l, Wt N x) ∧ ∀ i y, l[i]? = some y → ∀ j v, (f y)[j]? = some v → W.cell? ((x.add (i * s)).add j) = some v := by
      intro k
      induction k with
      | zero => exact fun _ => ⟨[], rfl, by simp, by simp, fun i y hi => by simp at hi⟩
      | succ k ih =>
        intro hk
        obtain ⟨l, h1, h2, hw, h3⟩ := ih (by omega)
        have hek : k < elems.length := by omega
        have := hat k (by omega)
        rw [List.getElem?_eq_getElem hek, Option.bind_eq_some_iff] at this
        obtain ⟨cs', hc, hd⟩ := this
        obtain ⟨y, hy, hQ, hW⟩ := ho _ _ _ hd
        subst hy
        have hcell := (World.cells?_some hc).2.2
        refine ⟨l ++ [y], by simp [h1], fun z hz => ?_, fun N hN z hz => ?_, fun i z hi => ?_⟩
        · rcases List.mem_append.1 hz with hz | hz
          · exact h2 z hz
          · simp only [List.mem_singleton] at hz
            subst hz
            exact hQ
        · rcases List.mem_append.1 hz with hz | hz
          · exact hw N hN z hz
          · simp only [List.mem_singleton] at hz
            subst hz
            refine hW N (List.all_eq_true.2 fun q hq => List.all_eq_true.1 hN q ?_)
            rw [hx.1]
            simp only [DataW.weights, hu, List.mem_cons, List.mem_append]
            exact .inr (.inl (weightsAll_mem Try.prog e elems[k].1 q hq _ (List.mem_map.2 ⟨elems[k], List.getElem_mem hek, rfl⟩)))
        · rcases Nat.lt_or_ge i l.length with hlt | hge
          · rw [List.getElem?_append_left hlt] at hi
            exact h3 i z hi
          · rw [List.getElem?_append_right hge] at hi
            have hi0 : i - l.length = 0 := by
              rcases Nat.lt_or_ge (i - l.length) 1 with h | h
              · omega
              · rw [List.getElem?_eq_none (by simpa using h)] at hi
                cases hi
            rw [hi0] at hi
            simp only [List.getElem?_cons_zero, Option.some.injEq] at hi
            subst hi
            obtain rfl : i = l.length := by omega
            intro j v hj
            have hjl : j < (f y).length := by
              rcases Nat.lt_or_ge j (f y).length with h | h
              · exact h
              · rw [List.getElem?_eq_none h] at hj
                cases hj
            have := hcell j (by rw [hf] at hjl; first | exact hjl | simpa using hjl)
            rw [hj] at this
            rw [h1]
            exact this
    obtain ⟨l, h1, h2, hw, h3⟩ := key len (Nat.le_refl _)
    have hl0 : l[0]? = some l[0] := List.getElem?_eq_getElem (by omega)
    have hfp : 0 < (f l[0]).length := by rw [hf]; exact hp
    have hf0 : (f l[0])[0]? = some (f l[0])[0] := List.getElem?_eq_getElem hfp
    obtain ⟨b, off, spot⟩ := x
    have hspot : spot = none := by simpa [Addr.add] using World.cell?_spot (h3 0 _ hl0 0 _ hf0)
    subst hspot
    refine ⟨l, ⟨h1, hle, by omega, h2, fun _ => ⟨b, off, rfl, fun i y hi j v hj => ?_⟩⟩, hw⟩
    have := h3 i y hi j v hj
    rwa [Addr.add_lit, Addr.add_lit] at this

/-- A call on one of two nets, as it is handed in. -/
structure Oc where
  kd : Int
  on : Int
  fr : Int
  to : Int
  a : Option Addr
  ln : Nat
  cap : Nat
  bd : List Int
  no : Int

def Oc.cells (o : Oc) : List Value := [.int .i64 o.kd, .int .i64 o.on, .int .i64 o.fr, .int .i64 o.to, .slice o.a o.ln o.cap, .int .i64 o.no]

theorem open_oc {H : Type} {enc : TypeId × Value → H} {W : World} (fuel : Nat) (cs : List Value) (x : DataW H × List MemPlace) (h : DataW.trod enc Try.prog W 0 (fun _ => true) true fuel (45 : TypeId) cs = some x) :
    ∃ o : Oc, cs = o.cells ∧ (I6 o.kd ∧ I6 o.on ∧ I6 o.fr ∧ I6 o.to ∧ I6 o.no ∧ Bs W o.a o.ln o.cap o.bd) ∧ ∀ N, (x.1.weights Try.prog (45 : TypeId)).all (· ≤ N) = true → o.ln ≤ N := by
  have hs3 : Try.prog.cellsOf 3 = 1 := by kernel_rfl
  have hsb : Try.prog.cellsOf (27 : TypeId) = 1 := by kernel_rfl
  have hs : Try.prog.cellsOf (45 : TypeId) = 6 := by kernel_rfl
  obtain ⟨xs, n, _, rfl, hl, hlen, hf⟩ := DataW.trod_struct Try.underlying45 h
  rw [hs] at hl
  match cs, hl with
  | [c0, c1, c2, c3, c4, c5], _ =>
    match xs, hlen, hf with
    | [y0, y1, y2, y3, y4, y5], _, hf =>
      have f0 : DataW.trod enc Try.prog W 0 (fun _ => true) true n 3 [c0] = some y0 := by simpa [hs3] using hf 0 _ rfl
      have f1 : DataW.trod enc Try.prog W 0 (fun _ => true) true n 3 [c1] = some y1 := by simpa [hs3] using hf 1 _ rfl
      have f2 : DataW.trod enc Try.prog W 0 (fun _ => true) true n 3 [c2] = some y2 := by simpa [hs3] using hf 2 _ rfl
      have f3 : DataW.trod enc Try.prog W 0 (fun _ => true) true n 3 [c3] = some y3 := by simpa [hs3] using hf 3 _ rfl
      have f4 : DataW.trod enc Try.prog W 0 (fun _ => true) true n (27 : TypeId) [c4] = some y4 := by simpa [hsb] using hf 4 _ rfl
      have f5 : DataW.trod enc Try.prog W 0 (fun _ => true) true n 3 [c5] = some y5 := by simpa [hs3] using hf 5 _ rfl
      obtain ⟨z0, e0, _, w0⟩ := DataW.trod_int Try.underlying3 f0
      obtain ⟨z1, e1, _, w1⟩ := DataW.trod_int Try.underlying3 f1
      obtain ⟨z2, e2, _, w2⟩ := DataW.trod_int Try.underlying3 f2
      obtain ⟨z3, e3, _, w3⟩ := DataW.trod_int Try.underlying3 f3
      obtain ⟨z5, e5, _, w5⟩ := DataW.trod_int Try.underlying3 f5
      have f4' : DataW.trod enc Try.prog W 0 (fun _ => true) true n (27 : TypeId) [c4] = some y4 := f4
      have hc4 : ∃ a len cap, c4 = .slice a len cap := by
        rcases DataW.trod_slice Try.underlying27 f4' with ⟨hcs, _⟩ | ⟨ad, len, cap, _, _, _, _, hcs, _⟩
        · exact ⟨none, 0, 0, by simpa using hcs⟩
        · exact ⟨some ad, len, cap, by simpa using hcs⟩
      obtain ⟨a, len, cap, rfl⟩ := hc4
      obtain ⟨zs, hB, hd⟩ := open_bs (d := y4.1) (p := y4.2) ⟨n, f4'⟩
      simp only [List.cons.injEq, and_true] at e0 e1 e2 e3 e5
      subst e0 e1 e2 e3 e5
      refine ⟨⟨z0, z1, z2, z3, a, len, cap, zs, z5⟩, rfl, ⟨bounds_i64 w0, bounds_i64 w1, bounds_i64 w2, bounds_i64 w3, bounds_i64 w5, hB⟩, fun N hN => ?_⟩
      have hle := hB.le
      rcases hd with ⟨_, hc⟩ | ⟨all, hc, hd⟩
      · simp only
        omega
      · have hmem : cap ∈ (DataW.agg [y0.1, y1.1, y2.1, y3.1, y4.1, y5.1]).weights Try.prog (45 : TypeId) := by
          simp only [DataW.weights, Try.underlying45, List.map_cons, List.map_nil, DataW.weightsEach, List.mem_append]
          refine .inr (.inr (.inr (.inr (.inl ?_))))
          rw [hd]
          simp only [DataW.weights, Try.underlying27, bytes5', lits, List.length_map, List.length_take, List.length_drop, hc, List.mem_cons]
          exact .inl (by omega)
        have := List.all_eq_true.1 hN cap (by simpa using hmem)
        simp only [decide_eq_true_eq] at this
        simp only
        omega

theorem open_ocs {H : Type} {enc : TypeId × Value → H} {W : World} {a : Option Addr} {len cap : Nat} {d : DataW H} {p : List MemPlace}
    (h : DataW.Trod enc Try.prog W 0 (fun _ => true) true (37 : TypeId) (.slice a len cap) d p) :
    ∃ xs, Lr Oc.cells 6 (fun o => I6 o.kd ∧ I6 o.on ∧ I6 o.fr ∧ I6 o.to ∧ I6 o.no ∧ Bs W o.a o.ln o.cap o.bd) W a len cap xs ∧ ∀ N, (d.weights Try.prog (37 : TypeId)).all (· ≤ N) = true → ∀ x ∈ xs, x.ln ≤ N :=
  open_rowsW Oc.cells 6 _ (fun N o => o.ln ≤ N) Try.underlying37 (by kernel_rfl) (by omega) (fun _ => rfl) open_oc h

end Go.Proofs.Ythakbelcefogaaa

/-
  Feed, the program's and the document's, told by one function; the document's reader in memory.
-/
import Derived.Test.YtalknfbhnhpdhaaFrf
namespace Go.Proofs.Ytalknfbhnhpdhaa
open Go.RowKit

theorem feed_all {base R : Nat} {lv : Value} {l : List Int} {ended : Bool} {w : World} (h : Rd w base R lv l ended) (hbase : base ≤ w.heap.size) {a : Option Addr} {n cap : Nat} {zs : List Int} (hB : Bs w a n cap zs) (hn : l.length + n ≤ 10000000000000)
    {bs : List (List Int)} {r : List Int} {en : Bool} {er : Int} (hs : step l ended zs = (bs, r, en, er)) :
    Calls Try.prog 9 #[.pointer (some ⟨R, 0, none⟩), .slice a n cap] w fun e w' => ∃ c d lv' rs, e = .returned (.tuple #[.slice c bs.length d, .int .i64 er]) ∧ rs.map (·.2) = bs ∧ Rd w' base R lv' r en ∧ LL w' w.heap.size (.slice c bs.length d) rs ∧
        (∀ b, lv'.ownBlock = some b → lv.ownBlock = some b ∨ w.heap.size ≤ b) ∧ (∀ q ∈ rs, ∀ b, q.1.ownBlock = some b → lv'.ownBlock ≠ some b) ∧ Bar (Fd R lv) w w' ∧ Below base w w' := by
  cases ended with
  | true =>
    simp only [step, if_true, Prod.mk.injEq] at hs
    obtain ⟨rfl, rfl, rfl, rfl⟩ := hs
    refine (feed_ended h _).mono ?_
    rintro e w' ⟨rfl, rfl⟩
    exact ⟨none, 0, lv, [], rfl, rfl, h, LL.nil _ _, fun b hb => .inl hb, by simp, Bar.refl _ _, Below.refl _ _⟩
  | false =>
    simp only [step, Bool.false_eq_true, if_false] at hs
    cases hp : parse (l ++ zs) with
    | none =>
      rw [hp] at hs
      simp only [Prod.mk.injEq] at hs
      obtain ⟨rfl, rfl, rfl, rfl⟩ := hs
      refine (feed_not h hbase hB hn hp).mono ?_
      rintro e w' ⟨rfl, h1, h2, h3⟩
      exact ⟨none, 0, _, [], rfl, rfl, h1, LL.nil _ _, (fun b hb => by cases hb), by simp, h2, h3⟩
    | some q =>
      obtain ⟨b2, r2⟩ := q
      rw [hp] at hs
      simp only [Prod.mk.injEq] at hs
      obtain ⟨rfl, rfl, rfl, rfl⟩ := hs
      refine (feed_is h hbase hB hn hp).mono ?_
      rintro e w' ⟨c, d, lv', rs, rfl, h1, h2, h3, h4, h5, h6, h7⟩
      exact ⟨c, d, lv', rs, rfl, h1, h2, h3, h4, h5, h6, h7⟩

theorem step_len {l : List Int} {ended : Bool} {zs : List Int} {bs : List (List Int)} {r : List Int} {en : Bool} {er : Int} (hs : step l ended zs = (bs, r, en, er)) : r.length ≤ l.length + zs.length := by
  cases ended with
  | true =>
    simp only [step, if_true, Prod.mk.injEq] at hs
    obtain ⟨_, rfl, _⟩ := hs
    omega
  | false =>
    simp only [step, Bool.false_eq_true, if_false] at hs
    cases hp : parse (l ++ zs) with
    | none =>
      rw [hp] at hs
      simp only [Prod.mk.injEq] at hs
      obtain ⟨_, rfl, _⟩ := hs
      simp
    | some q =>
      obtain ⟨b2, r2⟩ := q
      rw [hp] at hs
      simp only [Prod.mk.injEq] at hs
      obtain ⟨_, rfl, _⟩ := hs
      have := (parse_rest (Nat.le_refl _) hp).1
      simpa using this

set_option maxHeartbeats 400000 in
theorem rfeed_over (la : Option Addr) (ln lc : Nat) (x : Value) (w : World) :
    Calls Try.prog 14 #[.agg #[.slice la ln lc, .bool true], x] w fun e w' => Below w.heap.size w w' ∧ e = .returned (.tuple #[.agg #[.slice la ln lc, .bool true], .slice none 0 0, .int .i64 30]) := by
  go_enter Try.func14, Try.ntmps14
  go_wp2_with fail
  refine bodyPost_ret (v := .tuple #[.agg #[.slice la ln lc, .bool true], .slice none 0 0, .int .i64 30]) (by simp [results, Try.results14, go_sem]) rfl ?_
  exact ⟨(fresh w _).alloc (by simp) _, rfl⟩

theorem rfeed_all {base : Nat} {lv : Value} {l : List Int} {ended : Bool} {w : World} (hl : w.ownsRow base 5 1 lv l.length (U l)) (hlb : ∀ z ∈ l, 0 ≤ z ∧ z ≤ 255) (hbase : base ≤ w.heap.size) {a : Option Addr} {n cap : Nat} {zs : List Int} (hB : Bs w a n cap zs) (hn : l.length + n ≤ 10000000000000)
    {bs : List (List Int)} {r : List Int} {en : Bool} {er : Int} (hs : step l ended zs = (bs, r, en, er)) :
    Calls Try.prog 14 #[.agg #[lv, .bool ended], .slice a n cap] w fun e w' => ∃ c d c' d' rs, e = .returned (.tuple #[.agg #[.slice c' r.length d', .bool en], .slice c bs.length d, .int .i64 er]) ∧ rs.map (·.2) = bs ∧ LL w' w.heap.size (.slice c bs.length d) rs ∧
        w'.ownsRow base 5 1 (.slice c' r.length d') r.length (U r) ∧ (∀ b, (Value.slice c' r.length d').ownBlock = some b → lv.ownBlock = some b ∨ w.heap.size ≤ b) ∧ Below w.heap.size w w' := by
  cases ended with
  | true =>
    simp only [step, if_true, Prod.mk.injEq] at hs
    obtain ⟨rfl, rfl, rfl, rfl⟩ := hs
    obtain ⟨la, lc, rfl⟩ := own_val hl
    refine (rfeed_over la _ lc _ w).mono ?_
    rintro e w' ⟨hb, rfl⟩
    exact ⟨none, 0, la, lc, [], rfl, rfl, LL.nil _ _, keep_own hl hb, fun b hb => .inl hb, hb⟩
  | false =>
    simp only [step, Bool.false_eq_true, if_false] at hs
    refine (rfeed_open lv l a n cap zs base w hl hlb hB hn).mono ?_
    rintro e w' ⟨hb, hc⟩
    rcases hc with ⟨hp, rfl⟩ | ⟨lv', v, p, rs, hp, hpn, rfl, hL, ho⟩
    · rw [hp] at hs
      simp only [Prod.mk.injEq] at hs
      obtain ⟨rfl, rfl, rfl, rfl⟩ := hs
      exact ⟨none, 0, none, 0, [], rfl, rfl, LL.nil _ _, World.ownsRow_nil _ _ _ _, (fun b hb => by cases hb), hb⟩
    · rw [hp] at hs
      simp only [Prod.mk.injEq] at hs
      obtain ⟨rfl, rfl, rfl, rfl⟩ := hs
      obtain ⟨c, d, rfl⟩ := own_val hL.own
      have hrl : ((l ++ zs).drop p).length = l.length + n - p := by rw [List.length_drop, List.length_append, hB.len]
      rw [← hrl] at ho
      obtain ⟨c', d', rfl⟩ := own_val ho
      refine ⟨c, d, c', d', rs, ?_, rfl, ?_, own_less ho hbase, fun b hb => .inr (own_from ho hb), hb⟩
      · rw [List.length_map]
      · rw [List.length_map]
        exact hL

/-- The document's reader as a variable of the law. -/
structure Rv (w : World) (base V : Nat) (lv : Value) (l : List Int) (ended : Bool) : Prop where
  obj : w.heap[V]? = some (.cells #[lv, .bool ended] 37 (0, 0))
  own : w.ownsRow base 5 1 lv l.length (U l)

theorem Rv.lt {w : World} {base V : Nat} {lv : Value} {l : List Int} {ended : Bool} (h : Rv w base V lv l ended) : V < w.heap.size := (Array.getElem?_eq_some_iff.1 h.obj).1

theorem Rv.bar {S : Nat → Prop} {w w' : World} {base V : Nat} {lv : Value} {l : List Int} {ended : Bool} (h : Rv w base V lv l ended) (hb : Bar S w w') (h1 : ¬ S V) (h2 : ∀ b, lv.ownBlock = some b → ¬ S b) : Rv w' base V lv l ended :=
  ⟨by rw [hb.block V h.lt h1]; exact h.obj, own_bar h.own hb h2⟩

theorem Rv.keep {w w' : World} {base V : Nat} {lv : Value} {l : List Int} {ended : Bool} (h : Rv w base V lv l ended) (hb : Below w.heap.size w w') : Rv w' base V lv l ended :=
  h.bar (S := fun _ => False) (Bar.of_fresh hb) (fun h => h) (fun _ _ h => h)

/-- A row that is owned is no block of another type. -/
theorem own_not {w : World} {base n B : Nat} {t u : TypeId} {v : Value} {xs : List Value} {cs : Array Value} (h : w.ownsRow base t 1 v n xs) (hB : w.heap[B]? = some (.cells cs u (0, 0))) (htu : t ≠ u) {b : Nat} (hb : v.ownBlock = some b) : b ≠ B := by
  intro e
  rcases h.2 with ⟨h2, _⟩ | ⟨g, cap, cur, h2, _, hg, _⟩
  · rw [h2] at hb
    cases hb
  · rw [h2] at hb
    simp only [Value.ownBlock, Option.some.injEq] at hb
    rw [hb, e, hB] at hg
    simp only [Option.some.injEq, Obj.cells.injEq] at hg
    exact htu hg.2.1.symm

end Go.Proofs.Ytalknfbhnhpdhaa

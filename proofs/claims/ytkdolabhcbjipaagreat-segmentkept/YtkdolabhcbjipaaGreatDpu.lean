/-
  A sector is put into a shape; steps are carried out.
-/
import Derived.Test.YtkdolabhcbjipaaGreatDsh
namespace Go.Proofs.YtkdolabhcbjipaaGreat
open Go.RowKit
set_option maxRecDepth 100000

/-- Rows of elements appended to a row that is owned, told where it went: at the operation. -/
theorem wpList_append_rows {P : Program} {w : World} {ops : Array Oper} {rest : List Oper} {o : Oper} {a : Act} {Q : Exit → Act → World → Prop} (hgd : o.guard = none) (s x : Operand) (t : TypeId) (ho : o.op = .call { callee := .builtin .append, args := #[s, x], argTypes := #[t, t] })
    (base : Nat) (e : TypeId) (i : TypeInfo) (z : Value) (size bytes : Nat) (ht : P.underlying t = some (.slice e)) (hi : P.info? e = some i) (hz : i.zero = some z)
    (hsize : i.size = size) (hby : i.bytes = bytes) (hzs : z.cells.size = size) (hsz : 0 < size) (v : Value) (n : Nat) (xs : List Value) (hs : a.eval s = v) (hown : w.ownsRow base e size v n xs)
    (xv : Value) (m : Nat) (ys : List Value) (base' : Nat) (hx : a.eval x = xv) (hxo : w.ownsRow base' e size xv m ys) (h1 : ∀ u ∈ ys, u.oneCell' = true) (h63 : n + m ≤ maxLen) (hbytes : (n + m) * bytes ≤ 140737488355328) (hbase : base ≤ w.heap.size)
    (h : ∀ v' w', w'.ownsRow base e size v' (n + m) (xs ++ ys) → w.grownBy w' v.ownBlock → (v'.ownBlock = v.ownBlock ∨ v'.ownBlock = some w.heap.size) → wpList P ops Q rest (a.put o.dst v') w') :
    wpList P ops Q (o :: rest) a w := by
  obtain ⟨v', w', hr, h2, h3, h4⟩ := run_append_rows (P := P) (w := w) base t o.type e i z size bytes ht hi hz hsize hby hzs hsz v n xs hown xv m ys base' hxo h1 h63 hbytes hbase
  refine wpList_append_run hgd t s x ho v xv v' hs hx hr (h v' w' h2 h3 h4)

/-- The new values of cells from a place on. -/
def over (c : Array Value) (o : Nat) : List Value → Array Value
  | [] => c
  | v :: r => over (c.setIfInBounds o v) (o + 1) r

theorem over_size (vs : List Value) : ∀ (c : Array Value) (o : Nat), (over c o vs).size = c.size := by
  induction vs with
  | nil => exact fun _ _ => rfl
  | cons v r ih => exact fun c o => by rw [over, ih]; simp

theorem over_list (vs : List Value) : ∀ (c : Array Value) (o : Nat), o + vs.length ≤ c.size → (over c o vs).toList = c.toList.take o ++ vs ++ c.toList.drop (o + vs.length) := by
  induction vs with
  | nil => intro c o h; simp [over]
  | cons v r ih =>
    intro c o h
    simp only [List.length_cons] at h
    rw [over, ih _ _ (by simp; omega)]
    simp only [Array.toList_setIfInBounds, List.length_cons]
    have h2 : o < c.toList.length := by simp; omega
    rw [List.take_succ_eq_append_getElem (by simp; omega)]
    simp only [List.getElem_set_self, List.append_assoc, List.cons_append, List.nil_append]
    rw [List.take_set_of_le (by omega), List.drop_set_of_lt (by omega)]
    congr 3
    congr 1
    omega

theorem heap_over {G : Nat} {T : TypeId} (vs : List Value) : ∀ (o : Nat) (w : World) (c : Array Value), w.heap[G]? = some (.cells c T (0, 0)) → (w.setCells G o vs).heap[G]? = some (.cells (over c o vs) T (0, 0)) := by
  induction vs with
  | nil => exact fun o w c h => h
  | cons v r ih => exact fun o w c h => ih (o + 1) _ _ (heap_setCell_same w G o c T v h)

theorem tb_over {S : Nat → Prop} {G : Nat} (hG : S G) (vs : List Value) : ∀ (o : Nat) (w : World), Tb S w (w.setCells G o vs) := by
  induction vs with
  | nil => exact fun o w => Tb.refl _ _
  | cons v r ih => exact fun o w => (Tb.set G o v hG).trans (ih (o + 1) _) (fun _ _ h => h)

theorem there_over {w : World} {G : Nat} {T : TypeId} {c : Array Value} (h : w.heap[G]? = some (.cells c T (0, 0))) (o n : Nat) (hn : o + n ≤ c.size) : w.there G o n := fun j hj => by
  refine ⟨?_, frozen_of_row w G (o + j) c T h⟩
  rw [cell_of_row w G (o + j) c T (0, 0) h, Array.getElem?_eq_getElem (by omega)]
  rfl

/-- An element of a row is put anew. -/
theorem own_put {α : Type} {c : α → List Value} {w : World} {base n size cap g k : Nat} {e : TypeId} {xs : List α} {x : α} (h : w.ownsRow base e size (.slice (some ⟨g, 0, none⟩) n cap) n (xs.flatMap c)) (hn : xs.length = n) (hc : ∀ y ∈ xs, (c y).length = size) (hx : (c x).length = size) (hk : k < n) :
    w.there g (k * size) (c x).length ∧ (w.setCells g (k * size) (c x)).ownsRow base e size (.slice (some ⟨g, 0, none⟩) n cap) n ((xs.set k x).flatMap c) := by
  subst hn
  rcases h.2 with ⟨h1, _⟩ | ⟨g', c', cur, h1, hb, hg, hn, hm, hs, ht⟩
  · cases h1
  · simp only [Value.slice.injEq, Option.some.injEq, Addr.mk.injEq] at h1
    obtain ⟨⟨rfl, _, _⟩, _, rfl⟩ := h1
    have hkn : k * size + size ≤ xs.length * size := by
      have := Nat.mul_le_mul_right size (show k + 1 ≤ xs.length by omega)
      rw [Nat.succ_mul] at this
      exact this
    have hnc : xs.length * size ≤ cur.size := by rw [hs]; exact Nat.mul_le_mul_right _ hn
    have hset : (xs.set k x).flatMap c = (xs.flatMap c).take (k * size) ++ c x ++ (xs.flatMap c).drop (k * size + size) := by
      have e1 : xs.set k x = xs.take k ++ x :: xs.drop (k + 1) := List.set_eq_take_append_cons_drop .. |>.trans (by rw [if_pos hk])
      have e2 : (xs.drop (k + 1)).flatMap c = (xs.flatMap c).drop ((k + 1) * size) := by
        have h3 : xs.flatMap c = (xs.take (k + 1)).flatMap c ++ (xs.drop (k + 1)).flatMap c := by rw [← List.flatMap_append, List.take_append_drop]
        have h4 : ((xs.take (k + 1)).flatMap c).length = (k + 1) * size := by
          rw [flatMap_take c size (k + 1) xs hc, List.length_take, h.1]
          rw [Nat.succ_mul]
          omega
        rw [h3, ← h4, List.drop_left]
      rw [e1, List.flatMap_append, List.flatMap_cons, flatMap_take c size k xs hc, e2, Nat.succ_mul, List.append_assoc]
    have hl : (over cur (k * size) (c x)).toList.take (xs.length * size) = (xs.set k x).flatMap c := by
      rw [over_list _ _ _ (by rw [hx]; omega), hset, ← ht, hx]
      have a1 : (cur.toList.take (xs.length * size)).take (k * size) = cur.toList.take (k * size) := by rw [List.take_take, Nat.min_eq_left (by omega)]
      rw [a1, List.take_append, List.take_of_length_le (l := cur.toList.take (k * size) ++ c x) (by simp [hx]; omega)]
      congr 1
      rw [List.drop_take]
      congr 1
      simp [hx]
      omega
    refine ⟨there_over hg _ _ (by rw [hx]; omega), ?_, .inr ⟨_, _, _, rfl, hb, heap_over _ _ _ _ hg, hn, hm, by rw [over_size, hs], hl⟩⟩
    have e3 : (over cur (k * size) (c x)).toList.length = cur.size := (Array.length_toList (xs := over cur (k * size) (c x))).trans (over_size _ _ _)
    rw [← hl, List.length_take, e3]
    omega

/-- A sector of noughts. -/
def zero64 : Array Value := (U (List.replicate 64 0)).toArray
theorem info79 : (Tryz.prog.info? (85 : TypeId)).map (fun i => (i.zero, i.size, i.bytes)) = some (some (.agg zero64), 64, 64) := by kernel_rfl
theorem built79 : Tryz.prog.built (85 : TypeId) [] = some zero64 := by kernel_rfl
theorem fill79 : Instr.fill (fun i => some (i * 64, 64)) ((Array.range (1 * 64)).map (zero64[· % zero64.size]!)) [(0, .agg zero64)] = some zero64 := by kernel_rfl

/-- A row with a sector put. -/
def putIn (r : List (List Int)) (k : Nat) (d : List Int) : List (List Int) := (r ++ List.replicate (k + 1 - r.length) (List.replicate 64 0)).set k d

def Shp.put (s : Shp) (f at' : Int) (d : List Int) : Shp := match lk s.rw f with
  | none => s
  | some r => ⟨s.nm, st s.rw f (putIn r at'.toNat d)⟩


theorem replicate_more (r : List (List Int)) (j : Nat) : r ++ List.replicate (j + 1) (List.replicate 64 (0 : Int)) = (r ++ List.replicate j (List.replicate 64 0)) ++ [List.replicate 64 0] := by
  rw [List.replicate_succ', List.append_assoc]

/-- A row under way: so many noughts more. -/
structure Uw (w W : World) (L : Lb) (x : Int × Int) (r : List (List Int)) (N j : Nat) (v : Value) (wr : World) : Prop where
  own : wr.ownsRow 0 (85 : TypeId) 64 v (N + j) ((r ++ List.replicate j (List.replicate 64 0)).flatMap U)
  tb : Tb (fun g => g < w.heap.size ∧ L g = x) W wr
  lb : ∀ g, v.ownBlock = some g → (g < w.heap.size ∧ L g = x) ∨ W.heap.size ≤ g

theorem own_one (w : World) (cs : List Value) (size : Nat) (e : TypeId) (h : cs.length = size) : (w.alloc (.cells cs.toArray e)).ownsRow 0 e size (.slice (some ⟨w.heap.size, 0, none⟩) 1 1) 1 cs :=
  ⟨by omega, .inr ⟨_, 1, _, rfl, Nat.zero_le _, heap_alloc_new w _, Nat.le_refl _, by unfold maxLen; omega, by simp [h], by simp [← h]⟩⟩

def lenV : Value → Nat
  | .slice _ n _ => n
  | _ => 0

set_option maxHeartbeats 2000000 in
theorem put_any {w : World} {L : Lb} {a : Int} {nb rb : Nat} {s : Shp} {K : Nat} {f at' : Int} {d : List Int} (h : Sh w L a nb rb s) (hm : Sm s K) (hK : K < 9223372036854775807) (hf : I6 f) (ha : 0 ≤ at' ∧ at' ≤ 4095) (hd : d.length = 64) :
    Calls Tryz.prog 66 #[.agg #[.map (some nb), .map (some rb)], .int .i64 f, .int .i64 at', .agg (U d).toArray] w fun e w' => e = .returned (.tuple #[]) ∧ ∃ L', Lx w L L' ∧ Sh w' L' a nb rb (s.put f at' d) ∧ Tl L (TA a) w w' := by
  obtain ⟨W, HW⟩ : ∃ W, W = (w.alloc (.cells #[.map (some nb), .map (some rb)] (54 : TypeId))).alloc (.cells (U d).toArray (85 : TypeId)) := ⟨_, rfl⟩
  have b0 : Tb (fun _ => False) w W := by rw [HW]; exact ((Tb.refl _ _).alloc _).alloc _
  have hS : Sh W L a nb rb s := h.none b0
  obtain ⟨v, hfind, hown, hlab⟩ := h.rw.find Tryz.underlying52 zero74 hf
  have hrun := (hfind W (b0.block rb h.rw.lt (fun h => h))).2
  obtain ⟨ha1, ha2⟩ := ha
  cases hl : lk s.rw f with
  | none =>
    rw [hl] at hrun
    have e : s.put f at' d = s := by unfold Shp.put; rw [hl]
    have hfin : Hid (Lx w L L ∧ Sh W L a nb rb (s.put f at' d) ∧ Tl L (TA a) w W) := hide ⟨Lx.refl _ _, by rw [e]; exact hS, b0.mono (fun _ _ h => h.elim)⟩
    clear h hS hm hfind hown hlab b0 hl e
    subst HW
    go_enter Tryz.func66, Tryz.ntmps66
    go_wp2_with fail
    (try simp only [Exit.inBlock, Exit.then])
    refine bodyPost_ret (results_none rfl _ _ _) rfl ?_
    exact ⟨rfl, L, hfin⟩
  | some r =>
    rw [hl] at hrun hown
    simp only [Option.getD_some] at hown
    have hrl : r.length ≤ 4096 ∧ ∀ x ∈ r, x.length = 64 := by
      have := hm.at f
      rw [hl] at this
      exact ⟨this.1, fun x hx => (this.2 x hx).1⟩
    obtain ⟨N, hN⟩ : ∃ N, Hid (N = r.length) := ⟨_, hide rfl⟩
    rw [← hN.out] at hown
    have hu0 : Hid (Uw w W L (a + 10, f) r N 0 v W) := hide ⟨by simpa using row_tb hown b0 (fun _ _ h => h), Tb.refl _ _, fun g hg => .inl ⟨row_lt hown hg, hlab g hg⟩⟩
    have hN2 : N ≤ 4096 := by rw [hN.out]; exact hrl.1
    obtain ⟨ad, cap, rfl⟩ := row_val hown
    obtain ⟨A, hA⟩ : ∃ A : Nat, at' = (A : Int) := ⟨at'.toNat, by omega⟩
    subst hA
    obtain ⟨i9, hi9, hz9⟩ := Option.map_eq_some_iff.1 info79
    simp only [Prod.mk.injEq] at hz9
    obtain ⟨hz1, hz2, hz3⟩ := hz9
    have HS := hide hS
    have HF := hide h
    have HM := hide hm
    have HB := hide b0
    have hW1 : Hid (W.heap[w.heap.size + 1]? = some (.cells (U d).toArray (85 : TypeId) (0, 0))) := hide (by rw [HW]; simpa using heap_alloc_new (w.alloc (.cells #[.map (some nb), .map (some rb)] (54 : TypeId))) (.cells (U d).toArray (85 : TypeId)))
    have hW0 : Hid (W.heap[w.heap.size]? = some (.cells #[.map (some nb), .map (some rb)] (54 : TypeId) (0, 0))) := hide (by rw [HW]; exact (((Tb.refl (fun _ => False) _).alloc _).block w.heap.size (by simp) (fun h => h)).trans (heap_alloc_new w _))
    rw [HW] at hrun
    have HW' := hide HW
    have HR := hide hrl
    clear h hS hm hfind hown hlab b0 HW hrl
    go_enter Tryz.func66, Tryz.ntmps66
    go_wp2_with fail
    go_loopw [8] (fun rv wr => ∃ (j : Nat) (ad1 : Option Addr) (cap1 : Nat), N + j ≤ 4096 ∧ Hid (j = 0 ∨ N + j ≤ A + 1) ∧ rv = .slice ad1 (N + j) cap1 ∧ Hid (Uw w W L (a + 10, f) r N j (.slice ad1 (N + j) cap1) wr)) (fun rv _ => A + 1 - lenV rv)
    case atStart => exact ⟨0, ad, cap, hN2, hide (.inl rfl), rfl, by rw [← HW'.out]; exact hu0⟩
    case round =>
      obtain ⟨j, ad1, cap1, hj, hj2, rfl, hu⟩ := hrel
      by_cases hlt : N + j ≤ A
      · go_wp2_with (first
          | (refine wpList_buildTo rfl (85 : TypeId) _ rfl _ rfl zero64 built79 ?_)
          | (refine wpList_buildSlice rfl (90 : TypeId) (85 : TypeId) 1 _ rfl zero64 i9 (.agg zero64) Tryz.underlying90 hi9 hz1 (by rw [hz2]; decide) (by rw [hz2]; decide) (by rw [hz2]; exact fill79) ?_)
          | (at_builtin; refine wpList_append_rows rfl (.tmp 23) (.tmp 25) (90 : TypeId) rfl 0 (85 : TypeId) i9 (.agg zero64) 64 64 Tryz.underlying90 hi9 hz1 hz2 hz3 (by rfl) (by decide) (.slice ad1 (N + j) cap1) (N + j) _ rfl (hu.out.own.alloc _) _ 1 (U (List.replicate 64 0)) 0 rfl (own_one wr (U (List.replicate 64 0)) 64 (85 : TypeId) (by rfl)) (U_one _) (by unfold maxLen; omega) (by omega) (Nat.zero_le _) ?_; intro v1 w2 hown1 hgrow1 hwent1; obtain ⟨ad2, cap2, rfl⟩ := row_val hown1; have ho1 := hide hown1; clear hown1))
        go_roundw
        case rel =>
          refine ⟨j + 1, ad2, cap2, by omega, hide (.inr (by omega)), rfl, hide ⟨?_, ?_, fun g hg => ?_⟩⟩
          · have := ho1.out
            rw [replicate_more, List.flatMap_append, List.flatMap_singleton]
            exact this
          · have t1 : Tb (fun g => g < w.heap.size ∧ L g = (a + 10, f)) W (wr.alloc (.cells zero64 (85 : TypeId))) := hu.out.tb.alloc _
            refine t1.trans (Tb.of_grown (S := fun g => (g < w.heap.size ∧ L g = (a + 10, f)) ∨ W.heap.size ≤ g) hgrow1 hu.out.lb) (fun g hg hh => ?_)
            rcases hh with hh | hh
            · exact hh
            · omega
          · rcases hwent1 with e | e
            · exact hu.out.lb g (by rw [← e]; exact hg)
            · have hg' : (Value.slice ad2 (N + j + 1) cap2).ownBlock = some g := hg
              rw [e] at hg'
              simp at hg'
              have := hu.out.tb.size
              exact .inr (by omega)
        case measure => simp only [lenV]; omega
      · have hgt : A < N + j := by omega
        obtain ⟨g, hg⟩ : ∃ g, ad1 = some ⟨g, 0, none⟩ := by
          rcases hu.out.own.2 with ⟨h1, h2⟩ | ⟨g, c, cur, h1, _⟩
          · omega
          · simp only [Value.slice.injEq] at h1
            exact ⟨g, h1.1⟩
        subst hg
        have hcap : N + j ≤ cap1 ∧ cap1 ≤ 9223372036854775807 := by
          rcases hu.out.own.2 with ⟨h1, _⟩ | ⟨g, c, cur, h1, _, _, hn, hc, _⟩
          · cases h1
          · simp only [Value.slice.injEq] at h1; unfold maxLen at hc; omega
        obtain ⟨hcap1, hcap2⟩ := hcap
        have hsz := HB.out.size
        have hX : wr.heap[w.heap.size + 1]? = some (.cells (U d).toArray (85 : TypeId) (0, 0)) := (hu.out.tb.block _ (Array.getElem?_eq_some_iff.1 hW1.out).1 (fun h => by omega)).trans hW1.out
        have hC : wr.heap[w.heap.size]? = some (.cells #[.map (some nb), .map (some rb)] (54 : TypeId) (0, 0)) := (hu.out.tb.block _ (Array.getElem?_eq_some_iff.1 hW0.out).1 (fun h => by omega)).trans hW0.out
        obtain ⟨R2, hR2⟩ : ∃ R2, Hid (R2 = r ++ List.replicate j (List.replicate 64 (0 : Int))) := ⟨_, hide rfl⟩
        have hl2 : R2.length = N + j := by rw [hR2.out]; simp [hN.out]
        have hown2 := hu.out.own
        rw [← hR2.out] at hown2
        have hall : ∀ y ∈ R2, (U y).length = 64 := by
          intro y hy
          rw [hR2.out] at hy
          rw [U_length]
          rcases List.mem_append.1 hy with hy | hy
          · exact HR.out.2 y hy
          · rw [(List.mem_replicate.1 hy).2]; simp
        obtain ⟨hth, hown3⟩ := own_put (x := d) (k := A) hown2 hl2 hall (by rw [U_length, hd]) hgt
        have hone : (U d).toArray.all (·.oneCell') = true := all_oneCell_toArray (U_one d)
        obtain ⟨W5, hW5⟩ : ∃ W5, Hid (W5 = wr.setCells g (A * 64) (U d)) := ⟨_, hide rfl⟩
        rw [← hW5.out] at hown3
        have hset : (R2.set A d).length = N + j := by rw [List.length_set, hl2]
        have hgl := hu.out.lb g rfl
        have t5 : Tb (fun k => k = g) wr W5 := by rw [hW5.out]; exact tb_over (S := fun k => k = g) rfl _ _ _
        have t4 : Tb (fun k => L k = (a + 10, f)) w wr := (HB.out.mono (T := fun k => L k = (a + 10, f)) (fun _ _ h => h.elim)).trans hu.out.tb (fun _ _ h => h.2)
        have tbw : Tb (fun k => L k = (a + 10, f)) w W5 := t4.trans t5 (fun k hk e => by
          subst e
          rcases hgl with h | h
          · exact h.2
          · omega)
        have hLx : Lx w L (lab L g (a + 10, f)) := fun k hk => by
          unfold lab
          by_cases e : k = g
          · subst e
            rw [if_pos rfl]
            rcases hgl with h | h
            · exact h.2.symm
            · omega
          · rw [if_neg e]
        have hne : ∀ k, (Value.slice (some ⟨g, 0, none⟩) (N + j) cap1).ownBlock = some k → k = g := fun k hk => by simpa [Value.ownBlock] using hk.symm
        have hgb : g ≠ rb := fun e => by
          subst e
          have := HF.out.rw.lt
          rcases hgl with h | h
          · have := h.2; rw [HF.out.lr] at this; simp at this
          · omega
        have hst := HF.out.rw.store (w := W5) (L' := lab L g (a + 10, f)) (v := .slice (some ⟨g, 0, none⟩) (N + j) cap1) (xs := R2.set A d) Tryz.underlying52 (by have := HM.out.rw; omega) hf tbw hLx (by rw [HF.out.lr]; simp) (by rw [hset]; exact hown3) (fun k hk => by rw [hne k hk]; exact lab_new _ _ _) (fun k hk => by rw [hne k hk]; exact hgb)
        obtain ⟨w6, hr6, hR6, ht6⟩ := hst
        have t6 : Tb (fun k => k = rb) W5 w6 := Tb.turned ht6 rfl
        have hfin : Hid (Lx w L (lab L g (a + 10, f)) ∧ Sh w6 (lab L g (a + 10, f)) a nb rb (s.put f (A : Int) d) ∧ Tl L (TA a) w w6) := by
          have e : s.put f (A : Int) d = ⟨s.nm, st s.rw f (R2.set A d)⟩ := by
            unfold Shp.put
            rw [hl]
            simp only [putIn, Int.toNat_natCast]
            rw [hR2.out]
            have e2 : A + 1 - r.length = j := by
              rw [← hN.out]
              rcases hj2.out with h | h <;> omega
            rw [e2]
          have tf : Tb (fun k => TA a (L k)) w w6 := (tbw.mono (T := fun k => TA a (L k)) (fun k _ h => .inr (.inr (by rw [h])))).trans t6 (fun k _ e => by subst e; exact .inr (.inl (by rw [HF.out.lr])))
          have hnr : nb ≠ rb := fun e2 => by have := HF.out.ln; rw [e2, HF.out.lr] at this; simp at this; omega
          have hN6 : Nm w6 nb s.nm := (HF.out.nm.tb tbw (by rw [HF.out.ln]; simp; omega)).tb t6 hnr
          rw [e]
          exact hide ⟨hLx, ⟨hN6, hR6, by rw [hLx _ HF.out.nm.lt]; exact HF.out.ln, by rw [hLx _ HF.out.rw.lt]; exact HF.out.lr⟩, tf⟩
        have hsz2 := (Array.getElem?_eq_some_iff.1 hW1.out).1
        have hgw : g ≠ w.heap.size := fun e => by rcases hgl with h | h <;> omega
        have hC5 : W5.cell? ⟨w.heap.size, 1, none⟩ = some (.map (some rb)) := by
          rw [World.cell?_of_block (t5.block _ (Array.getElem?_eq_some_iff.1 hC).1 (fun e => hgw e.symm)), cell_of_row wr _ 1 _ (54 : TypeId) (0, 0) hC]
          rfl
        clear hu t4 t5 t6 tbw hLx hne hgb hR6 ht6 hown2 hown3 hset hall hC hgl
        go_wp2_with (first
          | (refine wpList_load_row rfl (85 : TypeId) _ rfl (w.heap.size + 1) rfl (85 : TypeId) (U d).toArray (0, 0) _ hX Tryz.underlying85 rfl (by rw [hi9]; simp [hz2, U_length, hd]) ?_)
          | (refine wpList_store_mid rfl (85 : TypeId) _ _ rfl g (A * 64) (U d).toArray rfl rfl hth (by rw [hi9]; simp [hz2, U_length, hd]) hone ?_; rw [← hW5.out]))
        go_end0
        exact ⟨rfl, _, hfin⟩

end Go.Proofs.YtkdolabhcbjipaaGreat

/-
  Texts put into one.
-/
import Derived.Test.YtgjpbekmkhanhaaGreatMx60dabd00
import Derived.Test.YtgjpbekmkhanhaaGreatQk6afa3907
import Derived.Test.YtgjpbekmkhanhaaGreatMx81e0311a

/-
  A task at a channel: whether it may say how it goes on.
-/
namespace Go.Proofs.YtgjpbekmkhanhaaGreat.CH
open Go.RowKit QW
set_option maxRecDepth 100000

theorem eqlt_nil2 {P : Program} {w : World} {tp te : TypeId} (a : Addr) (hp : P.underlying tp = some (.pointer te)) : (binOp .eql tp (.pointer (some a)) (.pointer none)).run P w = .ok (.bool false) w := by
  have h : ∀ d : Nat, (Op.equalIn (d + 1) tp (.pointer (some a)) (.pointer none)).run P w = .ok false w := fun d => by simp [Op.equalIn, run_underlying hp]
  simp only [binOp]
  simp [Op.equal, Op.maxDepth, h 9999]

theorem index_any {w : World} {a : Option Addr} {n cap : Nat} {xs : List Int} (h : QI.Ls w a n cap xs) (x : Int) :
    Calls Tryz.prog 173 #[.slice a n cap, .int .i64 x] w fun e w' => (∃ r : Int, e = .returned (.int .i64 r) ∧ -1 ≤ r ∧ decide (0 ≤ r) = decide (x ∈ xs)) ∧ w' = w := by
  have hl := h.le
  have hre := h.reach
  have HL := hide h.len
  have HA : Hid (∀ k, k < n → ∃ b off y, a = some ⟨b, off, none⟩ ∧ xs[k]? = some y ∧ w.cell? ⟨b, off + k, none⟩ = some (.int .i64 y)) := hide (fun k hk => by
    obtain ⟨b, off, e, hc⟩ := h.lies (by omega)
    have hkx : k < xs.length := by rw [h.len]; exact hk
    exact ⟨b, off, xs[k], e, List.getElem?_eq_getElem hkx, by
      have h1 := hc k hk
      rwa [show xs.getD k 0 = xs[k] by simp [List.getD, hkx]] at h1⟩)
  clear h
  go_enter Tryz.func173, Tryz.ntmps173
  go_wp2_with fail
  go_loopw [8] (fun i wr => ∃ k : Nat, k ≤ n ∧ i = .int .i64 k ∧ Hid (x ∉ xs.take k) ∧ wr = w) (fun i _ => n - (intOf i).toNat)
  case atStart => exact ⟨0, Nat.zero_le _, rfl, hide (by simp), rfl⟩
  case round =>
    obtain ⟨k, hk, rfl, hn, rfl⟩ := hrel
    by_cases hlt : k < n
    · obtain ⟨b, off, y, rfl, hy, hc⟩ := HA.out k hlt
      have hky : xs[k]? = some y := hy
      have hsn : xs.take (k + 1) = xs.take k ++ [y] := by
        rw [List.take_add_one, hky]
        rfl
      by_cases hxy : x = y
      · subst hxy
        have hmem : Hid (x ∈ xs) := hide (List.mem_of_getElem? hky)
        clear hy hky hn hsn
        go_wp2_with fail
        go_ret
        exact ⟨⟨(k : Int), rfl, by omega, by simp [hmem.out]⟩, rfl⟩
      · have HN : Hid (x ∉ xs.take (k + 1)) := hide (by rw [hsn]; simp [hn.out, hxy])
        clear hy hky hn hsn
        go_wp2_with fail
        go_roundw
        case rel => exact ⟨k + 1, by omega, by go_num, HN, by first | rfl | trivial⟩
        case measure => simp [intOf]; omega
    · obtain rfl : k = n := by omega
      have hno : Hid (x ∉ xs) := hide (by
        have := hn.out
        rwa [List.take_of_length_le (by rw [HL.out]; exact Nat.le_refl _)] at this)
      clear hn
      go_wp2_with fail
      go_ret
      exact ⟨⟨-1, rfl, by omega, by simp [hno.out]⟩, rfl⟩

theorem contains_any {w : World} {a : Option Addr} {n cap : Nat} {xs : List Int} (h : QI.Ls w a n cap xs) (x : Int) :
    Calls Tryz.prog 154 #[.slice a n cap, .int .i64 x] w fun e w' => e = .returned (.bool (decide (x ∈ xs))) ∧ w' = w := by
  have C := index_any h x
  clear h
  go_enter Tryz.func154, Tryz.ntmps154
  go_wp2_with fail
  refine C.mono ?_
  rintro e w1 ⟨⟨r, rfl, hr1, hr2⟩, hw1⟩
  subst w1
  have HR := hide hr2
  clear hr2 C
  go_wp2_with fail
  go_ret
  exact ⟨by rw [← HR.out]; rfl, rfl⟩

section
variable {w : World} {a : Ad} {s : Rs} {i : Nat} {t : Tc}

/-- Whether a task could yield. -/
def slt (s : Rs) (i : Nat) : Bool := s.live i && !decide ((i : Int) ∈ s.line) && !decide ((i : Int) ∈ s.parked)

set_option maxHeartbeats 2000000 in
theorem silent_any (h : Rt w a s) (hi : s.ts[i]? = some t) :
    Calls Tryz.prog 122 #[.pointer (some ⟨t.b, 0, none⟩)] w fun e w' => e = .returned (.bool (slt s i)) ∧ Below w.heap.size w w' := by
  have CR := runtime_any h hi
  have CO := over_any h hi
  have CY := readys_any h
  have HI : Hid (∀ V, Below w.heap.size w V → Calls Tryz.prog 95 #[.pointer (some ⟨t.b, 0, none⟩)] V fun e w' => e = .returned (.int .i64 i) ∧ w' = V) := hide (fun V hV => id_any (h.below hV) hi)
  have HP : Hid (∀ V, Below w.heap.size w V → Calls Tryz.prog 53 #[.pointer (some ⟨a.R, 0, none⟩)] V fun e w' => ∃ p n cap, e = .returned (.slice p n cap) ∧ Hid (QI.Ls w' p n cap s.parked) ∧ Below w.heap.size w w') := hide (fun V hV => (parked_any (h.below hV)).mono (by
    rintro e w' ⟨p, cap, rfl, ho, hb⟩
    exact ⟨p, _, cap, rfl, hide (QI.own_ls ho), hV.trans (hb.mono hV.size)⟩))
  have CY : Calls Tryz.prog 15 #[.pointer (some ⟨a.R, 0, none⟩)] w fun e w' => ∃ p n cap, e = .returned (.slice p n cap) ∧ Hid (QI.Ls w' p n cap s.line) ∧ Below w.heap.size w w' := CY.mono (by
    rintro e w' ⟨p, cap, rfl, ho, hb⟩
    exact ⟨p, _, cap, rfl, hide (QI.own_ls ho), hb⟩)
  have hb0 := Below.refl w.heap.size w
  unfold slt
  clear h hi
  generalize a.R = r at *
  generalize t.b = b at *
  generalize s.live i = lv at *
  generalize s.line = l1 at *
  generalize s.parked = l2 at *
  cases lv with
  | false =>
    go_enter Tryz.func122, Tryz.ntmps122
    go_wp2_with fail
    refine CR.mono ?_
    rintro e w1 ⟨rfl, hw1⟩
    subst w1
    go_wp2_with fail
    refine CO.mono ?_
    rintro e w1 ⟨rfl, hw1⟩
    subst w1
    go_wp2_with fail
    go_ret
    exact ⟨rfl, hb0⟩
  | true =>
    go_enter Tryz.func122, Tryz.ntmps122
    go_wp2_with fail
    refine CR.mono ?_
    rintro e w1 ⟨rfl, hw1⟩
    subst w1
    go_wp2_with fail
    refine CO.mono ?_
    rintro e w1 ⟨rfl, hw1⟩
    subst w1
    go_wp2_with fail
    refine CY.mono ?_
    rintro e w2 ⟨p, n, cap, rfl, hls, hb2⟩
    have HB2 := hide hb2
    clear CY CR CO hb2 hb0
    go_wp2_with fail
    refine (HI.out w2 HB2.out).mono ?_
    rintro e w3 ⟨rfl, hw3⟩
    subst w3
    have CC := contains_any hls.out (i : Int)
    go_wp2_with fail
    refine CC.mono ?_
    rintro e w3 ⟨rfl, hw3⟩
    subst w3
    clear CC hls
    cases hd : decide ((i : Int) ∈ l1) with
    | true =>
      go_wp2_with fail
      go_ret
      exact ⟨by rw [hd]; rfl, HB2.out⟩
    | false =>
      go_wp2_with fail
      refine (HP.out w2 HB2.out).mono ?_
      rintro e w4 ⟨p4, n4, cap4, rfl, hls4, hb4⟩
      have HB4 := hide hb4
      clear HP HB2 hb4
      go_wp2_with fail
      refine (HI.out w4 HB4.out).mono ?_
      rintro e w5 ⟨rfl, hw5⟩
      subst w5
      have CC := contains_any hls4.out (i : Int)
      go_wp2_with fail
      refine CC.mono ?_
      rintro e w5 ⟨rfl, hw5⟩
      subst w5
      clear CC hls4
      go_wp2_with fail
      go_ret
      exact ⟨by rw [hd]; cases decide ((i : Int) ∈ l2) <;> rfl, HB4.out⟩
end

end Go.Proofs.YtgjpbekmkhanhaaGreat.CH

/-
  A task parks in a line.
-/
namespace Go.Proofs.YtgjpbekmkhanhaaGreat.CH
open Go.RowKit QW
set_option maxRecDepth 100000

/-- A task's block t in a row of its own, and a function that goes on with it, as they lie while the task is parked in a line: the ticket k, what it is served by at sv. -/
structure Pkd (w : World) (k sv tb ub th b : Nat) (f : Value) : Prop where
  hk : Tkt w k (.func (.func 130) #[] #[.pointer (some ⟨tb, 0, none⟩)])
  hs : w.heap[sv]? = some (.cells #[.nilFunc] (1 : TypeId) (0, 0))
  ht : w.heap[tb]? = some (.cells #[.pointer (some ⟨b, 0, none⟩)] (60 : TypeId) (0, 0))
  hu : w.heap[ub]? = some (.cells #[.func (.func 128) #[] #[.pointer (some ⟨sv, 0, none⟩), .pointer (some ⟨tb, 0, none⟩), .pointer (some ⟨ub, 0, none⟩)]] (128 : TypeId) (0, 0))
  hh : w.heap[th]? = some (.cells #[f] (68 : TypeId) (0, 0))

theorem own_ty {w : World} {a : Ad} {s : Rs} {ks : List Int} (h : Rm w a s ks) {k : Nat} (hk : own a s k) {cs : Array Value} {t : TypeId} {fr : Nat × Nat} (hc : w.heap[k]? = some (.cells cs t fr)) : t = (62 : TypeId) ∨ t = (161 : TypeId) ∨ t = 3 ∨ t = (130 : TypeId) := by
  have key : ∀ {c2 : Array Value} {t2 : TypeId}, w.heap[k]? = some (.cells c2 t2 (0, 0)) → t = t2 := fun h2 => by
    rw [hc] at h2
    simp only [Option.some.injEq, Obj.cells.injEq] at h2
    exact h2.2.1
  rcases hk with rfl | rfl | rfl | rfl | ⟨u, hu, rfl⟩
  · exact .inl (key h.obj)
  · obtain ⟨_, h2⟩ := h.que; exact .inr (.inl (key h2))
  · obtain ⟨_, h2⟩ := h.ring; exact .inr (.inr (.inl (key h2)))
  · exact absurd rfl (h.mp.ne hc)
  · obtain ⟨i, hi⟩ := List.getElem?_of_mem hu
    exact .inr (.inr (.inr (key (h.tk i u hi))))

/-- What a parked task is woken by. -/
def pkv (sv tb ub : Nat) : Value := .func (.func 128) #[] #[.pointer (some ⟨sv, 0, none⟩), .pointer (some ⟨tb, 0, none⟩), .pointer (some ⟨ub, 0, none⟩)]
/-- What a parked task's ticket fires. -/
def pkf (tb : Nat) : Value := .func (.func 130) #[] #[.pointer (some ⟨tb, 0, none⟩)]
/-- A parked task as it waits. -/
def pkw (k : Nat) (v : Int) (th sv : Nat) : Wv := ⟨some ⟨k, 0, none⟩, v, .func (.func 132) #[] #[.pointer (some ⟨th, 0, none⟩), .pointer (some ⟨sv, 0, none⟩)], rfl⟩

section
variable {w w' : World} {k sv tb ub th b : Nat} {f : Value} {S : Nat → Prop}
def Pkd.blocks (k sv tb ub th j : Nat) : Prop := j = k ∨ j = sv ∨ j = tb ∨ j = ub ∨ j = th
theorem Pkd.lt (p : Pkd w k sv tb ub th b f) {j : Nat} (hj : Pkd.blocks k sv tb ub th j) : j < w.heap.size := by
  rcases hj with rfl | rfl | rfl | rfl | rfl
  · exact p.hk.lt
  · exact heap_lt p.hs
  · exact heap_lt p.ht
  · exact heap_lt p.hu
  · exact heap_lt p.hh
theorem Pkd.tbs (p : Pkd w k sv tb ub th b f) (t : Tb S w w') (hs : ∀ j, Pkd.blocks k sv tb ub th j → ¬ S j) : Pkd w' k sv tb ub th b f :=
  ⟨p.hk.tb t (hs _ (.inl rfl)), (t.block _ (heap_lt p.hs) (hs _ (.inr (.inl rfl)))).trans p.hs, (t.block _ (heap_lt p.ht) (hs _ (.inr (.inr (.inl rfl))))).trans p.ht, (t.block _ (heap_lt p.hu) (hs _ (.inr (.inr (.inr (.inl rfl)))))).trans p.hu, (t.block _ (heap_lt p.hh) (hs _ (.inr (.inr (.inr (.inr rfl)))))).trans p.hh⟩
end

set_option maxHeartbeats 4000000 in
theorem parkIn_ok {w : World} {a : Ad} {s : Rs} {i : Nat} {t : Tc} {A : Nat → Bool} {L R m : Nat} {ys : List Wv} {D : Nat → Prop} (h : Rt w a s) (hi : s.ts[i]? = some t) (hr : s.run = some i) (hg : t.goes = false) (l : Ln w A L R m ys D) (hm : m + 1 < Mx) (hD : ∀ j, D j → ¬ own a s j ∧ j ≠ a.Q) (hA : ∀ j, w.heap.size ≤ j → A j = true) (v : Int) (g : Fn) (gr gc : Array Value) :
    Calls Tryz.prog 74 #[.pointer (some ⟨L, 0, none⟩), .pointer (some ⟨t.b, 0, none⟩), .int .i64 v, .func g gr gc] w fun e w' => e = .returned (.int .i64 0) ∧ ∃ k sv tb ub th D', Pkd w' k sv tb ub th t.b (.func g gr gc) ∧ Ln w' A L R (m + 1) (ys ++ [pkw k v th sv]) D' ∧ Rt w' a (s.put i { t with wk := pkv sv tb ub }) ∧ Tb (fun j => own a s j ∨ D j) w w' ∧ (∀ j, D' j → D j ∨ w.heap.size ≤ j) ∧ ∀ j, Pkd.blocks k sv tb ub th j → w.heap.size ≤ j ∧ ¬ D' j := by
  obtain ⟨n, hn⟩ : ∃ n, Hid (n = w.heap.size) := ⟨_, hide rfl⟩
  obtain ⟨X1, hX1⟩ : ∃ X, Hid (X = w.alloc (.cells #[.pointer (some ⟨t.b, 0, none⟩)] (60 : TypeId))) := ⟨_, hide rfl⟩
  obtain ⟨X2, hX2⟩ : ∃ X, Hid (X = X1.alloc (.cells #[.func g gr gc] (68 : TypeId))) := ⟨_, hide rfl⟩
  obtain ⟨X3, hX3⟩ : ∃ X, Hid (X = X2.alloc (.cells #[.nilFunc] (1 : TypeId))) := ⟨_, hide rfl⟩
  obtain ⟨X4, hX4⟩ : ∃ X, Hid (X = X3.alloc (.cells #[pkv (n + 1 + 1) n (n + 1 + 1 + 1)] (128 : TypeId))) := ⟨_, hide rfl⟩
  have z1 : X1.heap.size = n + 1 := by rw [hX1.out, hn.out]; simp
  have z2 : X2.heap.size = n + 1 + 1 := by rw [hX2.out]; simp [z1]
  have z3 : X3.heap.size = n + 1 + 1 + 1 := by rw [hX3.out]; simp [z2]
  have z4 : X4.heap.size = n + 1 + 1 + 1 + 1 := by rw [hX4.out]; simp [z3]
  have b1 : Below w.heap.size w X1 := by rw [hX1.out]; exact (Below.refl _ w).alloc (Nat.le_refl _) _
  have b2 : Below w.heap.size w X2 := by rw [hX2.out]; exact b1.alloc (by rw [z1, hn.out]; omega) _
  have b3 : Below w.heap.size w X3 := by rw [hX3.out]; exact b2.alloc (by rw [z2, hn.out]; omega) _
  have b4 : Below w.heap.size w X4 := by rw [hX4.out]; exact b3.alloc (by rw [z3, hn.out]; omega) _
  have r1 : X1.heap[n]? = some (.cells #[.pointer (some ⟨t.b, 0, none⟩)] (60 : TypeId) (0, 0)) := by rw [hX1.out, hn.out]; exact heap_alloc_new w _
  have r2 : X2.heap[n + 1]? = some (.cells #[.func g gr gc] (68 : TypeId) (0, 0)) := by rw [hX2.out, ← z1]; exact heap_alloc_new X1 _
  have r3 : X3.heap[n + 1 + 1]? = some (.cells #[.nilFunc] (1 : TypeId) (0, 0)) := by rw [hX3.out, ← z2]; exact heap_alloc_new X2 _
  have r4 : X4.heap[n + 1 + 1 + 1]? = some (.cells #[pkv (n + 1 + 1) n (n + 1 + 1 + 1)] (128 : TypeId) (0, 0)) := by rw [hX4.out, ← z3]; exact heap_alloc_new X3 _
  have s1 : Below X1.heap.size X1 X4 := by
    rw [hX4.out, hX3.out, hX2.out]
    refine (((Below.refl _ X1).alloc (Nat.le_refl _) _).alloc ?_ _).alloc ?_ _ <;> simp <;> omega
  have s2 : Below X2.heap.size X2 X4 := by
    rw [hX4.out, hX3.out]
    refine ((Below.refl _ X2).alloc (Nat.le_refl _) _).alloc ?_ _
    simp
  have s3 : Below X3.heap.size X3 X4 := by rw [hX4.out]; exact (Below.refl _ X3).alloc (Nat.le_refl _) _
  have u1 : X4.heap[n]? = some (.cells #[.pointer (some ⟨t.b, 0, none⟩)] (60 : TypeId) (0, 0)) := ((s1.block n (by omega)).trans r1)
  have u2 : X4.heap[n + 1]? = some (.cells #[.func g gr gc] (68 : TypeId) (0, 0)) := ((s2.block _ (by omega)).trans r2)
  have u3 : X4.heap[n + 1 + 1]? = some (.cells #[.nilFunc] (1 : TypeId) (0, 0)) := ((s3.block _ (by omega)).trans r3)
  have u4 := r4
  have CT := newticket_any X4 (.func 130) #[] #[.pointer (some ⟨n, 0, none⟩)]
  rw [z4] at CT
  have STEP : Hid (∀ W6, Tkt W6 (n + 1 + 1 + 1 + 1) (pkf n) → Below X4.heap.size X4 W6 → Calls Tryz.prog 87 #[.pointer (some ⟨L, 0, none⟩), .agg #[.pointer (some ⟨n + 1 + 1 + 1 + 1, 0, none⟩), .int .i64 v, .func (.func 132) #[] #[.pointer (some ⟨n + 1, 0, none⟩), .pointer (some ⟨n + 1 + 1, 0, none⟩)]]] W6 fun e W7 => e = .returned (.tuple #[]) ∧ (W7.cell? ⟨n, 0, none⟩ = some (.pointer (some ⟨t.b, 0, none⟩)) ∧ W7.cell? ⟨n + 1 + 1 + 1, 0, none⟩ = some (.func (.func 128) #[] #[.pointer (some ⟨n + 1 + 1, 0, none⟩), .pointer (some ⟨n, 0, none⟩), .pointer (some ⟨n + 1 + 1 + 1, 0, none⟩)])) ∧
      Hid (Calls Tryz.prog 129 #[.pointer (some ⟨t.b, 0, none⟩), .func (.func 128) #[] #[.pointer (some ⟨n + 1 + 1, 0, none⟩), .pointer (some ⟨n, 0, none⟩), .pointer (some ⟨n + 1 + 1 + 1, 0, none⟩)]] W7 fun e w' => e = .returned (.int .i64 0) ∧ ∃ k sv tb ub th D', Pkd w' k sv tb ub th t.b (.func g gr gc) ∧ Ln w' A L R (m + 1) (ys ++ [pkw k v th sv]) D' ∧ Rt w' a (s.put i { t with wk := pkv sv tb ub }) ∧ Tb (fun j => own a s j ∨ D j) w w' ∧ (∀ j, D' j → D j ∨ w.heap.size ≤ j) ∧ ∀ j, Pkd.blocks k sv tb ub th j → w.heap.size ≤ j ∧ ¬ D' j)) := hide (fun W6 hk hb => by
    have b6 : Below w.heap.size w W6 := b4.trans (hb.mono b4.size)
    have l6 := l.below b6
    have h6 := h.below b6
    have hb' : Below (n + 1 + 1 + 1 + 1) X4 W6 := by rw [← z4]; exact hb
    have v1 : W6.heap[n]? = some (.cells #[.pointer (some ⟨t.b, 0, none⟩)] (60 : TypeId) (0, 0)) := (hb'.block _ (by omega)).trans u1
    have v2 : W6.heap[n + 1]? = some (.cells #[.func g gr gc] (68 : TypeId) (0, 0)) := (hb'.block _ (by omega)).trans u2
    have v3 : W6.heap[n + 1 + 1]? = some (.cells #[.nilFunc] (1 : TypeId) (0, 0)) := (hb'.block _ (by omega)).trans u3
    have v4 : W6.heap[n + 1 + 1 + 1]? = some (.cells #[pkv (n + 1 + 1) n (n + 1 + 1 + 1)] (128 : TypeId) (0, 0)) := (hb'.block _ (by omega)).trans u4
    have P6 : Pkd W6 (n + 1 + 1 + 1 + 1) (n + 1 + 1) n (n + 1 + 1 + 1) (n + 1) t.b (.func g gr gc) := ⟨hk, v3, v1, v4, v2⟩
    have hfr : ∀ j, Pkd.blocks (n + 1 + 1 + 1 + 1) (n + 1 + 1) n (n + 1 + 1 + 1) (n + 1) j → w.heap.size ≤ j := fun j hj => by
      rw [← hn.out]
      rcases hj with h | h | h | h | h <;> omega
    have hal : A (n + 1 + 1 + 1 + 1) = true := hA _ (by rw [← hn.out]; omega)
    refine (join_any l6 hm (pkw (n + 1 + 1 + 1 + 1) v (n + 1) (n + 1 + 1)) ⟨n + 1 + 1 + 1 + 1, _, rfl, hk, .inl ⟨hal, _, _, _, rfl⟩⟩ hal).mono ?_
    rintro e W7 ⟨rfl, D7, l7, x7⟩
    have hn7 : ∀ j, Pkd.blocks (n + 1 + 1 + 1 + 1) (n + 1 + 1) n (n + 1 + 1 + 1) (n + 1) j → ¬ D7 j := fun j hj e => by
      rcases x7.dom j e with h1 | h1
      · have h2 := l.lt h1
        have h3 := hfr j hj
        omega
      · have h2 := P6.lt hj
        omega
    have P7 : Pkd W7 (n + 1 + 1 + 1 + 1) (n + 1 + 1) n (n + 1 + 1 + 1) (n + 1) t.b (.func g gr gc) := P6.tbs x7.tb (fun j hj e => by
      have h2 := l.lt e
      have h3 := hfr j hj
      omega)
    have h7 : Rt W7 a s := h6.tb x7.tb (fun j hj e => (hj.elim (fun ho => (hD j e).1 ho) (fun hq => (hD j e).2 hq)))
    refine ⟨rfl, ⟨cell_of_row _ _ 0 _ _ _ P7.ht, cell_of_row _ _ 0 _ _ _ P7.hu⟩, hide ((park_yes h7 hi hr hg _ _ _).mono ?_)⟩
    rintro e w' ⟨rfl, hp⟩
    have hz6 := b6.size
    have hz7 := x7.tb.size
    have ho7 : ∀ j, own a s j → j < w.heap.size := fun j hj => h.m.own_lt hj
    have hDo : ∀ j, D7 j → ¬ own a s j := fun j hj ho => by
      rcases x7.dom j hj with h1 | h1
      · exact (hD j h1).1 ho
      · have := ho7 j ho; omega
    refine ⟨rfl, n + 1 + 1 + 1 + 1, n + 1 + 1, n, n + 1 + 1 + 1, n + 1, D7, P7.tbs hp.x.tb (fun j hj e => by have := ho7 j e; have := hfr j hj; omega), l7.same hp.x.tb hDo (Kv.tb A hp.x.tb (fun j f ht e => ?_)), hp.rt, ?_, fun j hj => ?_, fun j hj => ⟨hfr j hj, hn7 j hj⟩⟩
    · have h1 := own_ty h7.m e ht
      revert h1
      decide
    · exact ((Tb.of_fresh (S := fun j => own a s j ∨ D j) b6).trans x7.tb (fun _ _ h => .inr h)).trans hp.x.tb (fun _ _ h => .inl h)
    · rcases x7.dom j hj with h1 | h1
      · exact .inl h1
      · exact .inr (by omega))
  clear h hi hr hg l hm hD hA b1 b2 b3 b4 r1 r2 r3 r4 s1 s2 s3 u1 u2 u3 u4
  unfold pkv at hX4
  generalize t.b = b at *
  go_enter Tryz.func74, Tryz.ntmps74
  go_wp2_with (first | (rw [← hX1.out, ← hn.out]) | (rw [← hX2.out, z1]) | (rw [← hX3.out, z2]) | (rw [← hX4.out, z3]) | (rw [← hX4.out]))
  rw [← hX2.out, ← hX3.out, ← hX4.out]
  refine CT.mono ?_
  rintro e W6 ⟨rfl, hk, hb⟩
  have CJ := STEP.out W6 hk (by rw [z4]; exact hb)
  clear STEP CT hk hb
  go_wp2_with fail
  refine CJ.mono ?_
  rintro e W7 ⟨rfl, ⟨g0, g3⟩, CP⟩
  clear CJ
  go_wp2_with fail
  refine CP.out.mono ?_
  rintro e w' ⟨rfl, FIN⟩
  have FIN := hide FIN
  clear CP
  go_wp2_with fail
  go_ret
  exact ⟨rfl, FIN.out⟩

end Go.Proofs.YtgjpbekmkhanhaaGreat.CH

/-
  A task sends, receives.
-/
namespace Go.Proofs.YtgjpbekmkhanhaaGreat.CH
open Go.RowKit QW
set_option maxRecDepth 100000

section
variable {w : World} {a : Ad} {s : Rs} {i : Nat} {t : Tc} {A : Nat → Bool} {z : Zc} {m : Nat} {σ : Cs} {D : Nat → Prop}

theorem slt_true (h : Rt w a s) (hi : s.ts[i]? = some t) (hr : s.run = some i) (hg : t.goes = false) : slt s i = true := by
  have hno : on t.nx = false ∧ on t.wk = false := by simpa [Tc.goes] using hg
  have h1 : s.live i = true := by rw [live_goes hi]; simp [hr]
  have h2 : (i : Int) ∉ s.line := h.ok.notin hi hno.1
  have h3 : (i : Int) ∉ s.parked := by
    intro hm
    have := (List.mem_filter.1 hm).2
    simp [Rs.pk, hi, hno.2] at this
  simp [slt, h1, h2, h3]

set_option maxHeartbeats 2000000 in
theorem refused_ok (h : Rt w a s) (hi : s.ts[i]? = some t) (hr : s.run = some i) (hg : t.goes = false) (c : Ch w A z m σ D) (hz : z.rt = a.R) :
    Calls Tryz.prog 69 #[.pointer (some ⟨t.b, 0, none⟩), .pointer (some ⟨z.C, 0, none⟩), .bool false] w fun e w' => e = .returned (.int .i64 0) ∧ Below w.heap.size w w' := by
  have CR := runtime_any h hi
  have CM := cmade_yes c
  have CQ : Hid (∀ V, Below w.heap.size w V → Calls Tryz.prog 121 #[.pointer (some ⟨t.b, 0, none⟩)] V fun e w' => e = .returned (.pointer (some ⟨a.R, 0, none⟩)) ∧ w' = V) := hide (fun V hV => runtime_any (h.below hV) hi)
  have CS : Hid (∀ V, Below w.heap.size w V → Calls Tryz.prog 122 #[.pointer (some ⟨t.b, 0, none⟩)] V fun e w' => e = .returned (.bool true) ∧ Below w.heap.size w w') := hide (fun V hV => (silent_any (h.below hV) hi).mono (by
    rintro e w' ⟨rfl, hb⟩
    exact ⟨by rw [slt_true h hi hr hg], hV.trans (hb.mono hV.size)⟩))
  obtain ⟨c1, _, _, _, _, _⟩ := c.cs
  rw [hz] at c1
  obtain ⟨j, hj, _⟩ := infoR
  have e1 : ∀ V : World, (binOp .eql (31 : TypeId) (.pointer (some ⟨a.R, 0, none⟩)) (.pointer none)).run Tryz.prog V = .ok (.bool false) V := fun V => eqlt_nil2 (te := (62 : TypeId)) _ Tryz.underlying31
  have e2 : ∀ V : World, (binOp .neq (31 : TypeId) (.pointer (some ⟨a.R, 0, none⟩)) (.pointer (some ⟨a.R, 0, none⟩))).run Tryz.prog V = .ok (.bool false) V := fun V => neqt_self (te := (62 : TypeId)) _ Tryz.underlying31 hj
  have hb0 := Below.refl w.heap.size w
  clear h hi hr hg c hz
  generalize a.R = r at *
  generalize t.b = b at *
  go_enter Tryz.func69, Tryz.ntmps69
  go_wp2_with fail
  refine CR.mono ?_
  rintro e w1 ⟨rfl, hw1⟩
  subst w1
  go_wp2_with fail
  refine CM.mono ?_
  rintro e w1 ⟨rfl, hw1⟩
  subst w1
  go_wp2_with fail
  go_quiet (first | (go_at_call 121; exact Calls.quiet_of_same (CQ.out _ (by first | exact Below.refl _ _ | exact (Below.refl _ _).drew | exact below_drewN (Below.refl _ _) _))))
  go_wp2_with fail
  refine (CS.out _ (below_drewN hb0 _)).mono ?_
  rintro e w2 ⟨rfl, hb2⟩
  have HB := hide hb2
  clear CR CM CQ CS hb2 hb0 c1
  go_wp2_with fail
  go_ret
  exact ⟨rfl, HB.out⟩

/-- A box that holds a value. -/
theorem box1 (w : World) (v : Value) (ty : TypeId) : ∃ X n, Hid (X = w.alloc (.cells #[v] ty)) ∧ Hid (w.heap.size = n) ∧ X.cell? ⟨n, 0, none⟩ = some v ∧ Hid (Below w.heap.size w X) ∧ Hid (X.heap[n]? = some (.cells #[v] ty (0, 0))) := by
  have h := heap_alloc_new w (.cells #[v] ty)
  exact ⟨_, _, hide rfl, hide rfl, cell_of_row _ _ 0 _ _ _ h, hide ((Below.refl _ w).alloc (Nat.le_refl _) _), hide h⟩

set_option maxHeartbeats 2000000 in
theorem send_now (h : Rt w a s) (hi : s.ts[i]? = some t) (hr : s.run = some i) (hg : t.goes = false) (c : Ch w A z m σ D) (hz : z.rt = a.R) (hc : canS z σ none = true) {v : Int} {f : Fn} {fr fc : Array Value} {b : Bool} {Ψ : World → Prop}
    (H : ∀ V D', Ch V A z m σ D' → Lx w D V D' → V.heap[w.heap.size]? = some (.cells #[.func f fr fc] (67 : TypeId) (0, 0)) → ¬ D' w.heap.size → Calls Tryz.prog 71 #[.pointer (some ⟨z.C, 0, none⟩), .int .i64 v] V fun e w2 => e = .returned (.bool b) ∧
      Calls Tryz.prog 72 #[.pointer (some ⟨t.b, 0, none⟩), .func (.func 73) #[] #[.pointer (some ⟨w.heap.size, 0, none⟩), .pointer (some ⟨w2.heap.size, 0, none⟩)]] (w2.alloc (.cells #[.bool b] 4)) fun e w' => e = .returned (.int .i64 0) ∧ Ψ w') :
    Calls Tryz.prog 26 #[.pointer (some ⟨t.b, 0, none⟩), .pointer (some ⟨z.C, 0, none⟩), .int .i64 v, .func f fr fc] w fun e w' => e = .returned (.int .i64 0) ∧ Ψ w' := by
  obtain ⟨X, n, hX, hn, x0, hb, hxr⟩ := box1 w (.func f fr fc) (67 : TypeId)
  have hbX := hb.out
  have CR := refused_ok (h.below hbX) hi hr hg (c.below hbX) hz
  have he := eql_func_no (P := Tryz.prog) (w := X) f fr fc Tryz.underlying67
  have STEP : Hid (∀ W2, Below X.heap.size X W2 → Calls Tryz.prog 70 #[.pointer (some ⟨z.C, 0, none⟩), .pointer none] W2 fun e W3 => e = .returned (.bool true) ∧ Hid (Calls Tryz.prog 71 #[.pointer (some ⟨z.C, 0, none⟩), .int .i64 v] W3 fun e w2 => e = .returned (.bool b) ∧
      Calls Tryz.prog 72 #[.pointer (some ⟨t.b, 0, none⟩), .func (.func 73) #[] #[.pointer (some ⟨n, 0, none⟩), .pointer (some ⟨w2.heap.size, 0, none⟩)]] (w2.alloc (.cells #[.bool b] 4)) fun e w' => e = .returned (.int .i64 0) ∧ Ψ w')) := hide (fun W2 hb2 => by
    have b2 : Below w.heap.size w W2 := hbX.trans (hb2.mono hbX.size)
    have hnl : n < X.heap.size := heap_lt hxr.out
    refine (canSend_any (c.below b2) (kp := none) (.inl rfl)).mono ?_
    rintro e W3 ⟨rfl, D3, c3, x3⟩
    have hnD : ¬ D n := fun e => by have := c.lt e; have := hn.out; omega
    have hW2n : n < W2.heap.size := by have := hb2.size; omega
    have hnD3 : ¬ D3 n := fun e => (x3.dom n e).elim hnD (fun h => by omega)
    refine ⟨by rw [hc], hide ?_⟩
    have := H W3 D3 c3 ((Lx.fresh D b2).trans x3) (by
      rw [hn.out]
      exact (x3.tb.block n hW2n hnD).trans ((hb2.block n hnl).trans hxr.out)) (by rw [hn.out]; exact hnD3)
    rw [hn.out] at this
    exact this)
  clear h hi hr hg c hz hc H hb hbX hxr
  generalize t.b = tb at *
  go_enter Tryz.func26, Tryz.ntmps26
  go_wp2_with (rw [← hX.out, hn.out])
  refine CR.mono ?_
  rintro e W2 ⟨rfl, hb2⟩
  have CS := STEP.out W2 hb2
  have x2 := (hb2.cell (cell_lt x0)).trans x0
  clear STEP CR hb2 x0
  go_wp2_with fail
  refine CS.mono ?_
  rintro e W3 ⟨rfl, CN⟩
  clear CS x2
  go_wp2_with fail
  refine CN.out.mono ?_
  rintro e W4 ⟨rfl, CY⟩
  have CY := hide CY
  clear CN
  go_wp2_with fail
  refine CY.out.mono ?_
  rintro e W5 ⟨rfl, hΨ⟩
  go_wp2_with fail
  go_ret
  exact ⟨rfl, hΨ⟩

set_option maxHeartbeats 2000000 in
theorem recv_now (h : Rt w a s) (hi : s.ts[i]? = some t) (hr : s.run = some i) (hg : t.goes = false) (c : Ch w A z m σ D) (hz : z.rt = a.R) (hc : canR σ none = true) {f : Fn} {fr fc : Array Value} {Ψ : World → Prop}
    (H : ∀ V D', Ch V A z m σ D' → Lx w D V D' → V.heap[w.heap.size]? = some (.cells #[.func f fr fc] (68 : TypeId) (0, 0)) → ¬ D' w.heap.size → Calls Tryz.prog 77 #[.pointer (some ⟨z.C, 0, none⟩)] V fun e w2 => ∃ (v : Int) (b : Bool), e = .returned (.tuple #[.int .i64 v, .bool b]) ∧
      Calls Tryz.prog 72 #[.pointer (some ⟨t.b, 0, none⟩), .func (.func 78) #[] #[.pointer (some ⟨w.heap.size, 0, none⟩), .pointer (some ⟨w2.heap.size, 0, none⟩), .pointer (some ⟨w2.heap.size + 1, 0, none⟩)]] ((w2.alloc (.cells #[.int .i64 v] 3)).alloc (.cells #[.bool b] 4)) fun e w' => e = .returned (.int .i64 0) ∧ Ψ w') :
    Calls Tryz.prog 27 #[.pointer (some ⟨t.b, 0, none⟩), .pointer (some ⟨z.C, 0, none⟩), .func f fr fc] w fun e w' => e = .returned (.int .i64 0) ∧ Ψ w' := by
  obtain ⟨X, n, hX, hn, x0, hb, hxr⟩ := box1 w (.func f fr fc) (68 : TypeId)
  have hbX := hb.out
  have CR := refused_ok (h.below hbX) hi hr hg (c.below hbX) hz
  have he := eql_func_no (P := Tryz.prog) (w := X) f fr fc Tryz.underlying68
  have STEP : Hid (∀ W2, Below X.heap.size X W2 → Calls Tryz.prog 76 #[.pointer (some ⟨z.C, 0, none⟩), .pointer none] W2 fun e W3 => e = .returned (.bool true) ∧ Hid (Calls Tryz.prog 77 #[.pointer (some ⟨z.C, 0, none⟩)] W3 fun e w2 => ∃ (v : Int) (b : Bool), e = .returned (.tuple #[.int .i64 v, .bool b]) ∧
      Calls Tryz.prog 72 #[.pointer (some ⟨t.b, 0, none⟩), .func (.func 78) #[] #[.pointer (some ⟨n, 0, none⟩), .pointer (some ⟨w2.heap.size, 0, none⟩), .pointer (some ⟨w2.heap.size + 1, 0, none⟩)]] ((w2.alloc (.cells #[.int .i64 v] 3)).alloc (.cells #[.bool b] 4)) fun e w' => e = .returned (.int .i64 0) ∧ Ψ w')) := hide (fun W2 hb2 => by
    have b2 : Below w.heap.size w W2 := hbX.trans (hb2.mono hbX.size)
    have hnl : n < X.heap.size := heap_lt hxr.out
    refine (canRecv_any (c.below b2) (kp := none) (.inl rfl)).mono ?_
    rintro e W3 ⟨rfl, D3, c3, x3⟩
    have hnD : ¬ D n := fun e => by have := c.lt e; have := hn.out; omega
    have hW2n : n < W2.heap.size := by have := hb2.size; omega
    have hnD3 : ¬ D3 n := fun e => (x3.dom n e).elim hnD (fun h => by omega)
    refine ⟨by rw [hc], hide ?_⟩
    have := H W3 D3 c3 ((Lx.fresh D b2).trans x3) (by
      rw [hn.out]
      exact (x3.tb.block n hW2n hnD).trans ((hb2.block n hnl).trans hxr.out)) (by rw [hn.out]; exact hnD3)
    rw [hn.out] at this
    exact this)
  clear h hi hr hg c hz hc H hb hbX hxr
  generalize t.b = tb at *
  go_enter Tryz.func27, Tryz.ntmps27
  go_wp2_with (rw [← hX.out, hn.out])
  refine CR.mono ?_
  rintro e W2 ⟨rfl, hb2⟩
  have CS := STEP.out W2 hb2
  have x2 := (hb2.cell (cell_lt x0)).trans x0
  clear STEP CR hb2 x0
  go_wp2_with fail
  refine CS.mono ?_
  rintro e W3 ⟨rfl, CN⟩
  clear CS x2
  go_wp2_with fail
  refine CN.out.mono ?_
  rintro e W4 ⟨v, b, rfl, CY⟩
  have CY := hide CY
  clear CN
  go_wp2_with fail
  refine CY.out.mono ?_
  rintro e W5 ⟨rfl, hΨ⟩
  go_wp2_with fail
  go_ret
  exact ⟨rfl, hΨ⟩

/-- What is left of a task that has parked at a channel. -/
def Pked (w : World) (a : Ad) (s : Rs) (i : Nat) (t : Tc) (A : Nat → Bool) (z : Zc) (m : Nat) (D : Nat → Prop) (v : Int) (f : Value) (nxt : Wv → Cs) (w' : World) : Prop :=
  ∃ k sv tb ub th D', Pkd w' k sv tb ub th t.b f ∧ Ch w' A z m (nxt (pkw k v th sv)) D' ∧ Rt w' a (s.put i { t with wk := pkv sv tb ub }) ∧ Tb (fun j => own a s j ∨ D j) w w' ∧ (∀ j, D' j → D j ∨ w.heap.size ≤ j) ∧ ∀ j, Pkd.blocks k sv tb ub th j → w.heap.size ≤ j ∧ ¬ D' j

theorem spark (h : Rt w a s) (hi : s.ts[i]? = some t) (hr : s.run = some i) (hg : t.goes = false) (c : Ch w A z m σ D) (hm : m + 1 < Mx) (hD : ∀ j, D j → ¬ own a s j ∧ j ≠ a.Q) (hA : ∀ j, w.heap.size ≤ j → A j = true) (v : Int) (g : Fn) (gr gc : Array Value) :
    Calls Tryz.prog 74 #[.pointer (some ⟨z.SL, 0, none⟩), .pointer (some ⟨t.b, 0, none⟩), .int .i64 v, .func g gr gc] w fun e w' => e = .returned (.int .i64 0) ∧ Pked w a s i t A z (m + 1) D v (.func g gr gc) (fun x => { σ with snd := σ.snd ++ [x] }) w' := by
  obtain ⟨BG, DS, DR, cm, hd⟩ := c
  refine (parkIn_ok h hi hr hg cm.sl hm (fun j hj => hD j ((hd j).2 (.inr (.inr (.inr (.inl hj)))))) hA v g gr gc).mono ?_
  rintro e w' ⟨rfl, k, sv, tb, ub, th, D', p, l, r, tt, dm, bl⟩
  have hO : ∀ j, cdom z BG DS DR j → ¬ own a s j := fun j hj => (hD j ((hd j).2 hj)).1
  have hkv : Kv w A w' A := Kv.tb A tt (fun j f ht e => by
    rcases e with e | e
    · have h1 := own_ty h.m e ht
      revert h1
      decide
    · exact cm.sl.notk ht e)
  obtain ⟨N, hh, q⟩ := cm.bq
  have hn := fun k (hk : DS k) => cm.line_ne cm.sl hk
  refine ⟨rfl, k, sv, tb, ub, th, cdom z BG D' DR, p, ⟨BG, D', DR, ⟨(tt.block _ (heap_lt cm.obj) (fun e => e.elim (hO _ (.inl rfl)) (fun e => (hn _ e).1 rfl))).trans cm.obj, ⟨N, hh, q.tb tt (fun e => e.elim (hO _ (.inr (.inl rfl))) (fun e => (hn _ e).2.1 rfl)) (fun e => e.elim (hO _ (.inr (.inr (.inl rfl)))) (fun e => (hn _ e).2.2 rfl))⟩, l, (cm.rl.same tt (fun k h1 h2 => h2.elim (hO _ (.inr (.inr (.inr (.inr h1))))) (fun h2 => cm.ap k h2 h1)) hkv).mono (by omega), fun k h1 h2 => ?_, cm.sz, cm.bf⟩, fun _ => Iff.rfl⟩, r, tt.mono (fun j _ hj => hj.imp id (fun e => (hd j).2 (.inr (.inr (.inr (.inl e)))))), fun j hj => ?_, fun j hj => ⟨(bl j hj).1, fun e => ?_⟩⟩
  · rcases dm k h1 with h3 | h3
    · exact cm.ap k h3 h2
    · have := cm.rl.lt h2; omega
  · rcases hj with h1 | h1 | h1 | h1 | h1
    · exact .inl ((hd j).2 (.inl h1))
    · exact .inl ((hd j).2 (.inr (.inl h1)))
    · exact .inl ((hd j).2 (.inr (.inr (.inl h1))))
    · exact (dm j h1).imp (fun e => (hd j).2 (.inr (.inr (.inr (.inl e))))) id
    · exact .inl ((hd j).2 (.inr (.inr (.inr (.inr h1)))))
  · have h2 := (bl j hj).1
    rcases e with h1 | h1 | h1 | h1 | h1
    · have := cm.lt (.inl h1); omega
    · have := cm.lt (.inr (.inl h1)); omega
    · have := cm.lt (.inr (.inr (.inl h1))); omega
    · exact (bl j hj).2 h1
    · have := cm.rl.lt h1; omega

theorem rpark (h : Rt w a s) (hi : s.ts[i]? = some t) (hr : s.run = some i) (hg : t.goes = false) (c : Ch w A z m σ D) (hm : m + 1 < Mx) (hD : ∀ j, D j → ¬ own a s j ∧ j ≠ a.Q) (hA : ∀ j, w.heap.size ≤ j → A j = true) (v : Int) (g : Fn) (gr gc : Array Value) :
    Calls Tryz.prog 74 #[.pointer (some ⟨z.RL, 0, none⟩), .pointer (some ⟨t.b, 0, none⟩), .int .i64 v, .func g gr gc] w fun e w' => e = .returned (.int .i64 0) ∧ Pked w a s i t A z (m + 1) D v (.func g gr gc) (fun x => { σ with rcv := σ.rcv ++ [x] }) w' := by
  obtain ⟨BG, DS, DR, cm, hd⟩ := c
  refine (parkIn_ok h hi hr hg cm.rl hm (fun j hj => hD j ((hd j).2 (.inr (.inr (.inr (.inr hj)))))) hA v g gr gc).mono ?_
  rintro e w' ⟨rfl, k, sv, tb, ub, th, D', p, l, r, tt, dm, bl⟩
  have hO : ∀ j, cdom z BG DS DR j → ¬ own a s j := fun j hj => (hD j ((hd j).2 hj)).1
  have hkv : Kv w A w' A := Kv.tb A tt (fun j f ht e => by
    rcases e with e | e
    · have h1 := own_ty h.m e ht
      revert h1
      decide
    · exact cm.rl.notk ht e)
  obtain ⟨N, hh, q⟩ := cm.bq
  have hn := fun k (hk : DR k) => cm.line_ne cm.rl hk
  refine ⟨rfl, k, sv, tb, ub, th, cdom z BG DS D', p, ⟨BG, DS, D', ⟨(tt.block _ (heap_lt cm.obj) (fun e => e.elim (hO _ (.inl rfl)) (fun e => (hn _ e).1 rfl))).trans cm.obj, ⟨N, hh, q.tb tt (fun e => e.elim (hO _ (.inr (.inl rfl))) (fun e => (hn _ e).2.1 rfl)) (fun e => e.elim (hO _ (.inr (.inr (.inl rfl)))) (fun e => (hn _ e).2.2 rfl))⟩, (cm.sl.same tt (fun k h1 h2 => h2.elim (hO _ (.inr (.inr (.inr (.inl h1))))) (fun h2 => cm.ap k h1 h2)) hkv).mono (by omega), l, fun k h1 h2 => ?_, cm.sz, cm.bf⟩, fun _ => Iff.rfl⟩, r, tt.mono (fun j _ hj => hj.imp id (fun e => (hd j).2 (.inr (.inr (.inr (.inr e)))))), fun j hj => ?_, fun j hj => ⟨(bl j hj).1, fun e => ?_⟩⟩
  · rcases dm k h2 with h3 | h3
    · exact cm.ap k h1 h3
    · have := cm.sl.lt h1; omega
  · rcases hj with h1 | h1 | h1 | h1 | h1
    · exact .inl ((hd j).2 (.inl h1))
    · exact .inl ((hd j).2 (.inr (.inl h1)))
    · exact .inl ((hd j).2 (.inr (.inr (.inl h1))))
    · exact .inl ((hd j).2 (.inr (.inr (.inr (.inl h1)))))
    · exact (dm j h1).imp (fun e => (hd j).2 (.inr (.inr (.inr (.inr e))))) id
  · have h2 := (bl j hj).1
    rcases e with h1 | h1 | h1 | h1 | h1
    · have := cm.lt (.inl h1); omega
    · have := cm.lt (.inr (.inl h1)); omega
    · have := cm.lt (.inr (.inr (.inl h1))); omega
    · have := cm.sl.lt h1; omega
    · exact (bl j hj).2 h1
end

end Go.Proofs.YtgjpbekmkhanhaaGreat.CH

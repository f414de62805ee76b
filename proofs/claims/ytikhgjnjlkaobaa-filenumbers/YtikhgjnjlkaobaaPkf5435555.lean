/-
  Texts put into one.
-/
import Derived.Test.YtikhgjnjlkaobaaPk6abb3141
import Derived.Test.YtikhgjnjlkaobaaPk2a3a4a2f

/-
  find, Put and Read of a disk.
-/
namespace Go.Proofs.Ytikhgjnjlkaobaa
open Go.RowKit
set_option maxRecDepth 100000
set_option maxRecDepth 100000

section
variable {w : World} {L : Lb} {R : Nat} {o : Ob} {dur std : Shp} {l : List Stp}

set_option maxHeartbeats 1000000 in
theorem find_any {s : ByteArray} (h : Di w L R o dur std l) (hs : s.size ≤ 9223372036854775807) :
    Calls Try.prog 45 #[.pointer (some ⟨R, 0, none⟩), .string s] w fun e w' => e = .returned (.tuple #[.int .i64 ((lk std.nm s.data.toList).getD 0), .int .i64 (if (lk std.nm s.data.toList).getD 0 = 0 then 70 else 0)]) ∧ w' = w := by
  obtain ⟨F, hF⟩ : ∃ F, F = (lk std.nm s.data.toList).getD 0 := ⟨_, rfl⟩
  have hfind := h.std.nm.find Try.underlying43 zero3 hs
  rw [← hF] at hfind ⊢
  have c3 : w.cell? ⟨R, 3, none⟩ = some (.map (some o.sn)) := h.oj.c 3
  have hr := right_yes h.oj
  clear h hF
  by_cases h0 : F = 0
  · subst h0
    go_enter Try.func45, Try.ntmps45
    go_wp2_with (go_at_call 35; refine hr.mono ?_; rintro e w1 ⟨rfl, rfl⟩)
    go_ret2
    exact ⟨rfl, rfl⟩
  · have e0 : (F == 0) = false := by simpa using h0
    rw [if_neg h0]
    go_enter Try.func45, Try.ntmps45
    go_wp2_with (go_at_call 35; refine hr.mono ?_; rintro e w1 ⟨rfl, rfl⟩)
    go_ret2
    exact ⟨rfl, rfl⟩
end

/-- What Put does, behind its errors of arguments: an operation, and steps. -/
def Dsk.begin (d : Dsk) : Int × Dsk :=
  if d.down then (6, d) else
    if d.armed = 0 then (6, { d with armed := lessed d.armed, failing := lessed d.failing, down := true })
    else if d.failing = 0 then (d.failure, { d with armed := lessed d.armed, failing := lessed d.failing })
    else (0, { d with armed := lessed d.armed, failing := lessed d.failing })

/-- A step is done. -/
def Dsk.do (d : Dsk) (t : Stp) : Dsk := { d with std := d.std.does t, l := d.l ++ [t.num (d.last + 1)], last := d.last + 1 }

def Dsk.find (d : Dsk) (s : ByteArray) : Int := (lk d.std.nm s.data.toList).getD 0

def Dsk.put (d : Dsk) (s : ByteArray) (at' : Int) (n : Nat) (data : List Int) : Int × Dsk :=
  if ¬ (1 ≤ s.size ∧ s.size ≤ 64) ∨ n ≠ 64 ∨ at' < 0 ∨ ((lk d.std.rw (d.find s)).getD []).length < at' then (2, d)
  else if at' = 4096 ∨ (d.find s = 0 ∧ 256 ≤ d.std.nm.length) then (5, d)
  else if d.begin.1 ≠ 0 then d.begin
  else if d.find s = 0 then (0, (({ d.begin.2 with made := d.begin.2.made + 1 } : Dsk).do (madeStp (d.begin.2.made + 1) s)).do (putStp (d.begin.2.made + 1) at' data))
  else (0, d.begin.2.do (putStp (d.find s) at' data))

section
variable {w w' : World} {L : Lb} {R : Nat} {o o' : Ob} {dur std : Shp} {l : List Stp} {d : Dsk}

/-- The own block turns, but for where the parts are. -/
theorem Di.set (h : Di w L R o dur std l) (hO : Oj w' R o') (hb : Tb (fun k => k = R) w w') (h1 : o'.dn = o.dn) (h2 : o'.dr = o.dr) (h3 : o'.sn = o.sn) (h4 : o'.sr = o.sr) (h5 : o'.us = o.us) (h6 : o'.ns = o.ns) (h7 : o'.last = o.last) : Di w' L R o' dur std l := by
  have n := h.nR
  refine ⟨hO, h.lb, ?_, ?_, ?_⟩
  · rw [h1, h2]; exact h.dur.tb hb (Lx.refl _ _) (fun g hg e => n.2.1 (e ▸ hg))
  · rw [h3, h4]; exact h.std.tb hb (Lx.refl _ _) (fun g hg e => n.2.2 (e ▸ hg))
  · rw [h5, h6, h7]; exact h.bk.tb hb (Lx.refl _ _) (fun g hg e => n.1 (e ▸ hg))

theorem begun_same (o : Ob) : (begun o).2.dn = o.dn ∧ (begun o).2.dr = o.dr ∧ (begun o).2.sn = o.sn ∧ (begun o).2.sr = o.sr ∧ (begun o).2.us = o.us ∧ (begun o).2.ns = o.ns ∧ (begun o).2.last = o.last := by
  unfold begun
  split
  · simp
  · split
    · simp
    · split <;> simp

theorem Says.begun (h : Says o d) : (begun o).1 = d.begin.1 ∧ Says (begun o).2 d.begin.2 := by
  unfold Proofs.Ytikhgjnjlkaobaa.begun Dsk.begin
  rw [h.down, h.armed, h.failing, h.failure]
  split
  · exact ⟨rfl, h⟩
  · split
    · exact ⟨rfl, h.last, h.made, rfl, rfl, rfl, rfl⟩
    · split
      · exact ⟨rfl, h.last, h.made, rfl, rfl, rfl, rfl⟩
      · exact ⟨rfl, h.last, h.made, rfl, rfl, rfl, rfl⟩

theorem begin_parts (d : Dsk) : d.begin.2.dur = d.dur ∧ d.begin.2.std = d.std ∧ d.begin.2.l = d.l ∧ d.begin.2.last = d.last ∧ d.begin.2.made = d.made := by
  unfold Dsk.begin
  split
  · simp
  · split
    · simp
    · split <;> simp

/-- An operation is counted. -/
theorem begin_dk (h : Di w L R o d.dur d.std d.l) (hs : Says o d) :
    Calls Try.prog 37 #[.pointer (some ⟨R, 0, none⟩)] w fun e w' => e = .returned (.int .i64 d.begin.1) ∧ ∃ o', Di w' L R o' d.dur d.std d.l ∧ Says o' d.begin.2 ∧ o'.last = o.last ∧ o'.made = o.made ∧ o'.sn = o.sn ∧ o'.sr = o.sr ∧ Tb (fun k => k = R) w w' := by
  refine (begin_any h.oj).mono ?_
  rintro e w1 ⟨rfl, h1, b1⟩
  obtain ⟨s1, s2⟩ := hs.begun
  obtain ⟨q1, q2, q3, q4, q5, q6, q7⟩ := begun_same o
  have qm : (begun o).2.made = o.made := by rw [s2.made, (begin_parts d).2.2.2.2, hs.made]
  exact ⟨by rw [s1], _, h.set h1 b1 q1 q2 q3 q4 q5 q6 q7, s2, q7, qm, q3, q4, b1⟩

theorem Tl.own (h : L R = (1, 0)) (hb : Tb (fun k => k = R) w w') : Tl L TD w w' := hb.mono (fun k _ e => by subst e; exact .inl (by rw [h]))

/-- A step is done on a disk. -/
theorem do_dk {t : Stp} {K : Nat} (h : Di w L R o d.dur d.std d.l) (hs : Says o d) (ht : t.Ok) (hl : d.last < 1000000000) (hm : Sm d.std K) (hK : K < 9000000000000000000) :
    Calls Try.prog 38 #[.pointer (some ⟨R, 0, none⟩), .agg t.cells.toArray] w fun e w' => e = .returned (.tuple #[]) ∧ ∃ L' o', Lx w L L' ∧ Di w' L' R o' (d.do t).dur (d.do t).std (d.do t).l ∧ Says o' (d.do t) ∧ Tl L TD w w' := by
  refine (do_any h ht (by rw [hs.last]; exact hl) hm hK).mono ?_
  rintro e w1 ⟨rfl, L', ns', hx, hd, hT⟩
  rw [hs.last] at hd
  exact ⟨rfl, L', _, hx, hd, ⟨rfl, hs.made, hs.down, hs.armed, hs.failing, hs.failure⟩, hT⟩
end

theorem Bs.tb {S : Nat → Prop} {w w' : World} {b off n cap : Nat} {zs : List Int} (h : Bs w (some ⟨b, off, none⟩) n cap zs) (hb : Tb S w w') (hS : ¬ S b) : Bs w' (some ⟨b, off, none⟩) n cap zs := by
  refine ⟨h.len, h.le, h.reach, h.byte, h.bare, fun hn => ?_⟩
  obtain ⟨b', off', e, hc⟩ := h.lies hn
  simp only [Option.some.injEq, Addr.mk.injEq, and_true] at e
  obtain ⟨rfl, rfl⟩ := e
  exact ⟨_, _, rfl, fun i hi => hb.cell (hc i hi) hS⟩

theorem isName_yes {s : ByteArray} (h : 1 ≤ s.size ∧ s.size ≤ 64) (w : World) : Calls Try.prog 36 #[.string s] w fun e w' => e = .returned (.bool true) ∧ w' = w := by
  refine (isName_any (by omega) w).mono ?_
  rintro e w1 ⟨rfl, rfl⟩
  exact ⟨by simp [h], rfl⟩
theorem isName_no {s : ByteArray} (hs : s.size ≤ 9223372036854775807) (h : ¬ (1 ≤ s.size ∧ s.size ≤ 64)) (w : World) : Calls Try.prog 36 #[.string s] w fun e w' => e = .returned (.bool false) ∧ w' = w := by
  refine (isName_any hs w).mono ?_
  rintro e w1 ⟨rfl, rfl⟩
  exact ⟨by simp only [decide_eq_false h], rfl⟩

set_option maxHeartbeats 2000000 in
theorem put_arg {w : World} {L : Lb} {R : Nat} {o : Ob} {d : Dsk} {K : Nat} {s : ByteArray} {at' : Int} {a : Option Addr} {n cap : Nat} (h : Di w L R o d.dur d.std d.l) (hm : Sm d.std K) (hs : s.size ≤ 9223372036854775807) (hc : n ≤ 9223372036854775807)
    (hbad : ¬ (1 ≤ s.size ∧ s.size ≤ 64) ∨ n ≠ 64 ∨ at' < 0 ∨ ((lk d.std.rw (d.find s)).getD []).length < at') :
    Calls Try.prog 9 #[.pointer (some ⟨R, 0, none⟩), .string s, .int .i64 at', .slice a n cap] w fun e w' => e = .returned (.int .i64 2) ∧ w' = w := by
  obtain ⟨F, hF⟩ : ∃ F, F = d.find s := ⟨_, rfl⟩
  have hfind := h.std.nm.find Try.underlying43 zero3 hs
  have hf6 := hm.fileOf s.data.toList
  rw [show (lk d.std.nm s.data.toList).getD 0 = F from hF.symm] at hfind hf6
  rw [← hF] at hbad
  have c3 : w.cell? ⟨R, 3, none⟩ = some (.map (some o.sn)) := h.oj.c 3
  have c4 : w.cell? ⟨R, 4, none⟩ = some (.map (some o.sr)) := h.oj.c 4
  have hr := right_yes h.oj
  obtain ⟨v, hlook, hown, _⟩ := h.std.rw.find Try.underlying44 zero74 hf6
  have hrun := (hlook w rfl).1
  have hN2 := (hm.at F).1
  obtain ⟨N, hN⟩ : ∃ N, N = ((lk d.std.rw F).getD []).length := ⟨_, rfl⟩
  rw [← hN] at hbad hown hN2
  obtain ⟨ad, c', rfl⟩ := row_val hown
  clear h hm hF hlook hown hN
  have HN := hide hN2
  by_cases h1 : 1 ≤ s.size ∧ s.size ≤ 64
  · by_cases h2 : n = 64
    · subst h2
      by_cases h3 : at' < 0
      · go_enter Try.func9, Try.ntmps9
        go_wp2_with (first | (go_at_call 35; refine hr.mono ?_; rintro e w1 ⟨rfl, rfl⟩) | (go_at_call 36; refine (isName_yes h1 _).mono ?_; rintro e w1 ⟨rfl, rfl⟩))
        go_ret
        exact ⟨rfl, rfl⟩
      · have h4 : (N : Int) < at' := by
          rcases hbad with h | h | h | h
          · exact absurd h1 h
          · exact absurd rfl h
          · exact absurd h h3
          · exact h
        go_enter Try.func9, Try.ntmps9
        go_wp2_with (first | (go_at_call 35; refine hr.mono ?_; rintro e w1 ⟨rfl, rfl⟩) | (go_at_call 36; refine (isName_yes h1 _).mono ?_; rintro e w1 ⟨rfl, rfl⟩))
        go_ret
        exact ⟨rfl, rfl⟩
    · have e2 : ((n : Int) == 64) = false := by simp; omega
      go_enter Try.func9, Try.ntmps9
      go_wp2_with (first | (go_at_call 35; refine hr.mono ?_; rintro e w1 ⟨rfl, rfl⟩) | (go_at_call 36; refine (isName_yes h1 _).mono ?_; rintro e w1 ⟨rfl, rfl⟩))
      go_ret
      exact ⟨rfl, rfl⟩
  · go_enter Try.func9, Try.ntmps9
    go_wp2_with (first | (go_at_call 35; refine hr.mono ?_; rintro e w1 ⟨rfl, rfl⟩) | (go_at_call 36; refine (isName_no hs h1 _).mono ?_; rintro e w1 ⟨rfl, rfl⟩))
    go_ret
    exact ⟨rfl, rfl⟩

set_option maxHeartbeats 2000000 in
theorem put_full {w : World} {L : Lb} {R : Nat} {o : Ob} {d : Dsk} {K : Nat} {s : ByteArray} {at' : Int} {a : Option Addr} {cap : Nat} (h : Di w L R o d.dur d.std d.l) (hm : Sm d.std K) (hs : 1 ≤ s.size ∧ s.size ≤ 64)
    (h1 : 0 ≤ at') (h2 : at' ≤ ((lk d.std.rw (d.find s)).getD []).length) (hfull : at' = 4096 ∨ (d.find s = 0 ∧ 256 ≤ d.std.nm.length)) :
    Calls Try.prog 9 #[.pointer (some ⟨R, 0, none⟩), .string s, .int .i64 at', .slice a 64 cap] w fun e w' => e = .returned (.int .i64 5) ∧ w' = w := by
  obtain ⟨F, hF⟩ : ∃ F, F = d.find s := ⟨_, rfl⟩
  have hfind := h.std.nm.find (s := s) Try.underlying43 zero3 (by omega)
  have hf6 := hm.fileOf s.data.toList
  rw [show (lk d.std.nm s.data.toList).getD 0 = F from hF.symm] at hfind hf6
  rw [← hF] at hfull h2
  have c3 : w.cell? ⟨R, 3, none⟩ = some (.map (some o.sn)) := h.oj.c 3
  have c4 : w.cell? ⟨R, 4, none⟩ = some (.map (some o.sr)) := h.oj.c 4
  have hr := right_yes h.oj
  have hlen := h.std.nm.len Try.underlying43
  have hnl := hm.nm
  obtain ⟨NL, hNL⟩ : ∃ NL, NL = d.std.nm.length := ⟨_, rfl⟩
  rw [← hNL] at hfull hlen hnl
  obtain ⟨v, hlook, hown, _⟩ := h.std.rw.find Try.underlying44 zero74 hf6
  have hrun := (hlook w rfl).1
  have hN2 := (hm.at F).1
  obtain ⟨N, hN⟩ : ∃ N, N = ((lk d.std.rw F).getD []).length := ⟨_, rfl⟩
  rw [← hN] at h2 hown hN2
  obtain ⟨ad, c', rfl⟩ := row_val hown
  clear h hm hF hlook hown hN hNL
  by_cases h4 : at' = 4096
  · subst h4
    go_enter Try.func9, Try.ntmps9
    go_wp2_with (first | (go_at_call 35; refine hr.mono ?_; rintro e w1 ⟨rfl, rfl⟩) | (go_at_call 36; refine (isName_yes hs _).mono ?_; rintro e w1 ⟨rfl, rfl⟩))
    go_ret
    exact ⟨rfl, rfl⟩
  · have e4 : (at' == 4096) = false := by simpa using h4
    obtain ⟨h5, h6⟩ : F = 0 ∧ 256 ≤ NL := by
      rcases hfull with h | h
      · exact absurd h h4
      · exact h
    subst h5
    go_enter Try.func9, Try.ntmps9
    go_wp2_with (first | (go_at_call 35; refine hr.mono ?_; rintro e w1 ⟨rfl, rfl⟩) | (go_at_call 36; refine (isName_yes hs _).mono ?_; rintro e w1 ⟨rfl, rfl⟩))
    go_ret
    exact ⟨rfl, rfl⟩

set_option maxHeartbeats 2000000 in
theorem put_go {w : World} {L : Lb} {R : Nat} {o : Ob} {d : Dsk} {K : Nat} {s : ByteArray} {at' : Int} {b off cap : Nat} {data : List Int} (h : Di w L R o d.dur d.std d.l) (hsy : Says o d) (hm : Sm d.std K) (hK : K < 8000000000000000000) (hlast : d.last < 900000000) (hmade : 0 ≤ d.made ∧ d.made < 900000000) (hfl : ∀ p ∈ d.std.nm, 0 ≤ p.2) (hs : 1 ≤ s.size ∧ s.size ≤ 64)
    (hB : Bs w (some ⟨b, off, none⟩) 64 cap data) (hbl : ¬ TD (L b)) (h1 : 0 ≤ at') (h2 : at' ≤ ((lk d.std.rw (d.find s)).getD []).length) (hfull : ¬ (at' = 4096 ∨ (d.find s = 0 ∧ 256 ≤ d.std.nm.length))) :
    Calls Try.prog 9 #[.pointer (some ⟨R, 0, none⟩), .string s, .int .i64 at', .slice (some ⟨b, off, none⟩) 64 cap] w fun e w' => e = .returned (.int .i64 (d.put s at' 64 data).1) ∧ ∃ L', Lx w L L' ∧ Dk w' L' R (d.put s at' 64 data).2 ∧ Tl L TD w w' := by
  obtain ⟨F, hF⟩ : ∃ F, F = d.find s := ⟨_, rfl⟩
  have hF0 : 0 ≤ F := by
    rw [hF]
    unfold Dsk.find
    cases e : lk d.std.nm s.data.toList with
    | none => simp
    | some f => exact hfl _ (lk_mem e)
  have hp : d.put s at' 64 data = if d.begin.1 ≠ 0 then d.begin else if F = 0 then (0, (({ d.begin.2 with made := d.begin.2.made + 1 } : Dsk).do (madeStp (d.begin.2.made + 1) s)).do (putStp (d.begin.2.made + 1) at' data)) else (0, d.begin.2.do (putStp F at' data)) := by
    unfold Dsk.put
    rw [if_neg (by
      rintro (h | h | h | h)
      · exact h hs
      · exact h rfl
      · omega
      · omega), if_neg hfull, hF]
  have hfind := h.std.nm.find (s := s) Try.underlying43 zero3 (by omega)
  have hf6 := hm.fileOf s.data.toList
  rw [show (lk d.std.nm s.data.toList).getD 0 = F from hF.symm] at hfind hf6
  rw [← hF] at hfull h2
  have c3 : w.cell? ⟨R, 3, none⟩ = some (.map (some o.sn)) := h.oj.c 3
  have c4 : w.cell? ⟨R, 4, none⟩ = some (.map (some o.sr)) := h.oj.c 4
  have hr := right_yes h.oj
  have hlen := h.std.nm.len Try.underlying43
  have hnl := hm.nm
  obtain ⟨NL, hNL⟩ : ∃ NL, NL = d.std.nm.length := ⟨_, rfl⟩
  rw [← hNL] at hfull hlen hnl
  obtain ⟨v, hlook, hown, _⟩ := h.std.rw.find Try.underlying44 zero74 hf6
  have hrun := (hlook w rfl).1
  have hN2 := (hm.at F).1
  obtain ⟨N, hN⟩ : ∃ N, N = ((lk d.std.rw F).getD []).length := ⟨_, rfl⟩
  rw [← hN] at h2 hown hN2
  obtain ⟨ad, c', rfl⟩ := row_val hown
  have h4 : ¬ at' = 4096 := fun e => hfull (.inl e)
  have e4 : (at' == 4096) = false := by simpa using h4
  have hbg := begin_dk h hsy
  obtain ⟨p1, p2, p3, p4, p5⟩ := begin_parts d
  have HBG := hide hbg
  have HP := hide hp
  have hlb := h.lb
  have HB := hide hB
  have HBL := hide hbl
  have HM := hide hm
  have hbb := hide (hB.byte)
  have hdl := hide (hB.len)
  have hin : b < w.heap.size := by
    obtain ⟨b', off', e, hc⟩ := hB.lies (by omega)
    simp only [Option.some.injEq, Addr.mk.injEq, and_true] at e
    obtain ⟨rfl, rfl⟩ := e
    exact cell_lt (hc 0 (by omega))
  have hbR : b ≠ R := fun e => hbl (.inl (by rw [e, hlb]))
  have hHI := hide hin
  clear h hm hlook hown hN hNL hbg hp hfl hsy hB hbl hF hin
  -- what the last call does
  have LAST : Hid (∀ (X : World) (L1 : Lb) (o1 : Ob) (d1 : Dsk) (f : Int) (K1 : Nat), Di X L1 R o1 d1.dur d1.std d1.l → Says o1 d1 → 1 ≤ f ∧ f ≤ 9223372036854775807 → d1.last < 1000000000 → Sm d1.std K1 → K1 < 9000000000000000000 →
      Calls Try.prog 38 #[.pointer (some ⟨R, 0, none⟩), .agg (putStp f at' data).cells.toArray] X fun e w' => e = .returned (.tuple #[]) ∧ ∃ L' o', Lx X L1 L' ∧ Di w' L' R o' (d1.do (putStp f at' data)).dur (d1.do (putStp f at' data)).std (d1.do (putStp f at' data)).l ∧ Says o' (d1.do (putStp f at' data)) ∧ Tl L1 TD X w') := hide (by
    intro X L1 o1 d1 f K1 hd hsy hf hl hm hK
    exact do_dk hd hsy (putStp_ok hf ⟨h1, by omega⟩ hdl.out hbb.out) hl hm hK)
  by_cases h5 : F = 0
  · have h6 : ¬ 256 ≤ NL := fun h => hfull (.inr ⟨h5, h⟩)
    subst h5
    go_enter Try.func9, Try.ntmps9
    go_wp2_with (first | (go_at_call 35; refine hr.mono ?_; rintro e w1 ⟨rfl, hw1⟩; subst w1) | (go_at_call 36; refine (isName_yes hs _).mono ?_; rintro e w1 ⟨rfl, hw1⟩; subst w1))
    refine HBG.out.mono ?_
    rintro e w1 ⟨rfl, o1, hd1, hs1, q1, q2, q3, q4, t1⟩
    have tl1 : Hid (Tl L TD w w1) := hide (Tl.own hlb t1)
    by_cases hb : d.begin.1 = 0
    · rw [hb]
      have c8 : w1.cell? ⟨R, 8, none⟩ = some (.int .i64 o1.made) := hd1.oj.c 8
      have f8 := hd1.oj.free 8
      have hm1 : o1.made = d.made := by rw [hs1.made, p5]
      obtain ⟨M, hM⟩ : ∃ M, M = o1.made := ⟨_, rfl⟩
      have hM2 : 0 ≤ M ∧ M < 900000000 := by rw [hM, hm1]; exact hmade
      rw [← hM] at c8
      obtain ⟨hMa, hMb⟩ := hM2
      obtain ⟨w2, hw2⟩ : ∃ w2, w2 = w1.setCell ⟨R, 8, none⟩ (.int .i64 (M + 1)) := ⟨_, rfl⟩
      have t2 : Tb (fun k => k = R) w1 w2 := by rw [hw2]; exact Tb.set (S := fun k => k = R) R 8 _ rfl
      have hO2 : Oj w2 R { o1 with made := M + 1 } := by rw [hw2]; exact hd1.oj.set 8 _ { o1 with made := M + 1 } rfl hd1.oj.armed hd1.oj.failing
      have hd2 : Di w2 L R { o1 with made := M + 1 } d.dur d.std d.l := hd1.set hO2 t2 rfl rfl rfl rfl rfl rfl rfl
      obtain ⟨d2, hd2e⟩ : ∃ d2 : Dsk, d2 = { d.begin.2 with made := d.begin.2.made + 1 } := ⟨_, rfl⟩
      have hMd : M = d.begin.2.made := by rw [hM, hs1.made]
      have hsy2 : Says { o1 with made := M + 1 } d2 := by rw [hd2e]; exact ⟨hs1.last, by rw [hMd], hs1.down, hs1.armed, hs1.failing, hs1.failure⟩
      have hd2' : Di w2 L R { o1 with made := M + 1 } d2.dur d2.std d2.l := by rw [hd2e]; simp only; rw [p1, p2, p3]; exact hd2
      have hl2 : d2.last < 900000000 := by rw [hd2e]; simp only; rw [p4]; exact hlast
      have hsm2 : Sm d2.std K := by rw [hd2e]; simp only; rw [p2]; exact HM.out
      have w2c8 : w2.cell? ⟨R, 8, none⟩ = some (.int .i64 (M + 1)) := hO2.c 8
      rw [hw2] at w2c8
      have HD2 := hide hd2'
      have HS2 := hide hsy2
      have HSM := hide hsm2
      have HW2 := hide hw2
      have T2 : Hid (Tl L TD w w2) := hide (Tl.trans tl1.out (Tl.own hlb t2) (Lx.refl _ _) (fun _ h => h))
      have hbm := built81m (M + 1) s
      have hpe : Hid ((d.put s at' 64 data) = (0, (d2.do (madeStp (M + 1) s)).do (putStp (M + 1) at' data))) := hide (by rw [HP.out, if_neg (by rw [hb]; simp)]; simp [hd2e, hMd])
      have hok : Hid ((madeStp (M + 1) s).Ok) := hide (madeStp_ok (by omega) hs.2)
      clear hd1 hs1 q1 q2 q3 q4 t1 t2 hO2 hd2 hd2' hsy2 hsm2 hw2 hm1 hM hMd hd2e HBG hfind hrun hlen c3 c4 hr p1 p2 p3 p4 p5
      go_wp2_with (first
        | (go_at_call 39; rw [← HW2.out]; refine (clone_any (by omega) w2).mono ?_; rintro e w3 ⟨rfl, t3⟩)
        | (refine wpList_buildTo rfl (81 : TypeId) #[(1, .const (.int .u8 0)), (2, .tmp 79), (3, .tmp 81)] rfl (some 82) rfl (madeStp (M + 1) s).cells.toArray (by simpa [Act.eval, Act.put] using hbm) ?_))
      have hd3 := HD2.out.tb t3 (Lx.refl _ _) (fun _ _ h => h)
      refine (do_dk hd3 HS2.out hok.out (by omega) HSM.out (by omega)).mono ?_
      rintro e w4 ⟨rfl, L4, o4, x4, hd4, hs4, t4⟩
      have hB4 : Bs w4 (some ⟨b, off, none⟩) 64 cap data := ((HB.out.tb T2.out HBL.out).tb t3 (fun h => h)).tb t4 HBL.out
      have T4 : Hid (Tl L TD w w4) := hide (Tl.trans (Tl.trans T2.out (t3.mono (fun _ _ h => h.elim)) (Lx.refl _ _) (fun _ h => h)) t4 (Lx.refl _ _) (fun _ h => h))
      have hl4 : (d2.do (madeStp (M + 1) s)).last < 1000000000 := by simp only [Dsk.do]; omega
      have hsm4 : Hid (Sm (d2.do (madeStp (M + 1) s)).std (K + 1)) := hide (HSM.out.does hok.out)
      have HD4 := hide hd4
      have HS4 := hide hs4
      have HX4 : Hid (Lx w L L4) := hide (fun g hg => x4 g (Nat.lt_of_lt_of_le hg (Nat.le_trans (Tb.size T2.out) t3.size)))
      have HB4 := hide hB4
      clear hd3 hd4 hs4 x4 t4 t3 hB4 hbm w2c8
      go_wp2_with (go_at_call 40; refine (putOf_any HB4.out).mono ?_; rintro e w5 ⟨rfl, t5⟩)
      refine (LAST.out w5 L4 o4 _ (M + 1) (K + 1) (HD4.out.tb t5 (Lx.refl _ _) (fun _ _ h => h)) HS4.out (by omega) hl4 hsm4.out (by omega)).mono ?_
      rintro e w6 ⟨rfl, L6, o6, x6, hd6, hs6, t6⟩
      have FIN : Hid (∃ L', Lx w L L' ∧ Dk w6 L' R ((d2.do (madeStp (M + 1) s)).do (putStp (M + 1) at' data)) ∧ Tl L TD w w6) := by
        have T5 : Tl L TD w w5 := Tb.trans (T := fun _ => False) T4.out t5 (fun _ _ h => h.elim)
        have s5 : w.heap.size ≤ w5.heap.size := Tb.size T5
        exact hide ⟨L6, HX4.out.trans (w' := w5) x6 s5, ⟨o6, hd6, hs6⟩, Tl.trans T5 t6 HX4.out (fun _ h => h)⟩
      clear hd6 hs6 x6 t6 t5
      go_wp2_with fail
      go_ret
      rw [hpe.out]
      exact ⟨rfl, FIN.out⟩
    · have e9 : (d.begin.1 == 0) = false := by simpa using hb
      have hpe : Hid ((d.put s at' 64 data) = d.begin) := hide (by rw [HP.out, if_pos hb])
      have HD1 : Hid (Dk w1 L R d.begin.2) := hide ⟨o1, by rw [p1, p2, p3]; exact hd1, hs1⟩
      obtain ⟨E, hE⟩ : ∃ E, E = d.begin.1 := ⟨_, rfl⟩
      rw [← hE] at hb e9
      rw [← hE]
      have hE2 := hide hE.symm
      clear hd1 hs1 HBG hfind hrun hlen c3 c4 hr hE
      go_wp2_with fail
      go_ret
      rw [hpe.out]
      exact ⟨by rw [hE2.out]; rfl, L, Lx.refl _ _, HD1.out, tl1.out⟩
  · have e5 : (F == 0) = false := by simpa using h5
    have hFI : 1 ≤ F ∧ F ≤ 9223372036854775807 := ⟨by omega, hf6.2⟩
    go_enter Try.func9, Try.ntmps9
    go_wp2_with (first | (go_at_call 35; refine hr.mono ?_; rintro e w1 ⟨rfl, hw1⟩; subst w1) | (go_at_call 36; refine (isName_yes hs _).mono ?_; rintro e w1 ⟨rfl, hw1⟩; subst w1))
    refine HBG.out.mono ?_
    rintro e w1 ⟨rfl, o1, hd1, hs1, q1, q2, q3, q4, t1⟩
    have tl1 : Hid (Tl L TD w w1) := hide (Tl.own hlb t1)
    by_cases hb : d.begin.1 = 0
    · rw [hb]
      have HD1 : Hid (Di w1 L R o1 d.begin.2.dur d.begin.2.std d.begin.2.l) := hide (by rw [p1, p2, p3]; exact hd1)
      have HS1 := hide hs1
      have hl1 : d.begin.2.last < 1000000000 := by rw [p4]; omega
      have hsm1 : Hid (Sm d.begin.2.std K) := hide (by rw [p2]; exact HM.out)
      have hpe : Hid ((d.put s at' 64 data) = (0, d.begin.2.do (putStp F at' data))) := hide (by rw [HP.out, if_neg (by rw [hb]; simp), if_neg h5])
      have HB1 : Hid (Bs w1 (some ⟨b, off, none⟩) 64 cap data) := hide (HB.out.tb t1 hbR)
      clear hd1 hs1 q1 q2 q3 q4 t1 HBG hfind hrun hlen c3 c4 hr p1 p2 p3 p4 p5
      go_wp2_with (go_at_call 40; refine (putOf_any HB1.out).mono ?_; rintro e w5 ⟨rfl, t5⟩)
      refine (LAST.out w5 L o1 _ F K (HD1.out.tb t5 (Lx.refl _ _) (fun _ _ h => h)) HS1.out hFI hl1 hsm1.out (by omega)).mono ?_
      rintro e w6 ⟨rfl, L6, o6, x6, hd6, hs6, t6⟩
      have FIN : Hid (∃ L', Lx w L L' ∧ Dk w6 L' R (d.begin.2.do (putStp F at' data)) ∧ Tl L TD w w6) := by
        have T5 : Tl L TD w w5 := Tb.trans (T := fun _ => False) tl1.out t5 (fun _ _ h => h.elim)
        have s5 : w.heap.size ≤ w5.heap.size := Tb.size T5
        exact hide ⟨L6, (Lx.refl w L).trans (w' := w5) x6 s5, ⟨o6, hd6, hs6⟩, Tl.trans T5 t6 (Lx.refl _ _) (fun _ h => h)⟩
      clear hd6 hs6 x6 t6 t5
      go_wp2_with fail
      go_ret
      rw [hpe.out]
      exact ⟨rfl, FIN.out⟩
    · have e9 : (d.begin.1 == 0) = false := by simpa using hb
      have hpe : Hid ((d.put s at' 64 data) = d.begin) := hide (by rw [HP.out, if_pos hb])
      have HD1 : Hid (Dk w1 L R d.begin.2) := hide ⟨o1, by rw [p1, p2, p3]; exact hd1, hs1⟩
      obtain ⟨E, hE⟩ : ∃ E, E = d.begin.1 := ⟨_, rfl⟩
      rw [← hE] at hb e9
      rw [← hE]
      have hE2 := hide hE.symm
      clear hd1 hs1 HBG hfind hrun hlen c3 c4 hr hE
      go_wp2_with fail
      go_ret
      rw [hpe.out]
      exact ⟨by rw [hE2.out]; rfl, L, Lx.refl _ _, HD1.out, tl1.out⟩

end Go.Proofs.Ytikhgjnjlkaobaa

/-
  Steps that are taken off are carried out on what is durable.
-/
namespace Go.Proofs.Ytikhgjnjlkaobaa
open Go.RowKit
set_option maxRecDepth 100000
set_option maxRecDepth 100000

/-- The cells of one element of a row. -/
theorem own_range {w : World} {g n cap : Nat} {ts : List Stp} (h : w.ownsRow 0 (81 : TypeId) 70 (.slice (some ⟨g, 0, none⟩) n cap) n (ts.flatMap Stp.cells)) (hn : ts.length = n) (hok : ∀ t ∈ ts, t.Ok) {k : Nat} (hk : k < ts.length) : w.rangeAt g (k * 70) ts[k].cells := fun j v hv => by
  have hj : j < ts[k].cells.length := (List.getElem?_eq_some_iff.1 hv).1
  have hl := (hok ts[k] (List.getElem_mem _)).len
  have hc := h.cells (g := g) rfl (k * 70 + j) v (by
    have e1 : ts.flatMap Stp.cells = (ts.take k).flatMap Stp.cells ++ ((ts.drop k).flatMap Stp.cells) := by rw [← List.flatMap_append, List.take_append_drop]
    have e2 : ((ts.take k).flatMap Stp.cells).length = k * 70 := by
      rw [flatMap_take Stp.cells 70 k ts (fun t ht => (hok t ht).len), List.length_take, h.1, ← hn]
      omega
    rw [e1, List.getElem?_append_right (by omega), e2, Nat.add_sub_cancel_left, List.drop_eq_getElem_cons hk, List.flatMap_cons, List.getElem?_append_left hj]
    exact hv)
  rwa [Addr.add_mid, Nat.zero_add] at hc

/-- So far the first k steps are carried out. -/
def Sx (w : World) (L : Lb) (R : Nat) (o : Ob) (dur std : Shp) (l ts : List Stp) (k : Nat) (wr : World) : Prop := ∃ L', Lx w L L' ∧ Di wr L' R o ((ts.take k).foldl Shp.does dur) std l ∧ Tl L (TA 2) w wr

theorem fold_sm {dur : Shp} {K : Nat} (h : Sm dur K) : ∀ (ts : List Stp), (∀ t ∈ ts, t.Ok) → Sm (ts.foldl Shp.does dur) (K + ts.length) := by
  intro ts
  induction ts generalizing dur K with
  | nil => intro _; exact h
  | cons t ts ih =>
    intro hok
    have := ih (h.does (hok t (by simp))) (fun x hx => hok x (by simp [hx]))
    rw [List.foldl_cons, List.length_cons]
    exact this.mono (by omega)

/-- One more is carried out: B is where it lies by itself. -/
theorem Sx.more {w : World} {L : Lb} {R : Nat} {o : Ob} {dur std : Shp} {l ts : List Stp} {k K : Nat} {wr X : World} {cs : Array Value} (h : Sx w L R o dur std l ts k wr) (hk : k < ts.length) (hok : ∀ t ∈ ts, t.Ok) (hm : Sm dur K) (hK : K + ts.length < 9000000000000000000) (hcs : cs = ts[k].cells.toArray)
    (hX : Tb (fun _ => False) wr X) (hB : X.heap[wr.heap.size]? = some (.cells cs (81 : TypeId) (0, 0))) :
    Calls Try.prog 43 #[.agg #[.map (some o.dn), .map (some o.dr)], .agg cs] X fun e w' => e = .returned (.tuple #[]) ∧ Sx w L R o dur std l ts (k + 1) w' ∧ w'.heap[wr.heap.size]? = some (.cells cs (81 : TypeId) (0, 0)) ∧ w'.cell? ⟨R, 1, none⟩ = some (.map (some o.dn)) ∧ w'.cell? ⟨R, 2, none⟩ = some (.map (some o.dr)) := by
  obtain ⟨L1, x1, d1, t1⟩ := h
  obtain ⟨M, hM⟩ : ∃ M, M = onlyL wr L1 := ⟨_, rfl⟩
  have hLM : Lx wr L1 M := by rw [hM]; exact onlyL_lx wr L1
  have hMB : M wr.heap.size = (0, 0) := by rw [hM, onlyL_new (Nat.le_refl _)]
  have dX := d1.tb hX hLM (fun _ _ h => h)
  have hmk : Sm ((ts.take k).foldl Shp.does dur) (K + ts.length) := (fold_sm hm (ts.take k) (fun t ht => hok t (List.mem_of_mem_take ht))).mono (by rw [List.length_take]; omega)
  rw [hcs]
  refine (carry_any dX.dur (by decide) hmk hK (hok ts[k] (List.getElem_mem _))).mono ?_
  rintro e w1 ⟨rfl, L', hlx, hS, hT⟩
  have hd : Di w1 L' R o (((ts.take k).foldl Shp.does dur).does ts[k]) std l := ⟨dX.oj.tb hT dX.nR.2.1, by rw [hlx R dX.oj.lt]; exact dX.lb, hS, dX.std.tb hT hlx (fun g hg h2 => TA_A h2 hg), dX.bk.tb hT hlx (fun g hg h2 => TA_B h2 (.inl rfl) hg)⟩
  have e1 : (ts.take (k + 1)).foldl Shp.does dur = ((ts.take k).foldl Shp.does dur).does ts[k] := by rw [List.take_succ_eq_append_getElem hk, List.foldl_append]; rfl
  have hwx : Lx w L M := x1.trans (w' := wr) hLM (Tb.size t1)
  have hs1 : wr.heap.size ≤ X.heap.size := hX.size
  have hs2 : w.heap.size ≤ X.heap.size := Nat.le_trans (Tb.size t1) hs1
  refine ⟨rfl, ⟨L', hwx.trans (w' := X) hlx hs2, by rw [e1]; exact hd, ?_⟩, ?_, hd.oj.c 1, hd.oj.c 2⟩
  · have tX : Tl L (TA 2) w X := Tb.trans (T := fun _ => False) t1 hX (fun _ _ h => h.elim)
    exact Tl.trans tX hT hwx (fun _ h => h)
  · rw [hT.block _ (Array.getElem?_eq_some_iff.1 hB).1 (by rw [hMB]; unfold TA; simp), ← hcs]
    exact hB

set_option maxHeartbeats 2000000 in
theorem settle_any {w : World} {L : Lb} {R : Nat} {o : Ob} {dur std : Shp} {l ts : List Stp} {K : Nat} {x : Value} (h : Di w L R o dur std l) (hx : w.ownsRow 0 (81 : TypeId) 70 x ts.length (ts.flatMap Stp.cells)) (hxl : ∀ g, x.ownBlock = some g → ¬ TA 2 (L g)) (hok : ∀ t ∈ ts, t.Ok) (hm : Sm dur K) (hK : K + ts.length < 9000000000000000000) (hlen : ts.length < 1000000000000) :
    Calls Try.prog 48 #[.pointer (some ⟨R, 0, none⟩), x] w fun e w' => e = .returned (.tuple #[]) ∧ ∃ L', Lx w L L' ∧ Di w' L' R o (ts.foldl Shp.does dur) std l ∧ Tl L (TA 2) w w' := by
  obtain ⟨N, hN⟩ : ∃ N, Hid (N = ts.length) := ⟨_, hide rfl⟩
  rw [← hN.out] at hx hlen
  obtain ⟨ad, cap, rfl⟩ := row_val hx
  have hcap : N ≤ cap ∧ cap ≤ 9223372036854775807 := by
    rcases hx.2 with ⟨h1, h2⟩ | ⟨g, c, cur, h1, _, _, hn, hc, _⟩
    · simp only [Value.slice.injEq] at h1; omega
    · simp only [Value.slice.injEq] at h1; unfold maxLen at hc; omega
  obtain ⟨hcap1, hcap2⟩ := hcap
  obtain ⟨i, z, hi, hz, q1, q2, q3⟩ := info81
  have h0 : Hid (Sx w L R o dur std l ts 0 w) := hide ⟨L, Lx.refl _ _, by simpa using h, Tb.refl _ _⟩
  have HX := hide hx
  have HL := hide hxl
  have HK : Hid (∀ t ∈ ts, t.Ok) := hide hok
  have HM := hide hm
  have HKK := hide hK
  clear h hx hxl hok hm hK
  go_enter Try.func48, Try.ntmps48
  go_wp2_with fail
  go_loopw [8] (fun iv wr => ∃ k : Nat, k ≤ N ∧ iv = .int .i64 k ∧ Hid (Sx w L R o dur std l ts k wr)) (fun iv _ => N - (intOf iv).toNat)
  case atStart => exact ⟨0, Nat.zero_le _, rfl, h0⟩
  case round =>
    obtain ⟨k, hk, rfl, hs⟩ := hrel
    by_cases hlt : k < N
    · obtain ⟨g, hg⟩ : ∃ g, ad = some ⟨g, 0, none⟩ := by
        rcases HX.out.2 with ⟨h1, h2⟩ | ⟨g, c, cur, h1, _⟩
        · omega
        · simp only [Value.slice.injEq] at h1
          exact ⟨g, h1.1⟩
      subst hg
      have hkr : k < ts.length := by rw [← hN.out]; exact hlt
      obtain ⟨cs, hcs⟩ : ∃ cs, Hid (cs = ts[k].cells.toArray) := ⟨_, hide rfl⟩
      have hkok := HK.out ts[k] (List.getElem_mem _)
      have hsz : cs.size = 70 := by rw [hcs.out, List.size_toArray]; exact hkok.len
      have hone : cs.all (·.oneCell') = true := by rw [hcs.out]; exact all_oneCell_toArray (Stp.one _)
      have hrg : Hid (wr.rangeAt g (k * 70) ts[k].cells) := hide (by
        obtain ⟨L1, x1, d1, t1⟩ := hs.out
        have hxr := row_tb HX.out t1 (fun g' hg' => HL.out g' hg')
        exact own_range hxr hN.out.symm HK.out hkr)
      have hs81 : (Try.prog.info? (81 : TypeId)).map (·.size) = some ts[k].cells.length := by rw [hi]; simp [q1, hkok.len]
      go_wp2_with (first
        | (refine wpList_load_mid rfl (81 : TypeId) (.tmp 10) rfl g (k * 70) (by simp [Act.eval]) ts[k].cells _ hrg.out Try.underlying81 rfl hs81 ?_; rw [← hcs.out])
        | (refine wpList_store_rowTo rfl (81 : TypeId) (.tmp 5) (.tmp 11) rfl rfl wr.heap.size cs (by simp [Act.eval]) (by simp [Act.eval]) (81 : TypeId) Try.zeroCells81 (heap_alloc_new wr _) (by rw [hi]; simp [q1, hsz]) (by rw [hsz]; kernel_rfl) hone ?_))
      obtain ⟨X, hX⟩ : ∃ X, Hid (X = (wr.alloc (.cells Try.zeroCells81 (81 : TypeId))).setRow wr.heap.size cs) := ⟨_, hide rfl⟩
      rw [← hX.out]
      have hXB : X.heap[wr.heap.size]? = some (.cells cs (81 : TypeId) (0, 0)) := by rw [hX.out]; exact setRow_heap _ _ _ _ (81 : TypeId) (0, 0) (heap_alloc_new wr _)
      have tX : Tb (fun _ => False) wr X := by
        rw [hX.out]
        exact Tb.trans ((Tb.refl _ _).alloc _) (T := fun k => k = wr.heap.size) ⟨rfl, rfl, rfl, by simp, fun k _ hne => setRow_other _ _ _ _ hne⟩ (fun k hk e => by omega)
      have hcl : X.cell? ⟨R, 1, none⟩ = some (.map (some o.dn)) ∧ X.cell? ⟨R, 2, none⟩ = some (.map (some o.dr)) := by
        obtain ⟨L1, x1, d1, t1⟩ := hs.out
        have hO := d1.oj.tb tX (fun h => h)
        exact ⟨hO.c 1, hO.c 2⟩
      obtain ⟨c1, c2⟩ := hcl
      have CC := hide (Sx.more (X := X.drew) (cs := cs) hs.out hkr HK.out HM.out HKK.out hcs.out tX.drew hXB)
      clear hrg hs81 hs tX
      refine wp_region_held_drew (S := fun V => V.heap[wr.heap.size]? = some (.cells cs (81 : TypeId) (0, 0)) ∧ V.cell? ⟨R, 1, none⟩ = some (.map (some o.dn)) ∧ V.cell? ⟨R, 2, none⟩ = some (.map (some o.dr))) (by kernel_rfl) ⟨hXB, c1, c2⟩ (fun hHeld => ?_)
      try simp only [List.size_toArray, List.length_cons, List.length_nil, Nat.reduceAdd]
      refine wpAnyH_take (i := 4) (v := (.agg cs)) rfl (by kernel_rfl) (by kernel_rfl) (by kernel_rfl) (fun _ _ _ h => h) (Or.inl ⟨by rfl, ?hy⟩) hHeld ?_
      case hy => (intro V hV; obtain ⟨hV1, hV2, hV3⟩ := hV; exact exec_load (.pointer (some ⟨wr.heap.size, 0, none⟩)) rfl (by simp [Act.eval]) (run_loadStep hV1 hsz))
      refine wpAnyH_take (i := 0) (v := (.pointer (some ⟨R, 0, none⟩))) rfl (by kernel_rfl) (by kernel_rfl) (by kernel_rfl) (fun _ _ _ h => h) (Or.inl ⟨by rfl, ?hy⟩) hHeld ?_
      case hy => (intro V hV; obtain ⟨hV1, hV2, hV3⟩ := hV; go_simp)
      refine wpAnyH_take (i := 1) (v := (.pointer (some ⟨R, 0, none⟩))) rfl (by kernel_rfl) (by kernel_rfl) (by kernel_rfl) (fun _ _ _ h => h) (Or.inl ⟨by rfl, ?hy⟩) hHeld ?_
      case hy => (intro V hV; obtain ⟨hV1, hV2, hV3⟩ := hV; go_simp)
      refine wpAnyH_take (i := 2) (v := (.pointer (some ⟨R, 1, none⟩))) rfl (by kernel_rfl) (by kernel_rfl) (by kernel_rfl) (fun _ _ _ h => h) (Or.inl ⟨by rfl, ?hy⟩) hHeld ?_
      case hy => (intro V hV; obtain ⟨hV1, hV2, hV3⟩ := hV; go_simp)
      refine wpAnyH_take (i := 3) (v := (.agg #[.map (some o.dn), .map (some o.dr)])) rfl (by kernel_rfl) (by kernel_rfl) (by kernel_rfl) (fun _ _ _ h => h) (Or.inl ⟨by rfl, ?hy⟩) hHeld ?_
      case hy => (intro V hV; obtain ⟨hV1, hV2, hV3⟩ := hV; go_simp)
      refine wpAnyH_ready (rs := [5]) (by kernel_rfl) (by simp) ?_
      refine AllReadyH.cons rfl (fun K hK => ?_) AllReadyH.nil
      refine step_call rfl 43 #[.agg #[.map (some o.dn), .map (some o.dr)], .agg cs] (by go_simp) ?_
      refine CC.out.mono ?_
      rintro e w2 ⟨rfl, hs2, k1, k2, k3⟩
      refine ⟨_, rfl, ?_⟩
      refine hK.out _ _ ⟨k1, k2, k3⟩ (fun hHeld => ?_)
      clear hK K
      refine wpAnyH_done (by kernel_rfl) ?_ _
      simp only [Act.put, List.getElem_toArray, List.getElem_cons_succ, List.getElem_cons_zero, List.setIfInBounds_toArray, List.set_cons_succ, List.set_cons_zero]
      have HS2 := hide hs2
      clear hs2 CC hHeld
      go_wp2_with fail
      go_roundw
      case rel => exact ⟨k + 1, by omega, by simp, HS2⟩
      case measure => simp [intOf]; omega
    · obtain rfl : k = N := by omega
      have hfin := hs.out
      unfold Sx at hfin
      rw [show ts.take k = ts from List.take_of_length_le (by rw [← hN.out]; exact Nat.le_refl _)] at hfin
      have HF := hide hfin
      clear hfin hs
      go_wp2_with fail
      go_end0
      exact ⟨rfl, HF.out⟩

end Go.Proofs.Ytikhgjnjlkaobaa

/-
  Steps are taken off: those of a file's sectors.
-/
namespace Go.Proofs.Ytikhgjnjlkaobaa
open Go.RowKit
set_option maxRecDepth 100000
set_option maxRecDepth 100000

/-- Without the steps of a file's sectors. -/
def offS (l : List Stp) (f : Int) : List Stp := l.filter fun t => !(t.sec && decide (t.file = f))

theorem nms_offS (l : List Stp) (f : Int) : nms (offS l f) = nms l := by
  unfold nms offS
  rw [List.filter_filter]
  congr 1
  funext t
  cases t.sec <;> simp
theorem scs_offS_same (l : List Stp) (f : Int) : scs (offS l f) f = [] := by
  unfold scs offS
  rw [List.filter_filter, List.filter_eq_nil_iff]
  intro t _
  cases t.sec <;> simp
theorem scs_offS_other (l : List Stp) {f f' : Int} (h : f' ≠ f) : scs (offS l f) f' = scs l f' := by
  unfold scs offS
  rw [List.filter_filter]
  congr 1
  funext t
  cases t.sec
  · simp
  · by_cases e : t.file = f'
    · have : t.file ≠ f := fun e2 => h (e.symm.trans e2)
      simp [e]
      exact fun e2 => h e2
    · simp [e]

set_option maxHeartbeats 1000000 in
theorem takeSectors_any {w : World} {L : Lb} {R : Nat} {o : Ob} {dur std : Shp} {l : List Stp} {f : Int} (h : Di w L R o dur std l) (hf : I6 f) :
    Calls Try.prog 51 #[.pointer (some ⟨R, 5, none⟩), .int .i64 f] w fun e w' => ∃ v, e = .returned v ∧ w'.ownsRow 0 (81 : TypeId) 70 v (scs l f).length ((scs l f).flatMap Stp.cells) ∧ (∀ g, v.ownBlock = some g → L g = (16, f)) ∧ Di w' L R o dur std (offS l f) ∧ Tl L TB w w' := by
  obtain ⟨sec, hS1, hS2, hS3⟩ := h.bk.map
  obtain ⟨v, hlook, hown, hlab⟩ := hS1.find Try.underlying48 zero47 hf
  rw [hS2] at hown
  have hrun := (hlook w rfl).1
  obtain ⟨w1, hr1, hR1, ht1⟩ := hS1.drop Try.underlying48 hf 0
  have hb1 : Tb (fun k => k = o.us) w w1 := Tb.turned ht1 rfl
  have c7 : w.cell? ⟨R, 7, none⟩ = some (.map (some o.us)) := h.oj.c 7
  have hTB : TB (L o.us) := by rw [h.bk.mlb]; exact .inl rfl
  have hown1 : w1.ownsRow 0 (81 : TypeId) 70 v (scs l f).length ((scs l f).flatMap Stp.cells) := row_tb hown hb1 (fun g hg e => by
    have := hlab g hg
    rw [e, h.bk.mlb] at this
    simp at this)
  have hd1 : Di w1 L R o dur std (offS l f) := by
    refine ⟨h.oj.tb hb1 (fun e => h.nR.1 (e ▸ hTB)), h.lb, h.dur.tb hb1 (Lx.refl _ _) (fun g hg e => TA_B hg (.inl rfl) (e ▸ hTB)), h.std.tb hb1 (Lx.refl _ _) (fun g hg e => TA_B hg (.inr rfl) (e ▸ hTB)), ?_⟩
    refine ⟨?_, h.bk.rlb, ⟨_, hR1, fun f' => ?_, ?_⟩, h.bk.mlb, fun t ht => h.bk.ok t (List.mem_filter.1 ht).1, h.bk.up.filter _, fun t ht => h.bk.no t (List.mem_filter.1 ht).1, h.bk.last⟩
    · rw [nms_offS]
      exact row_tb h.bk.row hb1 (fun g hg e => by
        have := h.bk.rlb g hg
        rw [e, h.bk.mlb] at this
        simp at this)
    · by_cases e : f' = f
      · subst e
        rw [lk_dl_same, scs_offS_same]
        rfl
      · rw [lk_dl_other e, hS2, scs_offS_other l e]
    · have := dl_le sec f
      omega
  have fin : Hid (w1.ownsRow 0 (81 : TypeId) 70 v (scs l f).length ((scs l f).flatMap Stp.cells) ∧ (∀ g, v.ownBlock = some g → L g = (16, f)) ∧ Di w1 L R o dur std (offS l f) ∧ Tl L TB w w1) := hide ⟨hown1, hlab, hd1, hb1.mono (fun k _ e => by subst e; exact hTB)⟩
  clear h hS1 hS2 hS3 hlook hown hlab hR1 ht1 hb1 hTB hown1 hd1
  go_enter Try.func51, Try.ntmps51
  go_wp2_with fail
  go_ret
  exact ⟨v, rfl, fin⟩

/-- Is it the step by which a file is made? -/
def Stp.makes (f : Int) (t : Stp) : Bool := decide (t.kind = 0) && decide (t.file = f)

set_option maxHeartbeats 1000000 in
theorem makes_any {w : World} {B : Nat} {f : Int} {t : Stp} (hB : w.cell? ⟨B, 0, none⟩ = some (.int .i64 f)) :
    Calls Try.prog 70 #[.agg t.cells.toArray, .pointer (some ⟨B, 0, none⟩)] w fun e w' => e = .returned (.bool (t.makes f)) ∧ Tb (fun _ => False) w w' := by
  obtain ⟨cs, hcs⟩ : ∃ cs, Hid (cs = t.cells.toArray) := ⟨_, hide rfl⟩
  have h1 : cs[1]? = some (.int .u8 t.kind) := by rw [hcs.out]; rfl
  have h2 : cs[2]? = some (.int .i64 t.file) := by rw [hcs.out]; rfl
  rw [← hcs.out]
  have a1 : ∀ x, (w.alloc x).cell? ⟨B, 0, none⟩ = some (.int .i64 f) := fun x => ((Tb.refl (fun _ => False) w).alloc x).cell hB (fun h => h)
  unfold Stp.makes
  by_cases e : t.kind = 0
  · rw [e] at h1
    go_enter Try.func70, Try.ntmps70
    go_wp2_with fail
    go_ret
    refine ⟨?_, (Tb.refl _ _).alloc _⟩
    by_cases e2 : t.file = f <;> simp [e, e2]
  · have e1 : (t.kind == 0) = false := by simpa using e
    go_enter Try.func70, Try.ntmps70
    go_wp2_with fail
    go_ret
    refine ⟨?_, (Tb.refl _ _).alloc _⟩
    simp [e]

/-- Where a file's making is among steps, counted from 1; 0: nowhere. -/
def toMake (f : Int) (ts : List Stp) : Nat := match ts.findIdx? (·.makes f) with
  | some i => i + 1
  | none => 0

theorem toMake_le (f : Int) (ts : List Stp) : toMake f ts ≤ ts.length := by
  unfold toMake
  cases h : ts.findIdx? (·.makes f) with
  | none => simp
  | some i =>
    have := (List.findIdx?_eq_some_iff_getElem.1 h).1
    simp only
    omega

set_option maxHeartbeats 2000000 in
theorem index_any {w : World} {B : Nat} {f : Int} {ts : List Stp} {x : Value} (hB : w.cell? ⟨B, 0, none⟩ = some (.int .i64 f)) (hx : w.ownsRow 0 (81 : TypeId) 70 x ts.length (ts.flatMap Stp.cells)) (hok : ∀ t ∈ ts, t.Ok) (hlen : ts.length < 1000000000000) :
    Calls Try.prog 69 #[x, .func (.func 70) #[] #[.pointer (some ⟨B, 0, none⟩)]] w fun e w' => e = .returned (.int .i64 ((toMake f ts : Nat) - 1 : Int)) ∧ Tb (fun _ => False) w w' := by
  obtain ⟨N, hN⟩ : ∃ N, Hid (N = ts.length) := ⟨_, hide rfl⟩
  rw [← hN.out] at hx hlen
  obtain ⟨ad, cap, rfl⟩ := row_val hx
  have hcap : N ≤ cap ∧ cap ≤ 9223372036854775807 := by
    rcases hx.2 with ⟨h1, h2⟩ | ⟨g, c, cur, h1, _, _, hn, hc, _⟩
    · simp only [Value.slice.injEq] at h1; omega
    · simp only [Value.slice.injEq] at h1; unfold maxLen at hc; omega
  obtain ⟨hcap1, hcap2⟩ := hcap
  obtain ⟨i, z, hi, hz, q1, q2, q3⟩ := info81
  have HX := hide hx
  have HK : Hid (∀ t ∈ ts, t.Ok) := hide hok
  have HB := hide hB
  clear hx hok hB
  go_enter Try.func69, Try.ntmps69
  go_wp2_with fail
  go_loopw [8] (fun iv wr => ∃ k : Nat, k ≤ N ∧ iv = .int .i64 k ∧ Hid (∀ (i : Nat) (h : i < ts.length), i < k → ts[i].makes f = false) ∧ Hid (Tb (fun _ => False) w wr)) (fun iv _ => N - (intOf iv).toNat)
  case atStart => exact ⟨0, Nat.zero_le _, rfl, hide (fun _ _ h => by omega), hide (Tb.refl _ _)⟩
  case round =>
    obtain ⟨k, hk, rfl, hno, ht⟩ := hrel
    by_cases hlt : k < N
    · obtain ⟨g, hg⟩ : ∃ g, ad = some ⟨g, 0, none⟩ := by
        rcases HX.out.2 with ⟨h1, h2⟩ | ⟨g, c, cur, h1, _⟩
        · omega
        · simp only [Value.slice.injEq] at h1
          exact ⟨g, h1.1⟩
      subst hg
      have hkr : k < ts.length := by rw [← hN.out]; exact hlt
      obtain ⟨t, htk⟩ : ∃ t, Hid (t = ts[k]) := ⟨_, hide rfl⟩
      have hkok : t.Ok := by rw [htk.out]; exact HK.out ts[k] (List.getElem_mem _)
      have hrg : Hid (wr.rangeAt g (k * 70) t.cells) := hide (by
        rw [htk.out]
        exact own_range (row_tb HX.out ht.out (fun _ _ h => h)) hN.out.symm HK.out hkr)
      have hs81 : (Try.prog.info? (81 : TypeId)).map (·.size) = some t.cells.length := by rw [hi]; simp [q1, hkok.len]
      have hBr : wr.cell? ⟨B, 0, none⟩ = some (.int .i64 f) := ht.out.cell HB.out (fun h => h)
      have HC := hide (makes_any (t := t) hBr)
      clear hBr
      by_cases hh : t.makes f = true
      · rw [hh] at HC
        go_wp2_with (first
          | (refine wpList_load_mid rfl (81 : TypeId) (.tmp 14) rfl g (k * 70) (by simp [Act.eval]) t.cells _ hrg.out Try.underlying81 rfl hs81 ?_)
          | (go_at_call 70; refine HC.out.mono ?_; rintro e w1 ⟨rfl, t1⟩))
        go_ret
        refine ⟨?_, ht.out.trans t1 (fun _ _ h => h)⟩
        have hfi : ts.findIdx? (·.makes f) = some k := List.findIdx?_eq_some_iff_getElem.2 ⟨hkr, by rw [← htk.out]; exact hh, fun j hj => by simp [hno.out j (by omega) hj]⟩
        unfold toMake
        rw [hfi]
        simp
      · have hh' : t.makes f = false := by simpa using hh
        rw [hh'] at HC
        go_wp2_with (first
          | (refine wpList_load_mid rfl (81 : TypeId) (.tmp 14) rfl g (k * 70) (by simp [Act.eval]) t.cells _ hrg.out Try.underlying81 rfl hs81 ?_)
          | (go_at_call 70; refine HC.out.mono ?_; rintro e w1 ⟨rfl, t1⟩))
        go_roundw
        case rel =>
          refine ⟨k + 1, by omega, by simp, hide (fun i h hik => ?_), hide (ht.out.trans t1 (fun _ _ h => h))⟩
          rcases Nat.lt_or_ge i k with h' | h'
          · exact hno.out i h h'
          · have : i = k := by omega
            subst this
            rw [← htk.out]
            exact hh'
        case measure => simp [intOf]; omega
    · obtain rfl : k = N := by omega
      go_wp2_with fail
      go_ret
      refine ⟨?_, ht.out⟩
      have hfi : ts.findIdx? (·.makes f) = none := List.findIdx?_eq_none_iff.2 (fun t htm => by
        obtain ⟨i, hi, rfl⟩ := List.getElem_of_mem htm
        exact hno.out i hi (by rw [hN.out]; exact hi))
      unfold toMake
      rw [hfi]
      simp

set_option maxHeartbeats 1000000 in
theorem toMaking_any {w : World} {L : Lb} {R : Nat} {o : Ob} {dur std : Shp} {l : List Stp} {f : Int} (h : Di w L R o dur std l) (hlast : o.last < 1000000000) :
    Calls Try.prog 50 #[.pointer (some ⟨R, 5, none⟩), .int .i64 f] w fun e w' => e = .returned (.int .i64 (toMake f (nms l) : Nat)) ∧ Tb (fun _ => False) w w' := by
  have hl := h.bk.length
  have hnl : (nms l).length ≤ l.length := List.length_filter_le _ _
  have c6 : w.cell? ⟨R, 6, none⟩ = some o.ns := h.oj.c 6
  have a6 : ∀ x, (w.alloc x).cell? ⟨R, 6, none⟩ = some o.ns := fun x => ((Tb.refl (fun _ => False) w).alloc x).cell c6 (fun h => h)
  obtain ⟨W, HW⟩ : ∃ W, W = w.alloc (.cells #[.int .i64 f] 3) := ⟨_, rfl⟩
  have b0 : Tb (fun _ => False) w W := by rw [HW]; exact (Tb.refl _ _).alloc _
  have hB : W.cell? ⟨w.heap.size, 0, none⟩ = some (.int .i64 f) := by rw [HW, cell_of_row _ _ 0 _ 3 (0, 0) (heap_alloc_new w _)]; rfl
  have hI := index_any (ts := nms l) hB (row_tb h.bk.row b0 (fun _ _ h => h)) (fun t ht => h.bk.ok t (List.mem_filter.1 ht).1) (by omega)
  have hle := toMake_le f (nms l)
  obtain ⟨T, hT⟩ : ∃ T, T = toMake f (nms l) := ⟨_, rfl⟩
  rw [← hT] at hI hle ⊢
  have hT2 : T ≤ 1000000000 := by omega
  have HI := hide hI
  have hb0 := hide b0
  clear h hI hB hT hle b0
  have HW' := hide HW
  clear HW
  have hmf : ∀ (W : World) (p : Value), (Instr.makeFunc (.func (70 : FuncId)) #[] #[p]).run Try.prog W = .ok (.func (.func 70) #[] #[p]) W := fun W p => by go_simp
  go_enter Try.func50, Try.ntmps50
  go_wp2_with (go_at_call 69; rw [← HW'.out]; refine HI.out.mono ?_; rintro e w1 ⟨rfl, t1⟩)
  go_ret
  refine ⟨by simp; omega, hb0.out.trans t1 (fun _ _ h => h)⟩

end Go.Proofs.Ytikhgjnjlkaobaa

/-
  Read of a disk.
-/
namespace Go.Proofs.Ytikhgjnjlkaobaa
open Go.RowKit
set_option maxRecDepth 100000
set_option maxRecDepth 100000

theorem flat_U (r : List (List Int)) : r.flatMap U = U r.flatten := by
  induction r with
  | nil => rfl
  | cons y r ih => rw [List.flatMap_cons, List.flatten_cons, U_append, ih]

theorem flat_len {r : List (List Int)} (h : ∀ x ∈ r, x.length = 64) : r.flatten.length = 64 * r.length := by
  induction r with
  | nil => rfl
  | cons y r ih => rw [List.flatten_cons, List.length_append, h y (by simp), ih (fun x hx => h x (by simp [hx])), List.length_cons]; omega

theorem row_below {w0 w w' : World} {base n : Nat} {e : TypeId} {v : Value} {xs : List Value} (hb : Below base w0 w) (h : w.ownsRow base e 1 v n xs) (hg : w.grownBy w' v.ownBlock) (hs : base ≤ w.heap.size) : Below base w0 w' :=
  ⟨hg.os.trans hb.os, hg.tape.trans hb.tape, hg.output.trans hb.output, Nat.le_trans hb.size hg.size, fun i hi => (hg.block i (by omega) (fun e => by
    have := (h.lt i e.symm).1
    omega)).trans (hb.block i hi)⟩

/-- What a file has. -/
def Dsk.bytes (d : Dsk) (s : ByteArray) : List Int := ((lk d.std.rw (d.find s)).getD []).flatten

set_option maxHeartbeats 1000000 in
theorem read_no {w : World} {L : Lb} {R : Nat} {o : Ob} {d : Dsk} {s : ByteArray} (h : Di w L R o d.dur d.std d.l) (hs : s.size ≤ 9223372036854775807) (h0 : d.find s = 0) :
    Calls Try.prog 13 #[.pointer (some ⟨R, 0, none⟩), .string s] w fun e w' => e = .returned (.tuple #[.slice none 0 0, .int .i64 70]) ∧ w' = w := by
  have hf := find_any h hs
  rw [show (lk d.std.nm s.data.toList).getD 0 = 0 from h0] at hf
  clear h
  go_enter Try.func13, Try.ntmps13
  go_wp2_with (go_at_call 45; refine hf.mono ?_; rintro e w1 ⟨rfl, hw1⟩; subst w1)
  go_ret2
  exact ⟨rfl, rfl⟩

set_option maxHeartbeats 2000000 in
theorem read_yes {w : World} {L : Lb} {R : Nat} {o : Ob} {d : Dsk} {K : Nat} {s : ByteArray} (h : Di w L R o d.dur d.std d.l) (hsy : Says o d) (hm : Sm d.std K) (hs : s.size ≤ 9223372036854775807) (h0 : d.find s ≠ 0) (hdn : d.down = false) :
    Calls Try.prog 13 #[.pointer (some ⟨R, 0, none⟩), .string s] w fun e w' => ∃ v, e = .returned (.tuple #[v, .int .i64 0]) ∧ w'.ownsRow w.heap.size 5 1 v (d.bytes s).length (U (d.bytes s)) ∧ Below w.heap.size w w' := by
  have hf := find_any h hs
  obtain ⟨F, hF⟩ : ∃ F, F = d.find s := ⟨_, rfl⟩
  have hf6 := hm.fileOf s.data.toList
  rw [show (lk d.std.nm s.data.toList).getD 0 = F from hF.symm] at hf hf6
  rw [← hF] at h0
  rw [if_neg h0] at hf
  unfold Dsk.bytes
  rw [← hF]
  have c4 : w.cell? ⟨R, 4, none⟩ = some (.map (some o.sr)) := h.oj.c 4
  have c9 : w.cell? ⟨R, 9, none⟩ = some (.bool false) := by rw [h.oj.c 9, ← hdn, ← hsy.down]; rfl
  obtain ⟨v, hlook, hown, _⟩ := h.std.rw.find Try.underlying44 zero74 hf6
  have hrun := (hlook w rfl).1
  obtain ⟨r, hr⟩ : ∃ r, r = (lk d.std.rw F).getD [] := ⟨_, rfl⟩
  have hrl := hm.at F
  rw [← hr] at hown hrl ⊢
  obtain ⟨N, hN⟩ : ∃ N, Hid (N = r.length) := ⟨_, hide rfl⟩
  have hN2 : N ≤ 4096 := by rw [hN.out]; exact hrl.1
  rw [← hN.out] at hown
  obtain ⟨ad, cap, rfl⟩ := row_val hown
  have hcap : N ≤ cap ∧ cap ≤ 9223372036854775807 := by
    rcases hown.2 with ⟨h1, h2⟩ | ⟨g, c, cur, h1, _, _, hn, hc, _⟩
    · simp only [Value.slice.injEq] at h1; omega
    · simp only [Value.slice.injEq] at h1; unfold maxLen at hc; omega
  obtain ⟨hcap1, hcap2⟩ := hcap
  obtain ⟨i0, hi, hz0, hz1, hz2⟩ := info_parts info5
  obtain ⟨M, hM⟩ : ∃ M, M = madeCells (Value.int .u8 0).cells (((N : Int) * 64).toNat * i0.size) := ⟨_, rfl⟩
  have hMs : M.size = 64 * N := by rw [hM, size_madeCells, hz1]; simp; omega
  have hmk : (Instr.makeSlice (28 : TypeId) (.int .i64 0) (.int .i64 ((N : Int) * 64))).run Try.prog w = .ok (.slice (some ⟨w.heap.size, 0, none⟩) 0 (64 * N)) (w.alloc (.cells M 5)) := by
    have h := run_make (P := Try.prog) w (28 : TypeId) 5 i0 (.int .u8 0) Try.underlying28 hi hz0 .i64 .i64 0 ((N : Int) * 64) (by omega) (by omega) (by rw [hz2]; omega) (by omega)
    rw [← hM] at h
    have e : ((N : Int) * 64).toNat = 64 * N := by omega
    rw [e] at h
    simpa using h
  have hom : (w.alloc (.cells M 5)).ownsRow w.heap.size 5 1 (.slice (some ⟨w.heap.size, 0, none⟩) 0 (64 * N)) 0 [] := World.ownsRow_made w M (64 * N) (Nat.le_refl _) (by unfold maxLen; omega) (by omega)
  have HO := hide hown
  have HR := hide hrl
  have HOM := hide hom
  clear h hm hsy hlook hown hrl hr hF hM hMs hom
  go_enter Try.func13, Try.ntmps13
  go_wp2_with (go_at_call 45; refine hf.mono ?_; rintro e w1 ⟨rfl, hw1⟩; subst w1)
  go_loopw [9, 37] (fun bv iv wr => ∃ k : Nat, k ≤ N ∧ iv = .int .i64 k ∧ Hid (wr.ownsRow w.heap.size 5 1 bv (64 * k) (U (r.take k).flatten)) ∧ Below w.heap.size w wr) (fun _ iv _ => N - (intOf iv).toNat)
  case atStart => exact ⟨0, Nat.zero_le _, rfl, hide (by simpa [U] using HOM.out), (Below.refl _ w).alloc (Nat.le_refl _) _⟩
  case round =>
    obtain ⟨k, hk, rfl, ho, hb⟩ := hrel
    have hsz := hb.size
    by_cases hlt : k < N
    · obtain ⟨g, hg⟩ : ∃ g, ad = some ⟨g, 0, none⟩ := by
        rcases HO.out.2 with ⟨h1, h2⟩ | ⟨g, c, cur, h1, _⟩
        · omega
        · simp only [Value.slice.injEq] at h1
          exact ⟨g, h1.1⟩
      subst hg
      have hkr : k < r.length := by rw [← hN.out]; exact hlt
      have hx64 := (HR.out.2 r[k] (List.getElem_mem _)).1
      have hBk : Bs wr (some ⟨g, k * 64, none⟩) 64 64 r[k] := by
        refine ⟨hx64, Nat.le_refl _, by omega, (HR.out.2 r[k] (List.getElem_mem _)).2, (fun h => by cases h), fun _ => ⟨g, k * 64, rfl, fun i hi => ?_⟩⟩
        have hc := HO.out.cells (g := g) rfl (k * 64 + i) (.int .u8 (r[k].getD i 0)) (by
          have e1 : r.flatMap U = (r.take k).flatMap U ++ ((r.drop k).flatMap U) := by rw [← List.flatMap_append, List.take_append_drop]
          have e2 : ((r.take k).flatMap U).length = k * 64 := by
            rw [flat_U, U_length, flat_len (fun x hx => (HR.out.2 x (List.mem_of_mem_take hx)).1), List.length_take]
            omega
          rw [e1, List.getElem?_append_right (by omega), e2, Nat.add_sub_cancel_left, List.drop_eq_getElem_cons hkr, List.flatMap_cons, List.getElem?_append_left (by rw [U_length]; omega)]
          simp [U, List.getD, List.getElem?_eq_getElem (show i < r[k].length by omega)])
        rw [Addr.add_mid, Nat.zero_add] at hc
        rw [hb.cell (cell_lt hc)]
        exact hc
      have HBk := hide hBk
      obtain ⟨x, hx⟩ : ∃ x, Hid (x = r[k]) := ⟨_, hide rfl⟩
      rw [← hx.out] at HBk
      clear hBk
      go_wp2_with (at_builtin; refine wpList_append_val rfl (.tmp 40) (.tmp 44) (28 : TypeId) rfl w.heap.size 5 i0 Try.underlying28 hi hz0 hz1 hz2 _ (64 * k) _ rfl ho.out (some ⟨g, k * 64, none⟩) 64 64 x (by simp [Act.eval]) HBk.out (by omega) (by omega) ?_; intro v1 w2 hown1 hgrow1; have ho1 := hide hown1; clear hown1)
      go_roundw
      case rel =>
        refine ⟨k + 1, by omega, by simp, hide ?_, row_below hb ho.out hgrow1 hsz⟩
        have h := ho1.out
        rw [← U_append] at h
        have e : (r.take (k + 1)).flatten = (r.take k).flatten ++ x := by rw [hx.out, List.take_succ_eq_append_getElem hkr, List.flatten_append, List.flatten_singleton]
        rw [e]
        exact h
      case measure => simp [intOf]; omega
    · obtain rfl : k = N := by omega
      go_wp2_with fail
      go_ret2
      have e : r.take k = r := List.take_of_length_le (by rw [← hN.out]; exact Nat.le_refl _)
      have e2 : r.flatten.length = 64 * k := by rw [flat_len (fun x hx => (HR.out.2 x hx).1), ← hN.out]
      refine ⟨_, rfl, ?_, hb⟩
      rw [e2]
      have h := ho.out
      rw [e] at h
      exact h

end Go.Proofs.Ytikhgjnjlkaobaa

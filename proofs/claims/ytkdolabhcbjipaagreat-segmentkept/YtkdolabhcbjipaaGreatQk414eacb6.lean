/-
  What is put on a disk of a clean file, from a place on.
-/
import Derived.Test.YtkdolabhcbjipaaGreatQk89cd1639
import Derived.Test.YtkdolabhcbjipaaGreatMx2ce8f3e7
namespace Go.Proofs.YtkdolabhcbjipaaGreat
open Go.RowKit Go.Shelf
set_option maxRecDepth 100000
set_option linter.unusedVariables false

attribute [local go_sem] Oper.semAt_some

/-- Sectors are put, one behind the other; the first error ends it. -/
def Dsk.sputs (s : ByteArray) (zs : List Int) : List Nat → Dsk → Int × Dsk
  | [], d => (0, d)
  | i :: is, d => if (d.put s (i : Int) 64 (sec zs i)).1 = 0 then Dsk.sputs s zs is (d.put s (i : Int) 64 (sec zs i)).2 else d.put s (i : Int) 64 (sec zs i)

theorem sputs_app (s : ByteArray) (zs : List Int) : ∀ (l m : List Nat) (d : Dsk), Dsk.sputs s zs (l ++ m) d = if (Dsk.sputs s zs l d).1 = 0 then Dsk.sputs s zs m (Dsk.sputs s zs l d).2 else Dsk.sputs s zs l d
  | [], m, d => by simp [Dsk.sputs]
  | i :: l, m, d => by
    have e : ∀ l, Dsk.sputs s zs (i :: l) d = if (d.put s (i : Int) 64 (sec zs i)).1 = 0 then Dsk.sputs s zs l (d.put s (i : Int) 64 (sec zs i)).2 else d.put s (i : Int) 64 (sec zs i) := fun _ => rfl
    rw [List.cons_append, e, e]
    by_cases h : (d.put s (i : Int) 64 (sec zs i)).1 = 0
    · rw [if_pos h, if_pos h]
      exact sputs_app s zs l m _
    · rw [if_neg h, if_neg h, if_neg h]

/-- What the program's put does to a disk. -/
def Dsk.sput (d : Dsk) (s : ByteArray) (zs : List Int) (from' : Nat) : Int × Dsk := Dsk.sputs s zs (List.range' from' (nsec zs.length - from')) d

theorem sputs_bw {s : ByteArray} {zs : List Int} (hb : ∀ z ∈ zs, 0 ≤ z ∧ z ≤ 255) : ∀ (l : List Nat) (d : Dsk) (K : Nat), Bw d K → K + 3 * l.length < 800000 → Bw (Dsk.sputs s zs l d).2 (K + 3 * l.length)
  | [], d, K, h, _ => h
  | i :: l, d, K, h, hK => by
    have h1 := h.put (s := s) (at' := (i : Int)) (by simp only [List.length_cons] at hK; omega) (sec_length zs i) (sec_byte hb i)
    unfold Dsk.sputs
    simp only [List.length_cons] at hK ⊢
    split
    · exact (sputs_bw hb l _ _ h1 (by omega)).wide (by omega)
    · exact h1.wide (by omega)

set_option maxHeartbeats 1000000 in
theorem sectorsOf_in (F : Fence) (n : Nat) (h90 : F.fn 52) (hro : F.round = none) (v : Value) (i : Int) (w : World) (a : Option Addr) (m cap : Nat) (hv : v = .slice a m cap) :
    CallsIn F n Tryz.prog 52 #[v, .int .i64 i] w fun e w' => e = .returned (.func (.func 77) #[] #[.pointer (some ⟨w.heap.size + 1, 0, none⟩), .pointer (some ⟨w.heap.size, 0, none⟩)]) ∧ w' = (w.alloc (.cells #[v] 30)).alloc (.cells #[.int .i64 i] 3) := by
  subst hv
  refine callsIn_of_wp Tryz.func52 rfl h90 ?_ hro
  simp only [Tryz.ntmps52, List.size_toArray, List.length_cons, List.length_nil, Nat.reduceAdd, Nat.reduceSub, Array.replicate_succ, Array.replicate_zero, List.push_toArray, List.append_toArray, List.nil_append, List.cons_append]
  gi_wp2
  go_ret
  exact ⟨rfl, rfl⟩

/-- The iterator's contract. -/
theorem sectors_hands (F : Fence) (n : Nat) (h121 : F.fn 77) (h51 : F.fn 35) (hro : F.round = none) (hn : 2 ≤ n) (Bf Bx n0 : Nat) (a : Option Addr) (m cap : Nat) (zs : List Int) (from' : Nat) (S : Nat → Prop) (hSx : S Bx) (hSa : ∀ b off, 0 < m → a = some ⟨b, off, none⟩ → S b)
    (hm : m ≤ 1000000000000) (hf : from' ≤ 1000000000000) (w : World) (hn0 : n0 ≤ w.heap.size) (hBf : w.cell? ⟨Bf, 0, none⟩ = some (.int .i64 (from' : Int))) (hBx : w.cell? ⟨Bx, 0, none⟩ = some (.slice a m cap)) (hB : Bs w a m cap zs) :
    Hands F n Tryz.prog 77 #[.pointer (some ⟨Bf, 0, none⟩), .pointer (some ⟨Bx, 0, none⟩)] plEnc (Nx zs from' n0) (Ks S) (fun ys => ys.length = nsec m - from') w := fun l J Jx W hW hJ hY h0 =>
  sectors1_in F n h121 h51 hro hn l Bf Bx n0 a m cap zs from' S hSx hSa hm hf J Jx W hJ (Nat.le_trans hn0 hW.size) hY ((hW.cell (p := ⟨Bf, 0, none⟩) (cell_lt hBf)).trans hBf) ((hW.cell (p := ⟨Bx, 0, none⟩) (cell_lt hBx)).trans hBx) (hB.keep hW) h0

theorem no_own (β : Type) {P : Nat → Prop} {B : Nat} {W1 : World} (hP : ∀ g, P g → g < B) : OwnFrom B (fun (_ : β) V => No P W1 V) := by
  rintro s A C row h hg hr
  exact Tb.trans h (Tb.of_grown (S := fun g => row = some g) hg (fun k e => e)) (fun i hi e hp => by have := (hr i e).1; have := hP i hp; omega)

set_option maxHeartbeats 4000000 in
theorem put_on {w W : World} {P : Nat → Prop} {R : Nat} {d : Dsk} {K : Nat} {s : ByteArray} {a : Option Addr} {m cap : Nat} {zs : List Int} {from' : Nat} (h : Ay w P R d W) (hz : Bw d K) (hK : K + 3 * nsec m < 800000) (hs : s.size ≤ 9223372036854775807) (hB : Bs W a m cap zs) (hP : ∀ b off, 0 < m → a = some ⟨b, off, none⟩ → P b) (hm : m ≤ 1000000000) (hf : from' ≤ 1000000000) :
    Calls Tryz.prog 36 #[.pointer (some ⟨R, 0, none⟩), .string s, .slice a m cap, .int .i64 (from' : Int)] W fun e W' => e = .returned (.int .i64 (d.sput s zs from').1) ∧ Ay w P R (d.sput s zs from').2 W' ∧ No P W W' := by
  refine (callsIn_wide (n := 4)).1 ?_
  have hby := hB.byte
  have hlen := hB.len
  have hwW := h.tb.size
  refine callsIn_of_wp_marks Tryz.func36 rfl trivial ?_ rfl
  simp only [Tryz.ntmps36, List.size_toArray, List.length_cons, List.length_nil, Nat.reduceAdd, Nat.reduceSub, Array.replicate_succ, Array.replicate_zero, List.push_toArray, List.append_toArray, List.nil_append, List.cons_append]
  gi_wp2_with (refine ⟨trivial, ?_⟩; gi_at_call 52; refine (sectorsOf_in Fence.wide 3 trivial rfl _ _ _ a m cap rfl).mono ?_; rintro e w' ⟨rfl, rfl⟩)
  obtain ⟨W1, hW1⟩ : ∃ W1, W1 = ((((W.alloc (.cells #[.pointer (some ⟨R, 0, none⟩)] 22)).alloc (.cells #[.string s] 9)).alloc (.cells #[.int .i64 0] 25)).alloc (.cells #[.slice a m cap] 30)).alloc (.cells #[.int .i64 (from' : Int)] 3) := ⟨_, rfl⟩
  rw [← hW1]
  have sz1 : W.heap.size + 5 ≤ W1.heap.size := by rw [hW1]; simp
  have sz2 : W1.heap.size ≤ W.heap.size + 5 := by rw [hW1]; simp
  have hBl : Below W.heap.size W W1 := by
    rw [hW1]
    exact (((((Below.refl _ W).alloc (Nat.le_refl _) _).alloc (by simp) _).alloc (by simp; omega) _).alloc (by simp; omega) _).alloc (by simp; omega) _
  have bD : Boxed W1 W.heap.size 22 (.pointer (some ⟨R, 0, none⟩)) := by rw [hW1]; exact ((((Boxed.new W _ _).alloc _).alloc _).alloc _).alloc _
  have bN : Boxed W1 (W.heap.size + 1) 9 (.string s) := by rw [hW1]; have := Boxed.new (W.alloc (.cells #[.pointer (some ⟨R, 0, none⟩)] 22)) 9 (.string s); rw [World.size_alloc] at this; exact ((this.alloc _).alloc _).alloc _
  have bR : Boxed W1 (W.heap.size + 1 + 1) 25 (.int .i64 0) := by rw [hW1]; have := Boxed.new ((W.alloc (.cells #[.pointer (some ⟨R, 0, none⟩)] 22)).alloc (.cells #[.string s] 9)) 25 (.int .i64 0); rw [World.size_alloc, World.size_alloc] at this; exact (this.alloc _).alloc _
  have bX : Boxed W1 (W.heap.size + 1 + 1 + 1) 30 (.slice a m cap) := by rw [hW1]; have := Boxed.new (((W.alloc (.cells #[.pointer (some ⟨R, 0, none⟩)] 22)).alloc (.cells #[.string s] 9)).alloc (.cells #[.int .i64 0] 25)) 30 (.slice a m cap); rw [World.size_alloc, World.size_alloc, World.size_alloc] at this; exact this.alloc _
  have bF : Boxed W1 (W.heap.size + 1 + 1 + 1 + 1) 3 (.int .i64 (from' : Int)) := by rw [hW1]; have := Boxed.new ((((W.alloc (.cells #[.pointer (some ⟨R, 0, none⟩)] 22)).alloc (.cells #[.string s] 9)).alloc (.cells #[.int .i64 0] 25)).alloc (.cells #[.slice a m cap] 30)) 3 (.int .i64 (from' : Int)); rw [World.size_alloc, World.size_alloc, World.size_alloc, World.size_alloc] at this; exact this
  clear hW1
  obtain ⟨P1, hP1⟩ : ∃ P1 : Nat → Prop, P1 = fun g => P g ∨ (W.heap.size ≤ g ∧ g < W1.heap.size) := ⟨_, rfl⟩
  have hA0 : Am w P1 W1.heap.size R d W1 := by rw [hP1]; exact (h.new (Tb.of_fresh hBl)).am
  have p1n : ∀ g, W.heap.size ≤ g → g < W1.heap.size → P1 g := fun g h1 h2 => by rw [hP1]; exact .inr ⟨h1, h2⟩
  have p1o : ∀ g, P g → P1 g := fun g h1 => by rw [hP1]; exact .inl h1
  have pD : P1 W.heap.size := p1n _ (Nat.le_refl _) (by omega)
  have pN : P1 (W.heap.size + 1) := p1n _ (by omega) (by omega)
  have pR : P1 (W.heap.size + 1 + 1) := p1n _ (by omega) (by omega)
  have p1l : ∀ g, P1 g → g < W1.heap.size := hA0.ay.lt
  have hPlt : ∀ g, P g → g < W.heap.size := h.lt
  have hN0 : No P W W1 := No.of (Tb.of_fresh hBl)
  have hB1 := hB.keep hBl
  clear hP1
  refine wpIn_hands rfl (by omega) (gf := 77) (lb := #[.pointer (some ⟨W.heap.size + 1 + 1 + 1 + 1, 0, none⟩), .pointer (some ⟨W.heap.size + 1 + 1 + 1, 0, none⟩)]) rfl trivial (enters_of Tryz.func77 (by kernel_rfl) rfl)
    (sectors_hands Fence.wide (4 - 1) trivial trivial rfl (by omega) (W.heap.size + 1 + 1 + 1 + 1) (W.heap.size + 1 + 1 + 1) W1.heap.size a m cap zs from' P1 (p1n _ (by omega) (by omega)) (fun b off h0 e => p1o b (hP b off h0 e)) (by omega) (by omega) W1 (Nat.le_refl _) bF.cell bX.cell hB1) (Below.refl _ _)
    Ks.trans (ksK_b p1l) (fun _ => rfl) (fun pre x => nx_own zs from' _ pre x _)
    (fun pre V => (Am w P1 W1.heap.size R (Dsk.sputs s zs (List.range' from' pre.length) d).2 V ∧ ((Dsk.sputs s zs (List.range' from' pre.length) d).1 = 0 ∧ pre.length ≤ nsec m - from')) ∧ No P1 W1 V)
    (fun pre V => (Am w P1 W1.heap.size R (Dsk.sputs s zs (List.range' from' pre.length) d).2 V ∧ ((Dsk.sputs s zs (List.range' from' pre.length) d).1 ≠ 0 ∧ pre.length ≤ nsec m - from')) ∧ No P W1 V ∧ V.cell? ⟨W.heap.size + 1 + 1, 0, none⟩ = some (.int .i64 (Dsk.sputs s zs (List.range' from' pre.length) d).1))
    (OwnFrom.and (am_own (List Pl) (by have := hBl.size; omega) _ _) (no_own (List Pl) p1l))
    (OwnFrom.and (am_own (List Pl) (by have := hBl.size; omega) _ _) (OwnFrom.and (no_own (List Pl) (fun g hg => p1l g (p1o g hg))) (fun _ _ _ _ hs hg hr => cell_kept hs hg (fun r e => (hr r e).2))))
    ⟨⟨hA0, rfl, Nat.zero_le _⟩, No.refl⟩
    (fun x => { tmps := #[.pointer (some ⟨R, 0, none⟩), .string s, .slice a m cap, .int .i64 (from' : Int), .pointer (some ⟨W.heap.size, 0, none⟩), .pointer (some ⟨W.heap.size + 1, 0, none⟩), undef, undef, .pointer (some ⟨W.heap.size + 1 + 1, 0, none⟩), .int .i64 (x.1 : Int), .slice (some ⟨x.2, 0, none⟩) 64 64, undef, .slice a m cap, .int .i64 (from' : Int), .func (.func 77) #[] #[.pointer (some ⟨W.heap.size + 1 + 1 + 1 + 1, 0, none⟩), .pointer (some ⟨W.heap.size + 1 + 1 + 1, 0, none⟩)], .int .i64 (x.1 : Int), .slice (some ⟨x.2, 0, none⟩) 64 64, undef, undef, undef, undef, undef, undef, undef, undef], defers := [] }) ?assign ?body ?done ?stop
  case assign =>
    intro l x V K hK
    simp only [plEnc]
    gi_wp2
    exact hK
  case body =>
    rintro l pre ⟨x1, x2⟩ V ⟨⟨hA, h0, hpl⟩, hN⟩ ⟨q1, q2, q3, q4⟩
    simp only at q1 q2 q3 q4
    have cD := (Ks.no hN (S := P1) (fun k hk _ => hk)).cell bD.cell pD
    have cN := (Ks.no hN (S := P1) (fun k hk _ => hk)).cell bN.cell pN
    have cR := (Ks.no hN (S := P1) (fun k hk _ => hk)).cell bR.cell pR
    have fR : V.frozen? ⟨W.heap.size + 1 + 1, 0, none⟩ = false := (World.frozen?_of_block (Tb.block hN _ (cell_lt bR.cell) (fun hn => hn pR))).trans bR.frozen
    obtain ⟨dk, hdk⟩ : ∃ dk, Hid (dk = (Dsk.sputs s zs (List.range' from' pre.length) d).2) := ⟨_, hide rfl⟩
    have hbw : Bw dk (K + 3 * pre.length) := by
      rw [hdk.out]
      have := sputs_bw (s := s) hby (List.range' from' pre.length) d K hz (by rw [List.length_range']; omega)
      rwa [List.length_range'] at this
    rw [← hdk.out] at hA
    obtain ⟨r, hr⟩ : ∃ r, Hid (r = dk.put s (x1 : Int) 64 (sec zs x1)) := ⟨_, hide rfl⟩
    have hrow : V.ownsRow 0 5 1 (.slice (some ⟨x2, 0, none⟩) 64 64) 64 (U (sec zs x1)) := own_of_row 0 (Nat.zero_le _) q4 (by rw [U_length, sec_length]) (sec_length zs x1) (Nat.le_refl _) (by omega) (List.take_of_length_le (by rw [U_length, sec_length]; exact Nat.le_refl _))
    have hA2 : Am w (fun g => P1 g ∨ g = x2) W1.heap.size R dk V := hA.more (fun g e => ⟨(U (sec zs x1)).toArray, (0, 0), by rw [e]; exact q4⟩)
    have CP := am_put (s := s) (at' := (x1 : Int)) hA2 hbw.std (by omega) (by have := hbw.last; omega) (by have := hbw.made; omega) hbw.pos hs (own_bs hrow (sec_byte hby x1)) (.inr rfl)
    rw [← hr.out] at CP
    have hsn : Hid (Dsk.sputs s zs (List.range' from' (pre.length + 1)) d = r) := hide (by
      have e1 : List.range' from' (pre.length + 1) = List.range' from' pre.length ++ [x1] := by
        rw [List.range'_1_concat, q1]
      rw [e1, sputs_app, if_pos h0, ← hdk.out]
      have e2 : Dsk.sputs s zs [x1] dk = if (dk.put s (x1 : Int) 64 (sec zs x1)).1 = 0 then (0, (dk.put s (x1 : Int) 64 (sec zs x1)).2) else dk.put s (x1 : Int) 64 (sec zs x1) := rfl
      rw [e2, ← hr.out]
      split
      · rename_i e3
        rw [← e3]
      · rfl)
    have hlen2 : pre.length + 1 ≤ nsec m - from' := by rw [hlen] at q2; omega
    have GO : Hid (∀ V2 : World, Am w (fun g => P1 g ∨ g = x2) W1.heap.size R r.2 V2 → No (fun g => P1 g ∨ g = x2) V V2 → Am w P1 W1.heap.size R r.2 V2 ∧ No P1 V V2 ∧ No P1 W1 V2) := hide (fun V2 a1 a2 => by
      have n1 := a2.less (Q := P1) (fun g hg => .inl hg)
      exact ⟨a1.less (fun g hg => .inl hg) hA.ay.old, n1, hN.trans n1⟩)
    clear hA hA2 hrow hbw q4 q1
    by_cases hE : r.1 = 0
    · rw [hE] at CP
      gi_wp2_with (refine ⟨trivial, ?_⟩; gi_at_call 46; refine (CallsIn.inRound l (callsIn_wide.2 CP)).mono ?_; rintro e V2 ⟨rfl, hA3, hN3, hk3⟩)
      obtain ⟨g1, g2, g3⟩ := GO.out _ hA3 hN3
      refine ⟨Ks.no g2 (fun k hk _ => hk), ⟨?_, ?_⟩, g3⟩
      · rw [hsn.out]; exact g1
      · rw [hsn.out]; exact hE
    · have e9 : (r.1 == 0) = false := by simpa using hE
      gi_wp2_with (refine ⟨trivial, ?_⟩; gi_at_call 46; refine (CallsIn.inRound l (callsIn_wide.2 CP)).mono ?_; rintro e V2 ⟨rfl, hA3, hN3, hk3⟩; obtain ⟨g1, g2, g3⟩ := GO.out _ hA3 hN3; have cR2 := (Ks.no g2 (S := P1) (fun k hk _ => hk)).cell cR pR; have fR2 : V2.frozen? ⟨W.heap.size + 1 + 1, 0, none⟩ = false := (World.frozen?_of_block (Tb.block g2 _ (cell_lt cR) (fun hn => hn pR))).trans fR)
      have hP2 : ¬ P (W.heap.size + 1 + 1) := fun hp => by have := hPlt _ hp; omega
      have hst : Tb (fun k => k = W.heap.size + 1 + 1) V2 (V2.setCell ⟨W.heap.size + 1 + 1, 0, none⟩ (.int .i64 r.1)) := Tb.set (S := fun k => k = W.heap.size + 1 + 1) _ 0 _ rfl
      refine ⟨hk3.trans ((KeepsOthers.setCell _ _ _).from _), ⟨?_, ?_⟩, ?_, ?_⟩
      · rw [hsn.out]
        exact (g1.on (hst.mono (fun k _ e => by rw [e]; exact ⟨pR, by omega⟩))).less (fun g hg => .inl hg) g1.ay.old
      · rw [hsn.out]; exact hE
      · exact (g3.less p1o).trans (hst.mono (fun k _ e hp => by rw [e] at hp; exact hP2 hp))
      · rw [hsn.out]
  case done =>
    rintro D ys V hD hS ⟨⟨hA, h0, hpl⟩, hN⟩ hK
    have cR := (Ks.no hN (S := P1) (fun k hk _ => hk)).cell bR.cell pR
    have fR : V.frozen? ⟨W.heap.size + 1 + 1, 0, none⟩ = false := (World.frozen?_of_block (Tb.block hN _ (cell_lt bR.cell) (fun hn => hn pR))).trans bR.frozen
    have hsd : d.sput s zs from' = Dsk.sputs s zs (List.range' from' ys.length) d := by unfold Dsk.sput; rw [hS, hlen]
    obtain ⟨r, hr⟩ : ∃ r, Hid (r = Dsk.sputs s zs (List.range' from' ys.length) d) := ⟨_, hide rfl⟩
    rw [← hr.out] at hA h0 hsd
    have HSD := hide hsd
    have H0 := hide h0
    clear hsd h0
    have hP2 : ¬ P (W.heap.size + 1 + 1) := fun hp => by have := hPlt _ hp; omega
    have hst : Tb (fun k => k = W.heap.size + 1 + 1) V (V.setCell ⟨W.heap.size + 1 + 1, 0, none⟩ (.int .i64 0)) := Tb.set (S := fun k => k = W.heap.size + 1 + 1) _ 0 _ rfl
    have hA2 : Am w P1 W1.heap.size R r.2 (V.setCell ⟨W.heap.size + 1 + 1, 0, none⟩ (.int .i64 0)) := (hA.on (hst.mono (fun k _ e => by rw [e]; exact ⟨pR, by omega⟩))).less (fun g hg => .inl hg) hA.ay.old
    have hN2 : No P W1 (V.setCell ⟨W.heap.size + 1 + 1, 0, none⟩ (.int .i64 0)) := (hN.less p1o).trans (hst.mono (fun k _ e hp => by rw [e] at hp; exact hP2 hp))
    have hK' := (KeepsOthers.setCell V ⟨W.heap.size + 1 + 1, 0, none⟩ (.int .i64 0)).same D _ hK rfl
    have hc5 := cell_kept (World.cell?_setCell_same' V ⟨W.heap.size + 1 + 1, 0, none⟩ (.int .i64 0) (by rw [cR]; rfl)) (grownBy_putObj' _ D (.deferred none)) (fun r e => by cases e; exact ⟨_, hK', rfl⟩)
    have hFin := ((am_own (w := w) (P := P1) (R := R) (B := W1.heap.size) Unit (by have := hBl.size; omega) (fun _ => r.2) (fun _ => True)).putObj (s := ()) (.deferred none) ⟨hA2, trivial⟩ hD hK' rfl).1
    have hFn := (no_own (P := P) (B := W1.heap.size) (W1 := W1) Unit (fun g hg => p1l g (p1o g hg))).putObj (s := ()) (.deferred none) hN2 hD hK' rfl
    have F1 := hide hFin
    have F2 := hide hFn
    clear hFin hFn hA hA2 hN hN2
    gi_wp2
    refine ⟨by simp, .inl ⟨_, _, rfl, run_takeDeferred hK', ?_⟩⟩
    refine ⟨.int .i64 0, by simp [results, Tryz.results36, go_sem, hc5], by rw [HSD.out, H0.out], by rw [HSD.out]; exact F1.out.ay.less p1o h.old, hN0.trans F2.out⟩
  case stop =>
    rintro D pre V hD ⟨⟨hA, h0, hpl⟩, hN, hc⟩ hK
    have hsd : d.sput s zs from' = Dsk.sputs s zs (List.range' from' pre.length) d := by
      unfold Dsk.sput
      rw [hlen, show nsec m - from' = pre.length + (nsec m - from' - pre.length) from by omega, ← List.range'_append_1, sputs_app, if_neg h0]
    obtain ⟨r, hr⟩ : ∃ r, Hid (r = Dsk.sputs s zs (List.range' from' pre.length) d) := ⟨_, hide rfl⟩
    rw [← hr.out] at hA h0 hsd hc
    have HSD := hide hsd
    clear hsd
    have hc5 := cell_kept hc (grownBy_putObj' _ D (.deferred none)) (fun r e => by cases e; exact ⟨_, hK, rfl⟩)
    have hFin := ((am_own (w := w) (P := P1) (R := R) (B := W1.heap.size) Unit (by have := hBl.size; omega) (fun _ => r.2) (fun _ => True)).putObj (s := ()) (.deferred none) ⟨hA, trivial⟩ hD hK rfl).1
    have hFn := (no_own (P := P) (B := W1.heap.size) (W1 := W1) Unit (fun g hg => p1l g (p1o g hg))).putObj (s := ()) (.deferred none) hN hD hK rfl
    have F1 := hide hFin
    have F2 := hide hFn
    clear hFin hFn hA hN
    gi_wp2
    refine ⟨by simp, .inl ⟨_, _, rfl, run_takeDeferred hK, ?_⟩⟩
    refine ⟨.int .i64 r.1, by simp [results, Tryz.results36, go_sem, hc5], by rw [HSD.out], by rw [HSD.out]; exact F1.out.ay.less p1o h.old, hN0.trans F2.out⟩

end Go.Proofs.YtkdolabhcbjipaaGreat

/-
  Texts put into one.
-/
import Derived.Test.YtnimfkcnkkjlkaaGreatRows
import Derived.Test.YtnimfkcnkkjlkaaGreatPkd34955bc
import Derived.Test.YtnimfkcnkkjlkaaGreatPk0edc409f

/-
  Slices of bytes: rows written out, heads, what stays; the layout of bytes in the program.
-/
namespace Go.Proofs.YtnimfkcnkkjlkaaGreat
open Go.RowKit
set_option maxRecDepth 100000

theorem info5 : (Tryz.prog.info? 5).map (fun i => (i.zero, i.size, i.bytes)) = some (some (.int .u8 0), 1, 1) := by kernel_rfl
theorem size5 : (Tryz.prog.info? 5).map (·.size) = some 1 := by kernel_rfl

/-- A row of bytes written out, as a slice. -/
theorem Bs.lit (w : World) (l : List Int) (n : Nat) (hn : l.length = n) (h2 : n ≤ 1000) (hb : ∀ z ∈ l, 0 ≤ z ∧ z ≤ 255) : Bs (w.alloc (.cells (U l).toArray 5)) (some ⟨w.heap.size, 0, none⟩) n n l :=
  Bs.own (cur := U l) (heap_alloc_new w _) (by rw [U_length, hn]) hn (Nat.le_refl _) (by omega) hb (by rw [List.take_of_length_le (by rw [U_length, hn]; exact Nat.le_refl _)]; rfl)

theorem Bs.alloc {w : World} {a : Option Addr} {n cap : Nat} {zs : List Int} (h : Bs w a n cap zs) (o : Obj) : Bs (w.alloc o) a n cap zs := h.keep ((Below.refl _ _).alloc (Nat.le_refl _) o)

theorem row_lit (w : World) (g : Nat) (hg : w.heap.size = g) (l : List Int) (n : Nat) (hn : l.length = n) (h2 : n ≤ 1000) (hb : ∀ z ∈ l, 0 ≤ z ∧ z ≤ 255) : Bs (w.alloc (.cells (U l).toArray 5)) (some ⟨g, 0, none⟩) n n l := by
  subst hg
  exact Bs.own (cur := U l) (heap_alloc_new w _) (by rw [U_length, hn]) hn (Nat.le_refl _) (by omega) hb (by rw [List.take_of_length_le (by rw [U_length, hn]; exact Nat.le_refl _)]; rfl)

theorem Bs.head {w : World} {a : Option Addr} {n cap : Nat} {zs : List Int} (hB : Bs w a n cap zs) (m : Nat) (hm : m ≤ n) : Bs w a m cap (zs.take m) := by
  have hl := hB.len
  have hle := hB.le
  refine ⟨by simp; omega, by omega, hB.reach, take_byte hB.byte _, hB.bare, fun h => ?_⟩
  obtain ⟨b, off, ha, hc⟩ := hB.lies (by omega)
  refine ⟨b, off, ha, fun i hi => ?_⟩
  rw [hc i (by omega)]
  simp [List.getD, hi]

theorem str_beq {xs ys : List Int} (hx : ∀ z ∈ xs, 0 ≤ z ∧ z ≤ 255) (hy : ∀ z ∈ ys, 0 ≤ z ∧ z ≤ 255) : ((strOfNums xs).toList == (strOfNums ys).toList) = decide (xs = ys) := by
  have e : ∀ l : List Int, (strOfNums l).toList = l.map (fun n => UInt8.ofNat n.toNat) := fun l => by rw [ByteArray.toList_eq, strOfNums_data]
  rw [e, e, Bool.eq_iff_iff]
  simp only [beq_iff_eq, decide_eq_true_eq]
  exact ⟨strOf_inj hx hy, fun h => by rw [h]⟩

end Go.Proofs.YtnimfkcnkkjlkaaGreat

/-
  What 'SameBytes' does, for any two slices of bytes.
-/
namespace Go.Proofs.YtnimfkcnkkjlkaaGreat
open Go.RowKit
set_option maxRecDepth 100000

set_option maxHeartbeats 400000 in
theorem same_any (a c : Option Addr) (n cap m dap : Nat) (xs ys : List Int) (w : World) (hB : Bs w a n cap xs) (hC : Bs w c m dap ys) :
    Calls Tryz.prog 11 #[.slice a n cap, .slice c m dap] w fun e w' => e = .returned (.bool (decide (xs = ys))) ∧ w' = w := by
  have k1 : (convert 32 9 (.slice a n cap)).run Tryz.prog w = .ok (.string (strOfNums xs)) w := run_str 32 5 Tryz.underlying32 Tryz.underlying5 hB 9 Tryz.underlying9
  have k2 : (convert 32 9 (.slice c m dap)).run Tryz.prog w = .ok (.string (strOfNums ys)) w := run_str 32 5 Tryz.underlying32 Tryz.underlying5 hC 9 Tryz.underlying9
  go_enter Tryz.func11, Tryz.ntmps11
  go_wp2
  go_ret
  exact ⟨congrArg (fun x => Ending.returned (.bool x)) (str_beq hB.byte hC.byte), rfl⟩

theorem same_true {w : World} {a c : Option Addr} {n cap m dap : Nat} {xs ys : List Int} (h : xs = ys) (h1 : Bs w a n cap xs) (h2 : Bs w c m dap ys) :
    Calls Tryz.prog 11 #[.slice a n cap, .slice c m dap] w fun e w' => e = .returned (.bool true) ∧ w' = w := by
  subst h
  have h := same_any a c n cap m dap xs xs w h1 h2
  rw [decide_eq_true rfl] at h
  exact h

end Go.Proofs.YtnimfkcnkkjlkaaGreat

/-
  What 'CopyBytes' does, for any slice of bytes.
-/
namespace Go.Proofs.YtnimfkcnkkjlkaaGreat
open Go.RowKit
set_option maxRecDepth 100000

set_option maxHeartbeats 400000 in
theorem copy_any (a : Option Addr) (n cap : Nat) (zs : List Int) (w : World) (hB : Bs w a n cap zs) (hn : n ≤ 140737488355328) :
    Calls Tryz.prog 49 #[.slice a n cap] w fun e w' => ∃ c d, e = .returned (.slice c n d) ∧ w'.ownsRow w.heap.size 5 1 (.slice c n d) n (U zs) ∧ Below w.heap.size w w' := by
  obtain ⟨i0, hi, hz0, hz1, hz2⟩ := info_parts info5
  by_cases h0 : n = 0
  · subst h0
    have hz : zs = [] := List.eq_nil_of_length_eq_zero hB.len
    subst hz
    go_enter Tryz.func49, Tryz.ntmps49
    go_wp2_with (at_builtin; refine wpList_append_zero rfl (.tmp 4) (.tmp 5) 32 rfl 5 i0 Tryz.underlying32 hi rfl _ _ rfl ?_)
    go_ret
    exact ⟨_, _, rfl, World.ownsRow_nil _ _ _ _, Below.refl _ _⟩
  · go_enter Tryz.func49, Tryz.ntmps49
    go_wp2_with (at_builtin; refine wpList_append_bs rfl (.tmp 4) (.tmp 5) 32 rfl w.heap.size 5 i0 Tryz.underlying32 hi hz0 hz1 hz2 (.slice none 0 0) 0 [] rfl (World.ownsRow_nil _ _ _ _) _ _ _ zs rfl hB (by omega) (by omega) (Nat.le_refl _) ?_; intro g c w1 hown hgrow; simp only [Nat.zero_add, List.nil_append] at hown; rw [Nat.zero_add])
    go_ret
    exact ⟨_, _, rfl, hown, (Below.refl _ _).grown hgrow (Nat.le_refl _) (fun k hk => by cases hk)⟩

end Go.Proofs.YtnimfkcnkkjlkaaGreat

/-
  What the lending of bytes, and the look whether they were kept, do.
-/
namespace Go.Proofs.YtnimfkcnkkjlkaaGreat
open Go.RowKit
set_option maxRecDepth 100000

set_option maxHeartbeats 400000 in
theorem lent_any (a : Option Addr) (n cap : Nat) (zs : List Int) (w : World) (hB : Bs w a n cap zs) (hn : n + 3 ≤ 140737488355328) :
    Calls Tryz.prog 13 #[.slice a n cap] w fun e w' => ∃ g d, e = .returned (.slice (some ⟨g, 0, none⟩) n d) ∧ Bs w' (some ⟨g, 0, none⟩) (n + 3) d (zs ++ [77, 78, 79]) ∧ Below w.heap.size w w' := by
  obtain ⟨i0, hi, hz0, hz1, hz2⟩ := info_parts info5
  have hby : ∀ z ∈ zs ++ [77, 78, 79], 0 ≤ z ∧ z ≤ 255 := by
    intro z hz
    rcases List.mem_append.1 hz with h | h
    · exact hB.byte z h
    · simp only [List.mem_cons, List.not_mem_nil, or_false] at h; omega
  go_enter Tryz.func13, Tryz.ntmps13
  go_wp2_with fail
  refine (copy_any _ _ _ zs _ hB (by omega)).mono ?_
  rintro e w1 ⟨c, d, rfl, hown, hb⟩
  go_wp2_with (at_builtin; refine wpList_append_bs rfl (.tmp 5) (.tmp 6) 32 rfl w.heap.size 5 i0 Tryz.underlying32 hi hz0 hz1 hz2 (.slice c n d) n (U zs) rfl (hown.alloc _) _ _ _ [77, 78, 79] rfl (row_lit w1 _ rfl [77, 78, 79] 3 rfl (by decide) (by decide)) (by omega) (by omega) (by have := hb.size; simp; omega) ?_; intro g cc w2 hown2 hgrow; rw [← U_append] at hown2; have hB2 := own_bs hown2 hby; have hcc := hB2.le; have hcm := hB2.reach)
  go_ret
  refine ⟨g, cc, rfl, hB2, (hb.alloc hb.size _).grown hgrow (by have := hb.size; simp; omega) ?_⟩
  intro k hk
  exact (hown.lt k hk).1

set_option maxHeartbeats 400000 in
theorem kept_any (g n d : Nat) (a : Option Addr) (cap : Nat) (zs : List Int) (w : World) (hB : Bs w (some ⟨g, 0, none⟩) (n + 3) d (zs ++ [77, 78, 79])) (hA : Bs w a n cap zs) :
    Calls Tryz.prog 29 #[.slice (some ⟨g, 0, none⟩) n d, .slice a n cap] w fun e w' => e = .returned (.bool true) ∧ w' = w := by
  have hd := hB.le
  have hr := hB.reach
  have hl := hA.len
  have hh := hB.head n (by omega)
  rw [List.take_left' hl] at hh
  have hs := same_any _ _ _ _ _ _ _ _ w hh hA
  rw [decide_eq_true rfl] at hs
  have HS := hide hs
  obtain ⟨b, off, hb, hc⟩ := hB.lies (by omega)
  simp only [Option.some.injEq, Addr.mk.injEq, and_true] at hb
  obtain ⟨rfl, rfl⟩ := hb
  have c0 : w.cell? ⟨g, n, none⟩ = some (.int .u8 77) := by have := hc n (by omega); simpa [List.getD, ← hl] using this
  have c1 : w.cell? ⟨g, n + 1, none⟩ = some (.int .u8 78) := by have := hc (n + 1) (by omega); simpa [List.getD, ← hl] using this
  have c2 : w.cell? ⟨g, n + 2, none⟩ = some (.int .u8 79) := by have := hc (n + 2) (by omega); simpa [List.getD, ← hl] using this
  clear hs hc hh hl hA hB
  go_enter Tryz.func29, Tryz.ntmps29
  go_wp2_with (go_at_call 11; refine HS.out.mono ?_; rintro e w' ⟨rfl, rfl⟩)
  go_ret
  exact ⟨rfl, rfl⟩

end Go.Proofs.YtnimfkcnkkjlkaaGreat

/-
  The library's Clone of a text and Compare of two numbers, as this program has them.
-/
import Derived.Test.YtikhgjnjlkaobaaProg
import Derived.Test.YtikhgjnjlkaobaaPk59a9caad
import Derived.Shelf.Small.Wraps
import Derived.Shelf.LaysM
import Derived.Shelf.Strconv.Clone
namespace Go.Proofs.Ytikhgjnjlkaobaa
open Go.RowKit
set_option maxRecDepth 100000
set_option maxRecDepth 100000

def laysCompare_ren : Go.Shelf.Ren := ⟨fun | 122 => (60 : FuncId) | 215 => (75 : FuncId) | n => n, fun | 3 => 3 | 4 => 4 | n => n, fun | n => n⟩
theorem laysCompare : Go.Proofs.Lays.n122 Try.prog laysCompare_ren := {
  mixed := by kernel_rfl
  f122 := Try.func60.trans (congrArg some (by kernel_rfl))
  f215 := Try.func75.trans (congrArg some (by kernel_rfl))
  t3 := Try.underlying3
  a3 := Try.isAgg3
  z3 := Try.sizeOf3
  v3 := Try.zeroValue3
  t4 := Try.underlying4
  a4 := Try.isAgg4
  z4 := Try.sizeOf4
  v4 := Try.zeroValue4 }

theorem compare_any (x y : Int) (w : World) : Calls Try.prog 60 #[.int .i64 x, .int .i64 y] w fun e w' => e = .returned (.int .i64 (Lib.compareInt x y)) ∧ w' = w := Any.cmp_Compare_int laysCompare x y w

def laysClone_ren : Go.Shelf.Ren := ⟨fun | 316 => (57 : FuncId) | n => n, fun | 9 => 9 | 3 => 3 | 4 => 4 | 37 => (28 : TypeId) | 0 => 0 | 127 => (111 : TypeId) | 5 => 5 | n => n, fun | n => n⟩
theorem laysClone : Go.Proofs.LaysM.n316 Try.prog laysClone_ren := {
  mixed := by kernel_rfl
  f316 := Try.func57.trans (congrArg some (by kernel_rfl))
  t0 := Try.underlying0
  a0 := Try.isAgg0
  z0 := Try.sizeOf0
  v0 := Try.zeroValue0
  t3 := Try.underlying3
  a3 := Try.isAgg3
  z3 := Try.sizeOf3
  v3 := Try.zeroValue3
  t4 := Try.underlying4
  a4 := Try.isAgg4
  z4 := Try.sizeOf4
  v4 := Try.zeroValue4
  t9 := Try.underlying9
  a9 := Try.isAgg9
  z9 := Try.sizeOf9
  v9 := Try.zeroValue9
  t37 := Try.underlying28
  a37 := Try.isAgg28
  z37 := Try.sizeOf28
  v37 := Try.zeroValue28
  t127 := Try.underlying111
  a127 := Try.isAgg111
  z127 := Try.sizeOf111
  v127 := Try.zeroValue111
  t5 := Try.underlying5
  a5 := Try.isAgg5
  z5 := Try.sizeOf5
  v5 := Try.zeroValue5
  i0 := by kernel_rfl
  i3 := by kernel_rfl
  i4 := by kernel_rfl
  i5 := by kernel_rfl
  i9 := by kernel_rfl
  i37 := by kernel_rfl
  i127 := by kernel_rfl }

theorem clone57 {s : ByteArray} (hs : s.size ≤ 281474976710656) (w : World) : Calls Try.prog 57 #[.string s] w fun e w' => e = .returned (.string s) ∧ Below w.heap.size w w' := Any.stringslite_Clone laysClone s w hs

/-- strings.Clone: the same text. -/
theorem clone_any {s : ByteArray} (hs : s.size ≤ 281474976710656) (w : World) : Calls Try.prog 39 #[.string s] w fun e w' => e = .returned (.string s) ∧ Tb (fun _ => False) w w' := by
  go_enter Try.func39, Try.ntmps39
  go_wp2_with fail
  refine (clone57 hs w).mono ?_
  rintro e w1 ⟨rfl, hb⟩
  go_wp2_with fail
  go_ret
  exact ⟨rfl, Tb.of_fresh hb⟩

end Go.Proofs.Ytikhgjnjlkaobaa

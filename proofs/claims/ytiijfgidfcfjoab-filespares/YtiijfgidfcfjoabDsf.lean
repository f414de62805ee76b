/-
  The library's Clone of a text and Compare of two numbers, as this program has them.
-/
import Derived.Test.YtiijfgidfcfjoabProg
import Derived.Test.YtiijfgidfcfjoabDst
import Derived.Shelf.Small.Wraps
import Derived.Shelf.LaysM
import Derived.Shelf.Strconv.Clone
namespace Go.Proofs.Ytiijfgidfcfjoab
open Go.RowKit
set_option maxRecDepth 100000
set_option maxRecDepth 100000

def laysCompare_ren : Go.Shelf.Ren := ⟨fun | 122 => (56 : FuncId) | 215 => (71 : FuncId) | n => n, fun | 3 => 3 | 4 => 4 | n => n, fun | n => n⟩
theorem laysCompare : Go.Proofs.Lays.n122 Try.prog laysCompare_ren := {
  mixed := by kernel_rfl
  f122 := Try.func56.trans (congrArg some (by kernel_rfl))
  f215 := Try.func71.trans (congrArg some (by kernel_rfl))
  t3 := Try.underlying3
  a3 := Try.isAgg3
  z3 := Try.sizeOf3
  v3 := Try.zeroValue3
  t4 := Try.underlying4
  a4 := Try.isAgg4
  z4 := Try.sizeOf4
  v4 := Try.zeroValue4 }

theorem compare_any (x y : Int) (w : World) : Calls Try.prog 56 #[.int .i64 x, .int .i64 y] w fun e w' => e = .returned (.int .i64 (Lib.compareInt x y)) ∧ w' = w := Any.cmp_Compare_int laysCompare x y w

def laysClone_ren : Go.Shelf.Ren := ⟨fun | 316 => (32 : FuncId) | n => n, fun | 9 => 9 | 3 => 3 | 4 => 4 | 37 => (24 : TypeId) | 0 => 0 | 127 => (93 : TypeId) | 5 => 5 | n => n, fun | n => n⟩
theorem laysClone : Go.Proofs.LaysM.n316 Try.prog laysClone_ren := {
  mixed := by kernel_rfl
  f316 := Try.func32.trans (congrArg some (by kernel_rfl))
  t0 := Try.underlying0
  a0 := Try.isAgg0
  z0 := Try.sizeOf0
  v0 := Try.zeroValue0
  t3 := Try.underlying3
  a3 := Try.isAgg3
  z3 := Try.sizeOf3
  v3 := Try.zeroValue3
  t4 := Try.underlying4
  a4 := Try.isAgg4
  z4 := Try.sizeOf4
  v4 := Try.zeroValue4
  t9 := Try.underlying9
  a9 := Try.isAgg9
  z9 := Try.sizeOf9
  v9 := Try.zeroValue9
  t37 := Try.underlying24
  a37 := Try.isAgg24
  z37 := Try.sizeOf24
  v37 := Try.zeroValue24
  t127 := Try.underlying93
  a127 := Try.isAgg93
  z127 := Try.sizeOf93
  v127 := Try.zeroValue93
  t5 := Try.underlying5
  a5 := Try.isAgg5
  z5 := Try.sizeOf5
  v5 := Try.zeroValue5
  i0 := by kernel_rfl
  i3 := by kernel_rfl
  i4 := by kernel_rfl
  i5 := by kernel_rfl
  i9 := by kernel_rfl
  i37 := by kernel_rfl
  i127 := by kernel_rfl }

theorem clone57 {s : ByteArray} (hs : s.size ≤ 281474976710656) (w : World) : Calls Try.prog 32 #[.string s] w fun e w' => e = .returned (.string s) ∧ Below w.heap.size w w' := Any.stringslite_Clone laysClone s w hs

/-- strings.Clone: the same text. -/
theorem clone_any {s : ByteArray} (hs : s.size ≤ 281474976710656) (w : World) : Calls Try.prog 19 #[.string s] w fun e w' => e = .returned (.string s) ∧ Tb (fun _ => False) w w' := by
  go_enter Try.func19, Try.ntmps19
  go_wp2_with fail
  refine (clone57 hs w).mono ?_
  rintro e w1 ⟨rfl, hb⟩
  go_wp2_with fail
  go_ret
  exact ⟨rfl, Tb.of_fresh hb⟩

end Go.Proofs.Ytiijfgidfcfjoab

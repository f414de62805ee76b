/-
  FileNumbers: the disks that it meets, reckoned.
-/
import Derived.Test.YtikhgjnjlkaobaaQk076a06e8
namespace Go.Proofs.Ytikhgjnjlkaobaa
open Go.RowKit Go.Sort
set_option maxRecDepth 100000
set_option maxRecDepth 100000
set_option linter.unusedVariables false

def xS : ByteArray := ⟨#[120]⟩
def yS : ByteArray := ⟨#[121]⟩
def newS : ByteArray := ⟨#[110, 101, 119]⟩
def eS : ByteArray := ⟨#[]⟩
def numL : ByteArray := strOfNums (sec64 110)
def numM : ByteArray := numL ++ ⟨#[110]⟩

def n1 : Dsk := (newDsk.put aS 0 64 (sec64 65)).2
def n2 : Dsk := (n1.sync aS).2
def n3 : Dsk := (n2.put tS 0 64 (sec64 66)).2
def n4 : Dsk := (n3.sync tS).2
def n5 : Dsk := (n4.rename tS aS).2
def n6 : Dsk := (n5.put numL 0 64 (sec64 0)).2
def n7 : Dsk := (n6.arm 1).2
def n8 : Dsk := n7.syncNames.2
def n9 : Dsk := n8.syncNames.2
def n10 : Dsk := (n9.sync numL).2
def n11 : Dsk := n10.crash []
def n12 : Dsk := (n11.fail 0 4).2
def n13 : Dsk := n12.syncNames.2
def n14 : Dsk := n13.syncNames.2
def n15 : Dsk := (n14.arm 0).2
def n16 : Dsk := (n15.fail 0 5).2

theorem b65 : ∀ z ∈ sec64 65, 0 ≤ z ∧ z ≤ 255 := sec64_by (by omega)
theorem b66 : ∀ z ∈ sec64 66, 0 ≤ z ∧ z ≤ 255 := sec64_by (by omega)
theorem b00 : ∀ z ∈ sec64 0, 0 ≤ z ∧ z ≤ 255 := sec64_by (by omega)

theorem e1 : newDsk.put aS 0 64 (sec64 65) = (0, n1) := by kernel_rfl
theorem e1l : n1.l.length = 2 := by kernel_rfl
theorem e2 : n1.sync aS = (0, n2) := by kernel_rfl
theorem e3 : n2.put tS 0 64 (sec64 66) = (0, n3) := by kernel_rfl
theorem e4 : n3.sync tS = (0, n4) := by kernel_rfl
theorem e5 : n4.rename tS aS = (0, n5) := by kernel_rfl
theorem c0 : (n1.crash []).read aS = 70 ∧ (n1.crash []).std.nm.length = 0 := ⟨by kernel_rfl, by kernel_rfl⟩
theorem c1 : (n1.crash [true]).read aS = 0 ∧ (n1.crash [true]).bytes aS = [] ∧ (n1.crash [true]).std.nm.length = 1 := ⟨by kernel_rfl, by kernel_rfl, by kernel_rfl⟩
theorem c2 : (n1.crash [false, true]).read aS = 70 ∧ (n1.crash [false, true]).std.nm.length = 0 := ⟨by kernel_rfl, by kernel_rfl⟩
theorem c3 : (n1.crash [true, true]).read aS = 0 ∧ (n1.crash [true, true]).bytes aS = sec64 65 ∧ (n1.crash [true, true]).std.nm.length = 1 := ⟨by kernel_rfl, by kernel_rfl, by kernel_rfl⟩
theorem x1 : (n5.crash []).read aS = 0 ∧ (n5.crash []).bytes aS = sec64 65 := ⟨by kernel_rfl, by kernel_rfl⟩
theorem x2 : (n5.crash []).read tS = 0 ∧ (n5.crash []).bytes tS = sec64 66 := ⟨by kernel_rfl, by kernel_rfl⟩
theorem y1 : (n5.crash [true]).read aS = 0 ∧ (n5.crash [true]).bytes aS = sec64 66 := ⟨by kernel_rfl, by kernel_rfl⟩
theorem y2 : (n5.crash [true]).read tS = 70 := by kernel_rfl

theorem p1 : n5.put aS 2 64 (sec64 0) = (2, n5) := by kernel_rfl
theorem p2 : n5.put eS 0 64 (sec64 0) = (2, n5) := by kernel_rfl
theorem p3 : n5.put aS 0 63 (List.replicate 63 0) = (2, n5) := by kernel_rfl
theorem p4 : n5.put aS (-1) 64 (sec64 0) = (2, n5) := by kernel_rfl
theorem p5 : n5.put newS 1 64 (sec64 0) = (2, n5) := by kernel_rfl
theorem p6 : n5.sync xS = (70, n5) := by kernel_rfl
theorem p7 : n5.sync eS = (70, n5) := by kernel_rfl
theorem p8 : n5.cut aS 2 = (2, n5) := by kernel_rfl
theorem p9 : n5.cut xS 0 = (70, n5) := by kernel_rfl
theorem p10 : n5.rename xS eS = (2, n5) := by kernel_rfl
theorem p11 : n5.rename xS yS = (70, n5) := by kernel_rfl
theorem p12 : n5.remove xS = (70, n5) := by kernel_rfl

theorem q1 : n5.put numL 0 64 (sec64 0) = (0, n6) := by kernel_rfl
theorem q2 : n6.put numM 0 64 (sec64 0) = (2, n6) := by kernel_rfl
theorem q3 : n6.rename numL numL = (0, n6) := by kernel_rfl
theorem q4 : n6.rename numL numM = (2, n6) := by kernel_rfl

theorem r1 : n6.arm 1 = (0, n7) := by kernel_rfl
theorem r2 : n7.syncNames = (0, n8) := by kernel_rfl
theorem r3 : n8.syncNames = (6, n9) := by kernel_rfl
theorem r4 : n9.sync numL = (6, n10) := by kernel_rfl
theorem r6 : n11.fail 0 4 = (0, n12) := by kernel_rfl
theorem r7 : n12.syncNames = (4, n13) := by kernel_rfl
theorem r8 : n13.syncNames = (0, n14) := by kernel_rfl
theorem r9 : n14.fail 0 2 = (2, n14) := by kernel_rfl
theorem r10 : n14.arm (-1) = (2, n14) := by kernel_rfl
theorem r11 : n14.arm 0 = (0, n15) := by kernel_rfl
theorem r12 : n15.fail 0 5 = (0, n16) := by kernel_rfl
theorem r13 : n16.syncNames.1 = 6 := by kernel_rfl

theorem z1 : Bz n1 13 := bz_new.put (by omega) (sec64_len _) b65
theorem z2 : Bz n2 39 := z1.sync _
theorem z3 : Bz n3 42 := z2.put (by omega) (sec64_len _) b66
theorem z4 : Bz n4 126 := z3.sync _
theorem z5 : Bz n5 129 := z4.rename (by omega) _ _
theorem z6 : Bz n6 132 := z5.put (by omega) (sec64_len _) b00
theorem z7 : Bz n7 132 := z6.arm _
theorem z8 : Bz n8 264 := z7.syncNames
theorem z9 : Bz n9 528 := z8.syncNames
theorem z10 : Bz n10 1584 := z9.sync _
theorem z11 : Bz n11 3168 := z10.crash _
theorem z12 : Bz n12 3168 := z11.fail _ _
theorem z13 : Bz n13 6336 := z12.syncNames
theorem z14 : Bz n14 12672 := z13.syncNames
theorem z15 : Bz n15 12672 := z14.arm _
theorem z16 : Bz n16 12672 := z15.fail _ _

theorem aSn : aS = nmS 0 := by kernel_rfl
theorem tSn : tS = nmS 19 := by kernel_rfl

theorem l1 : Bl n1 13 := Did.bl (d := newDsk) ⟨0, 0, 0, 65, .inr (.inr (.inr ⟨by rw [← aSn]; rfl, by omega, by omega, by omega⟩))⟩ bl_new (by omega)
theorem l2 : Bl n2 13 := l1.sync _
theorem l3 : Bl n3 16 := Did.bl (d := n2) ⟨19, 0, 0, 66, .inr (.inr (.inr ⟨by rw [← tSn]; rfl, by omega, by omega, by omega⟩))⟩ l2 (by omega)
theorem l4 : Bl n4 16 := l3.sync _
theorem l5 : Bl n5 19 := Did.bl (d := n4) ⟨19, 0, 0, 0, .inr (.inl (by rw [← tSn, ← aSn]; rfl))⟩ l4 (by omega)

end Go.Proofs.Ytikhgjnjlkaobaa

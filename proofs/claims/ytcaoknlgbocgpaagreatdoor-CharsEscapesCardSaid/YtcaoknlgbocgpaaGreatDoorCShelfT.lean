/-
  DERIVED: THE SHELF's CONTRACTS AT THIS DUMP, IN PLAIN WORDS (tools/lay-plain.mjs out of 'YtcaoknlgbocgpaaGreatDoorCShelfT.lean', which tools/lay-shelf.mjs wrote): THE SAME DECLARATIONS UNDER THE SAME NAMES: 'import', 'namespace', 'open', 'def', 'theorem' AND NOTHING ELSE: no command of the shelf's: FOR A HAND-IN. Each laying: the table of numbers ('.._ren') and one theorem, a field a fact of the dump's own or the kernel's comparison; each contract: ONE APPLICATION.
-/
import Derived.Shelf.Spec.TrailingZeros
import Derived.Test.YtcaoknlgbocgpaaGreatDoorProg
namespace Go.Proofs
open Go.Shelf
def Tryz.lays7t27_ren : Go.Shelf.Ren := ⟨fun | 27 => 137 | 28 => 166 | 29 => 167 | n => n, fun | 25 => 110 | 3 => 3 | 27 => 102 | 22 => 85 | 4 => 4 | 53 => 172 | 0 => 0 | 5 => 5 | 54 => 173 | n => n, fun | 0 => 7 | 1 => 8 | n => n⟩
theorem Tryz.lays7t27 : Go.Proofs.Lays7.n27 Tryz.prog Tryz.lays7t27_ren := {
  mixed := by kernel_rfl
  f27 := Tryz.func137.trans (congrArg some (by kernel_rfl))
  f28 := Tryz.func166.trans (congrArg some (by kernel_rfl))
  f29 := Tryz.func167.trans (congrArg some (by kernel_rfl))
  t0 := Tryz.underlying0
  a0 := Tryz.isAgg0
  z0 := Tryz.sizeOf0
  v0 := Tryz.zeroValue0
  i0 := by kernel_rfl
  t3 := Tryz.underlying3
  a3 := Tryz.isAgg3
  z3 := Tryz.sizeOf3
  v3 := Tryz.zeroValue3
  i3 := by kernel_rfl
  t4 := Tryz.underlying4
  a4 := Tryz.isAgg4
  z4 := Tryz.sizeOf4
  v4 := Tryz.zeroValue4
  i4 := by kernel_rfl
  t5 := Tryz.underlying5
  a5 := Tryz.isAgg5
  z5 := Tryz.sizeOf5
  v5 := Tryz.zeroValue5
  i5 := by kernel_rfl
  t22 := Tryz.underlying85
  a22 := Tryz.isAgg85
  z22 := Tryz.sizeOf85
  v22 := Tryz.zeroValue85
  i22 := by kernel_rfl
  t25 := Tryz.underlying110
  a25 := Tryz.isAgg110
  z25 := Tryz.sizeOf110
  v25 := Tryz.zeroValue110
  i25 := by kernel_rfl
  t27 := Tryz.underlying102
  a27 := Tryz.isAgg102
  z27 := Tryz.sizeOf102
  v27 := Tryz.zeroValue102
  i27 := by kernel_rfl
  t53 := Tryz.underlying172
  a53 := Tryz.isAgg172
  z53 := Tryz.sizeOf172
  v53 := Tryz.zeroValue172
  i53 := by kernel_rfl
  t54 := Tryz.underlying173
  a54 := Tryz.isAgg173
  z54 := Tryz.sizeOf173
  g0 := by kernel_rfl
  g1 := by kernel_rfl }
end Go.Proofs

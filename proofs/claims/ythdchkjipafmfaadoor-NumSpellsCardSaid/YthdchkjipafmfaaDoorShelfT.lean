/-
  DERIVED: THE SHELF's CONTRACTS AT THIS DUMP, IN PLAIN WORDS (tools/lay-plain.mjs out of 'YthdchkjipafmfaaDoorShelfT.lean', which tools/lay-shelf.mjs wrote): THE SAME DECLARATIONS UNDER THE SAME NAMES: 'import', 'namespace', 'open', 'def', 'theorem' AND NOTHING ELSE: no command of the shelf's: FOR A HAND-IN. Each laying: the table of numbers ('.._ren') and one theorem, a field a fact of the dump's own or the kernel's comparison; each contract: ONE APPLICATION.
-/
import Derived.Shelf.Spec.TrailingZeros
import Derived.Test.YthdchkjipafmfaaDoorProg
namespace Go.Proofs
open Go.Shelf
def Tryd.lays7t27_ren : Go.Shelf.Ren := ⟨fun | 27 => 142 | 28 => 147 | 29 => 148 | n => n, fun | 25 => 92 | 3 => 3 | 27 => 111 | 22 => 114 | 4 => 4 | 53 => 138 | 0 => 0 | 5 => 5 | 54 => 139 | n => n, fun | 0 => 4 | 1 => 5 | n => n⟩
theorem Tryd.lays7t27 : Go.Proofs.Lays7.n27 Tryd.prog Tryd.lays7t27_ren := {
  mixed := by kernel_rfl
  f27 := Tryd.func142.trans (congrArg some (by kernel_rfl))
  f28 := Tryd.func147.trans (congrArg some (by kernel_rfl))
  f29 := Tryd.func148.trans (congrArg some (by kernel_rfl))
  t0 := Tryd.underlying0
  a0 := Tryd.isAgg0
  z0 := Tryd.sizeOf0
  v0 := Tryd.zeroValue0
  i0 := by kernel_rfl
  t3 := Tryd.underlying3
  a3 := Tryd.isAgg3
  z3 := Tryd.sizeOf3
  v3 := Tryd.zeroValue3
  i3 := by kernel_rfl
  t4 := Tryd.underlying4
  a4 := Tryd.isAgg4
  z4 := Tryd.sizeOf4
  v4 := Tryd.zeroValue4
  i4 := by kernel_rfl
  t5 := Tryd.underlying5
  a5 := Tryd.isAgg5
  z5 := Tryd.sizeOf5
  v5 := Tryd.zeroValue5
  i5 := by kernel_rfl
  t22 := Tryd.underlying114
  a22 := Tryd.isAgg114
  z22 := Tryd.sizeOf114
  v22 := Tryd.zeroValue114
  i22 := by kernel_rfl
  t25 := Tryd.underlying92
  a25 := Tryd.isAgg92
  z25 := Tryd.sizeOf92
  v25 := Tryd.zeroValue92
  i25 := by kernel_rfl
  t27 := Tryd.underlying111
  a27 := Tryd.isAgg111
  z27 := Tryd.sizeOf111
  v27 := Tryd.zeroValue111
  i27 := by kernel_rfl
  t53 := Tryd.underlying138
  a53 := Tryd.isAgg138
  z53 := Tryd.sizeOf138
  v53 := Tryd.zeroValue138
  i53 := by kernel_rfl
  t54 := Tryd.underlying139
  a54 := Tryd.isAgg139
  z54 := Tryd.sizeOf139
  g0 := by kernel_rfl
  g1 := by kernel_rfl }
end Go.Proofs

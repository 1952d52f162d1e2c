/-
  What is proved: the library's sort by insertion lies in this program as the library has it: the numbers of its functions and types.
-/
import Derived.Shelf.SlSortCmp.InsertionK
import Derived.Test.YtfmkhogpnnobeaaGreatDoorProg
namespace Go.Proofs
open Go.Shelf
def Tryz.insMet_ren : Go.Shelf.Ren := ⟨fun | 20 => 183 | n => n, fun | 24 => 93 | 22 => 34 | 3 => 3 | 25 => 149 | 4 => 4 | 0 => 0 | n => n, fun | n => n⟩
theorem Tryz.insMet : Go.Proofs.SlLaysF0.n20 Tryz.prog Tryz.insMet_ren := {
  mixed := by kernel_rfl
  f20 := ⟨Tryz.f183.name, by decide, Tryz.func183.trans (congrArg some (by kernel_rfl))⟩
  t0 := Tryz.underlying0
  a0 := Tryz.isAgg0
  z0 := Tryz.sizeOf0
  v0 := Tryz.zeroValue0
  t3 := Tryz.underlying3
  a3 := Tryz.isAgg3
  z3 := Tryz.sizeOf3
  v3 := Tryz.zeroValue3
  t4 := Tryz.underlying4
  a4 := Tryz.isAgg4
  z4 := Tryz.sizeOf4
  v4 := Tryz.zeroValue4
  t22 := Tryz.underlying34
  a22 := Tryz.isAgg34
  z22 := Tryz.sizeOf34
  v22 := Tryz.zeroValue34
  t25 := Tryz.underlying149
  a25 := Tryz.isAgg149
  z25 := Tryz.sizeOf149
  v25 := Tryz.zeroValue149 }
def Tryz.insNot_ren : Go.Shelf.Ren := ⟨fun | 20 => 186 | n => n, fun | 24 => 98 | 22 => 36 | 3 => 3 | 25 => 153 | 4 => 4 | 0 => 0 | n => n, fun | n => n⟩
theorem Tryz.insNot : Go.Proofs.SlLaysF0.n20 Tryz.prog Tryz.insNot_ren := {
  mixed := by kernel_rfl
  f20 := ⟨Tryz.f186.name, by decide, Tryz.func186.trans (congrArg some (by kernel_rfl))⟩
  t0 := Tryz.underlying0
  a0 := Tryz.isAgg0
  z0 := Tryz.sizeOf0
  v0 := Tryz.zeroValue0
  t3 := Tryz.underlying3
  a3 := Tryz.isAgg3
  z3 := Tryz.sizeOf3
  v3 := Tryz.zeroValue3
  t4 := Tryz.underlying4
  a4 := Tryz.isAgg4
  z4 := Tryz.sizeOf4
  v4 := Tryz.zeroValue4
  t22 := Tryz.underlying36
  a22 := Tryz.isAgg36
  z22 := Tryz.sizeOf36
  v22 := Tryz.zeroValue36
  t25 := Tryz.underlying153
  a25 := Tryz.isAgg153
  z25 := Tryz.sizeOf153
  v25 := Tryz.zeroValue153 }
end Go.Proofs

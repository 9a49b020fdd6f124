/-
  DERIVED: THE SHELF's CONTRACTS AT THIS DUMP, IN PLAIN WORDS (tools/lay-plain.mjs out of 'YtcbkoeagfhpghaaGreatSh0.lean', which tools/lay-shelf.mjs wrote): THE SAME DECLARATIONS UNDER THE SAME NAMES: 'import', 'namespace', 'open', 'def', 'theorem' AND NOTHING ELSE: no command of the shelf's: FOR A HAND-IN. Each laying: the table of numbers ('.._ren') and one theorem, a field a fact of the dump's own or the kernel's comparison; each contract: ONE APPLICATION.
-/
import Derived.Shelf.SlGeneric
import Derived.Shelf.SortG.Plain
import Derived.Shelf.SlicesG.SearchI
import Derived.Ground.SlgnProg
import Derived.Test.YtcbkoeagfhpghaaGreatProg
namespace Go.Proofs.YtcbkoeagfhpghaaGreat
open Go.Shelf
def laidSort_ren : Go.Shelf.Ren := ⟨fun | 53 => 43 | 64 => 40 | 63 => 68 | 78 => 66 | 79 => 67 | 70 => 89 | 71 => 90 | 72 => 91 | 73 => 92 | 74 => 93 | 75 => 94 | 59 => 55 | 76 => 95 | 77 => 96 | 88 => 110 | 89 => 85 | 90 => 86 | 91 => 111 | 92 => 112 | 68 => 83 | 96 => 116 | n => n, fun | 22 => 44 | 23 => 2 | 3 => 3 | 51 => 73 | 0 => 0 | 67 => 35 | 69 => 37 | 4 => 4 | 61 => 101 | 60 => 100 | 44 => 54 | 5 => 5 | 9 => 9 | 75 => 126 | 79 => 129 | 83 => 148 | 84 => 149 | n => n, fun | n => n⟩
theorem laidSort : Go.Proofs.SlLaysN.n53 Tryz.prog laidSort_ren := {
  mixed := by kernel_rfl
  f53 := ⟨Tryz.f43.name, by decide, Tryz.func43.trans (congrArg some (by kernel_rfl))⟩
  f59 := ⟨Tryz.f55.name, by decide, Tryz.func55.trans (congrArg some (by kernel_rfl))⟩
  f63 := ⟨Tryz.f68.name, by decide, Tryz.func68.trans (congrArg some (by kernel_rfl))⟩
  f64 := Tryz.func40.trans (congrArg some (by kernel_rfl))
  f68 := ⟨Tryz.f83.name, by decide, Tryz.func83.trans (congrArg some (by kernel_rfl))⟩
  f70 := ⟨Tryz.f89.name, by decide, Tryz.func89.trans (congrArg some (by kernel_rfl))⟩
  f71 := ⟨Tryz.f90.name, by decide, Tryz.func90.trans (congrArg some (by kernel_rfl))⟩
  f72 := ⟨Tryz.f91.name, by decide, Tryz.func91.trans (congrArg some (by kernel_rfl))⟩
  f73 := ⟨Tryz.f92.name, by decide, Tryz.func92.trans (congrArg some (by kernel_rfl))⟩
  f74 := ⟨Tryz.f93.name, by decide, Tryz.func93.trans (congrArg some (by kernel_rfl))⟩
  f75 := ⟨Tryz.f94.name, by decide, Tryz.func94.trans (congrArg some (by kernel_rfl))⟩
  f76 := ⟨Tryz.f95.name, by decide, Tryz.func95.trans (congrArg some (by kernel_rfl))⟩
  f77 := ⟨Tryz.f96.name, by decide, Tryz.func96.trans (congrArg some (by kernel_rfl))⟩
  f78 := Tryz.func66.trans (congrArg some (by kernel_rfl))
  f79 := Tryz.func67.trans (congrArg some (by kernel_rfl))
  f88 := ⟨Tryz.f110.name, by decide, Tryz.func110.trans (congrArg some (by kernel_rfl))⟩
  f89 := Tryz.func85.trans (congrArg some (by kernel_rfl))
  f90 := Tryz.func86.trans (congrArg some (by kernel_rfl))
  f91 := ⟨Tryz.f111.name, by decide, Tryz.func111.trans (congrArg some (by kernel_rfl))⟩
  f92 := ⟨Tryz.f112.name, by decide, Tryz.func112.trans (congrArg some (by kernel_rfl))⟩
  f96 := ⟨Tryz.f116.name, by decide, Tryz.func116.trans (congrArg some (by kernel_rfl))⟩
  t0 := Tryz.underlying0
  a0 := Tryz.isAgg0
  z0 := Tryz.sizeOf0
  v0 := Tryz.zeroValue0
  t3 := Tryz.underlying3
  a3 := Tryz.isAgg3
  z3 := Tryz.sizeOf3
  v3 := Tryz.zeroValue3
  t4 := Tryz.underlying4
  a4 := Tryz.isAgg4
  z4 := Tryz.sizeOf4
  v4 := Tryz.zeroValue4
  t5 := Tryz.underlying5
  a5 := Tryz.isAgg5
  z5 := Tryz.sizeOf5
  v5 := Tryz.zeroValue5
  t9 := Tryz.underlying9
  a9 := Tryz.isAgg9
  z9 := Tryz.sizeOf9
  v9 := Tryz.zeroValue9
  t22 := Tryz.underlying44
  a22 := Tryz.isAgg44
  z22 := Tryz.sizeOf44
  v22 := Tryz.zeroValue44
  t23 := Tryz.underlying2
  a23 := Tryz.isAgg2
  z23 := Tryz.sizeOf2
  v23 := Tryz.zeroValue2
  t44 := Tryz.underlying54
  a44 := Tryz.isAgg54
  z44 := Tryz.sizeOf54
  v44 := Tryz.zeroValue54
  t51 := Tryz.underlying73
  a51 := Tryz.isAgg73
  z51 := Tryz.sizeOf73
  v51 := Tryz.zeroValue73
  t60 := Tryz.underlying100
  a60 := Tryz.isAgg100
  z60 := Tryz.sizeOf100
  v60 := Tryz.zeroValue100
  t61 := Tryz.underlying101
  a61 := Tryz.isAgg101
  z61 := Tryz.sizeOf101
  v61 := Tryz.zeroValue101
  t67 := Tryz.underlying35
  a67 := Tryz.isAgg35
  z67 := Tryz.sizeOf35
  v67 := Tryz.zeroValue35
  t69 := Tryz.underlying37
  a69 := Tryz.isAgg37
  z69 := Tryz.sizeOf37
  v69 := Tryz.zeroValue37
  t75 := Tryz.underlying126
  a75 := Tryz.isAgg126
  z75 := Tryz.sizeOf126
  v75 := Tryz.zeroValue126
  t79 := Tryz.underlying129
  a79 := Tryz.isAgg129
  z79 := Tryz.sizeOf129
  v79 := Tryz.zeroValue129
  t83 := Tryz.underlying148
  a83 := Tryz.isAgg148
  z83 := Tryz.sizeOf148
  v83 := Tryz.zeroValue148
  t84 := Tryz.underlying149
  a84 := Tryz.isAgg149
  z84 := Tryz.sizeOf149
  v84 := Tryz.zeroValue149 }
def laidFind_ren : Go.Shelf.Ren := ⟨fun | 49 => 36 | 59 => 55 | 60 => 56 | 68 => 83 | n => n, fun | 22 => 44 | 23 => 2 | 3 => 3 | 4 => 4 | 51 => 73 | 0 => 0 | n => n, fun | n => n⟩
theorem laidFind : Go.Proofs.SlLaysN.n49 Tryz.prog laidFind_ren := {
  mixed := by kernel_rfl
  f49 := ⟨Tryz.f36.name, by decide, Tryz.func36.trans (congrArg some (by kernel_rfl))⟩
  f59 := ⟨Tryz.f55.name, by decide, Tryz.func55.trans (congrArg some (by kernel_rfl))⟩
  f60 := ⟨Tryz.f56.name, by decide, Tryz.func56.trans (congrArg some (by kernel_rfl))⟩
  f68 := ⟨Tryz.f83.name, by decide, Tryz.func83.trans (congrArg some (by kernel_rfl))⟩
  t0 := Tryz.underlying0
  a0 := Tryz.isAgg0
  z0 := Tryz.sizeOf0
  v0 := Tryz.zeroValue0
  t3 := Tryz.underlying3
  a3 := Tryz.isAgg3
  z3 := Tryz.sizeOf3
  v3 := Tryz.zeroValue3
  t4 := Tryz.underlying4
  a4 := Tryz.isAgg4
  z4 := Tryz.sizeOf4
  v4 := Tryz.zeroValue4
  t22 := Tryz.underlying44
  a22 := Tryz.isAgg44
  z22 := Tryz.sizeOf44
  v22 := Tryz.zeroValue44
  t23 := Tryz.underlying2
  a23 := Tryz.isAgg2
  z23 := Tryz.sizeOf2
  v23 := Tryz.zeroValue2
  t51 := Tryz.underlying73
  a51 := Tryz.isAgg73
  z51 := Tryz.sizeOf73
  v51 := Tryz.zeroValue73 }
end Go.Proofs.YtcbkoeagfhpghaaGreat

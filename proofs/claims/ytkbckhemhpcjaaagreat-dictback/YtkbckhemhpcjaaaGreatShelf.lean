/-
  DERIVED: THE SHELF's CONTRACTS AT THIS DUMP, IN PLAIN WORDS (tools/lay-plain.mjs out of 'YtkbckhemhpcjaaaGreatSh0.lean', which tools/lay-shelf.mjs wrote): THE SAME DECLARATIONS UNDER THE SAME NAMES: 'import', 'namespace', 'open', 'def', 'theorem' AND NOTHING ELSE: no command of the shelf's: FOR A HAND-IN. Each laying: the table of numbers ('.._ren') and one theorem, a field a fact of the dump's own or the kernel's comparison; each contract: ONE APPLICATION.
-/
import Derived.Shelf.SlGeneric
import Derived.Shelf.SortG.Plain
import Derived.Shelf.SlicesG.SearchI
import Derived.Ground.SlgnProg
import Derived.Test.YtkbckhemhpcjaaaGreatProg
namespace Go.Proofs.YtkbckhemhpcjaaaGreat
open Go.Shelf
def laidSort_ren : Go.Shelf.Ren := ⟨fun | 53 => 62 | 64 => 82 | 63 => 81 | 78 => 104 | 79 => 84 | 70 => 96 | 71 => 97 | 72 => 98 | 73 => 99 | 74 => 100 | 75 => 101 | 59 => 63 | 76 => 102 | 77 => 103 | 88 => 115 | 89 => 116 | 90 => 117 | 91 => 118 | 92 => 119 | 68 => 83 | 96 => 123 | n => n, fun | 22 => 22 | 23 => 2 | 3 => 3 | 51 => 88 | 0 => 0 | 67 => 37 | 69 => 50 | 4 => 4 | 61 => 144 | 60 => 143 | 44 => 47 | 5 => 5 | 9 => 9 | 75 => 155 | 79 => 158 | 83 => 162 | 84 => 163 | n => n, fun | n => n⟩
theorem laidSort : Go.Proofs.SlLaysN.n53 Tryz.prog laidSort_ren := {
  mixed := by kernel_rfl
  f53 := ⟨Tryz.f62.name, by decide, Tryz.func62.trans (congrArg some (by kernel_rfl))⟩
  f59 := ⟨Tryz.f63.name, by decide, Tryz.func63.trans (congrArg some (by kernel_rfl))⟩
  f63 := ⟨Tryz.f81.name, by decide, Tryz.func81.trans (congrArg some (by kernel_rfl))⟩
  f64 := Tryz.func82.trans (congrArg some (by kernel_rfl))
  f68 := ⟨Tryz.f83.name, by decide, Tryz.func83.trans (congrArg some (by kernel_rfl))⟩
  f70 := ⟨Tryz.f96.name, by decide, Tryz.func96.trans (congrArg some (by kernel_rfl))⟩
  f71 := ⟨Tryz.f97.name, by decide, Tryz.func97.trans (congrArg some (by kernel_rfl))⟩
  f72 := ⟨Tryz.f98.name, by decide, Tryz.func98.trans (congrArg some (by kernel_rfl))⟩
  f73 := ⟨Tryz.f99.name, by decide, Tryz.func99.trans (congrArg some (by kernel_rfl))⟩
  f74 := ⟨Tryz.f100.name, by decide, Tryz.func100.trans (congrArg some (by kernel_rfl))⟩
  f75 := ⟨Tryz.f101.name, by decide, Tryz.func101.trans (congrArg some (by kernel_rfl))⟩
  f76 := ⟨Tryz.f102.name, by decide, Tryz.func102.trans (congrArg some (by kernel_rfl))⟩
  f77 := ⟨Tryz.f103.name, by decide, Tryz.func103.trans (congrArg some (by kernel_rfl))⟩
  f78 := Tryz.func104.trans (congrArg some (by kernel_rfl))
  f79 := Tryz.func84.trans (congrArg some (by kernel_rfl))
  f88 := ⟨Tryz.f115.name, by decide, Tryz.func115.trans (congrArg some (by kernel_rfl))⟩
  f89 := Tryz.func116.trans (congrArg some (by kernel_rfl))
  f90 := Tryz.func117.trans (congrArg some (by kernel_rfl))
  f91 := ⟨Tryz.f118.name, by decide, Tryz.func118.trans (congrArg some (by kernel_rfl))⟩
  f92 := ⟨Tryz.f119.name, by decide, Tryz.func119.trans (congrArg some (by kernel_rfl))⟩
  f96 := ⟨Tryz.f123.name, by decide, Tryz.func123.trans (congrArg some (by kernel_rfl))⟩
  t0 := Tryz.underlying0
  a0 := Tryz.isAgg0
  z0 := Tryz.sizeOf0
  v0 := Tryz.zeroValue0
  t3 := Tryz.underlying3
  a3 := Tryz.isAgg3
  z3 := Tryz.sizeOf3
  v3 := Tryz.zeroValue3
  t4 := Tryz.underlying4
  a4 := Tryz.isAgg4
  z4 := Tryz.sizeOf4
  v4 := Tryz.zeroValue4
  t5 := Tryz.underlying5
  a5 := Tryz.isAgg5
  z5 := Tryz.sizeOf5
  v5 := Tryz.zeroValue5
  t9 := Tryz.underlying9
  a9 := Tryz.isAgg9
  z9 := Tryz.sizeOf9
  v9 := Tryz.zeroValue9
  t22 := Tryz.underlying22
  a22 := Tryz.isAgg22
  z22 := Tryz.sizeOf22
  v22 := Tryz.zeroValue22
  t23 := Tryz.underlying2
  a23 := Tryz.isAgg2
  z23 := Tryz.sizeOf2
  v23 := Tryz.zeroValue2
  t44 := Tryz.underlying47
  a44 := Tryz.isAgg47
  z44 := Tryz.sizeOf47
  v44 := Tryz.zeroValue47
  t51 := Tryz.underlying88
  a51 := Tryz.isAgg88
  z51 := Tryz.sizeOf88
  v51 := Tryz.zeroValue88
  t60 := Tryz.underlying143
  a60 := Tryz.isAgg143
  z60 := Tryz.sizeOf143
  v60 := Tryz.zeroValue143
  t61 := Tryz.underlying144
  a61 := Tryz.isAgg144
  z61 := Tryz.sizeOf144
  v61 := Tryz.zeroValue144
  t67 := Tryz.underlying37
  a67 := Tryz.isAgg37
  z67 := Tryz.sizeOf37
  v67 := Tryz.zeroValue37
  t69 := Tryz.underlying50
  a69 := Tryz.isAgg50
  z69 := Tryz.sizeOf50
  v69 := Tryz.zeroValue50
  t75 := Tryz.underlying155
  a75 := Tryz.isAgg155
  z75 := Tryz.sizeOf155
  v75 := Tryz.zeroValue155
  t79 := Tryz.underlying158
  a79 := Tryz.isAgg158
  z79 := Tryz.sizeOf158
  v79 := Tryz.zeroValue158
  t83 := Tryz.underlying162
  a83 := Tryz.isAgg162
  z83 := Tryz.sizeOf162
  v83 := Tryz.zeroValue162
  t84 := Tryz.underlying163
  a84 := Tryz.isAgg163
  z84 := Tryz.sizeOf163
  v84 := Tryz.zeroValue163 }
def laidFind_ren : Go.Shelf.Ren := ⟨fun | 49 => 36 | 59 => 63 | 60 => 64 | 68 => 83 | n => n, fun | 22 => 22 | 23 => 2 | 3 => 3 | 4 => 4 | 51 => 88 | 0 => 0 | n => n, fun | n => n⟩
theorem laidFind : Go.Proofs.SlLaysN.n49 Tryz.prog laidFind_ren := {
  mixed := by kernel_rfl
  f49 := ⟨Tryz.f36.name, by decide, Tryz.func36.trans (congrArg some (by kernel_rfl))⟩
  f59 := ⟨Tryz.f63.name, by decide, Tryz.func63.trans (congrArg some (by kernel_rfl))⟩
  f60 := ⟨Tryz.f64.name, by decide, Tryz.func64.trans (congrArg some (by kernel_rfl))⟩
  f68 := ⟨Tryz.f83.name, by decide, Tryz.func83.trans (congrArg some (by kernel_rfl))⟩
  t0 := Tryz.underlying0
  a0 := Tryz.isAgg0
  z0 := Tryz.sizeOf0
  v0 := Tryz.zeroValue0
  t3 := Tryz.underlying3
  a3 := Tryz.isAgg3
  z3 := Tryz.sizeOf3
  v3 := Tryz.zeroValue3
  t4 := Tryz.underlying4
  a4 := Tryz.isAgg4
  z4 := Tryz.sizeOf4
  v4 := Tryz.zeroValue4
  t22 := Tryz.underlying22
  a22 := Tryz.isAgg22
  z22 := Tryz.sizeOf22
  v22 := Tryz.zeroValue22
  t23 := Tryz.underlying2
  a23 := Tryz.isAgg2
  z23 := Tryz.sizeOf2
  v23 := Tryz.zeroValue2
  t51 := Tryz.underlying88
  a51 := Tryz.isAgg88
  z51 := Tryz.sizeOf88
  v51 := Tryz.zeroValue88 }
end Go.Proofs.YtkbckhemhpcjaaaGreat

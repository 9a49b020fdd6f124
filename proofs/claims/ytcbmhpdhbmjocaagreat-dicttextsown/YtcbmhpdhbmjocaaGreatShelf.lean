/-
  DERIVED: THE SHELF's CONTRACTS AT THIS DUMP, IN PLAIN WORDS (tools/lay-plain.mjs out of 'YtcbmhpdhbmjocaaGreatSh0.lean', which tools/lay-shelf.mjs wrote): THE SAME DECLARATIONS UNDER THE SAME NAMES: 'import', 'namespace', 'open', 'def', 'theorem' AND NOTHING ELSE: no command of the shelf's: FOR A HAND-IN. Each laying: the table of numbers ('.._ren') and one theorem, a field a fact of the dump's own or the kernel's comparison; each contract: ONE APPLICATION.
-/
import Derived.Shelf.SlGeneric
import Derived.Shelf.SortG.Plain
import Derived.Shelf.SlicesG.SearchI
import Derived.Ground.SlgnProg
import Derived.Test.YtcbmhpdhbmjocaaGreatProg
namespace Go.Proofs.YtcbmhpdhbmjocaaGreat
open Go.Shelf
def laidSort_ren : Go.Shelf.Ren := ⟨fun | 53 => 60 | 64 => 66 | 63 => 82 | 78 => 92 | 79 => 93 | 70 => 107 | 71 => 108 | 72 => 109 | 73 => 110 | 74 => 111 | 75 => 112 | 59 => 63 | 76 => 113 | 77 => 114 | 88 => 123 | 89 => 116 | 90 => 117 | 91 => 124 | 92 => 125 | 68 => 83 | 96 => 127 | n => n, fun | 22 => 41 | 23 => 2 | 3 => 3 | 51 => 109 | 0 => 0 | 67 => 75 | 69 => 51 | 4 => 4 | 61 => 135 | 60 => 134 | 44 => 47 | 5 => 5 | 9 => 9 | 75 => 158 | 79 => 161 | 83 => 165 | 84 => 166 | n => n, fun | n => n⟩
theorem laidSort : Go.Proofs.SlLaysN.n53 Tryz.prog laidSort_ren := {
  mixed := by kernel_rfl
  f53 := ⟨Tryz.f60.name, by decide, Tryz.func60.trans (congrArg some (by kernel_rfl))⟩
  f59 := ⟨Tryz.f63.name, by decide, Tryz.func63.trans (congrArg some (by kernel_rfl))⟩
  f63 := ⟨Tryz.f82.name, by decide, Tryz.func82.trans (congrArg some (by kernel_rfl))⟩
  f64 := Tryz.func66.trans (congrArg some (by kernel_rfl))
  f68 := ⟨Tryz.f83.name, by decide, Tryz.func83.trans (congrArg some (by kernel_rfl))⟩
  f70 := ⟨Tryz.f107.name, by decide, Tryz.func107.trans (congrArg some (by kernel_rfl))⟩
  f71 := ⟨Tryz.f108.name, by decide, Tryz.func108.trans (congrArg some (by kernel_rfl))⟩
  f72 := ⟨Tryz.f109.name, by decide, Tryz.func109.trans (congrArg some (by kernel_rfl))⟩
  f73 := ⟨Tryz.f110.name, by decide, Tryz.func110.trans (congrArg some (by kernel_rfl))⟩
  f74 := ⟨Tryz.f111.name, by decide, Tryz.func111.trans (congrArg some (by kernel_rfl))⟩
  f75 := ⟨Tryz.f112.name, by decide, Tryz.func112.trans (congrArg some (by kernel_rfl))⟩
  f76 := ⟨Tryz.f113.name, by decide, Tryz.func113.trans (congrArg some (by kernel_rfl))⟩
  f77 := ⟨Tryz.f114.name, by decide, Tryz.func114.trans (congrArg some (by kernel_rfl))⟩
  f78 := Tryz.func92.trans (congrArg some (by kernel_rfl))
  f79 := Tryz.func93.trans (congrArg some (by kernel_rfl))
  f88 := ⟨Tryz.f123.name, by decide, Tryz.func123.trans (congrArg some (by kernel_rfl))⟩
  f89 := Tryz.func116.trans (congrArg some (by kernel_rfl))
  f90 := Tryz.func117.trans (congrArg some (by kernel_rfl))
  f91 := ⟨Tryz.f124.name, by decide, Tryz.func124.trans (congrArg some (by kernel_rfl))⟩
  f92 := ⟨Tryz.f125.name, by decide, Tryz.func125.trans (congrArg some (by kernel_rfl))⟩
  f96 := ⟨Tryz.f127.name, by decide, Tryz.func127.trans (congrArg some (by kernel_rfl))⟩
  t0 := Tryz.underlying0
  a0 := Tryz.isAgg0
  z0 := Tryz.sizeOf0
  v0 := Tryz.zeroValue0
  t3 := Tryz.underlying3
  a3 := Tryz.isAgg3
  z3 := Tryz.sizeOf3
  v3 := Tryz.zeroValue3
  t4 := Tryz.underlying4
  a4 := Tryz.isAgg4
  z4 := Tryz.sizeOf4
  v4 := Tryz.zeroValue4
  t5 := Tryz.underlying5
  a5 := Tryz.isAgg5
  z5 := Tryz.sizeOf5
  v5 := Tryz.zeroValue5
  t9 := Tryz.underlying9
  a9 := Tryz.isAgg9
  z9 := Tryz.sizeOf9
  v9 := Tryz.zeroValue9
  t22 := Tryz.underlying41
  a22 := Tryz.isAgg41
  z22 := Tryz.sizeOf41
  v22 := Tryz.zeroValue41
  t23 := Tryz.underlying2
  a23 := Tryz.isAgg2
  z23 := Tryz.sizeOf2
  v23 := Tryz.zeroValue2
  t44 := Tryz.underlying47
  a44 := Tryz.isAgg47
  z44 := Tryz.sizeOf47
  v44 := Tryz.zeroValue47
  t51 := Tryz.underlying109
  a51 := Tryz.isAgg109
  z51 := Tryz.sizeOf109
  v51 := Tryz.zeroValue109
  t60 := Tryz.underlying134
  a60 := Tryz.isAgg134
  z60 := Tryz.sizeOf134
  v60 := Tryz.zeroValue134
  t61 := Tryz.underlying135
  a61 := Tryz.isAgg135
  z61 := Tryz.sizeOf135
  v61 := Tryz.zeroValue135
  t67 := Tryz.underlying75
  a67 := Tryz.isAgg75
  z67 := Tryz.sizeOf75
  v67 := Tryz.zeroValue75
  t69 := Tryz.underlying51
  a69 := Tryz.isAgg51
  z69 := Tryz.sizeOf51
  v69 := Tryz.zeroValue51
  t75 := Tryz.underlying158
  a75 := Tryz.isAgg158
  z75 := Tryz.sizeOf158
  v75 := Tryz.zeroValue158
  t79 := Tryz.underlying161
  a79 := Tryz.isAgg161
  z79 := Tryz.sizeOf161
  v79 := Tryz.zeroValue161
  t83 := Tryz.underlying165
  a83 := Tryz.isAgg165
  z83 := Tryz.sizeOf165
  v83 := Tryz.zeroValue165
  t84 := Tryz.underlying166
  a84 := Tryz.isAgg166
  z84 := Tryz.sizeOf166
  v84 := Tryz.zeroValue166 }
def laidFind_ren : Go.Shelf.Ren := ⟨fun | 49 => 38 | 59 => 63 | 60 => 64 | 68 => 83 | n => n, fun | 22 => 41 | 23 => 2 | 3 => 3 | 4 => 4 | 51 => 109 | 0 => 0 | n => n, fun | n => n⟩
theorem laidFind : Go.Proofs.SlLaysN.n49 Tryz.prog laidFind_ren := {
  mixed := by kernel_rfl
  f49 := ⟨Tryz.f38.name, by decide, Tryz.func38.trans (congrArg some (by kernel_rfl))⟩
  f59 := ⟨Tryz.f63.name, by decide, Tryz.func63.trans (congrArg some (by kernel_rfl))⟩
  f60 := ⟨Tryz.f64.name, by decide, Tryz.func64.trans (congrArg some (by kernel_rfl))⟩
  f68 := ⟨Tryz.f83.name, by decide, Tryz.func83.trans (congrArg some (by kernel_rfl))⟩
  t0 := Tryz.underlying0
  a0 := Tryz.isAgg0
  z0 := Tryz.sizeOf0
  v0 := Tryz.zeroValue0
  t3 := Tryz.underlying3
  a3 := Tryz.isAgg3
  z3 := Tryz.sizeOf3
  v3 := Tryz.zeroValue3
  t4 := Tryz.underlying4
  a4 := Tryz.isAgg4
  z4 := Tryz.sizeOf4
  v4 := Tryz.zeroValue4
  t22 := Tryz.underlying41
  a22 := Tryz.isAgg41
  z22 := Tryz.sizeOf41
  v22 := Tryz.zeroValue41
  t23 := Tryz.underlying2
  a23 := Tryz.isAgg2
  z23 := Tryz.sizeOf2
  v23 := Tryz.zeroValue2
  t51 := Tryz.underlying109
  a51 := Tryz.isAgg109
  z51 := Tryz.sizeOf109
  v51 := Tryz.zeroValue109 }
end Go.Proofs.YtcbmhpdhbmjocaaGreat

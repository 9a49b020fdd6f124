/-
  DERIVED: THE SHELF's CONTRACTS AT THIS DUMP, IN PLAIN WORDS (tools/lay-plain.mjs out of 'YtcbkoeagfhpghaaGreatShT0.lean', which tools/lay-shelf.mjs wrote): THE SAME DECLARATIONS UNDER THE SAME NAMES: 'import', 'namespace', 'open', 'def', 'theorem' AND NOTHING ELSE: no command of the shelf's: FOR A HAND-IN. Each laying: the table of numbers ('.._ren') and one theorem, a field a fact of the dump's own or the kernel's comparison; each contract: ONE APPLICATION.
-/
import Derived.Shelf.SlGeneric
import Derived.Shelf.SortG.Plain
import Derived.Ground.SlgnProg
import Derived.Test.YtcbkoeagfhpghaaGreatProg
namespace Go.Proofs.YtcbkoeagfhpghaaGreat
open Go.Shelf
def laidSortT_ren : Go.Shelf.Ren := ⟨fun | 54 => 27 | 64 => 40 | 65 => 39 | 78 => 66 | 79 => 67 | 80 => 58 | 81 => 59 | 82 => 60 | 83 => 61 | 84 => 62 | 85 => 63 | 61 => 37 | 86 => 64 | 87 => 65 | 93 => 84 | 89 => 85 | 90 => 86 | 94 => 87 | 95 => 88 | 69 => 57 | 97 => 109 | n => n, fun | 25 => 22 | 26 => 9 | 3 => 3 | 51 => 73 | 0 => 0 | 67 => 35 | 69 => 37 | 4 => 4 | 61 => 101 | 60 => 100 | 44 => 54 | 5 => 5 | 9 => 9 | 75 => 126 | 79 => 129 | 83 => 148 | 84 => 149 | n => n, fun | n => n⟩
theorem laidSortT : Go.Proofs.SlLaysN.n54 Tryz.prog laidSortT_ren := {
  mixed := by kernel_rfl
  f54 := ⟨Tryz.f27.name, by decide, Tryz.func27.trans (congrArg some (by kernel_rfl))⟩
  f61 := ⟨Tryz.f37.name, by decide, Tryz.func37.trans (congrArg some (by kernel_rfl))⟩
  f64 := Tryz.func40.trans (congrArg some (by kernel_rfl))
  f65 := ⟨Tryz.f39.name, by decide, Tryz.func39.trans (congrArg some (by kernel_rfl))⟩
  f69 := ⟨Tryz.f57.name, by decide, Tryz.func57.trans (congrArg some (by kernel_rfl))⟩
  f78 := Tryz.func66.trans (congrArg some (by kernel_rfl))
  f79 := Tryz.func67.trans (congrArg some (by kernel_rfl))
  f80 := ⟨Tryz.f58.name, by decide, Tryz.func58.trans (congrArg some (by kernel_rfl))⟩
  f81 := ⟨Tryz.f59.name, by decide, Tryz.func59.trans (congrArg some (by kernel_rfl))⟩
  f82 := ⟨Tryz.f60.name, by decide, Tryz.func60.trans (congrArg some (by kernel_rfl))⟩
  f83 := ⟨Tryz.f61.name, by decide, Tryz.func61.trans (congrArg some (by kernel_rfl))⟩
  f84 := ⟨Tryz.f62.name, by decide, Tryz.func62.trans (congrArg some (by kernel_rfl))⟩
  f85 := ⟨Tryz.f63.name, by decide, Tryz.func63.trans (congrArg some (by kernel_rfl))⟩
  f86 := ⟨Tryz.f64.name, by decide, Tryz.func64.trans (congrArg some (by kernel_rfl))⟩
  f87 := ⟨Tryz.f65.name, by decide, Tryz.func65.trans (congrArg some (by kernel_rfl))⟩
  f89 := Tryz.func85.trans (congrArg some (by kernel_rfl))
  f90 := Tryz.func86.trans (congrArg some (by kernel_rfl))
  f93 := ⟨Tryz.f84.name, by decide, Tryz.func84.trans (congrArg some (by kernel_rfl))⟩
  f94 := ⟨Tryz.f87.name, by decide, Tryz.func87.trans (congrArg some (by kernel_rfl))⟩
  f95 := ⟨Tryz.f88.name, by decide, Tryz.func88.trans (congrArg some (by kernel_rfl))⟩
  f97 := ⟨Tryz.f109.name, by decide, Tryz.func109.trans (congrArg some (by kernel_rfl))⟩
  t0 := Tryz.underlying0
  a0 := Tryz.isAgg0
  z0 := Tryz.sizeOf0
  v0 := Tryz.zeroValue0
  t3 := Tryz.underlying3
  a3 := Tryz.isAgg3
  z3 := Tryz.sizeOf3
  v3 := Tryz.zeroValue3
  t4 := Tryz.underlying4
  a4 := Tryz.isAgg4
  z4 := Tryz.sizeOf4
  v4 := Tryz.zeroValue4
  t5 := Tryz.underlying5
  a5 := Tryz.isAgg5
  z5 := Tryz.sizeOf5
  v5 := Tryz.zeroValue5
  t9 := Tryz.underlying9
  a9 := Tryz.isAgg9
  z9 := Tryz.sizeOf9
  v9 := Tryz.zeroValue9
  t25 := Tryz.underlying22
  a25 := Tryz.isAgg22
  z25 := Tryz.sizeOf22
  v25 := Tryz.zeroValue22
  t26 := Tryz.underlying9
  a26 := Tryz.isAgg9
  z26 := Tryz.sizeOf9
  v26 := Tryz.zeroValue9
  t44 := Tryz.underlying54
  a44 := Tryz.isAgg54
  z44 := Tryz.sizeOf54
  v44 := Tryz.zeroValue54
  t51 := Tryz.underlying73
  a51 := Tryz.isAgg73
  z51 := Tryz.sizeOf73
  v51 := Tryz.zeroValue73
  t60 := Tryz.underlying100
  a60 := Tryz.isAgg100
  z60 := Tryz.sizeOf100
  v60 := Tryz.zeroValue100
  t61 := Tryz.underlying101
  a61 := Tryz.isAgg101
  z61 := Tryz.sizeOf101
  v61 := Tryz.zeroValue101
  t67 := Tryz.underlying35
  a67 := Tryz.isAgg35
  z67 := Tryz.sizeOf35
  v67 := Tryz.zeroValue35
  t69 := Tryz.underlying37
  a69 := Tryz.isAgg37
  z69 := Tryz.sizeOf37
  v69 := Tryz.zeroValue37
  t75 := Tryz.underlying126
  a75 := Tryz.isAgg126
  z75 := Tryz.sizeOf126
  v75 := Tryz.zeroValue126
  t79 := Tryz.underlying129
  a79 := Tryz.isAgg129
  z79 := Tryz.sizeOf129
  v79 := Tryz.zeroValue129
  t83 := Tryz.underlying148
  a83 := Tryz.isAgg148
  z83 := Tryz.sizeOf148
  v83 := Tryz.zeroValue148
  t84 := Tryz.underlying149
  a84 := Tryz.isAgg149
  z84 := Tryz.sizeOf149
  v84 := Tryz.zeroValue149 }
end Go.Proofs.YtcbkoeagfhpghaaGreat

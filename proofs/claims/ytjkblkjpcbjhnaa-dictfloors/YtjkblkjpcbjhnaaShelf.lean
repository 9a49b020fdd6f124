/-
  DERIVED: THE SHELF's CONTRACTS AT THIS DUMP, IN PLAIN WORDS (tools/lay-plain.mjs out of 'YtjkblkjpcbjhnaaSh0.lean', which tools/lay-shelf.mjs wrote): THE SAME DECLARATIONS UNDER THE SAME NAMES: 'import', 'namespace', 'open', 'def', 'theorem' AND NOTHING ELSE: no command of the shelf's: FOR A HAND-IN. Each laying: the table of numbers ('.._ren') and one theorem, a field a fact of the dump's own or the kernel's comparison; each contract: ONE APPLICATION.
-/
import Derived.Shelf.SlGeneric
import Derived.Shelf.SortG.Plain
import Derived.Shelf.SlicesG.SearchI
import Derived.Ground.SlgnProg
import Derived.Test.YtjkblkjpcbjhnaaProg
namespace Go.Proofs.Ytjkblkjpcbjhnaa
open Go.Shelf
def laidSort_ren : Go.Shelf.Ren := ⟨fun | 53 => 40 | 64 => 55 | 63 => 54 | 78 => 78 | 79 => 79 | 70 => 70 | 71 => 71 | 72 => 72 | 73 => 73 | 74 => 74 | 75 => 75 | 59 => 34 | 76 => 76 | 77 => 77 | 88 => 92 | 89 => 93 | 90 => 94 | 91 => 95 | 92 => 96 | 68 => 52 | 96 => 100 | n => n, fun | 22 => 22 | 23 => 2 | 3 => 3 | 51 => 66 | 0 => 0 | 67 => 63 | 69 => 52 | 4 => 4 | 61 => 113 | 60 => 112 | 44 => 26 | 5 => 5 | 9 => 9 | 75 => 131 | 79 => 134 | 83 => 136 | 84 => 137 | n => n, fun | n => n⟩
theorem laidSort : Go.Proofs.SlLaysN.n53 Try.prog laidSort_ren := {
  mixed := by kernel_rfl
  f53 := ⟨Try.f40.name, by decide, Try.func40.trans (congrArg some (by kernel_rfl))⟩
  f59 := ⟨Try.f34.name, by decide, Try.func34.trans (congrArg some (by kernel_rfl))⟩
  f63 := ⟨Try.f54.name, by decide, Try.func54.trans (congrArg some (by kernel_rfl))⟩
  f64 := Try.func55.trans (congrArg some (by kernel_rfl))
  f68 := ⟨Try.f52.name, by decide, Try.func52.trans (congrArg some (by kernel_rfl))⟩
  f70 := ⟨Try.f70.name, by decide, Try.func70.trans (congrArg some (by kernel_rfl))⟩
  f71 := ⟨Try.f71.name, by decide, Try.func71.trans (congrArg some (by kernel_rfl))⟩
  f72 := ⟨Try.f72.name, by decide, Try.func72.trans (congrArg some (by kernel_rfl))⟩
  f73 := ⟨Try.f73.name, by decide, Try.func73.trans (congrArg some (by kernel_rfl))⟩
  f74 := ⟨Try.f74.name, by decide, Try.func74.trans (congrArg some (by kernel_rfl))⟩
  f75 := ⟨Try.f75.name, by decide, Try.func75.trans (congrArg some (by kernel_rfl))⟩
  f76 := ⟨Try.f76.name, by decide, Try.func76.trans (congrArg some (by kernel_rfl))⟩
  f77 := ⟨Try.f77.name, by decide, Try.func77.trans (congrArg some (by kernel_rfl))⟩
  f78 := Try.func78.trans (congrArg some (by kernel_rfl))
  f79 := Try.func79.trans (congrArg some (by kernel_rfl))
  f88 := ⟨Try.f92.name, by decide, Try.func92.trans (congrArg some (by kernel_rfl))⟩
  f89 := Try.func93.trans (congrArg some (by kernel_rfl))
  f90 := Try.func94.trans (congrArg some (by kernel_rfl))
  f91 := ⟨Try.f95.name, by decide, Try.func95.trans (congrArg some (by kernel_rfl))⟩
  f92 := ⟨Try.f96.name, by decide, Try.func96.trans (congrArg some (by kernel_rfl))⟩
  f96 := ⟨Try.f100.name, by decide, Try.func100.trans (congrArg some (by kernel_rfl))⟩
  t0 := Try.underlying0
  a0 := Try.isAgg0
  z0 := Try.sizeOf0
  v0 := Try.zeroValue0
  t3 := Try.underlying3
  a3 := Try.isAgg3
  z3 := Try.sizeOf3
  v3 := Try.zeroValue3
  t4 := Try.underlying4
  a4 := Try.isAgg4
  z4 := Try.sizeOf4
  v4 := Try.zeroValue4
  t5 := Try.underlying5
  a5 := Try.isAgg5
  z5 := Try.sizeOf5
  v5 := Try.zeroValue5
  t9 := Try.underlying9
  a9 := Try.isAgg9
  z9 := Try.sizeOf9
  v9 := Try.zeroValue9
  t22 := Try.underlying22
  a22 := Try.isAgg22
  z22 := Try.sizeOf22
  v22 := Try.zeroValue22
  t23 := Try.underlying2
  a23 := Try.isAgg2
  z23 := Try.sizeOf2
  v23 := Try.zeroValue2
  t44 := Try.underlying26
  a44 := Try.isAgg26
  z44 := Try.sizeOf26
  v44 := Try.zeroValue26
  t51 := Try.underlying66
  a51 := Try.isAgg66
  z51 := Try.sizeOf66
  v51 := Try.zeroValue66
  t60 := Try.underlying112
  a60 := Try.isAgg112
  z60 := Try.sizeOf112
  v60 := Try.zeroValue112
  t61 := Try.underlying113
  a61 := Try.isAgg113
  z61 := Try.sizeOf113
  v61 := Try.zeroValue113
  t67 := Try.underlying63
  a67 := Try.isAgg63
  z67 := Try.sizeOf63
  v67 := Try.zeroValue63
  t69 := Try.underlying52
  a69 := Try.isAgg52
  z69 := Try.sizeOf52
  v69 := Try.zeroValue52
  t75 := Try.underlying131
  a75 := Try.isAgg131
  z75 := Try.sizeOf131
  v75 := Try.zeroValue131
  t79 := Try.underlying134
  a79 := Try.isAgg134
  z79 := Try.sizeOf134
  v79 := Try.zeroValue134
  t83 := Try.underlying136
  a83 := Try.isAgg136
  z83 := Try.sizeOf136
  v83 := Try.zeroValue136
  t84 := Try.underlying137
  a84 := Try.isAgg137
  z84 := Try.sizeOf137
  v84 := Try.zeroValue137 }
def laidFind_ren : Go.Shelf.Ren := ⟨fun | 49 => 24 | 59 => 34 | 60 => 35 | 68 => 52 | n => n, fun | 22 => 22 | 23 => 2 | 3 => 3 | 4 => 4 | 51 => 66 | 0 => 0 | n => n, fun | n => n⟩
theorem laidFind : Go.Proofs.SlLaysN.n49 Try.prog laidFind_ren := {
  mixed := by kernel_rfl
  f49 := ⟨Try.f24.name, by decide, Try.func24.trans (congrArg some (by kernel_rfl))⟩
  f59 := ⟨Try.f34.name, by decide, Try.func34.trans (congrArg some (by kernel_rfl))⟩
  f60 := ⟨Try.f35.name, by decide, Try.func35.trans (congrArg some (by kernel_rfl))⟩
  f68 := ⟨Try.f52.name, by decide, Try.func52.trans (congrArg some (by kernel_rfl))⟩
  t0 := Try.underlying0
  a0 := Try.isAgg0
  z0 := Try.sizeOf0
  v0 := Try.zeroValue0
  t3 := Try.underlying3
  a3 := Try.isAgg3
  z3 := Try.sizeOf3
  v3 := Try.zeroValue3
  t4 := Try.underlying4
  a4 := Try.isAgg4
  z4 := Try.sizeOf4
  v4 := Try.zeroValue4
  t22 := Try.underlying22
  a22 := Try.isAgg22
  z22 := Try.sizeOf22
  v22 := Try.zeroValue22
  t23 := Try.underlying2
  a23 := Try.isAgg2
  z23 := Try.sizeOf2
  v23 := Try.zeroValue2
  t51 := Try.underlying66
  a51 := Try.isAgg66
  z51 := Try.sizeOf66
  v51 := Try.zeroValue66 }
end Go.Proofs.Ytjkblkjpcbjhnaa

/-
  DERIVED: THE SHELF's CONTRACTS AT THIS DUMP, IN PLAIN WORDS (tools/lay-plain.mjs out of 'YtplikbbgbkipnaaSh0.lean', which tools/lay-shelf.mjs wrote): THE SAME DECLARATIONS UNDER THE SAME NAMES: 'import', 'namespace', 'open', 'def', 'theorem' AND NOTHING ELSE: no command of the shelf's: FOR A HAND-IN. Each laying: the table of numbers ('.._ren') and one theorem, a field a fact of the dump's own or the kernel's comparison; each contract: ONE APPLICATION.
-/
import Derived.Shelf.SlGeneric
import Derived.Shelf.SortG.Plain
import Derived.Shelf.SlicesG.SearchI
import Derived.Ground.SlgnProg
import Derived.Test.YtplikbbgbkipnaaProg
namespace Go.Proofs.Ytplikbbgbkipnaa
open Go.Shelf
def laidSort_ren : Go.Shelf.Ren := ⟨fun | 53 => 62 | 64 => 79 | 63 => 78 | 78 => 98 | 79 => 80 | 70 => 90 | 71 => 91 | 72 => 92 | 73 => 93 | 74 => 94 | 75 => 95 | 59 => 40 | 76 => 96 | 77 => 97 | 88 => 101 | 89 => 102 | 90 => 103 | 91 => 104 | 92 => 105 | 68 => 63 | 96 => 106 | n => n, fun | 22 => 22 | 23 => 2 | 3 => 3 | 51 => 69 | 0 => 0 | 67 => 45 | 69 => 51 | 4 => 4 | 61 => 125 | 60 => 124 | 44 => 26 | 5 => 5 | 9 => 9 | 75 => 131 | 79 => 134 | 83 => 136 | 84 => 137 | n => n, fun | n => n⟩
theorem laidSort : Go.Proofs.SlLaysN.n53 Try.prog laidSort_ren := {
  mixed := by kernel_rfl
  f53 := ⟨Try.f62.name, by decide, Try.func62.trans (congrArg some (by kernel_rfl))⟩
  f59 := ⟨Try.f40.name, by decide, Try.func40.trans (congrArg some (by kernel_rfl))⟩
  f63 := ⟨Try.f78.name, by decide, Try.func78.trans (congrArg some (by kernel_rfl))⟩
  f64 := Try.func79.trans (congrArg some (by kernel_rfl))
  f68 := ⟨Try.f63.name, by decide, Try.func63.trans (congrArg some (by kernel_rfl))⟩
  f70 := ⟨Try.f90.name, by decide, Try.func90.trans (congrArg some (by kernel_rfl))⟩
  f71 := ⟨Try.f91.name, by decide, Try.func91.trans (congrArg some (by kernel_rfl))⟩
  f72 := ⟨Try.f92.name, by decide, Try.func92.trans (congrArg some (by kernel_rfl))⟩
  f73 := ⟨Try.f93.name, by decide, Try.func93.trans (congrArg some (by kernel_rfl))⟩
  f74 := ⟨Try.f94.name, by decide, Try.func94.trans (congrArg some (by kernel_rfl))⟩
  f75 := ⟨Try.f95.name, by decide, Try.func95.trans (congrArg some (by kernel_rfl))⟩
  f76 := ⟨Try.f96.name, by decide, Try.func96.trans (congrArg some (by kernel_rfl))⟩
  f77 := ⟨Try.f97.name, by decide, Try.func97.trans (congrArg some (by kernel_rfl))⟩
  f78 := Try.func98.trans (congrArg some (by kernel_rfl))
  f79 := Try.func80.trans (congrArg some (by kernel_rfl))
  f88 := ⟨Try.f101.name, by decide, Try.func101.trans (congrArg some (by kernel_rfl))⟩
  f89 := Try.func102.trans (congrArg some (by kernel_rfl))
  f90 := Try.func103.trans (congrArg some (by kernel_rfl))
  f91 := ⟨Try.f104.name, by decide, Try.func104.trans (congrArg some (by kernel_rfl))⟩
  f92 := ⟨Try.f105.name, by decide, Try.func105.trans (congrArg some (by kernel_rfl))⟩
  f96 := ⟨Try.f106.name, by decide, Try.func106.trans (congrArg some (by kernel_rfl))⟩
  t0 := Try.underlying0
  a0 := Try.isAgg0
  z0 := Try.sizeOf0
  v0 := Try.zeroValue0
  t3 := Try.underlying3
  a3 := Try.isAgg3
  z3 := Try.sizeOf3
  v3 := Try.zeroValue3
  t4 := Try.underlying4
  a4 := Try.isAgg4
  z4 := Try.sizeOf4
  v4 := Try.zeroValue4
  t5 := Try.underlying5
  a5 := Try.isAgg5
  z5 := Try.sizeOf5
  v5 := Try.zeroValue5
  t9 := Try.underlying9
  a9 := Try.isAgg9
  z9 := Try.sizeOf9
  v9 := Try.zeroValue9
  t22 := Try.underlying22
  a22 := Try.isAgg22
  z22 := Try.sizeOf22
  v22 := Try.zeroValue22
  t23 := Try.underlying2
  a23 := Try.isAgg2
  z23 := Try.sizeOf2
  v23 := Try.zeroValue2
  t44 := Try.underlying26
  a44 := Try.isAgg26
  z44 := Try.sizeOf26
  v44 := Try.zeroValue26
  t51 := Try.underlying69
  a51 := Try.isAgg69
  z51 := Try.sizeOf69
  v51 := Try.zeroValue69
  t60 := Try.underlying124
  a60 := Try.isAgg124
  z60 := Try.sizeOf124
  v60 := Try.zeroValue124
  t61 := Try.underlying125
  a61 := Try.isAgg125
  z61 := Try.sizeOf125
  v61 := Try.zeroValue125
  t67 := Try.underlying45
  a67 := Try.isAgg45
  z67 := Try.sizeOf45
  v67 := Try.zeroValue45
  t69 := Try.underlying51
  a69 := Try.isAgg51
  z69 := Try.sizeOf51
  v69 := Try.zeroValue51
  t75 := Try.underlying131
  a75 := Try.isAgg131
  z75 := Try.sizeOf131
  v75 := Try.zeroValue131
  t79 := Try.underlying134
  a79 := Try.isAgg134
  z79 := Try.sizeOf134
  v79 := Try.zeroValue134
  t83 := Try.underlying136
  a83 := Try.isAgg136
  z83 := Try.sizeOf136
  v83 := Try.zeroValue136
  t84 := Try.underlying137
  a84 := Try.isAgg137
  z84 := Try.sizeOf137
  v84 := Try.zeroValue137 }
def laidFind_ren : Go.Shelf.Ren := ⟨fun | 49 => 24 | 59 => 40 | 60 => 41 | 68 => 63 | n => n, fun | 22 => 22 | 23 => 2 | 3 => 3 | 4 => 4 | 51 => 69 | 0 => 0 | n => n, fun | n => n⟩
theorem laidFind : Go.Proofs.SlLaysN.n49 Try.prog laidFind_ren := {
  mixed := by kernel_rfl
  f49 := ⟨Try.f24.name, by decide, Try.func24.trans (congrArg some (by kernel_rfl))⟩
  f59 := ⟨Try.f40.name, by decide, Try.func40.trans (congrArg some (by kernel_rfl))⟩
  f60 := ⟨Try.f41.name, by decide, Try.func41.trans (congrArg some (by kernel_rfl))⟩
  f68 := ⟨Try.f63.name, by decide, Try.func63.trans (congrArg some (by kernel_rfl))⟩
  t0 := Try.underlying0
  a0 := Try.isAgg0
  z0 := Try.sizeOf0
  v0 := Try.zeroValue0
  t3 := Try.underlying3
  a3 := Try.isAgg3
  z3 := Try.sizeOf3
  v3 := Try.zeroValue3
  t4 := Try.underlying4
  a4 := Try.isAgg4
  z4 := Try.sizeOf4
  v4 := Try.zeroValue4
  t22 := Try.underlying22
  a22 := Try.isAgg22
  z22 := Try.sizeOf22
  v22 := Try.zeroValue22
  t23 := Try.underlying2
  a23 := Try.isAgg2
  z23 := Try.sizeOf2
  v23 := Try.zeroValue2
  t51 := Try.underlying69
  a51 := Try.isAgg69
  z51 := Try.sizeOf69
  v51 := Try.zeroValue69 }
end Go.Proofs.Ytplikbbgbkipnaa

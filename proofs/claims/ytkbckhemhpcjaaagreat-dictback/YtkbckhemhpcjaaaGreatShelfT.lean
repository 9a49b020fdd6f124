/-
  DERIVED: THE SHELF's CONTRACTS AT THIS DUMP, IN PLAIN WORDS (tools/lay-plain.mjs out of 'YtkbckhemhpcjaaaGreatShT0.lean', which tools/lay-shelf.mjs wrote): THE SAME DECLARATIONS UNDER THE SAME NAMES: 'import', 'namespace', 'open', 'def', 'theorem' AND NOTHING ELSE: no command of the shelf's: FOR A HAND-IN. Each laying: the table of numbers ('.._ren') and one theorem, a field a fact of the dump's own or the kernel's comparison; each contract: ONE APPLICATION.
-/
import Derived.Shelf.SlGeneric
import Derived.Shelf.SortG.Plain
import Derived.Ground.SlgnProg
import Derived.Test.YtkbckhemhpcjaaaGreatProg
namespace Go.Proofs.YtkbckhemhpcjaaaGreat
open Go.Shelf
def laidSortT_ren : Go.Shelf.Ren := ⟨fun | 54 => 79 | 64 => 82 | 65 => 94 | 78 => 104 | 79 => 84 | 80 => 107 | 81 => 108 | 82 => 109 | 83 => 110 | 84 => 111 | 85 => 112 | 61 => 80 | 86 => 113 | 87 => 114 | 93 => 120 | 89 => 116 | 90 => 117 | 94 => 121 | 95 => 122 | 69 => 95 | 97 => 124 | n => n, fun | 25 => 23 | 26 => 9 | 3 => 3 | 51 => 88 | 0 => 0 | 67 => 37 | 69 => 50 | 4 => 4 | 61 => 144 | 60 => 143 | 44 => 47 | 5 => 5 | 9 => 9 | 75 => 155 | 79 => 158 | 83 => 162 | 84 => 163 | n => n, fun | n => n⟩
theorem laidSortT : Go.Proofs.SlLaysN.n54 Tryz.prog laidSortT_ren := {
  mixed := by kernel_rfl
  f54 := ⟨Tryz.f79.name, by decide, Tryz.func79.trans (congrArg some (by kernel_rfl))⟩
  f61 := ⟨Tryz.f80.name, by decide, Tryz.func80.trans (congrArg some (by kernel_rfl))⟩
  f64 := Tryz.func82.trans (congrArg some (by kernel_rfl))
  f65 := ⟨Tryz.f94.name, by decide, Tryz.func94.trans (congrArg some (by kernel_rfl))⟩
  f69 := ⟨Tryz.f95.name, by decide, Tryz.func95.trans (congrArg some (by kernel_rfl))⟩
  f78 := Tryz.func104.trans (congrArg some (by kernel_rfl))
  f79 := Tryz.func84.trans (congrArg some (by kernel_rfl))
  f80 := ⟨Tryz.f107.name, by decide, Tryz.func107.trans (congrArg some (by kernel_rfl))⟩
  f81 := ⟨Tryz.f108.name, by decide, Tryz.func108.trans (congrArg some (by kernel_rfl))⟩
  f82 := ⟨Tryz.f109.name, by decide, Tryz.func109.trans (congrArg some (by kernel_rfl))⟩
  f83 := ⟨Tryz.f110.name, by decide, Tryz.func110.trans (congrArg some (by kernel_rfl))⟩
  f84 := ⟨Tryz.f111.name, by decide, Tryz.func111.trans (congrArg some (by kernel_rfl))⟩
  f85 := ⟨Tryz.f112.name, by decide, Tryz.func112.trans (congrArg some (by kernel_rfl))⟩
  f86 := ⟨Tryz.f113.name, by decide, Tryz.func113.trans (congrArg some (by kernel_rfl))⟩
  f87 := ⟨Tryz.f114.name, by decide, Tryz.func114.trans (congrArg some (by kernel_rfl))⟩
  f89 := Tryz.func116.trans (congrArg some (by kernel_rfl))
  f90 := Tryz.func117.trans (congrArg some (by kernel_rfl))
  f93 := ⟨Tryz.f120.name, by decide, Tryz.func120.trans (congrArg some (by kernel_rfl))⟩
  f94 := ⟨Tryz.f121.name, by decide, Tryz.func121.trans (congrArg some (by kernel_rfl))⟩
  f95 := ⟨Tryz.f122.name, by decide, Tryz.func122.trans (congrArg some (by kernel_rfl))⟩
  f97 := ⟨Tryz.f124.name, by decide, Tryz.func124.trans (congrArg some (by kernel_rfl))⟩
  t0 := Tryz.underlying0
  a0 := Tryz.isAgg0
  z0 := Tryz.sizeOf0
  v0 := Tryz.zeroValue0
  t3 := Tryz.underlying3
  a3 := Tryz.isAgg3
  z3 := Tryz.sizeOf3
  v3 := Tryz.zeroValue3
  t4 := Tryz.underlying4
  a4 := Tryz.isAgg4
  z4 := Tryz.sizeOf4
  v4 := Tryz.zeroValue4
  t5 := Tryz.underlying5
  a5 := Tryz.isAgg5
  z5 := Tryz.sizeOf5
  v5 := Tryz.zeroValue5
  t9 := Tryz.underlying9
  a9 := Tryz.isAgg9
  z9 := Tryz.sizeOf9
  v9 := Tryz.zeroValue9
  t25 := Tryz.underlying23
  a25 := Tryz.isAgg23
  z25 := Tryz.sizeOf23
  v25 := Tryz.zeroValue23
  t26 := Tryz.underlying9
  a26 := Tryz.isAgg9
  z26 := Tryz.sizeOf9
  v26 := Tryz.zeroValue9
  t44 := Tryz.underlying47
  a44 := Tryz.isAgg47
  z44 := Tryz.sizeOf47
  v44 := Tryz.zeroValue47
  t51 := Tryz.underlying88
  a51 := Tryz.isAgg88
  z51 := Tryz.sizeOf88
  v51 := Tryz.zeroValue88
  t60 := Tryz.underlying143
  a60 := Tryz.isAgg143
  z60 := Tryz.sizeOf143
  v60 := Tryz.zeroValue143
  t61 := Tryz.underlying144
  a61 := Tryz.isAgg144
  z61 := Tryz.sizeOf144
  v61 := Tryz.zeroValue144
  t67 := Tryz.underlying37
  a67 := Tryz.isAgg37
  z67 := Tryz.sizeOf37
  v67 := Tryz.zeroValue37
  t69 := Tryz.underlying50
  a69 := Tryz.isAgg50
  z69 := Tryz.sizeOf50
  v69 := Tryz.zeroValue50
  t75 := Tryz.underlying155
  a75 := Tryz.isAgg155
  z75 := Tryz.sizeOf155
  v75 := Tryz.zeroValue155
  t79 := Tryz.underlying158
  a79 := Tryz.isAgg158
  z79 := Tryz.sizeOf158
  v79 := Tryz.zeroValue158
  t83 := Tryz.underlying162
  a83 := Tryz.isAgg162
  z83 := Tryz.sizeOf162
  v83 := Tryz.zeroValue162
  t84 := Tryz.underlying163
  a84 := Tryz.isAgg163
  z84 := Tryz.sizeOf163
  v84 := Tryz.zeroValue163 }
end Go.Proofs.YtkbckhemhpcjaaaGreat

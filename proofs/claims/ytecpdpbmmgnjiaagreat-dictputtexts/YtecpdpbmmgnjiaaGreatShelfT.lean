/-
  DERIVED: THE SHELF's CONTRACTS AT THIS DUMP, IN PLAIN WORDS (tools/lay-plain.mjs out of 'YtecpdpbmmgnjiaaGreatShT0.lean', which tools/lay-shelf.mjs wrote): THE SAME DECLARATIONS UNDER THE SAME NAMES: 'import', 'namespace', 'open', 'def', 'theorem' AND NOTHING ELSE: no command of the shelf's: FOR A HAND-IN. Each laying: the table of numbers ('.._ren') and one theorem, a field a fact of the dump's own or the kernel's comparison; each contract: ONE APPLICATION.
-/
import Derived.Shelf.SlGeneric
import Derived.Shelf.SortG.Plain
import Derived.Ground.SlgnProg
import Derived.Test.YtecpdpbmmgnjiaaGreatProg
namespace Go.Proofs.YtecpdpbmmgnjiaaGreat
open Go.Shelf
def laidSortT_ren : Go.Shelf.Ren := ⟨fun | 54 => 57 | 64 => 65 | 65 => 75 | 78 => 86 | 79 => 77 | 80 => 98 | 81 => 99 | 82 => 100 | 83 => 101 | 84 => 102 | 85 => 103 | 61 => 104 | 86 => 105 | 87 => 106 | 93 => 115 | 89 => 108 | 90 => 109 | 94 => 116 | 95 => 117 | 69 => 118 | 97 => 120 | n => n, fun | 25 => 22 | 26 => 9 | 3 => 3 | 51 => 90 | 0 => 0 | 67 => 58 | 69 => 42 | 4 => 4 | 61 => 118 | 60 => 117 | 44 => 38 | 5 => 5 | 9 => 9 | 75 => 142 | 79 => 145 | 83 => 150 | 84 => 151 | n => n, fun | n => n⟩
theorem laidSortT : Go.Proofs.SlLaysN.n54 Tryz.prog laidSortT_ren := {
  mixed := by kernel_rfl
  f54 := ⟨Tryz.f57.name, by decide, Tryz.func57.trans (congrArg some (by kernel_rfl))⟩
  f61 := ⟨Tryz.f104.name, by decide, Tryz.func104.trans (congrArg some (by kernel_rfl))⟩
  f64 := Tryz.func65.trans (congrArg some (by kernel_rfl))
  f65 := ⟨Tryz.f75.name, by decide, Tryz.func75.trans (congrArg some (by kernel_rfl))⟩
  f69 := ⟨Tryz.f118.name, by decide, Tryz.func118.trans (congrArg some (by kernel_rfl))⟩
  f78 := Tryz.func86.trans (congrArg some (by kernel_rfl))
  f79 := Tryz.func77.trans (congrArg some (by kernel_rfl))
  f80 := ⟨Tryz.f98.name, by decide, Tryz.func98.trans (congrArg some (by kernel_rfl))⟩
  f81 := ⟨Tryz.f99.name, by decide, Tryz.func99.trans (congrArg some (by kernel_rfl))⟩
  f82 := ⟨Tryz.f100.name, by decide, Tryz.func100.trans (congrArg some (by kernel_rfl))⟩
  f83 := ⟨Tryz.f101.name, by decide, Tryz.func101.trans (congrArg some (by kernel_rfl))⟩
  f84 := ⟨Tryz.f102.name, by decide, Tryz.func102.trans (congrArg some (by kernel_rfl))⟩
  f85 := ⟨Tryz.f103.name, by decide, Tryz.func103.trans (congrArg some (by kernel_rfl))⟩
  f86 := ⟨Tryz.f105.name, by decide, Tryz.func105.trans (congrArg some (by kernel_rfl))⟩
  f87 := ⟨Tryz.f106.name, by decide, Tryz.func106.trans (congrArg some (by kernel_rfl))⟩
  f89 := Tryz.func108.trans (congrArg some (by kernel_rfl))
  f90 := Tryz.func109.trans (congrArg some (by kernel_rfl))
  f93 := ⟨Tryz.f115.name, by decide, Tryz.func115.trans (congrArg some (by kernel_rfl))⟩
  f94 := ⟨Tryz.f116.name, by decide, Tryz.func116.trans (congrArg some (by kernel_rfl))⟩
  f95 := ⟨Tryz.f117.name, by decide, Tryz.func117.trans (congrArg some (by kernel_rfl))⟩
  f97 := ⟨Tryz.f120.name, by decide, Tryz.func120.trans (congrArg some (by kernel_rfl))⟩
  t0 := Tryz.underlying0
  a0 := Tryz.isAgg0
  z0 := Tryz.sizeOf0
  v0 := Tryz.zeroValue0
  t3 := Tryz.underlying3
  a3 := Tryz.isAgg3
  z3 := Tryz.sizeOf3
  v3 := Tryz.zeroValue3
  t4 := Tryz.underlying4
  a4 := Tryz.isAgg4
  z4 := Tryz.sizeOf4
  v4 := Tryz.zeroValue4
  t5 := Tryz.underlying5
  a5 := Tryz.isAgg5
  z5 := Tryz.sizeOf5
  v5 := Tryz.zeroValue5
  t9 := Tryz.underlying9
  a9 := Tryz.isAgg9
  z9 := Tryz.sizeOf9
  v9 := Tryz.zeroValue9
  t25 := Tryz.underlying22
  a25 := Tryz.isAgg22
  z25 := Tryz.sizeOf22
  v25 := Tryz.zeroValue22
  t26 := Tryz.underlying9
  a26 := Tryz.isAgg9
  z26 := Tryz.sizeOf9
  v26 := Tryz.zeroValue9
  t44 := Tryz.underlying38
  a44 := Tryz.isAgg38
  z44 := Tryz.sizeOf38
  v44 := Tryz.zeroValue38
  t51 := Tryz.underlying90
  a51 := Tryz.isAgg90
  z51 := Tryz.sizeOf90
  v51 := Tryz.zeroValue90
  t60 := Tryz.underlying117
  a60 := Tryz.isAgg117
  z60 := Tryz.sizeOf117
  v60 := Tryz.zeroValue117
  t61 := Tryz.underlying118
  a61 := Tryz.isAgg118
  z61 := Tryz.sizeOf118
  v61 := Tryz.zeroValue118
  t67 := Tryz.underlying58
  a67 := Tryz.isAgg58
  z67 := Tryz.sizeOf58
  v67 := Tryz.zeroValue58
  t69 := Tryz.underlying42
  a69 := Tryz.isAgg42
  z69 := Tryz.sizeOf42
  v69 := Tryz.zeroValue42
  t75 := Tryz.underlying142
  a75 := Tryz.isAgg142
  z75 := Tryz.sizeOf142
  v75 := Tryz.zeroValue142
  t79 := Tryz.underlying145
  a79 := Tryz.isAgg145
  z79 := Tryz.sizeOf145
  v79 := Tryz.zeroValue145
  t83 := Tryz.underlying150
  a83 := Tryz.isAgg150
  z83 := Tryz.sizeOf150
  v83 := Tryz.zeroValue150
  t84 := Tryz.underlying151
  a84 := Tryz.isAgg151
  z84 := Tryz.sizeOf151
  v84 := Tryz.zeroValue151 }
end Go.Proofs.YtecpdpbmmgnjiaaGreat

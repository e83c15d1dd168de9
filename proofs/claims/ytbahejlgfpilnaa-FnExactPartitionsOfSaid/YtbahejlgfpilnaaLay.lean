/-
  DERIVED: THE SHELF's CONTRACTS AT THIS DUMP, IN PLAIN WORDS (tools/lay-plain.mjs out of 'YtbahejlgfpilnaaLay.lean', which tools/lay-shelf.mjs wrote): THE SAME DECLARATIONS UNDER THE SAME NAMES: 'import', 'namespace', 'open', 'def', 'theorem' AND NOTHING ELSE: no command of the shelf's: FOR A HAND-IN. Each laying: the table of numbers ('.._ren') and one theorem, a field a fact of the dump's own or the kernel's comparison; each contract: ONE APPLICATION.
-/
import Derived.Shelf.SlSortCmp.WholeK
import Derived.Ground.SlsfProg
import Derived.Test.YtbahejlgfpilnaaProg
namespace Go.Proofs
open Go.Shelf
def Try.sortTm_ren : Go.Shelf.Ren := ⟨fun | 6 => 217 | 15 => 239 | 14 => 238 | 28 => 254 | 29 => 255 | 20 => 246 | 21 => 247 | 22 => 248 | 23 => 249 | 24 => 250 | 25 => 251 | 26 => 252 | 27 => 253 | 46 => 258 | 47 => 259 | 48 => 260 | 49 => 261 | 50 => 262 | 57 => 264 | n => n, fun | 22 => 40 | 24 => 151 | 25 => 218 | 3 => 3 | 39 => 234 | 0 => 0 | 53 => 251 | 55 => 253 | 4 => 4 | 46 => 244 | 45 => 243 | 50 => 248 | 5 => 5 | 9 => 9 | 66 => 256 | 70 => 260 | 76 => 263 | 77 => 264 | n => n, fun | n => n⟩
theorem Try.sortTm : Go.Proofs.SlLaysF0.n6 Try.prog Try.sortTm_ren := {
  mixed := by kernel_rfl
  f6 := ⟨Try.f217.name, by decide, Try.func217.trans (congrArg some (by kernel_rfl))⟩
  f14 := ⟨Try.f238.name, by decide, Try.func238.trans (congrArg some (by kernel_rfl))⟩
  f15 := Try.func239.trans (congrArg some (by kernel_rfl))
  f20 := ⟨Try.f246.name, by decide, Try.func246.trans (congrArg some (by kernel_rfl))⟩
  f21 := ⟨Try.f247.name, by decide, Try.func247.trans (congrArg some (by kernel_rfl))⟩
  f22 := ⟨Try.f248.name, by decide, Try.func248.trans (congrArg some (by kernel_rfl))⟩
  f23 := ⟨Try.f249.name, by decide, Try.func249.trans (congrArg some (by kernel_rfl))⟩
  f24 := ⟨Try.f250.name, by decide, Try.func250.trans (congrArg some (by kernel_rfl))⟩
  f25 := ⟨Try.f251.name, by decide, Try.func251.trans (congrArg some (by kernel_rfl))⟩
  f26 := ⟨Try.f252.name, by decide, Try.func252.trans (congrArg some (by kernel_rfl))⟩
  f27 := ⟨Try.f253.name, by decide, Try.func253.trans (congrArg some (by kernel_rfl))⟩
  f28 := Try.func254.trans (congrArg some (by kernel_rfl))
  f29 := Try.func255.trans (congrArg some (by kernel_rfl))
  f46 := ⟨Try.f258.name, by decide, Try.func258.trans (congrArg some (by kernel_rfl))⟩
  f47 := Try.func259.trans (congrArg some (by kernel_rfl))
  f48 := Try.func260.trans (congrArg some (by kernel_rfl))
  f49 := ⟨Try.f261.name, by decide, Try.func261.trans (congrArg some (by kernel_rfl))⟩
  f50 := ⟨Try.f262.name, by decide, Try.func262.trans (congrArg some (by kernel_rfl))⟩
  f57 := ⟨Try.f264.name, by decide, Try.func264.trans (congrArg some (by kernel_rfl))⟩
  t0 := Try.underlying0
  a0 := Try.isAgg0
  z0 := Try.sizeOf0
  v0 := Try.zeroValue0
  t3 := Try.underlying3
  a3 := Try.isAgg3
  z3 := Try.sizeOf3
  v3 := Try.zeroValue3
  t4 := Try.underlying4
  a4 := Try.isAgg4
  z4 := Try.sizeOf4
  v4 := Try.zeroValue4
  t5 := Try.underlying5
  a5 := Try.isAgg5
  z5 := Try.sizeOf5
  v5 := Try.zeroValue5
  t9 := Try.underlying9
  a9 := Try.isAgg9
  z9 := Try.sizeOf9
  v9 := Try.zeroValue9
  t22 := Try.underlying40
  a22 := Try.isAgg40
  z22 := Try.sizeOf40
  v22 := Try.zeroValue40
  t25 := Try.underlying218
  a25 := Try.isAgg218
  z25 := Try.sizeOf218
  v25 := Try.zeroValue218
  t39 := Try.underlying234
  a39 := Try.isAgg234
  z39 := Try.sizeOf234
  v39 := Try.zeroValue234
  t45 := Try.underlying243
  a45 := Try.isAgg243
  z45 := Try.sizeOf243
  v45 := Try.zeroValue243
  t46 := Try.underlying244
  a46 := Try.isAgg244
  z46 := Try.sizeOf244
  v46 := Try.zeroValue244
  t50 := Try.underlying248
  a50 := Try.isAgg248
  z50 := Try.sizeOf248
  v50 := Try.zeroValue248
  t53 := Try.underlying251
  a53 := Try.isAgg251
  z53 := Try.sizeOf251
  v53 := Try.zeroValue251
  t55 := Try.underlying253
  a55 := Try.isAgg253
  z55 := Try.sizeOf253
  v55 := Try.zeroValue253
  t66 := Try.underlying256
  a66 := Try.isAgg256
  z66 := Try.sizeOf256
  v66 := Try.zeroValue256
  t70 := Try.underlying260
  a70 := Try.isAgg260
  z70 := Try.sizeOf260
  v70 := Try.zeroValue260
  t76 := Try.underlying263
  a76 := Try.isAgg263
  z76 := Try.sizeOf263
  v76 := Try.zeroValue263
  t77 := Try.underlying264
  a77 := Try.isAgg264
  z77 := Try.sizeOf264
  v77 := Try.zeroValue264 }
end Go.Proofs

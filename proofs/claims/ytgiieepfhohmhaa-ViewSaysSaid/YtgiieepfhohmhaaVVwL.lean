/- The laying of slices.SortFunc at rows of what is seen. -/
import Derived.Shelf.SlSortCmp.WholeK
import Derived.Ground.SlsfProg
import Derived.Test.YtgiieepfhohmhaaProg
import Derived.Shelf.SlSortCmp.NoneTotal
import Derived.Test.YtgiieepfhohmhaaVVwK
namespace Go.Proofs
open Go.Shelf
def Try.sortSeen_ren : Go.Shelf.Ren := ⟨fun | 6 => 169 | 15 => 189 | 14 => 188 | 28 => 207 | 29 => 208 | 20 => 199 | 21 => 200 | 22 => 201 | 23 => 202 | 24 => 203 | 25 => 204 | 26 => 205 | 27 => 206 | 46 => 212 | 47 => 213 | 48 => 214 | 49 => 215 | 50 => 216 | 57 => 218 | n => n, fun | 22 => 113 | 24 => 171 | 25 => 223 | 3 => 3 | 39 => 185 | 0 => 0 | 53 => 33 | 55 => 121 | 4 => 4 | 46 => 263 | 45 => 262 | 50 => 202 | 5 => 5 | 9 => 9 | 66 => 270 | 70 => 274 | 76 => 278 | 77 => 49 | n => n, fun | n => n⟩
theorem Try.sortSeen : Go.Proofs.SlLaysF0.n6 Try.prog Try.sortSeen_ren := {
  mixed := by kernel_rfl
  f6 := ⟨Try.f169.name, by decide, Try.func169.trans (congrArg some (by kernel_rfl))⟩
  f14 := ⟨Try.f188.name, by decide, Try.func188.trans (congrArg some (by kernel_rfl))⟩
  f15 := Try.func189.trans (congrArg some (by kernel_rfl))
  f20 := ⟨Try.f199.name, by decide, Try.func199.trans (congrArg some (by kernel_rfl))⟩
  f21 := ⟨Try.f200.name, by decide, Try.func200.trans (congrArg some (by kernel_rfl))⟩
  f22 := ⟨Try.f201.name, by decide, Try.func201.trans (congrArg some (by kernel_rfl))⟩
  f23 := ⟨Try.f202.name, by decide, Try.func202.trans (congrArg some (by kernel_rfl))⟩
  f24 := ⟨Try.f203.name, by decide, Try.func203.trans (congrArg some (by kernel_rfl))⟩
  f25 := ⟨Try.f204.name, by decide, Try.func204.trans (congrArg some (by kernel_rfl))⟩
  f26 := ⟨Try.f205.name, by decide, Try.func205.trans (congrArg some (by kernel_rfl))⟩
  f27 := ⟨Try.f206.name, by decide, Try.func206.trans (congrArg some (by kernel_rfl))⟩
  f28 := Try.func207.trans (congrArg some (by kernel_rfl))
  f29 := Try.func208.trans (congrArg some (by kernel_rfl))
  f46 := ⟨Try.f212.name, by decide, Try.func212.trans (congrArg some (by kernel_rfl))⟩
  f47 := Try.func213.trans (congrArg some (by kernel_rfl))
  f48 := Try.func214.trans (congrArg some (by kernel_rfl))
  f49 := ⟨Try.f215.name, by decide, Try.func215.trans (congrArg some (by kernel_rfl))⟩
  f50 := ⟨Try.f216.name, by decide, Try.func216.trans (congrArg some (by kernel_rfl))⟩
  f57 := ⟨Try.f218.name, by decide, Try.func218.trans (congrArg some (by kernel_rfl))⟩
  t0 := Try.underlying0
  a0 := Try.isAgg0
  z0 := Try.sizeOf0
  v0 := Try.zeroValue0
  t3 := Try.underlying3
  a3 := Try.isAgg3
  z3 := Try.sizeOf3
  v3 := Try.zeroValue3
  t4 := Try.underlying4
  a4 := Try.isAgg4
  z4 := Try.sizeOf4
  v4 := Try.zeroValue4
  t5 := Try.underlying5
  a5 := Try.isAgg5
  z5 := Try.sizeOf5
  v5 := Try.zeroValue5
  t9 := Try.underlying9
  a9 := Try.isAgg9
  z9 := Try.sizeOf9
  v9 := Try.zeroValue9
  t22 := Try.underlying113
  a22 := Try.isAgg113
  z22 := Try.sizeOf113
  v22 := Try.zeroValue113
  t25 := Try.underlying223
  a25 := Try.isAgg223
  z25 := Try.sizeOf223
  v25 := Try.zeroValue223
  t39 := Try.underlying185
  a39 := Try.isAgg185
  z39 := Try.sizeOf185
  v39 := Try.zeroValue185
  t45 := Try.underlying262
  a45 := Try.isAgg262
  z45 := Try.sizeOf262
  v45 := Try.zeroValue262
  t46 := Try.underlying263
  a46 := Try.isAgg263
  z46 := Try.sizeOf263
  v46 := Try.zeroValue263
  t50 := Try.underlying202
  a50 := Try.isAgg202
  z50 := Try.sizeOf202
  v50 := Try.zeroValue202
  t53 := Try.underlying33
  a53 := Try.isAgg33
  z53 := Try.sizeOf33
  v53 := Try.zeroValue33
  t55 := Try.underlying121
  a55 := Try.isAgg121
  z55 := Try.sizeOf121
  v55 := Try.zeroValue121
  t66 := Try.underlying270
  a66 := Try.isAgg270
  z66 := Try.sizeOf270
  v66 := Try.zeroValue270
  t70 := Try.underlying274
  a70 := Try.isAgg274
  z70 := Try.sizeOf274
  v70 := Try.zeroValue274
  t76 := Try.underlying278
  a76 := Try.isAgg278
  z76 := Try.sizeOf278
  v76 := Try.zeroValue278
  t77 := Try.underlying49
  a77 := Try.isAgg49
  z77 := Try.sizeOf49
  v77 := Try.zeroValue49 }
end Go.Proofs
namespace Go.Proofs.Ytgiieepfhohmhaa
open Go.RowKit
theorem sort_lays : SlLaysF0.n6 Try.prog Try.sortSeen_ren := Try.sortSeen
theorem sort_none : Hid (∀ w, Calls Try.prog 169 #[.slice none 0 0, .func (.func 170) #[] #[]] w fun e w' => e = .returned (.tuple #[]) ∧ w' = w) := fun w => AnyF.slices_SortFunc_none sort_lays none 0 (.func (.func 170) #[] #[]) w
end Go.Proofs.Ytgiieepfhohmhaa

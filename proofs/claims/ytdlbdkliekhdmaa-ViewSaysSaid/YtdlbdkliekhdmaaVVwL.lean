/- The laying of slices.SortFunc at rows of what is seen. -/
import Derived.Shelf.SlSortCmp.WholeK
import Derived.Ground.SlsfProg
import Derived.Test.YtdlbdkliekhdmaaProg
import Derived.Shelf.SlSortCmp.NoneTotal
import Derived.Test.YtdlbdkliekhdmaaVVwK
namespace Go.Proofs
open Go.Shelf
def Try.sortSeen_ren : Go.Shelf.Ren := ⟨fun | 6 => 172 | 15 => 193 | 14 => 192 | 28 => 208 | 29 => 209 | 20 => 200 | 21 => 201 | 22 => 202 | 23 => 203 | 24 => 204 | 25 => 205 | 26 => 206 | 27 => 207 | 46 => 212 | 47 => 213 | 48 => 214 | 49 => 215 | 50 => 216 | 57 => 218 | n => n, fun | 22 => 113 | 24 => 171 | 25 => 228 | 3 => 3 | 39 => 185 | 0 => 0 | 53 => 33 | 55 => 121 | 4 => 4 | 46 => 259 | 45 => 258 | 50 => 207 | 5 => 5 | 9 => 9 | 66 => 266 | 70 => 270 | 76 => 274 | 77 => 49 | n => n, fun | n => n⟩
theorem Try.sortSeen : Go.Proofs.SlLaysF0.n6 Try.prog Try.sortSeen_ren := {
  mixed := by kernel_rfl
  f6 := ⟨Try.f172.name, by decide, Try.func172.trans (congrArg some (by kernel_rfl))⟩
  f14 := ⟨Try.f192.name, by decide, Try.func192.trans (congrArg some (by kernel_rfl))⟩
  f15 := Try.func193.trans (congrArg some (by kernel_rfl))
  f20 := ⟨Try.f200.name, by decide, Try.func200.trans (congrArg some (by kernel_rfl))⟩
  f21 := ⟨Try.f201.name, by decide, Try.func201.trans (congrArg some (by kernel_rfl))⟩
  f22 := ⟨Try.f202.name, by decide, Try.func202.trans (congrArg some (by kernel_rfl))⟩
  f23 := ⟨Try.f203.name, by decide, Try.func203.trans (congrArg some (by kernel_rfl))⟩
  f24 := ⟨Try.f204.name, by decide, Try.func204.trans (congrArg some (by kernel_rfl))⟩
  f25 := ⟨Try.f205.name, by decide, Try.func205.trans (congrArg some (by kernel_rfl))⟩
  f26 := ⟨Try.f206.name, by decide, Try.func206.trans (congrArg some (by kernel_rfl))⟩
  f27 := ⟨Try.f207.name, by decide, Try.func207.trans (congrArg some (by kernel_rfl))⟩
  f28 := Try.func208.trans (congrArg some (by kernel_rfl))
  f29 := Try.func209.trans (congrArg some (by kernel_rfl))
  f46 := ⟨Try.f212.name, by decide, Try.func212.trans (congrArg some (by kernel_rfl))⟩
  f47 := Try.func213.trans (congrArg some (by kernel_rfl))
  f48 := Try.func214.trans (congrArg some (by kernel_rfl))
  f49 := ⟨Try.f215.name, by decide, Try.func215.trans (congrArg some (by kernel_rfl))⟩
  f50 := ⟨Try.f216.name, by decide, Try.func216.trans (congrArg some (by kernel_rfl))⟩
  f57 := ⟨Try.f218.name, by decide, Try.func218.trans (congrArg some (by kernel_rfl))⟩
  t0 := Try.underlying0
  a0 := Try.isAgg0
  z0 := Try.sizeOf0
  v0 := Try.zeroValue0
  t3 := Try.underlying3
  a3 := Try.isAgg3
  z3 := Try.sizeOf3
  v3 := Try.zeroValue3
  t4 := Try.underlying4
  a4 := Try.isAgg4
  z4 := Try.sizeOf4
  v4 := Try.zeroValue4
  t5 := Try.underlying5
  a5 := Try.isAgg5
  z5 := Try.sizeOf5
  v5 := Try.zeroValue5
  t9 := Try.underlying9
  a9 := Try.isAgg9
  z9 := Try.sizeOf9
  v9 := Try.zeroValue9
  t22 := Try.underlying113
  a22 := Try.isAgg113
  z22 := Try.sizeOf113
  v22 := Try.zeroValue113
  t25 := Try.underlying228
  a25 := Try.isAgg228
  z25 := Try.sizeOf228
  v25 := Try.zeroValue228
  t39 := Try.underlying185
  a39 := Try.isAgg185
  z39 := Try.sizeOf185
  v39 := Try.zeroValue185
  t45 := Try.underlying258
  a45 := Try.isAgg258
  z45 := Try.sizeOf258
  v45 := Try.zeroValue258
  t46 := Try.underlying259
  a46 := Try.isAgg259
  z46 := Try.sizeOf259
  v46 := Try.zeroValue259
  t50 := Try.underlying207
  a50 := Try.isAgg207
  z50 := Try.sizeOf207
  v50 := Try.zeroValue207
  t53 := Try.underlying33
  a53 := Try.isAgg33
  z53 := Try.sizeOf33
  v53 := Try.zeroValue33
  t55 := Try.underlying121
  a55 := Try.isAgg121
  z55 := Try.sizeOf121
  v55 := Try.zeroValue121
  t66 := Try.underlying266
  a66 := Try.isAgg266
  z66 := Try.sizeOf266
  v66 := Try.zeroValue266
  t70 := Try.underlying270
  a70 := Try.isAgg270
  z70 := Try.sizeOf270
  v70 := Try.zeroValue270
  t76 := Try.underlying274
  a76 := Try.isAgg274
  z76 := Try.sizeOf274
  v76 := Try.zeroValue274
  t77 := Try.underlying49
  a77 := Try.isAgg49
  z77 := Try.sizeOf49
  v77 := Try.zeroValue49 }
end Go.Proofs
namespace Go.Proofs.Ytdlbdkliekhdmaa
open Go.RowKit
theorem sort_lays : SlLaysF0.n6 Try.prog Try.sortSeen_ren := Try.sortSeen
theorem sort_none : Hid (∀ w, Calls Try.prog 172 #[.slice none 0 0, .func (.func 173) #[] #[]] w fun e w' => e = .returned (.tuple #[]) ∧ w' = w) := fun w => AnyF.slices_SortFunc_none sort_lays none 0 (.func (.func 173) #[] #[]) w
end Go.Proofs.Ytdlbdkliekhdmaa

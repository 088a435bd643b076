/- Package snap: what has these bytes. -/
import Derived.Below
import Derived.Laws.BitsAllLaws
import Derived.Handy
import Derived.Laws.IdiomStrings
import Derived.Lib.Strings
import Derived.Lib.Walk
import Derived.Lib.BufferWrite
import Derived.Lib.UnsafeStr
import Derived.Laws.MakeOwn
import Derived.Deep.RegionWith
import Derived.Deep.QuietTactic
import Derived.BigQuiet
import Derived.WalkSpells
import Derived.Maps.AppendAt
import Derived.Deep.DeepCutAuto
import Derived.Deep.RegionHeld3
import Derived.Lib.Builder
import Derived.Lib.AppendStr
import Derived.Lib.OthersKept
import Derived.Lib.OwnKind
import Derived.Laws.Externs
import Derived.BigRegion
import Derived.Lib.SliceRun
import Derived.Test.YtgiieepfhohmhabTRulA
import Derived.Test.YtgiieepfhohmhabTElA
import Derived.Test.YtgiieepfhohmhabTElB
import Derived.Test.YtgiieepfhohmhabTMemA
import Derived.Test.YtgiieepfhohmhabTRefBA
import Derived.Test.YtgiieepfhohmhabTHdA
import Derived.Test.YtgiieepfhohmhabTGiA
import Derived.Test.YtgiieepfhohmhabTInvZ
import Derived.Test.YtgiieepfhohmhabTOkA
import Derived.Test.YtgiieepfhohmhabTEqCA
import Derived.Test.YtgiieepfhohmhabTSw
import Derived.Test.YtgiieepfhohmhabTSt
import Derived.Test.YtgiieepfhohmhabTCrc
import Derived.Test.YtgiieepfhohmhabTPlyAA
import Derived.Test.YtgiieepfhohmhabTNums
import Derived.Test.YtgiieepfhohmhabTRgU
import Derived.Test.YtgiieepfhohmhabTVwN
namespace Go.Proofs.Ytgiieepfhohmhab
open Go.RowKit
theorem inE_zero (w : World) : InE w zeroS none none 0 0 := ⟨fun _ => rfl, fun _ => rfl, Nat.le_refl _, Or.inl rfl, Or.inl rfl, fun _ hi => absurd hi (Nat.not_lt_zero _), rfl⟩
end Go.Proofs.Ytgiieepfhohmhab
namespace Go.Proofs.Ytgiieepfhohmhab
open Go.RowKit
theorem after {w a b : World} (h : Below w.heap.size w a) (k : Below a.heap.size a b) : Below w.heap.size w b := h.trans (k.mono h.size)
end Go.Proofs.Ytgiieepfhohmhab
namespace Go.Proofs.Ytgiieepfhohmhab
open Go.RowKit
def tooM (ls : List (List (List Int))) : Bool := ls.any fun l => decide (8 < l.length)
def negU (k : Nat) (u : List Int) : Bool := (List.range k).any fun j => decide (fld u j < 0)
def negB (k : Nat) (ls : List (List (List Int))) : Bool := ls.any fun l => l.any (negU k)
def ckT (k : Nat) (c : Nat) (t : Int) (ls : List (List (List Int))) : Nat :=
  if c = 0 then (if (decide (60 - t < (ls.length : Int)) || tooM ls) = true then 2 else if negB k ls = true then 1 else 0) else c
end Go.Proofs.Ytgiieepfhohmhab

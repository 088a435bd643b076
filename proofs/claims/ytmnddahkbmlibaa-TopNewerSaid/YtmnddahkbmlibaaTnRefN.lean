/- The reference's game: a tick's end: all go. -/
import Derived.Test.YtmnddahkbmlibaaTnRefEA
import Derived.Test.YtmnddahkbmlibaaTnRefMA
import Derived.Test.YtmnddahkbmlibaaTnGiA
namespace Go.Proofs.Ytmnddahkbmlibaa
open Go.RowKit Go.Maps
def arriveF (old : List Int) (u : List Int) : List Int := if (((isB old (fld u 0) && (fld u 6 == 1)) && (fld u 3 == fld u 7)) && (fld u 4 == fld u 8)) = true then tellR u 0 0 0 0 else u
def arriveR (old : List Int) (es : List (List Int)) : List (List Int) := es.map (arriveF old)
theorem RowU.nil {b n c : Nat} {w : World} {a : Option Addr} {us : List (List Int)} (h : RowU b w (.slice a n c) us) : a = none → c = 0 := by
  rcases h.2 with ⟨h', _⟩ | ⟨g', cap', cur, h', _⟩
  · intro _; cases h'; rfl
  · intro e; cases h'; cases e
end Go.Proofs.Ytmnddahkbmlibaa
namespace Go.Proofs.Ytmnddahkbmlibaa
open Go.RowKit Go.Maps
def idleF (A : List (List Int)) (u : List Int) : List Int := if (decide (0 < fld u 9) && decide (whoZ (fld u 9) A < 0)) = true then tellR u 0 0 0 0 else u
end Go.Proofs.Ytmnddahkbmlibaa

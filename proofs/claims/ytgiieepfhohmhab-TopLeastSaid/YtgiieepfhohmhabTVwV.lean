/- The reference: the view of a game. -/
import Derived.Test.YtgiieepfhohmhabTCrc
import Derived.Test.YtgiieepfhohmhabTVwP
namespace Go.Proofs.Ytgiieepfhohmhab
open Go.RowKit Go.Maps
def tgtZ (es : List (List Int)) (u : List Int) : Int × Int := if 0 < fld u 9 ∧ 0 ≤ whoZ (fld u 9) es then (fld (rec es (whoZ (fld u 9) es).toNat) 3, fld (rec es (whoZ (fld u 9) es).toNat) 4) else (-1, -1)
def sawR (es : List (List Int)) (u : List Int) : List Int := seenZ u (tgtZ es u)
def atB (x y : Int) (u : List Int) : Bool := decide (fld u 3 = x ∧ fld u 4 = y)
def cellL (es : List (List Int)) (y x : Nat) : List (List Int) := (es.filter (atB x y)).map (sawR es)
def rowL (es : List (List Int)) (y : Nat) : List (List Int) := (List.range 12).flatMap (cellL es y)
def viewL (es : List (List Int)) : List (List Int) := (List.range 12).flatMap (rowL es)
end Go.Proofs.Ytgiieepfhohmhab

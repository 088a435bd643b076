/- Two views, the same or not: the program's Same, the reference's SameView. -/
import Derived.BigQuiet
import Derived.Test.YtgiieepfhohmhabTVwN
namespace Go.Proofs.Ytgiieepfhohmhab
open Go.RowKit Go.Maps
structure Vw where
  t : Int
  g0 : Int
  g1 : Int
  ss : List (List Int)
end Go.Proofs.Ytgiieepfhohmhab

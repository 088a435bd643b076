/- Package newer of the program: where one heads. -/
import Derived.Deep.MidRow
import Derived.Deep.RegionHeld3
import Derived.Deep.DeepCutAuto
import Derived.BigQuiet
import Derived.Test.YtgiieepfhohmhabGreatZRefBA
import Derived.Test.YtgiieepfhohmhabGreatZOkA
import Derived.Test.YtgiieepfhohmhabGreatZNwG
import Derived.Test.YtgiieepfhohmhabGreatZNwK
import Derived.Test.YtgiieepfhohmhabGreatZEqN
namespace Go.Proofs.YtgiieepfhohmhabGreat
open Go.RowKit Go.Maps
def headXN (t u : List Int) : Int := if fld u 6 = 1 then fld u 7 else if fld u 6 = 2 ∨ fld u 6 = 3 then fld t 3 else 0
def headYN (t u : List Int) : Int := if fld u 6 = 1 then fld u 8 else if fld u 6 = 2 ∨ fld u 6 = 3 then fld t 4 else 0
def headBN (t u : List Int) : Bool := if fld u 6 = 1 then true else if fld u 6 = 2 ∨ fld u 6 = 3 then !nearN u t else false
end Go.Proofs.YtgiieepfhohmhabGreat
namespace Go.Proofs.YtgiieepfhohmhabGreat
open Go.RowKit Go.Maps
def wishN (t u : List Int) : Option (Int × Int) := if headBN t u = true ∧ Pl.nSpeed (fld u 2) ≠ 0 ∧ (Pl.nearZ (fld u 3) (headXN t u) ≠ fld u 3 ∨ Pl.nearZ (fld u 4) (headYN t u) ≠ fld u 4) then some (Pl.nearZ (fld u 3) (headXN t u), Pl.nearZ (fld u 4) (headYN t u)) else none
end Go.Proofs.YtgiieepfhohmhabGreat
namespace Go.Proofs.YtgiieepfhohmhabGreat
open Go.RowKit Go.Maps
def wishO (es : List (List Int)) (old : List Int) (u : List Int) : Option (Int × Int) := if isB old (fld u 0) = true then wishN (tgtR es u) u else none
def claimsO (es : List (List Int)) (old : List Int) (x y : Int) : Nat := es.countP (isAt x y) + es.countP (fun u => decide (wishO es old u = some (x, y)))
def moveO (es : List (List Int)) (old : List Int) (u : List Int) : List Int :=
  match wishO es old u with
  | some (x, y) => if claimsO es old x y = 1 then updR 11 (updR 11 u 3 x) 4 y else u
  | none => u
def moveSO (s : St) (old : List Int) : St := { s with es := s.es.map (moveO s.es old) }
def arriveSO (s : St) (old : List Int) : St := { s with es := arriveR old s.es }
def strikeO (es : List (List Int)) (old : List Int) (u : List Int) : Bool := isB old (fld u 0) && (decide (fld u 9 ≠ 0) && nearN u (tgtR es u))
def amountO (u : List Int) : Int := if fld u 6 = 2 then Pl.nHarm (fld u 2) else Pl.nLoad (fld u 2)
def lessO (es : List (List Int)) (old : List Int) (l : List (List Int)) (id : Int) : Int :=
  l.foldl (fun n u => if strikeO es old u = true ∧ fld u 9 = id then n + amountO u else n) 0
def hurtO (es : List (List Int)) (old : List Int) (u : List Int) : List Int := updR 11 u 5 (fld u 5 - lessO es old es (fld u 0))
def earnO (es : List (List Int)) (old : List Int) (o : Int) (l : List (List Int)) (g : Int) : Int :=
  l.foldl (fun n u => if strikeO es old u = true ∧ fld u 6 ≠ 2 ∧ fld u 1 = o then min (n + Pl.nLoad (fld u 2)) 1000 else n) g
def strikeSO (s : St) (old : List Int) : St := { s with g0 := earnO s.es old 0 s.es s.g0, g1 := earnO s.es old 1 s.es s.g1, es := s.es.map (hurtO s.es old) }
def buryO (s : St) : St := { s with es := (s.es.filter aliveB).map (idleF (s.es.filter aliveB)) }
def endO (s : St) (old : List Int) : St := { buryO (strikeSO (arriveSO (moveSO s old) old) old) with t := s.t + 1 }
end Go.Proofs.YtgiieepfhohmhabGreat

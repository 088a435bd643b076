/- Package newer of the program: where one heads. -/
import Derived.Deep.DeepCutAuto
import Derived.BigQuiet
import Derived.Test.YtgiieepfhohmhaaSHdA
import Derived.Test.YtgiieepfhohmhaaSOkA
import Derived.Test.YtgiieepfhohmhaaSNwG
import Derived.Test.YtgiieepfhohmhaaSRefL
import Derived.Test.YtgiieepfhohmhaaSInN
import Derived.Test.YtgiieepfhohmhaaSSt
namespace Go.Proofs.Ytgiieepfhohmhaa
open Go.RowKit Go.Maps
def headXN (t u : List Int) : Int := if fld u 6 = 1 then fld u 7 else if fld u 6 = 2 ∨ fld u 6 = 3 then fld t 3 else 0
def headYN (t u : List Int) : Int := if fld u 6 = 1 then fld u 8 else if fld u 6 = 2 ∨ fld u 6 = 3 then fld t 4 else 0
def headBN (t u : List Int) : Bool := if fld u 6 = 1 then true else if fld u 6 = 2 ∨ fld u 6 = 3 then !nearN u t else false
end Go.Proofs.Ytgiieepfhohmhaa
namespace Go.Proofs.Ytgiieepfhohmhaa
open Go.RowKit Go.Maps
def wishN (t u : List Int) : Option (Int × Int) := if headBN t u = true ∧ Pl.nSpeed (fld u 2) ≠ 0 ∧ (Pl.nearZ (fld u 3) (headXN t u) ≠ fld u 3 ∨ Pl.nearZ (fld u 4) (headYN t u) ≠ fld u 4) then some (Pl.nearZ (fld u 3) (headXN t u), Pl.nearZ (fld u 4) (headYN t u)) else none
end Go.Proofs.Ytgiieepfhohmhaa
namespace Go.Proofs.Ytgiieepfhohmhaa
open Go.RowKit Go.Maps
def arriveF (old : List Int) (u : List Int) : List Int := if (((isB old (fld u 0) && (fld u 6 == 1)) && (fld u 3 == fld u 7)) && (fld u 4 == fld u 8)) = true then tellR u 0 0 0 0 else u
def arriveR (old : List Int) (es : List (List Int)) : List (List Int) := es.map (arriveF old)
theorem RowU.nil {b n c : Nat} {w : World} {a : Option Addr} {us : List (List Int)} (h : RowU b w (.slice a n c) us) : a = none → c = 0 := by
  rcases h.2 with ⟨h', _⟩ | ⟨g', cap', cur, h', _⟩
  · intro _; cases h'; rfl
  · intro e; cases h'; cases e
end Go.Proofs.Ytgiieepfhohmhaa
namespace Go.Proofs.Ytgiieepfhohmhaa
open Go.RowKit Go.Maps
def idleF (A : List (List Int)) (u : List Int) : List Int := if (decide (0 < fld u 9) && decide (whoZ (fld u 9) A < 0)) = true then tellR u 0 0 0 0 else u
end Go.Proofs.Ytgiieepfhohmhaa
namespace Go.Proofs.Ytgiieepfhohmhaa
open Go.RowKit Go.Maps
def wishO (es : List (List Int)) (old : List Int) (u : List Int) : Option (Int × Int) := if isB old (fld u 0) = true then wishN (tgtR es u) u else none
def claimsO (es : List (List Int)) (old : List Int) (x y : Int) : Nat := es.countP (isAt x y) + es.countP (fun u => decide (wishO es old u = some (x, y)))
def moveO (es : List (List Int)) (old : List Int) (u : List Int) : List Int :=
  match wishO es old u with
  | some (x, y) => if claimsO es old x y = 1 then updR 11 (updR 11 u 3 x) 4 y else u
  | none => u
def moveSO (s : St) (old : List Int) : St := { s with es := s.es.map (moveO s.es old) }
def arriveSO (s : St) (old : List Int) : St := { s with es := arriveR old s.es }
def strikeO (es : List (List Int)) (old : List Int) (u : List Int) : Bool := isB old (fld u 0) && (decide (fld u 9 ≠ 0) && nearN u (tgtR es u))
def amountO (u : List Int) : Int := if fld u 6 = 2 then Pl.nHarm (fld u 2) else Pl.nLoad (fld u 2)
def lessO (es : List (List Int)) (old : List Int) (l : List (List Int)) (id : Int) : Int :=
  l.foldl (fun n u => if strikeO es old u = true ∧ fld u 9 = id then n + amountO u else n) 0
def hurtO (es : List (List Int)) (old : List Int) (u : List Int) : List Int := updR 11 u 5 (fld u 5 - lessO es old es (fld u 0))
def earnO (es : List (List Int)) (old : List Int) (o : Int) (l : List (List Int)) (g : Int) : Int :=
  l.foldl (fun n u => if strikeO es old u = true ∧ fld u 6 ≠ 2 ∧ fld u 1 = o then min (n + Pl.nLoad (fld u 2)) 1000 else n) g
def strikeSO (s : St) (old : List Int) : St := { s with g0 := earnO s.es old 0 s.es s.g0, g1 := earnO s.es old 1 s.es s.g1, es := s.es.map (hurtO s.es old) }
def buryO (s : St) : St := { s with es := (s.es.filter aliveB).map (idleF (s.es.filter aliveB)) }
def endO (s : St) (old : List Int) : St := { buryO (strikeSO (arriveSO (moveSO s old) old) old) with t := s.t + 1 }
end Go.Proofs.Ytgiieepfhohmhaa
namespace Go.Proofs.Ytgiieepfhohmhaa
open Go.RowKit Go.Maps
def stepN (s : St) (l : List (List Int)) : St := endO (ordsN s l) (idsE s.es)
end Go.Proofs.Ytgiieepfhohmhaa
namespace Go.Proofs.Ytgiieepfhohmhaa
open Go.RowKit Go.Maps
structure InW (w : World) (s : St) (ua : Option Addr) (uc : Nat) : Prop where
  un : ua = none → uc = 0
  cap : s.es.length ≤ uc
  rows : Recs w ua 11 s.es
  fr : s.free = []
  born : s.born = []
theorem InW.below {w w' : World} {s : St} {ua : Option Addr} {uc : Nat} (h : InW w s ua uc) (hb : Below w.heap.size w w') : InW w' s ua uc := ⟨h.un, h.cap, h.rows.below hb, h.fr, h.born⟩
theorem boxes5 {w W : World} {s : St} {uv : Value} (hW : (w.alloc (.cells (newerC s.t s.g0 s.g1 s.nx uv) 90)).alloc (.cells (newerC 0 0 0 0 (.slice none 0 0)) 90) = W) :
    Below w.heap.size w W ∧ W.heap.size = w.heap.size + 2 ∧ W.heap[w.heap.size]? = some (.cells (newerC s.t s.g0 s.g1 s.nx uv) 90) ∧ W.heap[w.heap.size + 1]? = some (.cells (newerC 0 0 0 0 (.slice none 0 0)) 90) := by
  refine ⟨?_, ?_, ?_, ?_⟩
  · rw [← hW]; exact ((Below.refl _ w).alloc (Nat.le_refl _) _).alloc (by simp [go_sem]) _
  · rw [← hW]; simp [go_sem]
  · rw [← hW, heap_alloc_old _ _ (by simp [go_sem])]
    exact heap_alloc_new w _
  · have e : w.heap.size + 1 = (w.alloc (.cells (newerC s.t s.g0 s.g1 s.nx uv) 90)).heap.size := by simp [go_sem]
    rw [← hW, e]
    exact heap_alloc_new _ _
def setFive (w : World) (b : Nat) (a0 a1 a2 a3 a4 : Value) : World := ((((w.setCell ⟨b, 0, none⟩ a0).setCell ⟨b, 1, none⟩ a1).setCell ⟨b, 2, none⟩ a2).setCell ⟨b, 3, none⟩ a3).setCell ⟨b, 4, none⟩ a4
theorem below_five {B b : Nat} {a w : World} {a0 a1 a2 a3 a4 : Value} (h : Below B a w) (hb : B ≤ b) : Below B a (setFive w b a0 a1 a2 a3 a4) :=
  ((((h.setCell (p := ⟨b, 0, none⟩) hb _).setCell (p := ⟨b, 1, none⟩) hb _).setCell (p := ⟨b, 2, none⟩) hb _).setCell (p := ⟨b, 3, none⟩) hb _).setCell (p := ⟨b, 4, none⟩) hb _
end Go.Proofs.Ytgiieepfhohmhaa

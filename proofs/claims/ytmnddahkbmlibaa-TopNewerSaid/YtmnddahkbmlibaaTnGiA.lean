/- A tick under way: a row is moved within itself. -/
import Derived.Laws.IdiomCopy
import Derived.Test.YtmnddahkbmlibaaTnElB
import Derived.Test.YtmnddahkbmlibaaTnMemA
import Derived.Test.YtmnddahkbmlibaaTnRefBA
import Derived.Test.YtmnddahkbmlibaaTnRefEA
namespace Go.Proofs.Ytmnddahkbmlibaa
open Go.RowKit Go.Maps
end Go.Proofs.Ytmnddahkbmlibaa
namespace Go.Proofs.Ytmnddahkbmlibaa
open Go.RowKit Go.Maps
end Go.Proofs.Ytmnddahkbmlibaa
namespace Go.Proofs.Ytmnddahkbmlibaa
open Go.RowKit Go.Maps
end Go.Proofs.Ytmnddahkbmlibaa
namespace Go.Proofs.Ytmnddahkbmlibaa
open Go.RowKit Go.Maps
def goldOf (s : St) (o : Int) : Int := if o = 0 then s.g0 else s.g1
def payS (s : St) (o c : Int) : St := if o = 0 then { s with g0 := s.g0 - c } else { s with g1 := s.g1 - c }
end Go.Proofs.Ytmnddahkbmlibaa
namespace Go.Proofs.Ytmnddahkbmlibaa
open Go.RowKit Go.Maps
end Go.Proofs.Ytmnddahkbmlibaa
namespace Go.Proofs.Ytmnddahkbmlibaa
open Go.RowKit Go.Maps
def putS (u : List Int) (a : List (List Int) × Bool) (x : List Int) : List (List Int) × Bool := if (!a.2 && decide (fld u 0 < fld x 0)) = true then (a.1 ++ [u] ++ [x], true) else (a.1 ++ [x], a.2)
def putK (u : List Int) (us : List (List Int)) (k : Nat) : List (List Int) × Bool := (us.take k).foldl (putS u) ([], false)
def putR (u : List Int) (us : List (List Int)) : List (List Int) := if (putK u us us.length).2 = true then (putK u us us.length).1 else (putK u us us.length).1 ++ [u]
theorem putK_succ {u : List Int} {us : List (List Int)} {k : Nat} (h : k < us.length) : putK u us (k + 1) = putS u (putK u us k) (rec us k) := by
  unfold putK
  rw [List.take_add_one, rec_at h, List.foldl_append]
  simp [h]
theorem recs_oneU (w : World) (u : List Int) (t : TypeId) : Recs (w.alloc (.cells (unitC u) t)) (some ⟨w.heap.size, 0, none⟩) 11 [u] := by
  refine Or.inr ⟨w.heap.size, 0, rfl, fun i hi j hj => ?_⟩
  have h0 : i = 0 := by simpa using hi
  subst h0
  rw [cell_of_row _ _ (0 + 0 * 11 + j) _ _ _ (heap_alloc_new w _)]
  have e : 0 + 0 * 11 + j = j := by omega
  rw [e]
  show (unitC u)[j]? = some (.int .i64 (fld u j))
  match j, hj with
  | 0, _ | 1, _ | 2, _ | 3, _ | 4, _ | 5, _ | 6, _ | 7, _ | 8, _ | 9, _ | 10, _ => rfl
end Go.Proofs.Ytmnddahkbmlibaa
namespace Go.Proofs.Ytmnddahkbmlibaa
open Go.RowKit Go.Maps
section
variable {w w' : World} {p : Nat} {nw : Bool} {s : St} {ua fa : Option Addr} {uc fc : Nat} {bv : Value}
end
end Go.Proofs.Ytmnddahkbmlibaa

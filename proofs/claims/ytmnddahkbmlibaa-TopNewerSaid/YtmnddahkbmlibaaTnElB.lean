/- Package elder of the program: one of a state, by itself and beside those ahead of it. -/
import Derived.Test.YtmnddahkbmlibaaProg
import Derived.WalkKit
import Derived.Below
import Derived.Deep.QuietTactic
import Derived.Maps.OwnOps
import Derived.Maps.Views
import Derived.Test.YtmnddahkbmlibaaTnElA
namespace Go.Proofs.Ytmnddahkbmlibaa
open Go.RowKit
theorem rec_take {rs : List (List Int)} {n i : Nat} (h : i < n) : rec (rs.take n) i = rec rs i := by
  simp [rec, List.getD_eq_getElem?_getD, h]
theorem Recs.take {w : World} {a : Option Addr} {k : Nat} {rs : List (List Int)} (h : Recs w a k rs) (n : Nat) : Recs w a k (rs.take n) := by
  rcases h with h | ⟨b, o, e, hc⟩
  · exact Or.inl (by rw [h]; simp)
  · refine Or.inr ⟨b, o, e, fun i hi j hj => ?_⟩
    rw [List.length_take] at hi
    rw [rec_take (by omega)]
    exact hc i (by omega) j hj
theorem below_drewN {B : Nat} {a w : World} (h : Below B a w) (n : Nat) : Below B a (w.drewN n) := ⟨h.os, h.tape, h.output, h.size, h.block⟩
theorem below_of_drewN {B : Nat} {a w : World} {n : Nat} (h : Below B (a.drewN n) w) : Below B a w := ⟨h.os, h.tape, h.output, h.size, h.block⟩
end Go.Proofs.Ytmnddahkbmlibaa
namespace Go.Proofs.Ytmnddahkbmlibaa
open Go.RowKit Go.Maps
end Go.Proofs.Ytmnddahkbmlibaa
namespace Go.Proofs.Ytmnddahkbmlibaa
open Go.RowKit Go.Maps
def idsE (es : List (List Int)) : List Int := es.map (fun r => fld r 0)
end Go.Proofs.Ytmnddahkbmlibaa
namespace Go.Proofs.Ytmnddahkbmlibaa
open Go.RowKit Go.Maps
def firstE (n : Nat) (f : Nat → Nat) : Nat :=
  match (List.range n).find? (fun i => f i != 0) with
  | some i => f i
  | none => 0
theorem firstE_some {n : Nat} {f : Nat → Nat} {k : Nat} (hk : k < n) (hn : ∀ i, i < k → f i = 0) (he : f k ≠ 0) : firstE n f = f k := by
  have h : (List.range n).find? (fun i => f i != 0) = some k := by
    rw [List.find?_range_eq_some]
    refine ⟨by simpa using he, by simpa using hk, fun j hj => by simpa using hn j hj⟩
  unfold firstE
  rw [h]
theorem firstE_none {n : Nat} {f : Nat → Nat} (hn : ∀ i, i < n → f i = 0) : firstE n f = 0 := by
  have h : (List.range n).find? (fun i => f i != 0) = none := by
    rw [List.find?_eq_none]
    intro i hi
    have := hn i (by simpa using hi)
    simpa using this
  unfold firstE
  rw [h]
end Go.Proofs.Ytmnddahkbmlibaa

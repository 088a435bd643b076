/- Records of whole numbers (units, commands, views) as lists of lists, and how rows of them lie in memory. -/
import Derived.Test.YtmnddahkbmlibaaProg
import Derived.WalkKit
import Derived.WalkLawsBesides
import Derived.WalkSpells
import Derived.Handy
import Derived.Below
import Derived.Deep.RegionWith
import Derived.Deep.QuietTactic
import Derived.BigQuiet
import Derived.BigRegion
namespace Go.Proofs.Ytmnddahkbmlibaa
open Go.RowKit
def fld (r : List Int) (j : Nat) : Int := r.getD j 0
def rec (rs : List (List Int)) (i : Nat) : List Int := rs.getD i []
def Recs (w : World) (a : Option Addr) (k : Nat) (rs : List (List Int)) : Prop :=
  rs = [] ∨ ∃ b o, a = some ⟨b, o, none⟩ ∧ ∀ i, i < rs.length → ∀ j, j < k → w.cell? ⟨b, o + i * k + j, none⟩ = some (.int .i64 (fld (rec rs i) j))
theorem Recs.at {w : World} {a : Option Addr} {k : Nat} {rs : List (List Int)} (h : Recs w a k rs) {i : Nat} (hi : i < rs.length) :
    ∃ b o, a = some ⟨b, o, none⟩ ∧ ∀ j, j < k → w.cell? ⟨b, o + i * k + j, none⟩ = some (.int .i64 (fld (rec rs i) j)) := by
  rcases h with rfl | ⟨b, o, e, hc⟩
  · simp at hi
  · exact ⟨b, o, e, hc i hi⟩
theorem Recs.drewN {w : World} {a : Option Addr} {k : Nat} {rs : List (List Int)} (h : Recs w a k rs) (n : Nat) : Recs (w.drewN n) a k rs := h
def whoZ (id : Int) (rs : List (List Int)) : Int :=
  match rs.findIdx? (fun r => fld r 0 == id) with
  | some i => i
  | none => -1
def standsB (x y : Int) (rs : List (List Int)) : Bool := rs.any fun r => fld r 3 == x && fld r 4 == y
end Go.Proofs.Ytmnddahkbmlibaa
namespace Go.Proofs.Ytmnddahkbmlibaa
open Go.RowKit
theorem retI {k : IntKind} {a b : Int} (h : a = b) : Ending.returned (.int k a) = .returned (.int k b) := by rw [h]
theorem retB {a b : Bool} (h : a = b) : Ending.returned (.bool a) = .returned (.bool b) := by rw [h]
def topZ (nw : Bool) : Int := if nw then 2000 else 200
end Go.Proofs.Ytmnddahkbmlibaa

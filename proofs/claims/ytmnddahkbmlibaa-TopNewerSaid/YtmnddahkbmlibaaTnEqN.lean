/- The reference's game and package newer, held against each other as plain functions: what is wrong with a state. -/
import Derived.Test.YtmnddahkbmlibaaTnOkA
import Derived.Test.YtmnddahkbmlibaaTnNwF
import Derived.Test.YtmnddahkbmlibaaTnGiA
namespace Go.Proofs.Ytmnddahkbmlibaa
open Go.RowKit Go.Maps
theorem boundsN_true {u : List Int} (h : boundsN u = true) : (1 ≤ fld u 0 ∧ fld u 0 ≤ 2000) ∧ ((0 ≤ fld u 3 ∧ fld u 3 < 12) ∧ 0 ≤ fld u 4 ∧ fld u 4 < 12) ∧ (1 ≤ fld u 5 ∧ fld u 5 ≤ mostN (fld u 2)) ∧ (0 ≤ fld u 6 ∧ fld u 6 ≤ 3) ∧ (0 ≤ fld u 9 ∧ fld u 9 ≤ 2000) ∧ Pl.nHas (fld u 2) = true := by
  have hon := boundsN_on h
  unfold boundsN inZ at h
  simp only [Bool.and_eq_true, decide_eq_true_eq] at h
  exact ⟨h.2.1, hon, h.2.2.2.1, h.2.2.2.2.1, h.2.2.2.2.2, h.1⟩
theorem mayZN {d : Int} (hd : d = 2 ∨ d = 3) (u t : List Int) : mayZ true u t = d ↔ mayN d u t = true := by
  have e : mayZ true u t = if mineN u t = true then 3 else if fightN u t = true then 2 else 0 := by
    have e1 : mayZ true u t = if fld t 2 = 4 ∧ 0 < Pl.nLoad (fld u 2) then 3 else if fld t 2 ≠ 4 ∧ fld t 1 ≠ fld u 1 ∧ 0 < Pl.nHarm (fld u 2) then 2 else 0 := rfl
    rw [e1]
    unfold mineN fightN
    simp only [Bool.and_eq_true, beq_iff_eq, decide_eq_true_eq, bne_iff_ne]
  have hmf : mineN u t = true → fightN u t = false := fun h => by
    unfold mineN at h
    rw [Bool.and_eq_true, beq_iff_eq] at h
    unfold fightN
    rw [h.1]
    rfl
  rw [e]
  rcases hd with rfl | rfl
  · have e2 : mayN 2 u t = fightN u t := by unfold mayN; rw [if_neg (by decide)]
    rw [e2]
    cases hm : mineN u t with
    | true => rw [hmf hm]; decide
    | false => cases fightN u t <;> decide
  · have e2 : mayN 3 u t = mineN u t := by unfold mayN; rw [if_pos rfl]
    rw [e2]
    cases hm : mineN u t with
    | true => simp
    | false => cases fightN u t <;> decide
end Go.Proofs.Ytmnddahkbmlibaa
namespace Go.Proofs.Ytmnddahkbmlibaa
open Go.RowKit Go.Maps
def takeR (nw : Bool) (s : St) : Option (Int × St) :=
  if s.free = [] then (if topZ nw < s.nx then none else some (s.nx, { s with nx := s.nx + 1 })) else some (fld s.free (s.free.length - 1), { s with free := s.free.take (s.free.length - 1) })
def newR (nw : Bool) (t id o k x y : Int) : List Int := [id, o, k, x, y, fld (ruleL nw k) 1, 0, 0, 0, 0, if nw = true then t else 0]
def lateR (nw : Bool) (s : St) (u : List Int) (k x y : Int) : Bool := standsB x y s.es || (decide (1 < Pl.farZ (fld u 3) (fld u 4) x y) || (decide (goldOf s (fld u 1) < fld (ruleL nw k) 0) || ((s.es.length : Int) == 20)))
def soonR (nw : Bool) (u : List Int) (k x y : Int) : Bool := !hasB nw k || (k == 4 || (fld u 2 != 1 || !Pl.onB x y))
def finR (nw : Bool) (t : Int) (u : List Int) (k x y id : Int) (s1 : St) : St := { payS s1 (fld u 1) (fld (ruleL nw k) 0) with es := putR (newR nw t id (fld u 1) k x y) s1.es, born := s1.born ++ [id] }
def doneR (nw : Bool) (s : St) (u : List Int) (k x y : Int) : St :=
  match takeR nw s with
  | none => s
  | some (id, s1) => finR nw s.t u k x y id s1
def buildR (nw : Bool) (s : St) (u : List Int) (k x y : Int) : St :=
  if soonR nw u k x y = true then s else if lateR nw s u k x y = true then s else doneR nw s u k x y
end Go.Proofs.Ytmnddahkbmlibaa

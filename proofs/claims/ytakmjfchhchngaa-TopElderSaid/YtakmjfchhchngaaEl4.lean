/- Package elder of the program: one by itself: bounds, owner, place, target; what one may do to another. -/
import Derived.Test.YtakmjfchhchngaaEl3
namespace Go.Proofs.Ytakmjfchhchngaa
open Go.RowKit

def inZ (n a b : Int) : Bool := decide (a ≤ n ∧ n ≤ b)
def mostZ (k : Int) : Int := if k = 4 then 100 else Pl.eHP k
def boundsE (u : List Int) : Bool := Pl.eHas (fld u 2) && (inZ (fld u 0) 1 200 && (Pl.onB (fld u 3) (fld u 4) && (inZ (fld u 5) 1 (mostZ (fld u 2)) && (inZ (fld u 6) 0 3 && inZ (fld u 9) 0 200))))
def ownerE (u : List Int) : Bool := if fld u 2 = 4 then fld u 1 == 2 else inZ (fld u 1) 0 1
def placeE (u : List Int) : Bool := if fld u 6 = 1 then Pl.onB (fld u 7) (fld u 8) && decide (0 < Pl.eSpeed (fld u 2)) else fld u 7 == 0 && fld u 8 == 0
def targetE (u : List Int) : Bool := (fld u 6 == 2 || fld u 6 == 3) == decide (0 < fld u 9)
def mineE (u t : List Int) : Bool := fld t 2 == 4 && decide (0 < Pl.eLoad (fld u 2))
def fightE (u t : List Int) : Bool := fld t 2 != 4 && (fld t 1 != fld u 1 && decide (0 < Pl.eHarm (fld u 2)))

theorem inWithin_calls (n a b : Int) (w : World) :
    Calls Try.prog 116 #[.int .i64 n, .int .i64 a, .int .i64 b] w fun e w' => e = .returned (.bool (inZ n a b)) ∧ w' = w := within_calls n a b w

set_option maxHeartbeats 4000000 in
theorem inBounds_calls (u : List Int) (w : World) :
    Calls Try.prog 117 #[entV u] w fun e w' => e = .returned (.bool (boundsE u)) ∧ Below w.heap.size w w' := by
  obtain ⟨m, hm⟩ : ∃ m, mostZ (fld u 2) = m := ⟨_, rfl⟩
  have HM : Hid (boundsE u = (Pl.eHas (fld u 2) && (inZ (fld u 0) 1 200 && (Pl.onB (fld u 3) (fld u 4) && (inZ (fld u 5) 1 m && (inZ (fld u 6) 0 3 && inZ (fld u 9) 0 200)))))) := by
    show _ = _
    unfold boundsE
    rw [hm]
  obtain ⟨bb, hbb⟩ : ∃ bb, boundsE u = bb := ⟨_, rfl⟩
  rw [hbb] at HM ⊢
  clear hbb
  have key : ((fld u 2 == 4) = true ∧ m = 100) ∨ ((fld u 2 == 4) = false ∧ m = Pl.eHP (fld u 2)) := by
    unfold mostZ at hm
    by_cases h4 : fld u 2 = 4
    · rw [if_pos h4] at hm
      exact Or.inl ⟨by simpa using h4, hm.symm⟩
    · rw [if_neg h4] at hm
      exact Or.inr ⟨by simpa using h4, hm.symm⟩
  clear hm
  rcases key with ⟨h4, rfl⟩ | ⟨h4, rfl⟩
  all_goals
    go_enter Try.func117, Try.ntmps117
    go_wp2_with fail
    refine (elder_calls (fld u 2) _).mono ?_
    rintro e w' ⟨rfl, rfl⟩
    cases h1 : Pl.eHas (fld u 2)
    · rw [h1, Bool.false_and] at HM
      go_wp2
      go_ret
      exact ⟨retB HM.out.symm, by go_grown⟩
    rw [h1, Bool.true_and] at HM
    go_wp2_with fail
    refine (inWithin_calls _ _ _ _).mono ?_
    rintro e w' ⟨rfl, rfl⟩
    cases h2 : inZ (fld u 0) 1 200
    · rw [h2, Bool.false_and] at HM
      go_wp2
      go_ret
      exact ⟨retB HM.out.symm, by go_grown⟩
    rw [h2, Bool.true_and] at HM
    go_wp2_with fail
    refine (on_calls _ _ _).mono ?_
    rintro e w' ⟨rfl, rfl⟩
    cases h3 : Pl.onB (fld u 3) (fld u 4)
    · rw [h3, Bool.false_and] at HM
      go_wp2
      go_ret
      exact ⟨retB HM.out.symm, by go_grown⟩
    rw [h3, Bool.true_and] at HM
    go_wp2_with fail
    refine (inWithin_calls _ _ _ _).mono ?_
    rintro e w' ⟨rfl, rfl⟩
    generalize h5 : inZ (fld u 5) 1 _ = b5 at HM ⊢
    clear h5
    cases b5
    · rw [Bool.false_and] at HM
      go_wp2
      go_ret
      exact ⟨retB HM.out.symm, by go_grown⟩
    rw [Bool.true_and] at HM
    go_wp2_with fail
    refine (inWithin_calls _ _ _ _).mono ?_
    rintro e w' ⟨rfl, rfl⟩
    cases h6 : inZ (fld u 6) 0 3
    · rw [h6, Bool.false_and] at HM
      go_wp2
      go_ret
      exact ⟨retB HM.out.symm, by go_grown⟩
    rw [h6, Bool.true_and] at HM
    go_wp2_with fail
    refine (inWithin_calls _ _ _ _).mono ?_
    rintro e w' ⟨rfl, rfl⟩
    go_wp2
    go_ret
    exact ⟨retB HM.out.symm, by go_grown⟩
end Go.Proofs.Ytakmjfchhchngaa

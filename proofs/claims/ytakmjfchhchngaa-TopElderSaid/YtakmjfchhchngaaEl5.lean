/- Package elder of the program: owner, place, target of one; what one may do to another. -/
import Derived.Test.YtakmjfchhchngaaEl4
import Derived.Deep.DeepCutAuto
namespace Go.Proofs.Ytakmjfchhchngaa
open Go.RowKit

set_option maxHeartbeats 1000000 in
theorem rightOwner_calls (u : List Int) (w : World) :
    Calls Try.prog 118 #[entV u] w fun e w' => e = .returned (.bool (ownerE u)) ∧ Below w.heap.size w w' := by
  unfold ownerE
  by_cases h4 : fld u 2 = 4
  · rw [if_pos h4]
    have b4 : (fld u 2 == 4) = true := by simpa using h4
    clear h4
    cases h1 : fld u 1 == 2
    all_goals
      go_enter Try.func118, Try.ntmps118
      go_wp2
      go_ret
      exact ⟨rfl, by go_grown⟩
  · rw [if_neg h4]
    have b4 : (fld u 2 == 4) = false := by simpa using h4
    clear h4
    go_enter Try.func118, Try.ntmps118
    go_wp2_with fail
    refine (inWithin_calls _ _ _ _).mono ?_
    rintro e w' ⟨rfl, rfl⟩
    go_wp2
    go_ret
    exact ⟨rfl, by go_grown⟩

theorem field_rule0 (a b c d f g : Value) (w : World) : (Instr.field 41 (.agg #[a, b, c, d, f, g]) 0).run Try.prog w = .ok a w := by kernel_rfl
theorem field_rule1 (a b c d f g : Value) (w : World) : (Instr.field 41 (.agg #[a, b, c, d, f, g]) 1).run Try.prog w = .ok b w := by kernel_rfl
theorem field_rule2 (a b c d f g : Value) (w : World) : (Instr.field 41 (.agg #[a, b, c, d, f, g]) 2).run Try.prog w = .ok c w := by kernel_rfl
theorem field_rule3 (a b c d f g : Value) (w : World) : (Instr.field 41 (.agg #[a, b, c, d, f, g]) 3).run Try.prog w = .ok d w := by kernel_rfl
theorem field_rule4 (a b c d f g : Value) (w : World) : (Instr.field 41 (.agg #[a, b, c, d, f, g]) 4).run Try.prog w = .ok f w := by kernel_rfl
theorem field_rule5 (a b c d f g : Value) (w : World) : (Instr.field 41 (.agg #[a, b, c, d, f, g]) 5).run Try.prog w = .ok g w := by kernel_rfl

set_option maxHeartbeats 1000000 in
theorem rightPlace_calls (u : List Int) (w : World) :
    Calls Try.prog 119 #[entV u] w fun e w' => e = .returned (.bool (placeE u)) ∧ Below w.heap.size w w' := by
  unfold placeE
  by_cases h6 : fld u 6 = 1
  · rw [if_pos h6]
    have b6 : (fld u 6 == 1) = true := by simpa using h6
    clear h6
    go_enter Try.func119, Try.ntmps119
    go_wp2_with fail
    refine (on_calls _ _ _).mono ?_
    rintro e w' ⟨rfl, rfl⟩
    cases h1 : Pl.onB (fld u 7) (fld u 8)
    · go_wp2
      go_ret
      exact ⟨retB (by rw [h1]; rfl), by go_grown⟩
    · go_wp2_with fail
      refine (rule_elder_calls u _).mono ?_
      rintro e w1 ⟨rfl, hb⟩
      have HB := hid hb
      clear hb
      have fr := field_rule2
      by_cases hs : 0 < Pl.eSpeed (fld u 2)
      all_goals
        go_wp2
        go_ret
        exact ⟨retB (by simp [h1, hs]), ((Below.refl _ w).alloc (Nat.le_refl _) _).trans (HB.out.mono (by simp [go_sem]))⟩
  · rw [if_neg h6]
    have b6 : (fld u 6 == 1) = false := by simpa using h6
    clear h6
    cases h7 : fld u 7 == 0
    · rw [Bool.false_and]
      go_enter Try.func119, Try.ntmps119
      go_wp2
      go_ret
      exact ⟨rfl, by go_grown⟩
    · rw [Bool.true_and]
      cases h8 : fld u 8 == 0
      all_goals
        go_enter Try.func119, Try.ntmps119
        go_wp2
        go_ret
        exact ⟨rfl, by go_grown⟩

set_option maxHeartbeats 1000000 in
theorem rightTarget_calls (u : List Int) (w : World) :
    Calls Try.prog 120 #[entV u] w fun e w' => e = .returned (.bool (targetE u)) ∧ Below w.heap.size w w' := by
  unfold targetE
  by_cases h9 : 0 < fld u 9
  all_goals
    simp only [h9, decide_true, decide_false]
    cases h2 : fld u 6 == 2
    · rw [Bool.false_or]
      cases h3 : fld u 6 == 3
      all_goals
        go_enter Try.func120, Try.ntmps120
        go_wp2
        go_ret
        exact ⟨rfl, by go_grown⟩
    · rw [Bool.true_or]
      go_enter Try.func120, Try.ntmps120
      go_wp2
      go_ret
      exact ⟨rfl, by go_grown⟩

set_option maxHeartbeats 1000000 in
theorem mayMine_calls (u t : List Int) (w : World) :
    Calls Try.prog 122 #[entV u, entV t] w fun e w' => e = .returned (.bool (mineE u t)) ∧ Below w.heap.size w w' := by
  unfold mineE
  cases h2 : fld t 2 == 4
  · rw [Bool.false_and]
    go_enter Try.func122, Try.ntmps122
    go_wp2
    go_ret
    exact ⟨rfl, by go_grown⟩
  · rw [Bool.true_and]
    go_enter Try.func122, Try.ntmps122
    go_wp2_with fail
    refine (rule_elder_calls u _).mono ?_
    rintro e w1 ⟨rfl, hb⟩
    have HB := hid hb
    clear hb
    have fr := field_rule5
    by_cases hs : 0 < Pl.eLoad (fld u 2)
    all_goals
      go_wp2
      go_ret
      exact ⟨by simp [hs], (((Below.refl _ w).alloc (Nat.le_refl _) _).alloc (by simp [go_sem]) _).trans (HB.out.mono (by simp [go_sem]; omega))⟩

set_option maxHeartbeats 1000000 in
theorem mayFight_calls (u t : List Int) (w : World) :
    Calls Try.prog 123 #[entV u, entV t] w fun e w' => e = .returned (.bool (fightE u t)) ∧ Below w.heap.size w w' := by
  unfold fightE
  cases h2 : fld t 2 != 4
  · rw [Bool.false_and]
    go_enter Try.func123, Try.ntmps123
    go_wp2
    go_ret
    exact ⟨rfl, by go_grown⟩
  · rw [Bool.true_and]
    cases h3 : fld t 1 != fld u 1
    · rw [Bool.false_and]
      go_enter Try.func123, Try.ntmps123
      go_wp2
      go_ret
      exact ⟨rfl, by go_grown⟩
    · rw [Bool.true_and]
      go_enter Try.func123, Try.ntmps123
      go_wp2_with fail
      refine (rule_elder_calls u _).mono ?_
      rintro e w1 ⟨rfl, hb⟩
      have HB := hid hb
      clear hb
      have fr := field_rule3
      by_cases hs : 0 < Pl.eHarm (fld u 2)
      all_goals
        go_wp2
        go_ret
        exact ⟨by simp [hs], (((Below.refl _ w).alloc (Nat.le_refl _) _).alloc (by simp [go_sem]) _).trans (HB.out.mono (by simp [go_sem]; omega))⟩
end Go.Proofs.Ytakmjfchhchngaa

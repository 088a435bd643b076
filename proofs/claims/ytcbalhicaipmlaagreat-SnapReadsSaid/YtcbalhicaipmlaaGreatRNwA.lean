/- Package newer of the program: one by itself: bounds, owner, place, target; what one may do to another. -/
import Derived.Test.YtcbalhicaipmlaaGreatRElA
import Derived.Test.YtcbalhicaipmlaaGreatRRefBA
namespace Go.Proofs.YtcbalhicaipmlaaGreat
open Go.RowKit
abbrev ruleN (k : Int) : Value := .agg #[.int .i64 (Pl.nCost k), .int .i64 (Pl.nHP k), .int .i64 (Pl.nSpeed k), .int .i64 (Pl.nHarm k), .int .i64 (Pl.nRange k), .int .i64 (Pl.nLoad k)]
theorem newerB_calls (k : Int) (w : World) : Calls Tryz.prog 137 #[.int .i64 k] w fun e w' => e = .returned (.tuple #[ruleN k, .bool (Pl.nHas k)]) ∧ Below w.heap.size w w' := by
  by_cases h5 : k = 5
  · subst h5
    refine (newer5 w).mono ?_
    rintro e w' ⟨rfl, rfl⟩
    exact ⟨rfl, (Below.refl _ w).alloc (Nat.le_refl _) _⟩
  · refine (newer_calls k h5 w).mono ?_
    rintro e w' ⟨rfl, c1, c2, c3, t1, t2, t3, rfl⟩
    exact ⟨rfl, (((Below.refl _ w).alloc (Nat.le_refl _) _).alloc (by simp [go_sem]) _).alloc (by simp [go_sem]; omega) _⟩
set_option maxHeartbeats 1000000 in
theorem withinN_calls (n a b : Int) (w : World) :
    Calls Tryz.prog 116 #[.int .i64 n, .int .i64 a, .int .i64 b] w fun e w' => e = .returned (.bool (inZ n a b)) ∧ w' = w := by
  unfold inZ
  by_cases h1 : a ≤ n
  · by_cases h2 : n ≤ b
    · rw [decide_eq_true ⟨h1, h2⟩]
      go_enter Tryz.func116, Tryz.ntmps116
      go_wp2
      go_ret
      exact ⟨rfl, rfl⟩
    · rw [decide_eq_false (fun h => h2 h.2)]
      go_enter Tryz.func116, Tryz.ntmps116
      go_wp2
      go_ret
      exact ⟨rfl, rfl⟩
  · rw [decide_eq_false (fun h => h1 h.1)]
    go_enter Tryz.func116, Tryz.ntmps116
    go_wp2
    go_ret
    exact ⟨rfl, rfl⟩
set_option maxRecDepth 100000 in
set_option maxHeartbeats 1000000 in
theorem rule_newer_calls (u : List Int) (w : World) :
    Calls Tryz.prog 138 #[unitV u] w fun e w' => e = .returned (ruleN (fld u 2)) ∧ Below w.heap.size w w' := by
  obtain ⟨W, hW⟩ : ∃ W, (w.alloc (.cells (unitC u) 121)).alloc (.cells #[.int .i64 0, .int .i64 0, .int .i64 0, .int .i64 0, .int .i64 0, .int .i64 0] 203) = W := ⟨_, rfl⟩
  have hbW : Below w.heap.size w W := by rw [← hW]; exact ((Below.refl _ w).alloc (Nat.le_refl _) _).alloc (by simp [go_sem]) _
  have hsW : W.heap.size = w.heap.size + 2 := by rw [← hW]; simp [go_sem]
  have hh0 : W.heap[w.heap.size]? = some (.cells (unitC u) 121) := by
    rw [← hW, heap_alloc_old _ _ (by simp [go_sem])]
    exact heap_alloc_new w _
  have hh1 : W.heap[w.heap.size + 1]? = some (.cells #[.int .i64 0, .int .i64 0, .int .i64 0, .int .i64 0, .int .i64 0, .int .i64 0] 203) := by
    have e : w.heap.size + 1 = (w.alloc (.cells (unitC u) 121)).heap.size := by simp [go_sem]
    rw [← hW, e]
    exact heap_alloc_new _ _
  have x2 : W.cell? ⟨w.heap.size, 2, none⟩ = some (.int .i64 (fld u 2)) := cell_of_row W _ 2 _ _ _ hh0
  have HBW := hid hbW
  have HSW := hid hsW
  have H1 := hid hh1
  clear hbW hsW hh0 hh1
  go_enter Tryz.func138, Tryz.ntmps138
  go_wp2_with fail
  refine (newerB_calls (fld u 2) W).mono ?_
  rintro e w1 ⟨rfl, hb1⟩
  obtain ⟨V, hV⟩ : ∃ V, w1.alloc (.cells #[.int .i64 (Pl.nCost (fld u 2)), .int .i64 (Pl.nHP (fld u 2)), .int .i64 (Pl.nSpeed (fld u 2)), .int .i64 (Pl.nHarm (fld u 2)), .int .i64 (Pl.nRange (fld u 2)), .int .i64 (Pl.nLoad (fld u 2))] 203) = V := ⟨_, rfl⟩
  have hbV : Below w1.heap.size w1 V := by rw [← hV]; exact (Below.refl _ _).alloc (Nat.le_refl _) _
  have hhV : V.heap[w1.heap.size]? = some (.cells #[.int .i64 (Pl.nCost (fld u 2)), .int .i64 (Pl.nHP (fld u 2)), .int .i64 (Pl.nSpeed (fld u 2)), .int .i64 (Pl.nHarm (fld u 2)), .int .i64 (Pl.nRange (fld u 2)), .int .i64 (Pl.nLoad (fld u 2))] 203) := by rw [← hV]; exact heap_alloc_new _ _
  have hb1V : Below W.heap.size W V := hb1.trans (hbV.mono hb1.size)
  have hq := (hb1V.block (w.heap.size + 1) (by rw [HSW.out]; omega)).trans H1.out
  have hs1 : w.heap.size + 1 < w1.heap.size := by have := hb1.size; rw [HSW.out] at this; omega
  have hne : w1.heap.size ≠ w.heap.size + 1 := by omega
  have q : ∀ j, V.cell? ⟨w.heap.size + 1, j, none⟩ = (#[.int .i64 0, .int .i64 0, .int .i64 0, .int .i64 0, .int .i64 0, .int .i64 0] : Array Value)[j]? := fun j => cell_of_row V _ j _ _ _ hq
  have q0 : V.cell? ⟨w.heap.size + 1, 0, none⟩ = some (.int .i64 0) := q 0
  have q1 : V.cell? ⟨w.heap.size + 1, 1, none⟩ = some (.int .i64 0) := q 1
  have q2 : V.cell? ⟨w.heap.size + 1, 2, none⟩ = some (.int .i64 0) := q 2
  have q3 : V.cell? ⟨w.heap.size + 1, 3, none⟩ = some (.int .i64 0) := q 3
  have q4 : V.cell? ⟨w.heap.size + 1, 4, none⟩ = some (.int .i64 0) := q 4
  have q5 : V.cell? ⟨w.heap.size + 1, 5, none⟩ = some (.int .i64 0) := q 5
  have f0 := fun j => frozen_of_row V (w.heap.size + 1) j _ _ hq
  have v0 : V.cell? ⟨w1.heap.size, 0, none⟩ = some (.int .i64 (Pl.nCost (fld u 2))) := cell_of_row V _ 0 _ _ _ hhV
  have v1 : V.cell? ⟨w1.heap.size, 1, none⟩ = some (.int .i64 (Pl.nHP (fld u 2))) := cell_of_row V _ 1 _ _ _ hhV
  have v2 : V.cell? ⟨w1.heap.size, 2, none⟩ = some (.int .i64 (Pl.nSpeed (fld u 2))) := cell_of_row V _ 2 _ _ _ hhV
  have v3 : V.cell? ⟨w1.heap.size, 3, none⟩ = some (.int .i64 (Pl.nHarm (fld u 2))) := cell_of_row V _ 3 _ _ _ hhV
  have v4 : V.cell? ⟨w1.heap.size, 4, none⟩ = some (.int .i64 (Pl.nRange (fld u 2))) := cell_of_row V _ 4 _ _ _ hhV
  have v5 : V.cell? ⟨w1.heap.size, 5, none⟩ = some (.int .i64 (Pl.nLoad (fld u 2))) := cell_of_row V _ 5 _ _ _ hhV
  have HBV : Hid (Below w.heap.size w V) := HBW.out.trans (hb1V.mono (by rw [HSW.out]; omega))
  have HVV := hid hV
  clear hb1 hq hW q x2 hV hbV hhV hb1V
  go_upto_region 2 with fail
  rw [HVV.out]
  go_wp2
  exact bodyPost_ret (v := ruleN (fld u 2)) (by simp [results, Tryz.results138, go_sem, q0, q1, q2, q3, q4, q5]) rfl ⟨rfl, (((((HBV.out.setCell (p := ⟨w.heap.size + 1, 0, none⟩) (Nat.le_succ _) _).setCell (p := ⟨w.heap.size + 1, 1, none⟩) (Nat.le_succ _) _).setCell (p := ⟨w.heap.size + 1, 2, none⟩) (Nat.le_succ _) _).setCell (p := ⟨w.heap.size + 1, 3, none⟩) (Nat.le_succ _) _).setCell (p := ⟨w.heap.size + 1, 4, none⟩) (Nat.le_succ _) _).setCell (p := ⟨w.heap.size + 1, 5, none⟩) (Nat.le_succ _) _⟩
def mostN (k : Int) : Int := if k = 4 then 100 else Pl.nHP k
def boundsN (u : List Int) : Bool := Pl.nHas (fld u 2) && (inZ (fld u 0) 1 2000 && (Pl.onB (fld u 3) (fld u 4) && (inZ (fld u 5) 1 (mostN (fld u 2)) && (inZ (fld u 6) 0 3 && inZ (fld u 9) 0 2000))))
def placeN (u : List Int) : Bool := if fld u 6 = 1 then Pl.onB (fld u 7) (fld u 8) && decide (0 < Pl.nSpeed (fld u 2)) else fld u 7 == 0 && fld u 8 == 0
def mineN (u t : List Int) : Bool := fld t 2 == 4 && decide (0 < Pl.nLoad (fld u 2))
def fightN (u t : List Int) : Bool := fld t 2 != 4 && (fld t 1 != fld u 1 && decide (0 < Pl.nHarm (fld u 2)))
def mayN (d : Int) (u t : List Int) : Bool := if d = 3 then mineN u t else fightN u t
set_option maxHeartbeats 1000000 in
theorem rightOwnerN_calls (u : List Int) (w : World) :
    Calls Tryz.prog 118 #[unitV u] w fun e w' => e = .returned (.bool (ownerE u)) ∧ Below w.heap.size w w' := by
  unfold ownerE
  by_cases h4 : fld u 2 = 4
  · rw [if_pos h4]
    have b4 : (fld u 2 == 4) = true := by simpa using h4
    clear h4
    cases h1 : fld u 1 == 2
    all_goals
      go_enter Tryz.func118, Tryz.ntmps118
      go_wp2
      go_ret
      exact ⟨rfl, by go_grown⟩
  · rw [if_neg h4]
    have b4 : (fld u 2 == 4) = false := by simpa using h4
    clear h4
    go_enter Tryz.func118, Tryz.ntmps118
    go_wp2_with fail
    refine (withinN_calls _ _ _ _).mono ?_
    rintro e w' ⟨rfl, rfl⟩
    go_wp2
    go_ret
    exact ⟨rfl, by go_grown⟩
set_option maxHeartbeats 1000000 in
theorem rightTargetN_calls (u : List Int) (w : World) :
    Calls Tryz.prog 120 #[unitV u] w fun e w' => e = .returned (.bool (targetE u)) ∧ Below w.heap.size w w' := by
  unfold targetE
  by_cases h9 : 0 < fld u 9
  all_goals
    simp only [h9, decide_true, decide_false]
    cases h2 : fld u 6 == 2
    · rw [Bool.false_or]
      cases h3 : fld u 6 == 3
      all_goals
        go_enter Tryz.func120, Tryz.ntmps120
        go_wp2
        go_ret
        exact ⟨rfl, by go_grown⟩
    · rw [Bool.true_or]
      go_enter Tryz.func120, Tryz.ntmps120
      go_wp2
      go_ret
      exact ⟨rfl, by go_grown⟩
set_option maxHeartbeats 1000000 in
theorem rightPlaceN_calls (u : List Int) (w : World) :
    Calls Tryz.prog 119 #[unitV u] w fun e w' => e = .returned (.bool (placeN u)) ∧ Below w.heap.size w w' := by
  unfold placeN
  by_cases h6 : fld u 6 = 1
  · rw [if_pos h6]
    have b6 : (fld u 6 == 1) = true := by simpa using h6
    clear h6
    go_enter Tryz.func119, Tryz.ntmps119
    go_wp2_with fail
    refine (on_calls _ _ _).mono ?_
    rintro e w' ⟨rfl, rfl⟩
    cases h1 : Pl.onB (fld u 7) (fld u 8)
    · go_wp2
      go_ret
      exact ⟨retB (by rw [h1]; rfl), by go_grown⟩
    · go_wp2_with fail
      refine (rule_newer_calls u _).mono ?_
      rintro e w1 ⟨rfl, hb⟩
      have HB := hid hb
      clear hb
      have fr := field_rule2
      by_cases hs : 0 < Pl.nSpeed (fld u 2)
      all_goals
        go_wp2
        go_ret
        exact ⟨retB (by simp [h1, hs]), ((Below.refl _ w).alloc (Nat.le_refl _) _).trans (HB.out.mono (by simp [go_sem]))⟩
  · rw [if_neg h6]
    have b6 : (fld u 6 == 1) = false := by simpa using h6
    clear h6
    cases h7 : fld u 7 == 0
    · rw [Bool.false_and]
      go_enter Tryz.func119, Tryz.ntmps119
      go_wp2
      go_ret
      exact ⟨rfl, by go_grown⟩
    · rw [Bool.true_and]
      cases h8 : fld u 8 == 0
      all_goals
        go_enter Tryz.func119, Tryz.ntmps119
        go_wp2
        go_ret
        exact ⟨rfl, by go_grown⟩
end Go.Proofs.YtcbalhicaipmlaaGreat

/- Package newer of the program: bounds of one; what one may do to another. -/
import Derived.Test.YtgiieepfhohmhabGreatZOkA
namespace Go.Proofs.YtgiieepfhohmhabGreat
open Go.RowKit
abbrev ruleNC (k : Int) : Array Value := #[.int .i64 (Pl.nCost k), .int .i64 (Pl.nHP k), .int .i64 (Pl.nSpeed k), .int .i64 (Pl.nHarm k), .int .i64 (Pl.nRange k), .int .i64 (Pl.nLoad k)]
theorem unit_at {w : World} {b : Nat} {u : List Int} (h : w.heap[b]? = some (.cells (unitC u) 118)) :
    w.cell? ⟨b, 0, none⟩ = some (.int .i64 (fld u 0)) ∧ w.cell? ⟨b, 1, none⟩ = some (.int .i64 (fld u 1)) ∧ w.cell? ⟨b, 2, none⟩ = some (.int .i64 (fld u 2)) ∧ w.cell? ⟨b, 3, none⟩ = some (.int .i64 (fld u 3)) ∧ w.cell? ⟨b, 4, none⟩ = some (.int .i64 (fld u 4)) ∧ w.cell? ⟨b, 5, none⟩ = some (.int .i64 (fld u 5)) ∧ w.cell? ⟨b, 6, none⟩ = some (.int .i64 (fld u 6)) ∧ w.cell? ⟨b, 7, none⟩ = some (.int .i64 (fld u 7)) ∧ w.cell? ⟨b, 8, none⟩ = some (.int .i64 (fld u 8)) ∧ w.cell? ⟨b, 9, none⟩ = some (.int .i64 (fld u 9)) ∧ w.cell? ⟨b, 10, none⟩ = some (.int .i64 (fld u 10)) :=
  ⟨cell_of_row w b 0 _ _ _ h, cell_of_row w b 1 _ _ _ h, cell_of_row w b 2 _ _ _ h, cell_of_row w b 3 _ _ _ h, cell_of_row w b 4 _ _ _ h, cell_of_row w b 5 _ _ _ h, cell_of_row w b 6 _ _ _ h, cell_of_row w b 7 _ _ _ h, cell_of_row w b 8 _ _ _ h, cell_of_row w b 9 _ _ _ h, cell_of_row w b 10 _ _ _ h⟩
set_option maxRecDepth 100000 in
set_option maxHeartbeats 4000000 in
theorem inBoundsN_calls (u : List Int) (w : World) :
    Calls Tryz.prog 172 #[unitV u] w fun e w' => e = .returned (.bool (boundsN u)) ∧ Below w.heap.size w w' := by
  obtain ⟨m, hm⟩ : ∃ m, mostN (fld u 2) = m := ⟨_, rfl⟩
  have HM : Hid (boundsN u = (Pl.nHas (fld u 2) && (inZ (fld u 0) 1 2000 && (Pl.onB (fld u 3) (fld u 4) && (inZ (fld u 5) 1 m && (inZ (fld u 6) 0 3 && inZ (fld u 9) 0 2000)))))) := by
    show _ = _
    unfold boundsN
    rw [hm]
  obtain ⟨bb, hbb⟩ : ∃ bb, boundsN u = bb := ⟨_, rfl⟩
  rw [hbb] at HM ⊢
  clear hbb
  have key : ((fld u 2 == 4) = true ∧ m = 100) ∨ ((fld u 2 == 4) = false ∧ m = Pl.nHP (fld u 2)) := by
    unfold mostN at hm
    by_cases h4 : fld u 2 = 4
    · rw [if_pos h4] at hm
      exact Or.inl ⟨by simpa using h4, hm.symm⟩
    · rw [if_neg h4] at hm
      exact Or.inr ⟨by simpa using h4, hm.symm⟩
  clear hm
  obtain ⟨W, hW⟩ : ∃ W, w.alloc (.cells (unitC u) 118) = W := ⟨_, rfl⟩
  have hbW : Below w.heap.size w W := by rw [← hW]; exact (Below.refl _ w).alloc (Nat.le_refl _) _
  have hh0 : W.heap[w.heap.size]? = some (.cells (unitC u) 118) := by rw [← hW]; exact heap_alloc_new w _
  have y2 := (unit_at hh0).2.2.1
  have HBW := hid hbW
  have H0 := hid hh0
  clear hbW hh0
  rcases key with ⟨h4, rfl⟩ | ⟨h4, rfl⟩
  all_goals
    go_enter Tryz.func172, Tryz.ntmps172
    go_wp2_with fail
    refine (newerB_calls (fld u 2) W).mono ?_
    rintro e w1 ⟨rfl, hb1⟩
    obtain ⟨V, hV⟩ : ∃ V, w1.alloc (.cells (ruleNC (fld u 2)) 288) = V := ⟨_, rfl⟩
    have hbV : Below w1.heap.size w1 V := by rw [← hV]; exact (Below.refl _ _).alloc (Nat.le_refl _) _
    have hhV : V.heap[w1.heap.size]? = some (.cells (ruleNC (fld u 2)) 288) := by rw [← hV]; exact heap_alloc_new _ _
    have hWV : Below W.heap.size W V := hb1.trans (hbV.mono hb1.size)
    obtain ⟨x0, x1, x2, x3, x4, x5, x6, x7, x8, x9, x10⟩ := unit_at ((hWV.block w.heap.size (Array.getElem?_eq_some_iff.1 H0.out).1).trans H0.out)
    have v1 : V.cell? ⟨w1.heap.size, 1, none⟩ = some (.int .i64 (Pl.nHP (fld u 2))) := cell_of_row V _ 1 _ _ _ hhV
    have HBV : Hid (Below w.heap.size w V) := HBW.out.trans (hWV.mono HBW.out.size)
    have HVV := hid hV
    clear hb1 hV hbV hhV hWV y2 hW
    go_upto_region 2 with fail
    rw [HVV.out]
    cases h1 : Pl.nHas (fld u 2)
    · rw [h1, Bool.false_and] at HM
      go_wp2
      go_ret
      exact ⟨retB HM.out.symm, HBV.out⟩
    rw [h1, Bool.true_and] at HM
    go_wp2_with fail
    refine (withinN_calls _ _ _ _).mono ?_
    rintro e w' ⟨rfl, rfl⟩
    cases h2 : inZ (fld u 0) 1 2000
    · rw [h2, Bool.false_and] at HM
      go_wp2
      go_ret
      exact ⟨retB HM.out.symm, HBV.out⟩
    rw [h2, Bool.true_and] at HM
    go_wp2_with fail
    refine (on_calls _ _ _).mono ?_
    rintro e w' ⟨rfl, rfl⟩
    cases h3 : Pl.onB (fld u 3) (fld u 4)
    · rw [h3, Bool.false_and] at HM
      go_wp2
      go_ret
      exact ⟨retB HM.out.symm, HBV.out⟩
    rw [h3, Bool.true_and] at HM
    go_wp2_with fail
    refine (withinN_calls _ _ _ _).mono ?_
    rintro e w' ⟨rfl, rfl⟩
    generalize h5 : inZ (fld u 5) 1 _ = b5 at HM ⊢
    clear h5
    cases b5
    · rw [Bool.false_and] at HM
      go_wp2
      go_ret
      exact ⟨retB HM.out.symm, HBV.out⟩
    rw [Bool.true_and] at HM
    go_wp2_with fail
    refine (withinN_calls _ _ _ _).mono ?_
    rintro e w' ⟨rfl, rfl⟩
    cases h6 : inZ (fld u 6) 0 3
    · rw [h6, Bool.false_and] at HM
      go_wp2
      go_ret
      exact ⟨retB HM.out.symm, HBV.out⟩
    rw [h6, Bool.true_and] at HM
    go_wp2_with fail
    refine (withinN_calls _ _ _ _).mono ?_
    rintro e w' ⟨rfl, rfl⟩
    go_wp2
    go_ret
    exact ⟨retB HM.out.symm, HBV.out⟩
set_option maxRecDepth 100000 in
set_option maxHeartbeats 2000000 in
theorem mayN_calls (u : List Int) (d : Int) (t : List Int) (w : World) :
    Calls Tryz.prog 178 #[unitV u, .int .i64 d, unitV t] w fun e w' => e = .returned (.bool (mayN d u t)) ∧ Below w.heap.size w w' := by
  unfold mayN
  by_cases hd : d = 3
  · rw [if_pos hd]
    have bd : (d == 3) = true := by simpa using hd
    clear hd
    unfold mineN
    cases h2 : fld t 2 == 4
    · rw [Bool.false_and]
      go_enter Tryz.func178, Tryz.ntmps178
      go_wp2
      go_ret
      exact ⟨rfl, by go_grown⟩
    · rw [Bool.true_and]
      go_enter Tryz.func178, Tryz.ntmps178
      go_wp2_with fail
      refine (rule_newer_calls u _).mono ?_
      rintro e w1 ⟨rfl, hb⟩
      have HB := hid hb
      clear hb
      have fr := field_rule5
      by_cases hs : 0 < Pl.nLoad (fld u 2)
      all_goals
        go_wp2
        go_ret
        exact ⟨by simp [hs], (((Below.refl _ w).alloc (Nat.le_refl _) _).alloc (by simp [go_sem]) _).trans (HB.out.mono (by simp [go_sem]; omega))⟩
  · rw [if_neg hd]
    have bd : (d == 3) = false := by simpa using hd
    clear hd
    unfold fightN
    cases h2 : fld t 2 != 4
    · rw [Bool.false_and]
      go_enter Tryz.func178, Tryz.ntmps178
      go_wp2
      go_ret
      exact ⟨rfl, by go_grown⟩
    · rw [Bool.true_and]
      cases h3 : fld t 1 != fld u 1
      · rw [Bool.false_and]
        go_enter Tryz.func178, Tryz.ntmps178
        go_wp2
        go_ret
        exact ⟨rfl, by go_grown⟩
      · rw [Bool.true_and]
        go_enter Tryz.func178, Tryz.ntmps178
        go_wp2_with fail
        refine (rule_newer_calls u _).mono ?_
        rintro e w1 ⟨rfl, hb⟩
        have HB := hid hb
        clear hb
        have fr := field_rule3
        by_cases hs : 0 < Pl.nHarm (fld u 2)
        all_goals
          go_wp2
          go_ret
          exact ⟨by simp [hs], (((Below.refl _ w).alloc (Nat.le_refl _) _).alloc (by simp [go_sem]) _).trans (HB.out.mono (by simp [go_sem]; omega))⟩
end Go.Proofs.YtgiieepfhohmhabGreat

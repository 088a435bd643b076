/- rules.Newer, and the reference's On, Far, Toward, and asRule. -/
import Derived.Test.YtnenegkgmkgfaaaRules2
namespace Go.Proofs.Ytnenegkgmkgfaaa
open Go.RowKit

set_option maxHeartbeats 800000 in
theorem newer5 (w : World) :
    Calls Try.prog 22 #[.int .i64 5] w fun e w' => e = .returned (.tuple #[.agg #[.int .i64 0, .int .i64 0, .int .i64 0, .int .i64 0, .int .i64 0, .int .i64 0], .bool false]) ∧ w' = w.alloc (.cells #[.int .i64 0, .int .i64 0, .int .i64 0, .int .i64 0, .int .i64 0, .int .i64 0] 41) := by
  go_enter Try.func22, Try.ntmps22
  go_wp2
  exact bodyPost_ret (v := .tuple #[.agg #[.int .i64 0, .int .i64 0, .int .i64 0, .int .i64 0, .int .i64 0, .int .i64 0], .bool false]) (by simp [results, Try.results22, go_sem]) rfl ⟨rfl, rfl⟩

set_option maxHeartbeats 800000 in
theorem newer_calls (k : Int) (h5 : k ≠ 5) (w : World) :
    Calls Try.prog 22 #[.int .i64 k] w fun e w' => e = .returned (.tuple #[.agg #[.int .i64 (Pl.nCost k), .int .i64 (Pl.nHP k), .int .i64 (Pl.nSpeed k), .int .i64 (Pl.nHarm k), .int .i64 (Pl.nRange k), .int .i64 (Pl.nLoad k)], .bool (Pl.nHas k)]) ∧ ∃ (c1 c2 c3 : Array Value) (t1 t2 t3 : TypeId), w' = ((w.alloc (.cells c1 t1)).alloc (.cells c2 t2)).alloc (.cells c3 t3) := by
  by_cases h3 : k = 3
  · subst h3
    clear h5
    go_enter Try.func22, Try.ntmps22
    go_wp2_with fail
    refine (elder_calls 3 _).mono ?_
    rintro e w' ⟨rfl, rfl⟩
    go_wp2
    exact bodyPost_ret (v := .tuple #[.agg #[.int .i64 (Pl.nCost 3), .int .i64 (Pl.nHP 3), .int .i64 (Pl.nSpeed 3), .int .i64 (Pl.nHarm 3), .int .i64 (Pl.nRange 3), .int .i64 (Pl.nLoad 3)], .bool (Pl.eHas 3)]) (by simp [results, Try.results22, go_sem]; exact ⟨rfl, rfl, rfl, rfl, rfl, rfl⟩) rfl ⟨rfl, _, _, _, _, _, _, rfl⟩
  · obtain ⟨e1, e2, e3, e4, e5, e6, e7⟩ := Pl.nSame h3 h5
    rw [e1, e2, e3, e4, e5, e6, e7]
    clear e1 e2 e3 e4 e5 e6 e7
    have g3 : (k == 3) = false := by simpa using h3
    have g5 : (k == 5) = false := by simpa using h5
    clear h3 h5
    go_enter Try.func22, Try.ntmps22
    go_wp2_with fail
    refine (elder_calls k _).mono ?_
    rintro e w' ⟨rfl, rfl⟩
    go_wp2
    exact bodyPost_ret (v := .tuple #[.agg #[.int .i64 (Pl.eCost k), .int .i64 (Pl.eHP k), .int .i64 (Pl.eSpeed k), .int .i64 (Pl.eHarm k), .int .i64 (Pl.eRange k), .int .i64 (Pl.eLoad k)], .bool (Pl.eHas k)]) (by simp [results, Try.results22, go_sem]) rfl ⟨rfl, _, _, _, _, _, _, rfl⟩

set_option maxHeartbeats 800000 in
theorem asRule_calls (a b c d f g : Int) (w : World) :
    Calls Try.prog 23 #[.agg #[.int .i64 a, .int .i64 b, .int .i64 c, .int .i64 d, .int .i64 f, .int .i64 g], .agg #[.int .i64 a, .int .i64 b, .int .i64 c, .int .i64 d, .int .i64 f, .int .i64 g]] w fun e w' => e = .returned (.bool true) ∧ ∃ (c1 c2 : Array Value) (t1 t2 : TypeId), w' = (w.alloc (.cells c1 t1)).alloc (.cells c2 t2) := by
  go_enter Try.func23, Try.ntmps23
  go_wp2
  go_ret
  exact ⟨rfl, _, _, _, _, rfl⟩

set_option maxHeartbeats 800000 in
theorem ruled_calls (w : World) :
    Calls Try.prog 19 #[] w fun e w' => e = .returned (.bool true) ∧ ∃ (c1 c2 : Array Value) (t1 t2 : TypeId), w' = (w.alloc (.cells c1 t1)).alloc (.cells c2 t2) := by
  go_enter Try.func19, Try.ntmps19
  go_wp2_with fail
  refine (elder_calls 1 _).mono ?_
  rintro e w' ⟨rfl, rfl⟩
  have e1 : Pl.eCost 1 = 5 := rfl
  have e2 : Pl.eHP 1 = 5 := rfl
  have e3 : Pl.eHas 1 = true := rfl
  rw [e1, e2, e3]
  clear e1 e2 e3
  go_wp2
  go_ret
  exact ⟨rfl, _, _, _, _, rfl⟩

set_option maxHeartbeats 400000 in
theorem refOn_calls (x y : Int) (w : World) :
    Calls Try.prog 25 #[.int .i64 x, .int .i64 y] w fun e w' => e = .returned (.bool (Pl.onB x y)) ∧ w' = w := by
  by_cases h1 : 0 ≤ x
  · by_cases h2 : x < 12
    · by_cases h3 : 0 ≤ y
      · by_cases h4 : y < 12
        · rw [Pl.onB_mk ⟨⟨h1, h2⟩, h3, h4⟩]
          go_enter Try.func25, Try.ntmps25
          go_wp2
          go_ret
          exact ⟨rfl, rfl⟩
        · rw [Pl.onB_no2 (Pl.lineB_no1 (by omega))]
          go_enter Try.func25, Try.ntmps25
          go_wp2
          go_ret
          exact ⟨rfl, rfl⟩
      · rw [Pl.onB_no2 (Pl.lineB_no0 (by omega))]
        go_enter Try.func25, Try.ntmps25
        go_wp2
        go_ret
        exact ⟨rfl, rfl⟩
    · rw [Pl.onB_no1 (Pl.lineB_no1 (by omega))]
      go_enter Try.func25, Try.ntmps25
      go_wp2
      go_ret
      exact ⟨rfl, rfl⟩
  · rw [Pl.onB_no1 (Pl.lineB_no0 (by omega))]
    go_enter Try.func25, Try.ntmps25
    go_wp2
    go_ret
    exact ⟨rfl, rfl⟩

set_option maxHeartbeats 400000 in
theorem refApart_calls (a b : Int) (h : (0 ≤ a ∧ a < 12) ∧ 0 ≤ b ∧ b < 12) (w : World) :
    Calls Try.prog 37 #[.int .i64 a, .int .i64 b] w fun e w' => e = .returned (.int .i64 (Pl.apartZ a b)) ∧ w' = w := by
  by_cases h1 : b < a
  · go_enter Try.func37, Try.ntmps37
    go_wp2
    go_ret
    exact ⟨ret_int (by unfold Pl.apartZ; rw [if_pos (by omega)]), rfl⟩
  · go_enter Try.func37, Try.ntmps37
    go_wp2
    go_ret
    exact ⟨ret_int (by unfold Pl.apartZ; split <;> omega), rfl⟩

set_option maxHeartbeats 400000 in
theorem refNearer_calls (a b : Int) (h : (0 ≤ a ∧ a < 12) ∧ 0 ≤ b ∧ b < 12) (w : World) :
    Calls Try.prog 35 #[.int .i64 a, .int .i64 b] w fun e w' => e = .returned (.int .i64 (Pl.nearZ a b)) ∧ w' = w := by
  by_cases h1 : a < b
  · go_enter Try.func35, Try.ntmps35
    go_wp2
    go_ret
    exact ⟨ret_int (by unfold Pl.nearZ; rw [if_pos h1]), rfl⟩
  · by_cases h2 : b < a
    · go_enter Try.func35, Try.ntmps35
      go_wp2
      go_ret
      exact ⟨ret_int (by unfold Pl.nearZ; rw [if_neg (by omega), if_pos (by omega)]), rfl⟩
    · go_enter Try.func35, Try.ntmps35
      go_wp2
      go_ret
      exact ⟨ret_int (by unfold Pl.nearZ; rw [if_neg (by omega), if_neg (by omega)]), rfl⟩

set_option maxHeartbeats 400000 in
theorem refFar_calls (x y tx ty : Int) (h : (0 ≤ x ∧ x < 12) ∧ 0 ≤ y ∧ y < 12) (g : (0 ≤ tx ∧ tx < 12) ∧ 0 ≤ ty ∧ ty < 12) (w : World) :
    Calls Try.prog 29 #[.int .i64 x, .int .i64 y, .int .i64 tx, .int .i64 ty] w fun e w' => e = .returned (.int .i64 (Pl.farZ x y tx ty)) ∧ w' = w := by
  go_enter Try.func29, Try.ntmps29
  go_wp2_with fail
  refine (refApart_calls x tx ⟨h.1, g.1⟩ _).mono ?_
  rintro e w' ⟨rfl, rfl⟩
  go_wp2_with fail
  refine (refApart_calls y ty ⟨h.2, g.2⟩ _).mono ?_
  rintro e w' ⟨rfl, rfl⟩
  go_wp2
  all_goals
    go_ret
    exact ⟨ret_int (by unfold Pl.farZ; split <;> omega), rfl⟩

set_option maxHeartbeats 400000 in
theorem refToward_calls (x y tx ty : Int) (h : (0 ≤ x ∧ x < 12) ∧ 0 ≤ y ∧ y < 12) (g : (0 ≤ tx ∧ tx < 12) ∧ 0 ≤ ty ∧ ty < 12) (w : World) :
    Calls Try.prog 27 #[.int .i64 x, .int .i64 y, .int .i64 tx, .int .i64 ty] w fun e w' => e = .returned (.tuple #[.int .i64 (Pl.nearZ x tx), .int .i64 (Pl.nearZ y ty)]) ∧ w' = w := by
  go_enter Try.func27, Try.ntmps27
  go_wp2_with fail
  refine (refNearer_calls x tx ⟨h.1, g.1⟩ _).mono ?_
  rintro e w' ⟨rfl, rfl⟩
  go_wp2_with fail
  refine (refNearer_calls y ty ⟨h.2, g.2⟩ _).mono ?_
  rintro e w' ⟨rfl, rfl⟩
  go_wp2
  go_ret2
  exact ⟨rfl, rfl⟩
end Go.Proofs.Ytnenegkgmkgfaaa

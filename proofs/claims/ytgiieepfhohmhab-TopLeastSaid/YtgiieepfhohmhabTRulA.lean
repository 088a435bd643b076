/- Plain facts about the board: how far it is, one step nearer, on the board; no Go in sight. -/
import Derived.Test.YtgiieepfhohmhabRows
import Derived.WalkKit
import Derived.WalkLawsBesides
import Derived.Below
namespace Go.Proofs.Ytgiieepfhohmhab.Pl
def apartZ (a b : Int) : Int := if b ≤ a then a - b else b - a
def nearZ (a b : Int) : Int := if a < b then a + 1 else if b < a then a - 1 else a
def farZ (x y tx ty : Int) : Int := if apartZ x tx < apartZ y ty then apartZ y ty else apartZ x tx
def lineB (a : Int) : Bool := decide (0 ≤ a ∧ a < 12)
def onB (x y : Int) : Bool := lineB x && lineB y
theorem lineB_true {a : Int} (h : lineB a = true) : 0 ≤ a ∧ a < 12 := by
  simpa [lineB] using h
theorem lineB_mk {a : Int} (h0 : 0 ≤ a) (h1 : a < 12) : lineB a = true := by
  simp [lineB]; omega
theorem lineB_no0 {a : Int} (h : a < 0) : lineB a = false := by
  simp [lineB]; omega
theorem lineB_no1 {a : Int} (h : 12 ≤ a) : lineB a = false := by
  simp [lineB]; omega
theorem onB_true {x y : Int} (h : onB x y = true) : (0 ≤ x ∧ x < 12) ∧ 0 ≤ y ∧ y < 12 := by
  simp only [onB, Bool.and_eq_true] at h
  exact ⟨lineB_true h.1, lineB_true h.2⟩
theorem onB_mk {x y : Int} (h : (0 ≤ x ∧ x < 12) ∧ 0 ≤ y ∧ y < 12) : onB x y = true := by
  simp only [onB, Bool.and_eq_true]
  exact ⟨lineB_mk h.1.1 h.1.2, lineB_mk h.2.1 h.2.2⟩
theorem nearZ_bd (a b : Int) (h : (0 ≤ a ∧ a < 12) ∧ 0 ≤ b ∧ b < 12) : 0 ≤ nearZ a b ∧ nearZ a b < 12 := by
  unfold nearZ; split <;> (try split) <;> omega
def eCost (k : Int) : Int := if k = 1 then 5 else if k = 2 then 8 else if k = 3 then 15 else if k = 5 then 7 else 0
def eHP (k : Int) : Int := if k = 1 then 5 else if k = 2 then 8 else if k = 3 then 20 else if k = 5 then 6 else 0
def eSpeed (k : Int) : Int := if k = 1 then 1 else if k = 2 then 1 else if k = 5 then 1 else 0
def eHarm (k : Int) : Int := if k = 1 then 1 else if k = 2 then 2 else if k = 3 then 3 else 0
def eRange (k : Int) : Int := if k = 1 then 1 else if k = 2 then 2 else if k = 3 then 3 else if k = 5 then 1 else 0
def eLoad (k : Int) : Int := if k = 1 then 1 else if k = 5 then 2 else 0
def eHas (k : Int) : Bool := decide (1 ≤ k ∧ k ≤ 5)
theorem kinds (k : Int) : k = 1 ∨ k = 2 ∨ k = 3 ∨ k = 4 ∨ k = 5 ∨ (k ≠ 1 ∧ k ≠ 2 ∧ k ≠ 3 ∧ k ≠ 4 ∧ k ≠ 5) := by omega
theorem eElse {k : Int} (h : k ≠ 1 ∧ k ≠ 2 ∧ k ≠ 3 ∧ k ≠ 4 ∧ k ≠ 5) : eCost k = 0 ∧ eHP k = 0 ∧ eSpeed k = 0 ∧ eHarm k = 0 ∧ eRange k = 0 ∧ eLoad k = 0 ∧ eHas k = false := by
  obtain ⟨h1, h2, h3, h4, h5⟩ := h
  simp only [eCost, eHP, eSpeed, eHarm, eRange, eLoad, eHas, if_neg h1, if_neg h2, if_neg h3, if_neg h5, decide_eq_false_iff_not]
  simp; omega
end Go.Proofs.Ytgiieepfhohmhab.Pl
namespace Go.Proofs.Ytgiieepfhohmhab
open Go.RowKit
theorem ret_int {k : IntKind} {a b : Int} (h : a = b) : Ending.returned (.int k a) = .returned (.int k b) := by rw [h]
set_option maxHeartbeats 400000 in
theorem apart_calls (a b : Int) (h : (0 ≤ a ∧ a < 12) ∧ 0 ≤ b ∧ b < 12) (w : World) :
    Calls Try.prog 87 #[.int .i64 a, .int .i64 b] w fun e w' => e = .returned (.int .i64 (Pl.apartZ a b)) ∧ w' = w := by
  go_enter Try.func87, Try.ntmps87
  go_wp2
  · go_ret
    exact ⟨ret_int (by unfold Pl.apartZ; rw [if_neg (by omega)]), rfl⟩
  · go_ret
    exact ⟨ret_int (by unfold Pl.apartZ; rw [if_pos (by omega)]), rfl⟩
set_option maxHeartbeats 400000 in
theorem nearer_calls (a b : Int) (h : (0 ≤ a ∧ a < 12) ∧ 0 ≤ b ∧ b < 12) (w : World) :
    Calls Try.prog 96 #[.int .i64 a, .int .i64 b] w fun e w' => e = .returned (.int .i64 (Pl.nearZ a b)) ∧ w' = w := by
  by_cases h1 : a < b
  · go_enter Try.func96, Try.ntmps96
    go_wp2
    go_ret
    exact ⟨ret_int (by unfold Pl.nearZ; rw [if_pos h1]), rfl⟩
  · by_cases h2 : b < a
    · go_enter Try.func96, Try.ntmps96
      go_wp2
      go_ret
      exact ⟨ret_int (by unfold Pl.nearZ; rw [if_neg (by omega), if_pos (by omega)]), rfl⟩
    · go_enter Try.func96, Try.ntmps96
      go_wp2
      go_ret
      exact ⟨ret_int (by unfold Pl.nearZ; rw [if_neg (by omega), if_neg (by omega)]), rfl⟩
set_option maxHeartbeats 400000 in
theorem onLine_calls (a : Int) (w : World) :
    Calls Try.prog 67 #[.int .i64 a] w fun e w' => e = .returned (.bool (Pl.lineB a)) ∧ w' = w := by
  by_cases h1 : 0 ≤ a
  · by_cases h2 : a < 12
    · rw [Pl.lineB_mk h1 h2]
      go_enter Try.func67, Try.ntmps67
      go_wp2
      go_ret
      exact ⟨rfl, rfl⟩
    · rw [Pl.lineB_no1 (by omega)]
      go_enter Try.func67, Try.ntmps67
      go_wp2
      go_ret
      exact ⟨rfl, rfl⟩
  · rw [Pl.lineB_no0 (by omega)]
    go_enter Try.func67, Try.ntmps67
    go_wp2
    go_ret
    exact ⟨rfl, rfl⟩
set_option maxHeartbeats 400000 in
theorem on_calls (x y : Int) (w : World) :
    Calls Try.prog 49 #[.int .i64 x, .int .i64 y] w fun e w' => e = .returned (.bool (Pl.onB x y)) ∧ w' = w := by
  unfold Pl.onB
  cases hx : Pl.lineB x
  · rw [Bool.false_and]
    go_enter Try.func49, Try.ntmps49
    go_wp2_with fail
    refine (onLine_calls x _).mono ?_
    rintro e w' ⟨rfl, rfl⟩
    rw [hx]
    go_wp2
    go_ret
    exact ⟨rfl, rfl⟩
  · rw [Bool.true_and]
    go_enter Try.func49, Try.ntmps49
    go_wp2_with fail
    refine (onLine_calls x _).mono ?_
    rintro e w' ⟨rfl, rfl⟩
    rw [hx]
    go_wp2_with fail
    refine (onLine_calls y _).mono ?_
    rintro e w' ⟨rfl, rfl⟩
    go_wp2
    go_ret
    exact ⟨rfl, rfl⟩
set_option maxHeartbeats 400000 in
theorem far_calls (x y tx ty : Int) (h : (0 ≤ x ∧ x < 12) ∧ 0 ≤ y ∧ y < 12) (g : (0 ≤ tx ∧ tx < 12) ∧ 0 ≤ ty ∧ ty < 12) (w : World) :
    Calls Try.prog 71 #[.int .i64 x, .int .i64 y, .int .i64 tx, .int .i64 ty] w fun e w' => e = .returned (.int .i64 (Pl.farZ x y tx ty)) ∧ w' = w := by
  unfold Pl.farZ
  go_enter Try.func71, Try.ntmps71
  go_wp2_with fail
  refine (apart_calls x tx ⟨h.1, g.1⟩ _).mono ?_
  rintro e w' ⟨rfl, rfl⟩
  go_wp2_with fail
  refine (apart_calls y ty ⟨h.2, g.2⟩ _).mono ?_
  rintro e w' ⟨rfl, rfl⟩
  go_wp2
  · go_ret
    exact ⟨rfl, rfl⟩
  · go_ret
    exact ⟨rfl, rfl⟩
set_option maxHeartbeats 400000 in
theorem toward_calls (x y tx ty : Int) (h : (0 ≤ x ∧ x < 12) ∧ 0 ≤ y ∧ y < 12) (g : (0 ≤ tx ∧ tx < 12) ∧ 0 ≤ ty ∧ ty < 12) (w : World) :
    Calls Try.prog 94 #[.int .i64 x, .int .i64 y, .int .i64 tx, .int .i64 ty] w fun e w' => e = .returned (.tuple #[.int .i64 (Pl.nearZ x tx), .int .i64 (Pl.nearZ y ty)]) ∧ w' = w := by
  go_enter Try.func94, Try.ntmps94
  go_wp2_with fail
  refine (nearer_calls x tx ⟨h.1, g.1⟩ _).mono ?_
  rintro e w' ⟨rfl, rfl⟩
  go_wp2_with fail
  refine (nearer_calls y ty ⟨h.2, g.2⟩ _).mono ?_
  rintro e w' ⟨rfl, rfl⟩
  go_wp2
  go_ret2
  exact ⟨rfl, rfl⟩
end Go.Proofs.Ytgiieepfhohmhab
namespace Go.Proofs.Ytgiieepfhohmhab
open Go.RowKit
set_option maxHeartbeats 800000 in
theorem elder_calls (k : Int) (w : World) :
    Calls Try.prog 48 #[.int .i64 k] w fun e w' => e = .returned (.tuple #[.agg #[.int .i64 (Pl.eCost k), .int .i64 (Pl.eHP k), .int .i64 (Pl.eSpeed k), .int .i64 (Pl.eHarm k), .int .i64 (Pl.eRange k), .int .i64 (Pl.eLoad k)], .bool (Pl.eHas k)]) ∧ w' = w.alloc (.cells #[.int .i64 (Pl.eCost k), .int .i64 (Pl.eHP k), .int .i64 (Pl.eSpeed k), .int .i64 (Pl.eHarm k), .int .i64 (Pl.eRange k), .int .i64 (Pl.eLoad k)] 96) := by
  rcases Pl.kinds k with rfl | rfl | rfl | rfl | rfl | h
  · show Calls Try.prog 48 #[.int .i64 1] w fun e w' => e = .returned (.tuple #[.agg #[.int .i64 5, .int .i64 5, .int .i64 1, .int .i64 1, .int .i64 1, .int .i64 1], .bool true]) ∧ w' = w.alloc (.cells #[.int .i64 5, .int .i64 5, .int .i64 1, .int .i64 1, .int .i64 1, .int .i64 1] 96)
    go_enter Try.func48, Try.ntmps48
    go_wp2
    exact bodyPost_ret (v := .tuple #[.agg #[.int .i64 5, .int .i64 5, .int .i64 1, .int .i64 1, .int .i64 1, .int .i64 1], .bool true]) (by simp [results, Try.results48, go_sem]) rfl ⟨rfl, rfl⟩
  · show Calls Try.prog 48 #[.int .i64 2] w fun e w' => e = .returned (.tuple #[.agg #[.int .i64 8, .int .i64 8, .int .i64 1, .int .i64 2, .int .i64 2, .int .i64 0], .bool true]) ∧ w' = w.alloc (.cells #[.int .i64 8, .int .i64 8, .int .i64 1, .int .i64 2, .int .i64 2, .int .i64 0] 96)
    go_enter Try.func48, Try.ntmps48
    go_wp2
    exact bodyPost_ret (v := .tuple #[.agg #[.int .i64 8, .int .i64 8, .int .i64 1, .int .i64 2, .int .i64 2, .int .i64 0], .bool true]) (by simp [results, Try.results48, go_sem]) rfl ⟨rfl, rfl⟩
  · show Calls Try.prog 48 #[.int .i64 3] w fun e w' => e = .returned (.tuple #[.agg #[.int .i64 15, .int .i64 20, .int .i64 0, .int .i64 3, .int .i64 3, .int .i64 0], .bool true]) ∧ w' = w.alloc (.cells #[.int .i64 15, .int .i64 20, .int .i64 0, .int .i64 3, .int .i64 3, .int .i64 0] 96)
    go_enter Try.func48, Try.ntmps48
    go_wp2
    exact bodyPost_ret (v := .tuple #[.agg #[.int .i64 15, .int .i64 20, .int .i64 0, .int .i64 3, .int .i64 3, .int .i64 0], .bool true]) (by simp [results, Try.results48, go_sem]) rfl ⟨rfl, rfl⟩
  · show Calls Try.prog 48 #[.int .i64 4] w fun e w' => e = .returned (.tuple #[.agg #[.int .i64 0, .int .i64 0, .int .i64 0, .int .i64 0, .int .i64 0, .int .i64 0], .bool true]) ∧ w' = w.alloc (.cells #[.int .i64 0, .int .i64 0, .int .i64 0, .int .i64 0, .int .i64 0, .int .i64 0] 96)
    go_enter Try.func48, Try.ntmps48
    go_wp2
    exact bodyPost_ret (v := .tuple #[.agg #[.int .i64 0, .int .i64 0, .int .i64 0, .int .i64 0, .int .i64 0, .int .i64 0], .bool true]) (by simp [results, Try.results48, go_sem]) rfl ⟨rfl, rfl⟩
  · show Calls Try.prog 48 #[.int .i64 5] w fun e w' => e = .returned (.tuple #[.agg #[.int .i64 7, .int .i64 6, .int .i64 1, .int .i64 0, .int .i64 1, .int .i64 2], .bool true]) ∧ w' = w.alloc (.cells #[.int .i64 7, .int .i64 6, .int .i64 1, .int .i64 0, .int .i64 1, .int .i64 2] 96)
    go_enter Try.func48, Try.ntmps48
    go_wp2
    exact bodyPost_ret (v := .tuple #[.agg #[.int .i64 7, .int .i64 6, .int .i64 1, .int .i64 0, .int .i64 1, .int .i64 2], .bool true]) (by simp [results, Try.results48, go_sem]) rfl ⟨rfl, rfl⟩
  · obtain ⟨e1, e2, e3, e4, e5, e6, e7⟩ := Pl.eElse h
    rw [e1, e2, e3, e4, e5, e6, e7]
    clear e1 e2 e3 e4 e5 e6 e7
    have h1 : (k == 1) = false := by simpa using h.1
    have h2 : (k == 2) = false := by simpa using h.2.1
    have h3 : (k == 3) = false := by simpa using h.2.2.1
    have h4 : (k == 4) = false := by simpa using h.2.2.2.1
    have h5 : (k == 5) = false := by simpa using h.2.2.2.2
    clear h
    go_enter Try.func48, Try.ntmps48
    go_wp2
    exact bodyPost_ret (v := .tuple #[.agg #[.int .i64 0, .int .i64 0, .int .i64 0, .int .i64 0, .int .i64 0, .int .i64 0], .bool false]) (by simp [results, Try.results48, go_sem]) rfl ⟨rfl, rfl⟩
end Go.Proofs.Ytgiieepfhohmhab

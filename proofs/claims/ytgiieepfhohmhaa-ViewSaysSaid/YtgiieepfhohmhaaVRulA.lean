/- Plain facts about the board: how far it is, one step nearer, on the board; no Go in sight. -/
import Derived.Test.YtgiieepfhohmhaaRows
import Derived.WalkKit
import Derived.WalkLawsBesides
import Derived.Below
namespace Go.Proofs.Ytgiieepfhohmhaa.Pl
def lineB (a : Int) : Bool := decide (0 ≤ a ∧ a < 12)
def onB (x y : Int) : Bool := lineB x && lineB y
theorem lineB_true {a : Int} (h : lineB a = true) : 0 ≤ a ∧ a < 12 := by
  simpa [lineB] using h
theorem lineB_mk {a : Int} (h0 : 0 ≤ a) (h1 : a < 12) : lineB a = true := by
  simp [lineB]; omega
theorem lineB_no0 {a : Int} (h : a < 0) : lineB a = false := by
  simp [lineB]; omega
theorem lineB_no1 {a : Int} (h : 12 ≤ a) : lineB a = false := by
  simp [lineB]; omega
theorem onB_true {x y : Int} (h : onB x y = true) : (0 ≤ x ∧ x < 12) ∧ 0 ≤ y ∧ y < 12 := by
  simp only [onB, Bool.and_eq_true] at h
  exact ⟨lineB_true h.1, lineB_true h.2⟩
theorem onB_mk {x y : Int} (h : (0 ≤ x ∧ x < 12) ∧ 0 ≤ y ∧ y < 12) : onB x y = true := by
  simp only [onB, Bool.and_eq_true]
  exact ⟨lineB_mk h.1.1 h.1.2, lineB_mk h.2.1 h.2.2⟩
def eCost (k : Int) : Int := if k = 1 then 5 else if k = 2 then 8 else if k = 3 then 15 else if k = 5 then 7 else 0
def eHP (k : Int) : Int := if k = 1 then 5 else if k = 2 then 8 else if k = 3 then 20 else if k = 5 then 6 else 0
def eSpeed (k : Int) : Int := if k = 1 then 1 else if k = 2 then 1 else if k = 5 then 1 else 0
def eHarm (k : Int) : Int := if k = 1 then 1 else if k = 2 then 2 else if k = 3 then 3 else 0
def eRange (k : Int) : Int := if k = 1 then 1 else if k = 2 then 2 else if k = 3 then 3 else if k = 5 then 1 else 0
def eLoad (k : Int) : Int := if k = 1 then 1 else if k = 5 then 2 else 0
def eHas (k : Int) : Bool := decide (1 ≤ k ∧ k ≤ 5)
def nCost (k : Int) : Int := if k = 1 then 5 else if k = 2 then 8 else if k = 3 then 15 else 0
def nHP (k : Int) : Int := if k = 1 then 5 else if k = 2 then 8 else if k = 3 then 20 else 0
def nSpeed (k : Int) : Int := if k = 1 then 1 else if k = 2 then 1 else 0
def nHarm (k : Int) : Int := if k = 1 then 1 else if k = 2 then 2 else if k = 3 then 3 else 0
def nRange (k : Int) : Int := if k = 1 then 1 else if k = 2 then 2 else if k = 3 then 4 else 0
def nLoad (k : Int) : Int := if k = 1 then 1 else 0
def nHas (k : Int) : Bool := decide (1 ≤ k ∧ k ≤ 4)
theorem kinds (k : Int) : k = 1 ∨ k = 2 ∨ k = 3 ∨ k = 4 ∨ k = 5 ∨ (k ≠ 1 ∧ k ≠ 2 ∧ k ≠ 3 ∧ k ≠ 4 ∧ k ≠ 5) := by omega
theorem eElse {k : Int} (h : k ≠ 1 ∧ k ≠ 2 ∧ k ≠ 3 ∧ k ≠ 4 ∧ k ≠ 5) : eCost k = 0 ∧ eHP k = 0 ∧ eSpeed k = 0 ∧ eHarm k = 0 ∧ eRange k = 0 ∧ eLoad k = 0 ∧ eHas k = false := by
  obtain ⟨h1, h2, h3, h4, h5⟩ := h
  simp only [eCost, eHP, eSpeed, eHarm, eRange, eLoad, eHas, if_neg h1, if_neg h2, if_neg h3, if_neg h5, decide_eq_false_iff_not]
  simp; omega
theorem nElse {k : Int} (h : k ≠ 1 ∧ k ≠ 2 ∧ k ≠ 3 ∧ k ≠ 4 ∧ k ≠ 5) : nCost k = 0 ∧ nHP k = 0 ∧ nSpeed k = 0 ∧ nHarm k = 0 ∧ nRange k = 0 ∧ nLoad k = 0 ∧ nHas k = false := by
  obtain ⟨h1, h2, h3, h4, h5⟩ := h
  simp only [nCost, nHP, nSpeed, nHarm, nRange, nLoad, nHas, if_neg h1, if_neg h2, if_neg h3, decide_eq_false_iff_not]
  simp; omega
theorem nSame {k : Int} (h3 : k ≠ 3) (h5 : k ≠ 5) : nCost k = eCost k ∧ nHP k = eHP k ∧ nSpeed k = eSpeed k ∧ nHarm k = eHarm k ∧ nRange k = eRange k ∧ nLoad k = eLoad k ∧ nHas k = eHas k := by
  simp only [eCost, eHP, eSpeed, eHarm, eRange, eLoad, eHas, nCost, nHP, nSpeed, nHarm, nRange, nLoad, nHas, if_neg h3, if_neg h5]
  refine ⟨trivial, trivial, trivial, trivial, trivial, trivial, ?_⟩
  rw [decide_eq_decide]; omega
theorem onB_no1 {x y : Int} (h : lineB x = false) : onB x y = false := by simp [onB, h]
theorem onB_no2 {x y : Int} (h : lineB y = false) : onB x y = false := by simp [onB, h]
end Go.Proofs.Ytgiieepfhohmhaa.Pl
namespace Go.Proofs.Ytgiieepfhohmhaa
open Go.RowKit
set_option maxHeartbeats 400000 in
theorem onLine_calls (a : Int) (w : World) :
    Calls Try.prog 78 #[.int .i64 a] w fun e w' => e = .returned (.bool (Pl.lineB a)) ∧ w' = w := by
  by_cases h1 : 0 ≤ a
  · by_cases h2 : a < 12
    · rw [Pl.lineB_mk h1 h2]
      go_enter Try.func78, Try.ntmps78
      go_wp2
      go_ret
      exact ⟨rfl, rfl⟩
    · rw [Pl.lineB_no1 (by omega)]
      go_enter Try.func78, Try.ntmps78
      go_wp2
      go_ret
      exact ⟨rfl, rfl⟩
  · rw [Pl.lineB_no0 (by omega)]
    go_enter Try.func78, Try.ntmps78
    go_wp2
    go_ret
    exact ⟨rfl, rfl⟩
set_option maxHeartbeats 400000 in
theorem on_calls (x y : Int) (w : World) :
    Calls Try.prog 30 #[.int .i64 x, .int .i64 y] w fun e w' => e = .returned (.bool (Pl.onB x y)) ∧ w' = w := by
  unfold Pl.onB
  cases hx : Pl.lineB x
  · rw [Bool.false_and]
    go_enter Try.func30, Try.ntmps30
    go_wp2_with fail
    refine (onLine_calls x _).mono ?_
    rintro e w' ⟨rfl, rfl⟩
    rw [hx]
    go_wp2
    go_ret
    exact ⟨rfl, rfl⟩
  · rw [Bool.true_and]
    go_enter Try.func30, Try.ntmps30
    go_wp2_with fail
    refine (onLine_calls x _).mono ?_
    rintro e w' ⟨rfl, rfl⟩
    rw [hx]
    go_wp2_with fail
    refine (onLine_calls y _).mono ?_
    rintro e w' ⟨rfl, rfl⟩
    go_wp2
    go_ret
    exact ⟨rfl, rfl⟩
end Go.Proofs.Ytgiieepfhohmhaa
namespace Go.Proofs.Ytgiieepfhohmhaa
open Go.RowKit
set_option maxHeartbeats 800000 in
theorem elder_calls (k : Int) (w : World) :
    Calls Try.prog 26 #[.int .i64 k] w fun e w' => e = .returned (.tuple #[.agg #[.int .i64 (Pl.eCost k), .int .i64 (Pl.eHP k), .int .i64 (Pl.eSpeed k), .int .i64 (Pl.eHarm k), .int .i64 (Pl.eRange k), .int .i64 (Pl.eLoad k)], .bool (Pl.eHas k)]) ∧ w' = w.alloc (.cells #[.int .i64 (Pl.eCost k), .int .i64 (Pl.eHP k), .int .i64 (Pl.eSpeed k), .int .i64 (Pl.eHarm k), .int .i64 (Pl.eRange k), .int .i64 (Pl.eLoad k)] 41) := by
  rcases Pl.kinds k with rfl | rfl | rfl | rfl | rfl | h
  · show Calls Try.prog 26 #[.int .i64 1] w fun e w' => e = .returned (.tuple #[.agg #[.int .i64 5, .int .i64 5, .int .i64 1, .int .i64 1, .int .i64 1, .int .i64 1], .bool true]) ∧ w' = w.alloc (.cells #[.int .i64 5, .int .i64 5, .int .i64 1, .int .i64 1, .int .i64 1, .int .i64 1] 41)
    go_enter Try.func26, Try.ntmps26
    go_wp2
    exact bodyPost_ret (v := .tuple #[.agg #[.int .i64 5, .int .i64 5, .int .i64 1, .int .i64 1, .int .i64 1, .int .i64 1], .bool true]) (by simp [results, Try.results26, go_sem]) rfl ⟨rfl, rfl⟩
  · show Calls Try.prog 26 #[.int .i64 2] w fun e w' => e = .returned (.tuple #[.agg #[.int .i64 8, .int .i64 8, .int .i64 1, .int .i64 2, .int .i64 2, .int .i64 0], .bool true]) ∧ w' = w.alloc (.cells #[.int .i64 8, .int .i64 8, .int .i64 1, .int .i64 2, .int .i64 2, .int .i64 0] 41)
    go_enter Try.func26, Try.ntmps26
    go_wp2
    exact bodyPost_ret (v := .tuple #[.agg #[.int .i64 8, .int .i64 8, .int .i64 1, .int .i64 2, .int .i64 2, .int .i64 0], .bool true]) (by simp [results, Try.results26, go_sem]) rfl ⟨rfl, rfl⟩
  · show Calls Try.prog 26 #[.int .i64 3] w fun e w' => e = .returned (.tuple #[.agg #[.int .i64 15, .int .i64 20, .int .i64 0, .int .i64 3, .int .i64 3, .int .i64 0], .bool true]) ∧ w' = w.alloc (.cells #[.int .i64 15, .int .i64 20, .int .i64 0, .int .i64 3, .int .i64 3, .int .i64 0] 41)
    go_enter Try.func26, Try.ntmps26
    go_wp2
    exact bodyPost_ret (v := .tuple #[.agg #[.int .i64 15, .int .i64 20, .int .i64 0, .int .i64 3, .int .i64 3, .int .i64 0], .bool true]) (by simp [results, Try.results26, go_sem]) rfl ⟨rfl, rfl⟩
  · show Calls Try.prog 26 #[.int .i64 4] w fun e w' => e = .returned (.tuple #[.agg #[.int .i64 0, .int .i64 0, .int .i64 0, .int .i64 0, .int .i64 0, .int .i64 0], .bool true]) ∧ w' = w.alloc (.cells #[.int .i64 0, .int .i64 0, .int .i64 0, .int .i64 0, .int .i64 0, .int .i64 0] 41)
    go_enter Try.func26, Try.ntmps26
    go_wp2
    exact bodyPost_ret (v := .tuple #[.agg #[.int .i64 0, .int .i64 0, .int .i64 0, .int .i64 0, .int .i64 0, .int .i64 0], .bool true]) (by simp [results, Try.results26, go_sem]) rfl ⟨rfl, rfl⟩
  · show Calls Try.prog 26 #[.int .i64 5] w fun e w' => e = .returned (.tuple #[.agg #[.int .i64 7, .int .i64 6, .int .i64 1, .int .i64 0, .int .i64 1, .int .i64 2], .bool true]) ∧ w' = w.alloc (.cells #[.int .i64 7, .int .i64 6, .int .i64 1, .int .i64 0, .int .i64 1, .int .i64 2] 41)
    go_enter Try.func26, Try.ntmps26
    go_wp2
    exact bodyPost_ret (v := .tuple #[.agg #[.int .i64 7, .int .i64 6, .int .i64 1, .int .i64 0, .int .i64 1, .int .i64 2], .bool true]) (by simp [results, Try.results26, go_sem]) rfl ⟨rfl, rfl⟩
  · obtain ⟨e1, e2, e3, e4, e5, e6, e7⟩ := Pl.eElse h
    rw [e1, e2, e3, e4, e5, e6, e7]
    clear e1 e2 e3 e4 e5 e6 e7
    have h1 : (k == 1) = false := by simpa using h.1
    have h2 : (k == 2) = false := by simpa using h.2.1
    have h3 : (k == 3) = false := by simpa using h.2.2.1
    have h4 : (k == 4) = false := by simpa using h.2.2.2.1
    have h5 : (k == 5) = false := by simpa using h.2.2.2.2
    clear h
    go_enter Try.func26, Try.ntmps26
    go_wp2
    exact bodyPost_ret (v := .tuple #[.agg #[.int .i64 0, .int .i64 0, .int .i64 0, .int .i64 0, .int .i64 0, .int .i64 0], .bool false]) (by simp [results, Try.results26, go_sem]) rfl ⟨rfl, rfl⟩
set_option maxHeartbeats 800000 in
theorem ruleE_calls (k : Int) (w : World) :
    Calls Try.prog 27 #[.int .i64 k, .bool false] w fun e w' => e = .returned (.tuple #[.agg #[.int .i64 (Pl.eCost k), .int .i64 (Pl.eHP k), .int .i64 (Pl.eSpeed k), .int .i64 (Pl.eHarm k), .int .i64 (Pl.eRange k), .int .i64 (Pl.eLoad k)], .bool (Pl.eHas k)]) ∧ w' = w.alloc (.cells #[.int .i64 (Pl.eCost k), .int .i64 (Pl.eHP k), .int .i64 (Pl.eSpeed k), .int .i64 (Pl.eHarm k), .int .i64 (Pl.eRange k), .int .i64 (Pl.eLoad k)] 44) := by
  rcases Pl.kinds k with rfl | rfl | rfl | rfl | rfl | h
  · show Calls Try.prog 27 #[.int .i64 1, .bool false] w fun e w' => e = .returned (.tuple #[.agg #[.int .i64 5, .int .i64 5, .int .i64 1, .int .i64 1, .int .i64 1, .int .i64 1], .bool true]) ∧ w' = w.alloc (.cells #[.int .i64 5, .int .i64 5, .int .i64 1, .int .i64 1, .int .i64 1, .int .i64 1] 44)
    go_enter Try.func27, Try.ntmps27
    go_wp2
    exact bodyPost_ret (v := .tuple #[.agg #[.int .i64 5, .int .i64 5, .int .i64 1, .int .i64 1, .int .i64 1, .int .i64 1], .bool true]) (by simp [results, Try.results27, go_sem]) rfl ⟨rfl, rfl⟩
  · show Calls Try.prog 27 #[.int .i64 2, .bool false] w fun e w' => e = .returned (.tuple #[.agg #[.int .i64 8, .int .i64 8, .int .i64 1, .int .i64 2, .int .i64 2, .int .i64 0], .bool true]) ∧ w' = w.alloc (.cells #[.int .i64 8, .int .i64 8, .int .i64 1, .int .i64 2, .int .i64 2, .int .i64 0] 44)
    go_enter Try.func27, Try.ntmps27
    go_wp2
    exact bodyPost_ret (v := .tuple #[.agg #[.int .i64 8, .int .i64 8, .int .i64 1, .int .i64 2, .int .i64 2, .int .i64 0], .bool true]) (by simp [results, Try.results27, go_sem]) rfl ⟨rfl, rfl⟩
  · show Calls Try.prog 27 #[.int .i64 3, .bool false] w fun e w' => e = .returned (.tuple #[.agg #[.int .i64 15, .int .i64 20, .int .i64 0, .int .i64 3, .int .i64 3, .int .i64 0], .bool true]) ∧ w' = w.alloc (.cells #[.int .i64 15, .int .i64 20, .int .i64 0, .int .i64 3, .int .i64 3, .int .i64 0] 44)
    go_enter Try.func27, Try.ntmps27
    go_wp2
    exact bodyPost_ret (v := .tuple #[.agg #[.int .i64 15, .int .i64 20, .int .i64 0, .int .i64 3, .int .i64 3, .int .i64 0], .bool true]) (by simp [results, Try.results27, go_sem]) rfl ⟨rfl, rfl⟩
  · show Calls Try.prog 27 #[.int .i64 4, .bool false] w fun e w' => e = .returned (.tuple #[.agg #[.int .i64 0, .int .i64 0, .int .i64 0, .int .i64 0, .int .i64 0, .int .i64 0], .bool true]) ∧ w' = w.alloc (.cells #[.int .i64 0, .int .i64 0, .int .i64 0, .int .i64 0, .int .i64 0, .int .i64 0] 44)
    go_enter Try.func27, Try.ntmps27
    go_wp2
    exact bodyPost_ret (v := .tuple #[.agg #[.int .i64 0, .int .i64 0, .int .i64 0, .int .i64 0, .int .i64 0, .int .i64 0], .bool true]) (by simp [results, Try.results27, go_sem]) rfl ⟨rfl, rfl⟩
  · show Calls Try.prog 27 #[.int .i64 5, .bool false] w fun e w' => e = .returned (.tuple #[.agg #[.int .i64 7, .int .i64 6, .int .i64 1, .int .i64 0, .int .i64 1, .int .i64 2], .bool true]) ∧ w' = w.alloc (.cells #[.int .i64 7, .int .i64 6, .int .i64 1, .int .i64 0, .int .i64 1, .int .i64 2] 44)
    go_enter Try.func27, Try.ntmps27
    go_wp2
    exact bodyPost_ret (v := .tuple #[.agg #[.int .i64 7, .int .i64 6, .int .i64 1, .int .i64 0, .int .i64 1, .int .i64 2], .bool true]) (by simp [results, Try.results27, go_sem]) rfl ⟨rfl, rfl⟩
  · obtain ⟨e1, e2, e3, e4, e5, e6, e7⟩ := Pl.eElse h
    rw [e1, e2, e3, e4, e5, e6, e7]
    clear e1 e2 e3 e4 e5 e6 e7
    have h1 : (k == 1) = false := by simpa using h.1
    have h2 : (k == 2) = false := by simpa using h.2.1
    have h3 : (k == 3) = false := by simpa using h.2.2.1
    have h4 : (k == 4) = false := by simpa using h.2.2.2.1
    have h5 : (k == 5) = false := by simpa using h.2.2.2.2
    clear h
    go_enter Try.func27, Try.ntmps27
    go_wp2
    exact bodyPost_ret (v := .tuple #[.agg #[.int .i64 0, .int .i64 0, .int .i64 0, .int .i64 0, .int .i64 0, .int .i64 0], .bool false]) (by simp [results, Try.results27, go_sem]) rfl ⟨rfl, rfl⟩
set_option maxHeartbeats 800000 in
theorem ruleN_calls (k : Int) (w : World) :
    Calls Try.prog 27 #[.int .i64 k, .bool true] w fun e w' => e = .returned (.tuple #[.agg #[.int .i64 (Pl.nCost k), .int .i64 (Pl.nHP k), .int .i64 (Pl.nSpeed k), .int .i64 (Pl.nHarm k), .int .i64 (Pl.nRange k), .int .i64 (Pl.nLoad k)], .bool (Pl.nHas k)]) ∧ w' = w.alloc (.cells #[.int .i64 (Pl.nCost k), .int .i64 (Pl.nHP k), .int .i64 (Pl.nSpeed k), .int .i64 (Pl.nHarm k), .int .i64 (Pl.nRange k), .int .i64 (Pl.nLoad k)] 44) := by
  rcases Pl.kinds k with rfl | rfl | rfl | rfl | rfl | h
  · show Calls Try.prog 27 #[.int .i64 1, .bool true] w fun e w' => e = .returned (.tuple #[.agg #[.int .i64 5, .int .i64 5, .int .i64 1, .int .i64 1, .int .i64 1, .int .i64 1], .bool true]) ∧ w' = w.alloc (.cells #[.int .i64 5, .int .i64 5, .int .i64 1, .int .i64 1, .int .i64 1, .int .i64 1] 44)
    go_enter Try.func27, Try.ntmps27
    go_wp2
    exact bodyPost_ret (v := .tuple #[.agg #[.int .i64 5, .int .i64 5, .int .i64 1, .int .i64 1, .int .i64 1, .int .i64 1], .bool true]) (by simp [results, Try.results27, go_sem]) rfl ⟨rfl, rfl⟩
  · show Calls Try.prog 27 #[.int .i64 2, .bool true] w fun e w' => e = .returned (.tuple #[.agg #[.int .i64 8, .int .i64 8, .int .i64 1, .int .i64 2, .int .i64 2, .int .i64 0], .bool true]) ∧ w' = w.alloc (.cells #[.int .i64 8, .int .i64 8, .int .i64 1, .int .i64 2, .int .i64 2, .int .i64 0] 44)
    go_enter Try.func27, Try.ntmps27
    go_wp2
    exact bodyPost_ret (v := .tuple #[.agg #[.int .i64 8, .int .i64 8, .int .i64 1, .int .i64 2, .int .i64 2, .int .i64 0], .bool true]) (by simp [results, Try.results27, go_sem]) rfl ⟨rfl, rfl⟩
  · show Calls Try.prog 27 #[.int .i64 3, .bool true] w fun e w' => e = .returned (.tuple #[.agg #[.int .i64 15, .int .i64 20, .int .i64 0, .int .i64 3, .int .i64 4, .int .i64 0], .bool true]) ∧ w' = w.alloc (.cells #[.int .i64 15, .int .i64 20, .int .i64 0, .int .i64 3, .int .i64 4, .int .i64 0] 44)
    go_enter Try.func27, Try.ntmps27
    go_wp2
    exact bodyPost_ret (v := .tuple #[.agg #[.int .i64 15, .int .i64 20, .int .i64 0, .int .i64 3, .int .i64 4, .int .i64 0], .bool true]) (by simp [results, Try.results27, go_sem]) rfl ⟨rfl, rfl⟩
  · show Calls Try.prog 27 #[.int .i64 4, .bool true] w fun e w' => e = .returned (.tuple #[.agg #[.int .i64 0, .int .i64 0, .int .i64 0, .int .i64 0, .int .i64 0, .int .i64 0], .bool true]) ∧ w' = w.alloc (.cells #[.int .i64 0, .int .i64 0, .int .i64 0, .int .i64 0, .int .i64 0, .int .i64 0] 44)
    go_enter Try.func27, Try.ntmps27
    go_wp2
    exact bodyPost_ret (v := .tuple #[.agg #[.int .i64 0, .int .i64 0, .int .i64 0, .int .i64 0, .int .i64 0, .int .i64 0], .bool true]) (by simp [results, Try.results27, go_sem]) rfl ⟨rfl, rfl⟩
  · show Calls Try.prog 27 #[.int .i64 5, .bool true] w fun e w' => e = .returned (.tuple #[.agg #[.int .i64 0, .int .i64 0, .int .i64 0, .int .i64 0, .int .i64 0, .int .i64 0], .bool false]) ∧ w' = w.alloc (.cells #[.int .i64 0, .int .i64 0, .int .i64 0, .int .i64 0, .int .i64 0, .int .i64 0] 44)
    go_enter Try.func27, Try.ntmps27
    go_wp2
    exact bodyPost_ret (v := .tuple #[.agg #[.int .i64 0, .int .i64 0, .int .i64 0, .int .i64 0, .int .i64 0, .int .i64 0], .bool false]) (by simp [results, Try.results27, go_sem]) rfl ⟨rfl, rfl⟩
  · obtain ⟨e1, e2, e3, e4, e5, e6, e7⟩ := Pl.nElse h
    rw [e1, e2, e3, e4, e5, e6, e7]
    clear e1 e2 e3 e4 e5 e6 e7
    have h1 : (k == 1) = false := by simpa using h.1
    have h2 : (k == 2) = false := by simpa using h.2.1
    have h3 : (k == 3) = false := by simpa using h.2.2.1
    have h4 : (k == 4) = false := by simpa using h.2.2.2.1
    have h5 : (k == 5) = false := by simpa using h.2.2.2.2
    clear h
    go_enter Try.func27, Try.ntmps27
    go_wp2
    exact bodyPost_ret (v := .tuple #[.agg #[.int .i64 0, .int .i64 0, .int .i64 0, .int .i64 0, .int .i64 0, .int .i64 0], .bool false]) (by simp [results, Try.results27, go_sem]) rfl ⟨rfl, rfl⟩
end Go.Proofs.Ytgiieepfhohmhaa

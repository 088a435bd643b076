/- Plain facts about the board: how far it is, one step nearer, on the board; no Go in sight. -/
import Derived.Test.YtcbalhicaipmlaaGreatRows
import Derived.WalkKit
import Derived.WalkLawsBesides
import Derived.Below
import Derived.Test.YtcbalhicaipmlaaGreatProg
import Derived.WalkSpells
import Derived.Handy
import Derived.Deep.RegionWith
import Derived.Deep.QuietTactic
import Derived.BigQuiet
import Derived.BigRegion
namespace Go.Proofs.YtcbalhicaipmlaaGreat.Pl
def apartZ (a b : Int) : Int := if b ≤ a then a - b else b - a
def nearZ (a b : Int) : Int := if a < b then a + 1 else if b < a then a - 1 else a
def farZ (x y tx ty : Int) : Int := if apartZ x tx < apartZ y ty then apartZ y ty else apartZ x tx
def lineB (a : Int) : Bool := decide (0 ≤ a ∧ a < 12)
def onB (x y : Int) : Bool := lineB x && lineB y
theorem lineB_true {a : Int} (h : lineB a = true) : 0 ≤ a ∧ a < 12 := by
  simpa [lineB] using h
theorem lineB_mk {a : Int} (h0 : 0 ≤ a) (h1 : a < 12) : lineB a = true := by
  simp [lineB]; omega
theorem lineB_no0 {a : Int} (h : a < 0) : lineB a = false := by
  simp [lineB]; omega
theorem lineB_no1 {a : Int} (h : 12 ≤ a) : lineB a = false := by
  simp [lineB]; omega
theorem onB_true {x y : Int} (h : onB x y = true) : (0 ≤ x ∧ x < 12) ∧ 0 ≤ y ∧ y < 12 := by
  simp only [onB, Bool.and_eq_true] at h
  exact ⟨lineB_true h.1, lineB_true h.2⟩
theorem onB_mk {x y : Int} (h : (0 ≤ x ∧ x < 12) ∧ 0 ≤ y ∧ y < 12) : onB x y = true := by
  simp only [onB, Bool.and_eq_true]
  exact ⟨lineB_mk h.1.1 h.1.2, lineB_mk h.2.1 h.2.2⟩
def eCost (k : Int) : Int := if k = 1 then 5 else if k = 2 then 8 else if k = 3 then 15 else if k = 5 then 7 else 0
def eHP (k : Int) : Int := if k = 1 then 5 else if k = 2 then 8 else if k = 3 then 20 else if k = 5 then 6 else 0
def eSpeed (k : Int) : Int := if k = 1 then 1 else if k = 2 then 1 else if k = 5 then 1 else 0
def eHarm (k : Int) : Int := if k = 1 then 1 else if k = 2 then 2 else if k = 3 then 3 else 0
def eRange (k : Int) : Int := if k = 1 then 1 else if k = 2 then 2 else if k = 3 then 3 else if k = 5 then 1 else 0
def eLoad (k : Int) : Int := if k = 1 then 1 else if k = 5 then 2 else 0
def eHas (k : Int) : Bool := decide (1 ≤ k ∧ k ≤ 5)
def nCost (k : Int) : Int := if k = 1 then 5 else if k = 2 then 8 else if k = 3 then 15 else 0
def nHP (k : Int) : Int := if k = 1 then 5 else if k = 2 then 8 else if k = 3 then 20 else 0
def nSpeed (k : Int) : Int := if k = 1 then 1 else if k = 2 then 1 else 0
def nHarm (k : Int) : Int := if k = 1 then 1 else if k = 2 then 2 else if k = 3 then 3 else 0
def nRange (k : Int) : Int := if k = 1 then 1 else if k = 2 then 2 else if k = 3 then 4 else 0
def nLoad (k : Int) : Int := if k = 1 then 1 else 0
def nHas (k : Int) : Bool := decide (1 ≤ k ∧ k ≤ 4)
theorem kinds (k : Int) : k = 1 ∨ k = 2 ∨ k = 3 ∨ k = 4 ∨ k = 5 ∨ (k ≠ 1 ∧ k ≠ 2 ∧ k ≠ 3 ∧ k ≠ 4 ∧ k ≠ 5) := by omega
theorem eElse {k : Int} (h : k ≠ 1 ∧ k ≠ 2 ∧ k ≠ 3 ∧ k ≠ 4 ∧ k ≠ 5) : eCost k = 0 ∧ eHP k = 0 ∧ eSpeed k = 0 ∧ eHarm k = 0 ∧ eRange k = 0 ∧ eLoad k = 0 ∧ eHas k = false := by
  obtain ⟨h1, h2, h3, h4, h5⟩ := h
  simp only [eCost, eHP, eSpeed, eHarm, eRange, eLoad, eHas, if_neg h1, if_neg h2, if_neg h3, if_neg h5, decide_eq_false_iff_not]
  simp; omega
theorem nElse {k : Int} (h : k ≠ 1 ∧ k ≠ 2 ∧ k ≠ 3 ∧ k ≠ 4 ∧ k ≠ 5) : nCost k = 0 ∧ nHP k = 0 ∧ nSpeed k = 0 ∧ nHarm k = 0 ∧ nRange k = 0 ∧ nLoad k = 0 ∧ nHas k = false := by
  obtain ⟨h1, h2, h3, h4, h5⟩ := h
  simp only [nCost, nHP, nSpeed, nHarm, nRange, nLoad, nHas, if_neg h1, if_neg h2, if_neg h3, decide_eq_false_iff_not]
  simp; omega
theorem nSame {k : Int} (h3 : k ≠ 3) (h5 : k ≠ 5) : nCost k = eCost k ∧ nHP k = eHP k ∧ nSpeed k = eSpeed k ∧ nHarm k = eHarm k ∧ nRange k = eRange k ∧ nLoad k = eLoad k ∧ nHas k = eHas k := by
  simp only [eCost, eHP, eSpeed, eHarm, eRange, eLoad, eHas, nCost, nHP, nSpeed, nHarm, nRange, nLoad, nHas, if_neg h3, if_neg h5]
  refine ⟨trivial, trivial, trivial, trivial, trivial, trivial, ?_⟩
  rw [decide_eq_decide]; omega
theorem onB_no1 {x y : Int} (h : lineB x = false) : onB x y = false := by simp [onB, h]
theorem onB_no2 {x y : Int} (h : lineB y = false) : onB x y = false := by simp [onB, h]
end Go.Proofs.YtcbalhicaipmlaaGreat.Pl
namespace Go.Proofs.YtcbalhicaipmlaaGreat
open Go.RowKit
theorem ret_int {k : IntKind} {a b : Int} (h : a = b) : Ending.returned (.int k a) = .returned (.int k b) := by rw [h]
set_option maxHeartbeats 400000 in
theorem onLine_calls (a : Int) (w : World) :
    Calls Tryz.prog 141 #[.int .i64 a] w fun e w' => e = .returned (.bool (Pl.lineB a)) ∧ w' = w := by
  by_cases h1 : 0 ≤ a
  · by_cases h2 : a < 12
    · rw [Pl.lineB_mk h1 h2]
      go_enter Tryz.func141, Tryz.ntmps141
      go_wp2
      go_ret
      exact ⟨rfl, rfl⟩
    · rw [Pl.lineB_no1 (by omega)]
      go_enter Tryz.func141, Tryz.ntmps141
      go_wp2
      go_ret
      exact ⟨rfl, rfl⟩
  · rw [Pl.lineB_no0 (by omega)]
    go_enter Tryz.func141, Tryz.ntmps141
    go_wp2
    go_ret
    exact ⟨rfl, rfl⟩
set_option maxHeartbeats 400000 in
theorem on_calls (x y : Int) (w : World) :
    Calls Tryz.prog 130 #[.int .i64 x, .int .i64 y] w fun e w' => e = .returned (.bool (Pl.onB x y)) ∧ w' = w := by
  unfold Pl.onB
  cases hx : Pl.lineB x
  · rw [Bool.false_and]
    go_enter Tryz.func130, Tryz.ntmps130
    go_wp2_with fail
    refine (onLine_calls x _).mono ?_
    rintro e w' ⟨rfl, rfl⟩
    rw [hx]
    go_wp2
    go_ret
    exact ⟨rfl, rfl⟩
  · rw [Bool.true_and]
    go_enter Tryz.func130, Tryz.ntmps130
    go_wp2_with fail
    refine (onLine_calls x _).mono ?_
    rintro e w' ⟨rfl, rfl⟩
    rw [hx]
    go_wp2_with fail
    refine (onLine_calls y _).mono ?_
    rintro e w' ⟨rfl, rfl⟩
    go_wp2
    go_ret
    exact ⟨rfl, rfl⟩
end Go.Proofs.YtcbalhicaipmlaaGreat
namespace Go.Proofs.YtcbalhicaipmlaaGreat
open Go.RowKit
set_option maxHeartbeats 800000 in
theorem elder_calls (k : Int) (w : World) :
    Calls Tryz.prog 129 #[.int .i64 k] w fun e w' => e = .returned (.tuple #[.agg #[.int .i64 (Pl.eCost k), .int .i64 (Pl.eHP k), .int .i64 (Pl.eSpeed k), .int .i64 (Pl.eHarm k), .int .i64 (Pl.eRange k), .int .i64 (Pl.eLoad k)], .bool (Pl.eHas k)]) ∧ w' = w.alloc (.cells #[.int .i64 (Pl.eCost k), .int .i64 (Pl.eHP k), .int .i64 (Pl.eSpeed k), .int .i64 (Pl.eHarm k), .int .i64 (Pl.eRange k), .int .i64 (Pl.eLoad k)] 203) := by
  rcases Pl.kinds k with rfl | rfl | rfl | rfl | rfl | h
  · show Calls Tryz.prog 129 #[.int .i64 1] w fun e w' => e = .returned (.tuple #[.agg #[.int .i64 5, .int .i64 5, .int .i64 1, .int .i64 1, .int .i64 1, .int .i64 1], .bool true]) ∧ w' = w.alloc (.cells #[.int .i64 5, .int .i64 5, .int .i64 1, .int .i64 1, .int .i64 1, .int .i64 1] 203)
    go_enter Tryz.func129, Tryz.ntmps129
    go_wp2
    exact bodyPost_ret (v := .tuple #[.agg #[.int .i64 5, .int .i64 5, .int .i64 1, .int .i64 1, .int .i64 1, .int .i64 1], .bool true]) (by simp [results, Tryz.results129, go_sem]) rfl ⟨rfl, rfl⟩
  · show Calls Tryz.prog 129 #[.int .i64 2] w fun e w' => e = .returned (.tuple #[.agg #[.int .i64 8, .int .i64 8, .int .i64 1, .int .i64 2, .int .i64 2, .int .i64 0], .bool true]) ∧ w' = w.alloc (.cells #[.int .i64 8, .int .i64 8, .int .i64 1, .int .i64 2, .int .i64 2, .int .i64 0] 203)
    go_enter Tryz.func129, Tryz.ntmps129
    go_wp2
    exact bodyPost_ret (v := .tuple #[.agg #[.int .i64 8, .int .i64 8, .int .i64 1, .int .i64 2, .int .i64 2, .int .i64 0], .bool true]) (by simp [results, Tryz.results129, go_sem]) rfl ⟨rfl, rfl⟩
  · show Calls Tryz.prog 129 #[.int .i64 3] w fun e w' => e = .returned (.tuple #[.agg #[.int .i64 15, .int .i64 20, .int .i64 0, .int .i64 3, .int .i64 3, .int .i64 0], .bool true]) ∧ w' = w.alloc (.cells #[.int .i64 15, .int .i64 20, .int .i64 0, .int .i64 3, .int .i64 3, .int .i64 0] 203)
    go_enter Tryz.func129, Tryz.ntmps129
    go_wp2
    exact bodyPost_ret (v := .tuple #[.agg #[.int .i64 15, .int .i64 20, .int .i64 0, .int .i64 3, .int .i64 3, .int .i64 0], .bool true]) (by simp [results, Tryz.results129, go_sem]) rfl ⟨rfl, rfl⟩
  · show Calls Tryz.prog 129 #[.int .i64 4] w fun e w' => e = .returned (.tuple #[.agg #[.int .i64 0, .int .i64 0, .int .i64 0, .int .i64 0, .int .i64 0, .int .i64 0], .bool true]) ∧ w' = w.alloc (.cells #[.int .i64 0, .int .i64 0, .int .i64 0, .int .i64 0, .int .i64 0, .int .i64 0] 203)
    go_enter Tryz.func129, Tryz.ntmps129
    go_wp2
    exact bodyPost_ret (v := .tuple #[.agg #[.int .i64 0, .int .i64 0, .int .i64 0, .int .i64 0, .int .i64 0, .int .i64 0], .bool true]) (by simp [results, Tryz.results129, go_sem]) rfl ⟨rfl, rfl⟩
  · show Calls Tryz.prog 129 #[.int .i64 5] w fun e w' => e = .returned (.tuple #[.agg #[.int .i64 7, .int .i64 6, .int .i64 1, .int .i64 0, .int .i64 1, .int .i64 2], .bool true]) ∧ w' = w.alloc (.cells #[.int .i64 7, .int .i64 6, .int .i64 1, .int .i64 0, .int .i64 1, .int .i64 2] 203)
    go_enter Tryz.func129, Tryz.ntmps129
    go_wp2
    exact bodyPost_ret (v := .tuple #[.agg #[.int .i64 7, .int .i64 6, .int .i64 1, .int .i64 0, .int .i64 1, .int .i64 2], .bool true]) (by simp [results, Tryz.results129, go_sem]) rfl ⟨rfl, rfl⟩
  · obtain ⟨e1, e2, e3, e4, e5, e6, e7⟩ := Pl.eElse h
    rw [e1, e2, e3, e4, e5, e6, e7]
    clear e1 e2 e3 e4 e5 e6 e7
    have h1 : (k == 1) = false := by simpa using h.1
    have h2 : (k == 2) = false := by simpa using h.2.1
    have h3 : (k == 3) = false := by simpa using h.2.2.1
    have h4 : (k == 4) = false := by simpa using h.2.2.2.1
    have h5 : (k == 5) = false := by simpa using h.2.2.2.2
    clear h
    go_enter Tryz.func129, Tryz.ntmps129
    go_wp2
    exact bodyPost_ret (v := .tuple #[.agg #[.int .i64 0, .int .i64 0, .int .i64 0, .int .i64 0, .int .i64 0, .int .i64 0], .bool false]) (by simp [results, Tryz.results129, go_sem]) rfl ⟨rfl, rfl⟩
set_option maxHeartbeats 800000 in
theorem ruleE_calls (k : Int) (w : World) :
    Calls Tryz.prog 103 #[.int .i64 k, .bool false] w fun e w' => e = .returned (.tuple #[.agg #[.int .i64 (Pl.eCost k), .int .i64 (Pl.eHP k), .int .i64 (Pl.eSpeed k), .int .i64 (Pl.eHarm k), .int .i64 (Pl.eRange k), .int .i64 (Pl.eLoad k)], .bool (Pl.eHas k)]) ∧ w' = w.alloc (.cells #[.int .i64 (Pl.eCost k), .int .i64 (Pl.eHP k), .int .i64 (Pl.eSpeed k), .int .i64 (Pl.eHarm k), .int .i64 (Pl.eRange k), .int .i64 (Pl.eLoad k)] 124) := by
  rcases Pl.kinds k with rfl | rfl | rfl | rfl | rfl | h
  · show Calls Tryz.prog 103 #[.int .i64 1, .bool false] w fun e w' => e = .returned (.tuple #[.agg #[.int .i64 5, .int .i64 5, .int .i64 1, .int .i64 1, .int .i64 1, .int .i64 1], .bool true]) ∧ w' = w.alloc (.cells #[.int .i64 5, .int .i64 5, .int .i64 1, .int .i64 1, .int .i64 1, .int .i64 1] 124)
    go_enter Tryz.func103, Tryz.ntmps103
    go_wp2
    exact bodyPost_ret (v := .tuple #[.agg #[.int .i64 5, .int .i64 5, .int .i64 1, .int .i64 1, .int .i64 1, .int .i64 1], .bool true]) (by simp [results, Tryz.results103, go_sem]) rfl ⟨rfl, rfl⟩
  · show Calls Tryz.prog 103 #[.int .i64 2, .bool false] w fun e w' => e = .returned (.tuple #[.agg #[.int .i64 8, .int .i64 8, .int .i64 1, .int .i64 2, .int .i64 2, .int .i64 0], .bool true]) ∧ w' = w.alloc (.cells #[.int .i64 8, .int .i64 8, .int .i64 1, .int .i64 2, .int .i64 2, .int .i64 0] 124)
    go_enter Tryz.func103, Tryz.ntmps103
    go_wp2
    exact bodyPost_ret (v := .tuple #[.agg #[.int .i64 8, .int .i64 8, .int .i64 1, .int .i64 2, .int .i64 2, .int .i64 0], .bool true]) (by simp [results, Tryz.results103, go_sem]) rfl ⟨rfl, rfl⟩
  · show Calls Tryz.prog 103 #[.int .i64 3, .bool false] w fun e w' => e = .returned (.tuple #[.agg #[.int .i64 15, .int .i64 20, .int .i64 0, .int .i64 3, .int .i64 3, .int .i64 0], .bool true]) ∧ w' = w.alloc (.cells #[.int .i64 15, .int .i64 20, .int .i64 0, .int .i64 3, .int .i64 3, .int .i64 0] 124)
    go_enter Tryz.func103, Tryz.ntmps103
    go_wp2
    exact bodyPost_ret (v := .tuple #[.agg #[.int .i64 15, .int .i64 20, .int .i64 0, .int .i64 3, .int .i64 3, .int .i64 0], .bool true]) (by simp [results, Tryz.results103, go_sem]) rfl ⟨rfl, rfl⟩
  · show Calls Tryz.prog 103 #[.int .i64 4, .bool false] w fun e w' => e = .returned (.tuple #[.agg #[.int .i64 0, .int .i64 0, .int .i64 0, .int .i64 0, .int .i64 0, .int .i64 0], .bool true]) ∧ w' = w.alloc (.cells #[.int .i64 0, .int .i64 0, .int .i64 0, .int .i64 0, .int .i64 0, .int .i64 0] 124)
    go_enter Tryz.func103, Tryz.ntmps103
    go_wp2
    exact bodyPost_ret (v := .tuple #[.agg #[.int .i64 0, .int .i64 0, .int .i64 0, .int .i64 0, .int .i64 0, .int .i64 0], .bool true]) (by simp [results, Tryz.results103, go_sem]) rfl ⟨rfl, rfl⟩
  · show Calls Tryz.prog 103 #[.int .i64 5, .bool false] w fun e w' => e = .returned (.tuple #[.agg #[.int .i64 7, .int .i64 6, .int .i64 1, .int .i64 0, .int .i64 1, .int .i64 2], .bool true]) ∧ w' = w.alloc (.cells #[.int .i64 7, .int .i64 6, .int .i64 1, .int .i64 0, .int .i64 1, .int .i64 2] 124)
    go_enter Tryz.func103, Tryz.ntmps103
    go_wp2
    exact bodyPost_ret (v := .tuple #[.agg #[.int .i64 7, .int .i64 6, .int .i64 1, .int .i64 0, .int .i64 1, .int .i64 2], .bool true]) (by simp [results, Tryz.results103, go_sem]) rfl ⟨rfl, rfl⟩
  · obtain ⟨e1, e2, e3, e4, e5, e6, e7⟩ := Pl.eElse h
    rw [e1, e2, e3, e4, e5, e6, e7]
    clear e1 e2 e3 e4 e5 e6 e7
    have h1 : (k == 1) = false := by simpa using h.1
    have h2 : (k == 2) = false := by simpa using h.2.1
    have h3 : (k == 3) = false := by simpa using h.2.2.1
    have h4 : (k == 4) = false := by simpa using h.2.2.2.1
    have h5 : (k == 5) = false := by simpa using h.2.2.2.2
    clear h
    go_enter Tryz.func103, Tryz.ntmps103
    go_wp2
    exact bodyPost_ret (v := .tuple #[.agg #[.int .i64 0, .int .i64 0, .int .i64 0, .int .i64 0, .int .i64 0, .int .i64 0], .bool false]) (by simp [results, Tryz.results103, go_sem]) rfl ⟨rfl, rfl⟩
set_option maxHeartbeats 800000 in
theorem ruleN_calls (k : Int) (w : World) :
    Calls Tryz.prog 103 #[.int .i64 k, .bool true] w fun e w' => e = .returned (.tuple #[.agg #[.int .i64 (Pl.nCost k), .int .i64 (Pl.nHP k), .int .i64 (Pl.nSpeed k), .int .i64 (Pl.nHarm k), .int .i64 (Pl.nRange k), .int .i64 (Pl.nLoad k)], .bool (Pl.nHas k)]) ∧ w' = w.alloc (.cells #[.int .i64 (Pl.nCost k), .int .i64 (Pl.nHP k), .int .i64 (Pl.nSpeed k), .int .i64 (Pl.nHarm k), .int .i64 (Pl.nRange k), .int .i64 (Pl.nLoad k)] 124) := by
  rcases Pl.kinds k with rfl | rfl | rfl | rfl | rfl | h
  · show Calls Tryz.prog 103 #[.int .i64 1, .bool true] w fun e w' => e = .returned (.tuple #[.agg #[.int .i64 5, .int .i64 5, .int .i64 1, .int .i64 1, .int .i64 1, .int .i64 1], .bool true]) ∧ w' = w.alloc (.cells #[.int .i64 5, .int .i64 5, .int .i64 1, .int .i64 1, .int .i64 1, .int .i64 1] 124)
    go_enter Tryz.func103, Tryz.ntmps103
    go_wp2
    exact bodyPost_ret (v := .tuple #[.agg #[.int .i64 5, .int .i64 5, .int .i64 1, .int .i64 1, .int .i64 1, .int .i64 1], .bool true]) (by simp [results, Tryz.results103, go_sem]) rfl ⟨rfl, rfl⟩
  · show Calls Tryz.prog 103 #[.int .i64 2, .bool true] w fun e w' => e = .returned (.tuple #[.agg #[.int .i64 8, .int .i64 8, .int .i64 1, .int .i64 2, .int .i64 2, .int .i64 0], .bool true]) ∧ w' = w.alloc (.cells #[.int .i64 8, .int .i64 8, .int .i64 1, .int .i64 2, .int .i64 2, .int .i64 0] 124)
    go_enter Tryz.func103, Tryz.ntmps103
    go_wp2
    exact bodyPost_ret (v := .tuple #[.agg #[.int .i64 8, .int .i64 8, .int .i64 1, .int .i64 2, .int .i64 2, .int .i64 0], .bool true]) (by simp [results, Tryz.results103, go_sem]) rfl ⟨rfl, rfl⟩
  · show Calls Tryz.prog 103 #[.int .i64 3, .bool true] w fun e w' => e = .returned (.tuple #[.agg #[.int .i64 15, .int .i64 20, .int .i64 0, .int .i64 3, .int .i64 4, .int .i64 0], .bool true]) ∧ w' = w.alloc (.cells #[.int .i64 15, .int .i64 20, .int .i64 0, .int .i64 3, .int .i64 4, .int .i64 0] 124)
    go_enter Tryz.func103, Tryz.ntmps103
    go_wp2
    exact bodyPost_ret (v := .tuple #[.agg #[.int .i64 15, .int .i64 20, .int .i64 0, .int .i64 3, .int .i64 4, .int .i64 0], .bool true]) (by simp [results, Tryz.results103, go_sem]) rfl ⟨rfl, rfl⟩
  · show Calls Tryz.prog 103 #[.int .i64 4, .bool true] w fun e w' => e = .returned (.tuple #[.agg #[.int .i64 0, .int .i64 0, .int .i64 0, .int .i64 0, .int .i64 0, .int .i64 0], .bool true]) ∧ w' = w.alloc (.cells #[.int .i64 0, .int .i64 0, .int .i64 0, .int .i64 0, .int .i64 0, .int .i64 0] 124)
    go_enter Tryz.func103, Tryz.ntmps103
    go_wp2
    exact bodyPost_ret (v := .tuple #[.agg #[.int .i64 0, .int .i64 0, .int .i64 0, .int .i64 0, .int .i64 0, .int .i64 0], .bool true]) (by simp [results, Tryz.results103, go_sem]) rfl ⟨rfl, rfl⟩
  · show Calls Tryz.prog 103 #[.int .i64 5, .bool true] w fun e w' => e = .returned (.tuple #[.agg #[.int .i64 0, .int .i64 0, .int .i64 0, .int .i64 0, .int .i64 0, .int .i64 0], .bool false]) ∧ w' = w.alloc (.cells #[.int .i64 0, .int .i64 0, .int .i64 0, .int .i64 0, .int .i64 0, .int .i64 0] 124)
    go_enter Tryz.func103, Tryz.ntmps103
    go_wp2
    exact bodyPost_ret (v := .tuple #[.agg #[.int .i64 0, .int .i64 0, .int .i64 0, .int .i64 0, .int .i64 0, .int .i64 0], .bool false]) (by simp [results, Tryz.results103, go_sem]) rfl ⟨rfl, rfl⟩
  · obtain ⟨e1, e2, e3, e4, e5, e6, e7⟩ := Pl.nElse h
    rw [e1, e2, e3, e4, e5, e6, e7]
    clear e1 e2 e3 e4 e5 e6 e7
    have h1 : (k == 1) = false := by simpa using h.1
    have h2 : (k == 2) = false := by simpa using h.2.1
    have h3 : (k == 3) = false := by simpa using h.2.2.1
    have h4 : (k == 4) = false := by simpa using h.2.2.2.1
    have h5 : (k == 5) = false := by simpa using h.2.2.2.2
    clear h
    go_enter Tryz.func103, Tryz.ntmps103
    go_wp2
    exact bodyPost_ret (v := .tuple #[.agg #[.int .i64 0, .int .i64 0, .int .i64 0, .int .i64 0, .int .i64 0, .int .i64 0], .bool false]) (by simp [results, Tryz.results103, go_sem]) rfl ⟨rfl, rfl⟩
end Go.Proofs.YtcbalhicaipmlaaGreat
namespace Go.Proofs.YtcbalhicaipmlaaGreat
open Go.RowKit
def fld (r : List Int) (j : Nat) : Int := r.getD j 0
def rec (rs : List (List Int)) (i : Nat) : List Int := rs.getD i []
def Recs (w : World) (a : Option Addr) (k : Nat) (rs : List (List Int)) : Prop :=
  rs = [] ∨ ∃ b o, a = some ⟨b, o, none⟩ ∧ ∀ i, i < rs.length → ∀ j, j < k → w.cell? ⟨b, o + i * k + j, none⟩ = some (.int .i64 (fld (rec rs i) j))
def Nums (w : World) (a : Option Addr) (zs : List Int) : Prop :=
  zs = [] ∨ ∃ b o, a = some ⟨b, o, none⟩ ∧ ∀ i, i < zs.length → w.cell? ⟨b, o + i, none⟩ = some (.int .i64 (fld zs i))
theorem Recs.at {w : World} {a : Option Addr} {k : Nat} {rs : List (List Int)} (h : Recs w a k rs) {i : Nat} (hi : i < rs.length) :
    ∃ b o, a = some ⟨b, o, none⟩ ∧ ∀ j, j < k → w.cell? ⟨b, o + i * k + j, none⟩ = some (.int .i64 (fld (rec rs i) j)) := by
  rcases h with rfl | ⟨b, o, e, hc⟩
  · simp at hi
  · exact ⟨b, o, e, hc i hi⟩
theorem Nums.at {w : World} {a : Option Addr} {zs : List Int} (h : Nums w a zs) {i : Nat} (hi : i < zs.length) :
    ∃ b o, a = some ⟨b, o, none⟩ ∧ w.cell? ⟨b, o + i, none⟩ = some (.int .i64 (fld zs i)) := by
  rcases h with rfl | ⟨b, o, e, hc⟩
  · simp at hi
  · exact ⟨b, o, e, hc i hi⟩
theorem Recs.drewN {w : World} {a : Option Addr} {k : Nat} {rs : List (List Int)} (h : Recs w a k rs) (n : Nat) : Recs (w.drewN n) a k rs := h
theorem Nums.drewN {w : World} {a : Option Addr} {zs : List Int} (h : Nums w a zs) (n : Nat) : Nums (w.drewN n) a zs := h
def whoZ (id : Int) (rs : List (List Int)) : Int :=
  match rs.findIdx? (fun r => fld r 0 == id) with
  | some i => i
  | none => -1
theorem whoZ_some {id : Int} {rs : List (List Int)} {k : Nat} (hk : k < rs.length) (hn : ∀ i, i < k → fld (rec rs i) 0 ≠ id) (he : fld (rec rs k) 0 = id) : whoZ id rs = k := by
  have h : rs.findIdx? (fun r => fld r 0 == id) = some k := by
    rw [List.findIdx?_eq_some_iff_getElem]
    refine ⟨hk, ?_, fun j hj => ?_⟩
    · have : rec rs k = rs[k] := by simp [rec, List.getD_eq_getElem?_getD, hk]
      rw [this] at he
      simpa using he
    · have hj2 : j < rs.length := by omega
      have : rec rs j = rs[j] := by simp [rec, List.getD_eq_getElem?_getD, hj2]
      have h2 := hn j hj
      rw [this] at h2
      simpa using h2
  unfold whoZ
  rw [h]
theorem whoZ_none {id : Int} {rs : List (List Int)} (hn : ∀ i, i < rs.length → fld (rec rs i) 0 ≠ id) : whoZ id rs = -1 := by
  have h : rs.findIdx? (fun r => fld r 0 == id) = none := by
    rw [List.findIdx?_eq_none_iff]
    intro r hr
    obtain ⟨i, hi, rfl⟩ := List.mem_iff_getElem.1 hr
    have : rec rs i = rs[i] := by simp [rec, List.getD_eq_getElem?_getD, hi]
    have h2 := hn i hi
    rw [this] at h2
    simpa using h2
  unfold whoZ
  rw [h]
def standsB (x y : Int) (rs : List (List Int)) : Bool := rs.any fun r => fld r 3 == x && fld r 4 == y
end Go.Proofs.YtcbalhicaipmlaaGreat
namespace Go.Proofs.YtcbalhicaipmlaaGreat
open Go.RowKit
theorem retI {k : IntKind} {a b : Int} (h : a = b) : Ending.returned (.int k a) = .returned (.int k b) := by rw [h]
theorem retB {a b : Bool} (h : a = b) : Ending.returned (.bool a) = .returned (.bool b) := by rw [h]
set_option maxHeartbeats 400000 in
theorem who_calls (p uc : Nat) (ua : Option Addr) (us : List (List Int)) (id : Int) (w : World) (hn : us.length ≤ 1000)
    (hU : w.cell? ⟨p, 6, none⟩ = some (.slice ua us.length uc)) (hrow : Recs w ua 11 us) :
    Calls Tryz.prog 71 #[.pointer (some ⟨p, 0, none⟩), .int .i64 id] w fun e w' => e = .returned (.int .i64 (whoZ id us)) ∧ w' = w := by
  have HR : Hid (Recs w ua 11 us) := hrow
  clear hrow
  go_enter Tryz.func71, Tryz.ntmps71
  go_wp2_with fail
  go_loop [5] (fun i => ∃ k : Nat, k ≤ us.length ∧ i = .int .i64 k ∧ Hid (∀ i, i < k → fld (rec us i) 0 ≠ id)) (fun i => us.length - (intOf i).toNat)
  case atStart => exact ⟨0, by omega, rfl, fun i hi => by omega⟩
  case round =>
    obtain ⟨k, hk, rfl, HN⟩ := hrel
    by_cases hlt : k < us.length
    · obtain ⟨b, o, rfl, hc⟩ := HR.out.at hlt
      have hc0 : w.cell? ⟨b, o + k * 11, none⟩ = some (.int .i64 (fld (rec us k) 0)) := hc 0 (by omega)
      clear hc
      have hlt' : (k : Int) < (us.length : Int) := by omega
      by_cases he : fld (rec us k) 0 = id
      · have hb : (fld (rec us k) 0 == id) = true := by simpa using he
        have HE : Hid (whoZ id us = k) := whoZ_some hlt HN.out he
        clear he
        go_wp2
        go_ret
        exact ⟨retI HE.out.symm, rfl⟩
      · have hb : (fld (rec us k) 0 == id) = false := by simpa using he
        have HN2 : Hid (∀ i, i < k + 1 → fld (rec us i) 0 ≠ id) := fun i hi => by
          by_cases e : i = k
          · rw [e]; exact he
          · exact HN.out i (by omega)
        clear he HN
        go_wp2
        go_round
        case rel => exact ⟨k + 1, by omega, by go_num, HN2⟩
        case measure => simp [intOf]; omega
    · have HE : Hid (whoZ id us = -1) := whoZ_none fun i hi => HN.out i (by omega)
      clear HN
      go_wp2
      go_ret
      exact ⟨retI HE.out.symm, rfl⟩
def topZ (nw : Bool) : Int := if nw then 2000 else 200
def richZ (nw : Bool) : Int := if nw then 1000 else 40
theorem topZ_bd (nw : Bool) : 200 ≤ topZ nw ∧ topZ nw ≤ 2000 := by cases nw <;> decide
set_option maxHeartbeats 400000 in
theorem bounds_calls (p : Nat) (nw : Bool) (w : World) (h0 : w.cell? ⟨p, 0, none⟩ = some (.bool nw)) :
    Calls Tryz.prog 69 #[.pointer (some ⟨p, 0, none⟩)] w fun e w' => e = .returned (.tuple #[.int .i64 (topZ nw), .int .i64 (richZ nw)]) ∧ w' = w := by
  cases nw
  · go_enter Tryz.func69, Tryz.ntmps69
    go_wp2
    go_ret2
    exact ⟨rfl, rfl⟩
  · go_enter Tryz.func69, Tryz.ntmps69
    go_wp2
    go_ret2
    exact ⟨rfl, rfl⟩
end Go.Proofs.YtcbalhicaipmlaaGreat

/- The rules of kinds: rules.Elder, rules.Newer, and the table that they are held against. -/
import Derived.Test.YtakmjfchhchngaaRules
import Derived.Below
namespace Go.Proofs.Ytakmjfchhchngaa
open Go.RowKit

set_option maxHeartbeats 800000 in
theorem elder_calls (k : Int) (w : World) :
    Calls Try.prog 24 #[.int .i64 k] w fun e w' => e = .returned (.tuple #[.agg #[.int .i64 (Pl.eCost k), .int .i64 (Pl.eHP k), .int .i64 (Pl.eSpeed k), .int .i64 (Pl.eHarm k), .int .i64 (Pl.eRange k), .int .i64 (Pl.eLoad k)], .bool (Pl.eHas k)]) ∧ w' = w.alloc (.cells #[.int .i64 (Pl.eCost k), .int .i64 (Pl.eHP k), .int .i64 (Pl.eSpeed k), .int .i64 (Pl.eHarm k), .int .i64 (Pl.eRange k), .int .i64 (Pl.eLoad k)] 41) := by
  rcases Pl.kinds k with rfl | rfl | rfl | rfl | rfl | h
  · show Calls Try.prog 24 #[.int .i64 1] w fun e w' => e = .returned (.tuple #[.agg #[.int .i64 5, .int .i64 5, .int .i64 1, .int .i64 1, .int .i64 1, .int .i64 1], .bool true]) ∧ w' = w.alloc (.cells #[.int .i64 5, .int .i64 5, .int .i64 1, .int .i64 1, .int .i64 1, .int .i64 1] 41)
    go_enter Try.func24, Try.ntmps24
    go_wp2
    exact bodyPost_ret (v := .tuple #[.agg #[.int .i64 5, .int .i64 5, .int .i64 1, .int .i64 1, .int .i64 1, .int .i64 1], .bool true]) (by simp [results, Try.results24, go_sem]) rfl ⟨rfl, rfl⟩
  · show Calls Try.prog 24 #[.int .i64 2] w fun e w' => e = .returned (.tuple #[.agg #[.int .i64 8, .int .i64 8, .int .i64 1, .int .i64 2, .int .i64 2, .int .i64 0], .bool true]) ∧ w' = w.alloc (.cells #[.int .i64 8, .int .i64 8, .int .i64 1, .int .i64 2, .int .i64 2, .int .i64 0] 41)
    go_enter Try.func24, Try.ntmps24
    go_wp2
    exact bodyPost_ret (v := .tuple #[.agg #[.int .i64 8, .int .i64 8, .int .i64 1, .int .i64 2, .int .i64 2, .int .i64 0], .bool true]) (by simp [results, Try.results24, go_sem]) rfl ⟨rfl, rfl⟩
  · show Calls Try.prog 24 #[.int .i64 3] w fun e w' => e = .returned (.tuple #[.agg #[.int .i64 15, .int .i64 20, .int .i64 0, .int .i64 3, .int .i64 3, .int .i64 0], .bool true]) ∧ w' = w.alloc (.cells #[.int .i64 15, .int .i64 20, .int .i64 0, .int .i64 3, .int .i64 3, .int .i64 0] 41)
    go_enter Try.func24, Try.ntmps24
    go_wp2
    exact bodyPost_ret (v := .tuple #[.agg #[.int .i64 15, .int .i64 20, .int .i64 0, .int .i64 3, .int .i64 3, .int .i64 0], .bool true]) (by simp [results, Try.results24, go_sem]) rfl ⟨rfl, rfl⟩
  · show Calls Try.prog 24 #[.int .i64 4] w fun e w' => e = .returned (.tuple #[.agg #[.int .i64 0, .int .i64 0, .int .i64 0, .int .i64 0, .int .i64 0, .int .i64 0], .bool true]) ∧ w' = w.alloc (.cells #[.int .i64 0, .int .i64 0, .int .i64 0, .int .i64 0, .int .i64 0, .int .i64 0] 41)
    go_enter Try.func24, Try.ntmps24
    go_wp2
    exact bodyPost_ret (v := .tuple #[.agg #[.int .i64 0, .int .i64 0, .int .i64 0, .int .i64 0, .int .i64 0, .int .i64 0], .bool true]) (by simp [results, Try.results24, go_sem]) rfl ⟨rfl, rfl⟩
  · show Calls Try.prog 24 #[.int .i64 5] w fun e w' => e = .returned (.tuple #[.agg #[.int .i64 7, .int .i64 6, .int .i64 1, .int .i64 0, .int .i64 1, .int .i64 2], .bool true]) ∧ w' = w.alloc (.cells #[.int .i64 7, .int .i64 6, .int .i64 1, .int .i64 0, .int .i64 1, .int .i64 2] 41)
    go_enter Try.func24, Try.ntmps24
    go_wp2
    exact bodyPost_ret (v := .tuple #[.agg #[.int .i64 7, .int .i64 6, .int .i64 1, .int .i64 0, .int .i64 1, .int .i64 2], .bool true]) (by simp [results, Try.results24, go_sem]) rfl ⟨rfl, rfl⟩
  · obtain ⟨e1, e2, e3, e4, e5, e6, e7⟩ := Pl.eElse h
    rw [e1, e2, e3, e4, e5, e6, e7]
    clear e1 e2 e3 e4 e5 e6 e7
    have h1 : (k == 1) = false := by simpa using h.1
    have h2 : (k == 2) = false := by simpa using h.2.1
    have h3 : (k == 3) = false := by simpa using h.2.2.1
    have h4 : (k == 4) = false := by simpa using h.2.2.2.1
    have h5 : (k == 5) = false := by simpa using h.2.2.2.2
    clear h
    go_enter Try.func24, Try.ntmps24
    go_wp2
    exact bodyPost_ret (v := .tuple #[.agg #[.int .i64 0, .int .i64 0, .int .i64 0, .int .i64 0, .int .i64 0, .int .i64 0], .bool false]) (by simp [results, Try.results24, go_sem]) rfl ⟨rfl, rfl⟩

set_option maxHeartbeats 800000 in
theorem ruleE_calls (k : Int) (w : World) :
    Calls Try.prog 25 #[.int .i64 k, .bool false] w fun e w' => e = .returned (.tuple #[.agg #[.int .i64 (Pl.eCost k), .int .i64 (Pl.eHP k), .int .i64 (Pl.eSpeed k), .int .i64 (Pl.eHarm k), .int .i64 (Pl.eRange k), .int .i64 (Pl.eLoad k)], .bool (Pl.eHas k)]) ∧ w' = w.alloc (.cells #[.int .i64 (Pl.eCost k), .int .i64 (Pl.eHP k), .int .i64 (Pl.eSpeed k), .int .i64 (Pl.eHarm k), .int .i64 (Pl.eRange k), .int .i64 (Pl.eLoad k)] 44) := by
  rcases Pl.kinds k with rfl | rfl | rfl | rfl | rfl | h
  · show Calls Try.prog 25 #[.int .i64 1, .bool false] w fun e w' => e = .returned (.tuple #[.agg #[.int .i64 5, .int .i64 5, .int .i64 1, .int .i64 1, .int .i64 1, .int .i64 1], .bool true]) ∧ w' = w.alloc (.cells #[.int .i64 5, .int .i64 5, .int .i64 1, .int .i64 1, .int .i64 1, .int .i64 1] 44)
    go_enter Try.func25, Try.ntmps25
    go_wp2
    exact bodyPost_ret (v := .tuple #[.agg #[.int .i64 5, .int .i64 5, .int .i64 1, .int .i64 1, .int .i64 1, .int .i64 1], .bool true]) (by simp [results, Try.results25, go_sem]) rfl ⟨rfl, rfl⟩
  · show Calls Try.prog 25 #[.int .i64 2, .bool false] w fun e w' => e = .returned (.tuple #[.agg #[.int .i64 8, .int .i64 8, .int .i64 1, .int .i64 2, .int .i64 2, .int .i64 0], .bool true]) ∧ w' = w.alloc (.cells #[.int .i64 8, .int .i64 8, .int .i64 1, .int .i64 2, .int .i64 2, .int .i64 0] 44)
    go_enter Try.func25, Try.ntmps25
    go_wp2
    exact bodyPost_ret (v := .tuple #[.agg #[.int .i64 8, .int .i64 8, .int .i64 1, .int .i64 2, .int .i64 2, .int .i64 0], .bool true]) (by simp [results, Try.results25, go_sem]) rfl ⟨rfl, rfl⟩
  · show Calls Try.prog 25 #[.int .i64 3, .bool false] w fun e w' => e = .returned (.tuple #[.agg #[.int .i64 15, .int .i64 20, .int .i64 0, .int .i64 3, .int .i64 3, .int .i64 0], .bool true]) ∧ w' = w.alloc (.cells #[.int .i64 15, .int .i64 20, .int .i64 0, .int .i64 3, .int .i64 3, .int .i64 0] 44)
    go_enter Try.func25, Try.ntmps25
    go_wp2
    exact bodyPost_ret (v := .tuple #[.agg #[.int .i64 15, .int .i64 20, .int .i64 0, .int .i64 3, .int .i64 3, .int .i64 0], .bool true]) (by simp [results, Try.results25, go_sem]) rfl ⟨rfl, rfl⟩
  · show Calls Try.prog 25 #[.int .i64 4, .bool false] w fun e w' => e = .returned (.tuple #[.agg #[.int .i64 0, .int .i64 0, .int .i64 0, .int .i64 0, .int .i64 0, .int .i64 0], .bool true]) ∧ w' = w.alloc (.cells #[.int .i64 0, .int .i64 0, .int .i64 0, .int .i64 0, .int .i64 0, .int .i64 0] 44)
    go_enter Try.func25, Try.ntmps25
    go_wp2
    exact bodyPost_ret (v := .tuple #[.agg #[.int .i64 0, .int .i64 0, .int .i64 0, .int .i64 0, .int .i64 0, .int .i64 0], .bool true]) (by simp [results, Try.results25, go_sem]) rfl ⟨rfl, rfl⟩
  · show Calls Try.prog 25 #[.int .i64 5, .bool false] w fun e w' => e = .returned (.tuple #[.agg #[.int .i64 7, .int .i64 6, .int .i64 1, .int .i64 0, .int .i64 1, .int .i64 2], .bool true]) ∧ w' = w.alloc (.cells #[.int .i64 7, .int .i64 6, .int .i64 1, .int .i64 0, .int .i64 1, .int .i64 2] 44)
    go_enter Try.func25, Try.ntmps25
    go_wp2
    exact bodyPost_ret (v := .tuple #[.agg #[.int .i64 7, .int .i64 6, .int .i64 1, .int .i64 0, .int .i64 1, .int .i64 2], .bool true]) (by simp [results, Try.results25, go_sem]) rfl ⟨rfl, rfl⟩
  · obtain ⟨e1, e2, e3, e4, e5, e6, e7⟩ := Pl.eElse h
    rw [e1, e2, e3, e4, e5, e6, e7]
    clear e1 e2 e3 e4 e5 e6 e7
    have h1 : (k == 1) = false := by simpa using h.1
    have h2 : (k == 2) = false := by simpa using h.2.1
    have h3 : (k == 3) = false := by simpa using h.2.2.1
    have h4 : (k == 4) = false := by simpa using h.2.2.2.1
    have h5 : (k == 5) = false := by simpa using h.2.2.2.2
    clear h
    go_enter Try.func25, Try.ntmps25
    go_wp2
    exact bodyPost_ret (v := .tuple #[.agg #[.int .i64 0, .int .i64 0, .int .i64 0, .int .i64 0, .int .i64 0, .int .i64 0], .bool false]) (by simp [results, Try.results25, go_sem]) rfl ⟨rfl, rfl⟩

set_option maxHeartbeats 800000 in
theorem ruleN_calls (k : Int) (w : World) :
    Calls Try.prog 25 #[.int .i64 k, .bool true] w fun e w' => e = .returned (.tuple #[.agg #[.int .i64 (Pl.nCost k), .int .i64 (Pl.nHP k), .int .i64 (Pl.nSpeed k), .int .i64 (Pl.nHarm k), .int .i64 (Pl.nRange k), .int .i64 (Pl.nLoad k)], .bool (Pl.nHas k)]) ∧ w' = w.alloc (.cells #[.int .i64 (Pl.nCost k), .int .i64 (Pl.nHP k), .int .i64 (Pl.nSpeed k), .int .i64 (Pl.nHarm k), .int .i64 (Pl.nRange k), .int .i64 (Pl.nLoad k)] 44) := by
  rcases Pl.kinds k with rfl | rfl | rfl | rfl | rfl | h
  · show Calls Try.prog 25 #[.int .i64 1, .bool true] w fun e w' => e = .returned (.tuple #[.agg #[.int .i64 5, .int .i64 5, .int .i64 1, .int .i64 1, .int .i64 1, .int .i64 1], .bool true]) ∧ w' = w.alloc (.cells #[.int .i64 5, .int .i64 5, .int .i64 1, .int .i64 1, .int .i64 1, .int .i64 1] 44)
    go_enter Try.func25, Try.ntmps25
    go_wp2
    exact bodyPost_ret (v := .tuple #[.agg #[.int .i64 5, .int .i64 5, .int .i64 1, .int .i64 1, .int .i64 1, .int .i64 1], .bool true]) (by simp [results, Try.results25, go_sem]) rfl ⟨rfl, rfl⟩
  · show Calls Try.prog 25 #[.int .i64 2, .bool true] w fun e w' => e = .returned (.tuple #[.agg #[.int .i64 8, .int .i64 8, .int .i64 1, .int .i64 2, .int .i64 2, .int .i64 0], .bool true]) ∧ w' = w.alloc (.cells #[.int .i64 8, .int .i64 8, .int .i64 1, .int .i64 2, .int .i64 2, .int .i64 0] 44)
    go_enter Try.func25, Try.ntmps25
    go_wp2
    exact bodyPost_ret (v := .tuple #[.agg #[.int .i64 8, .int .i64 8, .int .i64 1, .int .i64 2, .int .i64 2, .int .i64 0], .bool true]) (by simp [results, Try.results25, go_sem]) rfl ⟨rfl, rfl⟩
  · show Calls Try.prog 25 #[.int .i64 3, .bool true] w fun e w' => e = .returned (.tuple #[.agg #[.int .i64 15, .int .i64 20, .int .i64 0, .int .i64 3, .int .i64 4, .int .i64 0], .bool true]) ∧ w' = w.alloc (.cells #[.int .i64 15, .int .i64 20, .int .i64 0, .int .i64 3, .int .i64 4, .int .i64 0] 44)
    go_enter Try.func25, Try.ntmps25
    go_wp2
    exact bodyPost_ret (v := .tuple #[.agg #[.int .i64 15, .int .i64 20, .int .i64 0, .int .i64 3, .int .i64 4, .int .i64 0], .bool true]) (by simp [results, Try.results25, go_sem]) rfl ⟨rfl, rfl⟩
  · show Calls Try.prog 25 #[.int .i64 4, .bool true] w fun e w' => e = .returned (.tuple #[.agg #[.int .i64 0, .int .i64 0, .int .i64 0, .int .i64 0, .int .i64 0, .int .i64 0], .bool true]) ∧ w' = w.alloc (.cells #[.int .i64 0, .int .i64 0, .int .i64 0, .int .i64 0, .int .i64 0, .int .i64 0] 44)
    go_enter Try.func25, Try.ntmps25
    go_wp2
    exact bodyPost_ret (v := .tuple #[.agg #[.int .i64 0, .int .i64 0, .int .i64 0, .int .i64 0, .int .i64 0, .int .i64 0], .bool true]) (by simp [results, Try.results25, go_sem]) rfl ⟨rfl, rfl⟩
  · show Calls Try.prog 25 #[.int .i64 5, .bool true] w fun e w' => e = .returned (.tuple #[.agg #[.int .i64 0, .int .i64 0, .int .i64 0, .int .i64 0, .int .i64 0, .int .i64 0], .bool false]) ∧ w' = w.alloc (.cells #[.int .i64 0, .int .i64 0, .int .i64 0, .int .i64 0, .int .i64 0, .int .i64 0] 44)
    go_enter Try.func25, Try.ntmps25
    go_wp2
    exact bodyPost_ret (v := .tuple #[.agg #[.int .i64 0, .int .i64 0, .int .i64 0, .int .i64 0, .int .i64 0, .int .i64 0], .bool false]) (by simp [results, Try.results25, go_sem]) rfl ⟨rfl, rfl⟩
  · obtain ⟨e1, e2, e3, e4, e5, e6, e7⟩ := Pl.nElse h
    rw [e1, e2, e3, e4, e5, e6, e7]
    clear e1 e2 e3 e4 e5 e6 e7
    have h1 : (k == 1) = false := by simpa using h.1
    have h2 : (k == 2) = false := by simpa using h.2.1
    have h3 : (k == 3) = false := by simpa using h.2.2.1
    have h4 : (k == 4) = false := by simpa using h.2.2.2.1
    have h5 : (k == 5) = false := by simpa using h.2.2.2.2
    clear h
    go_enter Try.func25, Try.ntmps25
    go_wp2
    exact bodyPost_ret (v := .tuple #[.agg #[.int .i64 0, .int .i64 0, .int .i64 0, .int .i64 0, .int .i64 0, .int .i64 0], .bool false]) (by simp [results, Try.results25, go_sem]) rfl ⟨rfl, rfl⟩

end Go.Proofs.Ytakmjfchhchngaa

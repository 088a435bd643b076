/- Package elder of the program: what is asked of a state as a whole. -/
import Derived.Test.YtakmjfchhchngaaEl6
import Derived.Test.YtakmjfchhchngaaErrs
namespace Go.Proofs.Ytakmjfchhchngaa
open Go.RowKit

/- A state of the elder game. -/
abbrev elderV (t g0 g1 nx : Int) (fv ev : Value) : Value := .agg #[.int .i64 t, .int .i64 g0, .int .i64 g1, .int .i64 nx, fv, ev]
def stateE (t g0 g1 nx : Int) (nf ne : Nat) : Nat :=
  if inZ t 0 60 = true ∧ inZ nx 1 201 = true then if inZ g0 0 40 = true then if inZ g1 0 40 = true then if 20 < ne ∨ 200 < nf then 2 else 0 else 1 else 1 else 1

theorem gold_at0 (a b : Value) (w : World) : (Instr.index 56 (.agg #[a, b]) (.int .i64 0)).run Try.prog w = .ok a w := by kernel_rfl
theorem gold_at1 (a b : Value) (w : World) : (Instr.index 56 (.agg #[a, b]) (.int .i64 1)).run Try.prog w = .ok b w := by kernel_rfl
theorem errV_0 : errV 0 = .nilIface := rfl
theorem errV_1 : errV 1 = .iface 113 (.int .i64 1) := rfl
theorem errV_2 : errV 2 = .iface 113 (.int .i64 2) := rfl
theorem errV_3 : errV 3 = .iface 113 (.int .i64 3) := rfl
theorem retE {v : Value} {c d : Nat} (h : c = d) (hv : v = errV c) : Ending.returned v = .returned (errV d) := by rw [hv, h]

set_option maxHeartbeats 4000000 in
theorem checkState_calls (t g0 g1 nx : Int) (fa ea : Option Addr) (nf fc ne ec : Nat) (w : World) :
    Calls Try.prog 80 #[elderV t g0 g1 nx (.slice fa nf fc) (.slice ea ne ec)] w fun e w' => e = .returned (errV (stateE t g0 g1 nx nf ne)) ∧ Below w.heap.size w w' := by
  have i0 := gold_at0
  have i1 := gold_at1
  go_enter Try.func80, Try.ntmps80
  go_wp2_with fail
  refine (inWithin_calls _ _ _ _).mono ?_
  rintro e w' ⟨rfl, rfl⟩
  cases h1 : inZ t 0 60
  · go_wp2
    go_ret
    exact ⟨retE (c := 1) (by simp [stateE, h1]) rfl, by go_grown⟩
  go_wp2_with fail
  refine (inWithin_calls _ _ _ _).mono ?_
  rintro e w' ⟨rfl, rfl⟩
  cases h2 : inZ nx 1 201
  · go_wp2
    go_ret
    exact ⟨retE (c := 1) (by simp [stateE, h2]) rfl, by go_grown⟩
  go_wp2_with fail
  refine wp_loop_rounds 3 ?_
  rw [rounds_succ]
  go_wp2_with fail
  refine (inWithin_calls _ _ _ _).mono ?_
  rintro e w' ⟨rfl, rfl⟩
  cases h3 : inZ g0 0 40
  · go_wp2
    go_ret
    exact ⟨retE (c := 1) (by simp [stateE, h3]) rfl, by go_grown⟩
  go_wp2_with fail
  rw [rounds_succ]
  go_wp2_with fail
  refine (inWithin_calls _ _ _ _).mono ?_
  rintro e w' ⟨rfl, rfl⟩
  cases h4 : inZ g1 0 40
  · go_wp2
    go_ret
    exact ⟨retE (c := 1) (by simp [stateE, h4]) rfl, by go_grown⟩
  go_wp2_with fail
  rw [rounds_succ]
  by_cases h5 : 20 < ne
  · have h5' : (20 : Int) < (ne : Int) := by omega
    go_wp2
    go_ret
    exact ⟨retE (c := 2) (by simp [stateE, h1, h2, h3, h4, h5]) rfl, by go_grown⟩
  by_cases h6 : 200 < nf
  · have h6' : (200 : Int) < (nf : Int) := by omega
    have h5' : ¬ (20 : Int) < (ne : Int) := by omega
    go_wp2
    go_ret
    exact ⟨retE (c := 2) (by simp [stateE, h1, h2, h3, h4, h5, h6]) rfl, by go_grown⟩
  have h6' : ¬ (200 : Int) < (nf : Int) := by omega
  have h5' : ¬ (20 : Int) < (ne : Int) := by omega
  go_wp2
  go_ret
  exact ⟨retE (c := 0) (by simp [stateE, h1, h2, h3, h4, h5, h6]) rfl, by go_grown⟩
end Go.Proofs.Ytakmjfchhchngaa

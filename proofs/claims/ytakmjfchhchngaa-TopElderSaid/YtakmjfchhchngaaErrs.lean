/- An error as a value, and how it is held against its number. -/
import Derived.Test.YtakmjfchhchngaaProg
import Derived.WalkKit
import Derived.WalkLawsBesides
import Derived.WalkSpells
import Derived.Handy
import Derived.Below
import Derived.Deep.RegionWith
import Derived.Deep.QuietTactic
import Derived.BigQuiet
namespace Go.Proofs.Ytakmjfchhchngaa
open Go.RowKit

def errV (c : Nat) : Value := if c = 0 then .nilIface else .iface 113 (.int .i64 c)

theorem assert_errno (c : Int) (w : World) : (Instr.typeAssert (.iface 113 (.int .i64 c)) 24 113 true).run Try.prog w = .ok (.tuple #[.int .i64 c, .bool true]) w := by kernel_rfl

set_option maxRecDepth 100000 in
set_option maxHeartbeats 400000 in
theorem same_calls (c f : Nat) (hf : f ≤ 1000) (hc : c ≤ 1000) (w : World) :
    Calls Try.prog 13 #[errV c, .int .i64 f] w fun e w' => e = .returned (.bool (decide (c = f))) ∧ w' = w := by
  by_cases h0 : c = 0
  · subst h0
    by_cases hf0 : f = 0
    · subst hf0
      simp only [errV, if_true, decide_true]
      go_enter Try.func13, Try.ntmps13
      go_wp2
      go_ret
      exact ⟨rfl, rfl⟩
    · have e : decide (0 = f) = false := by simp; omega
      have h1 : ((f : Int) == 0) = false := by rw [beq_eq_false_iff_ne]; omega
      rw [e]
      simp only [errV, if_true]
      clear e
      go_enter Try.func13, Try.ntmps13
      go_wp2
      go_ret
      exact ⟨rfl, rfl⟩
  · simp only [errV, if_neg h0]
    have hta := assert_errno (c : Int) w
    by_cases hf0 : f = 0
    · subst hf0
      have e : decide (c = 0) = false := by simp [h0]
      rw [e]
      clear e
      go_enter Try.func13, Try.ntmps13
      go_wp2
      go_ret
      exact ⟨rfl, rfl⟩
    · have hp : (0 : Int) < (f : Int) := by omega
      by_cases hcf : c = f
      · subst hcf
        have e : decide (c = c) = true := by simp
        rw [e]
        clear e
        go_enter Try.func13, Try.ntmps13
        go_wp2
        go_ret
        exact ⟨rfl, rfl⟩
      · have e : decide (c = f) = false := by simp [hcf]
        have h1 : ((c : Int) == (f : Int)) = false := by rw [beq_eq_false_iff_ne]; omega
        rw [e]
        clear e
        go_enter Try.func13, Try.ntmps13
        go_wp2
        go_ret
        exact ⟨rfl, rfl⟩
end Go.Proofs.Ytakmjfchhchngaa

/- The walk of Names: its callees, each by a contract. -/
import Derived.Test.YtnenegkgmkgfaaaDoorRows
import Derived.WalkKit
import Derived.WalkLawsBesides
import Derived.WalkSpells
import Derived.Handy
import Derived.Deep.QuietTactic
import Derived.BigQuiet
namespace Go.Proofs.YtnenegkgmkgfaaaDoor
open Go.RowKit

theorem assert_errno (c : Int) (w : World) : (Instr.typeAssert (.iface 23 (.int .i64 c)) 27 23 true).run Tryd.prog w = .ok (.tuple #[.int .i64 c, .bool true]) w := by kernel_rfl

set_option maxHeartbeats 400000 in
theorem same_calls (c : Int) (hp : 0 < c) (_hc : c ≤ 1000) (w : World) :
    Calls Tryd.prog 4 #[.iface 23 (.int .i64 c), .int .i64 c] w fun e w' => e = .returned (.bool true) ∧ w' = w := by
  have hta := assert_errno c w
  go_enter Tryd.func4, Tryd.ntmps4
  go_wp2
  go_ret
  exact ⟨rfl, rfl⟩

set_option maxHeartbeats 2000000 in
set_option maxRecDepth 100000 in
theorem small_calls (w : World) :
    Calls Tryd.prog 10 #[.int .i64 10] w fun e w' => e = .returned (.string ⟨#[49, 48]⟩) ∧ w' = w := by
  go_enter Tryd.func10, Tryd.ntmps10
  go_wp2
  go_ret
  exact ⟨by kernel_rfl, rfl⟩

set_option maxHeartbeats 400000 in
theorem format_calls (w : World) :
    Calls Tryd.prog 9 #[.int .i64 10, .int .i64 10] w fun e w' => e = .returned (.string ⟨#[49, 48]⟩) ∧ w' = w := by
  go_enter Tryd.func9, Tryd.ntmps9
  go_wp2_with fail
  refine (small_calls _).mono ?_
  rintro e w' ⟨rfl, rfl⟩
  go_wp2
  go_ret
  exact ⟨rfl, rfl⟩

set_option maxHeartbeats 400000 in
theorem error_calls (w : World) :
    Calls Tryd.prog 6 #[.int .i64 10] w fun e w' => e = .returned (.string (⟨#[102, 101, 114, 114, 121, 109, 97, 110, 58, 32, 101, 114, 114, 111, 114, 32]⟩ ++ ⟨#[49, 48]⟩)) ∧ w' = w := by
  go_enter Tryd.func6, Tryd.ntmps6
  go_wp2_with (first | (go_at_call 9; refine (format_calls _).mono ?_; rintro e w' ⟨rfl, rfl⟩) | go_in)
  go_ret
  exact ⟨rfl, rfl⟩

/- Two rows of numbers, the same. -/
set_option maxHeartbeats 400000 in
theorem sameNumbers_calls (g h n : Nat) (zs : List Int) (hn : n ≤ 1000) (w : World)
    (hg : ∀ j, j < n → w.cell? ⟨g, j, none⟩ = some (.int .i64 (zs.getD j 0))) (hh : ∀ j, j < n → w.cell? ⟨h, j, none⟩ = some (.int .i64 (zs.getD j 0))) :
    Calls Tryd.prog 5 #[.slice (some ⟨g, 0, none⟩) n n, .slice (some ⟨h, 0, none⟩) n n] w fun e w' => e = .returned (.bool true) ∧ ∃ m, w' = w.drewN m := by
  have HG : Hid (∀ j, j < n → w.cell? ⟨g, j, none⟩ = some (.int .i64 (zs.getD j 0))) := hg
  have HH : Hid (∀ j, j < n → w.cell? ⟨h, j, none⟩ = some (.int .i64 (zs.getD j 0))) := hh
  clear hg hh
  go_enter Tryd.func5, Tryd.ntmps5
  go_wp2_with fail
  go_loopw [5] (fun i wr => ∃ k : Nat, k ≤ n ∧ i = .int .i64 k ∧ ∃ m, wr = w.drewN m) (fun i _ => n - (intOf i).toNat)
  case atStart => exact ⟨0, Nat.zero_le _, rfl, 0, rfl⟩
  case round =>
    obtain ⟨k, hk, rfl, m, rfl⟩ := hrel
    by_cases hlt : k < n
    · have h1 := HG.out k hlt
      have h2 := HH.out k hlt
      have hlt' : (k : Int) < (n : Int) := by omega
      go_wp2_with fail
      go_quiet (fail)
      go_wp2
      go_roundw
      case rel => exact ⟨k + 1, by omega, by go_num, _, rfl⟩
      case measure => simp [intOf]; omega
    · go_wp2
      go_ret
      exact ⟨rfl, m, rfl⟩
end Go.Proofs.YtnenegkgmkgfaaaDoor

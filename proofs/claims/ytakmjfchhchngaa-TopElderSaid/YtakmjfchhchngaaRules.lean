/- What the functions of package rules answer, on the board. -/
import Derived.Test.YtakmjfchhchngaaRows
import Derived.Test.YtakmjfchhchngaaPlain
import Derived.WalkKit
import Derived.WalkLawsBesides
namespace Go.Proofs.Ytakmjfchhchngaa
open Go.RowKit

theorem ret_int {k : IntKind} {a b : Int} (h : a = b) : Ending.returned (.int k a) = .returned (.int k b) := by rw [h]
theorem ret_bool {a b : Bool} (h : a = b) : Ending.returned (.bool a) = .returned (.bool b) := by rw [h]

set_option maxHeartbeats 400000 in
theorem apart_calls (a b : Int) (h : (0 ≤ a ∧ a < 12) ∧ 0 ≤ b ∧ b < 12) (w : World) :
    Calls Try.prog 64 #[.int .i64 a, .int .i64 b] w fun e w' => e = .returned (.int .i64 (Pl.apartZ a b)) ∧ w' = w := by
  go_enter Try.func64, Try.ntmps64
  go_wp2
  · go_ret
    exact ⟨ret_int (by unfold Pl.apartZ; rw [if_neg (by omega)]), rfl⟩
  · go_ret
    exact ⟨ret_int (by unfold Pl.apartZ; rw [if_pos (by omega)]), rfl⟩

set_option maxHeartbeats 400000 in
theorem nearer_calls (a b : Int) (h : (0 ≤ a ∧ a < 12) ∧ 0 ≤ b ∧ b < 12) (w : World) :
    Calls Try.prog 62 #[.int .i64 a, .int .i64 b] w fun e w' => e = .returned (.int .i64 (Pl.nearZ a b)) ∧ w' = w := by
  by_cases h1 : a < b
  · go_enter Try.func62, Try.ntmps62
    go_wp2
    go_ret
    exact ⟨ret_int (by unfold Pl.nearZ; rw [if_pos h1]), rfl⟩
  · by_cases h2 : b < a
    · go_enter Try.func62, Try.ntmps62
      go_wp2
      go_ret
      exact ⟨ret_int (by unfold Pl.nearZ; rw [if_neg (by omega), if_pos (by omega)]), rfl⟩
    · go_enter Try.func62, Try.ntmps62
      go_wp2
      go_ret
      exact ⟨ret_int (by unfold Pl.nearZ; rw [if_neg (by omega), if_neg (by omega)]), rfl⟩

set_option maxHeartbeats 400000 in
theorem onLine_calls (a : Int) (w : World) :
    Calls Try.prog 61 #[.int .i64 a] w fun e w' => e = .returned (.bool (Pl.lineB a)) ∧ w' = w := by
  by_cases h1 : 0 ≤ a
  · by_cases h2 : a < 12
    · rw [Pl.lineB_mk h1 h2]
      go_enter Try.func61, Try.ntmps61
      go_wp2
      go_ret
      exact ⟨rfl, rfl⟩
    · rw [Pl.lineB_no1 (by omega)]
      go_enter Try.func61, Try.ntmps61
      go_wp2
      go_ret
      exact ⟨rfl, rfl⟩
  · rw [Pl.lineB_no0 (by omega)]
    go_enter Try.func61, Try.ntmps61
    go_wp2
    go_ret
    exact ⟨rfl, rfl⟩

set_option maxHeartbeats 400000 in
theorem on_calls (x y : Int) (w : World) :
    Calls Try.prog 28 #[.int .i64 x, .int .i64 y] w fun e w' => e = .returned (.bool (Pl.onB x y)) ∧ w' = w := by
  unfold Pl.onB
  cases hx : Pl.lineB x
  · rw [Bool.false_and]
    go_enter Try.func28, Try.ntmps28
    go_wp2_with fail
    refine (onLine_calls x _).mono ?_
    rintro e w' ⟨rfl, rfl⟩
    rw [hx]
    go_wp2
    go_ret
    exact ⟨rfl, rfl⟩
  · rw [Bool.true_and]
    go_enter Try.func28, Try.ntmps28
    go_wp2_with fail
    refine (onLine_calls x _).mono ?_
    rintro e w' ⟨rfl, rfl⟩
    rw [hx]
    go_wp2_with fail
    refine (onLine_calls y _).mono ?_
    rintro e w' ⟨rfl, rfl⟩
    go_wp2
    go_ret
    exact ⟨rfl, rfl⟩

set_option maxHeartbeats 400000 in
theorem far_calls (x y tx ty : Int) (h : (0 ≤ x ∧ x < 12) ∧ 0 ≤ y ∧ y < 12) (g : (0 ≤ tx ∧ tx < 12) ∧ 0 ≤ ty ∧ ty < 12) (w : World) :
    Calls Try.prog 32 #[.int .i64 x, .int .i64 y, .int .i64 tx, .int .i64 ty] w fun e w' => e = .returned (.int .i64 (Pl.farZ x y tx ty)) ∧ w' = w := by
  unfold Pl.farZ
  go_enter Try.func32, Try.ntmps32
  go_wp2_with fail
  refine (apart_calls x tx ⟨h.1, g.1⟩ _).mono ?_
  rintro e w' ⟨rfl, rfl⟩
  go_wp2_with fail
  refine (apart_calls y ty ⟨h.2, g.2⟩ _).mono ?_
  rintro e w' ⟨rfl, rfl⟩
  go_wp2
  · go_ret
    exact ⟨rfl, rfl⟩
  · go_ret
    exact ⟨rfl, rfl⟩

set_option maxHeartbeats 400000 in
theorem toward_calls (x y tx ty : Int) (h : (0 ≤ x ∧ x < 12) ∧ 0 ≤ y ∧ y < 12) (g : (0 ≤ tx ∧ tx < 12) ∧ 0 ≤ ty ∧ ty < 12) (w : World) :
    Calls Try.prog 30 #[.int .i64 x, .int .i64 y, .int .i64 tx, .int .i64 ty] w fun e w' => e = .returned (.tuple #[.int .i64 (Pl.nearZ x tx), .int .i64 (Pl.nearZ y ty)]) ∧ w' = w := by
  go_enter Try.func30, Try.ntmps30
  go_wp2_with fail
  refine (nearer_calls x tx ⟨h.1, g.1⟩ _).mono ?_
  rintro e w' ⟨rfl, rfl⟩
  go_wp2_with fail
  refine (nearer_calls y ty ⟨h.2, g.2⟩ _).mono ?_
  rintro e w' ⟨rfl, rfl⟩
  go_wp2
  go_ret2
  exact ⟨rfl, rfl⟩
end Go.Proofs.Ytakmjfchhchngaa

/- The walk of Names. -/
import Derived.Test.YtnenegkgmkgfaaaDoorNamesW
namespace Go.Proofs.YtnenegkgmkgfaaaDoor
open Go.RowKit

def nums : List Int := [12, 2, 2, 20, 200, 2000, 60, 8, 40, 1000, 100, 80, 200, 1, 2, 3, 4, 5, 0, 1, 2, 3, 1, 2, 3, 4, 5, 1, 2, 3, 4]
theorem nums_cells : (#[.int .i64 12, .int .i64 2, .int .i64 2, .int .i64 20, .int .i64 200, .int .i64 2000, .int .i64 60, .int .i64 8, .int .i64 40, .int .i64 1000, .int .i64 100, .int .i64 80, .int .i64 200, .int .i64 1, .int .i64 2, .int .i64 3, .int .i64 4, .int .i64 5, .int .i64 0, .int .i64 1, .int .i64 2, .int .i64 3, .int .i64 1, .int .i64 2, .int .i64 3, .int .i64 4, .int .i64 5, .int .i64 1, .int .i64 2, .int .i64 3, .int .i64 4] : Array Value) = (nums.map (Value.int .i64)).toArray := rfl
theorem errs_cells : (#[.iface 23 (.int .i64 1), .iface 23 (.int .i64 2), .iface 23 (.int .i64 3), .iface 23 (.int .i64 4), .iface 23 (.int .i64 5), .iface 23 (.int .i64 6), .iface 23 (.int .i64 7), .iface 23 (.int .i64 8), .iface 23 (.int .i64 9), .iface 23 (.int .i64 10)] : Array Value) = ((List.range 10).map fun (j : Nat) => Value.iface 23 (.int .i64 ((j : Int) + 1))).toArray := rfl
theorem num_at (j : Nat) (hj : j < 31) : (#[.int .i64 12, .int .i64 2, .int .i64 2, .int .i64 20, .int .i64 200, .int .i64 2000, .int .i64 60, .int .i64 8, .int .i64 40, .int .i64 1000, .int .i64 100, .int .i64 80, .int .i64 200, .int .i64 1, .int .i64 2, .int .i64 3, .int .i64 4, .int .i64 5, .int .i64 0, .int .i64 1, .int .i64 2, .int .i64 3, .int .i64 1, .int .i64 2, .int .i64 3, .int .i64 4, .int .i64 5, .int .i64 1, .int .i64 2, .int .i64 3, .int .i64 4] : Array Value)[j]? = some (.int .i64 (nums.getD j 0)) := by
  rw [nums_cells]
  have hj' : j < nums.length := hj
  simp [List.getD_eq_getElem?_getD, hj']
theorem err_at (j : Nat) (hj : j < 10) : (#[.iface 23 (.int .i64 1), .iface 23 (.int .i64 2), .iface 23 (.int .i64 3), .iface 23 (.int .i64 4), .iface 23 (.int .i64 5), .iface 23 (.int .i64 6), .iface 23 (.int .i64 7), .iface 23 (.int .i64 8), .iface 23 (.int .i64 9), .iface 23 (.int .i64 10)] : Array Value)[j]? = some (.iface 23 (.int .i64 ((j : Int) + 1))) := by
  rw [errs_cells]
  simp [hj]

theorem laid_facts (w W : World) (h : W = ((w.alloc (.cells #[.int .i64 12, .int .i64 2, .int .i64 2, .int .i64 20, .int .i64 200, .int .i64 2000, .int .i64 60, .int .i64 8, .int .i64 40, .int .i64 1000, .int .i64 100, .int .i64 80, .int .i64 200, .int .i64 1, .int .i64 2, .int .i64 3, .int .i64 4, .int .i64 5, .int .i64 0, .int .i64 1, .int .i64 2, .int .i64 3, .int .i64 1, .int .i64 2, .int .i64 3, .int .i64 4, .int .i64 5, .int .i64 1, .int .i64 2, .int .i64 3, .int .i64 4] 3)).alloc (.cells #[.int .i64 12, .int .i64 2, .int .i64 2, .int .i64 20, .int .i64 200, .int .i64 2000, .int .i64 60, .int .i64 8, .int .i64 40, .int .i64 1000, .int .i64 100, .int .i64 80, .int .i64 200, .int .i64 1, .int .i64 2, .int .i64 3, .int .i64 4, .int .i64 5, .int .i64 0, .int .i64 1, .int .i64 2, .int .i64 3, .int .i64 1, .int .i64 2, .int .i64 3, .int .i64 4, .int .i64 5, .int .i64 1, .int .i64 2, .int .i64 3, .int .i64 4] 3)).alloc (.cells #[.iface 23 (.int .i64 1), .iface 23 (.int .i64 2), .iface 23 (.int .i64 3), .iface 23 (.int .i64 4), .iface 23 (.int .i64 5), .iface 23 (.int .i64 6), .iface 23 (.int .i64 7), .iface 23 (.int .i64 8), .iface 23 (.int .i64 9), .iface 23 (.int .i64 10)] 27)) :
    (∀ j, j < 31 → W.cell? ⟨w.heap.size, j, none⟩ = some (.int .i64 (nums.getD j 0))) ∧ (∀ j, j < 31 → W.cell? ⟨w.heap.size + 1, j, none⟩ = some (.int .i64 (nums.getD j 0))) ∧
    (∀ j, j < 10 → W.cell? ⟨w.heap.size + 1 + 1, j, none⟩ = some (.iface 23 (.int .i64 ((j : Int) + 1)))) ∧ Below w.heap.size w W := by
  subst h
  refine ⟨fun j hj => ?_, fun j hj => ?_, fun j hj => ?_, ?_⟩
  · rw [World.cell?_alloc_past _ _ _ (by simp; omega), World.cell?_alloc_past _ _ _ (by simp), World.cell?_alloc_at _ _ _ _ rfl]
    exact num_at j hj
  · rw [World.cell?_alloc_past _ _ _ (by simp), World.cell?_alloc_at _ _ _ _ (by simp)]
    exact num_at j hj
  · rw [World.cell?_alloc_at _ _ _ _ (by simp)]
    exact err_at j hj
  · exact (((Below.refl _ w).alloc (Nat.le_refl _) _).alloc (by simp) _).alloc (by simp; omega) _

set_option maxHeartbeats 4000000 in
set_option maxRecDepth 100000 in
theorem names_calls (w : World) :
    Calls Tryd.prog 3 #[] w fun e w' => e = .returned (.bool true) ∧ Below w.heap.size w w' := by
  obtain ⟨W, hW⟩ : ∃ W, W = ((w.alloc (.cells #[.int .i64 12, .int .i64 2, .int .i64 2, .int .i64 20, .int .i64 200, .int .i64 2000, .int .i64 60, .int .i64 8, .int .i64 40, .int .i64 1000, .int .i64 100, .int .i64 80, .int .i64 200, .int .i64 1, .int .i64 2, .int .i64 3, .int .i64 4, .int .i64 5, .int .i64 0, .int .i64 1, .int .i64 2, .int .i64 3, .int .i64 1, .int .i64 2, .int .i64 3, .int .i64 4, .int .i64 5, .int .i64 1, .int .i64 2, .int .i64 3, .int .i64 4] 3)).alloc (.cells #[.int .i64 12, .int .i64 2, .int .i64 2, .int .i64 20, .int .i64 200, .int .i64 2000, .int .i64 60, .int .i64 8, .int .i64 40, .int .i64 1000, .int .i64 100, .int .i64 80, .int .i64 200, .int .i64 1, .int .i64 2, .int .i64 3, .int .i64 4, .int .i64 5, .int .i64 0, .int .i64 1, .int .i64 2, .int .i64 3, .int .i64 1, .int .i64 2, .int .i64 3, .int .i64 4, .int .i64 5, .int .i64 1, .int .i64 2, .int .i64 3, .int .i64 4] 3)).alloc (.cells #[.iface 23 (.int .i64 1), .iface 23 (.int .i64 2), .iface 23 (.int .i64 3), .iface 23 (.int .i64 4), .iface 23 (.int .i64 5), .iface 23 (.int .i64 6), .iface 23 (.int .i64 7), .iface 23 (.int .i64 8), .iface 23 (.int .i64 9), .iface 23 (.int .i64 10)] 27) := ⟨_, rfl⟩
  obtain ⟨f1, f2, f3, f4⟩ := laid_facts w W hW
  have F1 : Hid (∀ j, j < 31 → W.cell? ⟨w.heap.size, j, none⟩ = some (.int .i64 (nums.getD j 0))) := f1
  have F2 : Hid (∀ j, j < 31 → W.cell? ⟨w.heap.size + 1, j, none⟩ = some (.int .i64 (nums.getD j 0))) := f2
  have F3 : Hid (∀ j, j < 10 → W.cell? ⟨w.heap.size + 1 + 1, j, none⟩ = some (.iface 23 (.int .i64 ((j : Int) + 1)))) := f3
  have HW := hW
  clear f1 f2 f3 hW
  go_enter Tryd.func3, Tryd.ntmps3
  go_wp2_with fail
  rw [← HW]
  clear HW
  generalize w.heap.size + 1 + 1 = g3 at *
  generalize w.heap.size + 1 = g2 at *
  generalize hg1 : w.heap.size = g1 at *
  have HG1 : Hid (w.heap.size = g1) := hg1
  clear hg1
  go_loop [4] (fun i => ∃ k : Nat, k ≤ 10 ∧ i = .int .i64 k) (fun i => 10 - (intOf i).toNat)
  case atStart => exact ⟨0, by omega, rfl⟩
  case round =>
    obtain ⟨k, hk, rfl⟩ := hrel
    by_cases hlt : k < 10
    · have hc := F3.out k hlt
      go_wp2_with fail
      refine (same_calls ((k : Int) + 1) (by omega) (by omega) _).mono ?_
      rintro e w' ⟨rfl, rfl⟩
      go_wp2
      go_round
      case rel => exact ⟨k + 1, by omega, by go_num⟩
      case measure => simp [intOf]; omega
    · go_wp2_with fail
      refine (sameNumbers_calls g1 g2 31 nums (by omega) _ F1.out F2.out).mono ?_
      rintro e w' ⟨rfl, m, rfl⟩
      go_wp2_with fail
      refine (error_calls _).mono ?_
      rintro e w' ⟨rfl, rfl⟩
      have hs : (((⟨#[102, 101, 114, 114, 121, 109, 97, 110, 58, 32, 101, 114, 114, 111, 114, 32]⟩ : ByteArray) ++ ⟨#[49, 48]⟩).toList == [102, 101, 114, 114, 121, 109, 97, 110, 58, 32, 101, 114, 114, 111, 114, 32, 49, 48]) = true := by
        rw [ByteArray.toList_eq]
        simp
      go_wp2
      go_ret
      refine ⟨rfl, ?_⟩
      rw [HG1.out]
      exact below_drewN f4 m
end Go.Proofs.YtnenegkgmkgfaaaDoor

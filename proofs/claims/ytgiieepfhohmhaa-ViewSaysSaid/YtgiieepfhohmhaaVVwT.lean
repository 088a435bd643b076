/- Package view: byRows. -/
import Derived.Test.YtgiieepfhohmhaaVVwS
import Derived.Test.YtgiieepfhohmhaaVRgU
namespace Go.Proofs.Ytgiieepfhohmhaa
open Go.RowKit Go.Maps
set_option maxRecDepth 100000 in
set_option maxHeartbeats 4000000 in
theorem byRows_raw (a0 a1 a2 a3 a4 a5 a6 a7 a8 a9 b0 b1 b2 b3 b4 b5 b6 b7 b8 b9 c d : Int) (W : World) (HC1 : Hid (∀ w, Calls Try.prog 191 #[.int .i64 a1, .int .i64 b1] w fun e w' => e = .returned (.int .i64 c) ∧ w' = w)) (HC0 : Hid (∀ w, Calls Try.prog 191 #[.int .i64 a0, .int .i64 b0] w fun e w' => e = .returned (.int .i64 d) ∧ w' = w)) :
    Calls Try.prog 170 #[.agg #[.int .i64 a0, .int .i64 a1, .int .i64 a2, .int .i64 a3, .int .i64 a4, .int .i64 a5, .int .i64 a6, .int .i64 a7, .int .i64 a8, .int .i64 a9], .agg #[.int .i64 b0, .int .i64 b1, .int .i64 b2, .int .i64 b3, .int .i64 b4, .int .i64 b5, .int .i64 b6, .int .i64 b7, .int .i64 b8, .int .i64 b9]] W fun e w' => e = .returned (.int .i64 (orZ c d)) ∧ Grows W w' := by
  have HO := hid (or_calls c d)
  obtain ⟨V, hV⟩ : ∃ V, (W.alloc (.cells #[.int .i64 a0, .int .i64 a1, .int .i64 a2, .int .i64 a3, .int .i64 a4, .int .i64 a5, .int .i64 a6, .int .i64 a7, .int .i64 a8, .int .i64 a9] 171)).alloc (.cells #[.int .i64 b0, .int .i64 b1, .int .i64 b2, .int .i64 b3, .int .i64 b4, .int .i64 b5, .int .i64 b6, .int .i64 b7, .int .i64 b8, .int .i64 b9] 171) = V := ⟨_, rfl⟩
  have HGV : Hid (Grows W V) := by rw [← hV]; exact ((grows_refl W).alloc _).alloc _
  have hh1 : V.heap[W.heap.size + 1]? = some (.cells #[.int .i64 b0, .int .i64 b1, .int .i64 b2, .int .i64 b3, .int .i64 b4, .int .i64 b5, .int .i64 b6, .int .i64 b7, .int .i64 b8, .int .i64 b9] 171) := by
    have e2 : W.heap.size + 1 = (W.alloc (.cells #[.int .i64 a0, .int .i64 a1, .int .i64 a2, .int .i64 a3, .int .i64 a4, .int .i64 a5, .int .i64 a6, .int .i64 a7, .int .i64 a8, .int .i64 a9] 171)).heap.size := by simp [go_sem]
    rw [← hV, e2]
    exact heap_alloc_new _ _
  have hh0 : V.heap[W.heap.size]? = some (.cells #[.int .i64 a0, .int .i64 a1, .int .i64 a2, .int .i64 a3, .int .i64 a4, .int .i64 a5, .int .i64 a6, .int .i64 a7, .int .i64 a8, .int .i64 a9] 171) := by
    rw [← hV, heap_alloc_old _ _ (by simp [go_sem])]
    exact heap_alloc_new W _
  have x0 : V.cell? ⟨W.heap.size, 0, none⟩ = some (.int .i64 a0) := cell_of_row V _ 0 _ _ _ hh0
  have x1 : V.cell? ⟨W.heap.size, 1, none⟩ = some (.int .i64 a1) := cell_of_row V _ 1 _ _ _ hh0
  have y0 : V.cell? ⟨W.heap.size + 1, 0, none⟩ = some (.int .i64 b0) := cell_of_row V _ 0 _ _ _ hh1
  have y1 : V.cell? ⟨W.heap.size + 1, 1, none⟩ = some (.int .i64 b1) := cell_of_row V _ 1 _ _ _ hh1
  have K0 : ∀ w', Grows V w' → w'.cell? ⟨W.heap.size, 0, none⟩ = some (.int .i64 a0) := fun w' h => h.cell x0
  have K1 : ∀ w', Grows V w' → w'.cell? ⟨W.heap.size, 1, none⟩ = some (.int .i64 a1) := fun w' h => h.cell x1
  have K2 : ∀ w', Grows V w' → w'.cell? ⟨W.heap.size + 1, 0, none⟩ = some (.int .i64 b0) := fun w' h => h.cell y0
  have K3 : ∀ w', Grows V w' → w'.cell? ⟨W.heap.size + 1, 1, none⟩ = some (.int .i64 b1) := fun w' h => h.cell y1
  clear hh0 hh1 x0 x1 y0 y1
  go_enter Try.func170, Try.ntmps170
  go_wp2_with fail
  clear hV
  refine wp_region_noPanic ?_
  refine wp_region_till (S := fun w' => Grows V w') 12 (by kernel_rfl) (grows_refl V).drew (fun hHeld => ?_)
  refine wpTill_take (i := 0) [0, 1, 4, 10, 11, 12] (v := ?_) rfl (by kernel_rfl) (by kernel_rfl) (by kernel_rfl) (by kernel_rfl) (fun _ _ _ h => h) (Or.inl ⟨by rfl, ?_⟩) (by assumption) ?_
  rotate_left
  · intro w' hSw
    go_simp
    all_goals with_reducible rfl
  simp only [Act.put]
  refine wpTill_take (i := 1) [1, 4, 10, 11, 12] (v := ?_) rfl (by kernel_rfl) (by kernel_rfl) (by kernel_rfl) (by kernel_rfl) (fun _ _ _ h => h) (Or.inl ⟨by rfl, ?_⟩) (by assumption) ?_
  rotate_left
  · intro w' hSw
    go_simp
    all_goals with_reducible rfl
  simp only [Act.put]
  refine wpTill_take (i := 2) [2, 3, 4, 10, 11, 12] (v := ?_) rfl (by kernel_rfl) (by kernel_rfl) (by kernel_rfl) (by kernel_rfl) (fun _ _ _ h => h) (Or.inl ⟨by rfl, ?_⟩) (by assumption) ?_
  rotate_left
  · intro w' hSw
    go_simp
    all_goals with_reducible rfl
  simp only [Act.put]
  refine wpTill_take (i := 3) [3, 4, 10, 11, 12] (v := ?_) rfl (by kernel_rfl) (by kernel_rfl) (by kernel_rfl) (by kernel_rfl) (fun _ _ _ h => h) (Or.inl ⟨by rfl, ?_⟩) (by assumption) ?_
  rotate_left
  · intro w' hSw
    go_simp
    all_goals with_reducible rfl
  simp only [Act.put]
  refine wpTill_take (i := 5) [5, 6, 9, 10, 11, 12] (v := ?_) rfl (by kernel_rfl) (by kernel_rfl) (by kernel_rfl) (by kernel_rfl) (fun _ _ _ h => h) (Or.inl ⟨by rfl, ?_⟩) (by assumption) ?_
  rotate_left
  · intro w' hSw
    go_simp
    all_goals with_reducible rfl
  simp only [Act.put]
  refine wpTill_take (i := 6) [6, 9, 10, 11, 12] (v := ?_) rfl (by kernel_rfl) (by kernel_rfl) (by kernel_rfl) (by kernel_rfl) (fun _ _ _ h => h) (Or.inl ⟨by rfl, ?_⟩) (by assumption) ?_
  rotate_left
  · intro w' hSw
    go_simp
    all_goals with_reducible rfl
  simp only [Act.put]
  refine wpTill_take (i := 7) [7, 8, 9, 10, 11, 12] (v := ?_) rfl (by kernel_rfl) (by kernel_rfl) (by kernel_rfl) (by kernel_rfl) (fun _ _ _ h => h) (Or.inl ⟨by rfl, ?_⟩) (by assumption) ?_
  rotate_left
  · intro w' hSw
    go_simp
    all_goals with_reducible rfl
  simp only [Act.put]
  refine wpTill_take (i := 8) [8, 9, 10, 11, 12] (v := ?_) rfl (by kernel_rfl) (by kernel_rfl) (by kernel_rfl) (by kernel_rfl) (fun _ _ _ h => h) (Or.inl ⟨by rfl, ?_⟩) (by assumption) ?_
  rotate_left
  · intro w' hSw
    go_simp
    all_goals with_reducible rfl
  simp only [Act.put]
  refine wpTill_one (i := 4) (by kernel_rfl) rfl (fun K hK => ?_)
  go_simp
  refine (HC1.out _).mono ?_
  rintro e w8 ⟨rfl, hw8⟩
  rw [hw8]
  clear w8 hw8
  go_wp2_with fail
  refine hK.out _ _ (fun _ => hHeld) ?_
  clear hK K
  refine wpTill_one (i := 9) (by kernel_rfl) rfl (fun K hK => ?_)
  go_simp
  refine (HC0.out _).mono ?_
  rintro e w8 ⟨rfl, hw8⟩
  rw [hw8]
  clear w8 hw8
  go_wp2_with fail
  refine hK.out _ _ (fun _ => hHeld) ?_
  clear hK K
  refine wpTill_one (i := 10) (by kernel_rfl) rfl (fun K hK => ?_)
  go_simp
  refine hK.out _ _ (fun _ => ((grows_refl V).alloc _).drew) ?_
  clear hK K
  have h0 : (V.alloc (.cells #[.int .i64 c, .int .i64 d] 3)).drew.cell? ⟨V.heap.size, 0, none⟩ = some (.int .i64 c) := cell_of_row _ _ 0 _ _ _ (heap_alloc_new V _)
  have h1 : (V.alloc (.cells #[.int .i64 c, .int .i64 d] 3)).drew.cell? ⟨V.heap.size, 1, none⟩ = some (.int .i64 d) := cell_of_row _ _ 1 _ _ _ (heap_alloc_new V _)
  have HOR := hid (HO.out _ _ h0 h1)
  clear h0 h1
  refine wpTill_one (i := 11) (by kernel_rfl) rfl (fun K hK => ?_)
  go_simp
  refine HOR.out.mono ?_
  rintro e w8 ⟨rfl, hw8⟩
  rw [hw8]
  clear w8 hw8
  go_wp2_with fail
  refine hK.out _ _ (fun _ => ((grows_refl V).alloc _).drew) ?_
  clear hK K
  refine wpTill_one (i := 12) (by kernel_rfl) rfl (fun K hK => ?_)
  go_simp
  refine hK.out _ _ (fun h => absurd rfl h) ?_
  clear hK K
  refine wpTill_done (by kernel_rfl) ?_ _
  refine NoPanic.normal ?_
  go_wp2
  go_ret
  exact ⟨rfl, HGV.out.trans ((grows_refl V).alloc _).drew⟩
theorem byRows_calls (x y : List Int) (W : World) : Calls Try.prog 170 #[entV x, entV y] W fun e w' => e = .returned (.int .i64 (rowsZ x y)) ∧ Grows W w' :=
  byRows_raw (fld x 0) (fld x 1) (fld x 2) (fld x 3) (fld x 4) (fld x 5) (fld x 6) (fld x 7) (fld x 8) (fld x 9) (fld y 0) (fld y 1) (fld y 2) (fld y 3) (fld y 4) (fld y 5) (fld y 6) (fld y 7) (fld y 8) (fld y 9) _ _ W (compareI_calls _ _) (compareI_calls _ _)
end Go.Proofs.Ytgiieepfhohmhaa

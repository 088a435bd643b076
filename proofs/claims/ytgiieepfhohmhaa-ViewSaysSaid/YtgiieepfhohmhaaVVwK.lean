/- ViewSays: a closed fact. -/
import Derived.Test.YtgiieepfhohmhaaVVwJ
namespace Go.Proofs.Ytgiieepfhohmhaa
open Go.RowKit Go.Maps
def lkU : List Int := [1, 0, 1, 3, 4, 5, 0, 0, 0, 0]
def lkS : St := ⟨0, 0, 0, 2, [], [lkU], []⟩
def lkO : List Int := [3, 4, 0, 1, 5, 0, 0, 0, -1, -1]
theorem lk_c : checkE 0 0 0 2 [] [lkU] = 0 := by decide +kernel
theorem lk_v : vwE lkS = ⟨0, 0, 0, [lkO]⟩ := by
  unfold vwE
  rw [if_pos (show checkE lkS.t lkS.g0 lkS.g1 lkS.nx lkS.free lkS.es = 0 from lk_c)]
  have : viewL lkS.es = [lkO] := by decide +kernel
  rw [this]
  rfl
set_option maxRecDepth 100000 in
set_option maxHeartbeats 8000000 in
theorem looks_calls {ρ : Go.Shelf.Ren} (Ly : SlLaysF0.n6 Try.prog ρ) (h6 : ρ.f 6 = 169) (h24 : ρ.t 24 = 171)
    (HN0 : Hid (∀ w, Calls Try.prog 169 #[.slice none 0 0, .func (.func 170) #[] #[]] w fun e w' => e = .returned (.tuple #[]) ∧ w' = w))
    (w : World) : Calls Try.prog 60 #[] w fun e w' => e = .returned (.bool true) ∧ Below w.heap.size w w' := by
  obtain ⟨W, hW⟩ : ∃ W, w.alloc (.cells (entC lkU) 86) = W := ⟨_, rfl⟩
  have hbW : Below w.heap.size w W := by rw [← hW]; exact (Below.refl _ w).alloc (Nat.le_refl _) _
  have hr : Recs W (some ⟨w.heap.size, 0, none⟩) 10 [lkU] := by rw [← hW]; exact recs_one w lkU _
  have hin : InE W lkS none (some ⟨w.heap.size, 0, none⟩) 0 1 := ⟨(fun _ => rfl), (fun h => by cases h), Nat.le_refl _, hr, Or.inl rfl, (fun i hi => absurd hi (Nat.not_lt_zero _)), rfl⟩
  have h := viewE_all Ly h6 h24 HN0 lkS none (some ⟨w.heap.size, 0, none⟩) 0 1 W hin
  rw [lk_v, show checkE lkS.t lkS.g0 lkS.g1 lkS.nx lkS.free lkS.es = 0 from lk_c] at h
  have HSA : Hid (Calls Try.prog 61 #[.agg #[.int .i64 0, .int .i64 0, .int .i64 0, .int .i64 2, .slice none 0 0, .slice (some ⟨w.heap.size, 0, none⟩) 1 1]] (w.alloc (.cells #[.int .i64 1, .int .i64 0, .int .i64 1, .int .i64 3, .int .i64 4, .int .i64 5, .int .i64 0, .int .i64 0, .int .i64 0, .int .i64 0] 86)) (AnsV 0 ⟨0, 0, 0, [lkO]⟩ W)) := by
    rw [← hW] at h ⊢
    exact h
  have HBW := hid hbW
  clear h hbW hr hin hW
  go_enter Try.func60, Try.ntmps60
  go_wp2_with fail
  refine HSA.out.mono ?_
  rintro e w5 ⟨va, vc, rfl, hr5, hb5⟩
  obtain ⟨b, o, rfl, hc⟩ := hr5.at (i := 0) (show 0 < 1 by omega)
  obtain ⟨V, hV⟩ : ∃ V, w5.alloc (.cells (viewC 0 0 0 (.slice (some ⟨b, o, none⟩) 1 vc)) 115) = V := ⟨_, rfl⟩
  have hbV : Below w5.heap.size w5 V := by rw [← hV]; exact (Below.refl _ _).alloc (Nat.le_refl _) _
  have hhV : V.heap[w5.heap.size]? = some (.cells (viewC 0 0 0 (.slice (some ⟨b, o, none⟩) 1 vc)) 115) := by rw [← hV]; exact heap_alloc_new _ _
  obtain ⟨v0, v1, v2, v3, _⟩ := four_cells hhV
  obtain ⟨b2, o2, he, hbl, l0, l1, l2, l3, l4, l5, l6, l7, l8, l9⟩ := (hr5.below hbV).ten (i := 0) (show 0 < 1 by omega)
  cases he
  have HB5 : Hid (Below w.heap.size w w5) := HBW.out.trans (hb5.mono HBW.out.size)
  have HBV : Hid (Below w.heap.size w V) := HB5.out.trans (hbV.mono HB5.out.size)
  have HSM := hid (same_calls 0 0 (by omega) (by omega) V)
  have HEQ : (Op.equalIn 10000 171 (.agg #[.int .i64 3, .int .i64 4, .int .i64 0, .int .i64 1, .int .i64 5, .int .i64 0, .int .i64 0, .int .i64 0, .int .i64 (-1), .int .i64 (-1)]) (.agg #[.int .i64 3, .int .i64 4, .int .i64 0, .int .i64 1, .int .i64 5, .int .i64 0, .int .i64 0, .int .i64 0, .int .i64 (-1), .int .i64 (-1)])).run Try.prog V = .ok true V := by
    have h := seen_eq lkO lkO V
    rw [decide_eq_true rfl] at h
    exact h
  have z0 : V.cell? ⟨b, o, none⟩ = some (.int .i64 3) := l0
  have z1 : V.cell? ⟨b, o + 1, none⟩ = some (.int .i64 4) := l1
  have z2 : V.cell? ⟨b, o + 2, none⟩ = some (.int .i64 0) := l2
  have z3 : V.cell? ⟨b, o + 3, none⟩ = some (.int .i64 1) := l3
  have z4 : V.cell? ⟨b, o + 4, none⟩ = some (.int .i64 5) := l4
  have z5 : V.cell? ⟨b, o + 5, none⟩ = some (.int .i64 0) := l5
  have z6 : V.cell? ⟨b, o + 6, none⟩ = some (.int .i64 0) := l6
  have z7 : V.cell? ⟨b, o + 7, none⟩ = some (.int .i64 0) := l7
  have z8 : V.cell? ⟨b, o + 8, none⟩ = some (.int .i64 (-1)) := l8
  have z9 : V.cell? ⟨b, o + 9, none⟩ = some (.int .i64 (-1)) := l9
  clear hb5 hr5 hc hbV hhV HSA l0 l1 l2 l3 l4 l5 l6 l7 l8 l9
  rw [errV_zero]
  go_wp2_with fail
  refine HSM.out.mono ?_
  rintro e w6 ⟨rfl, rfl⟩
  go_wp2
  go_ret
  exact ⟨rfl, HBV.out⟩
end Go.Proofs.Ytgiieepfhohmhaa

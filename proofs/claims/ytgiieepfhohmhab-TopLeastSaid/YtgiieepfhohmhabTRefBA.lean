/- The reference's game: what one may do to another. -/
import Derived.Deep.DeepCutAuto
import Derived.Deep.RegionHeld3
import Derived.Test.YtgiieepfhohmhabTRulA
import Derived.Test.YtgiieepfhohmhabTElB
import Derived.Test.YtgiieepfhohmhabTMemA
namespace Go.Proofs.Ytgiieepfhohmhab
open Go.RowKit
end Go.Proofs.Ytgiieepfhohmhab
namespace Go.Proofs.Ytgiieepfhohmhab
open Go.RowKit
end Go.Proofs.Ytgiieepfhohmhab
namespace Go.Proofs.Ytgiieepfhohmhab
open Go.RowKit
end Go.Proofs.Ytgiieepfhohmhab
namespace Go.Proofs.Ytgiieepfhohmhab
open Go.RowKit Go.Maps
def OnU (u : List Int) : Prop := (0 ≤ fld u 3 ∧ fld u 3 < 12) ∧ 0 ≤ fld u 4 ∧ fld u 4 < 12
def nearE (u t : List Int) : Bool := decide (Pl.farZ (fld u 3) (fld u 4) (fld t 3) (fld t 4) ≤ (if fld u 6 = 2 then Pl.eRange (fld u 2) else 1))
set_option maxRecDepth 100000 in
set_option maxHeartbeats 4000000 in
theorem near_calls (u t : List Int) (w : World) (hu : OnU u) (ht : OnU t) :
    Calls Try.prog 59 #[entV u, entV t] w fun e w' => e = .returned (.bool (nearE u t)) ∧ Below w.heap.size w w' := by
  unfold nearE
  obtain ⟨W, hW⟩ : ∃ W, (w.alloc (.cells (entC u) 63)).alloc (.cells (entC t) 63) = W := ⟨_, rfl⟩
  have hbW : Below w.heap.size w W := by rw [← hW]; exact ((Below.refl _ w).alloc (Nat.le_refl _) _).alloc (by simp [go_sem]) _
  have hsW : W.heap.size = w.heap.size + 2 := by rw [← hW]; simp [go_sem]
  have hh0 : W.heap[w.heap.size]? = some (.cells (entC u) 63) := by
    rw [← hW, heap_alloc_old _ _ (by simp [go_sem])]
    exact heap_alloc_new w _
  have hh1 : W.heap[w.heap.size + 1]? = some (.cells (entC t) 63) := by
    have e : w.heap.size + 1 = (w.alloc (.cells (entC u) 63)).heap.size := by simp [go_sem]
    rw [← hW, e]
    exact heap_alloc_new _ _
  have HBW := hid hbW
  have HSW := hid hsW
  have H0 := hid hh0
  have H1 := hid hh1
  have cells : ∀ V, Below W.heap.size W V → (∀ j, V.cell? ⟨w.heap.size, j, none⟩ = (entC u)[j]?) ∧ (∀ j, V.cell? ⟨w.heap.size + 1, j, none⟩ = (entC t)[j]?) := fun V hV =>
    ⟨fun j => cell_of_row V _ j _ _ _ ((hV.block _ (by omega)).trans hh0), fun j => cell_of_row V _ j _ _ _ ((hV.block _ (by omega)).trans hh1)⟩
  have HCs := hid cells
  have c0 := (cells W (Below.refl _ _)).1
  have c1 := (cells W (Below.refl _ _)).2
  have x0 : W.cell? ⟨w.heap.size, 0, none⟩ = some (.int .i64 (fld u 0)) := c0 0
  have x1 : W.cell? ⟨w.heap.size, 1, none⟩ = some (.int .i64 (fld u 1)) := c0 1
  have x2 : W.cell? ⟨w.heap.size, 2, none⟩ = some (.int .i64 (fld u 2)) := c0 2
  have x3 : W.cell? ⟨w.heap.size, 3, none⟩ = some (.int .i64 (fld u 3)) := c0 3
  have x4 : W.cell? ⟨w.heap.size, 4, none⟩ = some (.int .i64 (fld u 4)) := c0 4
  have x5 : W.cell? ⟨w.heap.size, 5, none⟩ = some (.int .i64 (fld u 5)) := c0 5
  have x6 : W.cell? ⟨w.heap.size, 6, none⟩ = some (.int .i64 (fld u 6)) := c0 6
  have x7 : W.cell? ⟨w.heap.size, 7, none⟩ = some (.int .i64 (fld u 7)) := c0 7
  have x8 : W.cell? ⟨w.heap.size, 8, none⟩ = some (.int .i64 (fld u 8)) := c0 8
  have x9 : W.cell? ⟨w.heap.size, 9, none⟩ = some (.int .i64 (fld u 9)) := c0 9
  have z3 : W.cell? ⟨w.heap.size + 1, 3, none⟩ = some (.int .i64 (fld t 3)) := c1 3
  have z4 : W.cell? ⟨w.heap.size + 1, 4, none⟩ = some (.int .i64 (fld t 4)) := c1 4
  have HU := hid hu
  have HT := hid ht
  clear hbW hsW hh0 hh1 cells c0 c1 hu ht
  by_cases h2 : fld u 6 = 2
  · rw [if_pos h2]
    have b2 : (fld u 6 == 2) = true := by simpa using h2
    clear h2
    go_enter Try.func59, Try.ntmps59
    go_wp2_with fail
    refine (rule_elder_calls u _).mono ?_
    rintro e w2 ⟨rfl, hb2⟩
    have fr := field_rule4
    have c0 := (HCs.out w2 hb2).1
    have c1 := (HCs.out w2 hb2).2
    clear x0 x1 x2 x3 x4 x5 x6 x7 x8 x9 z3 z4 hW
    have x3 : w2.cell? ⟨w.heap.size, 3, none⟩ = some (.int .i64 (fld u 3)) := c0 3
    have x4 : w2.cell? ⟨w.heap.size, 4, none⟩ = some (.int .i64 (fld u 4)) := c0 4
    have z3 : w2.cell? ⟨w.heap.size + 1, 3, none⟩ = some (.int .i64 (fld t 3)) := c1 3
    have z4 : w2.cell? ⟨w.heap.size + 1, 4, none⟩ = some (.int .i64 (fld t 4)) := c1 4
    have HB2 := hid (HBW.out.trans (hb2.mono (by rw [HSW.out]; omega)))
    clear hb2 c0 c1
    go_wp2_with fail
    refine (far_calls _ _ _ _ HU.out HT.out _).mono ?_
    rintro e w3 ⟨rfl, rfl⟩
    by_cases hf : Pl.farZ (fld u 3) (fld u 4) (fld t 3) (fld t 4) ≤ Pl.eRange (fld u 2)
    · have HF := hid (decide_eq_true hf)
      go_wp2
      go_ret
      first
        | exact ⟨retB HF.out.symm, HB2.out⟩
        | exact ⟨rfl, HB2.out⟩
    · have HF := hid (decide_eq_false hf)
      go_wp2
      go_ret
      first
        | exact ⟨retB HF.out.symm, HB2.out⟩
        | exact ⟨rfl, HB2.out⟩
  · rw [if_neg h2]
    have b2 : (fld u 6 == 2) = false := by simpa using h2
    clear h2
    go_enter Try.func59, Try.ntmps59
    go_wp2_with fail
    refine (far_calls _ _ _ _ HU.out HT.out _).mono ?_
    rintro e w3 ⟨rfl, rfl⟩
    by_cases hf : Pl.farZ (fld u 3) (fld u 4) (fld t 3) (fld t 4) ≤ 1
    · have HF := hid (decide_eq_true hf)
      go_wp2
      go_ret
      first
        | exact ⟨retB HF.out.symm, HBW.out⟩
        | exact ⟨rfl, HBW.out⟩
    · have HF := hid (decide_eq_false hf)
      go_wp2
      go_ret
      first
        | exact ⟨retB HF.out.symm, HBW.out⟩
        | exact ⟨rfl, HBW.out⟩
def tgtE (es : List (List Int)) (u : List Int) : List Int := rec es (idxZ (isId (fld u 9)) es).toNat
def headX (es : List (List Int)) (u : List Int) : Int := if fld u 6 = 1 then fld u 7 else if fld u 6 = 2 ∨ fld u 6 = 3 then fld (tgtE es u) 3 else 0
def headY (es : List (List Int)) (u : List Int) : Int := if fld u 6 = 1 then fld u 8 else if fld u 6 = 2 ∨ fld u 6 = 3 then fld (tgtE es u) 4 else 0
def headB (es : List (List Int)) (u : List Int) : Bool := if fld u 6 = 1 then true else if fld u 6 = 2 ∨ fld u 6 = 3 then !nearE u (tgtE es u) else false
def AimU (es : List (List Int)) (u : List Int) : Prop := fld u 6 = 2 ∨ fld u 6 = 3 → 0 ≤ idxZ (isId (fld u 9)) es ∧ OnU (tgtE es u)
end Go.Proofs.Ytgiieepfhohmhab

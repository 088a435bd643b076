/- Package newer of the program: one of a state, by itself and by its number. -/
import Derived.Test.YtgiieepfhohmhabGreatZNwG
namespace Go.Proofs.YtgiieepfhohmhabGreat
open Go.RowKit
def orderN (nx : Int) (us : List (List Int)) (i : Nat) : Prop := (0 < i ∧ fld (rec us i) 0 ≤ fld (rec us (i - 1)) 0) ∨ nx ≤ fld (rec us i) 0
instance (nx : Int) (us : List (List Int)) (i : Nat) : Decidable (orderN nx us i) := by unfold orderN; infer_instance
def unitAtN (t nx : Int) (us : List (List Int)) (i : Nat) : Nat :=
  if boundsN (rec us i) = true ∧ inZ (fld (rec us i) 10) 0 t = true then
    if ownerE (rec us i) = true ∧ placeN (rec us i) = true ∧ targetE (rec us i) = true then
      if orderN nx us i then 3 else 0
    else 3
  else 1
set_option maxRecDepth 100000 in
set_option maxHeartbeats 8000000 in
theorem checkUnit_calls (t g0 g1 nx : Int) (us : List (List Int)) (ua : Option Addr) (uc : Nat) (i : Nat) (w : World) (hi : i < us.length) (hn : us.length ≤ 1000) (hrow : Recs w ua 11 us) :
    Calls Tryz.prog 118 #[newerV t g0 g1 nx (.slice ua us.length uc), .int .i64 i] w fun e w' => e = .returned (errV (unitAtN t nx us i)) ∧ Below w.heap.size w w' := by
  obtain ⟨W, hW⟩ : ∃ W, w.alloc (.cells (newerC t g0 g1 nx (.slice ua us.length uc)) 38) = W := ⟨_, rfl⟩
  have hbW : Below w.heap.size w W := by rw [← hW]; exact (Below.refl _ w).alloc (Nat.le_refl _) _
  have hh0 : W.heap[w.heap.size]? = some (.cells (newerC t g0 g1 nx (.slice ua us.length uc)) 38) := by rw [← hW]; exact heap_alloc_new w _
  have hrW := hrow.below hbW
  obtain ⟨b, o, rfl, hc⟩ := hrW.at hi
  have l0 : W.cell? ⟨b, o + i * 11, none⟩ = some (.int .i64 (fld (rec us i) 0)) := hc 0 (by omega)
  have l1 := hc 1 (by omega)
  have l2 := hc 2 (by omega)
  have l3 := hc 3 (by omega)
  have l4 := hc 4 (by omega)
  have l5 := hc 5 (by omega)
  have l6 := hc 6 (by omega)
  have l7 := hc 7 (by omega)
  have l8 := hc 8 (by omega)
  have l9 := hc 9 (by omega)
  have l10 := hc 10 (by omega)
  have y4 : W.cell? ⟨w.heap.size, 4, none⟩ = some (.slice (some ⟨b, o, none⟩) us.length uc) := cell_of_row W _ 4 _ _ _ hh0
  obtain ⟨u, hu⟩ : ∃ u, rec us i = u := ⟨_, rfl⟩
  have HU := hid hu
  rw [hu] at l0 l1 l2 l3 l4 l5 l6 l7 l8 l9 l10
  have hil : (i : Int) < (us.length : Int) := by omega
  obtain ⟨X, hX⟩ : ∃ X, W.alloc (.cells (unitC u) 118) = X := ⟨_, rfl⟩
  have hbX : Below W.heap.size W X := by rw [← hX]; exact (Below.refl _ _).alloc (Nat.le_refl _) _
  have hhX : X.heap[W.heap.size]? = some (.cells (unitC u) 118) := by rw [← hX]; exact heap_alloc_new _ _
  have hsW : w.heap.size < W.heap.size := (Array.getElem?_eq_some_iff.1 hh0).1
  have hXw : X.heap[w.heap.size]? = some (.cells (newerC t g0 g1 nx (.slice (some ⟨b, o, none⟩) us.length uc)) 38) := (hbX.block _ hsW).trans hh0
  have HBX : Hid (Below w.heap.size w X) := hbW.trans (hbX.mono hbW.size)
  have HRX := hid (hrW.below hbX)
  have HXU := hid hhX
  have HXW := hid hXw
  have HXX := hid hX
  have hsX : W.heap.size < X.heap.size := (Array.getElem?_eq_some_iff.1 hhX).1
  clear hc hrow hrW hbW hh0 hu hX hbX hhX hXw
  have KU : ∀ Y, Below X.heap.size X Y → Y.heap[W.heap.size]? = some (.cells (unitC u) 118) := fun Y h => (h.block _ hsX).trans HXU.out
  have KW : ∀ Y, Below X.heap.size X Y → Y.heap[w.heap.size]? = some (.cells (newerC t g0 g1 nx (.slice (some ⟨b, o, none⟩) us.length uc)) 38) := fun Y h => (h.block _ (by omega)).trans HXW.out
  have HKU := hid KU
  have HKW := hid KW
  clear KU KW
  go_enter Tryz.func118, Tryz.ntmps118
  go_upto_region 2 with fail
  rw [HXX.out]
  clear l0 l1 l2 l3 l4 l5 l6 l7 l8 l9 l10 y4
  obtain ⟨x0, x1, x2, x3, x4, x5, x6, x7, x8, x9, x10⟩ := unit_at HXU.out
  go_wp2_with fail
  refine (inBoundsN_calls u X).mono ?_
  rintro e w2 ⟨rfl, hb2⟩
  have HB2 := hid hb2
  clear x0 x1 x2 x3 x4 x5 x6 x7 x8 x9 x10 hb2
  cases h1 : boundsN u
  · go_wp2
    go_ret
    exact ⟨retE (c := 1) (by unfold unitAtN; rw [HU.out, h1]; simp) rfl, HBX.out.trans (HB2.out.mono HBX.out.size)⟩
  have x10 := (unit_at (HKU.out w2 HB2.out)).2.2.2.2.2.2.2.2.2.2
  have s0 : w2.cell? ⟨w.heap.size, 0, none⟩ = some (.int .i64 t) := cell_of_row w2 _ 0 _ _ _ (HKW.out w2 HB2.out)
  go_wp2_with fail
  refine (withinN_calls _ _ _ _).mono ?_
  rintro e w' ⟨rfl, rfl⟩
  clear x10 s0
  cases h10 : inZ (fld u 10) 0 t
  · go_wp2
    go_ret
    exact ⟨retE (c := 1) (by unfold unitAtN; rw [HU.out, h10]; simp) rfl, HBX.out.trans (HB2.out.mono HBX.out.size)⟩
  obtain ⟨x0, x1, x2, x3, x4, x5, x6, x7, x8, x9, x10⟩ := unit_at (HKU.out w' HB2.out)
  go_wp2_with fail
  refine (rightOwnerN_calls u _).mono ?_
  rintro e w3 ⟨rfl, hb3⟩
  have HB3 : Hid (Below X.heap.size X w3) := HB2.out.trans (hb3.mono HB2.out.size)
  clear x0 x1 x2 x3 x4 x5 x6 x7 x8 x9 x10 hb3 HB2
  cases h2 : ownerE u
  · go_wp2
    go_ret
    exact ⟨retE (c := 3) (by unfold unitAtN; rw [HU.out, h1, h10, h2]; simp) rfl, HBX.out.trans (HB3.out.mono HBX.out.size)⟩
  obtain ⟨x0, x1, x2, x3, x4, x5, x6, x7, x8, x9, x10⟩ := unit_at (HKU.out w3 HB3.out)
  go_wp2_with fail
  refine (rightPlaceN_calls u _).mono ?_
  rintro e w4 ⟨rfl, hb4⟩
  have HB4 : Hid (Below X.heap.size X w4) := HB3.out.trans (hb4.mono HB3.out.size)
  clear x0 x1 x2 x3 x4 x5 x6 x7 x8 x9 x10 hb4 HB3
  cases h3 : placeN u
  · go_wp2
    go_ret
    exact ⟨retE (c := 3) (by unfold unitAtN; rw [HU.out, h1, h10, h2, h3]; simp) rfl, HBX.out.trans (HB4.out.mono HBX.out.size)⟩
  obtain ⟨x0, x1, x2, x3, x4, x5, x6, x7, x8, x9, x10⟩ := unit_at (HKU.out w4 HB4.out)
  go_wp2_with fail
  refine (rightTargetN_calls u _).mono ?_
  rintro e w5 ⟨rfl, hb5⟩
  have HB5 : Hid (Below X.heap.size X w5) := HB4.out.trans (hb5.mono HB4.out.size)
  clear x0 x1 x2 x3 x4 x5 x6 x7 x8 x9 x10 hb5 HB4
  cases h4 : targetE u
  · go_wp2
    go_ret
    exact ⟨retE (c := 3) (by unfold unitAtN; rw [HU.out, h1, h10, h2, h3, h4]; simp) rfl, HBX.out.trans (HB5.out.mono HBX.out.size)⟩
  have HE : Hid (unitAtN t nx us i = if orderN nx us i then 3 else 0) := by
    show _ = _
    unfold unitAtN
    rw [HU.out, h1, h10, h2, h3, h4]
    simp
  have HO : Hid (orderN nx us i ↔ (0 < i ∧ fld u 0 ≤ fld (rec us (i - 1)) 0) ∨ nx ≤ fld u 0) := by
    show _ ↔ _
    unfold orderN
    rw [HU.out]
  have HBw : Hid (Below w.heap.size w w5) := HBX.out.trans (HB5.out.mono HBX.out.size)
  have x0 := (unit_at (HKU.out w5 HB5.out)).1
  have s3 : w5.cell? ⟨w.heap.size, 3, none⟩ = some (.int .i64 nx) := cell_of_row w5 _ 3 _ _ _ (HKW.out w5 HB5.out)
  have s4 : w5.cell? ⟨w.heap.size, 4, none⟩ = some (.slice (some ⟨b, o, none⟩) us.length uc) := cell_of_row w5 _ 4 _ _ _ (HKW.out w5 HB5.out)
  have HR5 := hid (HRX.out.below HB5.out)
  clear h1 h2 h3 h4 h10 HKU HKW HXX HXU HXW HRX
  rcases Nat.eq_zero_or_pos i with hi0 | hi0
  · subst hi0
    by_cases hnx : nx ≤ fld u 0
    · have HV : Hid (unitAtN t nx us 0 = 3) := by show _ = _; rw [HE.out, if_pos (HO.out.2 (Or.inr hnx))]
      go_wp2_with fail
      go_quiet (fail)
      go_wp2
      go_ret
      exact ⟨retE (c := 3) HV.out.symm rfl, below_drewN HBw.out _⟩
    · have HV : Hid (unitAtN t nx us 0 = 0) := by show _ = _; rw [HE.out, if_neg (fun h => by rcases HO.out.1 h with h | h <;> omega)]
      go_wp2_with fail
      go_quiet (fail)
      go_wp2
      go_ret
      exact ⟨retE (c := 0) HV.out.symm rfl, below_drewN HBw.out _⟩
  · obtain ⟨k, rfl⟩ : ∃ k, i = k + 1 := ⟨i - 1, by omega⟩
    obtain ⟨b', o', hbo, hc'⟩ := HR5.out.at (i := k) (by omega)
    cases hbo
    have m0 : w5.cell? ⟨b, o + k * 11, none⟩ = some (.int .i64 (fld (rec us k) 0)) := hc' 0 (by omega)
    have hk0 : (0 : Int) < ((k + 1 : Nat) : Int) := by omega
    have hk1 : ((k + 1 : Nat) : Int) - 1 = (k : Int) := by omega
    have hkl : (k : Int) < (us.length : Int) := by omega
    have hwr : IntKind.i64.wrap (k : Int) = (k : Int) := IntWalk.i64_in _ ⟨by omega, by omega⟩
    have HO' : Hid (orderN nx us (k + 1) ↔ fld u 0 ≤ fld (rec us k) 0 ∨ nx ≤ fld u 0) := by
      show _ ↔ _
      rw [HO.out, show k + 1 - 1 = k by omega]
      exact ⟨fun h => h.elim (fun h => Or.inl h.2) Or.inr, fun h => h.elim (fun h => Or.inl ⟨by omega, h⟩) Or.inr⟩
    clear HO hc' hi0
    by_cases hle : fld u 0 ≤ fld (rec us k) 0
    · have HV : Hid (unitAtN t nx us (k + 1) = 3) := by show _ = _; rw [HE.out, if_pos (HO'.out.2 (Or.inl hle))]
      go_wp2_with fail
      go_quiet (fail)
      go_wp2
      go_ret
      exact ⟨retE (c := 3) HV.out.symm rfl, below_drewN HBw.out _⟩
    · by_cases hnx : nx ≤ fld u 0
      · have HV : Hid (unitAtN t nx us (k + 1) = 3) := by show _ = _; rw [HE.out, if_pos (HO'.out.2 (Or.inr hnx))]
        go_wp2_with fail
        go_quiet (fail)
        go_wp2
        go_ret
        exact ⟨retE (c := 3) HV.out.symm rfl, below_drewN HBw.out _⟩
      · have HV : Hid (unitAtN t nx us (k + 1) = 0) := by show _ = _; rw [HE.out, if_neg (fun h => by rcases HO'.out.1 h with h | h <;> omega)]
        go_wp2_with fail
        go_quiet (fail)
        go_wp2
        go_ret
        exact ⟨retE (c := 0) HV.out.symm rfl, below_drewN HBw.out _⟩
end Go.Proofs.YtgiieepfhohmhabGreat

/- Package newer of the program: one of a state, by itself and by its number. -/
import Derived.Deep.RegionHeld3
import Derived.Test.YtcbalhicaipmlaaGreatRNwB
namespace Go.Proofs.YtcbalhicaipmlaaGreat
open Go.RowKit
def orderN (nx : Int) (us : List (List Int)) (i : Nat) : Prop := (0 < i ∧ fld (rec us i) 0 ≤ fld (rec us (i - 1)) 0) ∨ nx ≤ fld (rec us i) 0
instance (nx : Int) (us : List (List Int)) (i : Nat) : Decidable (orderN nx us i) := by unfold orderN; infer_instance
def unitAtN (t nx : Int) (us : List (List Int)) (i : Nat) : Nat :=
  if boundsN (rec us i) = true ∧ inZ (fld (rec us i) 10) 0 t = true then
    if ownerE (rec us i) = true ∧ placeN (rec us i) = true ∧ targetE (rec us i) = true then
      if orderN nx us i then 3 else 0
    else 3
  else 1
set_option maxRecDepth 100000 in
set_option maxHeartbeats 8000000 in
theorem checkUnit_calls (t g0 g1 nx : Int) (us : List (List Int)) (ua : Option Addr) (uc : Nat) (i : Nat) (w : World) (hi : i < us.length) (hn : us.length ≤ 1000) (hrow : Recs w ua 11 us) :
    Calls Tryz.prog 87 #[newerV t g0 g1 nx (.slice ua us.length uc), .int .i64 i] w fun e w' => e = .returned (errV (unitAtN t nx us i)) ∧ Below w.heap.size w w' := by
  obtain ⟨W, hW⟩ : ∃ W, w.alloc (.cells (newerC t g0 g1 nx (.slice ua us.length uc)) 32) = W := ⟨_, rfl⟩
  have hbW : Below w.heap.size w W := by rw [← hW]; exact (Below.refl _ w).alloc (Nat.le_refl _) _
  have hh0 : W.heap[w.heap.size]? = some (.cells (newerC t g0 g1 nx (.slice ua us.length uc)) 32) := by rw [← hW]; exact heap_alloc_new w _
  have hrW := hrow.below hbW
  obtain ⟨b, o, rfl, hc⟩ := hrW.at hi
  have l0 : W.cell? ⟨b, o + i * 11, none⟩ = some (.int .i64 (fld (rec us i) 0)) := hc 0 (by omega)
  have l1 := hc 1 (by omega)
  have l2 := hc 2 (by omega)
  have l3 := hc 3 (by omega)
  have l4 := hc 4 (by omega)
  have l5 := hc 5 (by omega)
  have l6 := hc 6 (by omega)
  have l7 := hc 7 (by omega)
  have l8 := hc 8 (by omega)
  have l9 := hc 9 (by omega)
  have l10 := hc 10 (by omega)
  have y4 : W.cell? ⟨w.heap.size, 4, none⟩ = some (.slice (some ⟨b, o, none⟩) us.length uc) := cell_of_row W _ 4 _ _ _ hh0
  obtain ⟨u, hu⟩ : ∃ u, rec us i = u := ⟨_, rfl⟩
  have HU := hid hu
  rw [hu] at l0 l1 l2 l3 l4 l5 l6 l7 l8 l9 l10
  have hil : (i : Int) < (us.length : Int) := by omega
  obtain ⟨X, hX⟩ : ∃ X, W.alloc (.cells (unitC u) 121) = X := ⟨_, rfl⟩
  have hbX : Below W.heap.size W X := by rw [← hX]; exact (Below.refl _ _).alloc (Nat.le_refl _) _
  have hhX : X.heap[W.heap.size]? = some (.cells (unitC u) 121) := by rw [← hX]; exact heap_alloc_new _ _
  have hsW : w.heap.size < W.heap.size := (Array.getElem?_eq_some_iff.1 hh0).1
  have hXw : X.heap[w.heap.size]? = some (.cells (newerC t g0 g1 nx (.slice (some ⟨b, o, none⟩) us.length uc)) 32) := (hbX.block _ hsW).trans hh0
  have HBX : Hid (Below w.heap.size w X) := hbW.trans (hbX.mono hbW.size)
  have HRX := hid (hrW.below hbX)
  have HXU := hid hhX
  have HXW := hid hXw
  have HXX := hid hX
  have hsX : W.heap.size < X.heap.size := (Array.getElem?_eq_some_iff.1 hhX).1
  clear hc hrow hrW hbW hh0 hu hX hbX hhX hXw
  have KU : ∀ Y, Below X.heap.size X Y → Y.heap[W.heap.size]? = some (.cells (unitC u) 121) := fun Y h => (h.block _ hsX).trans HXU.out
  have KW : ∀ Y, Below X.heap.size X Y → Y.heap[w.heap.size]? = some (.cells (newerC t g0 g1 nx (.slice (some ⟨b, o, none⟩) us.length uc)) 32) := fun Y h => (h.block _ (by omega)).trans HXW.out
  have HKU := hid KU
  have HKW := hid KW
  clear KU KW
  go_enter Tryz.func87, Tryz.ntmps87
  go_upto_region 2 with fail
  rw [HXX.out]
  clear l0 l1 l2 l3 l4 l5 l6 l7 l8 l9 l10 y4
  obtain ⟨x0, x1, x2, x3, x4, x5, x6, x7, x8, x9, x10⟩ := unit_at HXU.out
  go_wp2_with fail
  refine (inBoundsN_calls u X).mono ?_
  rintro e w2 ⟨rfl, hb2⟩
  have HB2 := hid hb2
  clear x0 x1 x2 x3 x4 x5 x6 x7 x8 x9 x10 hb2
  cases h1 : boundsN u
  · go_wp2
    go_ret
    exact ⟨retE (c := 1) (by unfold unitAtN; rw [HU.out, h1]; simp) rfl, HBX.out.trans (HB2.out.mono HBX.out.size)⟩
  have x10 := (unit_at (HKU.out w2 HB2.out)).2.2.2.2.2.2.2.2.2.2
  have s0 : w2.cell? ⟨w.heap.size, 0, none⟩ = some (.int .i64 t) := cell_of_row w2 _ 0 _ _ _ (HKW.out w2 HB2.out)
  go_wp2_with fail
  refine (withinN_calls _ _ _ _).mono ?_
  rintro e w' ⟨rfl, rfl⟩
  clear x10 s0
  cases h10 : inZ (fld u 10) 0 t
  · go_wp2
    go_ret
    exact ⟨retE (c := 1) (by unfold unitAtN; rw [HU.out, h10]; simp) rfl, HBX.out.trans (HB2.out.mono HBX.out.size)⟩
  obtain ⟨x0, x1, x2, x3, x4, x5, x6, x7, x8, x9, x10⟩ := unit_at (HKU.out w' HB2.out)
  go_wp2_with fail
  refine (rightOwnerN_calls u _).mono ?_
  rintro e w3 ⟨rfl, hb3⟩
  have HB3 : Hid (Below X.heap.size X w3) := HB2.out.trans (hb3.mono HB2.out.size)
  clear x0 x1 x2 x3 x4 x5 x6 x7 x8 x9 x10 hb3 HB2
  cases h2 : ownerE u
  · go_wp2
    go_ret
    exact ⟨retE (c := 3) (by unfold unitAtN; rw [HU.out, h1, h10, h2]; simp) rfl, HBX.out.trans (HB3.out.mono HBX.out.size)⟩
  obtain ⟨x0, x1, x2, x3, x4, x5, x6, x7, x8, x9, x10⟩ := unit_at (HKU.out w3 HB3.out)
  go_wp2_with fail
  refine (rightPlaceN_calls u _).mono ?_
  rintro e w4 ⟨rfl, hb4⟩
  have HB4 : Hid (Below X.heap.size X w4) := HB3.out.trans (hb4.mono HB3.out.size)
  clear x0 x1 x2 x3 x4 x5 x6 x7 x8 x9 x10 hb4 HB3
  cases h3 : placeN u
  · go_wp2
    go_ret
    exact ⟨retE (c := 3) (by unfold unitAtN; rw [HU.out, h1, h10, h2, h3]; simp) rfl, HBX.out.trans (HB4.out.mono HBX.out.size)⟩
  obtain ⟨x0, x1, x2, x3, x4, x5, x6, x7, x8, x9, x10⟩ := unit_at (HKU.out w4 HB4.out)
  go_wp2_with fail
  refine (rightTargetN_calls u _).mono ?_
  rintro e w5 ⟨rfl, hb5⟩
  have HB5 : Hid (Below X.heap.size X w5) := HB4.out.trans (hb5.mono HB4.out.size)
  clear x0 x1 x2 x3 x4 x5 x6 x7 x8 x9 x10 hb5 HB4
  cases h4 : targetE u
  · go_wp2
    go_ret
    exact ⟨retE (c := 3) (by unfold unitAtN; rw [HU.out, h1, h10, h2, h3, h4]; simp) rfl, HBX.out.trans (HB5.out.mono HBX.out.size)⟩
  have HE : Hid (unitAtN t nx us i = if orderN nx us i then 3 else 0) := by
    show _ = _
    unfold unitAtN
    rw [HU.out, h1, h10, h2, h3, h4]
    simp
  have HO : Hid (orderN nx us i ↔ (0 < i ∧ fld u 0 ≤ fld (rec us (i - 1)) 0) ∨ nx ≤ fld u 0) := by
    show _ ↔ _
    unfold orderN
    rw [HU.out]
  have HBw : Hid (Below w.heap.size w w5) := HBX.out.trans (HB5.out.mono HBX.out.size)
  have x0 := (unit_at (HKU.out w5 HB5.out)).1
  have s3 : w5.cell? ⟨w.heap.size, 3, none⟩ = some (.int .i64 nx) := cell_of_row w5 _ 3 _ _ _ (HKW.out w5 HB5.out)
  have s4 : w5.cell? ⟨w.heap.size, 4, none⟩ = some (.slice (some ⟨b, o, none⟩) us.length uc) := cell_of_row w5 _ 4 _ _ _ (HKW.out w5 HB5.out)
  have HR5 := hid (HRX.out.below HB5.out)
  clear h1 h2 h3 h4 h10 HKU HKW HXX HXU HXW HRX
  rcases Nat.eq_zero_or_pos i with hi0 | hi0
  · subst hi0
    by_cases hnx : nx ≤ fld u 0
    · have HV : Hid (unitAtN t nx us 0 = 3) := by show _ = _; rw [HE.out, if_pos (HO.out.2 (Or.inr hnx))]
      go_wp2_with fail
      go_quiet (fail)
      go_wp2
      go_ret
      exact ⟨retE (c := 3) HV.out.symm rfl, below_drewN HBw.out _⟩
    · have HV : Hid (unitAtN t nx us 0 = 0) := by show _ = _; rw [HE.out, if_neg (fun h => by rcases HO.out.1 h with h | h <;> omega)]
      go_wp2_with fail
      go_quiet (fail)
      go_wp2
      go_ret
      exact ⟨retE (c := 0) HV.out.symm rfl, below_drewN HBw.out _⟩
  · obtain ⟨k, rfl⟩ : ∃ k, i = k + 1 := ⟨i - 1, by omega⟩
    obtain ⟨b', o', hbo, hc'⟩ := HR5.out.at (i := k) (by omega)
    cases hbo
    have m0 : w5.cell? ⟨b, o + k * 11, none⟩ = some (.int .i64 (fld (rec us k) 0)) := hc' 0 (by omega)
    have hk0 : (0 : Int) < ((k + 1 : Nat) : Int) := by omega
    have hk1 : ((k + 1 : Nat) : Int) - 1 = (k : Int) := by omega
    have hkl : (k : Int) < (us.length : Int) := by omega
    have hwr : IntKind.i64.wrap (k : Int) = (k : Int) := IntWalk.i64_in _ ⟨by omega, by omega⟩
    have HO' : Hid (orderN nx us (k + 1) ↔ fld u 0 ≤ fld (rec us k) 0 ∨ nx ≤ fld u 0) := by
      show _ ↔ _
      rw [HO.out, show k + 1 - 1 = k by omega]
      exact ⟨fun h => h.elim (fun h => Or.inl h.2) Or.inr, fun h => h.elim (fun h => Or.inl ⟨by omega, h⟩) Or.inr⟩
    clear HO hc' hi0
    by_cases hle : fld u 0 ≤ fld (rec us k) 0
    · have HV : Hid (unitAtN t nx us (k + 1) = 3) := by show _ = _; rw [HE.out, if_pos (HO'.out.2 (Or.inl hle))]
      go_wp2_with fail
      go_quiet (fail)
      go_wp2
      go_ret
      exact ⟨retE (c := 3) HV.out.symm rfl, below_drewN HBw.out _⟩
    · by_cases hnx : nx ≤ fld u 0
      · have HV : Hid (unitAtN t nx us (k + 1) = 3) := by show _ = _; rw [HE.out, if_pos (HO'.out.2 (Or.inr hnx))]
        go_wp2_with fail
        go_quiet (fail)
        go_wp2
        go_ret
        exact ⟨retE (c := 3) HV.out.symm rfl, below_drewN HBw.out _⟩
      · have HV : Hid (unitAtN t nx us (k + 1) = 0) := by show _ = _; rw [HE.out, if_neg (fun h => by rcases HO'.out.1 h with h | h <;> omega)]
        go_wp2_with fail
        go_quiet (fail)
        go_wp2
        go_ret
        exact ⟨retE (c := 0) HV.out.symm rfl, below_drewN HBw.out _⟩
end Go.Proofs.YtcbalhicaipmlaaGreat
namespace Go.Proofs.YtcbalhicaipmlaaGreat
open Go.RowKit
set_option maxHeartbeats 1000000 in
theorem target1_calls (id : Int) (B : Nat) (w : World) (hB : B < w.heap.size) (hc : w.cell? ⟨B, 9, none⟩ = some (.int .i64 id)) (W : World) (u : List Int) (hb : Below w.heap.size w W) :
    Calls Tryz.prog 122 (#[unitV u] ++ #[.pointer (some ⟨B, 0, none⟩)]) W fun e w' => e = .returned (.bool (isId id u)) ∧ Below w.heap.size w w' := by
  have hcW : W.cell? ⟨B, 9, none⟩ = some (.int .i64 id) := (hb.cell (p := ⟨B, 9, none⟩) hB).trans hc
  have hBW : B < W.heap.size := Nat.lt_of_lt_of_le hB hb.size
  have hne : B ≠ W.heap.size := by omega
  have HB := hid hb
  clear hb hc hB
  show Calls Tryz.prog 122 #[.agg (unitC u), .pointer (some ⟨B, 0, none⟩)] W fun e w' => e = .returned (.bool (fld u 0 == id)) ∧ Below w.heap.size w w'
  cases hq : fld u 0 == id
  · go_enter Tryz.func122, Tryz.ntmps122
    go_wp2
    go_ret
    exact ⟨rfl, HB.out.alloc HB.out.size _⟩
  · go_enter Tryz.func122, Tryz.ntmps122
    go_wp2
    go_ret
    exact ⟨rfl, HB.out.alloc HB.out.size _⟩
def aimOkN (us : List (List Int)) (i : Nat) : Prop := fld (rec us i) 9 = 0 ∨ (0 ≤ idxZ (isId (fld (rec us i) 9)) us ∧ mayN (fld (rec us i) 6) (rec us i) (rec us (idxZ (isId (fld (rec us i) 9)) us).toNat) = true)
instance (us : List (List Int)) (i : Nat) : Decidable (aimOkN us i) := by unfold aimOkN; infer_instance
def targetsN (us : List (List Int)) : Nat := if ∀ i, i < us.length → aimOkN us i then 0 else 3
theorem targetsN_bad {us : List (List Int)} {i : Nat} (hi : i < us.length) (h : ¬ aimOkN us i) : targetsN us = 3 := by unfold targetsN; rw [if_neg (fun g => h (g i hi))]
theorem unit_held {Y : World} {b : Nat} {u : List Int} (h : Y.heap[b]? = some (.cells (unitC u) 121)) : ∀ j, ∀ w', Below Y.heap.size Y w' → w'.cell? ⟨b, j, none⟩ = (unitC u)[j]? :=
  fun j w' hb => cell_of_row w' b j _ _ _ ((hb.block b (Array.getElem?_eq_some_iff.1 h).1).trans h)
set_option maxRecDepth 100000 in
set_option maxHeartbeats 8000000 in
theorem checkTargets_calls (us : List (List Int)) (ua : Option Addr) (uc : Nat) (w : World) (hn : us.length ≤ 1000) (hrow : Recs w ua 11 us) :
    Calls Tryz.prog 88 #[.slice ua us.length uc] w fun e w' => e = .returned (errV (targetsN us)) ∧ Below w.heap.size w w' := by
  have eg : ∀ args w, (callFunc 122 args).run Tryz.prog w = .ok (.enter 122 args) w := enters_of Tryz.func122 (by kernel_rfl) rfl
  have HEG := hid eg
  have HR := hid hrow
  clear hrow eg
  go_enter Tryz.func88, Tryz.ntmps88
  go_wp2_with fail
  go_loopw [8] (fun i wr => ∃ k : Nat, k ≤ us.length ∧ i = .int .i64 k ∧ Hid (Below w.heap.size w wr) ∧ Hid (∀ j, j < k → aimOkN us j)) (fun i _ => us.length - (intOf i).toNat)
  case atStart => exact ⟨0, Nat.zero_le _, rfl, Below.refl _ _, fun j hj => absurd hj (Nat.not_lt_zero _)⟩
  case round =>
    obtain ⟨k, hk, rfl, HB, HA⟩ := hrel
    by_cases hlt : k < us.length
    · have hltz : (k : Int) < (us.length : Int) := by omega
      obtain ⟨b, o, rfl, hc⟩ := (HR.out.below HB.out).at hlt
      have l0 : wr.cell? ⟨b, o + k * 11, none⟩ = some (.int .i64 (fld (rec us k) 0)) := hc 0 (by omega)
      have l1 := hc 1 (by omega)
      have l2 := hc 2 (by omega)
      have l3 := hc 3 (by omega)
      have l4 := hc 4 (by omega)
      have l5 := hc 5 (by omega)
      have l6 := hc 6 (by omega)
      have l7 := hc 7 (by omega)
      have l8 := hc 8 (by omega)
      have l9 := hc 9 (by omega)
      have l10 := hc 10 (by omega)
      obtain ⟨u, hu⟩ : ∃ u, rec us k = u := ⟨_, rfl⟩
      have HU := hid hu
      rw [hu] at l0 l1 l2 l3 l4 l5 l6 l7 l8 l9 l10
      obtain ⟨X, hX⟩ : ∃ X, wr.alloc (.cells (unitC u) 121) = X := ⟨_, rfl⟩
      have hbX : Below wr.heap.size wr X := by rw [← hX]; exact (Below.refl _ _).alloc (Nat.le_refl _) _
      have hhX : X.heap[wr.heap.size]? = some (.cells (unitC u) 121) := by rw [← hX]; exact heap_alloc_new _ _
      have HBX : Hid (Below w.heap.size w X) := HB.out.trans (hbX.mono HB.out.size)
      have HRX := hid ((HR.out.below HB.out).below hbX)
      have HHX := hid hhX
      have HXX := hid hX
      have hsX : wr.heap.size < X.heap.size := (Array.getElem?_eq_some_iff.1 hhX).1
      have x9 : X.cell? ⟨wr.heap.size, 9, none⟩ = some (.int .i64 (fld u 9)) := cell_of_row X _ 9 _ _ _ hhX
      clear hc hu hX hbX hhX HB
      go_upto_region 4 with fail
      rw [HXX.out]
      clear l0 l1 l2 l3 l4 l5 l6 l7 l8 l9 l10
      cases h9 : fld u 9 == 0
      case true =>
        have HA2 : Hid (∀ j, j < k + 1 → aimOkN us j) := fun j hj => by
          by_cases e : j = k
          · subst e; exact Or.inl (by rw [HU.out]; exact eq_of_beq h9)
          · exact HA.out j (by omega)
        clear HA
        go_wp2
        go_roundw
        case rel => exact ⟨k + 1, by omega, by go_num, HBX, HA2⟩
        case measure => simp [intOf]; omega
      case false =>
        have h9' : fld u 9 ≠ 0 := by simpa using h9
        have HIX := hid (indexFuncU_calls 122 #[.pointer (some ⟨wr.heap.size, 0, none⟩)] HEG.out (isId (fld u 9)) us (some ⟨b, o, none⟩) uc X hn HRX.out (fun W' u' hb => target1_calls (fld u 9) wr.heap.size X hsX x9 W' u' hb))
        obtain ⟨z, hz⟩ : ∃ z, idxZ (isId (fld u 9)) us = z := ⟨_, rfl⟩
        rw [hz] at HIX
        have HAK : Hid (aimOkN us k ↔ 0 ≤ z ∧ mayN (fld u 6) u (rec us z.toNat) = true) := by
          show _ ↔ _
          unfold aimOkN
          rw [HU.out, hz]
          exact ⟨fun h => h.elim (fun h => absurd h h9') id, Or.inr⟩
        have hzl : z < us.length := by rw [← hz]; exact (idxZ_bd _ _).2
        clear hz h9'
        go_wp2_with fail
        refine HIX.out.mono ?_
        rintro e w5 ⟨rfl, hb5⟩
        have HB5 : Hid (Below w.heap.size w w5) := HBX.out.trans (hb5.mono HBX.out.size)
        by_cases hz0 : z < 0
        · have HT : Hid (targetsN us = 3) := targetsN_bad hlt (fun h => by have := (HAK.out.1 h).1; omega)
          clear x9 HIX hb5
          go_wp2_with fail
          go_quiet (fail)
          go_wp2
          go_ret
          exact ⟨retE (c := 3) HT.out.symm rfl, below_drewN HB5.out _⟩
        · obtain ⟨m, rfl⟩ : ∃ m : Nat, z = m := ⟨z.toNat, by omega⟩
          have hml : m < us.length := by omega
          have hmz : (m : Int) < (us.length : Int) := by omega
          have hm0 : ¬ (m : Int) < 0 := by omega
          have hR5 := HRX.out.below hb5
          obtain ⟨b', o', hbo, hc'⟩ := hR5.at hml
          cases hbo
          obtain ⟨t, ht⟩ : ∃ t, rec us m = t := ⟨_, rfl⟩
          have HAK2 : Hid (aimOkN us k ↔ mayN (fld u 6) u t = true) := by
            show _ ↔ _
            rw [HAK.out, ← ht]
            exact ⟨fun h => h.2, fun h => ⟨by omega, h⟩⟩
          have hh5 := (hb5.block wr.heap.size hsX).trans HHX.out
          have KU := unit_held hh5
          have a0 : ∀ w', Below w5.heap.size w5 w' → w'.cell? ⟨wr.heap.size, 0, none⟩ = some (.int .i64 (fld u 0)) := KU 0
          have a1 : ∀ w', Below w5.heap.size w5 w' → w'.cell? ⟨wr.heap.size, 1, none⟩ = some (.int .i64 (fld u 1)) := KU 1
          have a2 : ∀ w', Below w5.heap.size w5 w' → w'.cell? ⟨wr.heap.size, 2, none⟩ = some (.int .i64 (fld u 2)) := KU 2
          have a3 : ∀ w', Below w5.heap.size w5 w' → w'.cell? ⟨wr.heap.size, 3, none⟩ = some (.int .i64 (fld u 3)) := KU 3
          have a4 : ∀ w', Below w5.heap.size w5 w' → w'.cell? ⟨wr.heap.size, 4, none⟩ = some (.int .i64 (fld u 4)) := KU 4
          have a5 : ∀ w', Below w5.heap.size w5 w' → w'.cell? ⟨wr.heap.size, 5, none⟩ = some (.int .i64 (fld u 5)) := KU 5
          have a6 : ∀ w', Below w5.heap.size w5 w' → w'.cell? ⟨wr.heap.size, 6, none⟩ = some (.int .i64 (fld u 6)) := KU 6
          have a7 : ∀ w', Below w5.heap.size w5 w' → w'.cell? ⟨wr.heap.size, 7, none⟩ = some (.int .i64 (fld u 7)) := KU 7
          have a8 : ∀ w', Below w5.heap.size w5 w' → w'.cell? ⟨wr.heap.size, 8, none⟩ = some (.int .i64 (fld u 8)) := KU 8
          have a9 : ∀ w', Below w5.heap.size w5 w' → w'.cell? ⟨wr.heap.size, 9, none⟩ = some (.int .i64 (fld u 9)) := KU 9
          have a10 : ∀ w', Below w5.heap.size w5 w' → w'.cell? ⟨wr.heap.size, 10, none⟩ = some (.int .i64 (fld u 10)) := KU 10
          have KT : ∀ j, j < 11 → ∀ w', Below w5.heap.size w5 w' → w'.cell? ⟨b, o + m * 11 + j, none⟩ = some (.int .i64 (fld t j)) := fun j hj w' h => (h.cell (p := ⟨b, o + m * 11 + j, none⟩) (World.block_lt_of_cell? w5 _ (hc' j hj))).trans (by rw [hc' j hj, ht])
          have e0 : ∀ w', Below w5.heap.size w5 w' → w'.cell? ⟨b, o + m * 11, none⟩ = some (.int .i64 (fld t 0)) := KT 0 (by omega)
          have e1 := KT 1 (by omega)
          have e2 := KT 2 (by omega)
          have e3 := KT 3 (by omega)
          have e4 := KT 4 (by omega)
          have e5 := KT 5 (by omega)
          have e6 := KT 6 (by omega)
          have e7 := KT 7 (by omega)
          have e8 := KT 8 (by omega)
          have e9 := KT 9 (by omega)
          have e10 := KT 10 (by omega)
          clear KU KT hc' hh5 hR5 ht HAK x9 HIX hb5 hz0
          cases hmy : mayN (fld u 6) u t with
          | false =>
            have HT : Hid (targetsN us = 3) := targetsN_bad hlt (fun h => by have := HAK2.out.1 h; rw [hmy] at this; cases this)
            have HMY : Hid (∀ wx, Calls Tryz.prog 123 #[unitV u, .int .i64 (fld u 6), unitV t] wx fun e w' => e = .returned (.bool false) ∧ Below wx.heap.size wx w') := fun wx => by have h := mayN_calls u (fld u 6) t wx; rw [hmy] at h; exact h
            clear hmy HAK2
            go_wp2_with fail
            go_region_held3 (fun w' => Below w5.heap.size w5 w') (first | with_reducible exact (Below.refl _ _).drew | with_reducible exact HB2.out | with_reducible assumption)
              (first | (go_at_call 123; refine (HMY.out _).mono ?_; rintro e w2 ⟨rfl, hb2⟩; have HB2 : Hid (Below w5.heap.size w5 w2) := Below.trans (by assumption) (hb2.mono (Below.size (by assumption))); clear hb2))
            all_goals
              have HF : Hid (Below w.heap.size w w2) := HB5.out.trans (HB2.out.mono HB5.out.size)
              clear a0 a1 a2 a3 a4 a5 a6 a7 a8 a9 a10 e0 e1 e2 e3 e4 e5 e6 e7 e8 e9 e10
              go_wp2
              go_ret
              exact ⟨retE (c := 3) HT.out.symm rfl, HF.out⟩
          | true =>
            have HA2 : Hid (∀ j, j < k + 1 → aimOkN us j) := fun j hj => by
              by_cases e : j = k
              · subst e; exact HAK2.out.2 hmy
              · exact HA.out j (by omega)
            have HMY : Hid (∀ wx, Calls Tryz.prog 123 #[unitV u, .int .i64 (fld u 6), unitV t] wx fun e w' => e = .returned (.bool true) ∧ Below wx.heap.size wx w') := fun wx => by have h := mayN_calls u (fld u 6) t wx; rw [hmy] at h; exact h
            clear hmy HAK2 HA
            go_wp2_with fail
            go_region_held3 (fun w' => Below w5.heap.size w5 w') (first | with_reducible exact (Below.refl _ _).drew | with_reducible exact HB2.out | with_reducible assumption)
              (first | (go_at_call 123; refine (HMY.out _).mono ?_; rintro e w2 ⟨rfl, hb2⟩; have HB2 : Hid (Below w5.heap.size w5 w2) := Below.trans (by assumption) (hb2.mono (Below.size (by assumption))); clear hb2))
            all_goals
              have HF : Hid (Below w.heap.size w w2) := HB5.out.trans (HB2.out.mono HB5.out.size)
              clear a0 a1 a2 a3 a4 a5 a6 a7 a8 a9 a10 e0 e1 e2 e3 e4 e5 e6 e7 e8 e9 e10
              go_wp2
              go_roundw
              case rel => exact ⟨k + 1, by omega, by go_num, HF, HA2⟩
              case measure => simp [intOf]; omega
    · have hltz : ¬ (k : Int) < (us.length : Int) := by omega
      have HT : Hid (targetsN us = 0) := by show _ = _; unfold targetsN; rw [if_pos (fun i hi => HA.out i (by omega))]
      go_wp2
      go_ret
      exact ⟨retE (c := 0) HT.out.symm rfl, HB.out⟩
end Go.Proofs.YtcbalhicaipmlaaGreat

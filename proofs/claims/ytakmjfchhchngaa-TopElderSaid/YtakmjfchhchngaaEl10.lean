/- Package elder of the program: Check. -/
import Derived.Test.YtakmjfchhchngaaEl9
namespace Go.Proofs.Ytakmjfchhchngaa
open Go.RowKit Go.Maps

/- The first of n that is not 0. -/
def firstE (n : Nat) (f : Nat → Nat) : Nat :=
  match (List.range n).find? (fun i => f i != 0) with
  | some i => f i
  | none => 0
theorem firstE_some {n : Nat} {f : Nat → Nat} {k : Nat} (hk : k < n) (hn : ∀ i, i < k → f i = 0) (he : f k ≠ 0) : firstE n f = f k := by
  have h : (List.range n).find? (fun i => f i != 0) = some k := by
    rw [List.find?_range_eq_some]
    refine ⟨by simpa using he, by simpa using hk, fun j hj => by simpa using hn j hj⟩
  unfold firstE
  rw [h]
theorem firstE_none {n : Nat} {f : Nat → Nat} (hn : ∀ i, i < n → f i = 0) : firstE n f = 0 := by
  have h : (List.range n).find? (fun i => f i != 0) = none := by
    rw [List.find?_eq_none]
    intro i hi
    have := hn i (by simpa using hi)
    simpa using this
  unfold firstE
  rw [h]
def aimOkE (es : List (List Int)) (i : Nat) : Prop := 0 < fld (rec es i) 9 → aimE es (rec es i) (fld (rec es i) 6) (fld (rec es i) 9) = true
instance (es : List (List Int)) (i : Nat) : Decidable (aimOkE es i) := by unfold aimOkE; infer_instance
def checkE (t g0 g1 nx : Int) (free : List Int) (es : List (List Int)) : Nat :=
  if stateE t g0 g1 nx free.length es.length = 0 then
    if firstE es.length (entE nx es) = 0 then
      if ∀ i, i < es.length → aimOkE es i then freeE nx es free else 3
    else firstE es.length (entE nx es)
  else stateE t g0 g1 nx free.length es.length

theorem stateE_zero {t g0 g1 nx : Int} {nf ne : Nat} (h : stateE t g0 g1 nx nf ne = 0) : (0 ≤ t ∧ t ≤ 60) ∧ (1 ≤ nx ∧ nx ≤ 201) ∧ (0 ≤ g0 ∧ g0 ≤ 40) ∧ (0 ≤ g1 ∧ g1 ≤ 40) ∧ ne ≤ 20 ∧ nf ≤ 200 := by
  unfold stateE at h
  split at h
  next h1 =>
    split at h
    next h2 =>
      split at h
      next h3 =>
        split at h
        · omega
        next h4 =>
          simp only [inZ, decide_eq_true_eq] at h1 h2 h3
          omega
      · omega
    · omega
  · omega
theorem stateE_le (t g0 g1 nx : Int) (nf ne : Nat) : stateE t g0 g1 nx nf ne ≤ 2 := by
  unfold stateE
  split
  · split
    · split
      · split <;> omega
      · omega
    · omega
  · omega
theorem entE_le (nx : Int) (es : List (List Int)) (i : Nat) : entE nx es i ≤ 3 := by
  unfold entE
  split
  · split
    · split
      · omega
      · split <;> omega
    · omega
  · omega
theorem entE_zero {nx : Int} {es : List (List Int)} {i : Nat} (h : entE nx es i = 0) : boundsE (rec es i) = true ∧ ownerE (rec es i) = true ∧ placeE (rec es i) = true ∧ targetE (rec es i) = true ∧ (0 < i → fld (rec es (i - 1)) 0 < fld (rec es i) 0) ∧ fld (rec es i) 0 < nx ∧ idxZ (isAt (fld (rec es i) 3) (fld (rec es i) 4)) (es.take i) < 0 := by
  unfold entE at h
  split at h
  next h1 =>
    split at h
    next h2 =>
      split at h
      · omega
      next h3 =>
        split at h
        · omega
        next h4 =>
          refine ⟨h1, h2.1, h2.2.1, h2.2.2, fun hi => ?_, ?_, by omega⟩
          · by_cases hle : fld (rec es i) 0 ≤ fld (rec es (i - 1)) 0
            · exact absurd (Or.inl ⟨hi, hle⟩) h3
            · omega
          · by_cases hle : nx ≤ fld (rec es i) 0
            · exact absurd (Or.inr hle) h3
            · omega
    · omega
  · omega
theorem boundsE_true {u : List Int} (h : boundsE u = true) : (1 ≤ fld u 2 ∧ fld u 2 ≤ 5) ∧ (1 ≤ fld u 0 ∧ fld u 0 ≤ 200) ∧ ((0 ≤ fld u 3 ∧ fld u 3 < 12) ∧ 0 ≤ fld u 4 ∧ fld u 4 < 12) ∧ (1 ≤ fld u 5 ∧ fld u 5 ≤ mostZ (fld u 2)) ∧ (0 ≤ fld u 6 ∧ fld u 6 ≤ 3) ∧ (0 ≤ fld u 9 ∧ fld u 9 ≤ 200) := by
  unfold boundsE at h
  simp only [Bool.and_eq_true] at h
  obtain ⟨h1, h2, h3, h4, h5, h6⟩ := h
  simp only [inZ, decide_eq_true_eq] at h2 h4 h5 h6
  simp only [Pl.eHas, decide_eq_true_eq] at h1
  exact ⟨h1, h2, Pl.onB_true h3, h4, h5, h6⟩
theorem errV_pos {c : Nat} (h : c ≠ 0) : errV c = .iface 113 (.int .i64 c) := by unfold errV; rw [if_neg h]

theorem box_new {w W w1 : World} {t g0 g1 nx : Int} {fv ev : Value} (hw1 : w1 = w.alloc (.cells #[.int .i64 t, .int .i64 g0, .int .i64 g1, .int .i64 nx, fv, ev] 60)) (hb : Below w1.heap.size w1 W) :
    W.cell? ⟨w.heap.size, 0, none⟩ = some (.int .i64 t) ∧ W.cell? ⟨w.heap.size, 1, none⟩ = some (.int .i64 g0) ∧ W.cell? ⟨w.heap.size, 2, none⟩ = some (.int .i64 g1) ∧ W.cell? ⟨w.heap.size, 3, none⟩ = some (.int .i64 nx) ∧ W.cell? ⟨w.heap.size, 4, none⟩ = some fv ∧ W.cell? ⟨w.heap.size, 5, none⟩ = some ev := by
  have hs : w1.heap.size = w.heap.size + 1 := by rw [hw1]; simp [go_sem]
  have g : ∀ j, W.cell? ⟨w.heap.size, j, none⟩ = (#[.int .i64 t, .int .i64 g0, .int .i64 g1, .int .i64 nx, fv, ev] : Array Value)[j]? := fun j =>
    (hb.cell (p := ⟨w.heap.size, j, none⟩) (show w.heap.size < w1.heap.size by omega)).trans (by rw [hw1]; exact World.cell?_alloc_at _ _ _ _ rfl)
  exact ⟨g 0, g 1, g 2, g 3, g 4, g 5⟩

set_option maxRecDepth 100000 in
set_option maxHeartbeats 8000000 in
theorem check_calls (t g0 g1 nx : Int) (free : List Int) (fa ea : Option Addr) (fc ec : Nat) (es : List (List Int)) (w : World) (hcap : es.length ≤ ec)
    (hrow : Recs w ea 10 es) (hfr : Nums w fa free) (hwf : ∀ i, i < free.length → (Lit.int .i64 (fld free i)).wf = true) :
    Calls Try.prog 40 #[elderV t g0 g1 nx (.slice fa free.length fc) (.slice ea es.length ec)] w fun e w' => e = .returned (errV (checkE t g0 g1 nx free es)) ∧ Below w.heap.size w w' := by
  have HR := hid hrow
  have HF := hid hfr
  have HWF := hid hwf
  clear hrow hfr hwf
  obtain ⟨w1, hw1⟩ : ∃ w1, w1 = w.alloc (.cells #[.int .i64 t, .int .i64 g0, .int .i64 g1, .int .i64 nx, .slice fa free.length fc, .slice ea es.length ec] 60) := ⟨_, rfl⟩
  have HB1 : Hid (Below w.heap.size w w1) := by rw [hw1]; exact (Below.refl _ w).alloc (Nat.le_refl _) _
  have HS1 : Hid (w1.heap.size = w.heap.size + 1) := by rw [hw1]; show _ = _; simp [go_sem]
  have HW1 := hid hw1
  clear hw1
  go_enter Try.func40, Try.ntmps40
  go_wp2_with fail
  rw [← HW1.out]
  refine (checkState_calls t g0 g1 nx fa ea free.length fc es.length ec _).mono ?_
  rintro e w2 ⟨rfl, hb2⟩
  have HB2 := hid hb2
  clear hb2
  by_cases hst : stateE t g0 g1 nx free.length es.length = 0
  case neg =>
    have HE : Hid (checkE t g0 g1 nx free es = stateE t g0 g1 nx free.length es.length) := by show _ = _; unfold checkE; rw [if_neg hst]
    have HBw : Hid (Below w.heap.size w w2) := HB1.out.trans (HB2.out.mono (by rw [HS1.out]; omega))
    have HV := hid (errV_pos hst)
    rw [HV.out]
    clear hst
    go_wp2
    go_ret
    exact ⟨retE (c := _) HE.out.symm HV.out.symm, HBw.out⟩
  rw [hst, errV_0]
  have HST := hid hst
  obtain ⟨ht, hnx, hg0, hg1, hne, hnf⟩ := stateE_zero hst
  clear hst ht hg0 hg1
  obtain ⟨q0, q1, q2, q3, q4, q5⟩ := box_new HW1.out HB2.out
  go_wp2
  clear q0 q1 q2 q3 q4 q5
  go_loopw [16] (fun i wr => ∃ k : Nat, k ≤ es.length ∧ i = .int .i64 k ∧ Hid (∀ i, i < k → entE nx es i = 0) ∧ Hid (Below w1.heap.size w1 wr)) (fun i _ => es.length - (intOf i).toNat)
  case atStart => exact ⟨0, Nat.zero_le _, rfl, fun i hi => by omega, HB2⟩
  case round =>
    clear HB2
    obtain ⟨k, hk, rfl, HN, HB⟩ := hrel
    have HBw : Hid (Below w.heap.size w wr) := HB1.out.trans (HB.out.mono (by rw [HS1.out]; omega))
    obtain ⟨q0, q1, q2, q3, q4, q5⟩ := box_new HW1.out HB.out
    by_cases hlt : k < es.length
    · have hltz : (k : Int) < (es.length : Int) := by omega
      go_wp2_with fail
      refine (checkEnt_calls t g0 g1 nx _ es ea ec k _ hlt (by omega) hcap (HR.out.below HBw.out)).mono ?_
      rintro e w3 ⟨rfl, hb3⟩
      have HB3 : Hid (Below w1.heap.size w1 w3) := HB.out.trans (hb3.mono HB.out.size)
      clear hb3 q0 q1 q2 q3 q4 q5 HB HBw
      by_cases hz : entE nx es k = 0
      · have HN2 : Hid (∀ i, i < k + 1 → entE nx es i = 0) := fun i hi => by
          by_cases e : i = k
          · rw [e]; exact hz
          · exact HN.out i (by omega)
        rw [hz, errV_0]
        clear hz HN
        go_wp2
        go_roundw
        case rel => exact ⟨k + 1, by omega, by go_num, HN2, HB3⟩
        case measure => simp [intOf]; omega
      · have HE : Hid (checkE t g0 g1 nx free es = entE nx es k) := by
          show _ = _
          unfold checkE
          rw [if_pos HST.out, firstE_some hlt HN.out hz, if_neg hz]
        have HV := hid (errV_pos hz)
        have HBw : Hid (Below w.heap.size w w3) := HB1.out.trans (HB3.out.mono (by rw [HS1.out]; omega))
        rw [HV.out]
        clear hz HN
        go_wp2
        go_ret
        exact ⟨retE HE.out.symm HV.out.symm, HBw.out⟩
    · have hltz : ¬ (k : Int) < (es.length : Int) := by omega
      have HN2 : Hid (∀ i, i < es.length → entE nx es i = 0) := fun i hi => HN.out i (by omega)
      clear HN HBw
      go_wp2
      clear q0 q1 q2 q3 q4 q5
      go_loopw [29] (fun i wr => ∃ k : Nat, k ≤ es.length ∧ i = .int .i64 k ∧ Hid (∀ i, i < k → aimOkE es i) ∧ Hid (Below w1.heap.size w1 wr)) (fun i _ => es.length - (intOf i).toNat)
      case atStart => exact ⟨0, Nat.zero_le _, rfl, fun i hi => by omega, HB⟩
      case round =>
        clear HB
        obtain ⟨k, hk, rfl, HN, HB⟩ := hrel
        have HBw : Hid (Below w.heap.size w wr) := HB1.out.trans (HB.out.mono (by rw [HS1.out]; omega))
        obtain ⟨q0, q1, q2, q3, q4, q5⟩ := box_new HW1.out HB.out
        have hsz : w.heap.size < wr.heap.size := by have := HB.out.size; rw [HS1.out] at this; omega
        by_cases hlt : k < es.length
        · have hltz : (k : Int) < (es.length : Int) := by omega
          obtain ⟨b, o, rfl, hb, l0, l1, l2, l3, l4, l5, l6, l7, l8, l9⟩ := (HR.out.below HBw.out).ten hlt
          have HRw := hid (HR.out.below HBw.out)
          by_cases htg : 0 < fld (rec es k) 9
          · have HA : Hid (Calls Try.prog 82 #[.slice (some ⟨b, o, none⟩) es.length ec, entV (rec es k), .int .i64 (fld (rec es k) 6), .int .i64 (fld (rec es k) 9)] (wr.alloc (.cells (entC (rec es k)) 86)) fun e w' => e = .returned (.bool (aimE es (rec es k) (fld (rec es k) 6) (fld (rec es k) 9))) ∧ Below (wr.heap.size + 1) (wr.alloc (.cells (entC (rec es k)) 86)) w') := by
              have h := mayAim_calls es (some ⟨b, o, none⟩) ec (rec es k) (fld (rec es k) 6) (fld (rec es k) 9) (wr.alloc (.cells (entC (rec es k)) 86)) (by omega) (HRw.out.below ((Below.refl _ wr).alloc (Nat.le_refl _) _))
              have e1 : (wr.alloc (.cells (entC (rec es k)) 86)).heap.size = wr.heap.size + 1 := by simp [go_sem]
              rw [e1] at h
              exact h
            have HOK : Hid (aimE es (rec es k) (fld (rec es k) 6) (fld (rec es k) 9) = true → aimOkE es k) := fun h _ => h
            have HNO : Hid (aimE es (rec es k) (fld (rec es k) 6) (fld (rec es k) 9) = false → ¬ aimOkE es k) := fun h g => by
              have := g htg
              rw [h] at this
              exact absurd this (by simp)
            clear HRw
            generalize aimE es (rec es k) (fld (rec es k) 6) (fld (rec es k) 9) = ab at HA HOK HNO
            generalize rec es k = y at l0 l1 l2 l3 l4 l5 l6 l7 l8 l9 htg HA
            go_wp2_with fail
            refine HA.out.mono ?_
            clear HA
            rintro e w3 ⟨rfl, hb3⟩
            have HB3 : Hid (Below w1.heap.size w1 w3) := (HB.out.alloc HB.out.size _).trans (hb3.mono (by have := HB.out.size; omega))
            clear hb3 l0 l1 l2 l3 l4 l5 l6 l7 l8 l9 q0 q1 q2 q3 q4 q5 HB HBw
            cases ab with
            | true =>
              have HN2 : Hid (∀ i, i < k + 1 → aimOkE es i) := fun i hi => by
                by_cases e : i = k
                · rw [e]; exact HOK.out rfl
                · exact HN.out i (by omega)
              clear HOK HNO HN
              go_wp2
              go_roundw
              case rel => exact ⟨k + 1, by omega, by go_num, HN2, HB3⟩
              case measure => simp [intOf]; omega
            | false =>
              have HE : Hid (checkE t g0 g1 nx free es = 3) := by
                show _ = _
                unfold checkE
                rw [if_pos HST.out, firstE_none HN2.out, if_pos rfl, if_neg (fun h => HNO.out rfl (h k hlt))]
              have HBw : Hid (Below w.heap.size w w3) := HB1.out.trans (HB3.out.mono (by rw [HS1.out]; omega))
              clear HOK HNO HN
              go_wp2
              go_ret
              exact ⟨retE (c := 3) HE.out.symm rfl, HBw.out⟩
          · have HN3 : Hid (∀ i, i < k + 1 → aimOkE es i) := fun i hi => by
              by_cases e : i = k
              · rw [e]; exact fun h => absurd h htg
              · exact HN.out i (by omega)
            have HB3 : Hid (Below w1.heap.size w1 (wr.alloc (.cells (entC (rec es k)) 86))) := HB.out.alloc HB.out.size _
            clear HN HRw
            generalize rec es k = y at l0 l1 l2 l3 l4 l5 l6 l7 l8 l9 htg HB3
            go_wp2
            go_roundw
            case rel => exact ⟨k + 1, by omega, by go_num, HN3, HB3⟩
            case measure => simp [intOf]; omega
        · have hltz : ¬ (k : Int) < (es.length : Int) := by omega
          have HE : Hid (checkE t g0 g1 nx free es = freeE nx es free) := by
            show _ = _
            unfold checkE
            rw [if_pos HST.out, firstE_none HN2.out, if_pos rfl, if_pos (fun i hi => HN.out i (by omega))]
          have HC : Hid (Calls Try.prog 83 #[elderV t g0 g1 nx (.slice fa free.length fc) (.slice ea es.length ec)] wr fun e w' => e = .returned (errV (freeE nx es free)) ∧ Below wr.heap.size wr w') :=
            checkFree_calls t g0 g1 nx free fa ea fc ec es wr hnx hne hnf (HR.out.below HBw.out) (HF.out.below HBw.out) (fun i hi => by
              have h := (boundsE_true (entE_zero (HN2.out i hi)).1).2.1
              exact wf64 (by omega) (by omega)) HWF.out
          clear HN HN2 HB
          go_wp2_with fail
          refine HC.out.mono ?_
          rintro e w4 ⟨rfl, hb4⟩
          have HB4 : Hid (Below w.heap.size w w4) := HBw.out.trans (hb4.mono (by omega))
          clear hb4 HC
          go_wp2
          go_ret
          exact ⟨retE HE.out.symm rfl, HB4.out⟩
end Go.Proofs.Ytakmjfchhchngaa

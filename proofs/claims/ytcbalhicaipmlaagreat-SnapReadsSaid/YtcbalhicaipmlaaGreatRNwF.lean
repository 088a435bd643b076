/- Package newer of the program: Check. -/
import Derived.Test.YtcbalhicaipmlaaGreatRNwD
namespace Go.Proofs.YtcbalhicaipmlaaGreat
open Go.RowKit
def takenN (us : List (List Int)) (i : Nat) : Prop := 0 < (us.take i).countP (isAt (fld (rec us i) 3) (fld (rec us i) 4))
instance (us : List (List Int)) (i : Nat) : Decidable (takenN us i) := by unfold takenN; infer_instance
def oneN (t nx : Int) (us : List (List Int)) (i : Nat) : Nat := if unitAtN t nx us i = 0 then (if takenN us i then 3 else 0) else unitAtN t nx us i
def checkN (t g0 g1 nx : Int) (us : List (List Int)) : Nat :=
  if stateN t g0 g1 nx us.length = 0 then (if firstE us.length (oneN t nx us) = 0 then targetsN us else firstE us.length (oneN t nx us)) else stateN t g0 g1 nx us.length
def brdC (l : List Int) : Array Value := (l.map (Value.int .i64)).toArray
theorem brdC_zero : Tryz.zeroCells157 = brdC (List.replicate 144 0) := by kernel_rfl
def BrdB (w : World) (L : Nat) (l : List Int) : Prop := w.heap[L]? = some (.cells (brdC l) 157)
theorem brdC_at {l : List Int} {j : Nat} (hj : j < l.length) : (brdC l)[j]? = some (.int .i64 (fld l j)) := by
  unfold brdC
  simp [fld, List.getD_eq_getElem?_getD, hj]
theorem BrdB.cell {w : World} {L : Nat} {l : List Int} (h : BrdB w L l) {j : Nat} (hj : j < l.length) : w.cell? ⟨L, j, none⟩ = some (.int .i64 (fld l j)) := (cell_of_row w L j _ _ _ h).trans (brdC_at hj)
theorem BrdB.frozen {w : World} {L : Nat} {l : List Int} (h : BrdB w L l) (j : Nat) : w.frozen? ⟨L, j, none⟩ = false := frozen_of_row w L j _ _ h
theorem BrdB.below {w w' : World} {L : Nat} {l : List Int} (h : BrdB w L l) (hb : Below w.heap.size w w') : BrdB w' L l := (hb.block L (Array.getElem?_eq_some_iff.1 h).1).trans h
theorem BrdB.set {w : World} {L : Nat} {l : List Int} (h : BrdB w L l) (j : Nat) (x : Int) : BrdB (w.setCell ⟨L, j, none⟩ (.int .i64 x)) L (l.set j x) := by
  unfold BrdB brdC
  rw [List.map_set]
  have := heap_setCell_same w L j _ _ (.int .i64 x) h
  rw [this]
  unfold brdC
  simp
def Brd (us : List (List Int)) (k : Nat) (l : List Int) : Prop := l.length = 144 ∧ ∀ x y : Nat, x < 12 → y < 12 → fld l (y * 12 + x) = ((us.take k).countP (isAt x y) : Int)
theorem brd_zero (us : List (List Int)) : Brd us 0 (List.replicate 144 0) := by
  refine ⟨List.length_replicate, fun x y _ _ => ?_⟩
  unfold fld
  rw [List.getD_eq_getElem?_getD, List.getElem?_replicate]
  split <;> rfl
theorem brd_next {us : List (List Int)} {k : Nat} {l : List Int} (h : Brd us k l) (hk : k < us.length) {xn yn : Nat} (hx : xn < 12) (hy : yn < 12) (e3 : fld (rec us k) 3 = xn) (e4 : fld (rec us k) 4 = yn) : Brd us (k + 1) (l.set (yn * 12 + xn) (fld l (yn * 12 + xn) + 1)) := by
  refine ⟨by rw [List.length_set]; exact h.1, fun x y hx2 hy2 => ?_⟩
  have hlt : yn * 12 + xn < l.length := by rw [h.1]; omega
  have hf : fld (l.set (yn * 12 + xn) (fld l (yn * 12 + xn) + 1)) (y * 12 + x) = if y * 12 + x = yn * 12 + xn then fld l (yn * 12 + xn) + 1 else fld l (y * 12 + x) := by
    unfold fld
    rw [List.getD_eq_getElem?_getD, List.getD_eq_getElem?_getD, List.getElem?_set]
    by_cases e : yn * 12 + xn = y * 12 + x
    · rw [if_pos e, if_pos e.symm, if_pos hlt]
      rfl
    · rw [if_neg e, if_neg (fun h => e h.symm), List.getD_eq_getElem?_getD]
  have ht : us.take (k + 1) = us.take k ++ [rec us k] := by
    rw [List.take_add_one, rec_at hk]
    simp [hk]
  rw [hf, ht, List.countP_append]
  have hi : isAt (x : Int) (y : Int) (rec us k) = decide (y * 12 + x = yn * 12 + xn) := by
    unfold isAt
    rw [e3, e4, Bool.eq_iff_iff, Bool.and_eq_true, beq_iff_eq, beq_iff_eq, decide_eq_true_eq]
    omega
  by_cases e : y * 12 + x = yn * 12 + xn
  · have e1 : x = xn := by omega
    have e2 : y = yn := by omega
    subst e1 e2
    rw [if_pos rfl, h.2 x y hx2 hy2, List.countP_cons_of_pos (by rw [hi]; simp)]
    simp
  · rw [if_neg e, h.2 x y hx2 hy2, List.countP_cons_of_neg (by rw [hi]; simp [e])]
    simp
theorem unitAtN_zero {t nx : Int} {us : List (List Int)} {i : Nat} (h : unitAtN t nx us i = 0) : boundsN (rec us i) = true := by
  unfold unitAtN at h
  split at h
  next h1 => exact h1.1
  · omega
theorem boundsN_on {u : List Int} (h : boundsN u = true) : (0 ≤ fld u 3 ∧ fld u 3 < 12) ∧ 0 ≤ fld u 4 ∧ fld u 4 < 12 := by
  unfold boundsN at h
  rw [Bool.and_eq_true, Bool.and_eq_true, Bool.and_eq_true] at h
  exact Pl.onB_true h.2.2.1
set_option maxRecDepth 100000 in
set_option maxHeartbeats 8000000 in
theorem checkNewer_calls (t g0 g1 nx : Int) (us : List (List Int)) (ua : Option Addr) (uc : Nat) (w : World) (hrow : Recs w ua 11 us) :
    Calls Tryz.prog 47 #[newerV t g0 g1 nx (.slice ua us.length uc)] w fun e w' => e = .returned (errV (checkN t g0 g1 nx us)) ∧ Below w.heap.size w w' := by
  obtain ⟨W, hW⟩ : ∃ W, w.alloc (.cells (newerC t g0 g1 nx (.slice ua us.length uc)) 32) = W := ⟨_, rfl⟩
  have hbW : Below w.heap.size w W := by rw [← hW]; exact (Below.refl _ w).alloc (Nat.le_refl _) _
  have hh0 : W.heap[w.heap.size]? = some (.cells (newerC t g0 g1 nx (.slice ua us.length uc)) 32) := by rw [← hW]; exact heap_alloc_new w _
  have y0 : W.cell? ⟨w.heap.size, 0, none⟩ = some (.int .i64 t) := cell_of_row W _ 0 _ _ _ hh0
  have y1 : W.cell? ⟨w.heap.size, 1, none⟩ = some (.int .i64 g0) := cell_of_row W _ 1 _ _ _ hh0
  have y2 : W.cell? ⟨w.heap.size, 2, none⟩ = some (.int .i64 g1) := cell_of_row W _ 2 _ _ _ hh0
  have y3 : W.cell? ⟨w.heap.size, 3, none⟩ = some (.int .i64 nx) := cell_of_row W _ 3 _ _ _ hh0
  have y4 : W.cell? ⟨w.heap.size, 4, none⟩ = some (.slice ua us.length uc) := cell_of_row W _ 4 _ _ _ hh0
  have hsW : w.heap.size < W.heap.size := (Array.getElem?_eq_some_iff.1 hh0).1
  have HBW := hid hbW
  have H0 := hid hh0
  have HR := hid (hrow.below hbW)
  clear hrow hbW hh0
  obtain ⟨m, hm⟩ : ∃ m, stateN t g0 g1 nx us.length = m := ⟨_, rfl⟩
  have HC := hid (checkStateN_calls t g0 g1 nx ua us.length uc W)
  rw [hm] at HC
  by_cases hm0 : m = 0
  case neg =>
    have HE : Hid (checkN t g0 g1 nx us = m) := by show _ = _; unfold checkN; rw [if_neg (by rw [hm]; exact hm0), hm]
    have hev : errV m = .iface 86 (.int .i64 m) := by unfold errV; rw [if_neg hm0]
    have HEV := hid hev
    rw [hev] at HC
    clear hev hm0 hm
    go_enter Tryz.func47, Tryz.ntmps47
    go_wp2_with fail
    refine HC.out.mono ?_
    rintro e w1 ⟨rfl, hb1⟩
    have HB1 := hid hb1
    clear y0 y1 y2 y3 y4 hb1 hW HC
    go_wp2
    go_ret
    exact ⟨retE (c := m) HE.out.symm HEV.out.symm, HBW.out.trans (HB1.out.mono HBW.out.size)⟩
  case pos =>
    subst hm0
    have hel : us.length ≤ 20 := by
      unfold stateN at hm
      repeat' split at hm
      all_goals omega
    have HE : Hid (checkN t g0 g1 nx us = if firstE us.length (oneN t nx us) = 0 then targetsN us else firstE us.length (oneN t nx us)) := by show _ = _; unfold checkN; rw [if_pos hm]
    rw [errV_0] at HC
    clear hm
    go_enter Tryz.func47, Tryz.ntmps47
    go_wp2_with fail
    refine HC.out.mono ?_
    rintro e w1 ⟨rfl, hb1⟩
    have HB1 := hid hb1
    clear y0 y1 y2 y3 y4 hb1 hW HC
    obtain ⟨V, hV⟩ : ∃ V, w1.alloc (.cells Tryz.zeroCells157 157) = V := ⟨_, rfl⟩
    have hbV : Below w1.heap.size w1 V := by rw [← hV]; exact (Below.refl _ _).alloc (Nat.le_refl _) _
    have hhV : BrdB V w1.heap.size (List.replicate 144 0) := by
      unfold BrdB
      rw [← hV, ← brdC_zero]
      exact heap_alloc_new _ _
    have HWV : Hid (Below W.heap.size W V) := HB1.out.trans (hbV.mono HB1.out.size)
    have y4 : V.cell? ⟨w.heap.size, 4, none⟩ = some (.slice ua us.length uc) := cell_of_row V _ 4 _ _ _ ((HWV.out.block _ hsW).trans H0.out)
    have HBV := hid hhV
    have hsV : W.heap.size ≤ w1.heap.size := HB1.out.size
    have hsV1 : w1.heap.size < V.heap.size := (Array.getElem?_eq_some_iff.1 hhV).1
    clear hbV hhV HB1
    go_wp2_with fail
    clear y4
    go_loopw [16] (fun i wr => ∃ k : Nat, k ≤ us.length ∧ i = .int .i64 k ∧ Hid (∃ l, BrdB wr w1.heap.size l ∧ Brd us k l) ∧ Hid (Below W.heap.size W wr) ∧ Hid (∀ j, j < k → oneN t nx us j = 0)) (fun i _ => us.length - (intOf i).toNat)
    case atStart => exact ⟨0, Nat.zero_le _, rfl, ⟨_, HBV.out, brd_zero us⟩, HWV, fun j hj => absurd hj (Nat.not_lt_zero _)⟩
    case round =>
      obtain ⟨k, hk, rfl, HBD, HBr, HA⟩ := hrel
      clear HBV HWV hV
      by_cases hlt : k < us.length
      · have hltz : (k : Int) < (us.length : Int) := by omega
        obtain ⟨b, o, rfl, hc⟩ := (HR.out.below HBr.out).at hlt
        have l0 : wr.cell? ⟨b, o + k * 11, none⟩ = some (.int .i64 (fld (rec us k) 0)) := hc 0 (by omega)
        have l1 := hc 1 (by omega)
        have l2 := hc 2 (by omega)
        have l3 := hc 3 (by omega)
        have l4 := hc 4 (by omega)
        have l5 := hc 5 (by omega)
        have l6 := hc 6 (by omega)
        have l7 := hc 7 (by omega)
        have l8 := hc 8 (by omega)
        have l9 := hc 9 (by omega)
        have l10 := hc 10 (by omega)
        obtain ⟨u, hu⟩ : ∃ u, rec us k = u := ⟨_, rfl⟩
        have HU := hid hu
        rw [hu] at l0 l1 l2 l3 l4 l5 l6 l7 l8 l9 l10
        obtain ⟨X, hX⟩ : ∃ X, wr.alloc (.cells (unitC u) 121) = X := ⟨_, rfl⟩
        have hbX : Below wr.heap.size wr X := by rw [← hX]; exact (Below.refl _ _).alloc (Nat.le_refl _) _
        have hhX : X.heap[wr.heap.size]? = some (.cells (unitC u) 121) := by rw [← hX]; exact heap_alloc_new _ _
        have HWX : Hid (Below W.heap.size W X) := HBr.out.trans (hbX.mono HBr.out.size)
        have HDX : Hid (∃ l, BrdB X w1.heap.size l ∧ Brd us k l) := by obtain ⟨l, h1, h2⟩ := HBD.out; exact ⟨l, h1.below hbX, h2⟩
        have HHX := hid hhX
        have HXX := hid hX
        have hsX : wr.heap.size < X.heap.size := (Array.getElem?_eq_some_iff.1 hhX).1
        have hXw := (HWX.out.block w.heap.size hsW).trans H0.out
        have s0 : X.cell? ⟨w.heap.size, 0, none⟩ = some (.int .i64 t) := cell_of_row X _ 0 _ _ _ hXw
        have s1 : X.cell? ⟨w.heap.size, 1, none⟩ = some (.int .i64 g0) := cell_of_row X _ 1 _ _ _ hXw
        have s2 : X.cell? ⟨w.heap.size, 2, none⟩ = some (.int .i64 g1) := cell_of_row X _ 2 _ _ _ hXw
        have s3 : X.cell? ⟨w.heap.size, 3, none⟩ = some (.int .i64 nx) := cell_of_row X _ 3 _ _ _ hXw
        have s4 : X.cell? ⟨w.heap.size, 4, none⟩ = some (.slice (some ⟨b, o, none⟩) us.length uc) := cell_of_row X _ 4 _ _ _ hXw
        obtain ⟨c, hcu⟩ : ∃ c, unitAtN t nx us k = c := ⟨_, rfl⟩
        have HCU := hid (checkUnit_calls t g0 g1 nx us (some ⟨b, o, none⟩) uc k X hlt (by omega) (HR.out.below HWX.out))
        rw [hcu] at HCU
        clear hc hu hX hbX hhX hXw HBr HBD
        go_upto_region 8 with fail
        rw [HXX.out]
        clear l0 l1 l2 l3 l4 l5 l6 l7 l8 l9 l10
        by_cases hc0 : c = 0
        case neg =>
          have HV : Hid (checkN t g0 g1 nx us = c) := by
            show _ = _
            have h1 : oneN t nx us k = c := by unfold oneN; rw [hcu, if_neg hc0]
            have h2 := firstE_some (f := oneN t nx us) hlt (fun j hj => HA.out j hj) (by rw [h1]; exact hc0)
            rw [HE.out, h2, h1, if_neg hc0]
          have hev : errV c = .iface 86 (.int .i64 c) := by unfold errV; rw [if_neg hc0]
          have HEV := hid hev
          rw [hev] at HCU
          clear hev hc0 hcu
          go_wp2_with fail
          refine HCU.out.mono ?_
          rintro e w5 ⟨rfl, hb5⟩
          have HF : Hid (Below w.heap.size w w5) := HBW.out.trans ((HWX.out.trans (hb5.mono HWX.out.size)).mono HBW.out.size)
          clear s0 s1 s2 s3 s4 hb5 HCU
          go_wp2
          go_ret
          exact ⟨retE (c := c) HV.out.symm HEV.out.symm, HF.out⟩
        case pos =>
          subst hc0
          rw [errV_0] at HCU
          go_wp2_with fail
          refine HCU.out.mono ?_
          rintro e w5 ⟨rfl, hb5⟩
          have HW5 : Hid (Below W.heap.size W w5) := HWX.out.trans (hb5.mono HWX.out.size)
          obtain ⟨l, hl1, hl2⟩ := HDX.out
          have hbd := hl1.below hb5
          have hx5 := (hb5.block wr.heap.size hsX).trans HHX.out
          have hon := boundsN_on (unitAtN_zero hcu)
          rw [HU.out] at hon
          obtain ⟨xn, hxn⟩ : ∃ xn : Nat, fld u 3 = xn := ⟨(fld u 3).toNat, by omega⟩
          obtain ⟨yn, hyn⟩ : ∃ yn : Nat, fld u 4 = yn := ⟨(fld u 4).toNat, by omega⟩
          have hx12 : xn < 12 := by omega
          have hy12 : yn < 12 := by omega
          have hidx : yn * 12 + xn < l.length := by rw [hl2.1]; omega
          have x3 : w5.cell? ⟨wr.heap.size, 3, none⟩ = some (.int .i64 xn) := by rw [← hxn]; exact cell_of_row w5 _ 3 _ _ _ hx5
          have x4 : w5.cell? ⟨wr.heap.size, 4, none⟩ = some (.int .i64 yn) := by rw [← hyn]; exact cell_of_row w5 _ 4 _ _ _ hx5
          have xb := hbd.cell hidx
          have hxz : (xn : Int) < 12 := by omega
          have hyz : (yn : Int) < 12 := by omega
          have hcnt := hl2.2 xn yn hx12 hy12
          have HTK : Hid (takenN us k ↔ 0 < fld l (yn * 12 + xn)) := by
            show _ ↔ _
            unfold takenN
            rw [HU.out, hxn, hyn, hcnt]
            omega
          have HON : Hid (oneN t nx us k = if takenN us k then 3 else 0) := by show _ = _; unfold oneN; rw [hcu, if_pos rfl]
          have HBN := hid (brd_next hl2 hlt hx12 hy12 (by rw [HU.out]; exact hxn) (by rw [HU.out]; exact hyn))
          have hc0 : 0 ≤ fld l (yn * 12 + xn) := by rw [hcnt]; omega
          have HBD := hid hbd
          have HX5 := hid hx5
          clear s0 s1 s2 s3 s4 hb5 HCU hbd hx5 hon hcu HDX HHX HXX hl1 hl2 hcnt
          by_cases htk : 0 < fld l (yn * 12 + xn)
          · have HV : Hid (checkN t g0 g1 nx us = 3) := by
              show _ = _
              have h1 : oneN t nx us k = 3 := by rw [HON.out, if_pos (HTK.out.2 htk)]
              have h2 := firstE_some (f := oneN t nx us) hlt (fun j hj => HA.out j hj) (by rw [h1]; omega)
              rw [HE.out, h2, h1, if_neg (by omega)]
            have HF : Hid (Below w.heap.size w w5) := HBW.out.trans (HW5.out.mono HBW.out.size)
            go_wp2_with fail
            go_quiet (fail)
            go_wp2
            go_ret
            exact ⟨retE (c := 3) HV.out.symm rfl, below_drewN HF.out _⟩
          · have HA2 : Hid (∀ j, j < k + 1 → oneN t nx us j = 0) := fun j hj => by
              by_cases e : j = k
              · subst e; rw [HON.out, if_neg (fun h => htk (HTK.out.1 h))]
              · exact HA.out j (by omega)
            have hz : fld l (yn * 12 + xn) = 0 := by omega
            rw [hz] at xb HBN
            have htk' : ¬ (0 : Int) < 0 := by omega
            clear htk hc0 HTK HON HA
            go_wp2_with fail
            go_quiet (fail)
            obtain ⟨Z, hZ⟩ : ∃ Z, Z = w5.drewN nq := ⟨_, rfl⟩
            have hbZ : Below w5.heap.size w5 Z := by rw [hZ]; exact below_drewN (Below.refl _ _) nq
            rw [← hZ]
            have hdZ := HBD.out.below hbZ
            have hxZ := (hbZ.block wr.heap.size (Array.getElem?_eq_some_iff.1 HX5.out).1).trans HX5.out
            have z3 : Z.cell? ⟨wr.heap.size, 3, none⟩ = some (.int .i64 xn) := by rw [← hxn]; exact cell_of_row Z _ 3 _ _ _ hxZ
            have z4 : Z.cell? ⟨wr.heap.size, 4, none⟩ = some (.int .i64 yn) := by rw [← hyn]; exact cell_of_row Z _ 4 _ _ _ hxZ
            have zb : Z.cell? ⟨w1.heap.size, yn * 12 + xn, none⟩ = some (.int .i64 0) := by rw [hdZ.cell hidx, hz]
            have zf := hdZ.frozen (yn * 12 + xn)
            have HDZ := hid hdZ
            have HWZ : Hid (Below W.heap.size W Z) := HW5.out.trans (hbZ.mono HW5.out.size)
            clear hZ hbZ hdZ hxZ x3 x4 xb HBD HX5 HW5
            go_wp2_with fail
            go_region
            all_goals
              go_wp2
              go_roundw
              case rel =>
                refine ⟨k + 1, by omega, by go_num, ⟨l.set (yn * 12 + xn) 1, HDZ.out.set (yn * 12 + xn) 1, HBN.out⟩, ?_, HA2⟩
                exact (HWZ.out.setCell (p := ⟨w1.heap.size, yn * 12 + xn, none⟩) hsV _).drew
              case measure => simp [intOf]; omega
      · have hke : k = us.length := by omega
        subst hke
        have hltz : ¬ (us.length : Int) < (us.length : Int) := by omega
        have HV : Hid (checkN t g0 g1 nx us = targetsN us) := by show _ = _; rw [HE.out, if_pos (firstE_none (fun i hi => HA.out i hi))]
        have s4 : wr.cell? ⟨w.heap.size, 4, none⟩ = some (.slice ua us.length uc) := cell_of_row wr _ 4 _ _ _ ((HBr.out.block w.heap.size hsW).trans H0.out)
        have HT := hid (checkTargets_calls us ua uc wr (by omega) (HR.out.below HBr.out))
        go_wp2_with fail
        refine HT.out.mono ?_
        rintro e w5 ⟨rfl, hb5⟩
        have HF : Hid (Below w.heap.size w w5) := HBW.out.trans ((HBr.out.trans (hb5.mono HBr.out.size)).mono HBW.out.size)
        clear hb5
        go_wp2
        go_ret
        exact ⟨retE (c := targetsN us) HV.out.symm rfl, HF.out⟩
end Go.Proofs.YtcbalhicaipmlaaGreat

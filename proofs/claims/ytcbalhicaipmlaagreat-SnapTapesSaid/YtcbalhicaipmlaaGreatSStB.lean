/- SnapTapes: the walk, whole. -/
import Derived.Test.YtcbalhicaipmlaaGreatSStA
namespace Go.Proofs.YtcbalhicaipmlaaGreat
open Go.RowKit
set_option maxRecDepth 100000 in
set_option maxHeartbeats 16000000 in
theorem snapTapes_calls (s S : St) (ls Ls : List (List (List Int))) (fa ea ta ua va : Option Addr) (fc ec tc uc vc : Nat) (w : World) (h : InE w s fa ea fc ec) (ht : Tks w ta ls) (hw : ∀ x ∈ ls, ∀ u ∈ x, ∀ j, j < 7 → fld u j < 9223372036854775808) (hS : InW w S ua uc) (hT : TksN w va Ls) (hW2 : ∀ x ∈ Ls, ∀ u ∈ x, ∀ j, j < 6 → fld u j < 9223372036854775808) :
    Calls Tryz.prog 3 #[tapeV s.t s.g0 s.g1 s.nx (.slice fa s.free.length fc) (.slice ea s.es.length ec) (.slice ta ls.length tc), reelV S.t S.g0 S.g1 S.nx (.slice ua S.es.length uc) (.slice va Ls.length vc)] w fun e w' => e = .returned (.bool true) ∧ Below w.heap.size w w' := by
  obtain ⟨W, hW⟩ : ∃ W, (w.alloc (.cells (tapeC s.t s.g0 s.g1 s.nx (.slice fa s.free.length fc) (.slice ea s.es.length ec) (.slice ta ls.length tc)) 29)).alloc (.cells (reelC S.t S.g0 S.g1 S.nx (.slice ua S.es.length uc) (.slice va Ls.length vc)) 35) = W := ⟨_, rfl⟩
  have hbW : Below w.heap.size w W := by rw [← hW]; exact ((Below.refl _ w).alloc (Nat.le_refl _) _).alloc (by simp [go_sem]) _
  have hsW : W.heap.size = w.heap.size + 2 := by rw [← hW]; simp [go_sem]
  have hh0 : W.heap[w.heap.size]? = some (.cells (tapeC s.t s.g0 s.g1 s.nx (.slice fa s.free.length fc) (.slice ea s.es.length ec) (.slice ta ls.length tc)) 29) := by
    rw [← hW, heap_alloc_old _ _ (by simp [go_sem])]
    exact heap_alloc_new w _
  have hh1 : W.heap[w.heap.size + 1]? = some (.cells (reelC S.t S.g0 S.g1 S.nx (.slice ua S.es.length uc) (.slice va Ls.length vc)) 35) := by
    have e : w.heap.size + 1 = (w.alloc (.cells (tapeC s.t s.g0 s.g1 s.nx (.slice fa s.free.length fc) (.slice ea s.es.length ec) (.slice ta ls.length tc)) 29)).heap.size := by simp [go_sem]
    rw [← hW, e]
    exact heap_alloc_new _ _
  have H0 : Hid (∀ wx, Below W.heap.size W wx → wx.heap[w.heap.size]? = some (.cells (tapeC s.t s.g0 s.g1 s.nx (.slice fa s.free.length fc) (.slice ea s.es.length ec) (.slice ta ls.length tc)) 29)) := fun wx hx => (hx.block _ (by omega)).trans hh0
  have H1 : Hid (∀ wx, Below W.heap.size W wx → wx.heap[w.heap.size + 1]? = some (.cells (reelC S.t S.g0 S.g1 S.nx (.slice ua S.es.length uc) (.slice va Ls.length vc)) 35)) := fun wx hx => (hx.block _ (by omega)).trans hh1
  have HFW : Hid (∀ wx, Below W.heap.size W wx → Below w.heap.size w wx) := fun wx hx => hbW.trans (hx.mono (by omega))
  have HIN := hid (h.below hbW)
  have HTK := hid (ht.below hbW)
  have HIS := hid (hS.below hbW)
  have HTN := hid (hT.below hbW)
  have HW1 := hid hw
  have HW2 := hid hW2
  have HLK := hid (saves_calls W)
  clear h ht hw hS hT hW2 hbW hsW hh0 hh1
  go_enter Tryz.func3, Tryz.ntmps3
  go_wp2_with fail
  refine HLK.out.mono ?_
  rintro e w1 ⟨rfl, hb1⟩
  have HB1 := hid hb1
  clear hb1 hW HLK
  obtain ⟨x0, x1, x2, x3, x4, x5, x6⟩ := tape_cells (H0.out w1 HB1.out)
  have HL1 := hid (lightTape_calls s fa ea ta fc ec tc ls w1 (HTK.out.below HB1.out))
  go_wp2_with fail
  refine HL1.out.mono ?_
  rintro e w2 ⟨b, rfl, hbb, hb2⟩
  have HB2 : Hid (Below W.heap.size W w2) := HB1.out.trans (hb2.mono HB1.out.size)
  have HF2 := hid (HFW.out _ HB2.out)
  clear hb2 HB1 HL1 x0 x1 x2 x3 x4 x5 x6
  cases b with
  | false =>
    clear hbb
    go_wp2
    go_ret
    exact ⟨rfl, HF2.out⟩
  | true =>
  obtain ⟨h70, h25, h220⟩ := hbb rfl
  clear hbb HF2
  obtain ⟨y0, y1, y2, y3, y4, y5⟩ := reel_cellsS (H1.out w2 HB2.out)
  have HL2 := hid (lightReel_calls S ua va uc vc Ls w2 (HTN.out.below HB2.out))
  go_wp2_with fail
  refine HL2.out.mono ?_
  rintro e w3 ⟨b, rfl, hbb, hb3⟩
  have HB3 : Hid (Below W.heap.size W w3) := HB2.out.trans (hb3.mono HB2.out.size)
  have HF3 := hid (HFW.out _ HB3.out)
  clear hb3 HB2 HL2 y0 y1 y2 y3 y4 y5
  cases b with
  | false =>
    clear hbb
    go_wp2
    go_ret
    exact ⟨rfl, HF3.out⟩
  | true =>
  obtain ⟨h70', h25'⟩ := hbb rfl
  clear hbb HF3
  have HA := hid (tapeA_of HIN.out HTK.out (tc := tc) h70 h25 h220 HW1.out)
  have HR := hid (reelA_of HIS.out HTN.out (tc := vc) h70' h25' HW2.out)
  generalize ckTape s ls = c at HA
  generalize byT s ls = B at HA
  generalize ckReel S Ls = d at HR
  generalize byR S Ls = C at HR
  clear HIN HTK HIS HTN HW1 HW2 h70 h25 h220 h70' h25'
  obtain ⟨x0, x1, x2, x3, x4, x5, x6⟩ := tape_cells (H0.out w3 HB3.out)
  have HC1 := hid (HA.out.by' w3 HB3.out)
  go_wp2_with fail
  refine HC1.out.mono ?_
  rintro e w4 ⟨rfl, hb4⟩
  have HB4 : Hid (Below W.heap.size W w4) := HB3.out.trans (hb4.mono HB3.out.size)
  clear hb4 HB3 HC1 x0 x1 x2 x3 x4 x5 x6
  obtain ⟨x0, x1, x2, x3, x4, x5, x6⟩ := tape_cells (H0.out w4 HB4.out)
  have HC2 := hid (HA.out.ft w4 HB4.out)
  go_wp2_with fail
  refine HC2.out.mono ?_
  rintro e w5 ⟨rfl, hb5⟩
  have HB5 : Hid (Below W.heap.size W w5) := HB4.out.trans (hb5.mono HB4.out.size)
  clear hb5 HB4 HC2 x0 x1 x2 x3 x4 x5 x6
  obtain ⟨x0, x1, x2, x3, x4, x5, x6⟩ := tape_cells (H0.out w5 HB5.out)
  have HC3 := hid (HA.out.ck w5 HB5.out)
  go_wp2_with fail
  refine HC3.out.mono ?_
  rintro e w6 ⟨rfl, hb6⟩
  have HB6 : Hid (Below W.heap.size W w6) := HB5.out.trans (hb6.mono HB5.out.size)
  have HSM := hid (same_true c HA.out.le w6)
  clear hb6 HB5 HC3 x0 x1 x2 x3 x4 x5 x6
  go_wp2_with fail
  refine HSM.out.mono ?_
  rintro e q1 ⟨rfl, hq⟩
  rw [hq]
  clear hq q1
  go_wp2_with fail
  refine HSM.out.mono ?_
  rintro e q1 ⟨rfl, hq⟩
  rw [hq]
  clear hq q1 HSM
  by_cases h0 : c = 0
  case neg =>
    have hB0 : B = [] := HA.out.no h0
    subst hB0
    have hq1 : 0 < c := by omega
    have hq2 : (0 : Int) < (c : Int) := by omega
    have hq0 : ((c : Int) == 0) = false := by rw [beq_eq_false_iff_ne]; omega
    clear h0 HA
    have HBY := HB6
    clear HB6
    obtain ⟨y0, y1, y2, y3, y4, y5⟩ := reel_cellsS (H1.out w6 HBY.out)
    have HC1 := hid (HR.out.by' w6 HBY.out)
    go_wp2_with fail
    refine HC1.out.mono ?_
    rintro e n1 ⟨rfl, hb1⟩
    have HN1 : Hid (Below W.heap.size W n1) := HBY.out.trans (hb1.mono HBY.out.size)
    clear hb1 HBY HC1 y0 y1 y2 y3 y4 y5
    obtain ⟨y0, y1, y2, y3, y4, y5⟩ := reel_cellsS (H1.out n1 HN1.out)
    have HC2 := hid (HR.out.ft n1 HN1.out)
    go_wp2_with fail
    refine HC2.out.mono ?_
    rintro e n2 ⟨rfl, hb2⟩
    have HN2 : Hid (Below W.heap.size W n2) := HN1.out.trans (hb2.mono HN1.out.size)
    clear hb2 HN1 HC2 y0 y1 y2 y3 y4 y5
    obtain ⟨y0, y1, y2, y3, y4, y5⟩ := reel_cellsS (H1.out n2 HN2.out)
    have HC3 := hid (HR.out.ck n2 HN2.out)
    go_wp2_with fail
    refine HC3.out.mono ?_
    rintro e n3 ⟨rfl, hb3⟩
    have HN3 : Hid (Below W.heap.size W n3) := HN2.out.trans (hb3.mono HN2.out.size)
    have HSM := hid (same_true d HR.out.le n3)
    clear hb3 HN2 HC3 y0 y1 y2 y3 y4 y5
    go_wp2_with fail
    refine HSM.out.mono ?_
    rintro e q1 ⟨rfl, hq⟩
    rw [hq]
    clear hq q1
    go_wp2_with fail
    refine HSM.out.mono ?_
    rintro e q1 ⟨rfl, hq⟩
    rw [hq]
    clear hq q1 HSM
    by_cases h1 : d = 0
    case neg =>
      have hC0 : C = [] := HR.out.no h1
      subst hC0
      have hr1 : 0 < d := by omega
      have hr2 : (0 : Int) < (d : Int) := by omega
      obtain ⟨y0, y1, y2, y3, y4, y5⟩ := reel_cellsS (H1.out n3 HN3.out)
      have HC4 := hid (HR.out.ck n3 HN3.out)
      clear h1
      go_wp2_with fail
      refine HC4.out.mono ?_
      rintro e n4 ⟨rfl, hb4⟩
      have HN4 : Hid (Below W.heap.size W n4) := HN3.out.trans (hb4.mono HN3.out.size)
      have HSM := hid (same_true d HR.out.le n4)
      have HF4 := hid (HFW.out _ HN4.out)
      clear hb4 HN3 HC4 y0 y1 y2 y3 y4 y5
      go_wp2_with fail
      refine HSM.out.mono ?_
      rintro e q1 ⟨rfl, hq⟩
      rw [hq]
      clear hq q1
      go_wp2_with fail
      refine HSM.out.mono ?_
      rintro e q1 ⟨rfl, hq⟩
      rw [hq]
      clear hq q1 HSM
      go_wp2
      go_ret
      exact ⟨rfl, HF4.out⟩
    have HOF := hid (HR.out.of h1 n3)
    have HTX := hid (HR.out.tx h1)
    have HFR := hid (HR.out.fr h1)
    have HST := hid (HR.out.sm h1)
    have hr0 : ((d : Int) == 0) = true := by rw [h1]; rfl
    have hr1 : decide (0 < d) = false := by rw [h1]; rfl
    have hr2 : ¬ (0 : Int) < (d : Int) := by omega
    clear h1 HR
    go_wp2_with fail
    refine HOF.out.mono ?_
    rintro e n4 ⟨ex, tx, ecx, tcx, rfl, hrx, hkx, hb4⟩
    obtain ⟨X, hX⟩ : ∃ X, n4.alloc (.cells (reelC S.t S.g0 S.g1 S.nx (.slice ex S.es.length ecx) (.slice tx Ls.length tcx)) 35) = X := ⟨_, rfl⟩
    have hbX : Below n4.heap.size n4 X := by rw [← hX]; exact (Below.refl _ _).alloc (Nat.le_refl _) _
    have hhX : X.heap[n4.heap.size]? = some (.cells (reelC S.t S.g0 S.g1 S.nx (.slice ex S.es.length ecx) (.slice tx Ls.length tcx)) 35) := by rw [← hX]; exact heap_alloc_new _ _
    have HN4 : Hid (Below W.heap.size W n4) := HN3.out.trans (hb4.mono HN3.out.size)
    have HWX : Hid (Below W.heap.size W X) := HN4.out.trans (hbX.mono HN4.out.size)
    have HRX := hid (hrx.below hbX)
    have HKX := hid (hkx.below hbX)
    have HHX : Hid (∀ wx, Below X.heap.size X wx → wx.heap[n4.heap.size]? = some (.cells (reelC S.t S.g0 S.g1 S.nx (.slice ex S.es.length ecx) (.slice tx Ls.length tcx)) 35)) := fun wx hx => (hx.block _ (Array.getElem?_eq_some_iff.1 hhX).1).trans hhX
    have HXX := hid hX
    obtain ⟨y0, y1, y2, y3, y4, y5⟩ := reel_cellsS (H1.out X HWX.out)
    have HC5 := hid (HTX.out X HWX.out)
    clear hrx hkx hb4 hbX hhX hX HOF HN4 HN3
    go_upto_region 17 with fail
    rw [HXX.out]
    clear HXX
    go_wp2_with fail
    refine HC5.out.mono ?_
    rintro e n5 ⟨rfl, hb5⟩
    have HX5 := hid hb5
    clear hb5 HC5 y0 y1 y2 y3 y4 y5
    have HC6 := hid (HFR.out n5)
    go_wp2_with fail
    refine HC6.out.mono ?_
    rintro e n6 ⟨rfl, hb6⟩
    have HX6 : Hid (Below X.heap.size X n6) := HX5.out.trans (hb6.mono HX5.out.size)
    have HN6 : Hid (Below W.heap.size W n6) := HWX.out.trans (HX6.out.mono HWX.out.size)
    have HSM : Hid (Calls Tryz.prog 10 #[.nilIface, .int .i64 0] n6 fun e w' => e = .returned (.bool true) ∧ w' = n6) := same_true 0 (by omega) n6
    clear hb6 HC6 HX5
    go_wp2_with fail
    refine HSM.out.mono ?_
    rintro e q1 ⟨rfl, hq⟩
    rw [hq]
    clear hq q1 HSM
    obtain ⟨y0, y1, y2, y3, y4, y5⟩ := reel_cellsS (H1.out n6 HN6.out)
    obtain ⟨z0, z1, z2, z3, z4, z5⟩ := reel_cellsS (HHX.out n6 HX6.out)
    have HC7 := hid (HST.out n6 ex tx ecx tcx HN6.out (HRX.out.below HX6.out) (HKX.out.below HX6.out))
    go_wp2_with fail
    refine HC7.out.mono ?_
    rintro e n7 ⟨rfl, hb7⟩
    have HF7 : Hid (Below w.heap.size w n7) := HFW.out _ (HN6.out.trans (hb7.mono HN6.out.size))
    clear hb7 HC7
    go_wp2
    go_ret
    exact ⟨rfl, HF7.out⟩
  have HOF := hid (HA.out.of h0 w6)
  have HTX := hid (HA.out.tx h0)
  have HFR := hid (HA.out.fr h0)
  have HST := hid (HA.out.sm h0)
  have hq0 : ((c : Int) == 0) = true := by rw [h0]; rfl
  have hq1 : decide (0 < c) = false := by rw [h0]; rfl
  have hq2 : ¬ (0 : Int) < (c : Int) := by omega
  clear h0 HA
  go_wp2_with fail
  refine HOF.out.mono ?_
  rintro e w7 ⟨fx, ex, tx, fcx, ecx, tcx, rfl, hnx, hrx, hkx, hb7⟩
  obtain ⟨X, hX⟩ : ∃ X, w7.alloc (.cells (tapeC s.t s.g0 s.g1 s.nx (.slice fx s.free.length fcx) (.slice ex s.es.length ecx) (.slice tx ls.length tcx)) 29) = X := ⟨_, rfl⟩
  have hbX : Below w7.heap.size w7 X := by rw [← hX]; exact (Below.refl _ _).alloc (Nat.le_refl _) _
  have hhX : X.heap[w7.heap.size]? = some (.cells (tapeC s.t s.g0 s.g1 s.nx (.slice fx s.free.length fcx) (.slice ex s.es.length ecx) (.slice tx ls.length tcx)) 29) := by rw [← hX]; exact heap_alloc_new _ _
  have HB7 : Hid (Below W.heap.size W w7) := HB6.out.trans (hb7.mono HB6.out.size)
  have HWX : Hid (Below W.heap.size W X) := HB7.out.trans (hbX.mono HB7.out.size)
  have HNX := hid (hnx.below hbX)
  have HRX := hid (hrx.below hbX)
  have HKX := hid (hkx.below hbX)
  have HHX : Hid (∀ wx, Below X.heap.size X wx → wx.heap[w7.heap.size]? = some (.cells (tapeC s.t s.g0 s.g1 s.nx (.slice fx s.free.length fcx) (.slice ex s.es.length ecx) (.slice tx ls.length tcx)) 29)) := fun wx hx => (hx.block _ (Array.getElem?_eq_some_iff.1 hhX).1).trans hhX
  have HXX := hid hX
  obtain ⟨x0, x1, x2, x3, x4, x5, x6⟩ := tape_cells (H0.out X HWX.out)
  have HC5 := hid (HTX.out X HWX.out)
  clear hnx hrx hkx hb7 hbX hhX hX HOF HB7 HB6
  go_upto_region 10 with fail
  rw [HXX.out]
  clear HXX
  go_wp2_with fail
  refine HC5.out.mono ?_
  rintro e w8 ⟨rfl, hb8⟩
  have HX8 := hid hb8
  clear hb8 HC5 x0 x1 x2 x3 x4 x5 x6
  have HC6 := hid (HFR.out w8)
  go_wp2_with fail
  refine HC6.out.mono ?_
  rintro e w9 ⟨rfl, hb9⟩
  have HX9 : Hid (Below X.heap.size X w9) := HX8.out.trans (hb9.mono HX8.out.size)
  have HB9 : Hid (Below W.heap.size W w9) := HWX.out.trans (HX9.out.mono HWX.out.size)
  have HSM : Hid (Calls Tryz.prog 10 #[.nilIface, .int .i64 0] w9 fun e w' => e = .returned (.bool true) ∧ w' = w9) := same_true 0 (by omega) w9
  clear hb9 HC6 HX8
  go_wp2_with fail
  refine HSM.out.mono ?_
  rintro e q1 ⟨rfl, hq⟩
  rw [hq]
  clear hq q1 HSM
  obtain ⟨x0, x1, x2, x3, x4, x5, x6⟩ := tape_cells (H0.out w9 HB9.out)
  obtain ⟨z0, z1, z2, z3, z4, z5, z6⟩ := tape_cells (HHX.out w9 HX9.out)
  have HC7 := hid (HST.out w9 fx ex tx fcx ecx tcx HB9.out (HNX.out.below HX9.out) (HRX.out.below HX9.out) (HKX.out.below HX9.out))
  go_wp2_with fail
  refine HC7.out.mono ?_
  rintro e wA ⟨rfl, hbA⟩
  have HBY : Hid (Below W.heap.size W wA) := HB9.out.trans (hbA.mono HB9.out.size)
  clear hbA HC7 HB9 HX9 HWX HNX HRX HKX HHX HTX HFR HST x0 x1 x2 x3 x4 x5 x6 z0 z1 z2 z3 z4 z5 z6
  obtain ⟨y0, y1, y2, y3, y4, y5⟩ := reel_cellsS (H1.out wA HBY.out)
  have HC1 := hid (HR.out.by' wA HBY.out)
  go_wp2_with fail
  refine HC1.out.mono ?_
  rintro e n1 ⟨rfl, hb1⟩
  have HN1 : Hid (Below W.heap.size W n1) := HBY.out.trans (hb1.mono HBY.out.size)
  clear hb1 HBY HC1 y0 y1 y2 y3 y4 y5
  obtain ⟨y0, y1, y2, y3, y4, y5⟩ := reel_cellsS (H1.out n1 HN1.out)
  have HC2 := hid (HR.out.ft n1 HN1.out)
  go_wp2_with fail
  refine HC2.out.mono ?_
  rintro e n2 ⟨rfl, hb2⟩
  have HN2 : Hid (Below W.heap.size W n2) := HN1.out.trans (hb2.mono HN1.out.size)
  clear hb2 HN1 HC2 y0 y1 y2 y3 y4 y5
  obtain ⟨y0, y1, y2, y3, y4, y5⟩ := reel_cellsS (H1.out n2 HN2.out)
  have HC3 := hid (HR.out.ck n2 HN2.out)
  go_wp2_with fail
  refine HC3.out.mono ?_
  rintro e n3 ⟨rfl, hb3⟩
  have HN3 : Hid (Below W.heap.size W n3) := HN2.out.trans (hb3.mono HN2.out.size)
  have HSM := hid (same_true d HR.out.le n3)
  clear hb3 HN2 HC3 y0 y1 y2 y3 y4 y5
  go_wp2_with fail
  refine HSM.out.mono ?_
  rintro e q1 ⟨rfl, hq⟩
  rw [hq]
  clear hq q1
  go_wp2_with fail
  refine HSM.out.mono ?_
  rintro e q1 ⟨rfl, hq⟩
  rw [hq]
  clear hq q1 HSM
  by_cases h1 : d = 0
  case neg =>
    have hC0 : C = [] := HR.out.no h1
    subst hC0
    have hr1 : 0 < d := by omega
    have hr2 : (0 : Int) < (d : Int) := by omega
    obtain ⟨y0, y1, y2, y3, y4, y5⟩ := reel_cellsS (H1.out n3 HN3.out)
    have HC4 := hid (HR.out.ck n3 HN3.out)
    clear h1
    go_wp2_with fail
    refine HC4.out.mono ?_
    rintro e n4 ⟨rfl, hb4⟩
    have HN4 : Hid (Below W.heap.size W n4) := HN3.out.trans (hb4.mono HN3.out.size)
    have HSM := hid (same_true d HR.out.le n4)
    have HF4 := hid (HFW.out _ HN4.out)
    clear hb4 HN3 HC4 y0 y1 y2 y3 y4 y5
    go_wp2_with fail
    refine HSM.out.mono ?_
    rintro e q1 ⟨rfl, hq⟩
    rw [hq]
    clear hq q1
    go_wp2_with fail
    refine HSM.out.mono ?_
    rintro e q1 ⟨rfl, hq⟩
    rw [hq]
    clear hq q1 HSM
    go_wp2
    go_ret
    exact ⟨rfl, HF4.out⟩
  have HOF := hid (HR.out.of h1 n3)
  have HTX := hid (HR.out.tx h1)
  have HFR := hid (HR.out.fr h1)
  have HST := hid (HR.out.sm h1)
  have hr0 : ((d : Int) == 0) = true := by rw [h1]; rfl
  have hr1 : decide (0 < d) = false := by rw [h1]; rfl
  have hr2 : ¬ (0 : Int) < (d : Int) := by omega
  clear h1 HR
  go_wp2_with fail
  refine HOF.out.mono ?_
  rintro e n4 ⟨ex, tx, ecx, tcx, rfl, hrx, hkx, hb4⟩
  obtain ⟨X, hX⟩ : ∃ X, n4.alloc (.cells (reelC S.t S.g0 S.g1 S.nx (.slice ex S.es.length ecx) (.slice tx Ls.length tcx)) 35) = X := ⟨_, rfl⟩
  have hbX : Below n4.heap.size n4 X := by rw [← hX]; exact (Below.refl _ _).alloc (Nat.le_refl _) _
  have hhX : X.heap[n4.heap.size]? = some (.cells (reelC S.t S.g0 S.g1 S.nx (.slice ex S.es.length ecx) (.slice tx Ls.length tcx)) 35) := by rw [← hX]; exact heap_alloc_new _ _
  have HN4 : Hid (Below W.heap.size W n4) := HN3.out.trans (hb4.mono HN3.out.size)
  have HWX : Hid (Below W.heap.size W X) := HN4.out.trans (hbX.mono HN4.out.size)
  have HRX := hid (hrx.below hbX)
  have HKX := hid (hkx.below hbX)
  have HHX : Hid (∀ wx, Below X.heap.size X wx → wx.heap[n4.heap.size]? = some (.cells (reelC S.t S.g0 S.g1 S.nx (.slice ex S.es.length ecx) (.slice tx Ls.length tcx)) 35)) := fun wx hx => (hx.block _ (Array.getElem?_eq_some_iff.1 hhX).1).trans hhX
  have HXX := hid hX
  obtain ⟨y0, y1, y2, y3, y4, y5⟩ := reel_cellsS (H1.out X HWX.out)
  have HC5 := hid (HTX.out X HWX.out)
  clear hrx hkx hb4 hbX hhX hX HOF HN4 HN3
  go_upto_region 17 with fail
  rw [HXX.out]
  clear HXX
  go_wp2_with fail
  refine HC5.out.mono ?_
  rintro e n5 ⟨rfl, hb5⟩
  have HX5 := hid hb5
  clear hb5 HC5 y0 y1 y2 y3 y4 y5
  have HC6 := hid (HFR.out n5)
  go_wp2_with fail
  refine HC6.out.mono ?_
  rintro e n6 ⟨rfl, hb6⟩
  have HX6 : Hid (Below X.heap.size X n6) := HX5.out.trans (hb6.mono HX5.out.size)
  have HN6 : Hid (Below W.heap.size W n6) := HWX.out.trans (HX6.out.mono HWX.out.size)
  have HSM : Hid (Calls Tryz.prog 10 #[.nilIface, .int .i64 0] n6 fun e w' => e = .returned (.bool true) ∧ w' = n6) := same_true 0 (by omega) n6
  clear hb6 HC6 HX5
  go_wp2_with fail
  refine HSM.out.mono ?_
  rintro e q1 ⟨rfl, hq⟩
  rw [hq]
  clear hq q1 HSM
  obtain ⟨y0, y1, y2, y3, y4, y5⟩ := reel_cellsS (H1.out n6 HN6.out)
  obtain ⟨z0, z1, z2, z3, z4, z5⟩ := reel_cellsS (HHX.out n6 HX6.out)
  have HC7 := hid (HST.out n6 ex tx ecx tcx HN6.out (HRX.out.below HX6.out) (HKX.out.below HX6.out))
  go_wp2_with fail
  refine HC7.out.mono ?_
  rintro e n7 ⟨rfl, hb7⟩
  have HF7 : Hid (Below w.heap.size w n7) := HFW.out _ (HN6.out.trans (hb7.mono HN6.out.size))
  clear hb7 HC7
  go_wp2
  go_ret
  exact ⟨rfl, HF7.out⟩
end Go.Proofs.YtcbalhicaipmlaaGreat

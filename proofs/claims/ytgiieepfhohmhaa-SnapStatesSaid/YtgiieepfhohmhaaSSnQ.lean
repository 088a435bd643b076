/- SnapStates: the walk. -/
import Derived.Deep.DeepCutAuto
import Derived.Test.YtgiieepfhohmhaaSRgU
import Derived.Test.YtgiieepfhohmhaaSNwO
import Derived.Test.YtgiieepfhohmhaaSRefQ
import Derived.Test.YtgiieepfhohmhaaSEsBA
import Derived.Test.YtgiieepfhohmhaaSEsRA
import Derived.Test.YtgiieepfhohmhaaSSnB
import Derived.Test.YtgiieepfhohmhaaSWire6
import Derived.Test.YtgiieepfhohmhaaSSnO
import Derived.Test.YtgiieepfhohmhaaSEsNC
import Derived.Test.YtgiieepfhohmhaaSNrA
namespace Go.Proofs.Ytgiieepfhohmhaa
open Go.RowKit Go.Maps
def svS : St := ⟨0, 0, 0, 1, [], [], []⟩
def svB : List UInt8 := frameL 69 (numsL (elderN svS))
theorem sv_c : checkE 0 0 0 1 [] [] = 0 := by decide +kernel
theorem sv_inv : Inv svS := inv_of_check (s := svS) sv_c
theorem sv_by : byE svS = svB := if_pos sv_c
theorem sv_rd : rdE svB = (0, svS) := rdE_by sv_inv rfl
theorem sv_len : 8 < svB.length := by
  unfold svB
  rw [frameL_length]
  have : numsL (elderN svS) ≠ [] := numsL_ne _ _
  have h : 0 < (numsL (elderN svS)).length := List.length_pos_iff.2 this
  omega
theorem svB_le : svB.length ≤ 10000 := by
  unfold svB
  rw [frameL_length]
  have h1 := numsL_length (elderN svS)
  have h2 := elderN_length (smlE sv_inv rfl)
  omega
set_option maxRecDepth 100000 in
set_option maxHeartbeats 8000000 in
theorem saves_calls (w : World) : Calls Try.prog 68 #[] w fun e w' => e = .returned (.bool true) ∧ Below w.heap.size w w' := by
  have HB : Hid (Calls Try.prog 69 #[.agg #[.int .i64 0, .int .i64 0, .int .i64 0, .int .i64 1, .slice none 0 0, .slice none 0 0]] w fun e w' => e = .returned (.tuple #[.string ⟨svB.toArray⟩, .nilIface]) ∧ Below w.heap.size w w') := by
    have h := bytesE_calls svS none none 0 0 w ⟨fun _ => rfl, fun _ => rfl, Nat.le_refl _, Or.inl rfl, Or.inl rfl, fun _ hi => absurd hi (Nat.not_lt_zero _), rfl⟩
    rw [sv_by, show checkE svS.t svS.g0 svS.g1 svS.nx svS.free svS.es = 0 from sv_c] at h
    exact h
  have HOF : Hid (∀ wx, Calls Try.prog 70 #[.string ⟨svB.toArray⟩] wx fun e w' => ∃ fa ea fc ec, e = .returned (.tuple #[elderV 0 0 0 1 (.slice fa 0 fc) (.slice ea 0 ec), .nilIface]) ∧ Below wx.heap.size wx w') := fun wx => by
    refine (elderOf_calls svB svB_le wx).mono ?_
    rintro e w' ⟨fa, ea, fc, ec, he, _, hb⟩
    rw [sv_rd] at he
    exact ⟨fa, ea, fc, ec, he, hb⟩
  have hl : 8 < svB.length := sv_len
  have hlz : (8 : Int) < (svB.length : Int) := by omega
  generalize svB = B at HB HOF hl hlz
  go_enter Try.func68, Try.ntmps68
  go_wp2_with fail
  refine HB.out.mono ?_
  rintro e w2 ⟨rfl, hb2⟩
  have HB2 := hid hb2
  clear hb2 HB
  go_wp2_with fail
  refine (HOF.out w2).mono ?_
  rintro e w3 ⟨fa, ea, fc, ec, rfl, hb3⟩
  obtain ⟨V, hV⟩ : ∃ V, w3.alloc (.cells (elC 0 0 0 1 (.slice fa 0 fc) (.slice ea 0 ec)) 60) = V := ⟨_, rfl⟩
  have hbV : Below w3.heap.size w3 V := by rw [← hV]; exact (Below.refl _ _).alloc (Nat.le_refl _) _
  have hhV : V.heap[w3.heap.size]? = some (.cells (elC 0 0 0 1 (.slice fa 0 fc) (.slice ea 0 ec)) 60) := by rw [← hV]; exact heap_alloc_new _ _
  obtain ⟨x0, x1, x2, x3, x4, x5⟩ := elder_cells hhV
  have HBV : Hid (Below w.heap.size w V) := (HB2.out.trans (hb3.mono HB2.out.size)).trans (hbV.mono (Nat.le_trans HB2.out.size hb3.size))
  have HSM : Hid (Calls Try.prog 15 #[.nilIface, .int .i64 0] V fun e w' => e = .returned (.bool true) ∧ w' = V) := same_true 0 (by omega) V
  clear hb3 hbV hhV HOF
  go_wp2_with fail
  refine HSM.out.mono ?_
  rintro e w4 ⟨rfl, hw4⟩
  rw [hw4]
  clear hw4 w4
  go_wp2_with fail
  refine HSM.out.mono ?_
  rintro e w4 ⟨rfl, hw4⟩
  rw [hw4]
  clear hw4 w4
  go_wp2
  go_ret
  exact ⟨rfl, HBV.out⟩
set_option maxRecDepth 100000 in
set_option maxHeartbeats 16000000 in
theorem snapStates_calls (s S : St) (fa ea ua : Option Addr) (fc ec uc : Nat) (w : World) (h : InE w s fa ea fc ec) (hS : InW w S ua uc) :
    Calls Try.prog 12 #[elderV s.t s.g0 s.g1 s.nx (.slice fa s.free.length fc) (.slice ea s.es.length ec), newerV S.t S.g0 S.g1 S.nx (.slice ua S.es.length uc)] w fun e w' => e = .returned (.bool true) ∧ Below w.heap.size w w' := by
  obtain ⟨W, hW⟩ : ∃ W, (w.alloc (.cells (elC s.t s.g0 s.g1 s.nx (.slice fa s.free.length fc) (.slice ea s.es.length ec)) 60)).alloc (.cells (newerC S.t S.g0 S.g1 S.nx (.slice ua S.es.length uc)) 90) = W := ⟨_, rfl⟩
  have hbW : Below w.heap.size w W := by rw [← hW]; exact ((Below.refl _ w).alloc (Nat.le_refl _) _).alloc (by simp [go_sem]) _
  have hsW : W.heap.size = w.heap.size + 2 := by rw [← hW]; simp [go_sem]
  have hh0 : W.heap[w.heap.size]? = some (.cells (elC s.t s.g0 s.g1 s.nx (.slice fa s.free.length fc) (.slice ea s.es.length ec)) 60) := by
    rw [← hW, heap_alloc_old _ _ (by simp [go_sem])]
    exact heap_alloc_new w _
  have hh1 : W.heap[w.heap.size + 1]? = some (.cells (newerC S.t S.g0 S.g1 S.nx (.slice ua S.es.length uc)) 90) := by
    have e : w.heap.size + 1 = (w.alloc (.cells (elC s.t s.g0 s.g1 s.nx (.slice fa s.free.length fc) (.slice ea s.es.length ec)) 60)).heap.size := by simp [go_sem]
    rw [← hW, e]
    exact heap_alloc_new _ _
  have HLK := hid (saves_calls W)
  have HBW := hid hbW
  have HSW := hid hsW
  have H0 := hid hh0
  have H1 := hid hh1
  have HIN := hid (h.below hbW)
  have HIS := hid (hS.below hbW)
  have HFW : Hid (∀ wx, Below W.heap.size W wx → Below w.heap.size w wx) := fun wx hx => HBW.out.trans (hx.mono (by rw [HSW.out]; omega))
  clear h hS hbW hsW hh0 hh1
  go_enter Try.func12, Try.ntmps12
  go_wp2_with fail
  refine HLK.out.mono ?_
  rintro e w1 ⟨rfl, hb1⟩
  obtain ⟨x0, x1, x2, x3, x4, x5⟩ := elder_cells ((hb1.block w.heap.size (by rw [HSW.out]; omega)).trans H0.out)
  have HB1 := hid hb1
  clear hb1 hW HLK
  go_wp2_with fail
  refine (lightElder_calls _ _ _ _ _ _ _ _ _ _ _).mono ?_
  rintro e w2 ⟨rfl, hb2⟩
  have HB2 : Hid (Below W.heap.size W w2) := HB1.out.trans (hb2.mono HB1.out.size)
  clear hb2 HB1 x0 x1 x2 x3 x4 x5
  have HF2 : Hid (Below w.heap.size w w2) := HFW.out _ HB2.out
  by_cases hlt : s.es.length ≤ 25 ∧ s.free.length ≤ 220
  case neg =>
    rw [decide_eq_false hlt]
    go_wp2
    go_ret
    exact ⟨rfl, HF2.out⟩
  rw [decide_eq_true hlt]
  obtain ⟨_, _, _, _, n4, _⟩ := five_cells ((HB2.out.block (w.heap.size + 1) (by rw [HSW.out]; omega)).trans H1.out)
  by_cases h25 : S.es.length ≤ 25
  case neg =>
    have hz : (25 : Int) < (S.es.length : Int) := by omega
    go_wp2
    go_ret
    exact ⟨rfl, HF2.out⟩
  have hz25 : ¬ (25 : Int) < (S.es.length : Int) := by omega
  obtain ⟨x0, x1, x2, x3, x4, x5⟩ := elder_cells ((HB2.out.block w.heap.size (by rw [HSW.out]; omega)).trans H0.out)
  have hin3 := HIN.out.below HB2.out
  have HOW := hid (ownElder_calls s.t s.g0 s.g1 s.nx s.free fa ea fc ec s.es w2 hin3.en hin3.fn (by omega) (by omega) hin3.rows hin3.nums)
  clear hin3
  go_wp2_with fail
  refine HOW.out.mono ?_
  rintro e w4 ⟨fo, eo, fco, eco, rfl, hro, hno, hco, heo, hfo, hb4⟩
  have HB4 : Hid (Below W.heap.size W w4) := HB2.out.trans (hb4.mono HB2.out.size)
  have hio : InE w4 s fo eo fco eco := ⟨(fun e => absurd e hfo), (fun e => absurd e heo), hco, hro, hno, HIN.out.wf, HIN.out.born⟩
  have HV4 := hid (bytesE_calls s fo eo fco eco w4 hio)
  clear HOW hro hno hco heo hfo hb4 x0 x1 x2 x3 x4 x5 n4 hio
  go_wp2_with fail
  obtain ⟨c, hc⟩ : ∃ c, checkE s.t s.g0 s.g1 s.nx s.free s.es = c := ⟨_, rfl⟩
  obtain ⟨B, hB⟩ : ∃ B, byE s = B := ⟨_, rfl⟩
  have hc3 : c ≤ 3 := by rw [← hc]; exact check_le s
  rw [hc, hB] at HV4
  have HCC := hid hc
  have HBB := hid hB
  clear hc hB
  refine HV4.out.mono ?_
  rintro e w5 ⟨rfl, hb5⟩
  have HB5 : Hid (Below W.heap.size W w5) := HB4.out.trans (hb5.mono HB4.out.size)
  obtain ⟨x0, x1, x2, x3, x4, x5⟩ := elder_cells ((HB5.out.block w.heap.size (by rw [HSW.out]; omega)).trans H0.out)
  have HOF : Hid (Calls Try.prog 43 #[elderV s.t s.g0 s.g1 s.nx (.slice fa s.free.length fc) (.slice ea s.es.length ec)] w5 fun e w' => ∃ p, e = .returned (.pointer (some ⟨p, 0, none⟩)) ∧ GrE w5.heap.size w' p false (upS s) ∧ Below w5.heap.size w5 w') := by
    have hi := HIN.out.below HB5.out
    have := ofElder_calls s.t s.g0 s.g1 s.nx s.free fa ea fc ec s.es w5 (by omega) (by omega) hi.rows hi.nums hi.fn
    rw [st0_up HIN.out.born] at this
    exact this
  have HFA : Hid (∀ base wx p, GrE base wx p false (upS s) → Calls Try.prog 44 #[.pointer (some ⟨p, 0, none⟩)] wx fun e w' => e = .returned (.int .i64 c) ∧ Below wx.heap.size wx w') := fun base wx p hg => by
    have := fault_calls base p false (upS s) wx hg
    rw [faultU s, HCC.out] at this
    exact this
  clear hb5 HV4 HB4 HB2
  go_wp2_with fail
  refine HOF.out.mono ?_
  rintro e w6 ⟨p, rfl, hg6, hb6⟩
  have HF6 := hid (HFA.out _ w6 p hg6)
  have HB6 : Hid (Below W.heap.size W w6) := HB5.out.trans (hb6.mono HB5.out.size)
  clear hg6 hb6 HOF HFA x0 x1 x2 x3 x4 x5
  go_wp2_with fail
  refine HF6.out.mono ?_
  rintro e Y ⟨rfl, hb7⟩
  have HWY : Hid (Below W.heap.size W Y) := HB6.out.trans (hb7.mono HB6.out.size)
  have HSM := hid (same_true c hc3 Y)
  clear hb7 HF6 HB6 HB5
  go_wp2_with fail
  refine HSM.out.mono ?_
  rintro e w8 ⟨rfl, hw8⟩
  rw [hw8]
  clear hw8 w8 HSM
  by_cases h0 : c = 0
  case neg =>
    have hB0 : B = [] := by
      rw [← HBB.out]
      exact if_neg (fun e => h0 (HCC.out.symm.trans e))
    subst hB0
    have hq1 : 0 < c := by omega
    have hq0 : ((c : Int) == 0) = false := by rw [beq_eq_false_iff_ne]; omega
    clear h0 HBB HCC
    obtain ⟨x0, x1, x2, x3, x4, _⟩ := five_cells ((HWY.out.block (w.heap.size + 1) (by rw [HSW.out]; omega)).trans H1.out)
    have hin3 := HIS.out.below HWY.out
    have HOW := hid (ownNewer_calls S.t S.g0 S.g1 S.nx ua uc S.es Y hin3.un (by omega) hin3.rows)
    clear hin3
    go_wp2_with fail
    refine HOW.out.mono ?_
    rintro e n1 ⟨eo2, eco2, rfl, hro, hco, heo, hbn1⟩
    have HN1 : Hid (Below W.heap.size W n1) := HWY.out.trans (hbn1.mono HWY.out.size)
    have hio : InW n1 S eo2 eco2 := ⟨(fun e => absurd e heo), hco, hro, HIS.out.fr, HIS.out.born⟩
    have HV6 := hid (bytesN_calls S eo2 eco2 n1 hio)
    clear HOW hro hco heo hbn1 x0 x1 x2 x3 x4 hio
    go_wp2_with fail
    obtain ⟨d, hd⟩ : ∃ d, ckN S = d := ⟨_, rfl⟩
    obtain ⟨C, hC⟩ : ∃ C, byN S = C := ⟨_, rfl⟩
    have hd3 : d ≤ 3 := by rw [← hd]; exact checkN_le S
    rw [hd, hC] at HV6
    have HDD := hid hd
    have HCB := hid hC
    clear hd hC
    refine HV6.out.mono ?_
    rintro e n2 ⟨rfl, hbn2⟩
    have HN2 : Hid (Below W.heap.size W n2) := HN1.out.trans (hbn2.mono HN1.out.size)
    obtain ⟨x0, x1, x2, x3, x4, _⟩ := five_cells ((HN2.out.block (w.heap.size + 1) (by rw [HSW.out]; omega)).trans H1.out)
    have HOF : Hid (Calls Try.prog 55 #[newerV S.t S.g0 S.g1 S.nx (.slice ua S.es.length uc)] n2 fun e w' => ∃ p, e = .returned (.pointer (some ⟨p, 0, none⟩)) ∧ GrE n2.heap.size w' p true S ∧ Below n2.heap.size n2 w') := by
      have hi := HIS.out.below HN2.out
      have := ofNewer_calls S.t S.g0 S.g1 S.nx ua uc S.es n2 (by omega) hi.rows hi.un
      rw [st0_N hi.fr hi.born] at this
      exact this
    have HFA : Hid (∀ base wx p, GrE base wx p true S → Calls Try.prog 44 #[.pointer (some ⟨p, 0, none⟩)] wx fun e w' => e = .returned (.int .i64 d) ∧ Below wx.heap.size wx w') := fun base wx p hg => by
      have := fault_calls base p true S wx hg
      rw [faultN S HIS.out.fr, show checkN S.t S.g0 S.g1 S.nx S.es = d from HDD.out] at this
      exact this
    clear hbn2 HV6 HN1
    go_wp2_with fail
    refine HOF.out.mono ?_
    rintro e n3 ⟨p2, rfl, hg6, hb6⟩
    have HF6 := hid (HFA.out _ n3 p2 hg6)
    have HN3 : Hid (Below W.heap.size W n3) := HN2.out.trans (hb6.mono HN2.out.size)
    clear hg6 hb6 HOF HFA x0 x1 x2 x3 x4
    go_wp2_with fail
    refine HF6.out.mono ?_
    rintro e Z ⟨rfl, hb7⟩
    have HWZ : Hid (Below W.heap.size W Z) := HN3.out.trans (hb7.mono HN3.out.size)
    have HFZ : Hid (Below w.heap.size w Z) := HFW.out _ HWZ.out
    have HSM := hid (same_true d hd3 Z)
    clear hb7 HF6 HN3 HN2
    go_wp2_with fail
    refine HSM.out.mono ?_
    rintro e n4 ⟨rfl, hn4⟩
    rw [hn4]
    clear hn4 n4
    by_cases h1 : d = 0
    case neg =>
      have hC0 : C = [] := by
        rw [← HCB.out]
        exact if_neg (fun e => h1 (HDD.out.symm.trans e))
      subst hC0
      have hr1 : 0 < d := by omega
      clear h1 HCB HDD
      go_wp2_with fail
      refine HSM.out.mono ?_
      rintro e n4 ⟨rfl, hn4⟩
      rw [hn4]
      clear hn4 n4
      go_wp2
      go_ret
      exact ⟨rfl, HFZ.out⟩
    have hI := invN_of_check HIS.out.fr (HDD.out.trans h1)
    have hCe : frameL 78 (numsL (newerN S)) = C := by
      rw [← HCB.out]
      exact (if_pos (HDD.out.trans h1)).symm
    have hsm := smlN hI HIS.out.born
    have hlen := newerN_length hsm
    have hnl := numsL_length (newerN S)
    have HEO : Hid (∀ wx, Calls Try.prog 73 #[.string ⟨C.toArray⟩] wx fun e w' => ∃ ea ec, e = .returned (.tuple #[newerV S.t S.g0 S.g1 S.nx (.slice ea S.es.length ec), .nilIface]) ∧ Recs w' ea 11 S.es ∧ Below wx.heap.size wx w') := fun wx => by
      rw [← hCe]
      refine (newerOf_calls (frameL 78 (numsL (newerN S))) (by rw [frameL_length]; omega) wx).mono ?_
      rintro e w' ⟨ea', ec', he, hi, hb⟩
      rw [rdN_by hI HIS.out.born] at he hi
      have hl : (normS 11 S).es.length = S.es.length := List.length_map ..
      rw [hl] at he
      exact ⟨ea', ec', he, recs_norm hi.rows, hb⟩
    have HTX : Hid (∀ wx, Below W.heap.size W wx → Calls Try.prog 74 #[newerV S.t S.g0 S.g1 S.nx (.slice ua S.es.length uc)] wx fun e w' => e = .returned (.string ⟨(numsL (newerN S)).toArray⟩) ∧ Below wx.heap.size wx w') := fun wx hx => newerText_calls S ua uc wx (HIS.out.below hx) hsm
    have HFRM : Hid (∀ wx, Calls Try.prog 22 #[.int .u8 78, .string ⟨(numsL (newerN S)).toArray⟩] wx fun e w' => e = .returned (.string ⟨C.toArray⟩) ∧ Below wx.heap.size wx w') := fun wx => by
      rw [← hCe]
      exact framed_calls 78 (numsL (newerN S)) (by omega) wx
    have hr0 : decide (0 < d) = false := by rw [h1]; rfl
    clear hI hCe hsm hlen hnl h1 HDD HCB HSM
    go_wp2_with fail
    refine (HEO.out Z).mono ?_
    rintro e n5 ⟨ex, ecx, rfl, hr5, hb5⟩
    obtain ⟨V, hV⟩ : ∃ V, n5.alloc (.cells (newerC S.t S.g0 S.g1 S.nx (.slice ex S.es.length ecx)) 90) = V := ⟨_, rfl⟩
    have hbV : Below n5.heap.size n5 V := by rw [← hV]; exact (Below.refl _ _).alloc (Nat.le_refl _) _
    have hhV : V.heap[n5.heap.size]? = some (.cells (newerC S.t S.g0 S.g1 S.nx (.slice ex S.es.length ecx)) 90) := by rw [← hV]; exact heap_alloc_new _ _
    have HB5 : Hid (Below W.heap.size W n5) := HWZ.out.trans (hb5.mono HWZ.out.size)
    have HWV : Hid (Below W.heap.size W V) := HB5.out.trans (hbV.mono HB5.out.size)
    have HRV := hid (hr5.below hbV)
    have HHV := hid hhV
    have HVX := hid hV
    clear hV hbV hhV hr5 hb5 HEO HB5 HWZ
    go_upto_region 17 with fail
    rw [HVX.out]
    obtain ⟨x0, x1, x2, x3, x4, _⟩ := five_cells ((HWV.out.block (w.heap.size + 1) (by rw [HSW.out]; omega)).trans H1.out)
    go_wp2_with fail
    refine (HTX.out V HWV.out).mono ?_
    rintro e n6 ⟨rfl, hb6⟩
    have HV6 := hid hb6
    clear hb6 HTX x0 x1 x2 x3 x4
    go_wp2_with fail
    refine (HFRM.out n6).mono ?_
    rintro e n7 ⟨rfl, hb7⟩
    have HV7 : Hid (Below V.heap.size V n7) := HV6.out.trans (hb7.mono HV6.out.size)
    have HSM : Hid (Calls Try.prog 15 #[.nilIface, .int .i64 0] n7 fun e w' => e = .returned (.bool true) ∧ w' = n7) := same_true 0 (by omega) n7
    have HW7 : Hid (Below W.heap.size W n7) := HWV.out.trans (HV7.out.mono HWV.out.size)
    clear hb7 HFRM HV6
    go_wp2_with fail
    refine HSM.out.mono ?_
    rintro e n8 ⟨rfl, hn8⟩
    rw [hn8]
    clear hn8 n8 HSM
    obtain ⟨x0, x1, x2, x3, x4, _⟩ := five_cells ((HW7.out.block (w.heap.size + 1) (by rw [HSW.out]; omega)).trans H1.out)
    obtain ⟨y0, y1, y2, y3, y4, _⟩ := five_cells ((HV7.out.block n5.heap.size (Array.getElem?_eq_some_iff.1 HHV.out).1).trans HHV.out)
    have HSE := hid (sameNewer_calls S.t S.g0 S.g1 S.nx S.es ex ua ecx uc n7 (by omega) (HRV.out.below HV7.out) (HIS.out.below HW7.out).rows)
    go_wp2_with fail
    refine HSE.out.mono ?_
    rintro e n9 ⟨rfl, hb9⟩
    have HF9 : Hid (Below w.heap.size w n9) := HFW.out _ (HW7.out.trans (hb9.mono HW7.out.size))
    clear hb9 HSE
    go_wp2
    go_ret
    exact ⟨rfl, HF9.out⟩
  have hI := inv_of_check (HCC.out.trans h0)
  have hBe : frameL 69 (numsL (elderN s)) = B := by
    rw [← HBB.out]
    exact (if_pos (HCC.out.trans h0)).symm
  have hsm := smlE hI HIN.out.born
  have hlen := elderN_length hsm
  have hnl := numsL_length (elderN s)
  have HEO : Hid (∀ wx, Calls Try.prog 70 #[.string ⟨B.toArray⟩] wx fun e w' => ∃ fa ea fc ec, e = .returned (.tuple #[elderV s.t s.g0 s.g1 s.nx (.slice fa s.free.length fc) (.slice ea s.es.length ec), .nilIface]) ∧ Nums w' fa s.free ∧ Recs w' ea 10 s.es ∧ Below wx.heap.size wx w') := fun wx => by
    rw [← hBe]
    refine (elderOf_calls (frameL 69 (numsL (elderN s))) (by rw [frameL_length]; omega) wx).mono ?_
    rintro e w' ⟨fa', ea', fc', ec', he, hi, hb⟩
    rw [rdE_by hI HIN.out.born] at he hi
    have hl : (normS 10 s).es.length = s.es.length := List.length_map ..
    rw [hl] at he
    exact ⟨fa', ea', fc', ec', he, hi.nums, recs_norm hi.rows, hb⟩
  have HTX : Hid (∀ wx, Below W.heap.size W wx → Calls Try.prog 71 #[elderV s.t s.g0 s.g1 s.nx (.slice fa s.free.length fc) (.slice ea s.es.length ec)] wx fun e w' => e = .returned (.string ⟨(numsL (elderN s)).toArray⟩) ∧ Below wx.heap.size wx w') := fun wx hx => elderText_calls s fa ea fc ec wx (HIN.out.below hx) hsm
  have HFRM : Hid (∀ wx, Calls Try.prog 22 #[.int .u8 69, .string ⟨(numsL (elderN s)).toArray⟩] wx fun e w' => e = .returned (.string ⟨B.toArray⟩) ∧ Below wx.heap.size wx w') := fun wx => by
    rw [← hBe]
    exact framed_calls 69 (numsL (elderN s)) (by omega) wx
  have hq0 : ((c : Int) == 0) = true := by rw [h0]; rfl
  have hq1 : decide (0 < c) = false := by rw [h0]; rfl
  clear hI hBe hsm hlen hnl h0 HBB HCC
  go_wp2_with fail
  refine (HEO.out Y).mono ?_
  rintro e w9 ⟨fx, ex0, fcx, ecx0, rfl, hnx, hrx, hb9⟩
  obtain ⟨X, hX⟩ : ∃ X, w9.alloc (.cells (elC s.t s.g0 s.g1 s.nx (.slice fx s.free.length fcx) (.slice ex0 s.es.length ecx0)) 60) = X := ⟨_, rfl⟩
  have hbX : Below w9.heap.size w9 X := by rw [← hX]; exact (Below.refl _ _).alloc (Nat.le_refl _) _
  have hhX : X.heap[w9.heap.size]? = some (.cells (elC s.t s.g0 s.g1 s.nx (.slice fx s.free.length fcx) (.slice ex0 s.es.length ecx0)) 60) := by rw [← hX]; exact heap_alloc_new _ _
  have HB9 : Hid (Below W.heap.size W w9) := HWY.out.trans (hb9.mono HWY.out.size)
  have HWX : Hid (Below W.heap.size W X) := HB9.out.trans (hbX.mono HB9.out.size)
  have HNX := hid (hnx.below hbX)
  have HRX := hid (hrx.below hbX)
  have HHX := hid hhX
  have HXX := hid hX
  clear hX hbX hhX hnx hrx hb9 HEO HB9 HWY
  go_upto_region 10 with fail
  rw [HXX.out]
  obtain ⟨x0, x1, x2, x3, x4, x5⟩ := elder_cells ((HWX.out.block w.heap.size (by rw [HSW.out]; omega)).trans H0.out)
  go_wp2_with fail
  refine (HTX.out X HWX.out).mono ?_
  rintro e w10 ⟨rfl, hb10⟩
  have HV10 := hid hb10
  clear hb10 HTX x0 x1 x2 x3 x4 x5
  go_wp2_with fail
  refine (HFRM.out w10).mono ?_
  rintro e w11 ⟨rfl, hb11⟩
  have HV11 : Hid (Below X.heap.size X w11) := HV10.out.trans (hb11.mono HV10.out.size)
  have HSM : Hid (Calls Try.prog 15 #[.nilIface, .int .i64 0] w11 fun e w' => e = .returned (.bool true) ∧ w' = w11) := same_true 0 (by omega) w11
  have HW11 : Hid (Below W.heap.size W w11) := HWX.out.trans (HV11.out.mono HWX.out.size)
  clear hb11 HFRM HV10
  go_wp2_with fail
  refine HSM.out.mono ?_
  rintro e w12 ⟨rfl, hw12⟩
  rw [hw12]
  clear hw12 w12 HSM
  obtain ⟨x0, x1, x2, x3, x4, x5⟩ := elder_cells ((HW11.out.block w.heap.size (by rw [HSW.out]; omega)).trans H0.out)
  obtain ⟨y0, y1, y2, y3, y4, y5⟩ := elder_cells ((HV11.out.block w9.heap.size (Array.getElem?_eq_some_iff.1 HHX.out).1).trans HHX.out)
  have HSE := hid (sameElder_calls s.t s.g0 s.g1 s.nx s.free s.es fx ex0 fa ea fcx ecx0 fc ec w11 (by omega) (by omega) (HNX.out.below HV11.out) (HIN.out.below HW11.out).nums (HRX.out.below HV11.out) (HIN.out.below HW11.out).rows)
  go_wp2_with fail
  refine HSE.out.mono ?_
  rintro e M ⟨rfl, hb13⟩
  have HWM : Hid (Below W.heap.size W M) := HW11.out.trans (hb13.mono HW11.out.size)
  clear hb13 HSE x0 x1 x2 x3 x4 x5 y0 y1 y2 y3 y4 y5 HNX HRX HHX HXX HV11 HW11 HWX
  obtain ⟨x0, x1, x2, x3, x4, _⟩ := five_cells ((HWM.out.block (w.heap.size + 1) (by rw [HSW.out]; omega)).trans H1.out)
  have hin3 := HIS.out.below HWM.out
  have HOW := hid (ownNewer_calls S.t S.g0 S.g1 S.nx ua uc S.es M hin3.un (by omega) hin3.rows)
  clear hin3
  go_wp2_with fail
  refine HOW.out.mono ?_
  rintro e n1 ⟨eo2, eco2, rfl, hro, hco, heo, hbn1⟩
  have HN1 : Hid (Below W.heap.size W n1) := HWM.out.trans (hbn1.mono HWM.out.size)
  have hio : InW n1 S eo2 eco2 := ⟨(fun e => absurd e heo), hco, hro, HIS.out.fr, HIS.out.born⟩
  have HV6 := hid (bytesN_calls S eo2 eco2 n1 hio)
  clear HOW hro hco heo hbn1 x0 x1 x2 x3 x4 hio
  go_wp2_with fail
  obtain ⟨d, hd⟩ : ∃ d, ckN S = d := ⟨_, rfl⟩
  obtain ⟨C, hC⟩ : ∃ C, byN S = C := ⟨_, rfl⟩
  have hd3 : d ≤ 3 := by rw [← hd]; exact checkN_le S
  rw [hd, hC] at HV6
  have HDD := hid hd
  have HCB := hid hC
  clear hd hC
  refine HV6.out.mono ?_
  rintro e n2 ⟨rfl, hbn2⟩
  have HN2 : Hid (Below W.heap.size W n2) := HN1.out.trans (hbn2.mono HN1.out.size)
  obtain ⟨x0, x1, x2, x3, x4, _⟩ := five_cells ((HN2.out.block (w.heap.size + 1) (by rw [HSW.out]; omega)).trans H1.out)
  have HOF : Hid (Calls Try.prog 55 #[newerV S.t S.g0 S.g1 S.nx (.slice ua S.es.length uc)] n2 fun e w' => ∃ p, e = .returned (.pointer (some ⟨p, 0, none⟩)) ∧ GrE n2.heap.size w' p true S ∧ Below n2.heap.size n2 w') := by
    have hi := HIS.out.below HN2.out
    have := ofNewer_calls S.t S.g0 S.g1 S.nx ua uc S.es n2 (by omega) hi.rows hi.un
    rw [st0_N hi.fr hi.born] at this
    exact this
  have HFA : Hid (∀ base wx p, GrE base wx p true S → Calls Try.prog 44 #[.pointer (some ⟨p, 0, none⟩)] wx fun e w' => e = .returned (.int .i64 d) ∧ Below wx.heap.size wx w') := fun base wx p hg => by
    have := fault_calls base p true S wx hg
    rw [faultN S HIS.out.fr, show checkN S.t S.g0 S.g1 S.nx S.es = d from HDD.out] at this
    exact this
  clear hbn2 HV6 HN1
  go_wp2_with fail
  refine HOF.out.mono ?_
  rintro e n3 ⟨p2, rfl, hg6, hb6⟩
  have HF6 := hid (HFA.out _ n3 p2 hg6)
  have HN3 : Hid (Below W.heap.size W n3) := HN2.out.trans (hb6.mono HN2.out.size)
  clear hg6 hb6 HOF HFA x0 x1 x2 x3 x4
  go_wp2_with fail
  refine HF6.out.mono ?_
  rintro e Z ⟨rfl, hb7⟩
  have HWZ : Hid (Below W.heap.size W Z) := HN3.out.trans (hb7.mono HN3.out.size)
  have HFZ : Hid (Below w.heap.size w Z) := HFW.out _ HWZ.out
  have HSM := hid (same_true d hd3 Z)
  clear hb7 HF6 HN3 HN2
  go_wp2_with fail
  refine HSM.out.mono ?_
  rintro e n4 ⟨rfl, hn4⟩
  rw [hn4]
  clear hn4 n4
  by_cases h1 : d = 0
  case neg =>
    have hC0 : C = [] := by
      rw [← HCB.out]
      exact if_neg (fun e => h1 (HDD.out.symm.trans e))
    subst hC0
    have hr1 : 0 < d := by omega
    clear h1 HCB HDD
    go_wp2_with fail
    refine HSM.out.mono ?_
    rintro e n4 ⟨rfl, hn4⟩
    rw [hn4]
    clear hn4 n4
    go_wp2
    go_ret
    exact ⟨rfl, HFZ.out⟩
  have hI := invN_of_check HIS.out.fr (HDD.out.trans h1)
  have hCe : frameL 78 (numsL (newerN S)) = C := by
    rw [← HCB.out]
    exact (if_pos (HDD.out.trans h1)).symm
  have hsm := smlN hI HIS.out.born
  have hlen := newerN_length hsm
  have hnl := numsL_length (newerN S)
  have HEO : Hid (∀ wx, Calls Try.prog 73 #[.string ⟨C.toArray⟩] wx fun e w' => ∃ ea ec, e = .returned (.tuple #[newerV S.t S.g0 S.g1 S.nx (.slice ea S.es.length ec), .nilIface]) ∧ Recs w' ea 11 S.es ∧ Below wx.heap.size wx w') := fun wx => by
    rw [← hCe]
    refine (newerOf_calls (frameL 78 (numsL (newerN S))) (by rw [frameL_length]; omega) wx).mono ?_
    rintro e w' ⟨ea', ec', he, hi, hb⟩
    rw [rdN_by hI HIS.out.born] at he hi
    have hl : (normS 11 S).es.length = S.es.length := List.length_map ..
    rw [hl] at he
    exact ⟨ea', ec', he, recs_norm hi.rows, hb⟩
  have HTX : Hid (∀ wx, Below W.heap.size W wx → Calls Try.prog 74 #[newerV S.t S.g0 S.g1 S.nx (.slice ua S.es.length uc)] wx fun e w' => e = .returned (.string ⟨(numsL (newerN S)).toArray⟩) ∧ Below wx.heap.size wx w') := fun wx hx => newerText_calls S ua uc wx (HIS.out.below hx) hsm
  have HFRM : Hid (∀ wx, Calls Try.prog 22 #[.int .u8 78, .string ⟨(numsL (newerN S)).toArray⟩] wx fun e w' => e = .returned (.string ⟨C.toArray⟩) ∧ Below wx.heap.size wx w') := fun wx => by
    rw [← hCe]
    exact framed_calls 78 (numsL (newerN S)) (by omega) wx
  have hr0 : decide (0 < d) = false := by rw [h1]; rfl
  clear hI hCe hsm hlen hnl h1 HDD HCB HSM
  go_wp2_with fail
  refine (HEO.out Z).mono ?_
  rintro e n5 ⟨ex, ecx, rfl, hr5, hb5⟩
  obtain ⟨V, hV⟩ : ∃ V, n5.alloc (.cells (newerC S.t S.g0 S.g1 S.nx (.slice ex S.es.length ecx)) 90) = V := ⟨_, rfl⟩
  have hbV : Below n5.heap.size n5 V := by rw [← hV]; exact (Below.refl _ _).alloc (Nat.le_refl _) _
  have hhV : V.heap[n5.heap.size]? = some (.cells (newerC S.t S.g0 S.g1 S.nx (.slice ex S.es.length ecx)) 90) := by rw [← hV]; exact heap_alloc_new _ _
  have HB5 : Hid (Below W.heap.size W n5) := HWZ.out.trans (hb5.mono HWZ.out.size)
  have HWV : Hid (Below W.heap.size W V) := HB5.out.trans (hbV.mono HB5.out.size)
  have HRV := hid (hr5.below hbV)
  have HHV := hid hhV
  have HVX := hid hV
  clear hV hbV hhV hr5 hb5 HEO HB5 HWZ
  go_upto_region 17 with fail
  rw [HVX.out]
  obtain ⟨x0, x1, x2, x3, x4, _⟩ := five_cells ((HWV.out.block (w.heap.size + 1) (by rw [HSW.out]; omega)).trans H1.out)
  go_wp2_with fail
  refine (HTX.out V HWV.out).mono ?_
  rintro e n6 ⟨rfl, hb6⟩
  have HV6 := hid hb6
  clear hb6 HTX x0 x1 x2 x3 x4
  go_wp2_with fail
  refine (HFRM.out n6).mono ?_
  rintro e n7 ⟨rfl, hb7⟩
  have HV7 : Hid (Below V.heap.size V n7) := HV6.out.trans (hb7.mono HV6.out.size)
  have HSM : Hid (Calls Try.prog 15 #[.nilIface, .int .i64 0] n7 fun e w' => e = .returned (.bool true) ∧ w' = n7) := same_true 0 (by omega) n7
  have HW7 : Hid (Below W.heap.size W n7) := HWV.out.trans (HV7.out.mono HWV.out.size)
  clear hb7 HFRM HV6
  go_wp2_with fail
  refine HSM.out.mono ?_
  rintro e n8 ⟨rfl, hn8⟩
  rw [hn8]
  clear hn8 n8 HSM
  obtain ⟨x0, x1, x2, x3, x4, _⟩ := five_cells ((HW7.out.block (w.heap.size + 1) (by rw [HSW.out]; omega)).trans H1.out)
  obtain ⟨y0, y1, y2, y3, y4, _⟩ := five_cells ((HV7.out.block n5.heap.size (Array.getElem?_eq_some_iff.1 HHV.out).1).trans HHV.out)
  have HSE := hid (sameNewer_calls S.t S.g0 S.g1 S.nx S.es ex ua ecx uc n7 (by omega) (HRV.out.below HV7.out) (HIS.out.below HW7.out).rows)
  go_wp2_with fail
  refine HSE.out.mono ?_
  rintro e n9 ⟨rfl, hb9⟩
  have HF9 : Hid (Below w.heap.size w n9) := HFW.out _ (HW7.out.trans (hb9.mono HW7.out.size))
  clear hb9 HSE
  go_wp2
  go_ret
  exact ⟨rfl, HF9.out⟩
end Go.Proofs.Ytgiieepfhohmhaa

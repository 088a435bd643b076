/- The reference: a reel is read out of a frame. -/
import Derived.Test.YtcbalhicaipmlaaGreatRRnE
namespace Go.Proofs.YtcbalhicaipmlaaGreat
open Go.RowKit
def ReelRW (R : Nat × St × List (List (List Int))) (w : World) (e : Ending) (w' : World) : Prop := ∃ ea ta ec tc, e = .returned (.tuple #[reelV R.2.1.t R.2.1.g0 R.2.1.g1 R.2.1.nx (.slice ea R.2.1.es.length ec) (.slice ta R.2.2.length tc), .int .i64 R.1]) ∧ InW w' R.2.1 ea ec ∧ TksN w' ta R.2.2 ∧ Below w.heap.size w w'
theorem reel_setT {w : World} {b : Nat} {a0 a1 a2 a3 a4 a5 v : Value} {t : TypeId} (h : w.heap[b]? = some (.cells #[a0, a1, a2, a3, a4, a5] t)) : (w.setCell ⟨b, 5, none⟩ v).heap[b]? = some (.cells #[a0, a1, a2, a3, a4, v] t) := heap_setCell_same w b 5 _ _ v h
set_option maxHeartbeats 16000000 in
set_option maxRecDepth 100000 in
theorem reelRead_calls (l : List UInt8) (hl : l.length ≤ 10000) (w : World) :
    Calls Tryz.prog 29 #[.string ⟨l.toArray⟩] w (ReelRW (rdR l) w) := by
  obtain ⟨W, hW⟩ : ∃ W, w.alloc (.cells #[.int .i64 0, .int .i64 0, .int .i64 0, .int .i64 0, .slice none 0 0, .slice none 0 0] 35) = W := ⟨_, rfl⟩
  have hbW : Below w.heap.size w W := by rw [← hW]; exact (Below.refl _ w).alloc (Nat.le_refl _) _
  have hsW : W.heap.size = w.heap.size + 1 := by rw [← hW]; simp [go_sem]
  have hh0 : W.heap[w.heap.size]? = some (.cells #[.int .i64 0, .int .i64 0, .int .i64 0, .int .i64 0, .slice none 0 0, .slice none 0 0] 35) := by rw [← hW]; exact heap_alloc_new _ _
  have HC := hid (begun_calls 82 l hl W)
  rw [rdR_alt]
  obtain ⟨r, hr⟩ : ∃ r, Rd.mk (openB 82 l) (openE 82 l) = r := ⟨_, rfl⟩
  rw [hr] at HC ⊢
  have hfew := newer_few r
  have HBW := hid hbW
  have HSW := hid hsW
  have H0 := hid hh0
  clear hr hbW hsW hh0 hl
  go_enter Tryz.func29, Tryz.ntmps29
  go_wp2_with fail
  refine HC.out.mono ?_
  rintro e w2 ⟨p, rfl, hpp, hn2, hb2⟩
  have HB2 := hid hb2
  have HCE := hid (nmNewer_calls p r w2 hn2)
  have hs2 := hb2.size
  have hsW := HSW.out
  have hp2 := hn2.lt
  clear hn2 hb2 HC hW
  go_wp2_with fail
  refine HCE.out.mono ?_
  rintro e w3 ⟨ea, ec, rfl, hi3, hn3, hk3, hfe⟩
  obtain ⟨S, hS⟩ : ∃ S, r.newer.1 = S := ⟨_, rfl⟩
  obtain ⟨E, hE⟩ : ∃ E, r.newer.2 = E := ⟨_, rfl⟩
  have HRS : Hid (r.newer = (S, E)) := by show _ = _; rw [← hS, ← hE]
  rw [hS] at hi3 hfew ⊢
  rw [hE] at hn3
  obtain ⟨X, hX⟩ : ∃ X, w3.alloc (.cells (reelC S.t S.g0 S.g1 S.nx (.slice ea S.es.length ec) (.slice none 0 0)) 35) = X := ⟨_, rfl⟩
  have hbX : Below w3.heap.size w3 X := by rw [← hX]; exact (Below.refl _ _).alloc (Nat.le_refl _) _
  have hhX : X.heap[w3.heap.size]? = some (.cells (reelC S.t S.g0 S.g1 S.nx (.slice ea S.es.length ec) (.slice none 0 0)) 35) := by rw [← hX]; exact heap_alloc_new _ _
  have hs3 := hk3.1.size
  have hsX : X.heap.size = w3.heap.size + 1 := by rw [← hX]; simp [go_sem]
  obtain ⟨TT, hTT⟩ : ∃ TT, w3.heap.size = TT := ⟨_, rfl⟩
  rw [hTT] at hhX hsX
  have hTX : TT < X.heap.size := by omega
  have hpX : p < X.heap.size := by omega
  have hpT : p ≠ TT := by omega
  have h03 := (hk3.2 w.heap.size (by omega) (fun e => by have e' := Option.some.inj e; omega)).trans ((HB2.out.block w.heap.size (by omega)).trans H0.out)
  have h0X := (hbX.block w.heap.size (by omega)).trans h03
  have HRE : Hid (∀ wx : World, (∀ k, k < X.heap.size → k ≠ p → k ≠ TT → wx.heap[k]? = X.heap[k]?) → wx.heap[w.heap.size]? = some (.cells #[.int .i64 0, .int .i64 0, .int .i64 0, .int .i64 0, .slice none 0 0, .slice none 0 0] 35)) := fun wx hx => (hx _ (by omega) (by omega) (by omega)).trans h0X
  have HBX : Hid (∀ wx : World, Below 0 X wx → (∀ k, k < X.heap.size → k ≠ p → k ≠ TT → wx.heap[k]? = X.heap[k]?) → Below w.heap.size w wx) := fun wx hx hy => by
    have h1 : Below W.heap.size W w3 := HB2.out.trans (hk3.base (B := W.heap.size) (by omega) (fun k e => by have e' := Option.some.inj e; omega))
    have h2 : Below w.heap.size w X := (HBW.out.trans (h1.mono (by omega))).trans (hbX.mono (by omega))
    exact h2.trans ⟨hx.os, hx.tape, hx.output, hx.size, fun k hk => hy k (by omega) (by omega) (by omega)⟩
  have HIX : Hid (∀ wx : World, (∀ k, k < X.heap.size → k ≠ p → k ≠ TT → wx.heap[k]? = X.heap[k]?) → InW wx S ea ec) := fun wx hx => inW_blk hi3 (fun b o e hb => by have := hfe b o e; exact (hx b (by omega) (by omega) (by omega)).trans (hbX.block b hb))
  have HM0 : Hid (MidT X p TT 35 (reelC S.t S.g0 S.g1 S.nx (.slice ea S.es.length ec) (.slice none 0 0)) E X) := ⟨hn3.below hbX, hhX, Below.refl _ _, fun _ _ _ _ => rfl⟩
  have HFE : Hid (Frsh (w.heap.size + 1) ea) := frsh_mono hfe (by omega)
  have HCN := hid (upTo_calls p E 60 (by decide) X HM0.out.rd)
  have HXX := hid hX
  clear hX hbX hhX hs3 h03 h0X hi3 hn3 hk3 HCE hS hE hfe
  go_upto_region 3 with fail
  rw [HXX.out]
  clear HXX hTT
  go_wp2_with fail
  refine HCN.out.mono ?_
  rintro e w5 ⟨rfl, h5, k5⟩
  have hM5 := HM0.out.call h5 k5 hpT
  obtain ⟨N, hN⟩ : ∃ N : Nat, (E.upTo 60).1 = (N : Int) := ⟨(E.upTo 60).1.toNat, by have := (upTo_le E (m := 60) (by decide)).1; omega⟩
  have hN60 : N ≤ 60 := by have := (upTo_le E (m := 60) (by decide)).2; omega
  obtain ⟨F, hF⟩ : ∃ F, (E.upTo 60).2 = F := ⟨_, rfl⟩
  have HTP : Hid (Rd.tape 6 E = Rd.ticks 6 F N) := by
    show _ = _
    unfold Rd.tape
    rw [hF, hN]
    rfl
  rw [hF] at hM5
  rw [hN]
  have HM5 := hid hM5
  clear HCN h5 k5 hM5 hN hF HM0
  go_wp2_with fail
  go_loopw [6] (fun i wr => ∃ (k d : Nat) (tv : Value), k + d = N ∧ i = .int .i64 d ∧ Hid (MidT X p TT 35 (reelC S.t S.g0 S.g1 S.nx (.slice ea S.es.length ec) tv) (Rd.ticks 6 F k).2 wr ∧ TksRO X.heap.size wr tv (Rd.ticks 6 F k).1)) (fun i _ => (intOf i).toNat)
  case atStart => exact ⟨0, N, .slice none 0 0, by omega, rfl, HM5.out, ⟨[], rfl, World.ownsRow_nil _ _ _ _, fun i hi => absurd hi (Nat.not_lt_zero _)⟩⟩
  case round =>
    clear HM5
    obtain ⟨V, rfl⟩ : ∃ V, V = wr := ⟨_, rfl⟩
    obtain ⟨k, d, tv, hk, rfl, HM⟩ := hrel
    have hsV : X.heap.size ≤ V.heap.size := HM.out.1.be.size
    by_cases hlt : 0 < d
    · have hltz : (0 : Int) < (d : Int) := by omega
      have HC := hid (upTo_calls p (Rd.ticks 6 F k).2 8 (by decide) V HM.out.1.rd)
      go_wp2_with fail
      refine HC.out.mono ?_
      rintro e w6 ⟨rfl, h6, k6⟩
      obtain ⟨R, hR⟩ : ∃ R, (Rd.ticks 6 F k).2 = R := ⟨_, rfl⟩
      rw [hR] at h6 ⊢
      obtain ⟨M, hM⟩ : ∃ M : Nat, (R.upTo 8).1 = (M : Int) := ⟨(R.upTo 8).1.toNat, by have := (upTo_le R (m := 8) (by decide)).1; omega⟩
      have hM8 : M ≤ 8 := by have := (upTo_le R (m := 8) (by decide)).2; omega
      obtain ⟨G, hG⟩ : ∃ G, (R.upTo 8).2 = G := ⟨_, rfl⟩
      have HTK : Hid (Rd.tick 6 R = Rd.recs 6 G M) := by
        show _ = _
        unfold Rd.tick
        rw [hG, hM]
        rfl
      have HNX : Hid (Rd.ticks 6 F (k + 1) = ((Rd.ticks 6 F k).1 ++ [(Rd.recs 6 G M).1], (Rd.recs 6 G M).2)) := by
        show _ = _
        rw [ticks_succ, hR, HTK.out]
      rw [hG] at h6
      rw [hM]
      have H6 := hid h6
      have HK6 := hid k6
      clear HC h6 k6 hR hM hG HTK
      go_wp2_with fail
      go_loopw [7, 8] (fun s7 s8 wx => ∃ (j dd : Nat) (lv : Value), j + dd = M ∧ s7 = lv ∧ s8 = .int .i64 dd ∧ Hid (RowO V.heap.size wx lv (Rd.recs 6 G j).1 ∧ NmAt p (Rd.recs 6 G j).2 wx ∧ Keep V (some p) wx)) (fun _ s8 _ => (intOf s8).toNat)
      case atStart => exact ⟨0, M, .slice none 0 0, by omega, rfl, rfl, World.ownsRow_nil _ _ _ _, H6.out, HK6.out⟩
      case round =>
        clear H6 HK6
        obtain ⟨j, dd, lv, hj, hl7, rfl, HI⟩ := hrel
        rw [hl7]
        clear hl7
        have HLEN : Hid ((Rd.recs 6 G j).1.length = j) := recs_length 6 G j
        by_cases hjl : 0 < dd
        · have hjz : (0 : Int) < (dd : Int) := by omega
          obtain ⟨Y, hY⟩ : ∃ Y, (Rd.recs 6 G j).2 = Y := ⟨_, rfl⟩
          have HNJ : Hid (Rd.recs 6 G (j + 1) = ((Rd.recs 6 G j).1 ++ [(Y.many 6).1], (Y.many 6).2)) := by
            show _ = _
            rw [recs_succ, hY]
          obtain ⟨hI1, hI2, hI3⟩ := HI.out
          rw [hY] at hI2
          have hsr : V.heap.size ≤ wr.heap.size := hI3.1.size
          obtain ⟨X2, hX2⟩ : ∃ X2, wr.alloc (.cells #[.int .i64 0, .int .i64 0, .int .i64 0, .int .i64 0, .int .i64 0, .int .i64 0] 124) = X2 := ⟨_, rfl⟩
          have hbX : Below wr.heap.size wr X2 := by rw [← hX2]; exact (Below.refl _ _).alloc (Nat.le_refl _) _
          have HLX : Hid (LAt wr.heap.size 6 124 [] X2) := by
            refine ⟨_, by rw [← hX2]; exact heap_alloc_new _ _, rfl, fun i hi => ?_⟩
            match i, hi with
            | 0, _ | 1, _ | 2, _ | 3, _ | 4, _ | 5, _ => rfl
          have HRX : Hid (RowO V.heap.size X2 lv (Rd.recs 6 G j).1) := row_below hI1 hbX
          have HNX2 : Hid (NmAt p Y X2) := hI2.below hbX
          have HKX : Hid (Keep V (some p) X2) := hI3.below hbX
          have HXE := hid hX2
          obtain ⟨L, hL⟩ : ∃ L, wr.heap.size = L := ⟨_, rfl⟩
          rw [hL] at HLX hsr
          clear hI1 hI2 hI3 HI hbX hX2 hY
          go_upto_region 11 with fail
          rw [HXE.out]
          clear HXE
          go_wp2_with fail
          go_loopw [10] (fun i wx => ∃ a : Nat, a ≤ 6 ∧ i = .int .i64 a ∧ Hid (RowO V.heap.size wx lv (Rd.recs 6 G j).1 ∧ NmAt p (Y.many a).2 wx ∧ Keep V (some p) wx ∧ LAt L 6 124 (Y.many a).1 wx)) (fun i _ => 6 - (intOf i).toNat)
          case atStart => exact ⟨0, Nat.zero_le _, rfl, HRX.out, HNX2.out, HKX.out, HLX.out⟩
          case round =>
            clear HRX HNX2 HKX HLX hL
            obtain ⟨a, ha, rfl, HJ⟩ := hrel
            have HLJ : Hid ((Y.many a).1.length = a) := many_length Y a
            by_cases hal : a < 6
            · have haz : (a : Int) < 6 := by omega
              obtain ⟨Z, hZ⟩ : ∃ Z, ((Y.many a).2).num = Z := ⟨_, rfl⟩
              have HNA : Hid (Y.many (a + 1) = ((Y.many a).1 ++ [Z.1], Z.2)) := by
                show _ = _
                rw [many_succ, hZ]
              have HCE := hid (next_calls p (Y.many a).2 wr HJ.out.2.1)
              rw [hZ] at HCE
              clear hZ
              go_wp2_with fail
              refine HCE.out.mono ?_
              rintro e we ⟨rfl, he, ke⟩
              have hwe := row_keepP HJ.out.1 ke (by omega)
              have hke := keep_trans HJ.out.2.2.1 ke
              have hle := HJ.out.2.2.2.blk (ke.2 L HJ.out.2.2.2.lt (fun e => by cases e; omega))
              have l0 : we.cell? ⟨L, a, none⟩ = some (.int .i64 (fld (Y.many a).1 a)) := hle.cell hal
              have l1 := hle.frozen a
              have HFN : Hid (RowO V.heap.size (we.setCell ⟨L, a, none⟩ (.int .i64 Z.1)) lv (Rd.recs 6 G j).1 ∧ NmAt p (Y.many (a + 1)).2 (we.setCell ⟨L, a, none⟩ (.int .i64 Z.1)) ∧ Keep V (some p) (we.setCell ⟨L, a, none⟩ (.int .i64 Z.1)) ∧ LAt L 6 124 (Y.many (a + 1)).1 (we.setCell ⟨L, a, none⟩ (.int .i64 Z.1))) := by
                rw [HNA.out]
                refine ⟨row_set hwe (hle.row hwe (by decide)) _ _, nm_off he (by omega), keep_off hke hsr, ?_⟩
                have := hle.snoc (by rw [HLJ.out]; exact hal) Z.1
                rw [HLJ.out] at this
                exact this
              clear he ke hwe hke hle HCE HJ HNA
              go_wp2
              go_roundw
              case rel => exact ⟨a + 1, by omega, by go_num, HFN.out⟩
              case measure => simp [intOf]; omega
            · have haz : ¬ (a : Int) < 6 := by omega
              have hak : a = 6 := by omega
              subst hak
              obtain ⟨Q, hQ⟩ : ∃ Q, Y.many 6 = Q := ⟨_, rfl⟩
              rw [hQ] at HJ HNJ
              obtain ⟨hRJ, hNJ, hKJ, hLJ⟩ := HJ.out
              have l0 : wr.cell? ⟨L, 0, none⟩ = some (.int .i64 (fld Q.1 0)) := hLJ.cell (by decide)
              have l1 : wr.cell? ⟨L, 1, none⟩ = some (.int .i64 (fld Q.1 1)) := hLJ.cell (by decide)
              have l2 : wr.cell? ⟨L, 2, none⟩ = some (.int .i64 (fld Q.1 2)) := hLJ.cell (by decide)
              have l3 : wr.cell? ⟨L, 3, none⟩ = some (.int .i64 (fld Q.1 3)) := hLJ.cell (by decide)
              have l4 : wr.cell? ⟨L, 4, none⟩ = some (.int .i64 (fld Q.1 4)) := hLJ.cell (by decide)
              have l5 : wr.cell? ⟨L, 5, none⟩ = some (.int .i64 (fld Q.1 5)) := hLJ.cell (by decide)
              have HO3 := hid hRJ
              have H3 := hid hNJ
              have HK3 := hid hKJ
              have hs3 : V.heap.size ≤ wr.heap.size := hKJ.1.size
              clear hRJ hNJ hKJ hLJ HJ HLJ hQ
              go_wp2_with (at_builtin; refine wp_rowsO _ rfl _ _ rfl V.heap.size _ _ rfl (World.ownsRow.alloc HO3.out _) (some ⟨wr.heap.size, 0, none⟩) 1 [Q.1] rfl (recs_oneO wr Q.1 _) (by simp) (by rw [HLEN.out]; show j + 1 ≤ 100000; omega) (by simp [go_sem]; omega) ?_
                           intro v9 w9 hr9 hg9 hl9
                           have HK9 : Hid (Keep V (some p) w9) := keep_grown (HK3.out.below ((Below.refl _ _).alloc (Nat.le_refl _) _)) hg9 (fun q hq => (World.ownsRow.lt HO3.out q hq).1)
                           have HR9 : Hid (NmAt p Q.2 w9) := nm_grown (H3.out.below ((Below.refl _ _).alloc (Nat.le_refl _) _)) hg9 (fun e => by have := (World.ownsRow.lt HO3.out p e).1; omega)
                           have HO9 := hid hr9
                           clear hr9 hg9 hl9 l0 l1 l2 l3 l4 l5)
              go_roundw
              case rel => exact ⟨j + 1, dd - 1, _, by omega, rfl, by go_num, by rw [HNJ.out]; exact HO9.out, by rw [HNJ.out]; exact HR9.out, HK9.out⟩
              case measure => simp [intOf]; omega
        · have hjz : ¬ (0 : Int) < (dd : Int) := by omega
          have hd0 : dd = 0 := by omega
          have hje : j = M := by omega
          subst hje hd0
          obtain ⟨la, lc, hlv, _, _, _⟩ := HI.out.1.open
          have HKx := hid HI.out.2.2
          have HRx := hid HI.out.2.1
          have HOx := hid HI.out.1
          have HTx : Hid (TksRO X.heap.size wr tv (Rd.ticks 6 F k).1) := HM.out.2.same HKx.out.1.size (fun q hB hq => HKx.out.2 q hq (fun e => by cases e; omega))
          obtain ⟨vs, hvl, hvr, hvi⟩ := HTx.out
          have HLT : Hid (vs.length = k) := by show _ = _; rw [hvl, ticks_length]
          have HMx := hid (HM.out.1.call HRx.out HKx.out hpT)
          have hsx : X.heap.size ≤ wr.heap.size := HMx.out.be.size
          have HSN := hid (fun w1 w' v' hb1 hR hg ho => @TksRO.snoc X.heap.size V.heap.size wr w1 w' _ v' _ (Rd.ticks 6 F k).1 (Rd.recs 6 G j).1 la lc vs hvl hvi hvr hlv HOx.out hsV hb1 hR hg ho)
          have HVR := hid hvr
          obtain ⟨x0, x1, x2, x3, x4, x5⟩ := reel_cellsS HMx.out.bx
          subst hlv
          clear HM HI hvl hvi hvr HTx HOx HRx HKx
          go_wp2_with (at_builtin; refine wp_rowsTO _ rfl _ _ rfl X.heap.size _ vs rfl (World.ownsRow.alloc HVR.out _) ⟨wr.heap.size, 0, none⟩ la (Rd.recs 6 G j).1.length lc rfl (by rw [add_off]; exact World.cell?_alloc_at _ _ _ _ rfl) (by rw [HLT.out]; omega) (by simp [go_sem]; omega) ?_
                       intro v9 w9 hr9 hg9 hl9
                       have hS9 := HSN.out _ w9 v9 ((Below.refl _ _).alloc (Nat.le_refl _) _) hr9 hg9 hl9
                       obtain ⟨ta9, tc9, hv9, _, _, _, _⟩ := hS9.tks
                       obtain ⟨LL, hLL⟩ : ∃ LL, ((Rd.ticks 6 F k).1 ++ [(Rd.recs 6 G j).1]).length = LL := ⟨_, rfl⟩
                       rw [hLL] at hv9
                       clear hLL
                       subst hv9
                       have hM9 := (HMx.out.below ((Below.refl _ _).alloc (Nat.le_refl _) _)).grown hg9 (fun q hq => (World.ownsRow.lt HVR.out q hq).1) hpX hTX
                       have y4 := cell_of_row w9 TT 5 _ _ _ hM9.bx
                       have yf := fun j => frozen_of_row w9 TT j _ _ hM9.bx
                       have HM9 := hid (hM9.set (v := .slice ta9 LL tc9) hpT (reel_setT hM9.bx))
                       have HS9 : Hid (TksRO X.heap.size (w9.setCell ⟨TT, 5, none⟩ (.slice ta9 LL tc9)) (.slice ta9 LL tc9) ((Rd.ticks 6 F k).1 ++ [(Rd.recs 6 G j).1])) := hS9.same (by simp [World.size_setCell]) (fun q hB hq => heap_setCell_other w9 ⟨TT, 5, none⟩ q _ (fun e => by have e' : q = TT := e; omega))
                       clear hr9 hg9 hl9 hS9 hM9)
          go_roundw
          case rel => exact ⟨k + 1, d - 1, .slice ta9 LL tc9, by omega, by go_num, by rw [HNX.out]; exact HM9.out, by rw [HNX.out]; exact HS9.out⟩
          case measure => simp [intOf]; omega
    · have hltz : ¬ (0 : Int) < (d : Int) := by omega
      have hd0 : d = 0 := by omega
      have hke : k = N := by omega
      subst hke hd0
      obtain ⟨ta, tc, htv, _, htk, _, _⟩ := HM.out.2.tks
      subst htv
      obtain ⟨Q, hQ⟩ : ∃ Q, Rd.ticks 6 F k = Q := ⟨_, rfl⟩
      have HLQ : Hid (Q.1.length = k) := by show _ = _; rw [← hQ]; exact ticks_length 6 F k
      have hMQ := HM.out.1
      have htr := HM.out.2
      rw [hQ] at hMQ htk htr HTP
      have HTPO : Hid (Rd.tape 6 E = Q) := HTP
      have HY : Hid (lastR r.newer = if Q.2.over = 0 then (if ckReel S Q.1 = 0 then (0, S, Q.1) else (ckReel S Q.1, zeroS, [])) else (Q.2.over, zeroS, [])) := by
        show _ = _
        rw [HRS.out]
        unfold lastR
        simp only
        rw [HTPO.out]
      have HOV := hid (over_calls p Q.2 V hMQ.rd)
      have HMQ := hid hMQ
      have HTK := hid htk
      have HTR := hid htr
      clear HM hMQ htk htr hQ HTP HTPO
      go_wp2_with fail
      refine HOV.out.mono ?_
      rintro e q1 ⟨rfl, hq⟩
      rw [hq]
      clear hq q1 HOV
      by_cases hov : Q.2.over = 0
      case neg =>
        rw [if_neg hov] at HY
        obtain ⟨q0, q1, q2, q3, q4, q5⟩ := reel_cellsS (HRE.out V HMQ.out.kp)
        have qf := fun j => frozen_of_row V w.heap.size j _ _ (HRE.out V HMQ.out.kp)
        have hz0 : ((Q.2.over : Int) == 0) = false := by rw [beq_eq_false_iff_ne]; omega
        have hz1 : 0 < Q.2.over := by omega
        have hz2 : (0 : Int) < (Q.2.over : Int) := by omega
        have HF := hid (HBX.out V HMQ.out.be HMQ.out.kp)
        clear hov
        go_wp2
        rw [HY.out]
        refine bodyPost_ret (v := .tuple #[reelV 0 0 0 0 (.slice none 0 0) (.slice none 0 0), .int .i64 Q.2.over]) (by simp [results, Tryz.results29, go_sem, q0, q1, q2, q3, q4, q5]) rfl ⟨none, none, 0, 0, rfl, inW_zero _, Or.inl rfl, ?_⟩
        exact (Below.setCell (Below.setCell (Below.setCell (Below.setCell (Below.setCell (Below.setCell HF.out (p := ⟨w.heap.size, 0, none⟩) (Nat.le_refl _) _) (p := ⟨w.heap.size, 1, none⟩) (Nat.le_refl _) _) (p := ⟨w.heap.size, 2, none⟩) (Nat.le_refl _) _) (p := ⟨w.heap.size, 3, none⟩) (Nat.le_refl _) _) (p := ⟨w.heap.size, 4, none⟩) (Nat.le_refl _) _) (p := ⟨w.heap.size, 5, none⟩) (Nat.le_refl _) _)
      rw [if_pos hov] at HY
      have hz0 : ((Q.2.over : Int) == 0) = true := by rw [hov]; rfl
      obtain ⟨x0, x1, x2, x3, x4, x5⟩ := reel_cellsS HMQ.out.bx
      obtain ⟨c, hc⟩ : ∃ c, ckReel S Q.1 = c := ⟨_, rfl⟩
      rw [hc] at HY
      have HFT := hid (reelFault_calls S ea ta ec tc Q.1 V (HIX.out V HMQ.out.kp) (by omega)  (by rw [HLQ.out]; omega) HTK.out)
      rw [hc] at HFT
      rw [hov] at hz0 ⊢
      clear hov hc
      go_wp2_with fail
      refine HFT.out.mono ?_
      rintro e w7 ⟨rfl, hb7⟩
      have HM7 := hid (HMQ.out.below hb7)
      have HT7 : Hid (TksRO X.heap.size w7 (.slice ta Q.1.length tc) Q.1) := HTR.out.same hb7.size (fun q _ hq => hb7.block q hq)
      clear hb7 HFT HMQ HTK HTR x0 x1 x2 x3 x4 x5
      obtain ⟨q0, q1, q2, q3, q4, q5⟩ := reel_cellsS (HRE.out w7 HM7.out.kp)
      have qf := fun j => frozen_of_row w7 w.heap.size j _ _ (HRE.out w7 HM7.out.kp)
      have HF := hid (HBX.out w7 HM7.out.be HM7.out.kp)
      by_cases hc0 : c = 0
      case neg =>
        rw [if_neg hc0] at HY
        have hz1 : 0 < c := by omega
        have hz2 : (0 : Int) < (c : Int) := by omega
        clear hc0
        go_wp2
        rw [HY.out]
        refine bodyPost_ret (v := .tuple #[reelV 0 0 0 0 (.slice none 0 0) (.slice none 0 0), .int .i64 c]) (by simp [results, Tryz.results29, go_sem, q0, q1, q2, q3, q4, q5]) rfl ⟨none, none, 0, 0, rfl, inW_zero _, Or.inl rfl, ?_⟩
        exact (Below.setCell (Below.setCell (Below.setCell (Below.setCell (Below.setCell (Below.setCell HF.out (p := ⟨w.heap.size, 0, none⟩) (Nat.le_refl _) _) (p := ⟨w.heap.size, 1, none⟩) (Nat.le_refl _) _) (p := ⟨w.heap.size, 2, none⟩) (Nat.le_refl _) _) (p := ⟨w.heap.size, 3, none⟩) (Nat.le_refl _) _) (p := ⟨w.heap.size, 4, none⟩) (Nat.le_refl _) _) (p := ⟨w.heap.size, 5, none⟩) (Nat.le_refl _) _)
      rw [if_pos hc0] at HY
      subst hc0
      obtain ⟨z0, z1, z2, z3, z4, z5⟩ := reel_cellsS HM7.out.bx
      have HI7 := hid (HIX.out w7 HM7.out.kp)
      go_wp2
      rw [HY.out]
      refine bodyPost_ret (v := .tuple #[reelV S.t S.g0 S.g1 S.nx (.slice ea S.es.length ec) (.slice ta Q.1.length tc), .int .i64 0]) (by simp [results, Tryz.results29, go_sem, q0, q1, q2, q3, q4, q5]) rfl ⟨ea, ta, ec, tc, rfl, ?_, ?_, ?_⟩
      · refine ⟨HI7.out.un, HI7.out.cap, recs_blk HI7.out.rows (fun b o e => setS6_heap ?_), HI7.out.fr, HI7.out.born⟩
        have := HFE.out b o e; omega
      · exact tksRO_end HT7.out (by simp [World.size_setCell]) (fun q hB hq => setS6_heap (by omega))
      · exact (Below.setCell (Below.setCell (Below.setCell (Below.setCell (Below.setCell (Below.setCell HF.out (p := ⟨w.heap.size, 0, none⟩) (Nat.le_refl _) _) (p := ⟨w.heap.size, 1, none⟩) (Nat.le_refl _) _) (p := ⟨w.heap.size, 2, none⟩) (Nat.le_refl _) _) (p := ⟨w.heap.size, 3, none⟩) (Nat.le_refl _) _) (p := ⟨w.heap.size, 4, none⟩) (Nat.le_refl _) _) (p := ⟨w.heap.size, 5, none⟩) (Nat.le_refl _) _)
end Go.Proofs.YtcbalhicaipmlaaGreat

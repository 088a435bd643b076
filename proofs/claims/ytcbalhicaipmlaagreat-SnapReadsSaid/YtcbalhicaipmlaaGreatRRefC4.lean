/- The reference's game: what is wrong with one by itself: another one of a wrong shape. -/
import Derived.Test.YtcbalhicaipmlaaGreatRRefBA
import Derived.Test.YtcbalhicaipmlaaGreatRNwK
import Derived.Test.YtcbalhicaipmlaaGreatRRefC2
import Derived.Test.YtcbalhicaipmlaaGreatRRefC3
namespace Go.Proofs.YtcbalhicaipmlaaGreat
open Go.RowKit
set_option maxRecDepth 100000 in
set_option maxHeartbeats 8000000 in
theorem one_shape5 (p : Nat) (nw : Bool) (tick : Int) (u : List Int) (w : World) (h0 : w.cell? ⟨p, 0, none⟩ = some (.bool nw)) (h1 : w.cell? ⟨p, 1, none⟩ = some (.int .i64 tick)) (hp : p < w.heap.size) (hk4 : (fld u 2 == 4) = false) (hMO : mostR nw (fld u 2) = fld (ruleL nw (fld u 2)) 1) (hbo : boundR nw tick u = false) :
    Calls Tryz.prog 70 #[.pointer (some ⟨p, 0, none⟩), unitV u] w fun e w' => e = .returned (.int .i64 (shapeR nw u)) ∧ Below w.heap.size w w' := by
  have HBO := hid hbo
  have HMO := hid hMO
  clear hbo hMO
  obtain ⟨W, hW⟩ : ∃ W, w.alloc (.cells (unitC u) 121) = W := ⟨_, rfl⟩
  have hbW : Below w.heap.size w W := by rw [← hW]; exact (Below.refl _ w).alloc (Nat.le_refl _) _
  have hhW : W.heap[w.heap.size]? = some (.cells (unitC u) 121) := by rw [← hW]; exact heap_alloc_new _ _
  have hsW : W.heap.size = w.heap.size + 1 := by rw [← hW]; simp [go_sem]
  have d0 : W.cell? ⟨p, 0, none⟩ = some (.bool nw) := (hbW.cell (p := ⟨p, 0, none⟩) hp).trans h0
  have HBW := hid hbW
  have HHW := hid hhW
  have HSW := hid hsW
  have KX : ∀ j w', Below W.heap.size W w' → w'.cell? ⟨w.heap.size, j, none⟩ = (unitC u)[j]? := fun j w' h => cell_of_row w' _ j _ _ _ ((h.block _ (by omega)).trans hhW)
  have K0 : ∀ w', Below W.heap.size W w' → w'.cell? ⟨p, 0, none⟩ = some (.bool nw) := fun w' h => (h.cell (p := ⟨p, 0, none⟩) (show p < W.heap.size by omega)).trans d0
  have K1 : ∀ w', Below W.heap.size W w' → w'.cell? ⟨p, 1, none⟩ = some (.int .i64 tick) := fun w' h => (h.cell (p := ⟨p, 1, none⟩) (show p < W.heap.size by omega)).trans ((hbW.cell (p := ⟨p, 1, none⟩) hp).trans h1)
  have x2 : ∀ w', Below W.heap.size W w' → w'.cell? ⟨w.heap.size, 2, none⟩ = some (.int .i64 (fld u 2)) := KX 2
  have HKX := hid KX
  have HK1 := hid K1
  clear hbW hhW hsW h0 h1 KX K1
  go_enter Tryz.func70, Tryz.ntmps70
  go_wp2_with fail
  refine (bounds_calls p nw _ d0).mono ?_
  rintro e w1 ⟨rfl, rfl⟩
  go_wp2_with fail
  clear d0 hW
  go_cut [7, 8] (fun r s wx => ∃ b, r = .pointer (some ⟨b, 0, none⟩) ∧ s = .bool (hasB nw (fld u 2)) ∧ Hid (wx.heap[b]? = some (.cells (ruleCR nw (fld u 2)) 124) ∧ Below w1.heap.size w1 wx))
  case first =>
    go_region_held3 (fun w' => Below w1.heap.size w1 w') (first | (rw [six6_nest]; exact below_six6 (by assumption) (Nat.le_refl _)) | with_reducible exact (Below.refl _ _).drew | with_reducible exact HB2.out | exact Below.alloc (by assumption) (Below.size (by assumption)) _)
      (first
        | (go_at_call 103; refine (ruleB_calls nw (fld u 2) _).mono ?_; rintro e w2 ⟨rfl, hb2⟩; have hq : Box6 w2 w1.heap.size := Box6.below (Box6.new w1.drew) hb2; have HB2 : Hid (Below w1.heap.size w1 w2) := Below.trans (by assumption) (hb2.mono (Below.size (by assumption))); have HQ := hid hq; obtain ⟨q0, q1, q2, q3, q4, q5, qf⟩ := hq.zero; clear hb2 hq)
        | (go_at_call 103; refine (ruleB_calls nw (fld u 2) _).mono ?_; rintro e w2 ⟨rfl, hb2⟩; have HB2 : Hid (Below w1.heap.size w1 w2) := Below.trans (by assumption) (hb2.mono (Below.size (by assumption))); clear hb2))
    all_goals
      go_wp2
      go_meet
      first
        | exact ⟨_, rfl, rfl, Box6.fill HQ.out _ _ _ _ _ _, below_six6 HB2.out (Nat.le_refl _)⟩
        | exact ⟨_, rfl, rfl, heap_alloc_new _ _, HB2.out.alloc HB2.out.size _⟩
  case rest =>
    obtain ⟨b, rfl, rfl, HM⟩ := hcut
    have HBc := hid HM.out.2
    have r1 : wc.cell? ⟨b, 1, none⟩ = some (.int .i64 (fld (ruleL nw (fld u 2)) 1)) := cell_of_row wc _ 1 _ _ _ HM.out.1
    have r2 : wc.cell? ⟨b, 2, none⟩ = some (.int .i64 (fld (ruleL nw (fld u 2)) 2)) := cell_of_row wc _ 2 _ _ _ HM.out.1
    have x0 : wc.cell? ⟨w.heap.size, 0, none⟩ = some (.int .i64 (fld u 0)) := HKX.out 0 wc HBc.out
    have x1 : wc.cell? ⟨w.heap.size, 1, none⟩ = some (.int .i64 (fld u 1)) := HKX.out 1 wc HBc.out
    have y2 : wc.cell? ⟨w.heap.size, 2, none⟩ = some (.int .i64 (fld u 2)) := HKX.out 2 wc HBc.out
    have x3 : wc.cell? ⟨w.heap.size, 3, none⟩ = some (.int .i64 (fld u 3)) := HKX.out 3 wc HBc.out
    have x4 : wc.cell? ⟨w.heap.size, 4, none⟩ = some (.int .i64 (fld u 4)) := HKX.out 4 wc HBc.out
    have x5 : wc.cell? ⟨w.heap.size, 5, none⟩ = some (.int .i64 (fld u 5)) := HKX.out 5 wc HBc.out
    have x6 : wc.cell? ⟨w.heap.size, 6, none⟩ = some (.int .i64 (fld u 6)) := HKX.out 6 wc HBc.out
    have x7 : wc.cell? ⟨w.heap.size, 7, none⟩ = some (.int .i64 (fld u 7)) := HKX.out 7 wc HBc.out
    have x8 : wc.cell? ⟨w.heap.size, 8, none⟩ = some (.int .i64 (fld u 8)) := HKX.out 8 wc HBc.out
    have x9 : wc.cell? ⟨w.heap.size, 9, none⟩ = some (.int .i64 (fld u 9)) := HKX.out 9 wc HBc.out
    have x10 : wc.cell? ⟨w.heap.size, 10, none⟩ = some (.int .i64 (fld u 10)) := HKX.out 10 wc HBc.out
    have k0 := K0 wc HBc.out
    have k1 := HK1.out wc HBc.out
    have HBF : Hid (Below w.heap.size w wc) := HBW.out.trans (HBc.out.mono (by rw [HSW.out]; omega))
    clear HM HBc HKX HK1 K0 x2
    go_wp2_with fail
    refine (refOn_calls (fld u 3) (fld u 4) _).mono ?_
    rintro e w5 ⟨rfl, rfl⟩
    go_wp2_with fail
    clear r1
    simp only [List.append_eq, List.cons_append, List.nil_append]
    go_cut [105] (fun r wx => r = .bool false ∧ Hid (∃ n, wx = w5.drewN n))
    case first =>
      have hlast : (nw = false ∧ sinceB nw tick u = false) ∨ (nw = true ∧ (decide (fld u 10 < 0) = true ∧ sinceB nw tick u = true)) ∨ (nw = true ∧ decide (fld u 10 < 0) = false ∧ decide (tick < fld u 10) = true ∧ sinceB nw tick u = true) ∨ (nw = true ∧ decide (fld u 10 < 0) = false ∧ decide (tick < fld u 10) = false ∧ sinceB nw tick u = false) := since_ways nw tick u
      have hch := tf (!hasB nw (fld u 2)) (tf (decide (fld u 0 < 1)) (tf (decide (topZ nw < fld u 0)) (tf (!Pl.onB (fld u 3) (fld u 4)) (tf (decide (fld u 5 < 1)) (tf (decide ((mostR nw (fld u 2)) < fld u 5)) (tf (decide (fld u 6 < 0)) (tf (decide (3 < fld u 6)) (tf (decide (fld u 9 < 0)) (tf (decide (topZ nw < fld u 9)) hlast)))))))))
      rw [HMO.out] at hch
      have hbv := HBO.out
      unfold boundR at hbv
      rw [HMO.out] at hbv
      clear hlast
      rcases hch with h1 | ⟨h1, h2 | ⟨h2, h3 | ⟨h3, h4 | ⟨h4, h5 | ⟨h5, h6 | ⟨h6, h7 | ⟨h7, h8 | ⟨h8, h9 | ⟨h9, h10 | ⟨h10, hl⟩⟩⟩⟩⟩⟩⟩⟩⟩⟩
      · simp only [h1, Bool.true_or] at hbv
        cases hbv
      · simp only [h1, h2, Bool.true_or, Bool.false_or] at hbv
        cases hbv
      · simp only [h1, h2, h3, Bool.true_or, Bool.false_or] at hbv
        cases hbv
      · simp only [h1, h2, h3, h4, Bool.true_or, Bool.false_or] at hbv
        cases hbv
      · simp only [h1, h2, h3, h4, h5, Bool.true_or, Bool.false_or] at hbv
        cases hbv
      · simp only [h1, h2, h3, h4, h5, h6, Bool.true_or, Bool.false_or] at hbv
        cases hbv
      · simp only [h1, h2, h3, h4, h5, h6, h7, Bool.true_or, Bool.false_or] at hbv
        cases hbv
      · simp only [h1, h2, h3, h4, h5, h6, h7, h8, Bool.true_or, Bool.false_or] at hbv
        cases hbv
      · simp only [h1, h2, h3, h4, h5, h6, h7, h8, h9, Bool.true_or, Bool.false_or] at hbv
        cases hbv
      · simp only [h1, h2, h3, h4, h5, h6, h7, h8, h9, h10, Bool.true_or, Bool.false_or] at hbv
        cases hbv
      · simp only [h1, h2, h3, h4, h5, h6, h7, h8, h9, h10, Bool.false_or] at hbv
        rcases hl with ⟨rfl, hsb⟩ | ⟨rfl, hs1, hsb⟩ | ⟨rfl, hs1, hs2, hsb⟩ | ⟨rfl, hs1, hs2, hsb⟩
        · clear hbv hsb
          go_quiet (fail)
          go_wp2
          go_meet
          exact ⟨rfl, _, rfl⟩
        · rw [hsb] at hbv
          cases hbv
        · rw [hsb] at hbv
          cases hbv
        · clear hbv hsb
          go_quiet (fail)
          go_wp2
          go_meet
          exact ⟨rfl, _, rfl⟩
    case rest =>
      obtain ⟨rfl, HX⟩ := hcut
      obtain ⟨nq, rfl⟩ := HX.out
      have HBG : Hid (Below w.heap.size w (w5.drewN nq)) := below_drewN HBF.out nq
      clear HX HBF HMO k0 k1 HBO
      have HE0 : Hid (∀ b, ownR u = b → shapeR nw u = if b = true then 3 else if doesR nw u = true then 3 else 0) := fun b h => by unfold shapeR; rw [h]
      rcases tf (decide (fld u 1 < 0)) (tf (decide (2 < fld u 1)) (show (fld u 1 == 2) = true ∨ (fld u 1 == 2) = false by cases (fld u 1 == 2) <;> simp)) with o1 | ⟨o1, o2 | ⟨o2, o3⟩⟩
      · have HE := hid (HE0.out true (by unfold ownR; simp [o1]))
        go_wp2
        go_ret
        exact ⟨retI HE.out.symm, HBG.out⟩
      · have HE := hid (HE0.out true (by unfold ownR; simp [o2]))
        go_wp2
        go_ret
        exact ⟨retI HE.out.symm, HBG.out⟩
      · have HOW : Hid (ownR u = ((fld u 1 == 2) != (fld u 2 == 4))) := by show _ = _; unfold ownR; rw [o1, o2]; simp
        rcases o3 with o3 | o3
        · rw [o3, hk4] at HOW
          have HE := hid (HE0.out true (HOW.out.trans rfl))
          go_wp2
          go_ret
          exact ⟨retI HE.out.symm, HBG.out⟩
        · rw [o3, hk4] at HOW
          have HE1 := hid (HE0.out false (HOW.out.trans rfl))
          clear HE0 HOW
          go_wp2_with fail
          refine (refOn_calls (fld u 7) (fld u 8) _).mono ?_
          rintro e w6 ⟨rfl, rfl⟩
          have HON : Hid (∀ b, Pl.onB (fld u 7) (fld u 8) = b → doesR nw u = (((fld u 6 == 1) && (!b || fld (ruleL nw (fld u 2)) 2 == 0)) || (((fld u 6 != 1) && (fld u 7 != 0 || fld u 8 != 0)) || (decide (1 < fld u 6) != decide (0 < fld u 9))))) := fun b hb => by unfold doesR; rw [hb]
          generalize Pl.onB (fld u 7) (fld u 8) = bon at HON ⊢
          have HD := hid (HON.out bon rfl)
          clear HON
          go_wp2
          all_goals
            go_ret
            refine ⟨retI ?_, HBG.out⟩
            rw [HE1.out, HD.out]
            clear HE1 HD HBG HBW HHW HSW x0 x1 y2 x3 x4 x5 x6 x7 x8 x9 x10 r2
            simp_all
end Go.Proofs.YtcbalhicaipmlaaGreat
namespace Go.Proofs.YtcbalhicaipmlaaGreat
open Go.RowKit
theorem oneFault_calls (p : Nat) (nw : Bool) (tick : Int) (u : List Int) (w : World) (h0 : w.cell? ⟨p, 0, none⟩ = some (.bool nw)) (h1 : w.cell? ⟨p, 1, none⟩ = some (.int .i64 tick)) (hp : p < w.heap.size) :
    Calls Tryz.prog 70 #[.pointer (some ⟨p, 0, none⟩), unitV u] w fun e w' => e = .returned (.int .i64 (oneR nw tick u)) ∧ Below w.heap.size w w' := by
  by_cases hk : fld u 2 = 4
  · have hm : mostR nw (fld u 2) = 100 := by unfold mostR; rw [if_pos hk]
    cases hb : boundR nw tick u
    · rw [show oneR nw tick u = shapeR nw u by unfold oneR; rw [hb]; rfl]
      exact one_shape4 p nw tick u w h0 h1 hp (by simpa using hk) hm hb
    · rw [show oneR nw tick u = 1 by unfold oneR; rw [hb]; rfl]
      exact one_bound4 p nw tick u w h0 h1 hp (by simpa using hk) hm hb
  · have hm : mostR nw (fld u 2) = fld (ruleL nw (fld u 2)) 1 := by unfold mostR; rw [if_neg hk]
    cases hb : boundR nw tick u
    · rw [show oneR nw tick u = shapeR nw u by unfold oneR; rw [hb]; rfl]
      exact one_shape5 p nw tick u w h0 h1 hp (by simpa using hk) hm hb
    · rw [show oneR nw tick u = 1 by unfold oneR; rw [hb]; rfl]
      exact one_bound5 p nw tick u w h0 h1 hp (by simpa using hk) hm hb
end Go.Proofs.YtcbalhicaipmlaaGreat

/- The reference's game: what is wrong with one by itself: another one out of its bounds. -/
import Derived.Test.YtcbalhicaipmlaaGreatRRefBA
namespace Go.Proofs.YtcbalhicaipmlaaGreat
open Go.RowKit
set_option maxRecDepth 100000 in
set_option maxHeartbeats 8000000 in
theorem one_bound5 (p : Nat) (nw : Bool) (tick : Int) (u : List Int) (w : World) (h0 : w.cell? ⟨p, 0, none⟩ = some (.bool nw)) (h1 : w.cell? ⟨p, 1, none⟩ = some (.int .i64 tick)) (hp : p < w.heap.size) (hk4 : (fld u 2 == 4) = false) (hMO : mostR nw (fld u 2) = fld (ruleL nw (fld u 2)) 1) (hbo : boundR nw tick u = true) :
    Calls Tryz.prog 70 #[.pointer (some ⟨p, 0, none⟩), unitV u] w fun e w' => e = .returned (.int .i64 (1)) ∧ Below w.heap.size w w' := by
  have HBO := hid hbo
  have HMO := hid hMO
  clear hbo hMO
  obtain ⟨W, hW⟩ : ∃ W, w.alloc (.cells (unitC u) 121) = W := ⟨_, rfl⟩
  have hbW : Below w.heap.size w W := by rw [← hW]; exact (Below.refl _ w).alloc (Nat.le_refl _) _
  have hhW : W.heap[w.heap.size]? = some (.cells (unitC u) 121) := by rw [← hW]; exact heap_alloc_new _ _
  have hsW : W.heap.size = w.heap.size + 1 := by rw [← hW]; simp [go_sem]
  have d0 : W.cell? ⟨p, 0, none⟩ = some (.bool nw) := (hbW.cell (p := ⟨p, 0, none⟩) hp).trans h0
  have HBW := hid hbW
  have HHW := hid hhW
  have HSW := hid hsW
  have KX : ∀ j w', Below W.heap.size W w' → w'.cell? ⟨w.heap.size, j, none⟩ = (unitC u)[j]? := fun j w' h => cell_of_row w' _ j _ _ _ ((h.block _ (by omega)).trans hhW)
  have K0 : ∀ w', Below W.heap.size W w' → w'.cell? ⟨p, 0, none⟩ = some (.bool nw) := fun w' h => (h.cell (p := ⟨p, 0, none⟩) (show p < W.heap.size by omega)).trans d0
  have K1 : ∀ w', Below W.heap.size W w' → w'.cell? ⟨p, 1, none⟩ = some (.int .i64 tick) := fun w' h => (h.cell (p := ⟨p, 1, none⟩) (show p < W.heap.size by omega)).trans ((hbW.cell (p := ⟨p, 1, none⟩) hp).trans h1)
  have x2 : ∀ w', Below W.heap.size W w' → w'.cell? ⟨w.heap.size, 2, none⟩ = some (.int .i64 (fld u 2)) := KX 2
  have HKX := hid KX
  have HK1 := hid K1
  clear hbW hhW hsW h0 h1 KX K1
  go_enter Tryz.func70, Tryz.ntmps70
  go_wp2_with fail
  refine (bounds_calls p nw _ d0).mono ?_
  rintro e w1 ⟨rfl, rfl⟩
  go_wp2_with fail
  clear d0 hW
  go_cut [7, 8] (fun r s wx => ∃ b, r = .pointer (some ⟨b, 0, none⟩) ∧ s = .bool (hasB nw (fld u 2)) ∧ Hid (wx.heap[b]? = some (.cells (ruleCR nw (fld u 2)) 124) ∧ Below w1.heap.size w1 wx))
  case first =>
    go_region_held3 (fun w' => Below w1.heap.size w1 w') (first | (rw [six6_nest]; exact below_six6 (by assumption) (Nat.le_refl _)) | with_reducible exact (Below.refl _ _).drew | with_reducible exact HB2.out | exact Below.alloc (by assumption) (Below.size (by assumption)) _)
      (first
        | (go_at_call 103; refine (ruleB_calls nw (fld u 2) _).mono ?_; rintro e w2 ⟨rfl, hb2⟩; have hq : Box6 w2 w1.heap.size := Box6.below (Box6.new w1.drew) hb2; have HB2 : Hid (Below w1.heap.size w1 w2) := Below.trans (by assumption) (hb2.mono (Below.size (by assumption))); have HQ := hid hq; obtain ⟨q0, q1, q2, q3, q4, q5, qf⟩ := hq.zero; clear hb2 hq)
        | (go_at_call 103; refine (ruleB_calls nw (fld u 2) _).mono ?_; rintro e w2 ⟨rfl, hb2⟩; have HB2 : Hid (Below w1.heap.size w1 w2) := Below.trans (by assumption) (hb2.mono (Below.size (by assumption))); clear hb2))
    all_goals
      go_wp2
      go_meet
      first
        | exact ⟨_, rfl, rfl, Box6.fill HQ.out _ _ _ _ _ _, below_six6 HB2.out (Nat.le_refl _)⟩
        | exact ⟨_, rfl, rfl, heap_alloc_new _ _, HB2.out.alloc HB2.out.size _⟩
  case rest =>
    obtain ⟨b, rfl, rfl, HM⟩ := hcut
    have HBc := hid HM.out.2
    have r1 : wc.cell? ⟨b, 1, none⟩ = some (.int .i64 (fld (ruleL nw (fld u 2)) 1)) := cell_of_row wc _ 1 _ _ _ HM.out.1
    have r2 : wc.cell? ⟨b, 2, none⟩ = some (.int .i64 (fld (ruleL nw (fld u 2)) 2)) := cell_of_row wc _ 2 _ _ _ HM.out.1
    have x0 : wc.cell? ⟨w.heap.size, 0, none⟩ = some (.int .i64 (fld u 0)) := HKX.out 0 wc HBc.out
    have x1 : wc.cell? ⟨w.heap.size, 1, none⟩ = some (.int .i64 (fld u 1)) := HKX.out 1 wc HBc.out
    have y2 : wc.cell? ⟨w.heap.size, 2, none⟩ = some (.int .i64 (fld u 2)) := HKX.out 2 wc HBc.out
    have x3 : wc.cell? ⟨w.heap.size, 3, none⟩ = some (.int .i64 (fld u 3)) := HKX.out 3 wc HBc.out
    have x4 : wc.cell? ⟨w.heap.size, 4, none⟩ = some (.int .i64 (fld u 4)) := HKX.out 4 wc HBc.out
    have x5 : wc.cell? ⟨w.heap.size, 5, none⟩ = some (.int .i64 (fld u 5)) := HKX.out 5 wc HBc.out
    have x6 : wc.cell? ⟨w.heap.size, 6, none⟩ = some (.int .i64 (fld u 6)) := HKX.out 6 wc HBc.out
    have x7 : wc.cell? ⟨w.heap.size, 7, none⟩ = some (.int .i64 (fld u 7)) := HKX.out 7 wc HBc.out
    have x8 : wc.cell? ⟨w.heap.size, 8, none⟩ = some (.int .i64 (fld u 8)) := HKX.out 8 wc HBc.out
    have x9 : wc.cell? ⟨w.heap.size, 9, none⟩ = some (.int .i64 (fld u 9)) := HKX.out 9 wc HBc.out
    have x10 : wc.cell? ⟨w.heap.size, 10, none⟩ = some (.int .i64 (fld u 10)) := HKX.out 10 wc HBc.out
    have k0 := K0 wc HBc.out
    have k1 := HK1.out wc HBc.out
    have HBF : Hid (Below w.heap.size w wc) := HBW.out.trans (HBc.out.mono (by rw [HSW.out]; omega))
    clear HM HBc HKX HK1 K0 x2
    go_wp2_with fail
    refine (refOn_calls (fld u 3) (fld u 4) _).mono ?_
    rintro e w5 ⟨rfl, rfl⟩
    go_wp2_with fail
    clear r1
    simp only [List.append_eq, List.cons_append, List.nil_append]
    go_cut [105] (fun r wx => r = .bool true ∧ Hid (∃ n, wx = w5.drewN n))
    case first =>
      have hlast : (nw = false ∧ sinceB nw tick u = false) ∨ (nw = true ∧ (decide (fld u 10 < 0) = true ∧ sinceB nw tick u = true)) ∨ (nw = true ∧ decide (fld u 10 < 0) = false ∧ decide (tick < fld u 10) = true ∧ sinceB nw tick u = true) ∨ (nw = true ∧ decide (fld u 10 < 0) = false ∧ decide (tick < fld u 10) = false ∧ sinceB nw tick u = false) := since_ways nw tick u
      have hch := tf (!hasB nw (fld u 2)) (tf (decide (fld u 0 < 1)) (tf (decide (topZ nw < fld u 0)) (tf (!Pl.onB (fld u 3) (fld u 4)) (tf (decide (fld u 5 < 1)) (tf (decide ((mostR nw (fld u 2)) < fld u 5)) (tf (decide (fld u 6 < 0)) (tf (decide (3 < fld u 6)) (tf (decide (fld u 9 < 0)) (tf (decide (topZ nw < fld u 9)) hlast)))))))))
      rw [HMO.out] at hch
      have hbv := HBO.out
      unfold boundR at hbv
      rw [HMO.out] at hbv
      clear hlast
      rcases hch with h1 | ⟨h1, h2 | ⟨h2, h3 | ⟨h3, h4 | ⟨h4, h5 | ⟨h5, h6 | ⟨h6, h7 | ⟨h7, h8 | ⟨h8, h9 | ⟨h9, h10 | ⟨h10, hl⟩⟩⟩⟩⟩⟩⟩⟩⟩⟩
      · clear hbv
        go_quiet (fail)
        go_wp2
        go_meet
        exact ⟨rfl, _, rfl⟩
      · clear hbv
        go_quiet (fail)
        go_wp2
        go_meet
        exact ⟨rfl, _, rfl⟩
      · clear hbv
        go_quiet (fail)
        go_wp2
        go_meet
        exact ⟨rfl, _, rfl⟩
      · clear hbv
        go_quiet (fail)
        go_wp2
        go_meet
        exact ⟨rfl, _, rfl⟩
      · clear hbv
        go_quiet (fail)
        go_wp2
        go_meet
        exact ⟨rfl, _, rfl⟩
      · clear hbv
        go_quiet (fail)
        go_wp2
        go_meet
        exact ⟨rfl, _, rfl⟩
      · clear hbv
        go_quiet (fail)
        go_wp2
        go_meet
        exact ⟨rfl, _, rfl⟩
      · clear hbv
        go_quiet (fail)
        go_wp2
        go_meet
        exact ⟨rfl, _, rfl⟩
      · clear hbv
        go_quiet (fail)
        go_wp2
        go_meet
        exact ⟨rfl, _, rfl⟩
      · clear hbv
        go_quiet (fail)
        go_wp2
        go_meet
        exact ⟨rfl, _, rfl⟩
      · simp only [h1, h2, h3, h4, h5, h6, h7, h8, h9, h10, Bool.false_or] at hbv
        rcases hl with ⟨rfl, hsb⟩ | ⟨rfl, hs1, hsb⟩ | ⟨rfl, hs1, hs2, hsb⟩ | ⟨rfl, hs1, hs2, hsb⟩
        · rw [hsb] at hbv
          cases hbv
        · clear hbv hsb
          go_quiet (fail)
          go_wp2
          go_meet
          exact ⟨rfl, _, rfl⟩
        · clear hbv hsb
          go_quiet (fail)
          go_wp2
          go_meet
          exact ⟨rfl, _, rfl⟩
        · rw [hsb] at hbv
          cases hbv
    case rest =>
      obtain ⟨rfl, HX⟩ := hcut
      obtain ⟨nq, rfl⟩ := HX.out
      have HBG : Hid (Below w.heap.size w (w5.drewN nq)) := below_drewN HBF.out nq
      clear HX HBF HMO k0 k1 HBO
      go_wp2
      go_ret
      exact ⟨rfl, HBG.out⟩
end Go.Proofs.YtcbalhicaipmlaaGreat

/- Package snap: commands and orders are read. -/
import Derived.Test.YtgiieepfhohmhabGreatZRefEA
import Derived.Test.YtgiieepfhohmhabGreatZTnA
import Derived.Test.YtgiieepfhohmhabGreatZSnI
namespace Go.Proofs.YtgiieepfhohmhabGreat
open Go.RowKit
set_option maxHeartbeats 4000000 in
set_option maxRecDepth 100000 in
theorem readCmd_calls (p : Nat) (r : Rd) (w : World) (h : RdAt p r w) :
    Calls Tryz.prog 121 #[.pointer (some ⟨p, 0, none⟩)] w fun e w' => e = .returned (cmdV (r.many 7).1) ∧ RdAt p (r.many 7).2 w' ∧ Keep w (some p) w' := by
  obtain ⟨W, hW⟩ : ∃ W, w.alloc (.cells #[.int .i64 0, .int .i64 0, .int .i64 0, .int .i64 0, .int .i64 0, .int .i64 0, .int .i64 0] 125) = W := ⟨_, rfl⟩
  have hbW : Below w.heap.size w W := by rw [← hW]; exact (Below.refl _ w).alloc (Nat.le_refl _) _
  have hsW : W.heap.size = w.heap.size + 1 := by rw [← hW]; simp [go_sem]
  have hh0 : W.heap[w.heap.size]? = some (.cells #[.int .i64 0, .int .i64 0, .int .i64 0, .int .i64 0, .int .i64 0, .int .i64 0, .int .i64 0] 125) := by rw [← hW]; exact heap_alloc_new _ _
  have hp := h.lt
  have HBW := hid hbW
  have HSW := hid hsW
  have H0 := hid hh0
  have h0 := h.below hbW
  clear h hbW hsW hh0
  obtain ⟨R1, hR1⟩ : ∃ R, (r).num = R := ⟨_, rfl⟩
  obtain ⟨R2, hR2⟩ : ∃ R, (R1.2).num = R := ⟨_, rfl⟩
  obtain ⟨R3, hR3⟩ : ∃ R, (R2.2).num = R := ⟨_, rfl⟩
  obtain ⟨R4, hR4⟩ : ∃ R, (R3.2).num = R := ⟨_, rfl⟩
  obtain ⟨R5, hR5⟩ : ∃ R, (R4.2).num = R := ⟨_, rfl⟩
  obtain ⟨R6, hR6⟩ : ∃ R, (R5.2).num = R := ⟨_, rfl⟩
  obtain ⟨R7, hR7⟩ : ∃ R, (R6.2).num = R := ⟨_, rfl⟩
  have HM : Hid (r.many 7 = ([R1.1, R2.1, R3.1, R4.1, R5.1, R6.1, R7.1], R7.2)) := by
    show _ = _
    simp only [Rd.many, hR1, hR2, hR3, hR4, hR5, hR6, hR7, List.nil_append, List.cons_append]
  have HC1 := hid (readNum_calls p r W h0)
  rw [hR1] at HC1
  clear h0
  go_enter Tryz.func121, Tryz.ntmps121
  go_wp2_with fail
  refine HC1.out.mono ?_
  rintro e w1 ⟨rfl, h1, k1⟩
  have HK1 : Hid (Keep W (some p) w1) := k1
  clear k1 HC1 hW
  have HC2 := hid (readNum_calls p R1.2 w1 h1)
  rw [hR2] at HC2
  clear h1
  go_wp2_with fail
  refine HC2.out.mono ?_
  rintro e w2 ⟨rfl, h2, k2⟩
  have HK2 : Hid (Keep W (some p) w2) := keep_trans HK1.out k2
  clear k2 HC2 HK1
  have HC3 := hid (readNum_calls p R2.2 w2 h2)
  rw [hR3] at HC3
  clear h2
  go_wp2_with fail
  refine HC3.out.mono ?_
  rintro e w3 ⟨rfl, h3, k3⟩
  have HK3 : Hid (Keep W (some p) w3) := keep_trans HK2.out k3
  clear k3 HC3 HK2
  have HC4 := hid (readNum_calls p R3.2 w3 h3)
  rw [hR4] at HC4
  clear h3
  go_wp2_with fail
  refine HC4.out.mono ?_
  rintro e w4 ⟨rfl, h4, k4⟩
  have HK4 : Hid (Keep W (some p) w4) := keep_trans HK3.out k4
  clear k4 HC4 HK3
  have HC5 := hid (readNum_calls p R4.2 w4 h4)
  rw [hR5] at HC5
  clear h4
  go_wp2_with fail
  refine HC5.out.mono ?_
  rintro e w5 ⟨rfl, h5, k5⟩
  have HK5 : Hid (Keep W (some p) w5) := keep_trans HK4.out k5
  clear k5 HC5 HK4
  have HC6 := hid (readNum_calls p R5.2 w5 h5)
  rw [hR6] at HC6
  clear h5
  go_wp2_with fail
  refine HC6.out.mono ?_
  rintro e w6 ⟨rfl, h6, k6⟩
  have HK6 : Hid (Keep W (some p) w6) := keep_trans HK5.out k6
  clear k6 HC6 HK5
  have HC7 := hid (readNum_calls p R6.2 w6 h6)
  rw [hR7] at HC7
  clear h6
  go_wp2_with fail
  refine HC7.out.mono ?_
  rintro e w7 ⟨rfl, h7, k7⟩
  have HK7 : Hid (Keep W (some p) w7) := keep_trans HK6.out k7
  clear k7 HC7 HK6
  have hh := (HK7.out.2 w.heap.size (by rw [HSW.out]; omega) (fun e => by cases e; omega)).trans H0.out
  have hq := cells_at' hh
  have q0 : w7.cell? ⟨w.heap.size, 0, none⟩ = some (.int .i64 0) := hq.1 0 _ rfl
  have q1 : w7.cell? ⟨w.heap.size, 1, none⟩ = some (.int .i64 0) := hq.1 1 _ rfl
  have q2 : w7.cell? ⟨w.heap.size, 2, none⟩ = some (.int .i64 0) := hq.1 2 _ rfl
  have q3 : w7.cell? ⟨w.heap.size, 3, none⟩ = some (.int .i64 0) := hq.1 3 _ rfl
  have q4 : w7.cell? ⟨w.heap.size, 4, none⟩ = some (.int .i64 0) := hq.1 4 _ rfl
  have q5 : w7.cell? ⟨w.heap.size, 5, none⟩ = some (.int .i64 0) := hq.1 5 _ rfl
  have q6 : w7.cell? ⟨w.heap.size, 6, none⟩ = some (.int .i64 0) := hq.1 6 _ rfl
  have qf := hq.2
  have HRD := hid h7
  have HKP : Hid (Keep w (some p) w7) := keep_from HBW.out HK7.out
  have hne : p ≠ w.heap.size := by omega
  clear h7 hh hq HK7 hR1 hR2 hR3 hR4 hR5 hR6 hR7
  go_wp2
  rw [HM.out]
  refine bodyPost_ret (v := cmdV [R1.1, R2.1, R3.1, R4.1, R5.1, R6.1, R7.1]) (by simp [results, Tryz.results121, go_sem, q0, q1, q2, q3, q4, q5, q6]; try exact ⟨rfl, rfl, rfl, rfl, rfl, rfl, rfl⟩) rfl ⟨rfl, ?_, ?_⟩
  · exact (rd_off (rd_off (rd_off (rd_off (rd_off (rd_off (rd_off HRD.out hne) hne) hne) hne) hne) hne) hne)
  · exact (keep_off (keep_off (keep_off (keep_off (keep_off (keep_off (keep_off HKP.out (Nat.le_refl _)) (Nat.le_refl _)) (Nat.le_refl _)) (Nat.le_refl _)) (Nat.le_refl _)) (Nat.le_refl _)) (Nat.le_refl _))
set_option maxHeartbeats 4000000 in
set_option maxRecDepth 100000 in
theorem readOrder_calls (p : Nat) (r : Rd) (w : World) (h : RdAt p r w) :
    Calls Tryz.prog 126 #[.pointer (some ⟨p, 0, none⟩)] w fun e w' => e = .returned (ordV (r.many 6).1) ∧ RdAt p (r.many 6).2 w' ∧ Keep w (some p) w' := by
  obtain ⟨W, hW⟩ : ∃ W, w.alloc (.cells #[.int .i64 0, .int .i64 0, .int .i64 0, .int .i64 0, .int .i64 0, .int .i64 0] 131) = W := ⟨_, rfl⟩
  have hbW : Below w.heap.size w W := by rw [← hW]; exact (Below.refl _ w).alloc (Nat.le_refl _) _
  have hsW : W.heap.size = w.heap.size + 1 := by rw [← hW]; simp [go_sem]
  have hh0 : W.heap[w.heap.size]? = some (.cells #[.int .i64 0, .int .i64 0, .int .i64 0, .int .i64 0, .int .i64 0, .int .i64 0] 131) := by rw [← hW]; exact heap_alloc_new _ _
  have hp := h.lt
  have HBW := hid hbW
  have HSW := hid hsW
  have H0 := hid hh0
  have h0 := h.below hbW
  clear h hbW hsW hh0
  obtain ⟨R1, hR1⟩ : ∃ R, (r).num = R := ⟨_, rfl⟩
  obtain ⟨R2, hR2⟩ : ∃ R, (R1.2).num = R := ⟨_, rfl⟩
  obtain ⟨R3, hR3⟩ : ∃ R, (R2.2).num = R := ⟨_, rfl⟩
  obtain ⟨R4, hR4⟩ : ∃ R, (R3.2).num = R := ⟨_, rfl⟩
  obtain ⟨R5, hR5⟩ : ∃ R, (R4.2).num = R := ⟨_, rfl⟩
  obtain ⟨R6, hR6⟩ : ∃ R, (R5.2).num = R := ⟨_, rfl⟩
  have HM : Hid (r.many 6 = ([R1.1, R2.1, R3.1, R4.1, R5.1, R6.1], R6.2)) := by
    show _ = _
    simp only [Rd.many, hR1, hR2, hR3, hR4, hR5, hR6, List.nil_append, List.cons_append]
  have HC1 := hid (readNum_calls p r W h0)
  rw [hR1] at HC1
  clear h0
  go_enter Tryz.func126, Tryz.ntmps126
  go_wp2_with fail
  refine HC1.out.mono ?_
  rintro e w1 ⟨rfl, h1, k1⟩
  have HK1 : Hid (Keep W (some p) w1) := k1
  clear k1 HC1 hW
  have HC2 := hid (readNum_calls p R1.2 w1 h1)
  rw [hR2] at HC2
  clear h1
  go_wp2_with fail
  refine HC2.out.mono ?_
  rintro e w2 ⟨rfl, h2, k2⟩
  have HK2 : Hid (Keep W (some p) w2) := keep_trans HK1.out k2
  clear k2 HC2 HK1
  have HC3 := hid (readNum_calls p R2.2 w2 h2)
  rw [hR3] at HC3
  clear h2
  go_wp2_with fail
  refine HC3.out.mono ?_
  rintro e w3 ⟨rfl, h3, k3⟩
  have HK3 : Hid (Keep W (some p) w3) := keep_trans HK2.out k3
  clear k3 HC3 HK2
  have HC4 := hid (readNum_calls p R3.2 w3 h3)
  rw [hR4] at HC4
  clear h3
  go_wp2_with fail
  refine HC4.out.mono ?_
  rintro e w4 ⟨rfl, h4, k4⟩
  have HK4 : Hid (Keep W (some p) w4) := keep_trans HK3.out k4
  clear k4 HC4 HK3
  have HC5 := hid (readNum_calls p R4.2 w4 h4)
  rw [hR5] at HC5
  clear h4
  go_wp2_with fail
  refine HC5.out.mono ?_
  rintro e w5 ⟨rfl, h5, k5⟩
  have HK5 : Hid (Keep W (some p) w5) := keep_trans HK4.out k5
  clear k5 HC5 HK4
  have HC6 := hid (readNum_calls p R5.2 w5 h5)
  rw [hR6] at HC6
  clear h5
  go_wp2_with fail
  refine HC6.out.mono ?_
  rintro e w6 ⟨rfl, h6, k6⟩
  have HK6 : Hid (Keep W (some p) w6) := keep_trans HK5.out k6
  clear k6 HC6 HK5
  have hh := (HK6.out.2 w.heap.size (by rw [HSW.out]; omega) (fun e => by cases e; omega)).trans H0.out
  have hq := cells_at' hh
  have q0 : w6.cell? ⟨w.heap.size, 0, none⟩ = some (.int .i64 0) := hq.1 0 _ rfl
  have q1 : w6.cell? ⟨w.heap.size, 1, none⟩ = some (.int .i64 0) := hq.1 1 _ rfl
  have q2 : w6.cell? ⟨w.heap.size, 2, none⟩ = some (.int .i64 0) := hq.1 2 _ rfl
  have q3 : w6.cell? ⟨w.heap.size, 3, none⟩ = some (.int .i64 0) := hq.1 3 _ rfl
  have q4 : w6.cell? ⟨w.heap.size, 4, none⟩ = some (.int .i64 0) := hq.1 4 _ rfl
  have q5 : w6.cell? ⟨w.heap.size, 5, none⟩ = some (.int .i64 0) := hq.1 5 _ rfl
  have qf := hq.2
  have HRD := hid h6
  have HKP : Hid (Keep w (some p) w6) := keep_from HBW.out HK6.out
  have hne : p ≠ w.heap.size := by omega
  clear h6 hh hq HK6 hR1 hR2 hR3 hR4 hR5 hR6
  go_wp2
  rw [HM.out]
  refine bodyPost_ret (v := ordV [R1.1, R2.1, R3.1, R4.1, R5.1, R6.1]) (by simp [results, Tryz.results126, go_sem, q0, q1, q2, q3, q4, q5]; try exact ⟨rfl, rfl, rfl, rfl, rfl, rfl⟩) rfl ⟨rfl, ?_, ?_⟩
  · exact (rd_off (rd_off (rd_off (rd_off (rd_off (rd_off HRD.out hne) hne) hne) hne) hne) hne)
  · exact (keep_off (keep_off (keep_off (keep_off (keep_off (keep_off HKP.out (Nat.le_refl _)) (Nat.le_refl _)) (Nat.le_refl _)) (Nat.le_refl _)) (Nat.le_refl _)) (Nat.le_refl _))
end Go.Proofs.YtgiieepfhohmhabGreat

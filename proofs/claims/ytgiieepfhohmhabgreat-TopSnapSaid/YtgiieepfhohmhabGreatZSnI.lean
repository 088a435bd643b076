/- Package snap: records are read. -/
import Derived.Test.YtgiieepfhohmhabGreatZTnA
import Derived.Test.YtgiieepfhohmhabGreatZSnF
namespace Go.Proofs.YtgiieepfhohmhabGreat
open Go.RowKit
theorem rd_off {p g j : Nat} {r : Rd} {w : World} {v : Value} (h : RdAt p r w) (hn : p ≠ g) : RdAt p r (w.setCell ⟨g, j, none⟩ v) := by
  obtain ⟨x, h1, h2, h3⟩ := h
  exact ⟨x, (heap_setCell_other w ⟨g, j, none⟩ p v hn).trans h1, h2, h3⟩
theorem keep_off {W w : World} {ob : Option Nat} {g j : Nat} {v : Value} (h : Keep W ob w) (hg : W.heap.size ≤ g) : Keep W ob (w.setCell ⟨g, j, none⟩ v) :=
  ⟨h.1.setCell (p := ⟨g, j, none⟩) (Nat.zero_le _) v, fun k hk hn => (heap_setCell_other w ⟨g, j, none⟩ k v (fun e => by have e' : k = g := e; omega)).trans (h.2 k hk hn)⟩
theorem keep_from {a b c : World} {ob : Option Nat} (h : Below a.heap.size a b) (k : Keep b ob c) : Keep a ob c :=
  ⟨(h.mono (Nat.zero_le _)).trans k.1, fun i hi hn => (k.2 i (Nat.lt_of_lt_of_le hi h.size) hn).trans (h.block i hi)⟩
theorem cells_at' {w : World} {g : Nat} {cs : Array Value} {t : TypeId} (h : w.heap[g]? = some (.cells cs t)) : (∀ j v, cs[j]? = some v → w.cell? ⟨g, j, none⟩ = some v) ∧ ∀ j, w.frozen? ⟨g, j, none⟩ = false :=
  ⟨fun j _ hv => (cell_of_row w g j _ _ _ h).trans hv, fun j => frozen_of_row w g j _ _ h⟩
set_option maxHeartbeats 4000000 in
set_option maxRecDepth 100000 in
theorem readEnt_calls (p : Nat) (r : Rd) (w : World) (h : RdAt p r w) :
    Calls Tryz.prog 107 #[.pointer (some ⟨p, 0, none⟩)] w fun e w' => e = .returned (entV (r.many 10).1) ∧ RdAt p (r.many 10).2 w' ∧ Keep w (some p) w' := by
  obtain ⟨W, hW⟩ : ∃ W, w.alloc (.cells #[.int .i64 0, .int .i64 0, .int .i64 0, .int .i64 0, .int .i64 0, .int .i64 0, .int .i64 0, .int .i64 0, .int .i64 0, .int .i64 0] 116) = W := ⟨_, rfl⟩
  have hbW : Below w.heap.size w W := by rw [← hW]; exact (Below.refl _ w).alloc (Nat.le_refl _) _
  have hsW : W.heap.size = w.heap.size + 1 := by rw [← hW]; simp [go_sem]
  have hh0 : W.heap[w.heap.size]? = some (.cells #[.int .i64 0, .int .i64 0, .int .i64 0, .int .i64 0, .int .i64 0, .int .i64 0, .int .i64 0, .int .i64 0, .int .i64 0, .int .i64 0] 116) := by rw [← hW]; exact heap_alloc_new _ _
  have hp := h.lt
  have HBW := hid hbW
  have HSW := hid hsW
  have H0 := hid hh0
  have h0 := h.below hbW
  clear h hbW hsW hh0
  obtain ⟨R1, hR1⟩ : ∃ R, (r).num = R := ⟨_, rfl⟩
  obtain ⟨R2, hR2⟩ : ∃ R, (R1.2).num = R := ⟨_, rfl⟩
  obtain ⟨R3, hR3⟩ : ∃ R, (R2.2).num = R := ⟨_, rfl⟩
  obtain ⟨R4, hR4⟩ : ∃ R, (R3.2).num = R := ⟨_, rfl⟩
  obtain ⟨R5, hR5⟩ : ∃ R, (R4.2).num = R := ⟨_, rfl⟩
  obtain ⟨R6, hR6⟩ : ∃ R, (R5.2).num = R := ⟨_, rfl⟩
  obtain ⟨R7, hR7⟩ : ∃ R, (R6.2).num = R := ⟨_, rfl⟩
  obtain ⟨R8, hR8⟩ : ∃ R, (R7.2).num = R := ⟨_, rfl⟩
  obtain ⟨R9, hR9⟩ : ∃ R, (R8.2).num = R := ⟨_, rfl⟩
  obtain ⟨R10, hR10⟩ : ∃ R, (R9.2).num = R := ⟨_, rfl⟩
  have HM : Hid (r.many 10 = ([R1.1, R2.1, R3.1, R4.1, R5.1, R6.1, R7.1, R8.1, R9.1, R10.1], R10.2)) := by
    show _ = _
    simp only [Rd.many, hR1, hR2, hR3, hR4, hR5, hR6, hR7, hR8, hR9, hR10, List.nil_append, List.cons_append]
  have HC1 := hid (readNum_calls p r W h0)
  rw [hR1] at HC1
  clear h0
  go_enter Tryz.func107, Tryz.ntmps107
  go_wp2_with fail
  refine HC1.out.mono ?_
  rintro e w1 ⟨rfl, h1, k1⟩
  have HK1 : Hid (Keep W (some p) w1) := k1
  clear k1 HC1 hW
  have HC2 := hid (readNum_calls p R1.2 w1 h1)
  rw [hR2] at HC2
  clear h1
  go_wp2_with fail
  refine HC2.out.mono ?_
  rintro e w2 ⟨rfl, h2, k2⟩
  have HK2 : Hid (Keep W (some p) w2) := keep_trans HK1.out k2
  clear k2 HC2 HK1
  have HC3 := hid (readNum_calls p R2.2 w2 h2)
  rw [hR3] at HC3
  clear h2
  go_wp2_with fail
  refine HC3.out.mono ?_
  rintro e w3 ⟨rfl, h3, k3⟩
  have HK3 : Hid (Keep W (some p) w3) := keep_trans HK2.out k3
  clear k3 HC3 HK2
  have HC4 := hid (readNum_calls p R3.2 w3 h3)
  rw [hR4] at HC4
  clear h3
  go_wp2_with fail
  refine HC4.out.mono ?_
  rintro e w4 ⟨rfl, h4, k4⟩
  have HK4 : Hid (Keep W (some p) w4) := keep_trans HK3.out k4
  clear k4 HC4 HK3
  have HC5 := hid (readNum_calls p R4.2 w4 h4)
  rw [hR5] at HC5
  clear h4
  go_wp2_with fail
  refine HC5.out.mono ?_
  rintro e w5 ⟨rfl, h5, k5⟩
  have HK5 : Hid (Keep W (some p) w5) := keep_trans HK4.out k5
  clear k5 HC5 HK4
  have HC6 := hid (readNum_calls p R5.2 w5 h5)
  rw [hR6] at HC6
  clear h5
  go_wp2_with fail
  refine HC6.out.mono ?_
  rintro e w6 ⟨rfl, h6, k6⟩
  have HK6 : Hid (Keep W (some p) w6) := keep_trans HK5.out k6
  clear k6 HC6 HK5
  have HC7 := hid (readNum_calls p R6.2 w6 h6)
  rw [hR7] at HC7
  clear h6
  go_wp2_with fail
  refine HC7.out.mono ?_
  rintro e w7 ⟨rfl, h7, k7⟩
  have HK7 : Hid (Keep W (some p) w7) := keep_trans HK6.out k7
  clear k7 HC7 HK6
  have HC8 := hid (readNum_calls p R7.2 w7 h7)
  rw [hR8] at HC8
  clear h7
  go_wp2_with fail
  refine HC8.out.mono ?_
  rintro e w8 ⟨rfl, h8, k8⟩
  have HK8 : Hid (Keep W (some p) w8) := keep_trans HK7.out k8
  clear k8 HC8 HK7
  have HC9 := hid (readNum_calls p R8.2 w8 h8)
  rw [hR9] at HC9
  clear h8
  go_wp2_with fail
  refine HC9.out.mono ?_
  rintro e w9 ⟨rfl, h9, k9⟩
  have HK9 : Hid (Keep W (some p) w9) := keep_trans HK8.out k9
  clear k9 HC9 HK8
  have HC10 := hid (readNum_calls p R9.2 w9 h9)
  rw [hR10] at HC10
  clear h9
  go_wp2_with fail
  refine HC10.out.mono ?_
  rintro e w10 ⟨rfl, h10, k10⟩
  have HK10 : Hid (Keep W (some p) w10) := keep_trans HK9.out k10
  clear k10 HC10 HK9
  have hh := (HK10.out.2 w.heap.size (by rw [HSW.out]; omega) (fun e => by cases e; omega)).trans H0.out
  have hq := cells_at' hh
  have q0 : w10.cell? ⟨w.heap.size, 0, none⟩ = some (.int .i64 0) := hq.1 0 _ rfl
  have q1 : w10.cell? ⟨w.heap.size, 1, none⟩ = some (.int .i64 0) := hq.1 1 _ rfl
  have q2 : w10.cell? ⟨w.heap.size, 2, none⟩ = some (.int .i64 0) := hq.1 2 _ rfl
  have q3 : w10.cell? ⟨w.heap.size, 3, none⟩ = some (.int .i64 0) := hq.1 3 _ rfl
  have q4 : w10.cell? ⟨w.heap.size, 4, none⟩ = some (.int .i64 0) := hq.1 4 _ rfl
  have q5 : w10.cell? ⟨w.heap.size, 5, none⟩ = some (.int .i64 0) := hq.1 5 _ rfl
  have q6 : w10.cell? ⟨w.heap.size, 6, none⟩ = some (.int .i64 0) := hq.1 6 _ rfl
  have q7 : w10.cell? ⟨w.heap.size, 7, none⟩ = some (.int .i64 0) := hq.1 7 _ rfl
  have q8 : w10.cell? ⟨w.heap.size, 8, none⟩ = some (.int .i64 0) := hq.1 8 _ rfl
  have q9 : w10.cell? ⟨w.heap.size, 9, none⟩ = some (.int .i64 0) := hq.1 9 _ rfl
  have qf := hq.2
  have HRD := hid h10
  have HKP : Hid (Keep w (some p) w10) := keep_from HBW.out HK10.out
  have hne : p ≠ w.heap.size := by omega
  clear h10 hh hq HK10 hR1 hR2 hR3 hR4 hR5 hR6 hR7 hR8 hR9 hR10
  go_wp2
  rw [HM.out]
  refine bodyPost_ret (v := entV [R1.1, R2.1, R3.1, R4.1, R5.1, R6.1, R7.1, R8.1, R9.1, R10.1]) (by simp [results, Tryz.results107, go_sem, q0, q1, q2, q3, q4, q5, q6, q7, q8, q9]; try exact ⟨rfl, rfl, rfl, rfl, rfl, rfl, rfl, rfl, rfl, rfl⟩) rfl ⟨rfl, ?_, ?_⟩
  · exact (rd_off (rd_off (rd_off (rd_off (rd_off (rd_off (rd_off (rd_off (rd_off (rd_off HRD.out hne) hne) hne) hne) hne) hne) hne) hne) hne) hne)
  · exact (keep_off (keep_off (keep_off (keep_off (keep_off (keep_off (keep_off (keep_off (keep_off (keep_off HKP.out (Nat.le_refl _)) (Nat.le_refl _)) (Nat.le_refl _)) (Nat.le_refl _)) (Nat.le_refl _)) (Nat.le_refl _)) (Nat.le_refl _)) (Nat.le_refl _)) (Nat.le_refl _)) (Nat.le_refl _))
end Go.Proofs.YtgiieepfhohmhabGreat

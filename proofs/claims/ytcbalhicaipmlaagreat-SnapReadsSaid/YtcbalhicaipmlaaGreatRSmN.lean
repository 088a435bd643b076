/- SameNewer of what is the same; wealth. -/
import Derived.BigQuiet
import Derived.Test.YtcbalhicaipmlaaGreatProg
import Derived.WalkKit
import Derived.WalkLawsBesides
import Derived.WalkSpells
import Derived.Handy
import Derived.Below
import Derived.OwnWalk
import Derived.Shelf.Abstract
import Derived.Test.YtcbalhicaipmlaaGreatRNwK
import Derived.Test.YtcbalhicaipmlaaGreatRRefEA
import Derived.Test.YtcbalhicaipmlaaGreatRSnF
namespace Go.Proofs.YtcbalhicaipmlaaGreat
open Go.RowKit Go.Maps
theorem goldN_eq (a b : Int) (w : World) : (Op.equalIn 10000 22 (.agg #[.int .i64 a, .int .i64 b]) (.agg #[.int .i64 a, .int .i64 b])).run Tryz.prog w = .ok true w := by
  obtain ⟨i0, hi, _, _, _⟩ := info_parts info_int
  rw [Go.run_equalIn_array w 9999 _ _ Tryz.underlying22 hi]
  have e : List.range 2 = [0, 1] := rfl
  have c1 : Tryz.prog.cellsOf 3 = 1 := by kernel_rfl
  rw [e, c1]
  simp [Op.eqItems, go_sem]
theorem unit_eq (u : List Int) (w : World) : (Op.equalIn 10000 121 (unitV u) (unitV u)).run Tryz.prog w = .ok true w := by
  rw [run_equalIn_struct w 9999 121 _ _ (by kernel_rfl) (by kernel_rfl)]
  simp [go_sem]
set_option maxRecDepth 100000 in
set_option maxHeartbeats 4000000 in
theorem sameNewer_calls (t g0 g1 nx : Int) (es : List (List Int)) (ea eb : Option Addr) (ec ed : Nat) (w : World) (hne : es.length ≤ 100000) (h3 : Recs w ea 11 es) (h4 : Recs w eb 11 es) :
    Calls Tryz.prog 27 #[newerV t g0 g1 nx (.slice ea es.length ec), newerV t g0 g1 nx (.slice eb es.length ed)] w fun e w' => e = .returned (.bool true) ∧ Below w.heap.size w w' := by
  obtain ⟨W, hW⟩ : ∃ W, (w.alloc (.cells (newerC t g0 g1 nx (.slice ea es.length ec)) 32)).alloc (.cells (newerC t g0 g1 nx (.slice eb es.length ed)) 32) = W := ⟨_, rfl⟩
  have hbW : Below w.heap.size w W := by rw [← hW]; exact ((Below.refl _ w).alloc (Nat.le_refl _) _).alloc (by simp [go_sem]) _
  have hsW : W.heap.size = w.heap.size + 2 := by rw [← hW]; simp [go_sem]
  have hh0 : W.heap[w.heap.size]? = some (.cells (newerC t g0 g1 nx (.slice ea es.length ec)) 32) := by
    rw [← hW, heap_alloc_old _ _ (by simp [go_sem])]
    exact heap_alloc_new w _
  have hh1 : W.heap[w.heap.size + 1]? = some (.cells (newerC t g0 g1 nx (.slice eb es.length ed)) 32) := by
    have e : w.heap.size + 1 = (w.alloc (.cells (newerC t g0 g1 nx (.slice ea es.length ec)) 32)).heap.size := by simp [go_sem]
    rw [← hW, e]
    exact heap_alloc_new _ _
  obtain ⟨x0, x1, x2, x3, x4, _⟩ := five_cells hh0
  obtain ⟨y0, y1, y2, y3, y4, _⟩ := five_cells hh1
  have HA := hid (h3.below hbW)
  have HB := hid (h4.below hbW)
  have HBW := hid hbW
  have HSW := hid hsW
  have H0 := hid hh0
  have H1 := hid hh1
  have hgs := goldN_eq g0 g1
  have ht : (t != t) = false := by simp
  have hnx : (nx != nx) = false := by simp
  have hll : ((es.length : Int) != (es.length : Int)) = false := by simp
  clear h3 h4 hbW hsW hh0 hh1
  go_enter Tryz.func27, Tryz.ntmps27
  go_wp2_with fail
  clear x0 x1 x2 x3 x4 y0 y1 y2 y3 y4 hW hgs
  go_loopw [5] (fun i wr => ∃ k : Nat, k ≤ es.length ∧ i = .int .i64 k ∧ Hid (Below W.heap.size W wr)) (fun i _ => es.length - (intOf i).toNat)
  case atStart => exact ⟨0, Nat.zero_le _, rfl, Below.refl _ _⟩
  case round =>
    obtain ⟨k, hk, rfl, HBk⟩ := hrel
    have hq0 := (HBk.out.block w.heap.size (by rw [HSW.out]; omega)).trans H0.out
    have hq1 := (HBk.out.block (w.heap.size + 1) (by rw [HSW.out]; omega)).trans H1.out
    obtain ⟨_, _, _, _, z4, _⟩ := five_cells hq0
    obtain ⟨_, _, _, _, v4, _⟩ := five_cells hq1
    clear hq0 hq1
    by_cases hlt : k < es.length
    · have hltz : (k : Int) < (es.length : Int) := by omega
      obtain ⟨b, o, rfl, hc⟩ := (HA.out.below HBk.out).at hlt
      obtain ⟨b', o', rfl, hd⟩ := (HB.out.below HBk.out).at hlt
      have l0 : wr.cell? ⟨b, o + k * 11, none⟩ = some (.int .i64 (fld (rec es k) 0)) := hc 0 (by omega)
      have l1 := hc 1 (by omega)
      have l2 := hc 2 (by omega)
      have l3 := hc 3 (by omega)
      have l4 := hc 4 (by omega)
      have l5 := hc 5 (by omega)
      have l6 := hc 6 (by omega)
      have l7 := hc 7 (by omega)
      have l8 := hc 8 (by omega)
      have l9 := hc 9 (by omega)
      have l10 := hc 10 (by omega)
      have m0 : wr.cell? ⟨b', o' + k * 11, none⟩ = some (.int .i64 (fld (rec es k) 0)) := hd 0 (by omega)
      have m1 := hd 1 (by omega)
      have m2 := hd 2 (by omega)
      have m3 := hd 3 (by omega)
      have m4 := hd 4 (by omega)
      have m5 := hd 5 (by omega)
      have m6 := hd 6 (by omega)
      have m7 := hd 7 (by omega)
      have m8 := hd 8 (by omega)
      have m9 := hd 9 (by omega)
      have m10 := hd 10 (by omega)
      clear hc hd
      generalize rec es k = u at l0 l1 l2 l3 l4 l5 l6 l7 l8 l9 l10 m0 m1 m2 m3 m4 m5 m6 m7 m8 m9 m10
      have heq := unit_eq u
      go_wp2_with fail
      go_quiet (fail)
      go_wp2
      go_roundw
      case rel => exact ⟨k + 1, by omega, by go_num, below_drewN HBk.out _⟩
      case measure => simp [intOf]; omega
    · have hltz : ¬ (k : Int) < (es.length : Int) := by omega
      have HF : Hid (Below w.heap.size w wr) := HBW.out.trans (HBk.out.mono (by rw [HSW.out]; omega))
      go_wp2
      go_ret
      exact ⟨rfl, HF.out⟩
end Go.Proofs.YtcbalhicaipmlaaGreat
namespace Go.Proofs.YtcbalhicaipmlaaGreat
open Go.RowKit
def hv (k : Nat) : Nat := if k ≤ 1 then 0 else hv ((k + 1) / 2) + 1
termination_by k
decreasing_by omega
end Go.Proofs.YtcbalhicaipmlaaGreat
namespace Go.Proofs.YtcbalhicaipmlaaGreat
open Go.RowKit
set_option maxHeartbeats 4000000 in
set_option maxRecDepth 100000 in
theorem readCmd_calls (p : Nat) (r : Rd) (w : World) (h : RdAt p r w) :
    Calls Tryz.prog 82 #[.pointer (some ⟨p, 0, none⟩)] w fun e w' => e = .returned (cmdV (r.many 7).1) ∧ RdAt p (r.many 7).2 w' ∧ Keep w (some p) w' := by
  obtain ⟨W, hW⟩ : ∃ W, w.alloc (.cells #[.int .i64 0, .int .i64 0, .int .i64 0, .int .i64 0, .int .i64 0, .int .i64 0, .int .i64 0] 85) = W := ⟨_, rfl⟩
  have hbW : Below w.heap.size w W := by rw [← hW]; exact (Below.refl _ w).alloc (Nat.le_refl _) _
  have hsW : W.heap.size = w.heap.size + 1 := by rw [← hW]; simp [go_sem]
  have hh0 : W.heap[w.heap.size]? = some (.cells #[.int .i64 0, .int .i64 0, .int .i64 0, .int .i64 0, .int .i64 0, .int .i64 0, .int .i64 0] 85) := by rw [← hW]; exact heap_alloc_new _ _
  have hp := h.lt
  have HBW := hid hbW
  have HSW := hid hsW
  have H0 := hid hh0
  have h0 := h.below hbW
  clear h hbW hsW hh0
  obtain ⟨R1, hR1⟩ : ∃ R, (r).num = R := ⟨_, rfl⟩
  obtain ⟨R2, hR2⟩ : ∃ R, (R1.2).num = R := ⟨_, rfl⟩
  obtain ⟨R3, hR3⟩ : ∃ R, (R2.2).num = R := ⟨_, rfl⟩
  obtain ⟨R4, hR4⟩ : ∃ R, (R3.2).num = R := ⟨_, rfl⟩
  obtain ⟨R5, hR5⟩ : ∃ R, (R4.2).num = R := ⟨_, rfl⟩
  obtain ⟨R6, hR6⟩ : ∃ R, (R5.2).num = R := ⟨_, rfl⟩
  obtain ⟨R7, hR7⟩ : ∃ R, (R6.2).num = R := ⟨_, rfl⟩
  have HM : Hid (r.many 7 = ([R1.1, R2.1, R3.1, R4.1, R5.1, R6.1, R7.1], R7.2)) := by
    show _ = _
    simp only [Rd.many, hR1, hR2, hR3, hR4, hR5, hR6, hR7, List.nil_append, List.cons_append]
  have HC1 := hid (readNum_calls p r W h0)
  rw [hR1] at HC1
  clear h0
  go_enter Tryz.func82, Tryz.ntmps82
  go_wp2_with fail
  refine HC1.out.mono ?_
  rintro e w1 ⟨rfl, h1, k1⟩
  have HK1 : Hid (Keep W (some p) w1) := k1
  clear k1 HC1 hW
  have HC2 := hid (readNum_calls p R1.2 w1 h1)
  rw [hR2] at HC2
  clear h1
  go_wp2_with fail
  refine HC2.out.mono ?_
  rintro e w2 ⟨rfl, h2, k2⟩
  have HK2 : Hid (Keep W (some p) w2) := keep_trans HK1.out k2
  clear k2 HC2 HK1
  have HC3 := hid (readNum_calls p R2.2 w2 h2)
  rw [hR3] at HC3
  clear h2
  go_wp2_with fail
  refine HC3.out.mono ?_
  rintro e w3 ⟨rfl, h3, k3⟩
  have HK3 : Hid (Keep W (some p) w3) := keep_trans HK2.out k3
  clear k3 HC3 HK2
  have HC4 := hid (readNum_calls p R3.2 w3 h3)
  rw [hR4] at HC4
  clear h3
  go_wp2_with fail
  refine HC4.out.mono ?_
  rintro e w4 ⟨rfl, h4, k4⟩
  have HK4 : Hid (Keep W (some p) w4) := keep_trans HK3.out k4
  clear k4 HC4 HK3
  have HC5 := hid (readNum_calls p R4.2 w4 h4)
  rw [hR5] at HC5
  clear h4
  go_wp2_with fail
  refine HC5.out.mono ?_
  rintro e w5 ⟨rfl, h5, k5⟩
  have HK5 : Hid (Keep W (some p) w5) := keep_trans HK4.out k5
  clear k5 HC5 HK4
  have HC6 := hid (readNum_calls p R5.2 w5 h5)
  rw [hR6] at HC6
  clear h5
  go_wp2_with fail
  refine HC6.out.mono ?_
  rintro e w6 ⟨rfl, h6, k6⟩
  have HK6 : Hid (Keep W (some p) w6) := keep_trans HK5.out k6
  clear k6 HC6 HK5
  have HC7 := hid (readNum_calls p R6.2 w6 h6)
  rw [hR7] at HC7
  clear h6
  go_wp2_with fail
  refine HC7.out.mono ?_
  rintro e w7 ⟨rfl, h7, k7⟩
  have HK7 : Hid (Keep W (some p) w7) := keep_trans HK6.out k7
  clear k7 HC7 HK6
  have hh := (HK7.out.2 w.heap.size (by rw [HSW.out]; omega) (fun e => by cases e; omega)).trans H0.out
  have hq := cells_at' hh
  have q0 : w7.cell? ⟨w.heap.size, 0, none⟩ = some (.int .i64 0) := hq.1 0 _ rfl
  have q1 : w7.cell? ⟨w.heap.size, 1, none⟩ = some (.int .i64 0) := hq.1 1 _ rfl
  have q2 : w7.cell? ⟨w.heap.size, 2, none⟩ = some (.int .i64 0) := hq.1 2 _ rfl
  have q3 : w7.cell? ⟨w.heap.size, 3, none⟩ = some (.int .i64 0) := hq.1 3 _ rfl
  have q4 : w7.cell? ⟨w.heap.size, 4, none⟩ = some (.int .i64 0) := hq.1 4 _ rfl
  have q5 : w7.cell? ⟨w.heap.size, 5, none⟩ = some (.int .i64 0) := hq.1 5 _ rfl
  have q6 : w7.cell? ⟨w.heap.size, 6, none⟩ = some (.int .i64 0) := hq.1 6 _ rfl
  have qf := hq.2
  have HRD := hid h7
  have HKP : Hid (Keep w (some p) w7) := keep_from HBW.out HK7.out
  have hne : p ≠ w.heap.size := by omega
  clear h7 hh hq HK7 hR1 hR2 hR3 hR4 hR5 hR6 hR7
  go_wp2
  rw [HM.out]
  refine bodyPost_ret (v := cmdV [R1.1, R2.1, R3.1, R4.1, R5.1, R6.1, R7.1]) (by simp [results, Tryz.results82, go_sem, q0, q1, q2, q3, q4, q5, q6]; try exact ⟨rfl, rfl, rfl, rfl, rfl, rfl, rfl⟩) rfl ⟨rfl, ?_, ?_⟩
  · exact (rd_off (rd_off (rd_off (rd_off (rd_off (rd_off (rd_off HRD.out hne) hne) hne) hne) hne) hne) hne)
  · exact (keep_off (keep_off (keep_off (keep_off (keep_off (keep_off (keep_off HKP.out (Nat.le_refl _)) (Nat.le_refl _)) (Nat.le_refl _)) (Nat.le_refl _)) (Nat.le_refl _)) (Nat.le_refl _)) (Nat.le_refl _))
set_option maxHeartbeats 4000000 in
set_option maxRecDepth 100000 in
theorem readOrder_calls (p : Nat) (r : Rd) (w : World) (h : RdAt p r w) :
    Calls Tryz.prog 91 #[.pointer (some ⟨p, 0, none⟩)] w fun e w' => e = .returned (ordV (r.many 6).1) ∧ RdAt p (r.many 6).2 w' ∧ Keep w (some p) w' := by
  obtain ⟨W, hW⟩ : ∃ W, w.alloc (.cells #[.int .i64 0, .int .i64 0, .int .i64 0, .int .i64 0, .int .i64 0, .int .i64 0] 102) = W := ⟨_, rfl⟩
  have hbW : Below w.heap.size w W := by rw [← hW]; exact (Below.refl _ w).alloc (Nat.le_refl _) _
  have hsW : W.heap.size = w.heap.size + 1 := by rw [← hW]; simp [go_sem]
  have hh0 : W.heap[w.heap.size]? = some (.cells #[.int .i64 0, .int .i64 0, .int .i64 0, .int .i64 0, .int .i64 0, .int .i64 0] 102) := by rw [← hW]; exact heap_alloc_new _ _
  have hp := h.lt
  have HBW := hid hbW
  have HSW := hid hsW
  have H0 := hid hh0
  have h0 := h.below hbW
  clear h hbW hsW hh0
  obtain ⟨R1, hR1⟩ : ∃ R, (r).num = R := ⟨_, rfl⟩
  obtain ⟨R2, hR2⟩ : ∃ R, (R1.2).num = R := ⟨_, rfl⟩
  obtain ⟨R3, hR3⟩ : ∃ R, (R2.2).num = R := ⟨_, rfl⟩
  obtain ⟨R4, hR4⟩ : ∃ R, (R3.2).num = R := ⟨_, rfl⟩
  obtain ⟨R5, hR5⟩ : ∃ R, (R4.2).num = R := ⟨_, rfl⟩
  obtain ⟨R6, hR6⟩ : ∃ R, (R5.2).num = R := ⟨_, rfl⟩
  have HM : Hid (r.many 6 = ([R1.1, R2.1, R3.1, R4.1, R5.1, R6.1], R6.2)) := by
    show _ = _
    simp only [Rd.many, hR1, hR2, hR3, hR4, hR5, hR6, List.nil_append, List.cons_append]
  have HC1 := hid (readNum_calls p r W h0)
  rw [hR1] at HC1
  clear h0
  go_enter Tryz.func91, Tryz.ntmps91
  go_wp2_with fail
  refine HC1.out.mono ?_
  rintro e w1 ⟨rfl, h1, k1⟩
  have HK1 : Hid (Keep W (some p) w1) := k1
  clear k1 HC1 hW
  have HC2 := hid (readNum_calls p R1.2 w1 h1)
  rw [hR2] at HC2
  clear h1
  go_wp2_with fail
  refine HC2.out.mono ?_
  rintro e w2 ⟨rfl, h2, k2⟩
  have HK2 : Hid (Keep W (some p) w2) := keep_trans HK1.out k2
  clear k2 HC2 HK1
  have HC3 := hid (readNum_calls p R2.2 w2 h2)
  rw [hR3] at HC3
  clear h2
  go_wp2_with fail
  refine HC3.out.mono ?_
  rintro e w3 ⟨rfl, h3, k3⟩
  have HK3 : Hid (Keep W (some p) w3) := keep_trans HK2.out k3
  clear k3 HC3 HK2
  have HC4 := hid (readNum_calls p R3.2 w3 h3)
  rw [hR4] at HC4
  clear h3
  go_wp2_with fail
  refine HC4.out.mono ?_
  rintro e w4 ⟨rfl, h4, k4⟩
  have HK4 : Hid (Keep W (some p) w4) := keep_trans HK3.out k4
  clear k4 HC4 HK3
  have HC5 := hid (readNum_calls p R4.2 w4 h4)
  rw [hR5] at HC5
  clear h4
  go_wp2_with fail
  refine HC5.out.mono ?_
  rintro e w5 ⟨rfl, h5, k5⟩
  have HK5 : Hid (Keep W (some p) w5) := keep_trans HK4.out k5
  clear k5 HC5 HK4
  have HC6 := hid (readNum_calls p R5.2 w5 h5)
  rw [hR6] at HC6
  clear h5
  go_wp2_with fail
  refine HC6.out.mono ?_
  rintro e w6 ⟨rfl, h6, k6⟩
  have HK6 : Hid (Keep W (some p) w6) := keep_trans HK5.out k6
  clear k6 HC6 HK5
  have hh := (HK6.out.2 w.heap.size (by rw [HSW.out]; omega) (fun e => by cases e; omega)).trans H0.out
  have hq := cells_at' hh
  have q0 : w6.cell? ⟨w.heap.size, 0, none⟩ = some (.int .i64 0) := hq.1 0 _ rfl
  have q1 : w6.cell? ⟨w.heap.size, 1, none⟩ = some (.int .i64 0) := hq.1 1 _ rfl
  have q2 : w6.cell? ⟨w.heap.size, 2, none⟩ = some (.int .i64 0) := hq.1 2 _ rfl
  have q3 : w6.cell? ⟨w.heap.size, 3, none⟩ = some (.int .i64 0) := hq.1 3 _ rfl
  have q4 : w6.cell? ⟨w.heap.size, 4, none⟩ = some (.int .i64 0) := hq.1 4 _ rfl
  have q5 : w6.cell? ⟨w.heap.size, 5, none⟩ = some (.int .i64 0) := hq.1 5 _ rfl
  have qf := hq.2
  have HRD := hid h6
  have HKP : Hid (Keep w (some p) w6) := keep_from HBW.out HK6.out
  have hne : p ≠ w.heap.size := by omega
  clear h6 hh hq HK6 hR1 hR2 hR3 hR4 hR5 hR6
  go_wp2
  rw [HM.out]
  refine bodyPost_ret (v := ordV [R1.1, R2.1, R3.1, R4.1, R5.1, R6.1]) (by simp [results, Tryz.results91, go_sem, q0, q1, q2, q3, q4, q5]; try exact ⟨rfl, rfl, rfl, rfl, rfl, rfl⟩) rfl ⟨rfl, ?_, ?_⟩
  · exact (rd_off (rd_off (rd_off (rd_off (rd_off (rd_off HRD.out hne) hne) hne) hne) hne) hne)
  · exact (keep_off (keep_off (keep_off (keep_off (keep_off (keep_off HKP.out (Nat.le_refl _)) (Nat.le_refl _)) (Nat.le_refl _)) (Nat.le_refl _)) (Nat.le_refl _)) (Nat.le_refl _))
end Go.Proofs.YtcbalhicaipmlaaGreat

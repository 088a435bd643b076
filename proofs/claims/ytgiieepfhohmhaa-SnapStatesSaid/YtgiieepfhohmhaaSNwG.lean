/- Package newer of the program, a tick under way: near; one is told something else. -/
import Derived.Test.YtgiieepfhohmhaaSNwB
import Derived.Test.YtgiieepfhohmhaaSElB
import Derived.Test.YtgiieepfhohmhaaSHdA
import Derived.Test.YtgiieepfhohmhaaSOkA
import Derived.Test.YtgiieepfhohmhaaSSt
namespace Go.Proofs.Ytgiieepfhohmhaa
open Go.RowKit Go.Maps
def nearN (u t : List Int) : Bool := decide (Pl.farZ (fld u 3) (fld u 4) (fld t 3) (fld t 4) ≤ (if fld u 6 = 2 then Pl.nRange (fld u 2) else 1))
end Go.Proofs.Ytgiieepfhohmhaa
namespace Go.Proofs.Ytgiieepfhohmhaa
open Go.RowKit
set_option maxHeartbeats 2000000 in
theorem indexFuncU_calls (g : Nat) (lb : Array Value) (eg : ∀ args w, (callFunc g args).run Try.prog w = .ok (.enter g args) w) (p : List Int → Bool) (es : List (List Int)) (ea : Option Addr) (c : Nat) (w : World)
    (hn : es.length ≤ 1000) (hrow : Recs w ea 11 es)
    (hp : ∀ (W : World) (u : List Int), Below w.heap.size w W → Calls Try.prog g (#[unitV u] ++ lb) W fun e w' => e = .returned (.bool (p u)) ∧ Below w.heap.size w w') :
    Calls Try.prog 164 #[.slice ea es.length c, .func (.func g) #[] lb] w fun e w' => e = .returned (.int .i64 (idxZ p es)) ∧ Below w.heap.size w w' := by
  have HR : Hid (Recs w ea 11 es) := hrow
  clear hrow
  go_enter Try.func164, Try.ntmps164
  go_wp2
  go_loopg [5, 8] es.length (fun gg _ s8 wr => ∃ kk : Nat, kk ≤ es.length ∧ es.length - kk ≤ gg ∧ s8 = .int .i64 kk ∧ Hid (Below w.heap.size w wr) ∧ Hid (∀ j, j < kk → p (rec es j) = false))
  case atStart => exact ⟨0, Nat.zero_le _, by omega, rfl, Below.refl _ w, fun j hj => absurd hj (Nat.not_lt_zero _)⟩
  case round =>
    obtain ⟨kk, hkk, hg, rfl, BW, A⟩ := hrel
    by_cases hlt : kk < es.length
    · have hltz : (kk : Int) < (es.length : Int) := by omega
      obtain ⟨b, o, rfl, hc⟩ := (HR.out.below BW.out).at hlt
      have l0 : wr.cell? ⟨b, o + kk * 11, none⟩ = some (.int .i64 (fld (rec es kk) 0)) := hc 0 (by omega)
      have l1 := hc 1 (by omega)
      have l2 := hc 2 (by omega)
      have l3 := hc 3 (by omega)
      have l4 := hc 4 (by omega)
      have l5 := hc 5 (by omega)
      have l6 := hc 6 (by omega)
      have l7 := hc 7 (by omega)
      have l8 := hc 8 (by omega)
      have l9 := hc 9 (by omega)
      have l10 := hc 10 (by omega)
      have hcall := hp wr (rec es kk) BW.out
      clear hp HR hc
      generalize hy : rec es kk = y at l0 l1 l2 l3 l4 l5 l6 l7 l8 l9 l10 hcall
      have B : Hid (rec es kk = y) := hy
      clear hy
      cases hq : p y with
      | true =>
        rw [hq] at hcall
        have HC := hid hcall
        clear hcall
        go_wp2_with fail
        refine HC.out.mono ?_
        clear HC
        rintro e w' ⟨rfl, hb0⟩
        have hb' := hid hb0
        clear hb0 l0 l1 l2 l3 l4 l5 l6 l7 l8 l9 l10
        go_wp2
        go_ret
        exact ⟨retI (idxZ_some hlt A.out (by rw [B.out]; exact hq)).symm, hb'.out⟩
      | false =>
        rw [hq] at hcall
        have HC := hid hcall
        clear hcall
        go_wp2_with fail
        refine HC.out.mono ?_
        clear HC
        rintro e w' ⟨rfl, hb0⟩
        have hb' := hid hb0
        clear hb0 l0 l1 l2 l3 l4 l5 l6 l7 l8 l9 l10
        go_wp2
        go_roundg (es.length - (kk + 1))
        case measure => omega
        case rel =>
          refine ⟨kk + 1, by omega, by omega, by go_num, hb', (show Hid _ from fun j hj => ?_)⟩
          by_cases e : j = kk
          · rw [e, B.out]; exact hq
          · exact A.out j (by omega)
    · have hltz : ¬ (kk : Int) < (es.length : Int) := by omega
      clear hp
      go_wp2
      go_ret
      exact ⟨retI (idxZ_none (fun i hi => A.out i (by omega))).symm, BW.out⟩
abbrev newerV (t g0 g1 nx : Int) (uv : Value) : Value := .agg #[.int .i64 t, .int .i64 g0, .int .i64 g1, .int .i64 nx, uv]
abbrev newerC (t g0 g1 nx : Int) (uv : Value) : Array Value := #[.int .i64 t, .int .i64 g0, .int .i64 g1, .int .i64 nx, uv]
def stateN (t g0 g1 nx : Int) (ne : Nat) : Nat :=
  if inZ t 0 60 = true ∧ inZ nx 1 2001 = true then if inZ g0 0 1000 = true then if inZ g1 0 1000 = true then if 20 < ne then 2 else 0 else 1 else 1 else 1
set_option maxHeartbeats 4000000 in
theorem checkStateN_calls (t g0 g1 nx : Int) (ea : Option Addr) (ne ec : Nat) (w : World) :
    Calls Try.prog 109 #[newerV t g0 g1 nx (.slice ea ne ec)] w fun e w' => e = .returned (errV (stateN t g0 g1 nx ne)) ∧ Below w.heap.size w w' := by
  have i0 := gold_at0
  have i1 := gold_at1
  go_enter Try.func109, Try.ntmps109
  go_wp2_with fail
  refine (withinN_calls _ _ _ _).mono ?_
  rintro e w' ⟨rfl, rfl⟩
  cases h1 : inZ t 0 60
  · go_wp2
    go_ret
    exact ⟨retE (c := 1) (by simp [stateN, h1]) rfl, by go_grown⟩
  go_wp2_with fail
  refine (withinN_calls _ _ _ _).mono ?_
  rintro e w' ⟨rfl, rfl⟩
  cases h2 : inZ nx 1 2001
  · go_wp2
    go_ret
    exact ⟨retE (c := 1) (by simp [stateN, h2]) rfl, by go_grown⟩
  go_wp2_with fail
  refine wp_loop_rounds 3 ?_
  rw [rounds_succ]
  go_wp2_with fail
  refine (withinN_calls _ _ _ _).mono ?_
  rintro e w' ⟨rfl, rfl⟩
  cases h3 : inZ g0 0 1000
  · go_wp2
    go_ret
    exact ⟨retE (c := 1) (by simp [stateN, h3]) rfl, by go_grown⟩
  go_wp2_with fail
  rw [rounds_succ]
  go_wp2_with fail
  refine (withinN_calls _ _ _ _).mono ?_
  rintro e w' ⟨rfl, rfl⟩
  cases h4 : inZ g1 0 1000
  · go_wp2
    go_ret
    exact ⟨retE (c := 1) (by simp [stateN, h4]) rfl, by go_grown⟩
  go_wp2_with fail
  rw [rounds_succ]
  by_cases h5 : 20 < ne
  · have h5' : (20 : Int) < (ne : Int) := by omega
    go_wp2
    go_ret
    exact ⟨retE (c := 2) (by simp [stateN, h1, h2, h3, h4, h5]) rfl, by go_grown⟩
  have h5' : ¬ (20 : Int) < (ne : Int) := by omega
  go_wp2
  go_ret
  exact ⟨retE (c := 0) (by simp [stateN, h1, h2, h3, h4, h5]) rfl, by go_grown⟩
end Go.Proofs.Ytgiieepfhohmhaa
namespace Go.Proofs.Ytgiieepfhohmhaa
open Go.RowKit Go.Maps
theorem five_cells {w : World} {b : Nat} {x0 x1 x2 x3 x4 : Value} {t : TypeId} (h : w.heap[b]? = some (.cells #[x0, x1, x2, x3, x4] t)) :
    w.cell? ⟨b, 0, none⟩ = some x0 ∧ w.cell? ⟨b, 1, none⟩ = some x1 ∧ w.cell? ⟨b, 2, none⟩ = some x2 ∧ w.cell? ⟨b, 3, none⟩ = some x3 ∧ w.cell? ⟨b, 4, none⟩ = some x4 ∧ (∀ j, w.frozen? ⟨b, j, none⟩ = false) :=
  ⟨cell_of_row w b 0 _ _ _ h, cell_of_row w b 1 _ _ _ h, cell_of_row w b 2 _ _ _ h, cell_of_row w b 3 _ _ _ h, cell_of_row w b 4 _ _ _ h, fun j => frozen_of_row w b j _ _ h⟩
end Go.Proofs.Ytgiieepfhohmhaa
namespace Go.Proofs.Ytgiieepfhohmhaa
open Go.RowKit
set_option maxHeartbeats 4000000 in
set_option maxRecDepth 100000 in
theorem readUnit_calls (p : Nat) (r : Rd) (w : World) (h : RdAt p r w) :
    Calls Try.prog 178 #[.pointer (some ⟨p, 0, none⟩)] w fun e w' => e = .returned (unitV (r.many 11).1) ∧ RdAt p (r.many 11).2 w' ∧ Keep w (some p) w' := by
  obtain ⟨W, hW⟩ : ∃ W, w.alloc (.cells #[.int .i64 0, .int .i64 0, .int .i64 0, .int .i64 0, .int .i64 0, .int .i64 0, .int .i64 0, .int .i64 0, .int .i64 0, .int .i64 0, .int .i64 0] 110) = W := ⟨_, rfl⟩
  have hbW : Below w.heap.size w W := by rw [← hW]; exact (Below.refl _ w).alloc (Nat.le_refl _) _
  have hsW : W.heap.size = w.heap.size + 1 := by rw [← hW]; simp [go_sem]
  have hh0 : W.heap[w.heap.size]? = some (.cells #[.int .i64 0, .int .i64 0, .int .i64 0, .int .i64 0, .int .i64 0, .int .i64 0, .int .i64 0, .int .i64 0, .int .i64 0, .int .i64 0, .int .i64 0] 110) := by rw [← hW]; exact heap_alloc_new _ _
  have hp := h.lt
  have HBW := hid hbW
  have HSW := hid hsW
  have H0 := hid hh0
  have h0 := h.below hbW
  clear h hbW hsW hh0
  obtain ⟨R1, hR1⟩ : ∃ R, (r).num = R := ⟨_, rfl⟩
  obtain ⟨R2, hR2⟩ : ∃ R, (R1.2).num = R := ⟨_, rfl⟩
  obtain ⟨R3, hR3⟩ : ∃ R, (R2.2).num = R := ⟨_, rfl⟩
  obtain ⟨R4, hR4⟩ : ∃ R, (R3.2).num = R := ⟨_, rfl⟩
  obtain ⟨R5, hR5⟩ : ∃ R, (R4.2).num = R := ⟨_, rfl⟩
  obtain ⟨R6, hR6⟩ : ∃ R, (R5.2).num = R := ⟨_, rfl⟩
  obtain ⟨R7, hR7⟩ : ∃ R, (R6.2).num = R := ⟨_, rfl⟩
  obtain ⟨R8, hR8⟩ : ∃ R, (R7.2).num = R := ⟨_, rfl⟩
  obtain ⟨R9, hR9⟩ : ∃ R, (R8.2).num = R := ⟨_, rfl⟩
  obtain ⟨R10, hR10⟩ : ∃ R, (R9.2).num = R := ⟨_, rfl⟩
  obtain ⟨R11, hR11⟩ : ∃ R, (R10.2).num = R := ⟨_, rfl⟩
  have HM : Hid (r.many 11 = ([R1.1, R2.1, R3.1, R4.1, R5.1, R6.1, R7.1, R8.1, R9.1, R10.1, R11.1], R11.2)) := by
    show _ = _
    simp only [Rd.many, hR1, hR2, hR3, hR4, hR5, hR6, hR7, hR8, hR9, hR10, hR11, List.nil_append, List.cons_append]
  have HC1 := hid (readNum_calls p r W h0)
  rw [hR1] at HC1
  clear h0
  go_enter Try.func178, Try.ntmps178
  go_wp2_with fail
  refine HC1.out.mono ?_
  rintro e w1 ⟨rfl, h1, k1⟩
  have HK1 : Hid (Keep W (some p) w1) := k1
  clear k1 HC1 hW
  have HC2 := hid (readNum_calls p R1.2 w1 h1)
  rw [hR2] at HC2
  clear h1
  go_wp2_with fail
  refine HC2.out.mono ?_
  rintro e w2 ⟨rfl, h2, k2⟩
  have HK2 : Hid (Keep W (some p) w2) := keep_trans HK1.out k2
  clear k2 HC2 HK1
  have HC3 := hid (readNum_calls p R2.2 w2 h2)
  rw [hR3] at HC3
  clear h2
  go_wp2_with fail
  refine HC3.out.mono ?_
  rintro e w3 ⟨rfl, h3, k3⟩
  have HK3 : Hid (Keep W (some p) w3) := keep_trans HK2.out k3
  clear k3 HC3 HK2
  have HC4 := hid (readNum_calls p R3.2 w3 h3)
  rw [hR4] at HC4
  clear h3
  go_wp2_with fail
  refine HC4.out.mono ?_
  rintro e w4 ⟨rfl, h4, k4⟩
  have HK4 : Hid (Keep W (some p) w4) := keep_trans HK3.out k4
  clear k4 HC4 HK3
  have HC5 := hid (readNum_calls p R4.2 w4 h4)
  rw [hR5] at HC5
  clear h4
  go_wp2_with fail
  refine HC5.out.mono ?_
  rintro e w5 ⟨rfl, h5, k5⟩
  have HK5 : Hid (Keep W (some p) w5) := keep_trans HK4.out k5
  clear k5 HC5 HK4
  have HC6 := hid (readNum_calls p R5.2 w5 h5)
  rw [hR6] at HC6
  clear h5
  go_wp2_with fail
  refine HC6.out.mono ?_
  rintro e w6 ⟨rfl, h6, k6⟩
  have HK6 : Hid (Keep W (some p) w6) := keep_trans HK5.out k6
  clear k6 HC6 HK5
  have HC7 := hid (readNum_calls p R6.2 w6 h6)
  rw [hR7] at HC7
  clear h6
  go_wp2_with fail
  refine HC7.out.mono ?_
  rintro e w7 ⟨rfl, h7, k7⟩
  have HK7 : Hid (Keep W (some p) w7) := keep_trans HK6.out k7
  clear k7 HC7 HK6
  have HC8 := hid (readNum_calls p R7.2 w7 h7)
  rw [hR8] at HC8
  clear h7
  go_wp2_with fail
  refine HC8.out.mono ?_
  rintro e w8 ⟨rfl, h8, k8⟩
  have HK8 : Hid (Keep W (some p) w8) := keep_trans HK7.out k8
  clear k8 HC8 HK7
  have HC9 := hid (readNum_calls p R8.2 w8 h8)
  rw [hR9] at HC9
  clear h8
  go_wp2_with fail
  refine HC9.out.mono ?_
  rintro e w9 ⟨rfl, h9, k9⟩
  have HK9 : Hid (Keep W (some p) w9) := keep_trans HK8.out k9
  clear k9 HC9 HK8
  have HC10 := hid (readNum_calls p R9.2 w9 h9)
  rw [hR10] at HC10
  clear h9
  go_wp2_with fail
  refine HC10.out.mono ?_
  rintro e w10 ⟨rfl, h10, k10⟩
  have HK10 : Hid (Keep W (some p) w10) := keep_trans HK9.out k10
  clear k10 HC10 HK9
  have HC11 := hid (readNum_calls p R10.2 w10 h10)
  rw [hR11] at HC11
  clear h10
  go_wp2_with fail
  refine HC11.out.mono ?_
  rintro e w11 ⟨rfl, h11, k11⟩
  have HK11 : Hid (Keep W (some p) w11) := keep_trans HK10.out k11
  clear k11 HC11 HK10
  have hh := (HK11.out.2 w.heap.size (by rw [HSW.out]; omega) (fun e => by cases e; omega)).trans H0.out
  have hq := cells_at' hh
  have q0 : w11.cell? ⟨w.heap.size, 0, none⟩ = some (.int .i64 0) := hq.1 0 _ rfl
  have q1 : w11.cell? ⟨w.heap.size, 1, none⟩ = some (.int .i64 0) := hq.1 1 _ rfl
  have q2 : w11.cell? ⟨w.heap.size, 2, none⟩ = some (.int .i64 0) := hq.1 2 _ rfl
  have q3 : w11.cell? ⟨w.heap.size, 3, none⟩ = some (.int .i64 0) := hq.1 3 _ rfl
  have q4 : w11.cell? ⟨w.heap.size, 4, none⟩ = some (.int .i64 0) := hq.1 4 _ rfl
  have q5 : w11.cell? ⟨w.heap.size, 5, none⟩ = some (.int .i64 0) := hq.1 5 _ rfl
  have q6 : w11.cell? ⟨w.heap.size, 6, none⟩ = some (.int .i64 0) := hq.1 6 _ rfl
  have q7 : w11.cell? ⟨w.heap.size, 7, none⟩ = some (.int .i64 0) := hq.1 7 _ rfl
  have q8 : w11.cell? ⟨w.heap.size, 8, none⟩ = some (.int .i64 0) := hq.1 8 _ rfl
  have q9 : w11.cell? ⟨w.heap.size, 9, none⟩ = some (.int .i64 0) := hq.1 9 _ rfl
  have q10 : w11.cell? ⟨w.heap.size, 10, none⟩ = some (.int .i64 0) := hq.1 10 _ rfl
  have qf := hq.2
  have HRD := hid h11
  have HKP : Hid (Keep w (some p) w11) := keep_from HBW.out HK11.out
  have hne : p ≠ w.heap.size := by omega
  clear h11 hh hq HK11 hR1 hR2 hR3 hR4 hR5 hR6 hR7 hR8 hR9 hR10 hR11
  go_wp2
  rw [HM.out]
  refine bodyPost_ret (v := unitV [R1.1, R2.1, R3.1, R4.1, R5.1, R6.1, R7.1, R8.1, R9.1, R10.1, R11.1]) (by simp [results, Try.results178, go_sem, q0, q1, q2, q3, q4, q5, q6, q7, q8, q9, q10]; try exact ⟨rfl, rfl, rfl, rfl, rfl, rfl, rfl, rfl, rfl, rfl, rfl⟩) rfl ⟨rfl, ?_, ?_⟩
  · exact (rd_off (rd_off (rd_off (rd_off (rd_off (rd_off (rd_off (rd_off (rd_off (rd_off (rd_off HRD.out hne) hne) hne) hne) hne) hne) hne) hne) hne) hne) hne)
  · exact (keep_off (keep_off (keep_off (keep_off (keep_off (keep_off (keep_off (keep_off (keep_off (keep_off (keep_off HKP.out (Nat.le_refl _)) (Nat.le_refl _)) (Nat.le_refl _)) (Nat.le_refl _)) (Nat.le_refl _)) (Nat.le_refl _)) (Nat.le_refl _)) (Nat.le_refl _)) (Nat.le_refl _)) (Nat.le_refl _)) (Nat.le_refl _))
end Go.Proofs.Ytgiieepfhohmhaa

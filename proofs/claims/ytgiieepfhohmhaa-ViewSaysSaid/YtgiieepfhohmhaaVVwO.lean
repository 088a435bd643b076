/- Two views, the same or not: the program's Same, the reference's SameView. -/
import Derived.BigQuiet
import Derived.Test.YtgiieepfhohmhaaVVwN
namespace Go.Proofs.Ytgiieepfhohmhaa
open Go.RowKit Go.Maps
theorem tenZ_eq {u v : List Int} : tenZ u = tenZ v ↔ fld u 0 = fld v 0 ∧ fld u 1 = fld v 1 ∧ fld u 2 = fld v 2 ∧ fld u 3 = fld v 3 ∧ fld u 4 = fld v 4 ∧ fld u 5 = fld v 5 ∧ fld u 6 = fld v 6 ∧ fld u 7 = fld v 7 ∧ fld u 8 = fld v 8 ∧ fld u 9 = fld v 9 := by
  unfold tenZ
  simp
theorem seen_eq (u v : List Int) (w : World) : (Op.equalIn 10000 171 (entV u) (entV v)).run Try.prog w = .ok (decide (tenZ u = tenZ v)) w := by
  rw [run_equalIn_struct w 9999 171 _ _ (by kernel_rfl) (by kernel_rfl)]
  simp [go_sem, tenZ_eq]
  repeat' split
  all_goals simp_all
theorem gold_same (a b c d : Int) (w : World) : (Op.equalIn 10000 56 (.agg #[.int .i64 a, .int .i64 b]) (.agg #[.int .i64 c, .int .i64 d])).run Try.prog w = .ok (decide (a = c ∧ b = d)) w := by
  obtain ⟨i0, hi, _, _, _⟩ := info_parts info_int
  rw [Go.run_equalIn_array w 9999 _ _ Try.underlying56 hi]
  have e : List.range 2 = [0, 1] := rfl
  have c1 : Try.prog.cellsOf 3 = 1 := by kernel_rfl
  rw [e, c1]
  simp [Op.eqItems, go_sem]
  repeat' split
  all_goals simp_all
def eqTo (ss rr : List (List Int)) (n : Nat) : Prop := ∀ i, i < n → tenZ (rec ss i) = tenZ (rec rr i)
instance (ss rr : List (List Int)) (n : Nat) : Decidable (eqTo ss rr n) := by unfold eqTo; infer_instance
def sameL (ss rr : List (List Int)) : Prop := ss.length = rr.length ∧ eqTo ss rr ss.length
instance (ss rr : List (List Int)) : Decidable (sameL ss rr) := by unfold sameL; infer_instance
theorem eqTo_next {ss rr : List (List Int)} {k : Nat} (h : eqTo ss rr k) (hk : tenZ (rec ss k) = tenZ (rec rr k)) : eqTo ss rr (k + 1) := fun i hi => by
  rcases Nat.lt_succ_iff_lt_or_eq.1 hi with h1 | h1
  · exact h i h1
  · rw [h1]; exact hk
set_option maxRecDepth 100000 in
set_option maxHeartbeats 2000000 in
theorem equalS_calls (ss rr : List (List Int)) (sa ra : Option Addr) (sc rc : Nat) (w : World) (hs : Recs w sa 10 ss) (hr : Recs w ra 10 rr) (hl : ss.length ≤ 1000) :
    Calls Try.prog 116 #[.slice sa ss.length sc, .slice ra rr.length rc] w fun e w' => e = .returned (.bool (decide (sameL ss rr))) ∧ Below w.heap.size w w' := by
  have HS := hid hs
  have HR := hid hr
  clear hs hr
  by_cases hll : ss.length = rr.length
  case neg =>
    have hz : ((ss.length : Int) != (rr.length : Int)) = true := by simp; omega
    rw [decide_eq_false (fun h => hll h.1)]
    clear hll
    go_enter Try.func116, Try.ntmps116
    go_wp2
    go_ret
    exact ⟨rfl, Below.refl _ _⟩
  case pos =>
    have hz : ((ss.length : Int) != (rr.length : Int)) = false := by simp; omega
    obtain ⟨D, hD⟩ : ∃ D, decide (sameL ss rr) = D := ⟨_, rfl⟩
    rw [hD]
    have HD := hid hD
    have HLL := hid hll
    clear hD hll
    go_enter Try.func116, Try.ntmps116
    go_wp2_with fail
    go_loopw [13] (fun i wr => ∃ k : Nat, k ≤ ss.length ∧ i = .int .i64 k ∧ Hid (eqTo ss rr k ∧ Below w.heap.size w wr)) (fun i _ => ss.length - (intOf i).toNat)
    case atStart => exact ⟨0, Nat.zero_le _, rfl, fun i hi => absurd hi (Nat.not_lt_zero _), Below.refl _ _⟩
    case round =>
      obtain ⟨k, hk, rfl, HM⟩ := hrel
      by_cases hlt : k < ss.length
      · have hltz : (k : Int) < (ss.length : Int) := by omega
        have hltr : (k : Int) < (rr.length : Int) := by rw [← HLL.out]; exact hltz
        obtain ⟨b, o, rfl, hb, l0, l1, l2, l3, l4, l5, l6, l7, l8, l9⟩ := (HS.out.below HM.out.2).ten hlt
        obtain ⟨b', o', rfl, hb', m0, m1, m2, m3, m4, m5, m6, m7, m8, m9⟩ := (HR.out.below HM.out.2).ten (i := k) (by rw [← HLL.out]; exact hlt)
        have HE : Hid (tenZ (rec ss k) = tenZ (rec rr k) → eqTo ss rr (k + 1)) := fun h => eqTo_next HM.out.1 h
        have HNE : Hid (tenZ (rec ss k) ≠ tenZ (rec rr k) → D = false) := fun h => by rw [← HD.out]; exact decide_eq_false fun x => h (x.2 k hlt)
        generalize rec ss k = u at l0 l1 l2 l3 l4 l5 l6 l7 l8 l9 HE HNE
        generalize rec rr k = v at m0 m1 m2 m3 m4 m5 m6 m7 m8 m9 HE HNE
        have heq := seen_eq u v
        by_cases huv : tenZ u = tenZ v
        · rw [decide_eq_true huv] at heq
          have HNX := hid (HE.out huv)
          clear HE HNE huv
          go_wp2_with fail
          go_quiet (fail)
          go_wp2
          go_roundw
          case rel => exact ⟨k + 1, by omega, by go_num, HNX.out, below_drewN HM.out.2 _⟩
          case measure => simp [intOf]; omega
        · rw [decide_eq_false huv] at heq
          have hDf := HNE.out huv
          have HF : Hid (Below w.heap.size w wr) := HM.out.2
          clear HE HNE huv HD
          subst hDf
          go_wp2_with fail
          go_quiet (fail)
          go_wp2
          go_ret
          exact ⟨rfl, below_drewN HF.out _⟩
      · have hltz : ¬ (k : Int) < (ss.length : Int) := by omega
        have hke : k = ss.length := by omega
        have hDt : D = true := by rw [← HD.out]; exact decide_eq_true ⟨HLL.out, by rw [← hke]; exact HM.out.1⟩
        have HF : Hid (Below w.heap.size w wr) := HM.out.2
        clear HD hke
        subst hDt
        go_wp2
        go_ret
        exact ⟨rfl, HF.out⟩
structure Vw where
  t : Int
  g0 : Int
  g1 : Int
  ss : List (List Int)
def sameV (a b : Vw) : Prop := a.t = b.t ∧ (a.g0 = b.g0 ∧ a.g1 = b.g1) ∧ sameL a.ss b.ss
instance (a b : Vw) : Decidable (sameV a b) := by unfold sameV; infer_instance
theorem view_boxes {w W : World} {a b : Array Value} (hW : (w.alloc (.cells a 115)).alloc (.cells b 115) = W) :
    Below w.heap.size w W ∧ W.heap.size = w.heap.size + 2 ∧ W.heap[w.heap.size]? = some (.cells a 115) ∧ W.heap[w.heap.size + 1]? = some (.cells b 115) := by
  refine ⟨?_, ?_, ?_, ?_⟩
  · rw [← hW]; exact ((Below.refl _ w).alloc (Nat.le_refl _) _).alloc (by simp [go_sem]) _
  · rw [← hW]; simp [go_sem]
  · rw [← hW, heap_alloc_old _ _ (by simp [go_sem])]
    exact heap_alloc_new w _
  · have e : w.heap.size + 1 = (w.alloc (.cells a 115)).heap.size := by simp [go_sem]
    rw [← hW, e]
    exact heap_alloc_new _ _
set_option maxRecDepth 100000 in
set_option maxHeartbeats 2000000 in
theorem sameP_calls (a b : Vw) (sa ra : Option Addr) (sc rc : Nat) (w : World) (hs : Recs w sa 10 a.ss) (hr : Recs w ra 10 b.ss) (hl : a.ss.length ≤ 1000) :
    Calls Try.prog 65 #[viewV a.t a.g0 a.g1 (.slice sa a.ss.length sc), viewV b.t b.g0 b.g1 (.slice ra b.ss.length rc)] w fun e w' => e = .returned (.bool (decide (sameV a b))) ∧ Below w.heap.size w w' := by
  obtain ⟨W, hW⟩ : ∃ W, (w.alloc (.cells (viewC a.t a.g0 a.g1 (.slice sa a.ss.length sc)) 115)).alloc (.cells (viewC b.t b.g0 b.g1 (.slice ra b.ss.length rc)) 115) = W := ⟨_, rfl⟩
  obtain ⟨hbW, hsW, hh0, hh1⟩ := view_boxes hW
  obtain ⟨x0, x1, x2, x3, _⟩ := four_cells hh0
  obtain ⟨y0, y1, y2, y3, _⟩ := four_cells hh1
  have HE := hid (equalS_calls a.ss b.ss sa ra sc rc W (hs.below hbW) (hr.below hbW) hl)
  have HBW := hid hbW
  clear hs hr hbW hsW hh0 hh1
  by_cases ht : a.t = b.t
  case neg =>
    rw [decide_eq_false (fun h => ht h.1)]
    have htz : (a.t == b.t) = false := by simpa using ht
    clear ht HE
    go_enter Try.func65, Try.ntmps65
    go_wp2
    go_ret
    exact ⟨rfl, HBW.out⟩
  have htz : (a.t == b.t) = true := by simpa using ht
  have hg := gold_same a.g0 a.g1 b.g0 b.g1
  by_cases hgg : a.g0 = b.g0 ∧ a.g1 = b.g1
  case neg =>
    rw [decide_eq_false (fun h => hgg h.2.1)]
    rw [decide_eq_false hgg] at hg
    clear ht HE hgg
    go_enter Try.func65, Try.ntmps65
    go_wp2
    go_ret
    exact ⟨rfl, HBW.out⟩
  rw [decide_eq_true hgg] at hg
  have e : decide (sameV a b) = decide (sameL a.ss b.ss) := by
    unfold sameV
    simp [ht, hgg.1, hgg.2]
  rw [e]
  generalize decide (sameL a.ss b.ss) = D at HE ⊢
  clear ht hgg e
  go_enter Try.func65, Try.ntmps65
  go_wp2_with fail
  refine HE.out.mono ?_
  rintro e w2 ⟨rfl, hb2⟩
  have HF : Hid (Below w.heap.size w w2) := HBW.out.trans (hb2.mono HBW.out.size)
  clear hb2 hg
  go_wp2
  go_ret
  exact ⟨rfl, HF.out⟩
set_option maxRecDepth 100000 in
set_option maxHeartbeats 4000000 in
theorem sameView_calls (a b : Vw) (sa ra : Option Addr) (sc rc : Nat) (w : World) (hs : Recs w sa 10 a.ss) (hr : Recs w ra 10 b.ss) (hl : a.ss.length ≤ 1000) :
    Calls Try.prog 62 #[viewV a.t a.g0 a.g1 (.slice sa a.ss.length sc), viewV b.t b.g0 b.g1 (.slice ra b.ss.length rc)] w fun e w' => e = .returned (.bool (decide (sameV a b))) ∧ Below w.heap.size w w' := by
  obtain ⟨W, hW⟩ : ∃ W, (w.alloc (.cells (viewC a.t a.g0 a.g1 (.slice sa a.ss.length sc)) 115)).alloc (.cells (viewC b.t b.g0 b.g1 (.slice ra b.ss.length rc)) 115) = W := ⟨_, rfl⟩
  obtain ⟨hbW, hsW, hh0, hh1⟩ := view_boxes hW
  obtain ⟨x0, x1, x2, x3, _⟩ := four_cells hh0
  obtain ⟨y0, y1, y2, y3, _⟩ := four_cells hh1
  have HS := hid (hs.below hbW)
  have HR := hid (hr.below hbW)
  have HBW := hid hbW
  have HSW := hid hsW
  have H0 := hid hh0
  have H1 := hid hh1
  clear hs hr hbW hsW hh0 hh1
  by_cases ht : a.t = b.t
  case neg =>
    rw [decide_eq_false (fun h => ht h.1)]
    have htz : (a.t != b.t) = true := by simpa using ht
    clear ht
    go_enter Try.func62, Try.ntmps62
    go_wp2
    go_ret
    exact ⟨rfl, HBW.out⟩
  have htz : (a.t != b.t) = false := by simpa using ht
  have hg := gold_same a.g0 a.g1 b.g0 b.g1
  by_cases hgg : a.g0 = b.g0 ∧ a.g1 = b.g1
  case neg =>
    rw [decide_eq_false (fun h => hgg h.2.1)]
    rw [decide_eq_false hgg] at hg
    clear ht hgg
    go_enter Try.func62, Try.ntmps62
    go_wp2
    go_ret
    exact ⟨rfl, HBW.out⟩
  rw [decide_eq_true hgg] at hg
  have e : decide (sameV a b) = decide (sameL a.ss b.ss) := by
    unfold sameV
    simp [ht, hgg.1, hgg.2]
  rw [e]
  clear ht hgg e
  by_cases hll : a.ss.length = b.ss.length
  case neg =>
    have hz : ((a.ss.length : Int) != (b.ss.length : Int)) = true := by simp; omega
    rw [decide_eq_false (fun h => hll h.1)]
    clear hll
    go_enter Try.func62, Try.ntmps62
    go_wp2
    go_ret
    exact ⟨rfl, HBW.out⟩
  have hz : ((a.ss.length : Int) != (b.ss.length : Int)) = false := by simp; omega
  obtain ⟨D, hD⟩ : ∃ D, decide (sameL a.ss b.ss) = D := ⟨_, rfl⟩
  rw [hD]
  have HD := hid hD
  have HLL := hid hll
  clear hD hll
  go_enter Try.func62, Try.ntmps62
  go_wp2_with fail
  clear x0 x1 x2 x3 y0 y1 y2 y3 hW hg
  go_loopw [5] (fun i wr => ∃ k : Nat, k ≤ a.ss.length ∧ i = .int .i64 k ∧ Hid (eqTo a.ss b.ss k ∧ Below W.heap.size W wr)) (fun i _ => a.ss.length - (intOf i).toNat)
  case atStart => exact ⟨0, Nat.zero_le _, rfl, fun i hi => absurd hi (Nat.not_lt_zero _), Below.refl _ _⟩
  case round =>
    obtain ⟨k, hk, rfl, HM⟩ := hrel
    obtain ⟨_, _, _, x3, _⟩ := four_cells ((HM.out.2.block w.heap.size (by rw [HSW.out]; omega)).trans H0.out)
    obtain ⟨_, _, _, y3, _⟩ := four_cells ((HM.out.2.block (w.heap.size + 1) (by rw [HSW.out]; omega)).trans H1.out)
    by_cases hlt : k < a.ss.length
    · have hltz : (k : Int) < (a.ss.length : Int) := by omega
      have hltr : (k : Int) < (b.ss.length : Int) := by rw [← HLL.out]; exact hltz
      obtain ⟨g, o, rfl, hb, l0, l1, l2, l3, l4, l5, l6, l7, l8, l9⟩ := (HS.out.below HM.out.2).ten hlt
      obtain ⟨g', o', rfl, hb', m0, m1, m2, m3, m4, m5, m6, m7, m8, m9⟩ := (HR.out.below HM.out.2).ten (i := k) (by rw [← HLL.out]; exact hlt)
      have HE : Hid (tenZ (rec a.ss k) = tenZ (rec b.ss k) → eqTo a.ss b.ss (k + 1)) := fun h => eqTo_next HM.out.1 h
      have HNE : Hid (tenZ (rec a.ss k) ≠ tenZ (rec b.ss k) → D = false) := fun h => by rw [← HD.out]; exact decide_eq_false fun x => h (x.2 k hlt)
      generalize rec a.ss k = u at l0 l1 l2 l3 l4 l5 l6 l7 l8 l9 HE HNE
      generalize rec b.ss k = v at m0 m1 m2 m3 m4 m5 m6 m7 m8 m9 HE HNE
      have heq := seen_eq u v
      by_cases huv : tenZ u = tenZ v
      · rw [decide_eq_true huv] at heq
        have HNX := hid (HE.out huv)
        clear HE HNE huv
        go_wp2_with fail
        go_quiet (fail)
        go_wp2
        go_roundw
        case rel => exact ⟨k + 1, by omega, by go_num, HNX.out, below_drewN HM.out.2 _⟩
        case measure => simp [intOf]; omega
      · rw [decide_eq_false huv] at heq
        have hDf := HNE.out huv
        have HF : Hid (Below w.heap.size w wr) := HBW.out.trans (HM.out.2.mono HBW.out.size)
        clear HE HNE huv HD
        subst hDf
        go_wp2_with fail
        go_quiet (fail)
        go_wp2
        go_ret
        exact ⟨rfl, below_drewN HF.out _⟩
    · have hltz : ¬ (k : Int) < (a.ss.length : Int) := by omega
      have hke : k = a.ss.length := by omega
      have hDt : D = true := by rw [← HD.out]; exact decide_eq_true ⟨HLL.out, by rw [← hke]; exact HM.out.1⟩
      have HF : Hid (Below w.heap.size w wr) := HBW.out.trans (HM.out.2.mono HBW.out.size)
      clear HD hke
      subst hDt
      go_wp2
      go_ret
      exact ⟨rfl, HF.out⟩
end Go.Proofs.Ytgiieepfhohmhaa

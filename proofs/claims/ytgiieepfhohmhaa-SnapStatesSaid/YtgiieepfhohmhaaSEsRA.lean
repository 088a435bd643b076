/- ElderSays: rows of commands that grow; a play, whole. -/
import Derived.ChangeKeysEq
import Derived.Laws.OwnMore
import Derived.Test.YtgiieepfhohmhaaSSt
import Derived.Test.YtgiieepfhohmhaaSRefQ
import Derived.Test.YtgiieepfhohmhaaSEsBA
namespace Go.Proofs.Ytgiieepfhohmhaa
open Go.RowKit Go.Maps
theorem same_true (c : Nat) (hc : c ≤ 3) (w : World) : Calls Try.prog 15 #[errV c, .int .i64 c] w fun e w' => e = .returned (.bool true) ∧ w' = w := by
  have h := same_calls c c (by omega) (by omega) w
  rw [decide_eq_true rfl] at h
  exact h
end Go.Proofs.Ytgiieepfhohmhaa
namespace Go.Proofs.Ytgiieepfhohmhaa
open Go.RowKit Go.Maps
theorem gold_eq (a b : Int) (w : World) : (Op.equalIn 10000 56 (.agg #[.int .i64 a, .int .i64 b]) (.agg #[.int .i64 a, .int .i64 b])).run Try.prog w = .ok true w := by
  obtain ⟨i0, hi, _, _, _⟩ := info_parts info_int
  rw [Go.run_equalIn_array w 9999 _ _ Try.underlying56 hi]
  have e : List.range 2 = [0, 1] := rfl
  have c1 : Try.prog.cellsOf 3 = 1 := by kernel_rfl
  rw [e, c1]
  simp [Op.eqItems, go_sem]
theorem ent_eq (u : List Int) (w : World) : (Op.equalIn 10000 86 (entV u) (entV u)).run Try.prog w = .ok true w := by
  rw [run_equalIn_struct w 9999 86 _ _ (by kernel_rfl) (by kernel_rfl)]
  simp [go_sem]
set_option maxRecDepth 100000 in
set_option maxHeartbeats 1000000 in
theorem sameNumbers_calls (aa ba : Option Addr) (ac bc : Nat) (zs : List Int) (w : World) (hn : zs.length ≤ 100000) (ha : Nums w aa zs) (hb : Nums w ba zs) :
    Calls Try.prog 46 #[.slice aa zs.length ac, .slice ba zs.length bc] w fun e w' => e = .returned (.bool true) ∧ Below w.heap.size w w' := by
  have HA := hid ha
  have HB := hid hb
  clear ha hb
  have hl : ((zs.length : Int) != (zs.length : Int)) = false := by simp
  go_enter Try.func46, Try.ntmps46
  go_wp2_with fail
  go_loopw [5] (fun i wr => ∃ k : Nat, k ≤ zs.length ∧ i = .int .i64 k ∧ Hid (Below w.heap.size w wr)) (fun i _ => zs.length - (intOf i).toNat)
  case atStart => exact ⟨0, Nat.zero_le _, rfl, Below.refl _ _⟩
  case round =>
    obtain ⟨k, hk, rfl, HBk⟩ := hrel
    by_cases hlt : k < zs.length
    · have hltz : (k : Int) < (zs.length : Int) := by omega
      obtain ⟨b, o, rfl, hc⟩ := (HA.out.below HBk.out).at hlt
      obtain ⟨b2, o2, rfl, hc2⟩ := (HB.out.below HBk.out).at hlt
      have hne : (fld zs k != fld zs k) = false := by simp
      go_wp2_with fail
      go_quiet (fail)
      go_wp2
      go_roundw
      case rel => exact ⟨k + 1, by omega, by go_num, below_drewN HBk.out _⟩
      case measure => simp [intOf]; omega
    · have hltz : ¬ (k : Int) < (zs.length : Int) := by omega
      go_wp2
      go_ret
      exact ⟨rfl, HBk.out⟩
set_option maxRecDepth 100000 in
set_option maxHeartbeats 4000000 in
theorem sameElder_calls (t g0 g1 nx : Int) (free : List Int) (es : List (List Int)) (fa ea fb eb : Option Addr) (fc ec fd ed : Nat) (w : World) (hnf : free.length ≤ 100000) (hne : es.length ≤ 100000) (h1 : Nums w fa free) (h2 : Nums w fb free) (h3 : Recs w ea 10 es) (h4 : Recs w eb 10 es) :
    Calls Try.prog 45 #[elderV t g0 g1 nx (.slice fa free.length fc) (.slice ea es.length ec), elderV t g0 g1 nx (.slice fb free.length fd) (.slice eb es.length ed)] w fun e w' => e = .returned (.bool true) ∧ Below w.heap.size w w' := by
  obtain ⟨W, hW⟩ : ∃ W, (w.alloc (.cells #[.int .i64 t, .int .i64 g0, .int .i64 g1, .int .i64 nx, .slice fa free.length fc, .slice ea es.length ec] 60)).alloc (.cells #[.int .i64 t, .int .i64 g0, .int .i64 g1, .int .i64 nx, .slice fb free.length fd, .slice eb es.length ed] 60) = W := ⟨_, rfl⟩
  have hbW : Below w.heap.size w W := by rw [← hW]; exact ((Below.refl _ w).alloc (Nat.le_refl _) _).alloc (by simp [go_sem]) _
  have hsW : W.heap.size = w.heap.size + 2 := by rw [← hW]; simp [go_sem]
  have hh0 : W.heap[w.heap.size]? = some (.cells #[.int .i64 t, .int .i64 g0, .int .i64 g1, .int .i64 nx, .slice fa free.length fc, .slice ea es.length ec] 60) := by
    rw [← hW, heap_alloc_old _ _ (by simp [go_sem])]
    exact heap_alloc_new w _
  have hh1 : W.heap[w.heap.size + 1]? = some (.cells #[.int .i64 t, .int .i64 g0, .int .i64 g1, .int .i64 nx, .slice fb free.length fd, .slice eb es.length ed] 60) := by
    have e : w.heap.size + 1 = (w.alloc (.cells #[.int .i64 t, .int .i64 g0, .int .i64 g1, .int .i64 nx, .slice fa free.length fc, .slice ea es.length ec] 60)).heap.size := by simp [go_sem]
    rw [← hW, e]
    exact heap_alloc_new _ _
  obtain ⟨x0, x1, x2, x3, x4, x5⟩ := elder_cells hh0
  obtain ⟨y0, y1, y2, y3, y4, y5⟩ := elder_cells hh1
  have HN := hid (sameNumbers_calls fa fb fc fd free W hnf (h1.below hbW) (h2.below hbW))
  have HA := hid (h3.below hbW)
  have HB := hid (h4.below hbW)
  have HBW := hid hbW
  have HSW := hid hsW
  have H0 := hid hh0
  have H1 := hid hh1
  have hgs := gold_eq g0 g1
  have ht : (t != t) = false := by simp
  have hnx : (nx != nx) = false := by simp
  have hll : ((es.length : Int) != (es.length : Int)) = false := by simp
  clear h1 h2 h3 h4 hbW hsW hh0 hh1
  go_enter Try.func45, Try.ntmps45
  go_wp2_with fail
  refine HN.out.mono ?_
  rintro e w2 ⟨rfl, hb2⟩
  have hq0 := (hb2.block w.heap.size (by rw [HSW.out]; omega)).trans H0.out
  have hq1 := (hb2.block (w.heap.size + 1) (by rw [HSW.out]; omega)).trans H1.out
  obtain ⟨_, _, _, _, _, z5⟩ := elder_cells hq0
  obtain ⟨_, _, _, _, _, v5⟩ := elder_cells hq1
  have HB2 : Hid (Below W.heap.size W w2) := hb2
  clear x0 x1 x2 x3 x4 x5 y0 y1 y2 y3 y4 y5 HN hb2 hq0 hq1 hW hgs
  go_wp2_with fail
  clear z5 v5
  go_loopw [5] (fun i wr => ∃ k : Nat, k ≤ es.length ∧ i = .int .i64 k ∧ Hid (Below W.heap.size W wr)) (fun i _ => es.length - (intOf i).toNat)
  case atStart => exact ⟨0, Nat.zero_le _, rfl, HB2⟩
  case round =>
    clear HB2
    obtain ⟨k, hk, rfl, HBk⟩ := hrel
    have hq0 := (HBk.out.block w.heap.size (by rw [HSW.out]; omega)).trans H0.out
    have hq1 := (HBk.out.block (w.heap.size + 1) (by rw [HSW.out]; omega)).trans H1.out
    obtain ⟨_, _, _, _, _, z5⟩ := elder_cells hq0
    obtain ⟨_, _, _, _, _, v5⟩ := elder_cells hq1
    clear hq0 hq1
    by_cases hlt : k < es.length
    · have hltz : (k : Int) < (es.length : Int) := by omega
      obtain ⟨b, o, rfl, hb, l0, l1, l2, l3, l4, l5, l6, l7, l8, l9⟩ := (HA.out.below HBk.out).ten hlt
      obtain ⟨b', o', rfl, hb', m0, m1, m2, m3, m4, m5, m6, m7, m8, m9⟩ := (HB.out.below HBk.out).ten hlt
      generalize rec es k = u at l0 l1 l2 l3 l4 l5 l6 l7 l8 l9 m0 m1 m2 m3 m4 m5 m6 m7 m8 m9
      have heq := ent_eq u
      go_wp2_with fail
      go_quiet (fail)
      go_wp2
      go_roundw
      case rel => exact ⟨k + 1, by omega, by go_num, below_drewN HBk.out _⟩
      case measure => simp [intOf]; omega
    · have hltz : ¬ (k : Int) < (es.length : Int) := by omega
      have HF : Hid (Below w.heap.size w wr) := HBW.out.trans (HBk.out.mono (by rw [HSW.out]; omega))
      go_wp2
      go_ret
      exact ⟨rfl, HF.out⟩
end Go.Proofs.Ytgiieepfhohmhaa
namespace Go.Proofs.Ytgiieepfhohmhaa
open Go.RowKit Go.Maps
def tenZ (s : List Int) : List Int := [fld s 0, fld s 1, fld s 2, fld s 3, fld s 4, fld s 5, fld s 6, fld s 7, fld s 8, fld s 9]
theorem nums_four (w : World) (a b c d : Int) (t : TypeId) : Nums (w.alloc (.cells #[.int .i64 a, .int .i64 b, .int .i64 c, .int .i64 d] t)) (some ⟨w.heap.size, 0, none⟩) [a, b, c, d] := by
  refine Or.inr ⟨w.heap.size, 0, rfl, fun i hi => ?_⟩
  rw [cell_of_row _ _ (0 + i) _ _ _ (heap_alloc_new w _), Nat.zero_add]
  have hi' : i < 4 := hi
  match i, hi' with
  | 0, _ | 1, _ | 2, _ | 3, _ => rfl
theorem nums_ten (w : World) (s : List Int) (t : TypeId) : Nums (w.alloc (.cells (entC s) t)) (some ⟨w.heap.size, 0, none⟩) (tenZ s) := by
  refine Or.inr ⟨w.heap.size, 0, rfl, fun i hi => ?_⟩
  rw [cell_of_row _ _ (0 + i) _ _ _ (heap_alloc_new w _), Nat.zero_add]
  have hi' : i < 10 := hi
  match i, hi' with
  | 0, _ | 1, _ | 2, _ | 3, _ | 4, _ | 5, _ | 6, _ | 7, _ | 8, _ | 9, _ => rfl
end Go.Proofs.Ytgiieepfhohmhaa

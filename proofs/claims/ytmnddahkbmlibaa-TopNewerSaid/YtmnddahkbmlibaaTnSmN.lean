/- SameNewer of what is the same; wealth. -/
import Derived.BigQuiet
import Derived.Test.YtmnddahkbmlibaaTnSw
namespace Go.Proofs.Ytmnddahkbmlibaa
open Go.RowKit Go.Maps
theorem goldN_eq (a b : Int) (w : World) : (Op.equalIn 10000 56 (.agg #[.int .i64 a, .int .i64 b]) (.agg #[.int .i64 a, .int .i64 b])).run Try.prog w = .ok true w := by
  obtain ⟨i0, hi, _, _, _⟩ := info_parts info_int
  rw [Go.run_equalIn_array w 9999 _ _ Try.underlying56 hi]
  have e : List.range 2 = [0, 1] := rfl
  have c1 : Try.prog.cellsOf 3 = 1 := by kernel_rfl
  rw [e, c1]
  simp [Op.eqItems, go_sem]
theorem unit_eq (u : List Int) (w : World) : (Op.equalIn 10000 110 (unitV u) (unitV u)).run Try.prog w = .ok true w := by
  rw [run_equalIn_struct w 9999 110 _ _ (by kernel_rfl) (by kernel_rfl)]
  simp [go_sem]
set_option maxRecDepth 100000 in
set_option maxHeartbeats 4000000 in
theorem sameNewer_calls (t g0 g1 nx : Int) (es : List (List Int)) (ea eb : Option Addr) (ec ed : Nat) (w : World) (hne : es.length ≤ 100000) (h3 : Recs w ea 11 es) (h4 : Recs w eb 11 es) :
    Calls Try.prog 56 #[newerV t g0 g1 nx (.slice ea es.length ec), newerV t g0 g1 nx (.slice eb es.length ed)] w fun e w' => e = .returned (.bool true) ∧ Below w.heap.size w w' := by
  obtain ⟨W, hW⟩ : ∃ W, (w.alloc (.cells (newerC t g0 g1 nx (.slice ea es.length ec)) 90)).alloc (.cells (newerC t g0 g1 nx (.slice eb es.length ed)) 90) = W := ⟨_, rfl⟩
  have hbW : Below w.heap.size w W := by rw [← hW]; exact ((Below.refl _ w).alloc (Nat.le_refl _) _).alloc (by simp [go_sem]) _
  have hsW : W.heap.size = w.heap.size + 2 := by rw [← hW]; simp [go_sem]
  have hh0 : W.heap[w.heap.size]? = some (.cells (newerC t g0 g1 nx (.slice ea es.length ec)) 90) := by
    rw [← hW, heap_alloc_old _ _ (by simp [go_sem])]
    exact heap_alloc_new w _
  have hh1 : W.heap[w.heap.size + 1]? = some (.cells (newerC t g0 g1 nx (.slice eb es.length ed)) 90) := by
    have e : w.heap.size + 1 = (w.alloc (.cells (newerC t g0 g1 nx (.slice ea es.length ec)) 90)).heap.size := by simp [go_sem]
    rw [← hW, e]
    exact heap_alloc_new _ _
  obtain ⟨x0, x1, x2, x3, x4, _⟩ := five_cells hh0
  obtain ⟨y0, y1, y2, y3, y4, _⟩ := five_cells hh1
  have HA := hid (h3.below hbW)
  have HB := hid (h4.below hbW)
  have HBW := hid hbW
  have HSW := hid hsW
  have H0 := hid hh0
  have H1 := hid hh1
  have hgs := goldN_eq g0 g1
  have ht : (t != t) = false := by simp
  have hnx : (nx != nx) = false := by simp
  have hll : ((es.length : Int) != (es.length : Int)) = false := by simp
  clear h3 h4 hbW hsW hh0 hh1
  go_enter Try.func56, Try.ntmps56
  go_wp2_with fail
  clear x0 x1 x2 x3 x4 y0 y1 y2 y3 y4 hW hgs
  go_loopw [5] (fun i wr => ∃ k : Nat, k ≤ es.length ∧ i = .int .i64 k ∧ Hid (Below W.heap.size W wr)) (fun i _ => es.length - (intOf i).toNat)
  case atStart => exact ⟨0, Nat.zero_le _, rfl, Below.refl _ _⟩
  case round =>
    obtain ⟨k, hk, rfl, HBk⟩ := hrel
    have hq0 := (HBk.out.block w.heap.size (by rw [HSW.out]; omega)).trans H0.out
    have hq1 := (HBk.out.block (w.heap.size + 1) (by rw [HSW.out]; omega)).trans H1.out
    obtain ⟨_, _, _, _, z4, _⟩ := five_cells hq0
    obtain ⟨_, _, _, _, v4, _⟩ := five_cells hq1
    clear hq0 hq1
    by_cases hlt : k < es.length
    · have hltz : (k : Int) < (es.length : Int) := by omega
      obtain ⟨b, o, rfl, hc⟩ := (HA.out.below HBk.out).at hlt
      obtain ⟨b', o', rfl, hd⟩ := (HB.out.below HBk.out).at hlt
      have l0 : wr.cell? ⟨b, o + k * 11, none⟩ = some (.int .i64 (fld (rec es k) 0)) := hc 0 (by omega)
      have l1 := hc 1 (by omega)
      have l2 := hc 2 (by omega)
      have l3 := hc 3 (by omega)
      have l4 := hc 4 (by omega)
      have l5 := hc 5 (by omega)
      have l6 := hc 6 (by omega)
      have l7 := hc 7 (by omega)
      have l8 := hc 8 (by omega)
      have l9 := hc 9 (by omega)
      have l10 := hc 10 (by omega)
      have m0 : wr.cell? ⟨b', o' + k * 11, none⟩ = some (.int .i64 (fld (rec es k) 0)) := hd 0 (by omega)
      have m1 := hd 1 (by omega)
      have m2 := hd 2 (by omega)
      have m3 := hd 3 (by omega)
      have m4 := hd 4 (by omega)
      have m5 := hd 5 (by omega)
      have m6 := hd 6 (by omega)
      have m7 := hd 7 (by omega)
      have m8 := hd 8 (by omega)
      have m9 := hd 9 (by omega)
      have m10 := hd 10 (by omega)
      clear hc hd
      generalize rec es k = u at l0 l1 l2 l3 l4 l5 l6 l7 l8 l9 l10 m0 m1 m2 m3 m4 m5 m6 m7 m8 m9 m10
      have heq := unit_eq u
      go_wp2_with fail
      go_quiet (fail)
      go_wp2
      go_roundw
      case rel => exact ⟨k + 1, by omega, by go_num, below_drewN HBk.out _⟩
      case measure => simp [intOf]; omega
    · have hltz : ¬ (k : Int) < (es.length : Int) := by omega
      have HF : Hid (Below w.heap.size w wr) := HBW.out.trans (HBk.out.mono (by rw [HSW.out]; omega))
      go_wp2
      go_ret
      exact ⟨rfl, HF.out⟩
def oreK (es : List (List Int)) (k : Nat) : Int := (es.take k).foldl (fun n u => if fld u 2 = 4 then n + fld u 5 else n) 0
theorem oreK_next {es : List (List Int)} {k : Nat} (hk : k < es.length) : oreK es (k + 1) = if fld (rec es k) 2 = 4 then oreK es k + fld (rec es k) 5 else oreK es k := by
  unfold oreK
  rw [take_rec hk, List.foldl_append]
  rfl
theorem oreK_bd {es : List (List Int)} (h : ∀ u ∈ es, 1 ≤ fld u 5 ∧ fld u 5 ≤ 1000) : ∀ k, k ≤ es.length → 0 ≤ oreK es k ∧ oreK es k ≤ 1000 * k := by
  intro k
  induction k with
  | zero => intro _; exact ⟨Int.le_refl _, by simp [oreK]⟩
  | succ k ih =>
    intro hk
    have := ih (by omega)
    have hm := h _ (rec_mem (show k < es.length by omega))
    rw [oreK_next (by omega)]
    split <;> omega
theorem oreK_none {es : List (List Int)} (h : ∀ u ∈ es, 1 ≤ fld u 5 ∧ fld u 5 ≤ 1000) (h0 : oreK es es.length ≤ 0) : ∀ u ∈ es, fld u 2 ≠ 4 := by
  have key : ∀ k, k ≤ es.length → oreK es k ≤ 0 → ∀ i, i < k → fld (rec es i) 2 ≠ 4 := by
    intro k
    induction k with
    | zero => intro _ _ i hi; omega
    | succ k ih =>
      intro hk hz i hi
      have hm := h _ (rec_mem (show k < es.length by omega))
      have hb := (oreK_bd h k (by omega)).1
      rw [oreK_next (by omega)] at hz
      split at hz
      · omega
      next h4 =>
        by_cases e : i = k
        · rw [e]; exact h4
        · exact ih (by omega) hz i (by omega)
  exact all_mem.1 (fun i hi => key es.length (Nat.le_refl _) h0 i hi)
set_option maxRecDepth 100000 in
set_option maxHeartbeats 4000000 in
theorem wealth_calls (t g0 g1 nx : Int) (es : List (List Int)) (ea : Option Addr) (ec : Nat) (w : World) (hne : es.length ≤ 1000) (hrow : Recs w ea 11 es) (hb : ∀ u ∈ es, 1 ≤ fld u 5 ∧ fld u 5 ≤ 1000) (h0 : 0 ≤ g0 ∧ g0 ≤ 1000) (h1 : 0 ≤ g1 ∧ g1 ≤ 1000) :
    Calls Try.prog 59 #[newerV t g0 g1 nx (.slice ea es.length ec)] w fun e w' => e = .returned (.tuple #[.int .i64 (oreK es es.length), .int .i64 (g0 + g1)]) ∧ Below w.heap.size w w' := by
  obtain ⟨W, hW⟩ : ∃ W, w.alloc (.cells (newerC t g0 g1 nx (.slice ea es.length ec)) 90) = W := ⟨_, rfl⟩
  have hbW : Below w.heap.size w W := by rw [← hW]; exact (Below.refl _ w).alloc (Nat.le_refl _) _
  have hh0 : W.heap[w.heap.size]? = some (.cells (newerC t g0 g1 nx (.slice ea es.length ec)) 90) := by rw [← hW]; exact heap_alloc_new w _
  have hsW : w.heap.size < W.heap.size := (Array.getElem?_eq_some_iff.1 hh0).1
  have HA := hid (hrow.below hbW)
  have HBW := hid hbW
  have H0 := hid hh0
  have HBD := hid hb
  clear hrow hbW hh0 hb
  go_enter Try.func59, Try.ntmps59
  go_wp2_with fail
  clear hW
  go_loopw [4, 5] (fun ore i wr => ∃ k : Nat, k ≤ es.length ∧ i = .int .i64 k ∧ ore = .int .i64 (oreK es k) ∧ Hid (wr = W)) (fun _ i _ => es.length - (intOf i).toNat)
  case atStart => exact ⟨0, Nat.zero_le _, rfl, rfl, rfl⟩
  case round =>
    obtain ⟨k, hk, rfl, rfl, HWR⟩ := hrel
    have hwr := HWR.out
    subst hwr
    obtain ⟨_, z1, z2, _, z4, _⟩ := five_cells H0.out
    by_cases hlt : k < es.length
    · have hltz : (k : Int) < (es.length : Int) := by omega
      obtain ⟨b, o, rfl, hc⟩ := HA.out.at hlt
      have l2 := hc 2 (by omega)
      have l5 := hc 5 (by omega)
      have HNX := hid (oreK_next hlt)
      have hbd := oreK_bd HBD.out k (by omega)
      have hm := HBD.out _ (rec_mem hlt)
      clear hc z1 z2
      generalize rec es k = u at l2 l5 HNX hm
      have hwa : IntKind.i64.wrap (oreK es k + fld u 5) = oreK es k + fld u 5 := IntWalk.i64_in _ ⟨by omega, by omega⟩
      clear hbd hm
      by_cases h4 : fld u 2 = 4
      · have b4 : (fld u 2 == 4) = true := by simpa using h4
        rw [if_pos h4] at HNX
        clear h4
        go_wp2
        go_roundw
        case rel => exact ⟨k + 1, by omega, by go_num, by rw [HNX.out], trivial⟩
        case measure => simp [intOf]; omega
      · have b4 : (fld u 2 == 4) = false := by simpa using h4
        rw [if_neg h4] at HNX
        clear h4
        go_wp2
        go_roundw
        case rel => exact ⟨k + 1, by omega, by go_num, by rw [HNX.out], trivial⟩
        case measure => simp [intOf]; omega
    · have hltz : ¬ (k : Int) < (es.length : Int) := by omega
      have hke : k = es.length := by omega
      subst hke
      have hwg : IntKind.i64.wrap (g0 + g1) = g0 + g1 := IntWalk.i64_in _ ⟨by omega, by omega⟩
      go_wp2_with fail
      go_quiet (fail)
      go_wp2
      exact bodyPost_ret (v := .tuple #[.int .i64 (oreK es es.length), .int .i64 (g0 + g1)]) (by simp [results, Try.results59, go_sem]) rfl ⟨rfl, below_drewN HBW.out _⟩
end Go.Proofs.Ytmnddahkbmlibaa

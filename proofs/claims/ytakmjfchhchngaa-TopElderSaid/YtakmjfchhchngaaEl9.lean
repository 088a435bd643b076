/- Package elder of the program: the numbers that are free. -/
import Derived.Test.YtakmjfchhchngaaEl8
import Derived.Test.YtakmjfchhchngaaCnt
namespace Go.Proofs.Ytakmjfchhchngaa
open Go.RowKit Go.Maps

def occ (l : List Int) (id : Int) : Int := (l.count id : Int)
theorem occ_snoc (l : List Int) (x : Int) : updZ (occ l) x (occ l x + 1) = occ (l ++ [x]) := by
  funext j
  by_cases h : j = x
  · subst h
    rw [updZ_same]
    simp [occ]
  · rw [updZ_other _ _ h]
    have : ¬ x = j := fun e => h e.symm
    simp [occ, List.count_append, this]
theorem occ_bd (l : List Int) (x : Int) : 0 ≤ occ l x ∧ occ l x ≤ l.length := by
  have := List.count_le_length (a := x) (l := l)
  unfold occ
  omega
def idsE (es : List (List Int)) : List Int := es.map (fun r => fld r 0)
theorem ids_take {es : List (List Int)} {k : Nat} (h : k < es.length) : idsE (es.take (k + 1)) = idsE (es.take k) ++ [fld (rec es k) 0] := by
  unfold idsE
  rw [List.take_add_one, rec_at h, List.map_append]
  simp [h]
theorem nums_take {l : List Int} {k : Nat} (h : k < l.length) : l.take (k + 1) = l.take k ++ [fld l k] := by
  rw [List.take_add_one]
  simp [fld, List.getD_eq_getElem?_getD, h]
def freeE (nx : Int) (es : List (List Int)) (free : List Int) : Nat :=
  if (es.length : Int) + (free.length : Int) = nx - 1 then if ∀ j, j < (nx - 1).toNat → (idsE es ++ free).count ((j : Int) + 1) = 1 then 0 else 3 else 3
theorem freeE_pos {nx : Int} {es : List (List Int)} {free : List Int} (h : (es.length : Int) + (free.length : Int) = nx - 1) (g : ∀ j, j < (nx - 1).toNat → (idsE es ++ free).count ((j : Int) + 1) = 1) : freeE nx es free = 0 := by
  unfold freeE; rw [if_pos h, if_pos g]
theorem freeE_neg1 {nx : Int} {es : List (List Int)} {free : List Int} (h : ¬ (es.length : Int) + (free.length : Int) = nx - 1) : freeE nx es free = 3 := by
  unfold freeE; rw [if_neg h]
theorem freeE_neg2 {nx : Int} {es : List (List Int)} {free : List Int} {j : Nat} (hj : j < (nx - 1).toNat) (g : (idsE es ++ free).count ((j : Int) + 1) ≠ 1) : freeE nx es free = 3 := by
  unfold freeE
  split
  · rw [if_neg (fun h => g (h j hj))]
  · rfl

set_option maxRecDepth 100000 in
set_option maxHeartbeats 8000000 in
theorem checkFree_calls (t g0 g1 nx : Int) (free : List Int) (fa ea : Option Addr) (fc ec : Nat) (es : List (List Int)) (w : World) (hnx : 1 ≤ nx ∧ nx ≤ 201) (hne : es.length ≤ 20) (hnf : free.length ≤ 200)
    (hrow : Recs w ea 10 es) (hfr : Nums w fa free) (hwe : ∀ i, i < es.length → (Lit.int .i64 (fld (rec es i) 0)).wf = true) (hwf : ∀ i, i < free.length → (Lit.int .i64 (fld free i)).wf = true) :
    Calls Try.prog 83 #[elderV t g0 g1 nx (.slice fa free.length fc) (.slice ea es.length ec)] w fun e w' => e = .returned (errV (freeE nx es free)) ∧ Below w.heap.size w w' := by
  have HR := hid hrow
  have HF := hid hfr
  have HWE := hid hwe
  have HWF := hid hwf
  clear hrow hfr hwe hwf
  have hmm := @run_makeMap Try.prog
  obtain ⟨w1, hw1⟩ : ∃ w1, w1 = w.alloc (.cells #[.int .i64 t, .int .i64 g0, .int .i64 g1, .int .i64 nx, .slice fa free.length fc, .slice ea es.length ec] 60) := ⟨_, rfl⟩
  have HB1 : Hid (Below w.heap.size w w1) := by rw [hw1]; exact (Below.refl _ w).alloc (Nat.le_refl _) _
  have hs1 : w1.heap.size = w.heap.size + 1 := by rw [hw1]; simp [go_sem]
  have HS1 := hid hs1
  have q3 : w1.cell? ⟨w.heap.size, 3, none⟩ = some (.int .i64 nx) := by rw [hw1]; simp [go_sem]
  have Q3 := hid q3
  have HW1 := hid hw1
  clear q3 hs1 hw1
  by_cases hsum : (es.length : Int) + (free.length : Int) = nx - 1
  case neg =>
    have b1 : ((es.length : Int) + (free.length : Int) != nx - 1) = true := by simpa using hsum
    have HE : Hid (freeE nx es free = 3) := freeE_neg1 hsum
    clear hsum
    go_enter Try.func83, Try.ntmps83
    go_wp2
    go_ret
    exact ⟨retE (c := 3) HE.out.symm rfl, by go_grown⟩
  have b1 : ((es.length : Int) + (free.length : Int) != nx - 1) = false := by simpa using hsum
  have HSUM := hid hsum
  clear hsum
  go_enter Try.func83, Try.ntmps83
  have q4 : w1.cell? ⟨w.heap.size, 4, none⟩ = some (.slice fa free.length fc) := by rw [HW1.out]; simp [go_sem]
  have Q4 := hid q4
  clear q4
  have HC0 : Hid (Counts (w1.alloc (.map #[] 0)) (w.heap.size + 1) 0 (occ (idsE (es.take 0)))) := by
    have h := Counts.made w1
    rw [HS1.out] at h
    have e : occ (idsE (es.take 0)) = fun _ => 0 := by funext j; simp [occ, idsE]
    show Counts _ _ _ _
    rw [e]
    exact h
  have HB0 : Hid (Below w1.heap.size w1 (w1.alloc (.map #[] 0))) := (Below.refl _ w1).alloc (Nat.le_refl _) _
  rw [HW1.out] at HC0 HB0
  go_wp2
  go_loopw [25] (fun i wr => ∃ k : Nat, k ≤ es.length ∧ i = .int .i64 k ∧ Hid (Counts wr (w.heap.size + 1) k (occ (idsE (es.take k)))) ∧ Hid (Below w1.heap.size w1 wr)) (fun i _ => es.length - (intOf i).toNat)
  case atStart => exact ⟨0, Nat.zero_le _, rfl, HC0, by rw [HW1.out]; exact HB0⟩
  case round =>
    clear HC0 HB0
    obtain ⟨k, hk, rfl, HC, HB⟩ := hrel
    have HBw : Hid (Below w.heap.size w wr) := HB1.out.trans (HB.out.mono (by rw [HS1.out]; omega))
    by_cases hlt : k < es.length
    · obtain ⟨b, o, rfl, hb, l0, l1, l2, l3, l4, l5, l6, l7, l8, l9⟩ := (HR.out.below HBw.out).ten hlt
      have hltz : (k : Int) < (es.length : Int) := by omega
      have hwf0 := HWE.out k hlt
      have HT := hid (ids_take hlt)
      generalize rec es k = y at l0 l1 l2 l3 l4 l5 l6 l7 l8 l9 hwf0 HT
      have hf := occ_bd (idsE (es.take k)) (fld y 0)
      have hf2 : (idsE (es.take k)).length ≤ 20 := by simp [idsE]; omega
      obtain ⟨c, hc⟩ : ∃ c, occ (idsE (es.take k)) (fld y 0) = c := ⟨_, rfl⟩
      have hc1 : 0 ≤ c := by omega
      have hc2 : c ≤ 1000 := by omega
      have HCC := hid hc
      have HWF0 := hid hwf0
      clear hf hf2 hc hwf0 b1 hmm
      go_wp2_with (first
        | (at_lookup; refine wp_look_counts _ rfl _ _ rfl (w.heap.size + 1) k _ rfl (HC.out.alloc _) (fld y 0) rfl HWF0.out ?_; rw [HCC.out])
        | (at_mapUpdate; refine wp_store_counts _ rfl _ _ _ rfl (w.heap.size + 1) k _ rfl (HC.out.alloc _) (by omega) (fld y 0) (c + 1) rfl rfl HWF0.out (wf64 (by omega) (by omega)) ?_; intro w2 hcn2 hgr2))
      have HC2 := hid hcn2
      have HG2 := hid hgr2
      clear hcn2 hgr2
      go_roundw
      case rel =>
        refine ⟨k + 1, by omega, by go_num, ?_, ?_⟩
        · show Counts _ _ _ _
          rw [HT.out, ← occ_snoc, HCC.out]
          exact HC2.out
        · exact (HB.out.alloc (by exact HB.out.size) _).grown HG2.out (by have := HB.out.size; simp [go_sem]; omega) (fun j hj => by cases hj; rw [HS1.out]; exact Nat.le_refl _)
      case measure => simp [intOf]; omega
    · have hltz : ¬ (k : Int) < (es.length : Int) := by omega
      have q4 : wr.cell? ⟨w.heap.size, 4, none⟩ = some (.slice fa free.length fc) := (HB.out.cell (p := ⟨w.heap.size, 4, none⟩) (show w.heap.size < w1.heap.size by rw [HS1.out]; omega)).trans Q4.out
      have HC1 : Hid (Counts wr (w.heap.size + 1) (es.length + 0) (occ (idsE es ++ free.take 0))) := by
        have e : es.take k = es := List.take_of_length_le (by omega)
        have h := HC.out
        rw [e] at h
        show Counts _ _ _ _
        rw [List.take_zero, List.append_nil]
        exact h.mono (by omega)
      clear HC b1 hmm HBw
      go_wp2
      clear q4
      go_loopw [38] (fun i wr => ∃ k : Nat, k ≤ free.length ∧ i = .int .i64 k ∧ Hid (Counts wr (w.heap.size + 1) (es.length + k) (occ (idsE es ++ free.take k))) ∧ Hid (Below w1.heap.size w1 wr)) (fun i _ => free.length - (intOf i).toNat)
      case atStart => exact ⟨0, Nat.zero_le _, rfl, HC1, HB⟩
      case round =>
        clear HC1 HB
        obtain ⟨k, hk, rfl, HC, HB⟩ := hrel
        have HBw : Hid (Below w.heap.size w wr) := HB1.out.trans (HB.out.mono (by rw [HS1.out]; omega))
        by_cases hlt : k < free.length
        · obtain ⟨b, o, rfl, l0⟩ := (HF.out.below HBw.out).at hlt
          have hltz : (k : Int) < (free.length : Int) := by omega
          have hwf0 := HWF.out k hlt
          have HT := hid (nums_take hlt)
          generalize fld free k = y at l0 hwf0 HT
          have hf := occ_bd (idsE es ++ free.take k) y
          have hf2 : (idsE es ++ free.take k).length ≤ 220 := by simp [idsE]; omega
          obtain ⟨c, hc⟩ : ∃ c, occ (idsE es ++ free.take k) y = c := ⟨_, rfl⟩
          have hc1 : 0 ≤ c := by omega
          have hc2 : c ≤ 1000 := by omega
          have HCC := hid hc
          have HWF0 := hid hwf0
          clear hf hf2 hc hwf0
          go_wp2_with (first
            | (at_lookup; refine wp_look_counts _ rfl _ _ rfl (w.heap.size + 1) (es.length + k) _ rfl HC.out y rfl HWF0.out ?_; rw [HCC.out])
            | (at_mapUpdate; refine wp_store_counts _ rfl _ _ _ rfl (w.heap.size + 1) (es.length + k) _ rfl HC.out (by omega) y (c + 1) rfl rfl HWF0.out (wf64 (by omega) (by omega)) ?_; intro w2 hcn2 hgr2))
          have HC2 := hid hcn2
          have HG2 := hid hgr2
          clear hcn2 hgr2
          go_roundw
          case rel =>
            refine ⟨k + 1, by omega, by go_num, ?_, ?_⟩
            · show Counts _ _ _ _
              rw [HT.out, ← List.append_assoc, ← occ_snoc, HCC.out]
              exact HC2.out
            · exact HB.out.grown HG2.out HB.out.size (fun j hj => by cases hj; rw [HS1.out]; exact Nat.le_refl _)
          case measure => simp [intOf]; omega
        · have hltz : ¬ (k : Int) < (free.length : Int) := by omega
          have q3 : wr.cell? ⟨w.heap.size, 3, none⟩ = some (.int .i64 nx) := (HB.out.cell (p := ⟨w.heap.size, 3, none⟩) (show w.heap.size < w1.heap.size by rw [HS1.out]; omega)).trans Q3.out
          have HC1 : Hid (Counts wr (w.heap.size + 1) (es.length + k) (occ (idsE es ++ free))) := by
            have e : free.take k = free := List.take_of_length_le (by omega)
            have h := HC.out
            rw [e] at h
            exact h
          clear HC HB
          go_wp2
          go_loop [8] (fun i => ∃ j : Nat, j ≤ (nx - 1).toNat ∧ i = .int .i64 ((j : Int) + 1) ∧ Hid (∀ i, i < j → (idsE es ++ free).count ((i : Int) + 1) = 1)) (fun i => 300 - (intOf i).toNat)
          case atStart => exact ⟨0, Nat.zero_le _, rfl, fun i hi => by omega⟩
          case round =>
            obtain ⟨j, hj, rfl, HN⟩ := hrel
            by_cases hjn : (j : Int) + 1 < nx
            · have hwj : (Lit.int .i64 ((j : Int) + 1)).wf = true := wf64 (by omega) (by omega)
              have HWJ := hid hwj
              clear hwj
              by_cases hone : (idsE es ++ free).count ((j : Int) + 1) = 1
              · have ho : occ (idsE es ++ free) ((j : Int) + 1) = 1 := by unfold occ; rw [hone]; rfl
                have HO := hid ho
                have HN2 : Hid (∀ i, i < j + 1 → (idsE es ++ free).count ((i : Int) + 1) = 1) := fun i hi => by
                  by_cases e : i = j
                  · rw [e]; exact hone
                  · exact HN.out i (by omega)
                clear hone ho HN
                go_wp2_with (at_lookup; refine wp_look_counts _ rfl _ _ rfl (w.heap.size + 1) _ _ rfl HC1.out ((j : Int) + 1) rfl HWJ.out ?_; rw [HO.out])
                go_round
                case rel => exact ⟨j + 1, by omega, by go_num, HN2⟩
                case measure => simp [intOf]; omega
              · have HE : Hid (freeE nx es free = 3) := freeE_neg2 (j := j) (by omega) hone
                obtain ⟨c, hc⟩ : ∃ c, occ (idsE es ++ free) ((j : Int) + 1) = c := ⟨_, rfl⟩
                have hb1 : (c != 1) = true := by
                  rw [bne_iff_ne]
                  intro e
                  rw [← hc] at e
                  unfold occ at e
                  omega
                have HCC := hid hc
                clear hone hc HN
                go_wp2_with (at_lookup; refine wp_look_counts _ rfl _ _ rfl (w.heap.size + 1) _ _ rfl HC1.out ((j : Int) + 1) rfl HWJ.out ?_; rw [HCC.out])
                go_ret
                exact ⟨retE (c := 3) HE.out.symm rfl, HBw.out⟩
            · have HE : Hid (freeE nx es free = 0) := freeE_pos HSUM.out (fun i hi => HN.out i (by omega))
              clear HN
              go_wp2
              go_ret
              exact ⟨retE (c := 0) HE.out.symm rfl, HBw.out⟩
end Go.Proofs.Ytakmjfchhchngaa

/- Package snap: a state as bytes. -/
import Derived.Test.YtgiieepfhohmhabGreatZTnA
import Derived.Test.YtgiieepfhohmhabGreatZWire2
import Derived.Test.YtgiieepfhohmhabGreatZSnE
import Derived.Test.YtgiieepfhohmhabGreatZSnB
namespace Go.Proofs.YtgiieepfhohmhabGreat
open Go.RowKit
theorem num_ne (n : Nat) : Nu.num n ≠ [] := by
  unfold Nu.num Nu.numF
  split
  · exact fun h => by cases h
  · exact fun h => by cases h
theorem numsL_ne (z : Int) (l : List Int) : numsL (z :: l) ≠ [] := by
  rw [numsL_cons]
  intro h
  exact num_ne _ (List.append_eq_nil_iff.1 h).1
theorem elderN_length {s : St} (h : SmlS 10 s) : (elderN s).length ≤ 500 := by
  have h1 := h.fl
  have h2 := h.el
  unfold elderN recsN
  simp only [List.length_append, List.length_cons, flat_norm_length, List.length_nil]
  omega
theorem newerN_length {s : St} (h : SmlS 11 s) : (newerN s).length ≤ 500 := by
  have h2 := h.el
  unfold newerN recsN
  simp only [List.length_append, List.length_cons, flat_norm_length, List.length_nil]
  omega
def byE (s : St) : List UInt8 := if checkE s.t s.g0 s.g1 s.nx s.free s.es = 0 then frameL 69 (numsL (elderN s)) else []
def byN (s : St) : List UInt8 := if ckN s = 0 then frameL 78 (numsL (newerN s)) else []
abbrev funV (k : Nat) : Value := .func (.func k) #[] #[]
set_option maxHeartbeats 4000000 in
set_option maxRecDepth 100000 in
theorem bytesE0_calls (s : St) (fa ea : Option Addr) (fc ec : Nat) (w : World) (h : InE w s fa ea fc ec) :
    Calls Tryz.prog 69 #[.int .u8 69, elderV s.t s.g0 s.g1 s.nx (.slice fa s.free.length fc) (.slice ea s.es.length ec), funV 48, funV 70] w fun e w' => e = .returned (.tuple #[.string ⟨(byE s).toArray⟩, errV (checkE s.t s.g0 s.g1 s.nx s.free s.es)]) ∧ Below w.heap.size w w' := by
  obtain ⟨W, hW⟩ : ∃ W, w.alloc (.cells (elC s.t s.g0 s.g1 s.nx (.slice fa s.free.length fc) (.slice ea s.es.length ec)) 29) = W := ⟨_, rfl⟩
  have hbW : Below w.heap.size w W := by rw [← hW]; exact (Below.refl _ w).alloc (Nat.le_refl _) _
  have hsW : W.heap.size = w.heap.size + 1 := by rw [← hW]; simp [go_sem]
  have hh0 : W.heap[w.heap.size]? = some (.cells (elC s.t s.g0 s.g1 s.nx (.slice fa s.free.length fc) (.slice ea s.es.length ec)) 29) := by rw [← hW]; exact heap_alloc_new _ _
  have hin := h.below hbW
  obtain ⟨x0, x1, x2, x3, x4, x5⟩ := elder_cells hh0
  have HC : Hid (Calls Tryz.prog 48 #[elderV s.t s.g0 s.g1 s.nx (.slice fa s.free.length fc) (.slice ea s.es.length ec)] W fun e w' => e = .returned (errV (checkE s.t s.g0 s.g1 s.nx s.free s.es)) ∧ Below W.heap.size W w') := check_calls s.t s.g0 s.g1 s.nx s.free fa ea fc ec s.es W h.cap hin.rows hin.nums h.wf
  have HBW := hid hbW
  have HSW := hid hsW
  have H0 := hid hh0
  have HIN := hid hin
  by_cases h0 : checkE s.t s.g0 s.g1 s.nx s.free s.es = 0
  case neg =>
    have HY : Hid (byE s = []) := if_neg h0
    obtain ⟨c, hc⟩ : ∃ c, checkE s.t s.g0 s.g1 s.nx s.free s.es = c := ⟨_, rfl⟩
    rw [hc] at h0 HC ⊢
    rw [errV_pos h0] at HC ⊢
    clear h hin hbW hsW hh0 hc h0
    go_enter Tryz.func69, Tryz.ntmps69
    go_wp2_with fail
    refine HC.out.mono ?_
    rintro e w2 ⟨rfl, hb2⟩
    have HF : Hid (Below w.heap.size w w2) := HBW.out.trans (hb2.mono (by rw [HSW.out]; omega))
    clear hb2 x0 x1 x2 x3 x4 x5 hW HC
    go_wp2
    go_ret2
    rw [HY.out]
    exact ⟨rfl, HF.out⟩
  have HM := hid (smlE (inv_of_check h0) h.born)
  have HY : Hid (byE s = frameL 69 (numsL (elderN s))) := if_pos h0
  rw [h0, errV_zero] at HC ⊢
  clear h hin hbW hsW hh0 h0
  go_enter Tryz.func69, Tryz.ntmps69
  go_wp2_with fail
  refine HC.out.mono ?_
  rintro e w2 ⟨rfl, hb2⟩
  obtain ⟨X, hX⟩ : ∃ X, w2.alloc (.cells #[.pointer none, .slice none 0 0] 209) = X := ⟨_, rfl⟩
  have hbX : Below w2.heap.size w2 X := by rw [← hX]; exact (Below.refl _ _).alloc (Nat.le_refl _) _
  have hwX : IsW w2.heap.size w2.heap.size [] X := by rw [← hX]; exact Lib.fresh_isBuilder _ _ _
  have hh2 := (hb2.block w.heap.size (by rw [HSW.out]; omega)).trans H0.out
  have hhX := (hbX.block w.heap.size (Array.getElem?_eq_some_iff.1 hh2).1).trans hh2
  have hi2 := HIN.out.below hb2
  have HWR := hid (writeElder_calls w2.heap.size w2.heap.size [] s fa ea fc ec X hwX (fun w' hx => hi2.below (hbX.trans hx)) HM.out (by simp) hbX.size)
  have hlen := elderN_length HM.out
  have HB2 := hid hb2
  have HBX := hid hbX
  clear x0 x1 x2 x3 x4 x5
  obtain ⟨x0, x1, x2, x3, x4, x5⟩ := elder_cells hhX
  clear hb2 hbX hwX hh2 hhX hi2 hW HC
  go_wp2_with fail
  refine HWR.out.mono ?_
  rintro e w3 ⟨rfl, hw3, hb3, _⟩
  have hne : numsL (elderN s) ≠ [] := numsL_ne _ _
  rw [List.nil_append] at hw3
  have hnl := numsL_length (elderN s)
  have HST := hid (builderString_calls w2.heap.size w2.heap.size (numsL (elderN s)) w3 hw3 hne)
  have HB3 : Hid (Below w2.heap.size w2 w3) := HBX.out.trans hb3
  clear hw3 hb3 hne hX x0 x1 x2 x3 x4 x5 HWR HBX
  go_wp2_with fail
  refine HST.out.mono ?_
  rintro e w4 ⟨rfl, hb4⟩
  have HFR := hid (frame_calls 69 (numsL (elderN s)) (by omega) w4)
  have HB4 : Hid (Below w2.heap.size w2 w4) := HB3.out.trans hb4
  clear hb4 HST
  go_wp2_with fail
  refine HFR.out.mono ?_
  rintro e w5 ⟨rfl, hb5⟩
  have HF : Hid (Below w.heap.size w w5) := by
    have h2 : Below W.heap.size W w5 := (HB2.out.trans (HB4.out.mono HB2.out.size)).trans (hb5.mono (Nat.le_trans HB2.out.size HB4.out.size))
    exact HBW.out.trans (h2.mono (by rw [HSW.out]; omega))
  clear hb5 HFR
  go_wp2
  go_ret2
  rw [HY.out]
  exact ⟨rfl, HF.out⟩
set_option maxHeartbeats 4000000 in
set_option maxRecDepth 100000 in
theorem bytesE_calls (s : St) (fa ea : Option Addr) (fc ec : Nat) (w : World) (h : InE w s fa ea fc ec) :
    Calls Tryz.prog 23 #[elderV s.t s.g0 s.g1 s.nx (.slice fa s.free.length fc) (.slice ea s.es.length ec)] w fun e w' => e = .returned (.tuple #[.string ⟨(byE s).toArray⟩, errV (checkE s.t s.g0 s.g1 s.nx s.free s.es)]) ∧ Below w.heap.size w w' := by
  obtain ⟨W, hW⟩ : ∃ W, w.alloc (.cells (elC s.t s.g0 s.g1 s.nx (.slice fa s.free.length fc) (.slice ea s.es.length ec)) 29) = W := ⟨_, rfl⟩
  have hbW : Below w.heap.size w W := by rw [← hW]; exact (Below.refl _ w).alloc (Nat.le_refl _) _
  have hh0 : W.heap[w.heap.size]? = some (.cells (elC s.t s.g0 s.g1 s.nx (.slice fa s.free.length fc) (.slice ea s.es.length ec)) 29) := by rw [← hW]; exact heap_alloc_new _ _
  obtain ⟨x0, x1, x2, x3, x4, x5⟩ := elder_cells hh0
  have HC := hid (bytesE0_calls s fa ea fc ec W (h.below hbW))
  have HBW := hid hbW
  generalize errV (checkE s.t s.g0 s.g1 s.nx s.free s.es) = ev at HC ⊢
  clear h hbW hh0
  go_enter Tryz.func23, Tryz.ntmps23
  go_wp2_with fail
  refine HC.out.mono ?_
  rintro e w2 ⟨rfl, hb2⟩
  have HF : Hid (Below w.heap.size w w2) := HBW.out.trans (hb2.mono HBW.out.size)
  clear hb2 HC
  go_wp2
  go_ret2
  exact ⟨rfl, HF.out⟩
set_option maxHeartbeats 4000000 in
set_option maxRecDepth 100000 in
theorem bytesN0_calls (s : St) (ea : Option Addr) (ec : Nat) (w : World) (h : InW w s ea ec) :
    Calls Tryz.prog 74 #[.int .u8 78, newerV s.t s.g0 s.g1 s.nx (.slice ea s.es.length ec), funV 56, funV 75] w fun e w' => e = .returned (.tuple #[.string ⟨(byN s).toArray⟩, errV (ckN s)]) ∧ Below w.heap.size w w' := by
  obtain ⟨W, hW⟩ : ∃ W, w.alloc (.cells (newerC s.t s.g0 s.g1 s.nx (.slice ea s.es.length ec)) 38) = W := ⟨_, rfl⟩
  have hbW : Below w.heap.size w W := by rw [← hW]; exact (Below.refl _ w).alloc (Nat.le_refl _) _
  have hsW : W.heap.size = w.heap.size + 1 := by rw [← hW]; simp [go_sem]
  have hh0 : W.heap[w.heap.size]? = some (.cells (newerC s.t s.g0 s.g1 s.nx (.slice ea s.es.length ec)) 38) := by rw [← hW]; exact heap_alloc_new _ _
  have hin := h.below hbW
  obtain ⟨x0, x1, x2, x3, x4, _⟩ := five_cells hh0
  have HC : Hid (Calls Tryz.prog 56 #[newerV s.t s.g0 s.g1 s.nx (.slice ea s.es.length ec)] W fun e w' => e = .returned (errV (ckN s)) ∧ Below W.heap.size W w') := checkNewer_calls s.t s.g0 s.g1 s.nx s.es ea ec W hin.rows
  have HBW := hid hbW
  have HSW := hid hsW
  have H0 := hid hh0
  have HIN := hid hin
  by_cases h0 : ckN s = 0
  case neg =>
    have HY : Hid (byN s = []) := if_neg h0
    obtain ⟨c, hc⟩ : ∃ c, ckN s = c := ⟨_, rfl⟩
    rw [hc] at h0 HC ⊢
    rw [errV_pos h0] at HC ⊢
    clear h hin hbW hsW hh0 hc h0
    go_enter Tryz.func74, Tryz.ntmps74
    go_wp2_with fail
    refine HC.out.mono ?_
    rintro e w2 ⟨rfl, hb2⟩
    have HF : Hid (Below w.heap.size w w2) := HBW.out.trans (hb2.mono (by rw [HSW.out]; omega))
    clear hb2 x0 x1 x2 x3 x4 hW HC
    go_wp2
    go_ret2
    rw [HY.out]
    exact ⟨rfl, HF.out⟩
  have HM := hid (smlN (invN_of_check h.fr h0) h.born)
  have HY : Hid (byN s = frameL 78 (numsL (newerN s))) := if_pos h0
  rw [h0, errV_zero] at HC ⊢
  clear h hin hbW hsW hh0 h0
  go_enter Tryz.func74, Tryz.ntmps74
  go_wp2_with fail
  refine HC.out.mono ?_
  rintro e w2 ⟨rfl, hb2⟩
  obtain ⟨X, hX⟩ : ∃ X, w2.alloc (.cells #[.pointer none, .slice none 0 0] 209) = X := ⟨_, rfl⟩
  have hbX : Below w2.heap.size w2 X := by rw [← hX]; exact (Below.refl _ _).alloc (Nat.le_refl _) _
  have hwX : IsW w2.heap.size w2.heap.size [] X := by rw [← hX]; exact Lib.fresh_isBuilder _ _ _
  have hh2 := (hb2.block w.heap.size (by rw [HSW.out]; omega)).trans H0.out
  have hhX := (hbX.block w.heap.size (Array.getElem?_eq_some_iff.1 hh2).1).trans hh2
  have hi2 := HIN.out.below hb2
  have HWR := hid (writeNewer_calls w2.heap.size w2.heap.size [] s ea ec X hwX (fun w' hx => hi2.below (hbX.trans hx)) HM.out (by simp) hbX.size)
  have hlen := newerN_length HM.out
  have HB2 := hid hb2
  have HBX := hid hbX
  clear x0 x1 x2 x3 x4
  obtain ⟨x0, x1, x2, x3, x4, _⟩ := five_cells hhX
  clear hb2 hbX hwX hh2 hhX hi2 hW HC
  go_wp2_with fail
  refine HWR.out.mono ?_
  rintro e w3 ⟨rfl, hw3, hb3, _⟩
  have hne : numsL (newerN s) ≠ [] := numsL_ne _ _
  rw [List.nil_append] at hw3
  have hnl := numsL_length (newerN s)
  have HST := hid (builderString_calls w2.heap.size w2.heap.size (numsL (newerN s)) w3 hw3 hne)
  have HB3 : Hid (Below w2.heap.size w2 w3) := HBX.out.trans hb3
  clear hw3 hb3 hne hX x0 x1 x2 x3 x4 HWR HBX
  go_wp2_with fail
  refine HST.out.mono ?_
  rintro e w4 ⟨rfl, hb4⟩
  have HFR := hid (frame_calls 78 (numsL (newerN s)) (by omega) w4)
  have HB4 : Hid (Below w2.heap.size w2 w4) := HB3.out.trans hb4
  clear hb4 HST
  go_wp2_with fail
  refine HFR.out.mono ?_
  rintro e w5 ⟨rfl, hb5⟩
  have HF : Hid (Below w.heap.size w w5) := by
    have h2 : Below W.heap.size W w5 := (HB2.out.trans (HB4.out.mono HB2.out.size)).trans (hb5.mono (Nat.le_trans HB2.out.size HB4.out.size))
    exact HBW.out.trans (h2.mono (by rw [HSW.out]; omega))
  clear hb5 HFR
  go_wp2
  go_ret2
  rw [HY.out]
  exact ⟨rfl, HF.out⟩
set_option maxHeartbeats 4000000 in
set_option maxRecDepth 100000 in
theorem bytesN_calls (s : St) (ea : Option Addr) (ec : Nat) (w : World) (h : InW w s ea ec) :
    Calls Tryz.prog 25 #[newerV s.t s.g0 s.g1 s.nx (.slice ea s.es.length ec)] w fun e w' => e = .returned (.tuple #[.string ⟨(byN s).toArray⟩, errV (ckN s)]) ∧ Below w.heap.size w w' := by
  obtain ⟨W, hW⟩ : ∃ W, w.alloc (.cells (newerC s.t s.g0 s.g1 s.nx (.slice ea s.es.length ec)) 38) = W := ⟨_, rfl⟩
  have hbW : Below w.heap.size w W := by rw [← hW]; exact (Below.refl _ w).alloc (Nat.le_refl _) _
  have hh0 : W.heap[w.heap.size]? = some (.cells (newerC s.t s.g0 s.g1 s.nx (.slice ea s.es.length ec)) 38) := by rw [← hW]; exact heap_alloc_new _ _
  obtain ⟨x0, x1, x2, x3, x4, _⟩ := five_cells hh0
  have HC := hid (bytesN0_calls s ea ec W (h.below hbW))
  have HBW := hid hbW
  generalize errV (ckN s) = ev at HC ⊢
  clear h hbW hh0
  go_enter Tryz.func25, Tryz.ntmps25
  go_wp2_with fail
  refine HC.out.mono ?_
  rintro e w2 ⟨rfl, hb2⟩
  have HF : Hid (Below w.heap.size w w2) := HBW.out.trans (hb2.mono HBW.out.size)
  clear hb2 HC
  go_wp2
  go_ret2
  exact ⟨rfl, HF.out⟩
end Go.Proofs.YtgiieepfhohmhabGreat

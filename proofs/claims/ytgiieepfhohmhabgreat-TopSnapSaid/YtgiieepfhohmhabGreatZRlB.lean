/- Package snap: a reel as bytes. -/
import Derived.Test.YtgiieepfhohmhabGreatZSnX
import Derived.Test.YtgiieepfhohmhabGreatZRlA
namespace Go.Proofs.YtgiieepfhohmhabGreat
open Go.RowKit
theorem TksBO.mono {B B' : Nat} {w w' : World} {ta : Option Addr} {ls : List (List (List Int))} (h : TksBO B w ta ls) (hb : Below B w w') (hB : B ≤ B') : TksBO B' w' ta ls := by
  rcases h with h | ⟨c, o, e, hc⟩
  · exact Or.inl h
  · refine Or.inr ⟨c, o, e, fun i hi => ?_⟩
    obtain ⟨la, lc, h1⟩ := hc i hi
    exact ⟨la, lc, fun w2 h2 => h1 w2 (hb.trans (h2.mono hB))⟩
theorem newerN_len9 {s : St} (h : SmlS 11 s) : (numsL (newerN s)).length ≤ 4500 := by
  have h1 := newerN_length h
  have h2 := numsL_length (newerN s)
  omega
set_option maxHeartbeats 4000000 in
set_option maxRecDepth 100000 in
theorem writeReel_calls (B b : Nat) (l : List UInt8) (s : St) (ea ta : Option Addr) (ec tc : Nat) (ls : List (List (List Int))) (w : World) (h : IsW B b l w) (hin : ∀ w', Below B w w' → InW w' s ea ec) (ht : TksBO B w ta ls) (hm : SmlS 11 s) (hs : ∀ x ∈ ls, ∀ u ∈ x, ∀ j, j < 6 → Sml (fld u j)) (h60 : ls.length ≤ 60) (h8 : ∀ x ∈ ls, x.length ≤ 8) (hl : l.length ≤ 100000) (hB : B ≤ w.heap.size) :
    Calls Tryz.prog 79 #[.pointer (some ⟨b, 0, none⟩), reelV s.t s.g0 s.g1 s.nx (.slice ea s.es.length ec) (.slice ta ls.length tc)] w fun e w' => e = .returned (.tuple #[]) ∧ IsW B b (l ++ numsL (reelN s ls)) w' ∧ Below B w w' ∧ KeptW b w w' := by
  obtain ⟨W, hW⟩ : ∃ W, w.alloc (.cells (reelC s.t s.g0 s.g1 s.nx (.slice ea s.es.length ec) (.slice ta ls.length tc)) 55) = W := ⟨_, rfl⟩
  have hbW : Below w.heap.size w W := by rw [← hW]; exact (Below.refl _ w).alloc (Nat.le_refl _) _
  have hsW : W.heap.size = w.heap.size + 1 := by rw [← hW]; simp [go_sem]
  have hh0 : W.heap[w.heap.size]? = some (.cells (reelC s.t s.g0 s.g1 s.nx (.slice ea s.es.length ec) (.slice ta ls.length tc)) 55) := by rw [← hW]; exact heap_alloc_new _ _
  have hbB : b < w.heap.size := h.lt
  have hBW : Below B w W := hbW.mono hB
  obtain ⟨x0, x1, x2, x3, x4, x5⟩ := reel_cellsS hh0
  have HWE := hid (writeNewer_calls B b l s ea ec W (h.below hbW) (fun w' hx => hin w' (hBW.trans hx)) hm hl (by omega))
  have HKW : Hid (KeptW b w W) := kept_below (Lib.OthersKept.refl _ _ w) hbW
  have HBW := hid hBW
  have HBOX : Hid (∀ wx, KeptW b W wx → wx.heap[w.heap.size]? = some (.cells (reelC s.t s.g0 s.g1 s.nx (.slice ea s.es.length ec) (.slice ta ls.length tc)) 55)) := fun wx hk => kept_block hk hh0 (by omega) (by decide)
  have HT := hid ht
  have HS := hid hs
  have H8 := hid h8
  have hl9 := newerN_len9 hm
  clear h hin ht hm hs h8 hbW hsW hh0 hBW
  go_enter Tryz.func79, Tryz.ntmps79
  go_wp2_with fail
  refine HWE.out.mono ?_
  rintro e w2 ⟨rfl, hw2, hb2, hk2⟩
  have hb02 := HBOX.out w2 hk2
  have y5 := (reel_cellsS hb02).2.2.2.2.2
  have hB2 : Below B w w2 := HBW.out.trans hb2
  have HWT := hid (writeTicksO_calls B b (l ++ numsL (newerN s)) ls ta tc w2 hw2 (HT.out.mono hB2 (Nat.le_refl _)) HS.out h60 H8.out (by rw [List.length_append]; omega) (by have := hB2.size; omega))
  have HB2 := hid hB2
  have HK2 : Hid (KeptW b w w2) := HKW.out.trans hk2
  clear x0 x1 x2 x3 x4 x5 hw2 hb2 hk2 hb02 hB2 HWE hW
  go_wp2_with fail
  refine HWT.out.mono ?_
  rintro e w3 ⟨rfl, hw3, hb3, hk3⟩
  have HW3 : Hid (IsW B b (l ++ numsL (reelN s ls)) w3) := by
    show IsW _ _ _ _
    unfold reelN
    rw [numsL_append, ← List.append_assoc]
    exact hw3
  have HB3 : Hid (Below B w w3) := HB2.out.trans hb3
  have HK3 : Hid (KeptW b w w3) := HK2.out.trans hk3
  clear hw3 hb3 hk3 HWT y5
  go_wp2
  go_end0
  exact ⟨rfl, HW3.out, HB3.out, HK3.out⟩
def byR (s : St) (ls : List (List (List Int))) : List UInt8 := if ckReel s ls = 0 then frameL 82 (numsL (reelN s ls)) else []
theorem reelN_length {s : St} {ls : List (List (List Int))} (h : SmlS 11 s) (h60 : ls.length ≤ 60) (h8 : ∀ x ∈ ls, x.length ≤ 8) : (reelN s ls).length ≤ 4000 := by
  have h1 := newerN_length h
  have h2 := ticks_len (k := 6) ls h8
  unfold reelN ticksN
  rw [List.length_append, List.length_cons]
  omega
set_option maxHeartbeats 4000000 in
set_option maxRecDepth 100000 in
theorem bytesR0_calls (s : St) (ea ta : Option Addr) (ec tc : Nat) (ls : List (List (List Int))) (w : World) (h : InW w s ea ec) (ht : TksN w ta ls) (hn : ls.length ≤ 1000) (hs : ∀ x ∈ ls, ∀ u ∈ x, ∀ j, j < 6 → fld u j < 9223372036854775808) :
    Calls Tryz.prog 78 #[.int .u8 82, reelV s.t s.g0 s.g1 s.nx (.slice ea s.es.length ec) (.slice ta ls.length tc), funV 38, funV 79] w fun e w' => e = .returned (.tuple #[.string ⟨(byR s ls).toArray⟩, errV (ckReel s ls)]) ∧ Below w.heap.size w w' := by
  obtain ⟨W, hW⟩ : ∃ W, w.alloc (.cells (reelC s.t s.g0 s.g1 s.nx (.slice ea s.es.length ec) (.slice ta ls.length tc)) 55) = W := ⟨_, rfl⟩
  have hbW : Below w.heap.size w W := by rw [← hW]; exact (Below.refl _ w).alloc (Nat.le_refl _) _
  have hsW : W.heap.size = w.heap.size + 1 := by rw [← hW]; simp [go_sem]
  have hh0 : W.heap[w.heap.size]? = some (.cells (reelC s.t s.g0 s.g1 s.nx (.slice ea s.es.length ec) (.slice ta ls.length tc)) 55) := by rw [← hW]; exact heap_alloc_new _ _
  have hin := h.below hbW
  have htW := ht.below hbW
  obtain ⟨x0, x1, x2, x3, x4, x5⟩ := reel_cellsS hh0
  have HC : Hid (Calls Tryz.prog 38 #[reelV s.t s.g0 s.g1 s.nx (.slice ea s.es.length ec) (.slice ta ls.length tc)] W fun e w' => e = .returned (errV (ckReel s ls)) ∧ Below W.heap.size W w') := checkReel_calls s ea ta ec tc ls W hin hn htW
  have HBW := hid hbW
  have HSW := hid hsW
  have H0 := hid hh0
  have HIN := hid hin
  have HTW := hid htW
  have hborn := h.born
  have hfr := h.fr
  by_cases h0 : ckReel s ls = 0
  case neg =>
    have HY : Hid (byR s ls = []) := if_neg h0
    obtain ⟨c, hc⟩ : ∃ c, ckReel s ls = c := ⟨_, rfl⟩
    rw [hc] at h0 HC ⊢
    rw [errV_pos h0] at HC ⊢
    clear h hin htW ht hbW hsW hh0 hc h0
    go_enter Tryz.func78, Tryz.ntmps78
    go_wp2_with fail
    refine HC.out.mono ?_
    rintro e w2 ⟨rfl, hb2⟩
    have HF : Hid (Below w.heap.size w w2) := HBW.out.trans (hb2.mono (by rw [HSW.out]; omega))
    clear hb2 x0 x1 x2 x3 x4 x5 hW HC
    go_wp2
    go_ret2
    rw [HY.out]
    exact ⟨rfl, HF.out⟩
  obtain ⟨hc0, h60, h8, hpos⟩ := ckT_zero h0
  have ht0 := (invN_of_check hfr hc0).t0
  have HM := hid (smlN (invN_of_check hfr hc0) hborn)
  have HS : Hid (∀ x ∈ ls, ∀ u ∈ x, ∀ j, j < 6 → Sml (fld u j)) := fun x hx u hu j hj => ⟨hpos x hx u hu j hj, hs x hx u hu j hj⟩
  have H8 := hid h8
  have h60' : ls.length ≤ 60 := by omega
  have HY : Hid (byR s ls = frameL 82 (numsL (reelN s ls))) := if_pos h0
  rw [h0, errV_zero] at HC ⊢
  clear h hin htW ht hbW hsW hh0 h0 hs hc0 hpos h8 h60 ht0 hborn hfr
  go_enter Tryz.func78, Tryz.ntmps78
  go_wp2_with fail
  refine HC.out.mono ?_
  rintro e w2 ⟨rfl, hb2⟩
  obtain ⟨X, hX⟩ : ∃ X, w2.alloc (.cells #[.pointer none, .slice none 0 0] 209) = X := ⟨_, rfl⟩
  have hbX : Below w2.heap.size w2 X := by rw [← hX]; exact (Below.refl _ _).alloc (Nat.le_refl _) _
  have hwX : IsW w2.heap.size w2.heap.size [] X := by rw [← hX]; exact Lib.fresh_isBuilder _ _ _
  have hh2 := (hb2.block w.heap.size (by rw [HSW.out]; omega)).trans H0.out
  have hhX := (hbX.block w.heap.size (Array.getElem?_eq_some_iff.1 hh2).1).trans hh2
  have hi2 := HIN.out.below hb2
  have ht2 := (HTW.out.below hb2).stay
  have HWR := hid (writeReel_calls w2.heap.size w2.heap.size [] s ea ta ec tc ls X hwX (fun w' hx => hi2.below (hbX.trans hx)) (ht2.mono hbX (Nat.le_refl _)) HM.out HS.out h60' H8.out (by simp) hbX.size)
  have hlen := reelN_length HM.out h60' H8.out
  have HB2 := hid hb2
  have HBX := hid hbX
  clear x0 x1 x2 x3 x4 x5
  obtain ⟨x0, x1, x2, x3, x4, x5⟩ := reel_cellsS hhX
  clear hb2 hbX hwX hh2 hhX hi2 ht2 hW HC
  go_wp2_with fail
  refine HWR.out.mono ?_
  rintro e w3 ⟨rfl, hw3, hb3, _⟩
  have hne : numsL (reelN s ls) ≠ [] := numsL_ne _ _
  rw [List.nil_append] at hw3
  have hnl := numsL_length (reelN s ls)
  have HST := hid (builderString_calls w2.heap.size w2.heap.size (numsL (reelN s ls)) w3 hw3 hne)
  have HB3 : Hid (Below w2.heap.size w2 w3) := HBX.out.trans hb3
  clear hw3 hb3 hne hX x0 x1 x2 x3 x4 x5 HWR HBX
  go_wp2_with fail
  refine HST.out.mono ?_
  rintro e w4 ⟨rfl, hb4⟩
  have HFR := hid (frame_calls 82 (numsL (reelN s ls)) (by omega) w4)
  have HB4 : Hid (Below w2.heap.size w2 w4) := HB3.out.trans hb4
  clear hb4 HST
  go_wp2_with fail
  refine HFR.out.mono ?_
  rintro e w5 ⟨rfl, hb5⟩
  have HF : Hid (Below w.heap.size w w5) := by
    have h2 : Below W.heap.size W w5 := (HB2.out.trans (HB4.out.mono HB2.out.size)).trans (hb5.mono (Nat.le_trans HB2.out.size HB4.out.size))
    exact HBW.out.trans (h2.mono (by rw [HSW.out]; omega))
  clear hb5 HFR
  go_wp2
  go_ret2
  rw [HY.out]
  exact ⟨rfl, HF.out⟩
set_option maxHeartbeats 4000000 in
set_option maxRecDepth 100000 in
theorem bytesR_calls (s : St) (ea ta : Option Addr) (ec tc : Nat) (ls : List (List (List Int))) (w : World) (h : InW w s ea ec) (ht : TksN w ta ls) (hn : ls.length ≤ 1000) (hs : ∀ x ∈ ls, ∀ u ∈ x, ∀ j, j < 6 → fld u j < 9223372036854775808) :
    Calls Tryz.prog 27 #[reelV s.t s.g0 s.g1 s.nx (.slice ea s.es.length ec) (.slice ta ls.length tc)] w fun e w' => e = .returned (.tuple #[.string ⟨(byR s ls).toArray⟩, errV (ckReel s ls)]) ∧ Below w.heap.size w w' := by
  obtain ⟨W, hW⟩ : ∃ W, w.alloc (.cells (reelC s.t s.g0 s.g1 s.nx (.slice ea s.es.length ec) (.slice ta ls.length tc)) 55) = W := ⟨_, rfl⟩
  have hbW : Below w.heap.size w W := by rw [← hW]; exact (Below.refl _ w).alloc (Nat.le_refl _) _
  have hh0 : W.heap[w.heap.size]? = some (.cells (reelC s.t s.g0 s.g1 s.nx (.slice ea s.es.length ec) (.slice ta ls.length tc)) 55) := by rw [← hW]; exact heap_alloc_new _ _
  obtain ⟨x0, x1, x2, x3, x4, x5⟩ := reel_cellsS hh0
  have HC := hid (bytesR0_calls s ea ta ec tc ls W (h.below hbW) (ht.below hbW) hn hs)
  have HBW := hid hbW
  generalize errV (ckReel s ls) = ev at HC ⊢
  clear h ht hs hbW hh0
  go_enter Tryz.func27, Tryz.ntmps27
  go_wp2_with fail
  refine HC.out.mono ?_
  rintro e w2 ⟨rfl, hb2⟩
  have HF : Hid (Below w.heap.size w w2) := HBW.out.trans (hb2.mono HBW.out.size)
  clear hb2 HC
  go_wp2
  go_ret2
  exact ⟨rfl, HF.out⟩
end Go.Proofs.YtgiieepfhohmhabGreat

/- Snaps, plain: the numbers of a right state have bytes. -/
import Derived.Deep.DeepCutAuto
import Derived.BigRegion
import Derived.BigQuiet
import Derived.Lib.SliceRun
import Derived.Test.YtcbalhicaipmlaaGreatRInvZ
import Derived.Test.YtcbalhicaipmlaaGreatREqN
import Derived.Test.YtcbalhicaipmlaaGreatRSnA
import Derived.Test.YtcbalhicaipmlaaGreatROkA
import Derived.Test.YtcbalhicaipmlaaGreatRNwB
import Derived.Test.YtcbalhicaipmlaaGreatRNwF
import Derived.Test.YtcbalhicaipmlaaGreatRRefO
import Derived.Test.YtcbalhicaipmlaaGreatRNwK
import Derived.Test.YtcbalhicaipmlaaGreatRRefQ
import Derived.Test.YtcbalhicaipmlaaGreatRWire3
import Derived.Test.YtcbalhicaipmlaaGreatREsRA
namespace Go.Proofs.YtcbalhicaipmlaaGreat
open Go.RowKit
theorem owner_sml {u : List Int} (h : ownerE u = true) : Sml (fld u 1) := by
  unfold ownerE at h
  split at h
  · have := eq_of_beq h
    exact ⟨by omega, by omega⟩
  · simp only [inZ, decide_eq_true_eq] at h
    exact ⟨by omega, by omega⟩
theorem placeE_sml {u : List Int} (h : placeE u = true) : Sml (fld u 7) ∧ Sml (fld u 8) := by
  unfold placeE at h
  split at h
  · rw [Bool.and_eq_true] at h
    have := Pl.onB_true h.1
    exact ⟨⟨by omega, by omega⟩, by omega, by omega⟩
  · rw [Bool.and_eq_true] at h
    have h1 := eq_of_beq h.1
    have h2 := eq_of_beq h.2
    exact ⟨⟨by omega, by omega⟩, by omega, by omega⟩
theorem mostZ_le (k : Int) : mostZ k ≤ 100 := by
  unfold mostZ
  split
  · omega
  · unfold Pl.eHP
    repeat' split
    all_goals omega
theorem smlE {s : St} (h : Inv s) (hb : s.born = []) : SmlS 10 s where
  t := ⟨h.t0, by have := h.t1; omega⟩
  g0 := ⟨h.a0.1, by have := h.a0.2; omega⟩
  g1 := ⟨h.a1.1, by have := h.a1.2; omega⟩
  nx := ⟨by have := h.n0; omega, by have := h.n1; omega⟩
  fr := fun z hz => by
    have h1 := h.known (List.mem_append_right _ hz)
    have h2 := h.n1
    exact ⟨by omega, by omega⟩
  fl := h.fl
  el := h.el
  bo := hb
  es := fun u hu j hj => by
    have hm := h.mem
    have hbd := boundsE_true (hm.bd u hu)
    have h1 := owner_sml (hm.ow u hu)
    have h7 := placeE_sml (hm.pl u hu)
    have h5 := mostZ_le (fld u 2)
    match j, hj with
    | 0, _ => exact ⟨by omega, by omega⟩
    | 1, _ => exact h1
    | 2, _ => exact ⟨by omega, by omega⟩
    | 3, _ => exact ⟨by omega, by omega⟩
    | 4, _ => exact ⟨by omega, by omega⟩
    | 5, _ => exact ⟨by omega, by omega⟩
    | 6, _ => exact ⟨by omega, by omega⟩
    | 7, _ => exact h7.1
    | 8, _ => exact h7.2
    | 9, _ => exact ⟨by omega, by omega⟩
end Go.Proofs.YtcbalhicaipmlaaGreat
namespace Go.Proofs.YtcbalhicaipmlaaGreat
open Go.RowKit Go.Maps
def ckN (s : St) : Nat := checkN s.t s.g0 s.g1 s.nx s.es
theorem checkN_le (s : St) : ckN s ≤ 3 := by
  have h1 : stateN s.t s.g0 s.g1 s.nx s.es.length ≤ 3 := by
    unfold stateN
    repeat' split
    all_goals omega
  have h2 : firstE s.es.length (oneN s.t s.nx s.es) ≤ 3 := firstE_le fun i _ => by
    unfold oneN unitAtN
    repeat' split
    all_goals omega
  have h3 : targetsN s.es ≤ 3 := by
    unfold targetsN
    first
      | (repeat' split
         all_goals omega)
      | (refine firstE_le fun i _ => ?_
         repeat' split
         all_goals omega)
  unfold ckN checkN
  repeat' split
  all_goals omega
def TksN (w : World) (ta : Option Addr) (ls : List (List (List Int))) : Prop :=
  ls = [] ∨ ∃ b o, ta = some ⟨b, o, none⟩ ∧ ∀ i, i < ls.length → ∃ la lc, w.cell? ⟨b, o + i, none⟩ = some (.slice la (ls.getD i []).length lc) ∧ Recs w la 6 (ls.getD i [])
theorem TksN.at {w : World} {ta : Option Addr} {ls : List (List (List Int))} (h : TksN w ta ls) {i : Nat} (hi : i < ls.length) : ∃ b o la lc, ta = some ⟨b, o, none⟩ ∧ w.cell? ⟨b, o + i, none⟩ = some (.slice la (ls.getD i []).length lc) ∧ Recs w la 6 (ls.getD i []) := by
  rcases h with rfl | ⟨b, o, e, hc⟩
  · simp at hi
  · obtain ⟨la, lc, h1, h2⟩ := hc i hi
    exact ⟨b, o, la, lc, e, h1, h2⟩
theorem TksN.below {w w' : World} {ta : Option Addr} {ls : List (List (List Int))} (h : TksN w ta ls) (hb : Below w.heap.size w w') : TksN w' ta ls := by
  rcases h with h | ⟨b, o, e, hc⟩
  · exact Or.inl h
  · refine Or.inr ⟨b, o, e, fun i hi => ?_⟩
    obtain ⟨la, lc, h1, h2⟩ := hc i hi
    exact ⟨la, lc, (hb.cell (p := ⟨b, o + i, none⟩) (World.block_lt_of_cell? w _ h1)).trans h1, h2.below hb⟩
abbrev reelC (t g0 g1 nx : Int) (uv tv : Value) : Array Value := #[.int .i64 t, .int .i64 g0, .int .i64 g1, .int .i64 nx, uv, tv]
abbrev reelV (t g0 g1 nx : Int) (uv tv : Value) : Value := .agg (reelC t g0 g1 nx uv tv)
end Go.Proofs.YtcbalhicaipmlaaGreat
namespace Go.Proofs.YtcbalhicaipmlaaGreat
open Go.RowKit
theorem num_ne (n : Nat) : Nu.num n ≠ [] := by
  unfold Nu.num Nu.numF
  split
  · exact fun h => by cases h
  · exact fun h => by cases h
theorem numsL_ne (z : Int) (l : List Int) : numsL (z :: l) ≠ [] := by
  rw [numsL_cons]
  intro h
  exact num_ne _ (List.append_eq_nil_iff.1 h).1
theorem elderN_length {s : St} (h : SmlS 10 s) : (elderN s).length ≤ 500 := by
  have h1 := h.fl
  have h2 := h.el
  unfold elderN recsN
  simp only [List.length_append, List.length_cons, flat_norm_length, List.length_nil]
  omega
def byE (s : St) : List UInt8 := if checkE s.t s.g0 s.g1 s.nx s.free s.es = 0 then frameL 69 (numsL (elderN s)) else []
abbrev funV (k : Nat) : Value := .func (.func k) #[] #[]
set_option maxHeartbeats 4000000 in
set_option maxRecDepth 100000 in
theorem bytesE0_calls (s : St) (fa ea : Option Addr) (fc ec : Nat) (w : World) (h : InE w s fa ea fc ec) :
    Calls Tryz.prog 64 #[.int .u8 69, elderV s.t s.g0 s.g1 s.nx (.slice fa s.free.length fc) (.slice ea s.es.length ec), funV 36, funV 65] w fun e w' => e = .returned (.tuple #[.string ⟨(byE s).toArray⟩, errV (checkE s.t s.g0 s.g1 s.nx s.free s.es)]) ∧ Below w.heap.size w w' := by
  obtain ⟨W, hW⟩ : ∃ W, w.alloc (.cells (elC s.t s.g0 s.g1 s.nx (.slice fa s.free.length fc) (.slice ea s.es.length ec)) 26) = W := ⟨_, rfl⟩
  have hbW : Below w.heap.size w W := by rw [← hW]; exact (Below.refl _ w).alloc (Nat.le_refl _) _
  have hsW : W.heap.size = w.heap.size + 1 := by rw [← hW]; simp [go_sem]
  have hh0 : W.heap[w.heap.size]? = some (.cells (elC s.t s.g0 s.g1 s.nx (.slice fa s.free.length fc) (.slice ea s.es.length ec)) 26) := by rw [← hW]; exact heap_alloc_new _ _
  have hin := h.below hbW
  obtain ⟨x0, x1, x2, x3, x4, x5⟩ := elder_cells hh0
  have HC : Hid (Calls Tryz.prog 36 #[elderV s.t s.g0 s.g1 s.nx (.slice fa s.free.length fc) (.slice ea s.es.length ec)] W fun e w' => e = .returned (errV (checkE s.t s.g0 s.g1 s.nx s.free s.es)) ∧ Below W.heap.size W w') := check_calls s.t s.g0 s.g1 s.nx s.free fa ea fc ec s.es W h.cap hin.rows hin.nums h.wf
  have HBW := hid hbW
  have HSW := hid hsW
  have H0 := hid hh0
  have HIN := hid hin
  by_cases h0 : checkE s.t s.g0 s.g1 s.nx s.free s.es = 0
  case neg =>
    have HY : Hid (byE s = []) := if_neg h0
    obtain ⟨c, hc⟩ : ∃ c, checkE s.t s.g0 s.g1 s.nx s.free s.es = c := ⟨_, rfl⟩
    rw [hc] at h0 HC ⊢
    rw [errV_pos h0] at HC ⊢
    clear h hin hbW hsW hh0 hc h0
    go_enter Tryz.func64, Tryz.ntmps64
    go_wp2_with fail
    refine HC.out.mono ?_
    rintro e w2 ⟨rfl, hb2⟩
    have HF : Hid (Below w.heap.size w w2) := HBW.out.trans (hb2.mono (by rw [HSW.out]; omega))
    clear hb2 x0 x1 x2 x3 x4 x5 hW HC
    go_wp2
    go_ret2
    rw [HY.out]
    exact ⟨rfl, HF.out⟩
  have HM := hid (smlE (inv_of_check h0) h.born)
  have HY : Hid (byE s = frameL 69 (numsL (elderN s))) := if_pos h0
  rw [h0, errV_zero] at HC ⊢
  clear h hin hbW hsW hh0 h0
  go_enter Tryz.func64, Tryz.ntmps64
  go_wp2_with fail
  refine HC.out.mono ?_
  rintro e w2 ⟨rfl, hb2⟩
  obtain ⟨X, hX⟩ : ∃ X, w2.alloc (.cells #[.pointer none, .slice none 0 0] 131) = X := ⟨_, rfl⟩
  have hbX : Below w2.heap.size w2 X := by rw [← hX]; exact (Below.refl _ _).alloc (Nat.le_refl _) _
  have hwX : IsW w2.heap.size w2.heap.size [] X := by rw [← hX]; exact Lib.fresh_isBuilder _ _ _
  have hh2 := (hb2.block w.heap.size (by rw [HSW.out]; omega)).trans H0.out
  have hhX := (hbX.block w.heap.size (Array.getElem?_eq_some_iff.1 hh2).1).trans hh2
  have hi2 := HIN.out.below hb2
  have HWR := hid (writeElder_calls w2.heap.size w2.heap.size [] s fa ea fc ec X hwX (fun w' hx => hi2.below (hbX.trans hx)) HM.out (by simp) hbX.size)
  have hlen := elderN_length HM.out
  have HB2 := hid hb2
  have HBX := hid hbX
  clear x0 x1 x2 x3 x4 x5
  obtain ⟨x0, x1, x2, x3, x4, x5⟩ := elder_cells hhX
  clear hb2 hbX hwX hh2 hhX hi2 hW HC
  go_wp2_with fail
  refine HWR.out.mono ?_
  rintro e w3 ⟨rfl, hw3, hb3, _⟩
  have hne : numsL (elderN s) ≠ [] := numsL_ne _ _
  rw [List.nil_append] at hw3
  have hnl := numsL_length (elderN s)
  have HST := hid (builderString_calls w2.heap.size w2.heap.size (numsL (elderN s)) w3 hw3 hne)
  have HB3 : Hid (Below w2.heap.size w2 w3) := HBX.out.trans hb3
  clear hw3 hb3 hne hX x0 x1 x2 x3 x4 x5 HWR HBX
  go_wp2_with fail
  refine HST.out.mono ?_
  rintro e w4 ⟨rfl, hb4⟩
  have HFR := hid (frame_calls 69 (numsL (elderN s)) (by omega) w4)
  have HB4 : Hid (Below w2.heap.size w2 w4) := HB3.out.trans hb4
  clear hb4 HST
  go_wp2_with fail
  refine HFR.out.mono ?_
  rintro e w5 ⟨rfl, hb5⟩
  have HF : Hid (Below w.heap.size w w5) := by
    have h2 : Below W.heap.size W w5 := (HB2.out.trans (HB4.out.mono HB2.out.size)).trans (hb5.mono (Nat.le_trans HB2.out.size HB4.out.size))
    exact HBW.out.trans (h2.mono (by rw [HSW.out]; omega))
  clear hb5 HFR
  go_wp2
  go_ret2
  rw [HY.out]
  exact ⟨rfl, HF.out⟩
set_option maxHeartbeats 4000000 in
set_option maxRecDepth 100000 in
theorem bytesE_calls (s : St) (fa ea : Option Addr) (fc ec : Nat) (w : World) (h : InE w s fa ea fc ec) :
    Calls Tryz.prog 30 #[elderV s.t s.g0 s.g1 s.nx (.slice fa s.free.length fc) (.slice ea s.es.length ec)] w fun e w' => e = .returned (.tuple #[.string ⟨(byE s).toArray⟩, errV (checkE s.t s.g0 s.g1 s.nx s.free s.es)]) ∧ Below w.heap.size w w' := by
  obtain ⟨W, hW⟩ : ∃ W, w.alloc (.cells (elC s.t s.g0 s.g1 s.nx (.slice fa s.free.length fc) (.slice ea s.es.length ec)) 26) = W := ⟨_, rfl⟩
  have hbW : Below w.heap.size w W := by rw [← hW]; exact (Below.refl _ w).alloc (Nat.le_refl _) _
  have hh0 : W.heap[w.heap.size]? = some (.cells (elC s.t s.g0 s.g1 s.nx (.slice fa s.free.length fc) (.slice ea s.es.length ec)) 26) := by rw [← hW]; exact heap_alloc_new _ _
  obtain ⟨x0, x1, x2, x3, x4, x5⟩ := elder_cells hh0
  have HC := hid (bytesE0_calls s fa ea fc ec W (h.below hbW))
  have HBW := hid hbW
  generalize errV (checkE s.t s.g0 s.g1 s.nx s.free s.es) = ev at HC ⊢
  clear h hbW hh0
  go_enter Tryz.func30, Tryz.ntmps30
  go_wp2_with fail
  refine HC.out.mono ?_
  rintro e w2 ⟨rfl, hb2⟩
  have HF : Hid (Below w.heap.size w w2) := HBW.out.trans (hb2.mono HBW.out.size)
  clear hb2 HC
  go_wp2
  go_ret2
  exact ⟨rfl, HF.out⟩
end Go.Proofs.YtcbalhicaipmlaaGreat

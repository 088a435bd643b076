/- Snaps, plain: the numbers of a right state have bytes. -/
import Derived.Test.YtgiieepfhohmhabGreatZInvZ
import Derived.Test.YtgiieepfhohmhabGreatZEqN
import Derived.Test.YtgiieepfhohmhabGreatZSnA
namespace Go.Proofs.YtgiieepfhohmhabGreat
open Go.RowKit
theorem owner_sml {u : List Int} (h : ownerE u = true) : Sml (fld u 1) := by
  unfold ownerE at h
  split at h
  · have := eq_of_beq h
    exact ⟨by omega, by omega⟩
  · simp only [inZ, decide_eq_true_eq] at h
    exact ⟨by omega, by omega⟩
theorem placeE_sml {u : List Int} (h : placeE u = true) : Sml (fld u 7) ∧ Sml (fld u 8) := by
  unfold placeE at h
  split at h
  · rw [Bool.and_eq_true] at h
    have := Pl.onB_true h.1
    exact ⟨⟨by omega, by omega⟩, by omega, by omega⟩
  · rw [Bool.and_eq_true] at h
    have h1 := eq_of_beq h.1
    have h2 := eq_of_beq h.2
    exact ⟨⟨by omega, by omega⟩, by omega, by omega⟩
theorem placeN_sml {u : List Int} (h : placeN u = true) : Sml (fld u 7) ∧ Sml (fld u 8) := by
  unfold placeN at h
  split at h
  · rw [Bool.and_eq_true] at h
    have := Pl.onB_true h.1
    exact ⟨⟨by omega, by omega⟩, by omega, by omega⟩
  · rw [Bool.and_eq_true] at h
    have h1 := eq_of_beq h.1
    have h2 := eq_of_beq h.2
    exact ⟨⟨by omega, by omega⟩, by omega, by omega⟩
theorem mostZ_le (k : Int) : mostZ k ≤ 100 := by
  unfold mostZ
  split
  · omega
  · unfold Pl.eHP
    repeat' split
    all_goals omega
theorem mostN_le (k : Int) : mostN k ≤ 100 := by
  unfold mostN
  split
  · omega
  · unfold Pl.nHP
    repeat' split
    all_goals omega
theorem smlE {s : St} (h : Inv s) (hb : s.born = []) : SmlS 10 s where
  t := ⟨h.t0, by have := h.t1; omega⟩
  g0 := ⟨h.a0.1, by have := h.a0.2; omega⟩
  g1 := ⟨h.a1.1, by have := h.a1.2; omega⟩
  nx := ⟨by have := h.n0; omega, by have := h.n1; omega⟩
  fr := fun z hz => by
    have h1 := h.known (List.mem_append_right _ hz)
    have h2 := h.n1
    exact ⟨by omega, by omega⟩
  fl := h.fl
  el := h.el
  bo := hb
  es := fun u hu j hj => by
    have hm := h.mem
    have hbd := boundsE_true (hm.bd u hu)
    have h1 := owner_sml (hm.ow u hu)
    have h7 := placeE_sml (hm.pl u hu)
    have h5 := mostZ_le (fld u 2)
    match j, hj with
    | 0, _ => exact ⟨by omega, by omega⟩
    | 1, _ => exact h1
    | 2, _ => exact ⟨by omega, by omega⟩
    | 3, _ => exact ⟨by omega, by omega⟩
    | 4, _ => exact ⟨by omega, by omega⟩
    | 5, _ => exact ⟨by omega, by omega⟩
    | 6, _ => exact ⟨by omega, by omega⟩
    | 7, _ => exact h7.1
    | 8, _ => exact h7.2
    | 9, _ => exact ⟨by omega, by omega⟩
theorem smlN {s : St} (h : InvN s) (hb : s.born = []) : SmlS 11 s where
  t := ⟨h.t0, by have := h.t1; omega⟩
  g0 := ⟨h.a0.1, by have := h.a0.2; omega⟩
  g1 := ⟨h.a1.1, by have := h.a1.2; omega⟩
  nx := ⟨by have := h.n0; omega, by have := h.n1; omega⟩
  fr := fun z hz => by rw [h.fr] at hz; cases hz
  fl := by rw [h.fr]; exact Nat.zero_le _
  el := h.el
  bo := hb
  es := fun u hu j hj => by
    have hbd := boundsN_true (h.bd u hu)
    have h1 := owner_sml (h.ow u hu)
    have h7 := placeN_sml (h.pl u hu)
    have h5 := mostN_le (fld u 2)
    have h10 := h.sn u hu
    have ht := h.t1
    have h2 := hbd.2.2.2.2.2
    simp only [Pl.nHas, decide_eq_true_eq] at h2
    match j, hj with
    | 0, _ => exact ⟨by omega, by omega⟩
    | 1, _ => exact h1
    | 2, _ => exact ⟨by omega, by omega⟩
    | 3, _ => exact ⟨by omega, by omega⟩
    | 4, _ => exact ⟨by omega, by omega⟩
    | 5, _ => exact ⟨by omega, by omega⟩
    | 6, _ => exact ⟨by omega, by omega⟩
    | 7, _ => exact h7.1
    | 8, _ => exact h7.2
    | 9, _ => exact ⟨by omega, by omega⟩
    | 10, _ => exact ⟨by omega, by omega⟩
end Go.Proofs.YtgiieepfhohmhabGreat

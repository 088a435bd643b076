/- Snaps, plain: the numbers of a right state have bytes. -/
import Derived.Deep.DeepCutAuto
import Derived.BigRegion
import Derived.BigQuiet
import Derived.Lib.SliceRun
import Derived.Test.YtgiieepfhohmhaaSSnA
import Derived.Test.YtgiieepfhohmhaaSInvZ
import Derived.Test.YtgiieepfhohmhaaSEqN
import Derived.Test.YtgiieepfhohmhaaSInN
import Derived.Test.YtgiieepfhohmhaaSOkA
import Derived.Test.YtgiieepfhohmhaaSRefL
import Derived.Test.YtgiieepfhohmhaaSNwG
import Derived.Test.YtgiieepfhohmhaaSNwF
import Derived.Test.YtgiieepfhohmhaaSNwO
import Derived.Test.YtgiieepfhohmhaaSRefO
import Derived.Test.YtgiieepfhohmhaaSRefQ
namespace Go.Proofs.Ytgiieepfhohmhaa
open Go.RowKit
theorem owner_sml {u : List Int} (h : ownerE u = true) : Sml (fld u 1) := by
  unfold ownerE at h
  split at h
  · have := eq_of_beq h
    exact ⟨by omega, by omega⟩
  · simp only [inZ, decide_eq_true_eq] at h
    exact ⟨by omega, by omega⟩
theorem placeE_sml {u : List Int} (h : placeE u = true) : Sml (fld u 7) ∧ Sml (fld u 8) := by
  unfold placeE at h
  split at h
  · rw [Bool.and_eq_true] at h
    have := Pl.onB_true h.1
    exact ⟨⟨by omega, by omega⟩, by omega, by omega⟩
  · rw [Bool.and_eq_true] at h
    have h1 := eq_of_beq h.1
    have h2 := eq_of_beq h.2
    exact ⟨⟨by omega, by omega⟩, by omega, by omega⟩
theorem placeN_sml {u : List Int} (h : placeN u = true) : Sml (fld u 7) ∧ Sml (fld u 8) := by
  unfold placeN at h
  split at h
  · rw [Bool.and_eq_true] at h
    have := Pl.onB_true h.1
    exact ⟨⟨by omega, by omega⟩, by omega, by omega⟩
  · rw [Bool.and_eq_true] at h
    have h1 := eq_of_beq h.1
    have h2 := eq_of_beq h.2
    exact ⟨⟨by omega, by omega⟩, by omega, by omega⟩
theorem mostZ_le (k : Int) : mostZ k ≤ 100 := by
  unfold mostZ
  split
  · omega
  · unfold Pl.eHP
    repeat' split
    all_goals omega
theorem mostN_le (k : Int) : mostN k ≤ 100 := by
  unfold mostN
  split
  · omega
  · unfold Pl.nHP
    repeat' split
    all_goals omega
theorem smlE {s : St} (h : Inv s) (hb : s.born = []) : SmlS 10 s where
  t := ⟨h.t0, by have := h.t1; omega⟩
  g0 := ⟨h.a0.1, by have := h.a0.2; omega⟩
  g1 := ⟨h.a1.1, by have := h.a1.2; omega⟩
  nx := ⟨by have := h.n0; omega, by have := h.n1; omega⟩
  fr := fun z hz => by
    have h1 := h.known (List.mem_append_right _ hz)
    have h2 := h.n1
    exact ⟨by omega, by omega⟩
  fl := h.fl
  el := h.el
  bo := hb
  es := fun u hu j hj => by
    have hm := h.mem
    have hbd := boundsE_true (hm.bd u hu)
    have h1 := owner_sml (hm.ow u hu)
    have h7 := placeE_sml (hm.pl u hu)
    have h5 := mostZ_le (fld u 2)
    match j, hj with
    | 0, _ => exact ⟨by omega, by omega⟩
    | 1, _ => exact h1
    | 2, _ => exact ⟨by omega, by omega⟩
    | 3, _ => exact ⟨by omega, by omega⟩
    | 4, _ => exact ⟨by omega, by omega⟩
    | 5, _ => exact ⟨by omega, by omega⟩
    | 6, _ => exact ⟨by omega, by omega⟩
    | 7, _ => exact h7.1
    | 8, _ => exact h7.2
    | 9, _ => exact ⟨by omega, by omega⟩
theorem smlN {s : St} (h : InvN s) (hb : s.born = []) : SmlS 11 s where
  t := ⟨h.t0, by have := h.t1; omega⟩
  g0 := ⟨h.a0.1, by have := h.a0.2; omega⟩
  g1 := ⟨h.a1.1, by have := h.a1.2; omega⟩
  nx := ⟨by have := h.n0; omega, by have := h.n1; omega⟩
  fr := fun z hz => by rw [h.fr] at hz; cases hz
  fl := by rw [h.fr]; exact Nat.zero_le _
  el := h.el
  bo := hb
  es := fun u hu j hj => by
    have hbd := boundsN_true (h.bd u hu)
    have h1 := owner_sml (h.ow u hu)
    have h7 := placeN_sml (h.pl u hu)
    have h5 := mostN_le (fld u 2)
    have h10 := h.sn u hu
    have ht := h.t1
    have h2 := hbd.2.2.2.2.2
    simp only [Pl.nHas, decide_eq_true_eq] at h2
    match j, hj with
    | 0, _ => exact ⟨by omega, by omega⟩
    | 1, _ => exact h1
    | 2, _ => exact ⟨by omega, by omega⟩
    | 3, _ => exact ⟨by omega, by omega⟩
    | 4, _ => exact ⟨by omega, by omega⟩
    | 5, _ => exact ⟨by omega, by omega⟩
    | 6, _ => exact ⟨by omega, by omega⟩
    | 7, _ => exact h7.1
    | 8, _ => exact h7.2
    | 9, _ => exact ⟨by omega, by omega⟩
    | 10, _ => exact ⟨by omega, by omega⟩
theorem recs_norm {w : World} {a : Option Addr} {k : Nat} {es : List (List Int)} (h : Recs w a k (es.map (normK k))) : Recs w a k es := by
  rcases h with h | ⟨b, o, e, hc⟩
  · exact Or.inl (List.map_eq_nil_iff.1 h)
  · refine Or.inr ⟨b, o, e, fun i hi j hj => ?_⟩
    have := hc i (by simpa using hi) j hj
    rw [rec_at (by simpa using hi), List.getElem_map, fld_normK _ hj, ← rec_at hi] at this
    exact this
end Go.Proofs.Ytgiieepfhohmhaa
namespace Go.Proofs.Ytgiieepfhohmhaa
open Go.RowKit Go.Maps
def ckN (s : St) : Nat := checkN s.t s.g0 s.g1 s.nx s.es
theorem checkN_le (s : St) : ckN s ≤ 3 := by
  have h1 : stateN s.t s.g0 s.g1 s.nx s.es.length ≤ 3 := by
    unfold stateN
    repeat' split
    all_goals omega
  have h2 : firstE s.es.length (oneN s.t s.nx s.es) ≤ 3 := firstE_le fun i _ => by
    unfold oneN unitAtN
    repeat' split
    all_goals omega
  have h3 : targetsN s.es ≤ 3 := by
    unfold targetsN
    first
      | (repeat' split
         all_goals omega)
      | (refine firstE_le fun i _ => ?_
         repeat' split
         all_goals omega)
  unfold ckN checkN
  repeat' split
  all_goals omega
end Go.Proofs.Ytgiieepfhohmhaa

/- Package newer: a right state of the newer game, said by members; orders leave it right. Plain. -/
import Derived.Deep.DeepCutAuto
import Derived.BigQuiet
import Derived.BigRegion
import Derived.Lib.SliceRun
import Derived.Test.YtgiieepfhohmhaaVHdA
import Derived.Test.YtgiieepfhohmhaaVOkA
import Derived.Test.YtgiieepfhohmhaaVRefP
import Derived.Test.YtgiieepfhohmhaaVEqN
import Derived.Test.YtgiieepfhohmhaaVSt
import Derived.Test.YtgiieepfhohmhaaVNwB
import Derived.Test.YtgiieepfhohmhaaVNwC
import Derived.Test.YtgiieepfhohmhaaVRefO
import Derived.Test.YtgiieepfhohmhaaVRefQ
import Derived.Test.YtgiieepfhohmhaaVNwF
namespace Go.Proofs.Ytgiieepfhohmhaa
open Go.RowKit Go.Maps
structure InvN (s : St) : Prop where
  t0 : 0 ≤ s.t
  t1 : s.t ≤ 60
  n0 : 1 ≤ s.nx
  n1 : s.nx ≤ 2001
  a0 : 0 ≤ s.g0 ∧ s.g0 ≤ 1000
  a1 : 0 ≤ s.g1 ∧ s.g1 ≤ 1000
  el : s.es.length ≤ 20
  bd : ∀ u ∈ s.es, boundsN u = true
  ow : ∀ u ∈ s.es, ownerE u = true
  pl : ∀ u ∈ s.es, placeN u = true
  tg : ∀ u ∈ s.es, targetE u = true
  lt : ∀ u ∈ s.es, fld u 0 < s.nx
  sn : ∀ u ∈ s.es, 0 ≤ fld u 10 ∧ fld u 10 ≤ s.t
  up : s.es.Pairwise (fun a b => fld a 0 < fld b 0)
  ap : s.es.Pairwise (fun a b => ¬ (fld a 3 = fld b 3 ∧ fld a 4 = fld b 4))
  am : ∀ u ∈ s.es, 0 < fld u 9 → ∃ v ∈ s.es, fld v 0 = fld u 9 ∧ mayN (fld u 6) u v = true
  fr : s.free = []
theorem unitAtN_ok {t nx : Int} {us : List (List Int)} {i : Nat} (h : unitAtN t nx us i = 0) : boundsN (rec us i) = true ∧ (0 ≤ fld (rec us i) 10 ∧ fld (rec us i) 10 ≤ t) ∧ ownerE (rec us i) = true ∧ placeN (rec us i) = true ∧ targetE (rec us i) = true ∧ ¬ orderN nx us i := by
  unfold unitAtN at h
  split at h
  next h1 =>
    split at h
    next h2 =>
      split at h
      · omega
      next h3 =>
        refine ⟨h1.1, ?_, h2.1, h2.2.1, h2.2.2, h3⟩
        have := h1.2
        unfold inZ at this
        exact of_decide_eq_true this
    · omega
  · omega
theorem invN_of_check {s : St} (hf : s.free = []) (h : checkN s.t s.g0 s.g1 s.nx s.es = 0) : InvN s := by
  unfold checkN at h
  split at h
  next hst =>
    split at h
    next hfi =>
      have hz := firstE_zero hfi
      have hu : ∀ i, i < s.es.length → unitAtN s.t s.nx s.es i = 0 ∧ ¬ takenN s.es i := fun i hi => by
        have h1 := hz i hi
        unfold oneN at h1
        split at h1
        next h2 =>
          split at h1
          · omega
          next h3 => exact ⟨h2, h3⟩
        next h2 => exact absurd h1 h2
      have hk := fun i hi => unitAtN_ok (hu i hi).1
      unfold stateN at hst
      split at hst
      next h1 =>
        split at hst
        next h2 =>
          split at hst
          next h3 =>
            split at hst
            · omega
            next h4 =>
              unfold inZ at h1 h2 h3
              have t := of_decide_eq_true h1.1
              have n := of_decide_eq_true h1.2
              have a := of_decide_eq_true h2
              have b := of_decide_eq_true h3
              have hup1 : ∀ i, i + 1 < s.es.length → fld (rec s.es i) 0 < fld (rec s.es (i + 1)) 0 := fun i hi => by
                have := (hk (i + 1) hi).2.2.2.2.2
                unfold orderN at this
                have h5 : ¬ (0 < i + 1 ∧ fld (rec s.es (i + 1)) 0 ≤ fld (rec s.es (i + 1 - 1)) 0) := fun x => this (Or.inl x)
                rw [Nat.add_sub_cancel] at h5
                omega
              have hup : ∀ d i, i + d + 1 < s.es.length → fld (rec s.es i) 0 < fld (rec s.es (i + d + 1)) 0 := by
                intro d
                induction d with
                | zero => exact fun i hi => hup1 i hi
                | succ d ih =>
                  intro i hi
                  have h1 := ih i (by omega)
                  have h2 := hup1 (i + d + 1) (by omega)
                  have e : i + (d + 1) + 1 = i + d + 1 + 1 := by omega
                  rw [e]
                  omega
              have hupP : s.es.Pairwise (fun a b => fld a 0 < fld b 0) := (all_pair (R := fun a b => fld a 0 < fld b 0)).1 fun i j hij hj => by
                have h := hup (j - i - 1) i (by omega)
                have e : i + (j - i - 1) + 1 = j := by omega
                rw [e] at h
                exact h
              refine ⟨t.1, t.2, n.1, n.2, a, b, by omega, all_mem.1 fun i hi => (hk i hi).1, all_mem.1 fun i hi => (hk i hi).2.2.1, all_mem.1 fun i hi => (hk i hi).2.2.2.1, all_mem.1 fun i hi => (hk i hi).2.2.2.2.1, (all_mem (P := fun u => fld u 0 < s.nx)).1 fun i hi => ?_, (all_mem (P := fun u => 0 ≤ fld u 10 ∧ fld u 10 ≤ s.t)).1 fun i hi => (hk i hi).2.1, hupP, (all_pair (R := fun a b => ¬ (fld a 3 = fld b 3 ∧ fld a 4 = fld b 4))).1 fun i j hij hj => ?_, ?_, hf⟩
              · have := (hk i hi).2.2.2.2.2
                unfold orderN at this
                have h5 : ¬ s.nx ≤ fld (rec s.es i) 0 := fun x => this (Or.inr x)
                omega
              · intro hx
                refine (hu j hj).2 ?_
                unfold takenN
                rw [List.countP_pos_iff]
                refine ⟨rec s.es i, ?_, ?_⟩
                · rw [← rec_take hij]
                  exact rec_mem (by rw [List.length_take]; omega)
                · unfold isAt
                  rw [hx.1, hx.2]
                  simp
              · intro u hu' h9
                obtain ⟨i, hi, rfl⟩ := List.mem_iff_getElem.1 hu'
                unfold targetsN at h
                split at h
                next hall =>
                  have := hall i hi
                  unfold aimOkN at this
                  rw [rec_at hi] at this
                  rcases this with e | ⟨e1, e2⟩
                  · omega
                  · obtain ⟨hkk, hp⟩ := idxZ_at e1
                    exact ⟨_, rec_mem hkk, eq_of_beq hp, e2⟩
                · omega
          · omega
        · omega
      · omega
    next hne => exact absurd h hne
  next hne => exact absurd h hne
end Go.Proofs.Ytgiieepfhohmhaa
namespace Go.Proofs.Ytgiieepfhohmhaa
open Go.RowKit Go.Maps
structure InW (w : World) (s : St) (ua : Option Addr) (uc : Nat) : Prop where
  un : ua = none → uc = 0
  cap : s.es.length ≤ uc
  rows : Recs w ua 11 s.es
  fr : s.free = []
  born : s.born = []
theorem InW.below {w w' : World} {s : St} {ua : Option Addr} {uc : Nat} (h : InW w s ua uc) (hb : Below w.heap.size w w') : InW w' s ua uc := ⟨h.un, h.cap, h.rows.below hb, h.fr, h.born⟩
theorem boxes5 {w W : World} {s : St} {uv : Value} (hW : (w.alloc (.cells (newerC s.t s.g0 s.g1 s.nx uv) 90)).alloc (.cells (newerC 0 0 0 0 (.slice none 0 0)) 90) = W) :
    Below w.heap.size w W ∧ W.heap.size = w.heap.size + 2 ∧ W.heap[w.heap.size]? = some (.cells (newerC s.t s.g0 s.g1 s.nx uv) 90) ∧ W.heap[w.heap.size + 1]? = some (.cells (newerC 0 0 0 0 (.slice none 0 0)) 90) := by
  refine ⟨?_, ?_, ?_, ?_⟩
  · rw [← hW]; exact ((Below.refl _ w).alloc (Nat.le_refl _) _).alloc (by simp [go_sem]) _
  · rw [← hW]; simp [go_sem]
  · rw [← hW, heap_alloc_old _ _ (by simp [go_sem])]
    exact heap_alloc_new w _
  · have e : w.heap.size + 1 = (w.alloc (.cells (newerC s.t s.g0 s.g1 s.nx uv) 90)).heap.size := by simp [go_sem]
    rw [← hW, e]
    exact heap_alloc_new _ _
def setFive (w : World) (b : Nat) (a0 a1 a2 a3 a4 : Value) : World := ((((w.setCell ⟨b, 0, none⟩ a0).setCell ⟨b, 1, none⟩ a1).setCell ⟨b, 2, none⟩ a2).setCell ⟨b, 3, none⟩ a3).setCell ⟨b, 4, none⟩ a4
theorem below_five {B b : Nat} {a w : World} {a0 a1 a2 a3 a4 : Value} (h : Below B a w) (hb : B ≤ b) : Below B a (setFive w b a0 a1 a2 a3 a4) :=
  ((((h.setCell (p := ⟨b, 0, none⟩) hb _).setCell (p := ⟨b, 1, none⟩) hb _).setCell (p := ⟨b, 2, none⟩) hb _).setCell (p := ⟨b, 3, none⟩) hb _).setCell (p := ⟨b, 4, none⟩) hb _
end Go.Proofs.Ytgiieepfhohmhaa
namespace Go.Proofs.Ytgiieepfhohmhaa
open Go.RowKit Go.Maps
def ckN (s : St) : Nat := checkN s.t s.g0 s.g1 s.nx s.es
theorem checkN_le (s : St) : ckN s ≤ 3 := by
  have h1 : stateN s.t s.g0 s.g1 s.nx s.es.length ≤ 3 := by
    unfold stateN
    repeat' split
    all_goals omega
  have h2 : firstE s.es.length (oneN s.t s.nx s.es) ≤ 3 := firstE_le fun i _ => by
    unfold oneN unitAtN
    repeat' split
    all_goals omega
  have h3 : targetsN s.es ≤ 3 := by
    unfold targetsN
    first
      | (repeat' split
         all_goals omega)
      | (refine firstE_le fun i _ => ?_
         repeat' split
         all_goals omega)
  unfold ckN checkN
  repeat' split
  all_goals omega
end Go.Proofs.Ytgiieepfhohmhaa

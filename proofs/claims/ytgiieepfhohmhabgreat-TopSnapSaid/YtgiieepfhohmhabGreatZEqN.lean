/- The reference's game and package newer, held against each other as plain functions: what is wrong with a state. -/
import Derived.Test.YtgiieepfhohmhabGreatZOkA
import Derived.Test.YtgiieepfhohmhabGreatZNwF
import Derived.Test.YtgiieepfhohmhabGreatZNwK
namespace Go.Proofs.YtgiieepfhohmhabGreat
open Go.RowKit Go.Maps
theorem boundsN_true {u : List Int} (h : boundsN u = true) : (1 ≤ fld u 0 ∧ fld u 0 ≤ 2000) ∧ ((0 ≤ fld u 3 ∧ fld u 3 < 12) ∧ 0 ≤ fld u 4 ∧ fld u 4 < 12) ∧ (1 ≤ fld u 5 ∧ fld u 5 ≤ mostN (fld u 2)) ∧ (0 ≤ fld u 6 ∧ fld u 6 ≤ 3) ∧ (0 ≤ fld u 9 ∧ fld u 9 ≤ 2000) ∧ Pl.nHas (fld u 2) = true := by
  have hon := boundsN_on h
  unfold boundsN inZ at h
  simp only [Bool.and_eq_true, decide_eq_true_eq] at h
  exact ⟨h.2.1, hon, h.2.2.2.1, h.2.2.2.2.1, h.2.2.2.2.2, h.1⟩
end Go.Proofs.YtgiieepfhohmhabGreat
namespace Go.Proofs.YtgiieepfhohmhabGreat
open Go.RowKit Go.Maps
structure InvN (s : St) : Prop where
  t0 : 0 ≤ s.t
  t1 : s.t ≤ 60
  n0 : 1 ≤ s.nx
  n1 : s.nx ≤ 2001
  a0 : 0 ≤ s.g0 ∧ s.g0 ≤ 1000
  a1 : 0 ≤ s.g1 ∧ s.g1 ≤ 1000
  el : s.es.length ≤ 20
  bd : ∀ u ∈ s.es, boundsN u = true
  ow : ∀ u ∈ s.es, ownerE u = true
  pl : ∀ u ∈ s.es, placeN u = true
  tg : ∀ u ∈ s.es, targetE u = true
  lt : ∀ u ∈ s.es, fld u 0 < s.nx
  sn : ∀ u ∈ s.es, 0 ≤ fld u 10 ∧ fld u 10 ≤ s.t
  up : s.es.Pairwise (fun a b => fld a 0 < fld b 0)
  ap : s.es.Pairwise (fun a b => ¬ (fld a 3 = fld b 3 ∧ fld a 4 = fld b 4))
  am : ∀ u ∈ s.es, 0 < fld u 9 → ∃ v ∈ s.es, fld v 0 = fld u 9 ∧ mayN (fld u 6) u v = true
  fr : s.free = []
theorem unitAtN_ok {t nx : Int} {us : List (List Int)} {i : Nat} (h : unitAtN t nx us i = 0) : boundsN (rec us i) = true ∧ (0 ≤ fld (rec us i) 10 ∧ fld (rec us i) 10 ≤ t) ∧ ownerE (rec us i) = true ∧ placeN (rec us i) = true ∧ targetE (rec us i) = true ∧ ¬ orderN nx us i := by
  unfold unitAtN at h
  split at h
  next h1 =>
    split at h
    next h2 =>
      split at h
      · omega
      next h3 =>
        refine ⟨h1.1, ?_, h2.1, h2.2.1, h2.2.2, h3⟩
        have := h1.2
        unfold inZ at this
        exact of_decide_eq_true this
    · omega
  · omega
theorem invN_of_check {s : St} (hf : s.free = []) (h : checkN s.t s.g0 s.g1 s.nx s.es = 0) : InvN s := by
  unfold checkN at h
  split at h
  next hst =>
    split at h
    next hfi =>
      have hz := firstE_zero hfi
      have hu : ∀ i, i < s.es.length → unitAtN s.t s.nx s.es i = 0 ∧ ¬ takenN s.es i := fun i hi => by
        have h1 := hz i hi
        unfold oneN at h1
        split at h1
        next h2 =>
          split at h1
          · omega
          next h3 => exact ⟨h2, h3⟩
        next h2 => exact absurd h1 h2
      have hk := fun i hi => unitAtN_ok (hu i hi).1
      unfold stateN at hst
      split at hst
      next h1 =>
        split at hst
        next h2 =>
          split at hst
          next h3 =>
            split at hst
            · omega
            next h4 =>
              unfold inZ at h1 h2 h3
              have t := of_decide_eq_true h1.1
              have n := of_decide_eq_true h1.2
              have a := of_decide_eq_true h2
              have b := of_decide_eq_true h3
              have hup1 : ∀ i, i + 1 < s.es.length → fld (rec s.es i) 0 < fld (rec s.es (i + 1)) 0 := fun i hi => by
                have := (hk (i + 1) hi).2.2.2.2.2
                unfold orderN at this
                have h5 : ¬ (0 < i + 1 ∧ fld (rec s.es (i + 1)) 0 ≤ fld (rec s.es (i + 1 - 1)) 0) := fun x => this (Or.inl x)
                rw [Nat.add_sub_cancel] at h5
                omega
              have hup : ∀ d i, i + d + 1 < s.es.length → fld (rec s.es i) 0 < fld (rec s.es (i + d + 1)) 0 := by
                intro d
                induction d with
                | zero => exact fun i hi => hup1 i hi
                | succ d ih =>
                  intro i hi
                  have h1 := ih i (by omega)
                  have h2 := hup1 (i + d + 1) (by omega)
                  have e : i + (d + 1) + 1 = i + d + 1 + 1 := by omega
                  rw [e]
                  omega
              have hupP : s.es.Pairwise (fun a b => fld a 0 < fld b 0) := (all_pair (R := fun a b => fld a 0 < fld b 0)).1 fun i j hij hj => by
                have h := hup (j - i - 1) i (by omega)
                have e : i + (j - i - 1) + 1 = j := by omega
                rw [e] at h
                exact h
              refine ⟨t.1, t.2, n.1, n.2, a, b, by omega, all_mem.1 fun i hi => (hk i hi).1, all_mem.1 fun i hi => (hk i hi).2.2.1, all_mem.1 fun i hi => (hk i hi).2.2.2.1, all_mem.1 fun i hi => (hk i hi).2.2.2.2.1, (all_mem (P := fun u => fld u 0 < s.nx)).1 fun i hi => ?_, (all_mem (P := fun u => 0 ≤ fld u 10 ∧ fld u 10 ≤ s.t)).1 fun i hi => (hk i hi).2.1, hupP, (all_pair (R := fun a b => ¬ (fld a 3 = fld b 3 ∧ fld a 4 = fld b 4))).1 fun i j hij hj => ?_, ?_, hf⟩
              · have := (hk i hi).2.2.2.2.2
                unfold orderN at this
                have h5 : ¬ s.nx ≤ fld (rec s.es i) 0 := fun x => this (Or.inr x)
                omega
              · intro hx
                refine (hu j hj).2 ?_
                unfold takenN
                rw [List.countP_pos_iff]
                refine ⟨rec s.es i, ?_, ?_⟩
                · rw [← rec_take hij]
                  exact rec_mem (by rw [List.length_take]; omega)
                · unfold isAt
                  rw [hx.1, hx.2]
                  simp
              · intro u hu' h9
                obtain ⟨i, hi, rfl⟩ := List.mem_iff_getElem.1 hu'
                unfold targetsN at h
                split at h
                next hall =>
                  have := hall i hi
                  unfold aimOkN at this
                  rw [rec_at hi] at this
                  rcases this with e | ⟨e1, e2⟩
                  · omega
                  · obtain ⟨hkk, hp⟩ := idxZ_at e1
                    exact ⟨_, rec_mem hkk, eq_of_beq hp, e2⟩
                · omega
          · omega
        · omega
      · omega
    next hne => exact absurd h hne
  next hne => exact absurd h hne
def doN (s : St) (q : List Int) (i : Nat) : St :=
  if fld q 1 = 1 then goesR true s i (fld q 4) (fld q 5)
  else if fld q 1 = 2 then (if 0 ≤ whoZ (fld q 3) s.es then aimsR true s i (fld q 3) (mayZ true (rec s.es i) (rec s.es (whoZ (fld q 3) s.es).toNat)) else s)
  else if fld q 1 = 3 then buildR true s (rec s.es i) (fld q 3) (fld q 4) (fld q 5)
  else if fld q 1 = 4 then stopR s i
  else s
def ordN (s : St) (q : List Int) : St :=
  if whoZ (fld q 2) s.es < 0 then s
  else if fld (rec s.es (whoZ (fld q 2) s.es).toNat) 1 = fld q 0 then doN s q (whoZ (fld q 2) s.es).toNat
  else s
def ordsN (s : St) (l : List (List Int)) : St := l.foldl ordN s
end Go.Proofs.YtgiieepfhohmhabGreat

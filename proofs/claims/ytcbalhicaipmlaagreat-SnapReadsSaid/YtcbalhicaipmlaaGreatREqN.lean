/- The reference's game and package newer, held against each other as plain functions: what is wrong with a state. -/
import Derived.BigQuiet
import Derived.Test.YtcbalhicaipmlaaGreatROkA
import Derived.Test.YtcbalhicaipmlaaGreatRNwF
import Derived.Test.YtcbalhicaipmlaaGreatRNwB
import Derived.Test.YtcbalhicaipmlaaGreatRRefEA
namespace Go.Proofs.YtcbalhicaipmlaaGreat
open Go.RowKit Go.Maps
theorem headN (s : St) : headR true s = !(inZ s.t 0 60 && (inZ s.nx 1 2001 && (inZ s.g0 0 1000 && inZ s.g1 0 1000))) := by
  rw [Bool.eq_iff_iff]
  unfold headR inZ topZ richZ
  simp only [Bool.or_eq_true, decide_eq_true_eq, Bool.not_eq_true', Bool.and_eq_false_iff, decide_eq_false_iff_not]
  simp only [if_true]
  omega
theorem boundN (t : Int) (u : List Int) : boundR true t u = !(boundsN u && inZ (fld u 10) 0 t) := by
  have e : boundR true t u = (!Pl.nHas (fld u 2) || (decide (fld u 0 < 1) || (decide (2000 < fld u 0) || (!Pl.onB (fld u 3) (fld u 4) || (decide (fld u 5 < 1) || (decide (mostN (fld u 2) < fld u 5) || (decide (fld u 6 < 0) || (decide (3 < fld u 6) || (decide (fld u 9 < 0) || (decide (2000 < fld u 9) || (decide (fld u 10 < 0) || decide (t < fld u 10)))))))))))) := rfl
  rw [e]
  unfold boundsN inZ
  generalize Pl.nHas (fld u 2) = a
  generalize Pl.onB (fld u 3) (fld u 4) = b
  generalize mostN (fld u 2) = m
  generalize fld u 0 = z0
  generalize fld u 5 = z5
  generalize fld u 6 = z6
  generalize fld u 9 = z9
  generalize fld u 10 = z10
  rw [Bool.eq_iff_iff]
  cases a <;> cases b <;> simp only [Bool.or_eq_true, decide_eq_true_eq, Bool.not_eq_true', Bool.and_eq_false_iff, decide_eq_false_iff_not, Bool.not_true, Bool.not_false, Bool.true_and, Bool.false_and, Bool.false_or, Bool.true_or, Bool.and_false, or_true] <;> omega
theorem ownN (u : List Int) : ownR u = !ownerE u := by
  unfold ownR ownerE inZ
  generalize fld u 1 = o
  generalize fld u 2 = k
  by_cases hk : k = 4
  · subst hk
    rw [if_pos rfl]
    by_cases ho : o = 2
    · subst ho; rfl
    · have h1 : (o == 2) = false := by simpa using ho
      rw [h1]
      simp
  · rw [if_neg hk]
    have h2 : (k == 4) = false := by simpa using hk
    rw [h2, Bool.eq_iff_iff]
    by_cases ho : o = 2
    · subst ho; decide
    · have h1 : (o == 2) = false := by simpa using ho
      rw [h1]
      simp only [Bool.or_eq_true, decide_eq_true_eq, Bool.not_eq_true', decide_eq_false_iff_not, bne_self_eq_false, Bool.false_eq_true, or_false]
      omega
theorem speedN_nonneg (k : Int) : 0 ≤ Pl.nSpeed k := by
  unfold Pl.nSpeed
  repeat' split
  all_goals omega
theorem doesN {u : List Int} (h : 0 ≤ fld u 6 ∧ fld u 6 ≤ 3) : doesR true u = !(placeN u && targetE u) := by
  have e : doesR true u = (((fld u 6 == 1) && (!Pl.onB (fld u 7) (fld u 8) || Pl.nSpeed (fld u 2) == 0)) || (((fld u 6 != 1) && (fld u 7 != 0 || fld u 8 != 0)) || (decide (1 < fld u 6) != decide (0 < fld u 9)))) := rfl
  rw [e]
  have hs := speedN_nonneg (fld u 2)
  have hz : (Pl.nSpeed (fld u 2) == 0) = !decide (0 < Pl.nSpeed (fld u 2)) := by
    by_cases h0 : Pl.nSpeed (fld u 2) = 0
    · rw [h0]; rfl
    · rw [decide_eq_true (by omega)]
      simpa using h0
  rw [hz]
  unfold placeN targetE
  have h1 : decide (1 < fld u 6) = (fld u 6 == 2 || fld u 6 == 3) := by
    rw [Bool.eq_iff_iff, decide_eq_true_eq, Bool.or_eq_true, beq_iff_eq, beq_iff_eq]
    omega
  rw [h1]
  generalize decide (0 < Pl.nSpeed (fld u 2)) = sp
  generalize Pl.onB (fld u 7) (fld u 8) = on
  generalize decide (0 < fld u 9) = t9
  generalize (fld u 6 == 2 || fld u 6 == 3) = t6
  by_cases h6 : fld u 6 = 1
  · rw [if_pos h6, h6]
    cases sp <;> cases on <;> cases t9 <;> cases t6 <;> rfl
  · rw [if_neg h6]
    have : (fld u 6 == 1) = false := by simpa using h6
    rw [bne, this]
    rw [bne, bne]
    generalize (fld u 7 == 0) = a
    generalize (fld u 8 == 0) = b
    cases a <;> cases b <;> cases t9 <;> cases t6 <;> rfl
theorem boundsN_true {u : List Int} (h : boundsN u = true) : (1 ≤ fld u 0 ∧ fld u 0 ≤ 2000) ∧ ((0 ≤ fld u 3 ∧ fld u 3 < 12) ∧ 0 ≤ fld u 4 ∧ fld u 4 < 12) ∧ (1 ≤ fld u 5 ∧ fld u 5 ≤ mostN (fld u 2)) ∧ (0 ≤ fld u 6 ∧ fld u 6 ≤ 3) ∧ (0 ≤ fld u 9 ∧ fld u 9 ≤ 2000) ∧ Pl.nHas (fld u 2) = true := by
  have hon := boundsN_on h
  unfold boundsN inZ at h
  simp only [Bool.and_eq_true, decide_eq_true_eq] at h
  exact ⟨h.2.1, hon, h.2.2.2.1, h.2.2.2.2.1, h.2.2.2.2.2, h.1⟩
theorem placeRN (us : List (List Int)) {i : Nat} (hi : i < us.length) : placeR us i = decide (takenN us i) := by
  rw [Bool.eq_iff_iff, decide_eq_true_eq]
  unfold placeR takenN
  rw [List.any_eq_true, List.countP_pos_iff]
  constructor
  · rintro ⟨k, hk, hs⟩
    rw [List.mem_range] at hk
    refine ⟨rec us k, ?_, hs⟩
    have hl : k < (us.take i).length := by rw [List.length_take]; omega
    rw [← rec_take hk]
    exact rec_mem hl
  · rintro ⟨u, hu, hp⟩
    obtain ⟨k, hk, rfl⟩ := List.mem_iff_getElem.1 hu
    rw [List.length_take] at hk
    refine ⟨k, List.mem_range.2 (by omega), ?_⟩
    rw [List.getElem_take] at hp
    rw [rec_at (show k < us.length by omega)]
    exact hp
theorem oneAtN (s : St) {i : Nat} (hi : i < s.es.length) : oneAtR true s i = (oneN s.t s.nx s.es i : Nat) := by
  unfold oneAtR oneN
  rw [placeRN s.es hi]
  have ho : (orderR s i = true) ↔ orderN s.nx s.es i := by
    unfold orderR orderN
    simp only [Bool.or_eq_true, Bool.and_eq_true, decide_eq_true_eq]
    constructor
    · rintro (h | h)
      · exact Or.inr h
      · exact Or.inl ⟨by omega, h.2⟩
    · rintro (h | h)
      · exact Or.inr ⟨by omega, h.2⟩
      · exact Or.inl h
  unfold unitAtN oneR shapeR
  rw [boundN, ownN]
  cases hb : boundsN (rec s.es i) with
  | false => simp
  | true =>
    cases h10 : inZ (fld (rec s.es i) 10) 0 s.t with
    | false => simp
    | true =>
      rw [doesN (boundsN_true hb).2.2.2.1]
      cases hw : ownerE (rec s.es i) <;> cases hpl : placeN (rec s.es i) <;> cases htg : targetE (rec s.es i) <;> try (simp; done)
      by_cases h1 : orderN s.nx s.es i
      · simp [h1, ho.2 h1]
      · have h2 : orderR s i = false := by rw [← Bool.not_eq_true]; exact fun h => h1 (ho.1 h)
        simp only [Bool.and_self, Bool.not_true, Bool.false_eq_true, if_false, Int.lt_irrefl, h2, and_self, if_true, h1, decide_eq_true_eq]
        split <;> rfl
theorem mayZN {d : Int} (hd : d = 2 ∨ d = 3) (u t : List Int) : mayZ true u t = d ↔ mayN d u t = true := by
  have e : mayZ true u t = if mineN u t = true then 3 else if fightN u t = true then 2 else 0 := by
    have e1 : mayZ true u t = if fld t 2 = 4 ∧ 0 < Pl.nLoad (fld u 2) then 3 else if fld t 2 ≠ 4 ∧ fld t 1 ≠ fld u 1 ∧ 0 < Pl.nHarm (fld u 2) then 2 else 0 := rfl
    rw [e1]
    unfold mineN fightN
    simp only [Bool.and_eq_true, beq_iff_eq, decide_eq_true_eq, bne_iff_ne]
  have hmf : mineN u t = true → fightN u t = false := fun h => by
    unfold mineN at h
    rw [Bool.and_eq_true, beq_iff_eq] at h
    unfold fightN
    rw [h.1]
    rfl
  rw [e]
  rcases hd with rfl | rfl
  · have e2 : mayN 2 u t = fightN u t := by unfold mayN; rw [if_neg (by decide)]
    rw [e2]
    cases hm : mineN u t with
    | true => rw [hmf hm]; decide
    | false => cases fightN u t <;> decide
  · have e2 : mayN 3 u t = mineN u t := by unfold mayN; rw [if_pos rfl]
    rw [e2]
    cases hm : mineN u t with
    | true => simp
    | false => cases fightN u t <;> decide
theorem aimBadN {us : List (List Int)} {i : Nat} (hb : boundsN (rec us i) = true) (ht : targetE (rec us i) = true) : aimBadR true us i = false ↔ aimOkN us i := by
  have h9 := (boundsN_true hb).2.2.2.2.1
  have hw : whoZ (fld (rec us i) 9) us = idxZ (isId (fld (rec us i) 9)) us := rfl
  unfold aimBadR aimOkN
  rw [hw]
  by_cases h0 : fld (rec us i) 9 = 0
  · rw [h0]; simp
  · rw [decide_eq_true h0, Bool.true_and]
    have hp : 0 < fld (rec us i) 9 := by omega
    have hd : fld (rec us i) 6 = 2 ∨ fld (rec us i) 6 = 3 := by
      unfold targetE at ht
      rw [decide_eq_true hp] at ht
      have : (fld (rec us i) 6 == 2 || fld (rec us i) 6 == 3) = true := by simpa using ht
      rw [Bool.or_eq_true, beq_iff_eq, beq_iff_eq] at this
      exact this
    by_cases hz : idxZ (isId (fld (rec us i) 9)) us < 0
    · rw [decide_eq_true hz]
      constructor
      · intro h; simp at h
      · rintro (h | h)
        · exact absurd h h0
        · omega
    · rw [decide_eq_false hz, Bool.false_or, bne_eq_false_iff_eq, mayZN hd]
      exact ⟨fun h => Or.inr ⟨by omega, h⟩, fun h => h.elim (fun h => absurd h h0) (fun h => h.2)⟩
theorem faultN (s : St) (hf : s.free = []) : faultR true s = (checkN s.t s.g0 s.g1 s.nx s.es : Nat) := by
  have hm : manyR s = decide (20 < s.es.length) := by
    unfold manyR
    rw [hf, Bool.eq_iff_iff]
    simp only [Bool.or_eq_true, decide_eq_true_eq, List.length_nil]
    omega
  have hst : stateN s.t s.g0 s.g1 s.nx s.es.length = if (inZ s.t 0 60 && (inZ s.nx 1 2001 && (inZ s.g0 0 1000 && inZ s.g1 0 1000))) = true then (if 20 < s.es.length then 2 else 0) else 1 := by
    unfold stateN
    cases inZ s.t 0 60 <;> cases inZ s.nx 1 2001 <;> cases inZ s.g0 0 1000 <;> cases inZ s.g1 0 1000 <;> simp
  unfold faultR checkN
  rw [headN, hm, hst]
  cases hh : (inZ s.t 0 60 && (inZ s.nx 1 2001 && (inZ s.g0 0 1000 && inZ s.g1 0 1000))) with
  | false => simp
  | true =>
    by_cases hmm : 20 < s.es.length
    · rw [decide_eq_true hmm]
      simp [hmm]
    · rw [decide_eq_false hmm]
      simp only [Bool.not_true, Bool.false_eq_true, if_false, if_true, hmm]
      unfold tailR
      have hfi : firstR true s = firstE s.es.length (oneN s.t s.nx s.es) := by
        unfold firstR
        refine firstE_congr fun i hi => ?_
        rw [oneAtN s hi]
        rfl
      rw [hfi]
      by_cases hf0 : firstE s.es.length (oneN s.t s.nx s.es) = 0
      · rw [if_pos hf0, if_pos hf0]
        have hz := firstE_zero hf0
        have hu : ∀ i, i < s.es.length → boundsN (rec s.es i) = true ∧ targetE (rec s.es i) = true := fun i hi => by
          have h1 := hz i hi
          unfold oneN at h1
          split at h1
          next h2 =>
            unfold unitAtN at h2
            split at h2
            next h3 =>
              split at h2
              next h4 => exact ⟨h3.1, h4.2.2⟩
              · omega
            · omega
          next h2 => exact absurd h1 h2
        have hiff : (∀ i, i < s.es.length → aimBadR true s.es i = false) ↔ ∀ i, i < s.es.length → aimOkN s.es i :=
          ⟨fun h i hi => (aimBadN (hu i hi).1 (hu i hi).2).1 (h i hi), fun h i hi => (aimBadN (hu i hi).1 (hu i hi).2).2 (h i hi)⟩
        unfold targetsN
        by_cases ha : ∀ i, i < s.es.length → aimOkN s.es i
        · rw [if_pos (hiff.2 ha), if_pos ha]
          rfl
        · rw [if_neg (fun h => ha (hiff.1 h)), if_neg ha]
          rfl
      · rw [if_neg hf0, if_neg hf0]
end Go.Proofs.YtcbalhicaipmlaaGreat
namespace Go.Proofs.YtcbalhicaipmlaaGreat
open Go.RowKit Go.Maps
structure InvN (s : St) : Prop where
  t0 : 0 ≤ s.t
  t1 : s.t ≤ 60
  n0 : 1 ≤ s.nx
  n1 : s.nx ≤ 2001
  a0 : 0 ≤ s.g0 ∧ s.g0 ≤ 1000
  a1 : 0 ≤ s.g1 ∧ s.g1 ≤ 1000
  el : s.es.length ≤ 20
  bd : ∀ u ∈ s.es, boundsN u = true
  ow : ∀ u ∈ s.es, ownerE u = true
  pl : ∀ u ∈ s.es, placeN u = true
  tg : ∀ u ∈ s.es, targetE u = true
  lt : ∀ u ∈ s.es, fld u 0 < s.nx
  sn : ∀ u ∈ s.es, 0 ≤ fld u 10 ∧ fld u 10 ≤ s.t
  up : s.es.Pairwise (fun a b => fld a 0 < fld b 0)
  ap : s.es.Pairwise (fun a b => ¬ (fld a 3 = fld b 3 ∧ fld a 4 = fld b 4))
  am : ∀ u ∈ s.es, 0 < fld u 9 → ∃ v ∈ s.es, fld v 0 = fld u 9 ∧ mayN (fld u 6) u v = true
  fr : s.free = []
theorem unitAtN_ok {t nx : Int} {us : List (List Int)} {i : Nat} (h : unitAtN t nx us i = 0) : boundsN (rec us i) = true ∧ (0 ≤ fld (rec us i) 10 ∧ fld (rec us i) 10 ≤ t) ∧ ownerE (rec us i) = true ∧ placeN (rec us i) = true ∧ targetE (rec us i) = true ∧ ¬ orderN nx us i := by
  unfold unitAtN at h
  split at h
  next h1 =>
    split at h
    next h2 =>
      split at h
      · omega
      next h3 =>
        refine ⟨h1.1, ?_, h2.1, h2.2.1, h2.2.2, h3⟩
        have := h1.2
        unfold inZ at this
        exact of_decide_eq_true this
    · omega
  · omega
theorem invN_of_check {s : St} (hf : s.free = []) (h : checkN s.t s.g0 s.g1 s.nx s.es = 0) : InvN s := by
  unfold checkN at h
  split at h
  next hst =>
    split at h
    next hfi =>
      have hz := firstE_zero hfi
      have hu : ∀ i, i < s.es.length → unitAtN s.t s.nx s.es i = 0 ∧ ¬ takenN s.es i := fun i hi => by
        have h1 := hz i hi
        unfold oneN at h1
        split at h1
        next h2 =>
          split at h1
          · omega
          next h3 => exact ⟨h2, h3⟩
        next h2 => exact absurd h1 h2
      have hk := fun i hi => unitAtN_ok (hu i hi).1
      unfold stateN at hst
      split at hst
      next h1 =>
        split at hst
        next h2 =>
          split at hst
          next h3 =>
            split at hst
            · omega
            next h4 =>
              unfold inZ at h1 h2 h3
              have t := of_decide_eq_true h1.1
              have n := of_decide_eq_true h1.2
              have a := of_decide_eq_true h2
              have b := of_decide_eq_true h3
              have hup1 : ∀ i, i + 1 < s.es.length → fld (rec s.es i) 0 < fld (rec s.es (i + 1)) 0 := fun i hi => by
                have := (hk (i + 1) hi).2.2.2.2.2
                unfold orderN at this
                have h5 : ¬ (0 < i + 1 ∧ fld (rec s.es (i + 1)) 0 ≤ fld (rec s.es (i + 1 - 1)) 0) := fun x => this (Or.inl x)
                rw [Nat.add_sub_cancel] at h5
                omega
              have hup : ∀ d i, i + d + 1 < s.es.length → fld (rec s.es i) 0 < fld (rec s.es (i + d + 1)) 0 := by
                intro d
                induction d with
                | zero => exact fun i hi => hup1 i hi
                | succ d ih =>
                  intro i hi
                  have h1 := ih i (by omega)
                  have h2 := hup1 (i + d + 1) (by omega)
                  have e : i + (d + 1) + 1 = i + d + 1 + 1 := by omega
                  rw [e]
                  omega
              have hupP : s.es.Pairwise (fun a b => fld a 0 < fld b 0) := (all_pair (R := fun a b => fld a 0 < fld b 0)).1 fun i j hij hj => by
                have h := hup (j - i - 1) i (by omega)
                have e : i + (j - i - 1) + 1 = j := by omega
                rw [e] at h
                exact h
              refine ⟨t.1, t.2, n.1, n.2, a, b, by omega, all_mem.1 fun i hi => (hk i hi).1, all_mem.1 fun i hi => (hk i hi).2.2.1, all_mem.1 fun i hi => (hk i hi).2.2.2.1, all_mem.1 fun i hi => (hk i hi).2.2.2.2.1, (all_mem (P := fun u => fld u 0 < s.nx)).1 fun i hi => ?_, (all_mem (P := fun u => 0 ≤ fld u 10 ∧ fld u 10 ≤ s.t)).1 fun i hi => (hk i hi).2.1, hupP, (all_pair (R := fun a b => ¬ (fld a 3 = fld b 3 ∧ fld a 4 = fld b 4))).1 fun i j hij hj => ?_, ?_, hf⟩
              · have := (hk i hi).2.2.2.2.2
                unfold orderN at this
                have h5 : ¬ s.nx ≤ fld (rec s.es i) 0 := fun x => this (Or.inr x)
                omega
              · intro hx
                refine (hu j hj).2 ?_
                unfold takenN
                rw [List.countP_pos_iff]
                refine ⟨rec s.es i, ?_, ?_⟩
                · rw [← rec_take hij]
                  exact rec_mem (by rw [List.length_take]; omega)
                · unfold isAt
                  rw [hx.1, hx.2]
                  simp
              · intro u hu' h9
                obtain ⟨i, hi, rfl⟩ := List.mem_iff_getElem.1 hu'
                unfold targetsN at h
                split at h
                next hall =>
                  have := hall i hi
                  unfold aimOkN at this
                  rw [rec_at hi] at this
                  rcases this with e | ⟨e1, e2⟩
                  · omega
                  · obtain ⟨hkk, hp⟩ := idxZ_at e1
                    exact ⟨_, rec_mem hkk, eq_of_beq hp, e2⟩
                · omega
          · omega
        · omega
      · omega
    next hne => exact absurd h hne
  next hne => exact absurd h hne
def doN (s : St) (q : List Int) (i : Nat) : St :=
  if fld q 1 = 1 then goesR true s i (fld q 4) (fld q 5)
  else if fld q 1 = 2 then (if 0 ≤ whoZ (fld q 3) s.es then aimsR true s i (fld q 3) (mayZ true (rec s.es i) (rec s.es (whoZ (fld q 3) s.es).toNat)) else s)
  else if fld q 1 = 3 then buildR true s (rec s.es i) (fld q 3) (fld q 4) (fld q 5)
  else if fld q 1 = 4 then stopR s i
  else s
def ordN (s : St) (q : List Int) : St :=
  if whoZ (fld q 2) s.es < 0 then s
  else if fld (rec s.es (whoZ (fld q 2) s.es).toNat) 1 = fld q 0 then doN s q (whoZ (fld q 2) s.es).toNat
  else s
def ordsN (s : St) (l : List (List Int)) : St := l.foldl ordN s
end Go.Proofs.YtcbalhicaipmlaaGreat
namespace Go.Proofs.YtcbalhicaipmlaaGreat
open Go.RowKit Go.Maps
def wishN (t u : List Int) : Option (Int × Int) := if headBN t u = true ∧ Pl.nSpeed (fld u 2) ≠ 0 ∧ (Pl.nearZ (fld u 3) (headXN t u) ≠ fld u 3 ∨ Pl.nearZ (fld u 4) (headYN t u) ≠ fld u 4) then some (Pl.nearZ (fld u 3) (headXN t u), Pl.nearZ (fld u 4) (headYN t u)) else none
end Go.Proofs.YtcbalhicaipmlaaGreat
namespace Go.Proofs.YtcbalhicaipmlaaGreat
open Go.RowKit Go.Maps
def arriveF (old : List Int) (u : List Int) : List Int := if (((isB old (fld u 0) && (fld u 6 == 1)) && (fld u 3 == fld u 7)) && (fld u 4 == fld u 8)) = true then tellR u 0 0 0 0 else u
def arriveR (old : List Int) (es : List (List Int)) : List (List Int) := es.map (arriveF old)
theorem RowU.nil {b n c : Nat} {w : World} {a : Option Addr} {us : List (List Int)} (h : RowU b w (.slice a n c) us) : a = none → c = 0 := by
  rcases h.2 with ⟨h', _⟩ | ⟨g', cap', cur, h', _⟩
  · intro _; cases h'; rfl
  · intro e; cases h'; cases e
end Go.Proofs.YtcbalhicaipmlaaGreat
namespace Go.Proofs.YtcbalhicaipmlaaGreat
open Go.RowKit Go.Maps
def idleF (A : List (List Int)) (u : List Int) : List Int := if (decide (0 < fld u 9) && decide (whoZ (fld u 9) A < 0)) = true then tellR u 0 0 0 0 else u
end Go.Proofs.YtcbalhicaipmlaaGreat
namespace Go.Proofs.YtcbalhicaipmlaaGreat
open Go.RowKit Go.Maps
def wishO (es : List (List Int)) (old : List Int) (u : List Int) : Option (Int × Int) := if isB old (fld u 0) = true then wishN (tgtR es u) u else none
def claimsO (es : List (List Int)) (old : List Int) (x y : Int) : Nat := es.countP (isAt x y) + es.countP (fun u => decide (wishO es old u = some (x, y)))
def moveO (es : List (List Int)) (old : List Int) (u : List Int) : List Int :=
  match wishO es old u with
  | some (x, y) => if claimsO es old x y = 1 then updR 11 (updR 11 u 3 x) 4 y else u
  | none => u
def moveSO (s : St) (old : List Int) : St := { s with es := s.es.map (moveO s.es old) }
def arriveSO (s : St) (old : List Int) : St := { s with es := arriveR old s.es }
def strikeO (es : List (List Int)) (old : List Int) (u : List Int) : Bool := isB old (fld u 0) && (decide (fld u 9 ≠ 0) && nearN u (tgtR es u))
def amountO (u : List Int) : Int := if fld u 6 = 2 then Pl.nHarm (fld u 2) else Pl.nLoad (fld u 2)
def lessO (es : List (List Int)) (old : List Int) (l : List (List Int)) (id : Int) : Int :=
  l.foldl (fun n u => if strikeO es old u = true ∧ fld u 9 = id then n + amountO u else n) 0
def hurtO (es : List (List Int)) (old : List Int) (u : List Int) : List Int := updR 11 u 5 (fld u 5 - lessO es old es (fld u 0))
def earnO (es : List (List Int)) (old : List Int) (o : Int) (l : List (List Int)) (g : Int) : Int :=
  l.foldl (fun n u => if strikeO es old u = true ∧ fld u 6 ≠ 2 ∧ fld u 1 = o then min (n + Pl.nLoad (fld u 2)) 1000 else n) g
def strikeSO (s : St) (old : List Int) : St := { s with g0 := earnO s.es old 0 s.es s.g0, g1 := earnO s.es old 1 s.es s.g1, es := s.es.map (hurtO s.es old) }
def buryO (s : St) : St := { s with es := (s.es.filter aliveB).map (idleF (s.es.filter aliveB)) }
def endO (s : St) (old : List Int) : St := { buryO (strikeSO (arriveSO (moveSO s old) old) old) with t := s.t + 1 }
end Go.Proofs.YtcbalhicaipmlaaGreat

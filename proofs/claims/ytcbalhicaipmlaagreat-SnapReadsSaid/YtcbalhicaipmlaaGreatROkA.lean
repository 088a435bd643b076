/- A tick under way: what one wishes. -/
import Derived.Laws.StructEq
import Derived.Deep.MidRow
import Derived.Deep.RegionHeld3
import Derived.Deep.DeepCutAuto
import Derived.Test.YtcbalhicaipmlaaGreatRElB
import Derived.Test.YtcbalhicaipmlaaGreatRMemA
import Derived.Test.YtcbalhicaipmlaaGreatRRefBA
import Derived.Test.YtcbalhicaipmlaaGreatRRefEA
import Derived.Test.YtcbalhicaipmlaaGreatRInvZ
namespace Go.Proofs.YtcbalhicaipmlaaGreat
open Go.RowKit Go.Maps
end Go.Proofs.YtcbalhicaipmlaaGreat
namespace Go.Proofs.YtcbalhicaipmlaaGreat
open Go.RowKit Go.Maps
open Go.ChangeMaps (setBlock heap_setBlock_same heap_setBlock_other)
section
variable {κ : Type}
end
section
variable {κ : Type} [DecidableEq κ]
end
section
variable {κ : Type} {c : κ → Value}
end
section
variable {κ : Type} [DecidableEq κ]
variable {mt kt et : TypeId} {c : κ → Value} {z : Value}
end
end Go.Proofs.YtcbalhicaipmlaaGreat
namespace Go.Proofs.YtcbalhicaipmlaaGreat
open Go.RowKit Go.Maps
theorem take_rec {A : List (List Int)} {k : Nat} (hk : k < A.length) : A.take (k + 1) = A.take k ++ [rec A k] := by
  rw [rec_at hk, List.take_add_one, List.getElem?_eq_getElem hk]
  rfl
end Go.Proofs.YtcbalhicaipmlaaGreat
namespace Go.Proofs.YtcbalhicaipmlaaGreat
open Go.RowKit Go.Maps
end Go.Proofs.YtcbalhicaipmlaaGreat
namespace Go.Proofs.YtcbalhicaipmlaaGreat
open Go.RowKit Go.Maps
end Go.Proofs.YtcbalhicaipmlaaGreat
namespace Go.Proofs.YtcbalhicaipmlaaGreat
open Go.RowKit Go.Maps
theorem rec_mem {es : List (List Int)} {i : Nat} (h : i < es.length) : rec es i ∈ es := by
  rw [rec_at h]
  exact List.getElem_mem h
end Go.Proofs.YtcbalhicaipmlaaGreat
namespace Go.Proofs.YtcbalhicaipmlaaGreat
open Go.RowKit Go.Maps
def unitE (u : List Int) : List Int := [fld u 0, fld u 1, fld u 2, fld u 3, fld u 4, fld u 5, fld u 6, fld u 7, fld u 8, fld u 9, 0]
def upS (s : St) : St := { s with es := s.es.map unitE }
theorem recU {es : List (List Int)} {i : Nat} (h : i < es.length) : rec (es.map unitE) i = unitE (rec es i) := by
  rw [rec_at (by simpa using h), rec_at h, List.getElem_map]
theorem fldU (u : List Int) {j : Nat} (h : j < 10) : fld (unitE u) j = fld u j := by
  match j, h with
  | 0, _ | 1, _ | 2, _ | 3, _ | 4, _ | 5, _ | 6, _ | 7, _ | 8, _ | 9, _ => rfl
theorem frecU (es : List (List Int)) (i : Nat) {j : Nat} (h : j < 10) : fld (rec (es.map unitE) i) j = fld (rec es i) j := by
  by_cases hi : i < es.length
  · rw [recU hi, fldU _ h]
  · have e1 : rec (es.map unitE) i = [] := by
      unfold rec
      rw [List.getD_eq_getElem?_getD, List.getElem?_eq_none (by simpa using hi)]
      rfl
    have e2 : rec es i = [] := by
      unfold rec
      rw [List.getD_eq_getElem?_getD, List.getElem?_eq_none (by omega)]
      rfl
    rw [e1, e2]
theorem idxU (p : List Int → Bool) (hp : ∀ u, p (unitE u) = p u) (es : List (List Int)) : idxZ p (es.map unitE) = idxZ p es := by
  unfold idxZ
  rw [List.findIdx?_map]
  have : p ∘ unitE = p := funext hp
  rw [this]
theorem whoU (id : Int) (es : List (List Int)) : whoZ id (es.map unitE) = idxZ (isId id) es := idxU (isId id) (fun _ => rfl) es
theorem headU (s : St) : headR false (upS s) = !(inZ s.t 0 60 && (inZ s.nx 1 201 && (inZ s.g0 0 40 && inZ s.g1 0 40))) := by
  rw [Bool.eq_iff_iff]
  unfold headR inZ upS topZ richZ
  simp only [Bool.or_eq_true, decide_eq_true_eq, Bool.not_eq_true', Bool.and_eq_false_iff, decide_eq_false_iff_not]
  simp only [Bool.false_eq_true, if_false]
  omega
theorem boundU (t : Int) (u : List Int) : boundR false t (unitE u) = !boundsE u := by
  have e : boundR false t (unitE u) = (!Pl.eHas (fld u 2) || (decide (fld u 0 < 1) || (decide (200 < fld u 0) || (!Pl.onB (fld u 3) (fld u 4) || (decide (fld u 5 < 1) || (decide (mostZ (fld u 2) < fld u 5) || (decide (fld u 6 < 0) || (decide (3 < fld u 6) || (decide (fld u 9 < 0) || (decide (200 < fld u 9) || false)))))))))) := rfl
  rw [e]
  unfold boundsE inZ
  generalize Pl.eHas (fld u 2) = a
  generalize Pl.onB (fld u 3) (fld u 4) = b
  generalize mostZ (fld u 2) = m
  generalize fld u 0 = z0
  generalize fld u 5 = z5
  generalize fld u 6 = z6
  generalize fld u 9 = z9
  rw [Bool.eq_iff_iff]
  cases a <;> cases b <;> simp only [Bool.or_eq_true, decide_eq_true_eq, Bool.not_eq_true', Bool.and_eq_false_iff, decide_eq_false_iff_not, Bool.not_true, Bool.not_false, Bool.true_and, Bool.false_and, Bool.false_or, Bool.true_or, Bool.or_false, or_true, Bool.and_false] <;> omega
theorem ownU (u : List Int) : ownR (unitE u) = !ownerE u := by
  have e : ownR (unitE u) = (decide (fld u 1 < 0) || (decide (2 < fld u 1) || ((fld u 1 == 2) != (fld u 2 == 4)))) := rfl
  rw [e]
  unfold ownerE inZ
  generalize fld u 1 = o
  generalize fld u 2 = k
  by_cases hk : k = 4
  · subst hk
    rw [if_pos rfl]
    by_cases ho : o = 2
    · subst ho; rfl
    · have h1 : (o == 2) = false := by simpa using ho
      rw [h1]
      simp
  · rw [if_neg hk]
    have h2 : (k == 4) = false := by simpa using hk
    rw [h2, Bool.eq_iff_iff]
    by_cases ho : o = 2
    · subst ho; decide
    · have h1 : (o == 2) = false := by simpa using ho
      rw [h1]
      simp only [Bool.or_eq_true, decide_eq_true_eq, Bool.not_eq_true', decide_eq_false_iff_not, bne_self_eq_false, Bool.false_eq_true, or_false]
      omega
theorem speed_nonneg (k : Int) : 0 ≤ Pl.eSpeed k := by
  unfold Pl.eSpeed
  repeat' split
  all_goals omega
theorem doesU {u : List Int} (h : 0 ≤ fld u 6 ∧ fld u 6 ≤ 3) : doesR false (unitE u) = !(placeE u && targetE u) := by
  have e : doesR false (unitE u) = (((fld u 6 == 1) && (!Pl.onB (fld u 7) (fld u 8) || Pl.eSpeed (fld u 2) == 0)) || (((fld u 6 != 1) && (fld u 7 != 0 || fld u 8 != 0)) || (decide (1 < fld u 6) != decide (0 < fld u 9)))) := rfl
  rw [e]
  have hs := speed_nonneg (fld u 2)
  have hz : (Pl.eSpeed (fld u 2) == 0) = !decide (0 < Pl.eSpeed (fld u 2)) := by
    by_cases h0 : Pl.eSpeed (fld u 2) = 0
    · rw [h0]; rfl
    · rw [decide_eq_true (by omega)]
      simpa using h0
  rw [hz]
  unfold placeE targetE
  have h1 : decide (1 < fld u 6) = (fld u 6 == 2 || fld u 6 == 3) := by
    rw [Bool.eq_iff_iff, decide_eq_true_eq, Bool.or_eq_true, beq_iff_eq, beq_iff_eq]
    omega
  rw [h1]
  generalize decide (0 < Pl.eSpeed (fld u 2)) = sp
  generalize Pl.onB (fld u 7) (fld u 8) = on
  generalize decide (0 < fld u 9) = t9
  generalize (fld u 6 == 2 || fld u 6 == 3) = t6
  by_cases h6 : fld u 6 = 1
  · rw [if_pos h6, h6]
    cases sp <;> cases on <;> cases t9 <;> cases t6 <;> rfl
  · rw [if_neg h6]
    have : (fld u 6 == 1) = false := by simpa using h6
    rw [bne, this]
    rw [bne, bne]
    generalize (fld u 7 == 0) = a
    generalize (fld u 8 == 0) = b
    cases a <;> cases b <;> cases t9 <;> cases t6 <;> rfl
theorem placeU (es : List (List Int)) {i : Nat} (hi : i < es.length) : placeR (es.map unitE) i = decide (0 ≤ idxZ (isAt (fld (rec es i) 3) (fld (rec es i) 4)) (es.take i)) := by
  rw [Bool.eq_iff_iff, decide_eq_true_eq]
  unfold placeR
  rw [List.any_eq_true]
  constructor
  · rintro ⟨k, hk, hs⟩
    rw [List.mem_range] at hk
    unfold sameR at hs
    rw [frecU es k (by omega), frecU es i (by omega), frecU es k (by omega), frecU es i (by omega)] at hs
    by_cases hz : idxZ (isAt (fld (rec es i) 3) (fld (rec es i) 4)) (es.take i) < 0
    · have := idxZ_neg_iff.1 hz k (by rw [List.length_take]; omega)
      rw [rec_take hk] at this
      unfold isAt at this
      rw [this] at hs
      cases hs
    · omega
  · intro h
    obtain ⟨hk, hp⟩ := idxZ_at h
    rw [List.length_take] at hk
    have hlt : (idxZ (isAt (fld (rec es i) 3) (fld (rec es i) 4)) (es.take i)).toNat < i := by omega
    refine ⟨_, List.mem_range.2 hlt, ?_⟩
    rw [rec_take hlt] at hp
    unfold sameR
    rw [frecU es _ (by omega), frecU es i (by omega), frecU es _ (by omega), frecU es i (by omega)]
    exact hp
theorem oneAtU (s : St) {i : Nat} (hi : i < s.es.length) : oneAtR false (upS s) i = (entE s.nx s.es i : Nat) := by
  have hr : rec (upS s).es i = unitE (rec s.es i) := recU hi
  have ho : orderR (upS s) i = (decide (s.nx ≤ fld (rec s.es i) 0) || (decide (0 < (i : Int)) && decide (fld (rec s.es i) 0 ≤ fld (rec s.es (i - 1)) 0))) := by
    unfold orderR upS
    rw [frecU s.es i (by omega), frecU s.es (i - 1) (by omega)]
  have hp : placeR (upS s).es i = _ := placeU s.es hi
  unfold oneAtR entE
  rw [hr, ho, hp]
  unfold oneR shapeR
  rw [boundU, ownU]
  cases hb : boundsE (rec s.es i) with
  | false => simp
  | true =>
    have hb6 := (boundsE_true hb).2.2.2.2
    rw [doesU (by omega)]
    cases hw : ownerE (rec s.es i) <;> cases hpl : placeE (rec s.es i) <;> cases htg : targetE (rec s.es i) <;> try (simp; done)
    simp only [Bool.not_true, Bool.false_eq_true, if_false, if_true, Bool.and_true, and_true, Int.lt_irrefl, Bool.or_eq_true, Bool.and_eq_true, decide_eq_true_eq]
    by_cases h1 : (0 < i ∧ fld (rec s.es i) 0 ≤ fld (rec s.es (i - 1)) 0) ∨ s.nx ≤ fld (rec s.es i) 0
    · rw [if_pos h1, if_pos (by omega)]
      rfl
    · rw [if_neg h1, if_neg (by omega)]
      split <;> rfl
theorem find_congr {α : Type} {p q : α → Bool} : ∀ (l : List α), (∀ x ∈ l, p x = q x) → l.find? p = l.find? q
  | [], _ => rfl
  | x :: l, h => by
    rw [List.find?_cons, List.find?_cons, h x (by simp), find_congr l (fun y hy => h y (by simp [hy]))]
theorem firstE_congr {n : Nat} {f g : Nat → Nat} (h : ∀ i, i < n → f i = g i) : firstE n f = firstE n g := by
  unfold firstE
  have e : (List.range n).find? (fun i => f i != 0) = (List.range n).find? (fun i => g i != 0) := by
    refine find_congr _ fun i hi => ?_
    rw [h i (by simpa using hi)]
  rw [e]
  cases hf : (List.range n).find? (fun i => g i != 0) with
  | none => rfl
  | some k =>
    have := List.mem_of_find?_eq_some hf
    exact h k (by simpa using this)
theorem firstU (s : St) : firstR false (upS s) = firstE s.es.length (entE s.nx s.es) := by
  unfold firstR
  have hl : (upS s).es.length = s.es.length := by unfold upS; simp
  rw [hl]
  refine firstE_congr fun i hi => ?_
  rw [oneAtU s hi]
  rfl
theorem mayU (u t : List Int) : mayZ false (unitE u) (unitE t) = if mineE u t = true then 3 else if fightE u t = true then 2 else 0 := by
  have e : mayZ false (unitE u) (unitE t) = if fld t 2 = 4 ∧ 0 < Pl.eLoad (fld u 2) then 3 else if fld t 2 ≠ 4 ∧ fld t 1 ≠ fld u 1 ∧ 0 < Pl.eHarm (fld u 2) then 2 else 0 := rfl
  rw [e]
  unfold mineE fightE
  simp only [Bool.and_eq_true, beq_iff_eq, decide_eq_true_eq, bne_iff_ne]
theorem mine_fight {u t : List Int} (h : mineE u t = true) : fightE u t = false := by
  unfold mineE at h
  rw [Bool.and_eq_true, beq_iff_eq] at h
  unfold fightE
  rw [h.1]
  rfl
theorem may_is {d : Int} (hd : d = 2 ∨ d = 3) (u t : List Int) : mayZ false (unitE u) (unitE t) = d ↔ mayE d u t = true := by
  rw [mayU]
  rcases hd with rfl | rfl
  · have e : mayE 2 u t = fightE u t := by unfold mayE; rw [if_neg (by decide)]
    rw [e]
    cases hm : mineE u t with
    | true => rw [mine_fight hm]; decide
    | false => cases fightE u t <;> decide
  · have e : mayE 3 u t = mineE u t := by unfold mayE; rw [if_pos rfl]
    rw [e]
    cases hm : mineE u t with
    | true => simp
    | false => cases fightE u t <;> decide
theorem aimE_may (es : List (List Int)) (u : List Int) (d t : Int) : aimE es u d t = (decide (0 ≤ idxZ (isId t) es) && mayE d u (rec es (idxZ (isId t) es).toNat)) := by
  unfold aimE mayE
  by_cases h : idxZ (isId t) es < 0
  · rw [if_pos h, decide_eq_false (by omega)]; rfl
  · rw [if_neg h, decide_eq_true (by omega), Bool.true_and]
theorem aimBadU {es : List (List Int)} {i : Nat} (hi : i < es.length) (hb : boundsE (rec es i) = true) (ht : targetE (rec es i) = true) : aimBadR false (es.map unitE) i = false ↔ aimOkE es i := by
  have h9 := (boundsE_true hb).2.2.2.2.2
  unfold aimBadR aimOkE
  rw [recU hi, fldU _ (by omega), fldU _ (by omega), whoU, aimE_may]
  by_cases h0 : fld (rec es i) 9 = 0
  · rw [h0]; simp
  · rw [decide_eq_true h0, Bool.true_and]
    have hp : 0 < fld (rec es i) 9 := by omega
    have hd : fld (rec es i) 6 = 2 ∨ fld (rec es i) 6 = 3 := by
      unfold targetE at ht
      rw [decide_eq_true hp] at ht
      have : (fld (rec es i) 6 == 2 || fld (rec es i) 6 == 3) = true := by simpa using ht
      rw [Bool.or_eq_true, beq_iff_eq, beq_iff_eq] at this
      exact this
    by_cases hw : idxZ (isId (fld (rec es i) 9)) es < 0
    · rw [decide_eq_true hw, decide_eq_false (show ¬ 0 ≤ idxZ (isId (fld (rec es i) 9)) es by omega)]
      simp [hp]
    · rw [decide_eq_false hw, decide_eq_true (show 0 ≤ idxZ (isId (fld (rec es i) 9)) es by omega), Bool.false_or, Bool.true_and, recU (idxZ_at (by omega)).1, bne_eq_false_iff_eq, may_is hd]
      exact ⟨fun h _ => h, fun h => h hp⟩
theorem ups_of {es : List (List Int)} {nx : Int} (hz : ∀ i, i < es.length → entE nx es i = 0) : ∀ i j, i < j → j < es.length → fld (rec es i) 0 < fld (rec es j) 0 := by
  have hup1 : ∀ i, i + 1 < es.length → fld (rec es i) 0 < fld (rec es (i + 1)) 0 := fun i hi => (entE_zero (hz (i + 1) hi)).2.2.2.2.1 (by omega)
  have hup : ∀ d i, i + d + 1 < es.length → fld (rec es i) 0 < fld (rec es (i + d + 1)) 0 := by
    intro d
    induction d with
    | zero => exact fun i hi => hup1 i hi
    | succ d ih =>
      intro i hi
      have h1 := ih i (by omega)
      have h2 := hup1 (i + d + 1) (by omega)
      have e : i + (d + 1) + 1 = i + d + 1 + 1 := by omega
      rw [e]
      omega
  intro i j hij hj
  have h := hup (j - i - 1) i (by omega)
  have e : i + (j - i - 1) + 1 = j := by omega
  rw [e] at h
  exact h
theorem count_ids {es : List (List Int)} (hup : ∀ i j, i < j → j < es.length → fld (rec es i) 0 < fld (rec es j) 0) (id : Int) : (idsE es).count id = if 0 ≤ idxZ (isId id) es then 1 else 0 := by
  have hnd : (idsE es).Nodup := by
    unfold idsE
    rw [List.Nodup, List.pairwise_map]
    have := (all_pair (R := fun a b => fld a 0 < fld b 0)).1 hup
    exact this.imp fun h e => by omega
  by_cases h : 0 ≤ idxZ (isId id) es
  · rw [if_pos h]
    obtain ⟨hk, hp⟩ := idxZ_at h
    have hm : id ∈ idsE es := mem_ids.2 ⟨_, hk, eq_of_beq hp⟩
    have h1 := List.nodup_iff_count.1 hnd id
    have h2 := List.count_pos_iff.2 hm
    omega
  · rw [if_neg h]
    refine List.count_eq_zero_of_not_mem fun hm => ?_
    obtain ⟨k, hk, he⟩ := mem_ids.1 hm
    have := idxZ_neg_iff.1 (show idxZ (isId id) es < 0 by omega) k hk
    unfold isId at this
    rw [he] at this
    simp at this
theorem freeU {s : St} (hup : ∀ i j, i < j → j < s.es.length → fld (rec s.es i) 0 < fld (rec s.es j) 0) : freeR (upS s) = (freeE s.nx s.es s.free : Nat) := by
  have hc : ∀ id, cntR (upS s) id = ((idsE s.es ++ s.free).count id : Nat) := by
    intro id
    have e : cntR (upS s) id = (s.free.count id : Int) + (if 0 ≤ whoZ id (s.es.map unitE) then 1 else 0) := rfl
    rw [e, whoU, List.count_append, count_ids hup]
    split <;> omega
  have hf : freeR (upS s) = if ∀ j, j < (s.nx - 1).toNat → cntR (upS s) ((j : Int) + 1) = 1 then (if (s.free.length : Int) + ((s.es.map unitE).length : Int) = s.nx - 1 then 0 else 3) else 3 := rfl
  rw [hf, List.length_map]
  unfold freeE
  have hiff : (∀ j, j < (s.nx - 1).toNat → cntR (upS s) ((j : Int) + 1) = 1) ↔ ∀ j, j < (s.nx - 1).toNat → (idsE s.es ++ s.free).count ((j : Int) + 1) = 1 := by
    constructor
    · intro h j hj
      have := h j hj
      rw [hc] at this
      omega
    · intro h j hj
      rw [hc, h j hj]
      rfl
  by_cases h1 : ∀ j, j < (s.nx - 1).toNat → (idsE s.es ++ s.free).count ((j : Int) + 1) = 1
  · rw [if_pos (hiff.2 h1), if_pos h1]
    by_cases h2 : (s.es.length : Int) + (s.free.length : Int) = s.nx - 1
    · rw [if_pos (by omega), if_pos h2]; rfl
    · rw [if_neg (by omega), if_neg h2]; rfl
  · rw [if_neg (fun h => h1 (hiff.1 h)), if_neg h1]
    split <;> rfl
theorem faultU (s : St) : faultR false (upS s) = (checkE s.t s.g0 s.g1 s.nx s.free s.es : Nat) := by
  have hm : manyR (upS s) = decide (20 < s.es.length ∨ 200 < s.free.length) := by
    have e : manyR (upS s) = (decide (20 < ((s.es.map unitE).length : Int)) || decide (200 < (s.free.length : Int))) := rfl
    rw [e, List.length_map, Bool.eq_iff_iff]
    simp only [Bool.or_eq_true, decide_eq_true_eq]
    omega
  unfold faultR checkE
  rw [headU, hm]
  have hst : stateE s.t s.g0 s.g1 s.nx s.free.length s.es.length = if (inZ s.t 0 60 && (inZ s.nx 1 201 && (inZ s.g0 0 40 && inZ s.g1 0 40))) = true then (if 20 < s.es.length ∨ 200 < s.free.length then 2 else 0) else 1 := by
    unfold stateE
    cases inZ s.t 0 60 <;> cases inZ s.nx 1 201 <;> cases inZ s.g0 0 40 <;> cases inZ s.g1 0 40 <;> simp
  rw [hst]
  cases hh : (inZ s.t 0 60 && (inZ s.nx 1 201 && (inZ s.g0 0 40 && inZ s.g1 0 40))) with
  | false => simp
  | true =>
    by_cases hmm : 20 < s.es.length ∨ 200 < s.free.length
    · rw [decide_eq_true hmm]
      simp [hmm]
    · rw [decide_eq_false hmm]
      simp only [Bool.not_true, Bool.false_eq_true, if_false, if_true, hmm]
      unfold tailR
      rw [firstU]
      by_cases hf : firstE s.es.length (entE s.nx s.es) = 0
      · rw [if_pos hf, if_pos hf]
        have hz := firstE_zero hf
        have hiff : (∀ i, i < (upS s).es.length → aimBadR false (upS s).es i = false) ↔ ∀ i, i < s.es.length → aimOkE s.es i := by
          have hl : (upS s).es.length = s.es.length := by unfold upS; simp
          rw [hl]
          constructor
          · intro h i hi
            exact (aimBadU hi (entE_zero (hz i hi)).1 (entE_zero (hz i hi)).2.2.2.1).1 (h i hi)
          · intro h i hi
            exact (aimBadU hi (entE_zero (hz i hi)).1 (entE_zero (hz i hi)).2.2.2.1).2 (h i hi)
        by_cases ha : ∀ i, i < s.es.length → aimOkE s.es i
        · rw [if_pos (hiff.2 ha), if_pos ha]
          simp only [Bool.false_eq_true, if_false]
          exact freeU (ups_of hz)
        · rw [if_neg (fun h => ha (hiff.1 h)), if_neg ha]
          rfl
      · rw [if_neg hf, if_neg hf]
end Go.Proofs.YtcbalhicaipmlaaGreat

/- A right state stays right: under commands, and over a tick. -/
import Derived.Test.YtcbalhicaipmlaaGreatRElB
import Derived.Test.YtcbalhicaipmlaaGreatRMemA
import Derived.Test.YtcbalhicaipmlaaGreatRRefBA
import Derived.Test.YtcbalhicaipmlaaGreatRRefEA
namespace Go.Proofs.YtcbalhicaipmlaaGreat
open Go.RowKit Go.Maps
theorem idxZ_neg_iff {p : List Int → Bool} {rs : List (List Int)} : idxZ p rs < 0 ↔ ∀ i, i < rs.length → p (rec rs i) = false := by
  constructor
  · intro h i hi
    cases hp : p (rec rs i) with
    | false => rfl
    | true =>
      exfalso
      unfold idxZ at h
      cases hf : rs.findIdx? p with
      | none =>
        rw [List.findIdx?_eq_none_iff] at hf
        have h2 := hf (rs[i]) (List.getElem_mem hi)
        rw [rec_at hi] at hp
        rw [hp] at h2
        cases h2
      | some k =>
        rw [hf] at h
        simp only at h
        omega
  · intro h
    have := idxZ_none h
    omega
structure Inv (s : St) : Prop where
  t0 : 0 ≤ s.t
  t1 : s.t ≤ 60
  n0 : 1 ≤ s.nx
  n1 : s.nx ≤ 201
  a0 : 0 ≤ s.g0 ∧ s.g0 ≤ 40
  a1 : 0 ≤ s.g1 ∧ s.g1 ≤ 40
  el : s.es.length ≤ 20
  fl : s.free.length ≤ 200
  bd : ∀ i, i < s.es.length → boundsE (rec s.es i) = true
  ow : ∀ i, i < s.es.length → ownerE (rec s.es i) = true
  pl : ∀ i, i < s.es.length → placeE (rec s.es i) = true
  tg : ∀ i, i < s.es.length → targetE (rec s.es i) = true
  up : ∀ i j, i < j → j < s.es.length → fld (rec s.es i) 0 < fld (rec s.es j) 0
  lt : ∀ i, i < s.es.length → fld (rec s.es i) 0 < s.nx
  ap : ∀ i j, i < j → j < s.es.length → ¬ (fld (rec s.es i) 3 = fld (rec s.es j) 3 ∧ fld (rec s.es i) 4 = fld (rec s.es j) 4)
  am : ∀ i, i < s.es.length → aimOkE s.es i
  sm : (s.es.length : Int) + (s.free.length : Int) = s.nx - 1
  fr : ∀ j, j < (s.nx - 1).toNat → (idsE s.es ++ s.free).count ((j : Int) + 1) = 1
theorem firstE_zero {n : Nat} {f : Nat → Nat} (h : firstE n f = 0) : ∀ i, i < n → f i = 0 := by
  intro i hi
  unfold firstE at h
  cases hf : (List.range n).find? (fun i => f i != 0) with
  | none =>
    rw [List.find?_eq_none] at hf
    have := hf i (by simpa using hi)
    simpa using this
  | some k =>
    rw [hf] at h
    have := List.find?_some hf
    simp only at h
    simp [h] at this
theorem freeE_zero {nx : Int} {es : List (List Int)} {free : List Int} (h : freeE nx es free = 0) : (es.length : Int) + (free.length : Int) = nx - 1 ∧ ∀ j, j < (nx - 1).toNat → (idsE es ++ free).count ((j : Int) + 1) = 1 := by
  unfold freeE at h
  split at h
  next h1 =>
    split at h
    next h2 => exact ⟨h1, h2⟩
    · omega
  · omega
theorem inv_of_check {s : St} (h : checkE s.t s.g0 s.g1 s.nx s.free s.es = 0) : Inv s := by
  unfold checkE at h
  split at h
  next h1 =>
    split at h
    next h2 =>
      split at h
      next h3 =>
        obtain ⟨ht, hn, ha, hb, he, hf⟩ := stateE_zero h1
        have hz := firstE_zero h2
        obtain ⟨hs, hfr⟩ := freeE_zero h
        have hup1 : ∀ i, i + 1 < s.es.length → fld (rec s.es i) 0 < fld (rec s.es (i + 1)) 0 := fun i hi => (entE_zero (hz (i + 1) hi)).2.2.2.2.1 (by omega)
        have hup : ∀ d i, i + d + 1 < s.es.length → fld (rec s.es i) 0 < fld (rec s.es (i + d + 1)) 0 := by
          intro d
          induction d with
          | zero => exact fun i hi => hup1 i hi
          | succ d ih =>
            intro i hi
            have h1 := ih i (by omega)
            have h2 := hup1 (i + d + 1) (by omega)
            have e : i + (d + 1) + 1 = i + d + 1 + 1 := by omega
            rw [e]
            omega
        refine ⟨ht.1, ht.2, hn.1, hn.2, ha, hb, he, hf, fun i hi => (entE_zero (hz i hi)).1, fun i hi => (entE_zero (hz i hi)).2.1, fun i hi => (entE_zero (hz i hi)).2.2.1, fun i hi => (entE_zero (hz i hi)).2.2.2.1, ?_, fun i hi => (entE_zero (hz i hi)).2.2.2.2.2.1, ?_, h3, hs, hfr⟩
        · intro i j hij hj
          have h := hup (j - i - 1) i (by omega)
          have e : i + (j - i - 1) + 1 = j := by omega
          rw [e] at h
          exact h
        · intro i j hij hj hxy
          have h := (entE_zero (hz j hj)).2.2.2.2.2.2
          rw [idxZ_neg_iff] at h
          have hl : i < (s.es.take j).length := by rw [List.length_take]; omega
          have h2 := h i hl
          rw [rec_take hij] at h2
          unfold isAt at h2
          rw [hxy.1, hxy.2] at h2
          simp at h2
      · omega
    · exact absurd h (by omega)
  next h1 => exact absurd h h1
theorem check_of_inv {s : St} (h : Inv s) : checkE s.t s.g0 s.g1 s.nx s.free s.es = 0 := by
  have h1 : stateE s.t s.g0 s.g1 s.nx s.free.length s.es.length = 0 := by
    unfold stateE
    rw [if_pos ⟨by unfold inZ; exact decide_eq_true ⟨h.t0, h.t1⟩, by unfold inZ; exact decide_eq_true ⟨h.n0, h.n1⟩⟩, if_pos (by unfold inZ; exact decide_eq_true h.a0), if_pos (by unfold inZ; exact decide_eq_true h.a1), if_neg]
    have := h.el
    have := h.fl
    omega
  have h2 : ∀ i, i < s.es.length → entE s.nx s.es i = 0 := by
    intro i hi
    unfold entE
    rw [if_pos (h.bd i hi), if_pos ⟨h.ow i hi, h.pl i hi, h.tg i hi⟩, if_neg, if_neg]
    · intro h0
      have hneg : idxZ (isAt (fld (rec s.es i) 3) (fld (rec s.es i) 4)) (s.es.take i) < 0 := by
        rw [idxZ_neg_iff]
        intro j hj
        rw [List.length_take] at hj
        have hj2 : j < i := by omega
        rw [rec_take hj2]
        have := h.ap j i hj2 hi
        unfold isAt
        rw [Bool.and_eq_false_iff]
        by_cases e : fld (rec s.es j) 3 = fld (rec s.es i) 3
        · right
          have : ¬ fld (rec s.es j) 4 = fld (rec s.es i) 4 := fun e2 => this ⟨e, e2⟩
          simpa using this
        · left
          simpa using e
      omega
    · rintro (⟨h0, h1⟩ | h1)
      · have := h.up (i - 1) i (by omega) hi
        omega
      · have := h.lt i hi
        omega
  unfold checkE
  rw [if_pos h1, if_pos (firstE_none h2), if_pos h.am]
  exact freeE_pos h.sm h.fr
end Go.Proofs.YtcbalhicaipmlaaGreat
namespace Go.Proofs.YtcbalhicaipmlaaGreat
open Go.RowKit Go.Maps
end Go.Proofs.YtcbalhicaipmlaaGreat
namespace Go.Proofs.YtcbalhicaipmlaaGreat
open Go.RowKit Go.Maps
theorem all_once : ∀ (n : Nat) (L : List Int), (∀ j, j < n → L.count ((j : Int) + 1) = 1) → ∃ M, L.Perm ((List.range n).map (fun (j : Nat) => (j : Int) + 1) ++ M) := by
  intro n
  induction n with
  | zero => exact fun L _ => ⟨L, by simp⟩
  | succ n ih =>
    intro L h
    have hm : ((n : Int) + 1) ∈ L := by
      rw [← List.count_pos_iff, h n (by omega)]
      omega
    have hp := List.perm_cons_erase hm
    obtain ⟨M, hM⟩ := ih (L.erase ((n : Int) + 1)) (fun j hj => by
      rw [List.count_erase_of_ne (by omega)]
      exact h j (by omega))
    refine ⟨M, hp.trans ?_⟩
    rw [List.range_succ, List.map_append, List.append_assoc]
    exact (List.Perm.cons _ hM).trans List.perm_middle.symm
theorem once_mem {n : Nat} {L : List Int} (hl : L.length = n) (h : ∀ j, j < n → L.count ((j : Int) + 1) = 1) {x : Int} (hx : x ∈ L) : 1 ≤ x ∧ x ≤ n := by
  obtain ⟨M, hM⟩ := all_once n L h
  have hlen := hM.length_eq
  simp only [List.length_append, List.length_map, List.length_range] at hlen
  have hM0 : M = [] := List.eq_nil_of_length_eq_zero (by omega)
  rw [hM0, List.append_nil] at hM
  have := hM.mem_iff.1 hx
  simp only [List.mem_map, List.mem_range] at this
  obtain ⟨j, hj, rfl⟩ := this
  omega
theorem Inv.known {s : St} (h : Inv s) {x : Int} (hx : x ∈ idsE s.es ++ s.free) : 1 ≤ x ∧ x < s.nx ∧ (idsE s.es ++ s.free).count x = 1 := by
  have hl : (idsE s.es ++ s.free).length = (s.nx - 1).toNat := by
    rw [List.length_append]
    have := h.sm
    have := h.n0
    simp only [idsE, List.length_map]
    omega
  have hb := once_mem hl h.fr hx
  have := h.n0
  refine ⟨hb.1, by omega, ?_⟩
  have h2 := h.fr (x - 1).toNat (by omega)
  have e : (((x - 1).toNat : Nat) : Int) + 1 = x := by omega
  rw [e] at h2
  exact h2
theorem mem_ids {es : List (List Int)} {x : Int} : x ∈ idsE es ↔ ∃ k, k < es.length ∧ fld (rec es k) 0 = x := by
  unfold idsE
  rw [List.mem_map]
  constructor
  · rintro ⟨r, hr, rfl⟩
    obtain ⟨i, hi, rfl⟩ := List.mem_iff_getElem.1 hr
    exact ⟨i, hi, by rw [rec_at hi]⟩
  · rintro ⟨k, hk, rfl⟩
    exact ⟨es[k], List.getElem_mem hk, by rw [rec_at hk]⟩
theorem aim_iff {es : List (List Int)} (hup : ∀ i j, i < j → j < es.length → fld (rec es i) 0 < fld (rec es j) 0) (u : List Int) (d t : Int) :
    aimE es u d t = true ↔ ∃ k, k < es.length ∧ fld (rec es k) 0 = t ∧ (if d = 3 then mineE u (rec es k) else fightE u (rec es k)) = true := by
  have uniq : ∀ i j, i < es.length → j < es.length → fld (rec es i) 0 = fld (rec es j) 0 → i = j := by
    intro i j hi hj e
    rcases Nat.lt_trichotomy i j with h | h | h
    · have := hup i j h hj; omega
    · exact h
    · have := hup j i h hi; omega
  unfold aimE
  by_cases hz : idxZ (isId t) es < 0
  · rw [if_pos hz]
    constructor
    · intro h; cases h
    · rintro ⟨k, hk, he, _⟩
      have := idxZ_neg_iff.1 hz k hk
      unfold isId at this
      rw [he] at this
      simp at this
  · rw [if_neg hz]
    obtain ⟨hk, hp⟩ := idxZ_at (show 0 ≤ idxZ (isId t) es by omega)
    have he : fld (rec es (idxZ (isId t) es).toNat) 0 = t := eq_of_beq hp
    constructor
    · intro h
      refine ⟨_, hk, he, ?_⟩
      split
      next h3 => rw [if_pos h3] at h; exact h
      next h3 => rw [if_neg h3] at h; exact h
    · rintro ⟨k, hkl, hke, hc⟩
      have := uniq _ _ hk hkl (he.trans hke.symm)
      rw [this]
      split
      next h3 => rw [if_pos h3] at hc; exact hc
      next h3 => rw [if_neg h3] at hc; exact hc
end Go.Proofs.YtcbalhicaipmlaaGreat
namespace Go.Proofs.YtcbalhicaipmlaaGreat
open Go.RowKit Go.Maps
end Go.Proofs.YtcbalhicaipmlaaGreat
namespace Go.Proofs.YtcbalhicaipmlaaGreat
open Go.RowKit Go.Maps
def mayE (d : Int) (u v : List Int) : Bool := if d = 3 then mineE u v else fightE u v
structure InvM (s : St) : Prop where
  t0 : 0 ≤ s.t
  t1 : s.t ≤ 60
  n0 : 1 ≤ s.nx
  n1 : s.nx ≤ 201
  a0 : 0 ≤ s.g0 ∧ s.g0 ≤ 40
  a1 : 0 ≤ s.g1 ∧ s.g1 ≤ 40
  el : s.es.length ≤ 20
  fl : s.free.length ≤ 200
  bd : ∀ u ∈ s.es, boundsE u = true
  ow : ∀ u ∈ s.es, ownerE u = true
  pl : ∀ u ∈ s.es, placeE u = true
  tg : ∀ u ∈ s.es, targetE u = true
  lt : ∀ u ∈ s.es, fld u 0 < s.nx
  up : s.es.Pairwise (fun a b => fld a 0 < fld b 0)
  ap : s.es.Pairwise (fun a b => ¬ (fld a 3 = fld b 3 ∧ fld a 4 = fld b 4))
  am : ∀ u ∈ s.es, 0 < fld u 9 → ∃ v ∈ s.es, fld v 0 = fld u 9 ∧ mayE (fld u 6) u v = true
  sm : (s.es.length : Int) + (s.free.length : Int) = s.nx - 1
  fr : ∀ j, j < (s.nx - 1).toNat → (idsE s.es ++ s.free).count ((j : Int) + 1) = 1
theorem all_mem {es : List (List Int)} {P : List Int → Prop} : (∀ i, i < es.length → P (rec es i)) ↔ ∀ u ∈ es, P u := by
  constructor
  · intro h u hu
    obtain ⟨i, hi, rfl⟩ := List.mem_iff_getElem.1 hu
    have := h i hi
    rw [rec_at hi] at this
    exact this
  · intro h i hi
    rw [rec_at hi]
    exact h _ (List.getElem_mem hi)
theorem all_pair {es : List (List Int)} {R : List Int → List Int → Prop} : (∀ i j, i < j → j < es.length → R (rec es i) (rec es j)) ↔ es.Pairwise R := by
  rw [List.pairwise_iff_getElem]
  constructor
  · intro h i j hi hj hij
    have := h i j hij hj
    rw [rec_at hi, rec_at hj] at this
    exact this
  · intro h i j hij hj
    rw [rec_at hj, rec_at (show i < es.length by omega)]
    exact h i j (by omega) hj hij
theorem aim_mem {es : List (List Int)} (hup : ∀ i j, i < j → j < es.length → fld (rec es i) 0 < fld (rec es j) 0) (u : List Int) (d t : Int) : aimE es u d t = true ↔ ∃ v ∈ es, fld v 0 = t ∧ mayE d u v = true := by
  rw [aim_iff hup]
  constructor
  · rintro ⟨k, hk, he, hc⟩
    rw [rec_at hk] at he hc
    exact ⟨_, List.getElem_mem hk, he, hc⟩
  · rintro ⟨v, hv, he, hc⟩
    obtain ⟨i, hi, rfl⟩ := List.mem_iff_getElem.1 hv
    exact ⟨i, hi, by rw [rec_at hi]; exact he, by rw [rec_at hi]; exact hc⟩
theorem Inv.mem {s : St} (h : Inv s) : InvM s := by
  refine ⟨h.t0, h.t1, h.n0, h.n1, h.a0, h.a1, h.el, h.fl, all_mem.1 h.bd, all_mem.1 h.ow, all_mem.1 h.pl, all_mem.1 h.tg, all_mem.1 h.lt, (all_pair (R := fun a b => fld a 0 < fld b 0)).1 h.up, (all_pair (R := fun a b => ¬ (fld a 3 = fld b 3 ∧ fld a 4 = fld b 4))).1 h.ap, ?_, h.sm, h.fr⟩
  intro u hu h0
  obtain ⟨i, hi, rfl⟩ := List.mem_iff_getElem.1 hu
  have := h.am i hi
  unfold aimOkE at this
  rw [rec_at hi] at this
  exact (aim_mem h.up _ _ _).1 (this h0)
theorem InvM.inv {s : St} (h : InvM s) : Inv s := by
  have hup := (all_pair (R := fun a b => fld a 0 < fld b 0)).2 h.up
  refine ⟨h.t0, h.t1, h.n0, h.n1, h.a0, h.a1, h.el, h.fl, all_mem.2 h.bd, all_mem.2 h.ow, all_mem.2 h.pl, all_mem.2 h.tg, hup, all_mem.2 h.lt, (all_pair (R := fun a b => ¬ (fld a 3 = fld b 3 ∧ fld a 4 = fld b 4))).2 h.ap, ?_, h.sm, h.fr⟩
  intro i hi h0
  rw [rec_at hi] at h0 ⊢
  exact (aim_mem hup _ _ _).2 (h.am _ (List.getElem_mem hi) h0)
theorem invM_map {s : St} (h : InvM s) (f : List Int → List Int) (h0 : ∀ u ∈ s.es, fld (f u) 0 = fld u 0 ∧ fld (f u) 1 = fld u 1 ∧ fld (f u) 2 = fld u 2) (hb : ∀ u ∈ s.es, boundsE (f u) = true) (hp : ∀ u ∈ s.es, placeE (f u) = true) (hg : ∀ u ∈ s.es, targetE (f u) = true)
    (hap : (s.es.map f).Pairwise (fun a b => ¬ (fld a 3 = fld b 3 ∧ fld a 4 = fld b 4))) (ham : ∀ u ∈ s.es, 0 < fld (f u) 9 → ∃ v ∈ s.es, fld v 0 = fld (f u) 9 ∧ mayE (fld (f u) 6) (f u) v = true) : InvM { s with es := s.es.map f } := by
  have hmem : ∀ (P : List Int → Prop), (∀ u ∈ s.es, P (f u)) → ∀ v ∈ s.es.map f, P v := by
    intro P hP v hv
    obtain ⟨u, hu, rfl⟩ := List.mem_map.1 hv
    exact hP u hu
  have hids : idsE (s.es.map f) = idsE s.es := by
    unfold idsE
    rw [List.map_map]
    exact List.map_congr_left fun u hu => (h0 u hu).1
  refine ⟨h.t0, h.t1, h.n0, h.n1, h.a0, h.a1, by simpa using h.el, h.fl, hmem _ hb, hmem _ ?_, hmem _ hp, hmem _ hg, hmem (fun v => fld v 0 < s.nx) (fun u hu => by rw [(h0 u hu).1]; exact h.lt u hu), ?_, hap, ?_, by simpa using h.sm, ?_⟩
  · intro u hu
    have := h.ow u hu
    unfold ownerE at this ⊢
    rw [(h0 u hu).2.1, (h0 u hu).2.2]
    exact this
  · show (s.es.map f).Pairwise _
    rw [List.pairwise_map]
    exact h.up.imp_of_mem fun {a b} ha hb hab => by rw [(h0 a ha).1, (h0 b hb).1]; exact hab
  · refine hmem (fun v => 0 < fld v 9 → ∃ w ∈ s.es.map f, fld w 0 = fld v 9 ∧ mayE (fld v 6) v w = true) (fun u hu h9 => ?_)
    obtain ⟨v, hv, he, hc⟩ := ham u hu h9
    refine ⟨f v, List.mem_map.2 ⟨v, hv, rfl⟩, by rw [(h0 v hv).1]; exact he, ?_⟩
    unfold mayE mineE fightE at hc ⊢
    rw [(h0 v hv).2.1, (h0 v hv).2.2]
    exact hc
  · intro j hj
    show (idsE (s.es.map f) ++ s.free).count _ = 1
    rw [hids]
    exact h.fr j hj
end Go.Proofs.YtcbalhicaipmlaaGreat
namespace Go.Proofs.YtcbalhicaipmlaaGreat
open Go.RowKit Go.Maps
theorem InvM.target {s : St} (h : InvM s) {u : List Int} (hu : u ∈ s.es) (hd : fld u 6 = 2 ∨ fld u 6 = 3) : 0 ≤ idxZ (isId (fld u 9)) s.es ∧ tgtE s.es u ∈ s.es ∧ fld (tgtE s.es u) 0 = fld u 9 ∧ mayE (fld u 6) u (tgtE s.es u) = true := by
  have ht := h.tg u hu
  have h9 : 0 < fld u 9 := by
    unfold targetE at ht
    have hb : (fld u 6 == 2 || fld u 6 == 3) = true := by
      rcases hd with e | e <;> rw [e] <;> rfl
    rw [hb] at ht
    simpa using ht
  have hz : ¬ idxZ (isId (fld u 9)) s.es < 0 := by
    intro hz
    obtain ⟨v, hv, he, _⟩ := h.am u hu h9
    obtain ⟨k, hk, rfl⟩ := List.mem_iff_getElem.1 hv
    have := idxZ_neg_iff.1 hz k hk
    rw [rec_at hk] at this
    unfold isId at this
    rw [he] at this
    simp at this
  obtain ⟨hk, hp⟩ := idxZ_at (show 0 ≤ idxZ (isId (fld u 9)) s.es by omega)
  have hm : tgtE s.es u ∈ s.es := by
    unfold tgtE
    rw [rec_at hk]
    exact List.getElem_mem hk
  have he : fld (tgtE s.es u) 0 = fld u 9 := eq_of_beq hp
  refine ⟨by omega, hm, he, ?_⟩
  obtain ⟨v, hv, hve, hc⟩ := h.am u hu h9
  have huniq : v = tgtE s.es u := by
    obtain ⟨a, ha, rfl⟩ := List.mem_iff_getElem.1 hv
    obtain ⟨b, hb, hbe⟩ := List.mem_iff_getElem.1 hm
    rw [← hbe] at he ⊢
    have hpw := List.pairwise_iff_getElem.1 h.up
    rcases Nat.lt_trichotomy a b with hlt | heq | hgt
    · have := hpw a b ha hb hlt; omega
    · subst heq; rfl
    · have := hpw b a hb ha hgt; omega
  rw [← huniq]
  exact hc
theorem InvM.on {s : St} (h : InvM s) {u : List Int} (hu : u ∈ s.es) : OnU u := (boundsE_true (h.bd u hu)).2.2.1
end Go.Proofs.YtcbalhicaipmlaaGreat
namespace Go.Proofs.YtcbalhicaipmlaaGreat
open Go.RowKit Go.Maps
def aliveB (u : List Int) : Bool := decide (0 < fld u 5)
end Go.Proofs.YtcbalhicaipmlaaGreat
namespace Go.Proofs.YtcbalhicaipmlaaGreat
open Go.RowKit Go.Maps
end Go.Proofs.YtcbalhicaipmlaaGreat

/- A right state stays right: under commands, and over a tick. -/
import Derived.Test.YtmnddahkbmlibaaNsRecA
import Derived.Test.YtmnddahkbmlibaaNsMemA
import Derived.Test.YtmnddahkbmlibaaNsRefBA
import Derived.Test.YtmnddahkbmlibaaNsGiA
namespace Go.Proofs.Ytmnddahkbmlibaa
open Go.RowKit Go.Maps
theorem idxZ_neg_iff {p : List Int → Bool} {rs : List (List Int)} : idxZ p rs < 0 ↔ ∀ i, i < rs.length → p (rec rs i) = false := by
  constructor
  · intro h i hi
    cases hp : p (rec rs i) with
    | false => rfl
    | true =>
      exfalso
      unfold idxZ at h
      cases hf : rs.findIdx? p with
      | none =>
        rw [List.findIdx?_eq_none_iff] at hf
        have h2 := hf (rs[i]) (List.getElem_mem hi)
        rw [rec_at hi] at hp
        rw [hp] at h2
        cases h2
      | some k =>
        rw [hf] at h
        simp only at h
        omega
  · intro h
    have := idxZ_none h
    omega
theorem firstE_zero {n : Nat} {f : Nat → Nat} (h : firstE n f = 0) : ∀ i, i < n → f i = 0 := by
  intro i hi
  unfold firstE at h
  cases hf : (List.range n).find? (fun i => f i != 0) with
  | none =>
    rw [List.find?_eq_none] at hf
    have := hf i (by simpa using hi)
    simpa using this
  | some k =>
    rw [hf] at h
    have := List.find?_some hf
    simp only at h
    simp [h] at this
end Go.Proofs.Ytmnddahkbmlibaa
namespace Go.Proofs.Ytmnddahkbmlibaa
open Go.RowKit Go.Maps
theorem idxZ_congr {p : List Int → Bool} {a b : List (List Int)} (hl : b.length = a.length) (h : ∀ k, k < a.length → p (rec b k) = p (rec a k)) : idxZ p b = idxZ p a := by
  by_cases hn : idxZ p a < 0
  · have h1 := idxZ_neg_iff.1 hn
    have h2 : idxZ p b < 0 := idxZ_neg_iff.2 fun i hi => by rw [h i (by omega)]; exact h1 i (by omega)
    have := (idxZ_bd p a).1
    have := (idxZ_bd p b).1
    omega
  · obtain ⟨hi, hp⟩ := idxZ_at (show 0 ≤ idxZ p a by omega)
    have hb : ¬ idxZ p b < 0 := fun hb => by
      have := idxZ_neg_iff.1 hb _ (by omega : (idxZ p a).toNat < b.length)
      rw [h _ hi, hp] at this
      cases this
    obtain ⟨hj, hq⟩ := idxZ_at (show 0 ≤ idxZ p b by omega)
    have least : ∀ {c : List (List Int)} {k : Nat}, k < c.length → p (rec c k) = true → idxZ p c ≤ k := by
      intro c k hk hpk
      unfold idxZ
      cases hf : c.findIdx? p with
      | none =>
        rw [List.findIdx?_eq_none_iff] at hf
        have := hf c[k] (List.getElem_mem hk)
        rw [rec_at hk] at hpk
        rw [hpk] at this
        cases this
      | some m =>
        rw [List.findIdx?_eq_some_iff_getElem] at hf
        obtain ⟨hm, _, hall⟩ := hf
        simp only
        by_cases hlt : k < m
        · have := hall k hlt
          rw [rec_at hk] at hpk
          simp [hpk] at this
        · omega
    have l1 := least hj (by rw [hq])
    have l2 : idxZ p b ≤ (idxZ p a).toNat := least (by omega) (by rw [h _ hi]; exact hp)
    have l3 : idxZ p a ≤ (idxZ p b).toNat := least (by omega) (by rw [← h _ (by omega)]; exact hq)
    omega
end Go.Proofs.Ytmnddahkbmlibaa
namespace Go.Proofs.Ytmnddahkbmlibaa
open Go.RowKit Go.Maps
theorem mem_ids {es : List (List Int)} {x : Int} : x ∈ idsE es ↔ ∃ k, k < es.length ∧ fld (rec es k) 0 = x := by
  unfold idsE
  rw [List.mem_map]
  constructor
  · rintro ⟨r, hr, rfl⟩
    obtain ⟨i, hi, rfl⟩ := List.mem_iff_getElem.1 hr
    exact ⟨i, hi, by rw [rec_at hi]⟩
  · rintro ⟨k, hk, rfl⟩
    exact ⟨es[k], List.getElem_mem hk, by rw [rec_at hk]⟩
end Go.Proofs.Ytmnddahkbmlibaa
namespace Go.Proofs.Ytmnddahkbmlibaa
open Go.RowKit Go.Maps
end Go.Proofs.Ytmnddahkbmlibaa
namespace Go.Proofs.Ytmnddahkbmlibaa
open Go.RowKit Go.Maps
theorem all_mem {es : List (List Int)} {P : List Int → Prop} : (∀ i, i < es.length → P (rec es i)) ↔ ∀ u ∈ es, P u := by
  constructor
  · intro h u hu
    obtain ⟨i, hi, rfl⟩ := List.mem_iff_getElem.1 hu
    have := h i hi
    rw [rec_at hi] at this
    exact this
  · intro h i hi
    rw [rec_at hi]
    exact h _ (List.getElem_mem hi)
theorem all_pair {es : List (List Int)} {R : List Int → List Int → Prop} : (∀ i j, i < j → j < es.length → R (rec es i) (rec es j)) ↔ es.Pairwise R := by
  rw [List.pairwise_iff_getElem]
  constructor
  · intro h i j hi hj hij
    have := h i j hij hj
    rw [rec_at hi, rec_at hj] at this
    exact this
  · intro h i j hij hj
    rw [rec_at hj, rec_at (show i < es.length by omega)]
    exact h i j (by omega) hj hij
end Go.Proofs.Ytmnddahkbmlibaa
namespace Go.Proofs.Ytmnddahkbmlibaa
open Go.RowKit Go.Maps
theorem count_two {es : List (List Int)} {p : List Int → Bool} {i j : Nat} (hij : i < j) (hj : j < es.length) (hpi : p (es[i]'(by omega)) = true) (hpj : p es[j] = true) : 2 ≤ es.countP p := by
  have e : es = es.take j ++ es.drop j := (List.take_append_drop j es).symm
  rw [e, List.countP_append]
  have h1 : 0 < (es.take j).countP p := by
    rw [List.countP_pos_iff]
    refine ⟨es[i]'(by omega), ?_, hpi⟩
    rw [List.mem_iff_getElem]
    exact ⟨i, by rw [List.length_take]; omega, by simp⟩
  have h2 : 0 < (es.drop j).countP p := by
    rw [List.countP_pos_iff]
    refine ⟨es[j], ?_, hpj⟩
    rw [List.mem_iff_getElem]
    exact ⟨0, by rw [List.length_drop]; omega, by simp⟩
  omega
theorem count_one {es : List (List Int)} {p : List Int → Bool} {u : List Int} (hu : u ∈ es) (hp : p u = true) : 1 ≤ es.countP p := List.countP_pos_iff.2 ⟨u, hu, hp⟩
end Go.Proofs.Ytmnddahkbmlibaa
namespace Go.Proofs.Ytmnddahkbmlibaa
open Go.RowKit Go.Maps
def aliveB (u : List Int) : Bool := decide (0 < fld u 5)
end Go.Proofs.Ytmnddahkbmlibaa
namespace Go.Proofs.Ytmnddahkbmlibaa
open Go.RowKit Go.Maps
end Go.Proofs.Ytmnddahkbmlibaa

/- Package newer: who is who, and who was there, as plain functions. -/
import Derived.Test.YtmnddahkbmlibaaTnNwJ
import Derived.Test.YtmnddahkbmlibaaTnInO
namespace Go.Proofs.Ytmnddahkbmlibaa
open Go.RowKit Go.Maps
theorem whoK_none {es : List (List Int)} {id : Int} : ∀ {k : Nat}, (∀ i, i < k → fld (rec es i) 0 ≠ id) → whoK es k id = none
  | 0, _ => rfl
  | k + 1, h => by
    rw [whoK, if_neg (fun e => h k (by omega) e.symm)]
    exact whoK_none fun i hi => h i (by omega)
theorem whoK_some {es : List (List Int)} (hu : Uniq es) {id : Int} {i : Nat} (hid : fld (rec es i) 0 = id) : ∀ {k : Nat}, k ≤ es.length → i < k → whoK es k id = some (inV i)
  | 0, _, h => absurd h (Nat.not_lt_zero _)
  | k + 1, hk, h => by
    rw [whoK]
    by_cases e : id = fld (rec es k) 0
    · have : i = k := hu i k (by omega) (by omega) (hid.trans e)
      rw [if_pos e, this]
    · rw [if_neg e]
      have hne : i ≠ k := fun x => e (by rw [← hid, x])
      exact whoK_some hu hid (by omega) (by omega)
theorem whoK_congr {a b : List (List Int)} : ∀ {k : Nat}, (∀ i, i < k → fld (rec a i) 0 = fld (rec b i) 0) → whoK a k = whoK b k
  | 0, _ => rfl
  | k + 1, h => by
    funext id
    rw [whoK, whoK, h k (by omega), whoK_congr fun i hi => h i (by omega)]
theorem who_look {es : List (List Int)} (hu : Uniq es) (id : Int) : whoK es es.length id = if 0 ≤ idxZ (isId id) es then some (inV (idxZ (isId id) es).toNat) else none := by
  by_cases h : 0 ≤ idxZ (isId id) es
  · rw [if_pos h]
    obtain ⟨hk, hp⟩ := idxZ_at h
    exact whoK_some hu (eq_of_beq hp) (Nat.le_refl _) hk
  · rw [if_neg h]
    refine whoK_none fun i hi e => ?_
    have := idxZ_neg_iff.1 (show idxZ (isId id) es < 0 by omega) i hi
    unfold isId at this
    rw [e] at this
    simp at this
theorem who_append (es : List (List Int)) (u : List Int) : whoK (es ++ [u]) (es ++ [u]).length = putF (whoK es es.length) (fld u 0) (inV es.length) := by
  have hl : (es ++ [u]).length = es.length + 1 := by simp
  have hr : rec (es ++ [u]) es.length = u := by rw [rec_at (by omega)]; simp
  rw [hl, whoK_succ, hr]
  congr 1
  exact whoK_congr fun i hi => by rw [rec_at (show i < (es ++ [u]).length by omega), rec_at hi, List.getElem_append_left hi]
theorem who_set {es : List (List Int)} {i : Nat} {u : List Int} (h : fld u 0 = fld (rec es i) 0) : whoK (es.set i u) (es.set i u).length = whoK es es.length := by
  rw [List.length_set]
  refine whoK_congr fun k hk => ?_
  rw [rec_set hk]
  split
  next e => rw [h, e]
  · rfl
theorem who_map {es : List (List Int)} {f : List Int → List Int} (h : ∀ u, fld (f u) 0 = fld u 0) : whoK (es.map f) (es.map f).length = whoK es es.length := by
  rw [List.length_map]
  exact whoK_congr fun k hk => by rw [rec_map hk, h]
structure OldN (es : List (List Int)) (o : Nat) (old : List Int) : Prop where
  le : o ≤ es.length
  is : ∀ k, k < es.length → isB old (fld (rec es k) 0) = decide (k < o)
theorem isB_ids {es : List (List Int)} {id : Int} : isB (idsE es) id = true ↔ ∃ k, k < es.length ∧ fld (rec es k) 0 = id := by
  unfold isB
  rw [List.any_eq_true]
  constructor
  · rintro ⟨x, hx, he⟩
    obtain ⟨k, hk, hx'⟩ := mem_ids.1 hx
    exact ⟨k, hk, by rw [hx']; exact eq_of_beq he⟩
  · rintro ⟨k, hk, he⟩
    exact ⟨id, mem_ids.2 ⟨k, hk, he⟩, by simp⟩
theorem oldN_begin (es : List (List Int)) : OldN es es.length (idsE es) :=
  ⟨Nat.le_refl _, fun k hk => by rw [decide_eq_true hk]; exact isB_ids.2 ⟨k, hk, rfl⟩⟩
theorem oldN_congr {a b : List (List Int)} {o : Nat} {old : List Int} (h : OldN a o old) (hl : b.length = a.length) (hf : ∀ k, k < a.length → fld (rec b k) 0 = fld (rec a k) 0) : OldN b o old :=
  ⟨by rw [hl]; exact h.le, fun k hk => by rw [hl] at hk; rw [hf k hk]; exact h.is k hk⟩
theorem oldN_map {a : List (List Int)} {o : Nat} {old : List Int} (h : OldN a o old) {f : List Int → List Int} (hf : ∀ u, fld (f u) 0 = fld u 0) : OldN (a.map f) o old :=
  oldN_congr h (by simp) fun k hk => by rw [rec_map hk, hf]
theorem oldN_set {a : List (List Int)} {o : Nat} {old : List Int} (h : OldN a o old) {i : Nat} {u : List Int} (hf : fld u 0 = fld (rec a i) 0) : OldN (a.set i u) o old :=
  oldN_congr h (by simp) fun k hk => by
    rw [rec_set hk]
    split
    next e => rw [hf, e]
    · rfl
theorem oldN_append {a : List (List Int)} {o : Nat} {old : List Int} (h : OldN a o old) {u : List Int} (hf : isB old (fld u 0) = false) : OldN (a ++ [u]) o old := by
  have hle := h.le
  refine ⟨by simp; omega, fun k hk => ?_⟩
  have hl : (a ++ [u]).length = a.length + 1 := by simp
  by_cases e : k < a.length
  · rw [rec_at hk, List.getElem_append_left e, ← rec_at e]
    exact h.is k e
  · have hke : k = a.length := by omega
    subst hke
    have hr : rec (a ++ [u]) a.length = u := by rw [rec_at (by omega)]; simp
    rw [hr, hf, decide_eq_false (by omega)]
def OldLt (old : List Int) (nx : Int) : Prop := ∀ x, isB old x = true → x < nx
theorem oldLt_begin {s : St} (h : InvN s) : OldLt (idsE s.es) s.nx := fun x hx => by
  obtain ⟨k, hk, rfl⟩ := isB_ids.1 hx
  exact h.lt _ (rec_mem hk)
theorem tell_id (u : List Int) (d x y t : Int) : fld (tellR u d x y t) 0 = fld u 0 := (tellR_fld u d x y t).1 0 (by omega)
theorem oldN_ord {s : St} (h : InvN s) {o : Nat} {old : List Int} (ho : OldN s.es o old) (hl : OldLt old s.nx) (q : List Int) : OldN (ordN s q).es o old ∧ OldLt old (ordN s q).nx := by
  unfold ordN
  split
  · exact ⟨ho, hl⟩
  · split
    · generalize (whoZ (fld q 2) s.es).toNat = i
      unfold doN
      split
      · unfold goesR
        split
        · exact ⟨oldN_set ho (tell_id _ _ _ _ _), hl⟩
        · exact ⟨ho, hl⟩
      · split
        · split
          · unfold aimsR
            split
            · exact ⟨oldN_set ho (tell_id _ _ _ _ _), hl⟩
            · exact ⟨ho, hl⟩
          · exact ⟨ho, hl⟩
        · split
          · rw [buildN s h.fr h.lt]
            split
            · exact ⟨ho, hl⟩
            · split
              · exact ⟨ho, hl⟩
              · split
                · exact ⟨ho, hl⟩
                · rw [payN]
                  refine ⟨oldN_append ho ?_, fun x hx => by have := hl x hx; show x < s.nx + 1; omega⟩
                  show isB old s.nx = false
                  rw [← Bool.not_eq_true]
                  intro hx
                  have := hl _ hx
                  omega
          · split
            · exact ⟨oldN_set ho (tell_id _ _ _ _ _), hl⟩
            · exact ⟨ho, hl⟩
    · exact ⟨ho, hl⟩
theorem oldN_ords : ∀ (l : List (List Int)) {s : St} {o : Nat} {old : List Int}, InvN s → OldN s.es o old → OldLt old s.nx → OldN (ordsN s l).es o old ∧ OldLt old (ordsN s l).nx := by
  intro l
  induction l with
  | nil => exact fun _ ho hl => ⟨ho, hl⟩
  | cons q l ih => exact fun h ho hl => ih (invN_ord h q) (oldN_ord h ho hl q).1 (oldN_ord h ho hl q).2
theorem countP_old {es : List (List Int)} {o : Nat} {old : List Int} (h : OldN es o old) (p : List Int → Bool) : (es.take o).countP p = es.countP (fun u => isB old (fld u 0) && p u) := by
  have e : es.countP (fun u => isB old (fld u 0) && p u) = (es.take o).countP (fun u => isB old (fld u 0) && p u) + (es.drop o).countP (fun u => isB old (fld u 0) && p u) := by
    rw [← List.countP_append, List.take_append_drop]
  have h2 : (es.drop o).countP (fun u => isB old (fld u 0) && p u) = 0 := by
    rw [List.countP_eq_zero]
    intro x hx
    obtain ⟨j, hj, rfl⟩ := List.mem_iff_getElem.1 hx
    rw [List.length_drop] at hj
    have := h.is (o + j) (by omega)
    rw [decide_eq_false (by omega), rec_at (by omega)] at this
    rw [List.getElem_drop, this]
    simp
  have h1 : (es.take o).countP (fun u => isB old (fld u 0) && p u) = (es.take o).countP p := by
    refine List.countP_congr fun x hx => ?_
    obtain ⟨j, hj, rfl⟩ := List.mem_iff_getElem.1 hx
    have hle := h.le
    rw [List.length_take] at hj
    have := h.is j (by omega)
    rw [decide_eq_true (by omega), rec_at (by omega)] at this
    rw [List.getElem_take, this]
    simp
  rw [e, h1, h2]
  rfl
theorem mapK_old {es : List (List Int)} {o : Nat} {old : List Int} (h : OldN es o old) {f g : List Int → List Int} (hfg : ∀ u, g u = if isB old (fld u 0) = true then f u else u) : mapK f es o = es.map g := by
  have hle := h.le
  refine ext_rec (by rw [mapK_length _ _ hle, List.length_map]) fun j hj => ?_
  rw [mapK_length _ _ hle] at hj
  rw [mapK_rec _ _ hle hj, rec_map hj, hfg, h.is j hj]
  by_cases e : j < o
  · rw [if_pos e, decide_eq_true e, if_pos rfl]
  · rw [if_neg e, decide_eq_false e, if_neg (by decide)]
theorem arrive_old {es : List (List Int)} {o : Nat} {old : List Int} (h : OldN es o old) : mapK arriveP es o = arriveR old es := by
  unfold arriveR
  refine mapK_old h fun u => ?_
  unfold arriveF arriveP
  cases isB old (fld u 0) with
  | false => simp
  | true => simp [and_assoc]
end Go.Proofs.Ytmnddahkbmlibaa

/- The first k of a list turned by a function; what the maps of a move hold behind k of them. -/
import Derived.Test.YtakmjfchhchngaaInvZ
import Derived.Test.YtakmjfchhchngaaPm
namespace Go.Proofs.Ytakmjfchhchngaa
open Go.RowKit Go.Maps

def mapK (f : List Int → List Int) (A : List (List Int)) (k : Nat) : List (List Int) := (A.take k).map f ++ A.drop k
theorem mapK_zero (f : List Int → List Int) (A : List (List Int)) : mapK f A 0 = A := by unfold mapK; simp
theorem mapK_all (f : List Int → List Int) (A : List (List Int)) {k : Nat} (hk : A.length ≤ k) : mapK f A k = A.map f := by
  unfold mapK
  rw [List.take_of_length_le hk, List.drop_of_length_le hk, List.append_nil]
theorem mapK_length (f : List Int → List Int) (A : List (List Int)) {k : Nat} (hk : k ≤ A.length) : (mapK f A k).length = A.length := by
  unfold mapK
  rw [List.length_append, List.length_map, List.length_take, List.length_drop]
  omega
theorem mapK_rec (f : List Int → List Int) (A : List (List Int)) {k : Nat} (hk : k ≤ A.length) {j : Nat} (hj : j < A.length) : rec (mapK f A k) j = if j < k then f (rec A j) else rec A j := by
  have hl : ((A.take k).map f).length = k := by rw [List.length_map, List.length_take]; omega
  rw [rec_at (by rw [mapK_length f A hk]; exact hj), rec_at hj]
  unfold mapK
  by_cases h : j < k
  · rw [if_pos h, List.getElem_append_left (by omega), List.getElem_map, List.getElem_take]
  · rw [if_neg h, List.getElem_append_right (by omega), List.getElem_drop]
    congr 1
    omega
theorem mapK_next (f : List Int → List Int) (A : List (List Int)) {k : Nat} (hk : k < A.length) : mapK f A (k + 1) = (mapK f A k).set k (f (rec A k)) := by
  have hl : ((A.take k).map f).length = k := by rw [List.length_map, List.length_take]; omega
  have e1 : A.take (k + 1) = A.take k ++ [A[k]] := by rw [List.take_add_one, List.getElem?_eq_getElem hk]; rfl
  have e2 : A.drop k = A[k] :: A.drop (k + 1) := (List.getElem_cons_drop hk).symm
  unfold mapK
  rw [e1, e2, List.map_append, List.append_assoc, List.set_append, if_neg (by omega), hl, Nat.sub_self, rec_at hk]
  rfl
theorem mapK_same (f : List Int → List Int) (A : List (List Int)) {k : Nat} (hk : k < A.length) (h : f (rec A k) = rec A k) : mapK f A (k + 1) = mapK f A k := by
  rw [mapK_next f A hk, h]
  have hr : rec (mapK f A k) k = rec A k := by rw [mapK_rec f A (by omega) hk, if_neg (by omega)]
  rw [← hr, rec_at (by rw [mapK_length f A (by omega)]; exact hk)]
  exact List.set_getElem_self _

theorem take_rec {A : List (List Int)} {k : Nat} (hk : k < A.length) : A.take (k + 1) = A.take k ++ [rec A k] := by
  rw [rec_at hk, List.take_add_one, List.getElem?_eq_getElem hk]
  rfl

/- How often a place is claimed by the first k. -/
def claimK (es : List (List Int)) (was : Int → Int) (k : Nat) (q : Int × Int) : Nat := (es.take k).countP (isAt q.1 q.2) + (es.take k).countP (fun u => decide (wishE es was u = some q))
def ClaimL (es : List (List Int)) (was : Int → Int) (k : Nat) (l : List ((Int × Int) × Value)) : Prop := ∀ q, (getL q l).getD (.int .i64 0) = .int .i64 (claimK es was k q)
/- .. and when the next one's own place has been counted. -/
def ClaimM (es : List (List Int)) (was : Int → Int) (k : Nat) (y : List Int) (l : List ((Int × Int) × Value)) : Prop := ∀ q, (getL q l).getD (.int .i64 0) = .int .i64 ((claimK es was k q + if isAt q.1 q.2 y = true then 1 else 0 : Nat) : Int)
def WishL (es : List (List Int)) (was : Int → Int) (k : Nat) (l : List (Int × Value)) : Prop :=
  (∀ i, i < k → getL (fld (rec es i) 0) l = (wishE es was (rec es i)).map plV) ∧ ∀ id, (∀ i, i < k → fld (rec es i) 0 ≠ id) → getL id l = none
/- No two have one number. -/
def Uniq (es : List (List Int)) : Prop := ∀ i j, i < es.length → j < es.length → fld (rec es i) 0 = fld (rec es j) 0 → i = j

theorem claimK_zero (es : List (List Int)) (was : Int → Int) : ClaimL es was 0 [] := fun q => by simp [getL_nil, claimK]
theorem wishL_zero (es : List (List Int)) (was : Int → Int) : WishL es was 0 [] := ⟨fun _ h => absurd h (Nat.not_lt_zero _), fun _ _ => rfl⟩
theorem claimK_le (es : List (List Int)) (was : Int → Int) (k : Nat) (q : Int × Int) : claimK es was k q ≤ 2 * k := by
  unfold claimK
  have h1 := List.countP_le_length (p := isAt q.1 q.2) (l := es.take k)
  have h2 := List.countP_le_length (p := fun u => decide (wishE es was u = some q)) (l := es.take k)
  rw [List.length_take] at h1 h2
  omega
theorem claimK_next {es : List (List Int)} {was : Int → Int} {k : Nat} (hk : k < es.length) (q : Int × Int) :
    claimK es was (k + 1) q = claimK es was k q + (if isAt q.1 q.2 (rec es k) = true then 1 else 0) + (if wishE es was (rec es k) = some q then 1 else 0) := by
  unfold claimK
  rw [take_rec hk, List.countP_append, List.countP_append]
  have e1 : List.countP (isAt q.1 q.2) [rec es k] = if isAt q.1 q.2 (rec es k) = true then 1 else 0 := by simp [List.countP_cons]
  have e2 : List.countP (fun u => decide (wishE es was u = some q)) [rec es k] = if wishE es was (rec es k) = some q then 1 else 0 := by simp [List.countP_cons]
  rw [e1, e2]
  omega
theorem claim_at {es : List (List Int)} {was : Int → Int} {k : Nat} {l : List ((Int × Int) × Value)} (h : ClaimL es was k l) : ClaimM es was k (rec es k) (putL (fld (rec es k) 3, fld (rec es k) 4) (.int .i64 ((claimK es was k (fld (rec es k) 3, fld (rec es k) 4) : Nat) + 1)) l) := fun q => by
  rw [getL_put]
  by_cases e : q = (fld (rec es k) 3, fld (rec es k) 4)
  · subst e
    have : isAt (fld (rec es k) 3) (fld (rec es k) 4) (rec es k) = true := by unfold isAt; simp
    rw [if_pos rfl, if_pos this]
    simp
  · have : ¬ isAt q.1 q.2 (rec es k) = true := by
      unfold isAt
      intro h
      simp only [Bool.and_eq_true, beq_iff_eq] at h
      exact e (by rw [h.1, h.2])
    rw [if_neg e, if_neg this, h q]
    rfl
theorem claim_none {es : List (List Int)} {was : Int → Int} {k : Nat} (hk : k < es.length) {l : List ((Int × Int) × Value)} (h : ClaimM es was k (rec es k) l) (hw : wishE es was (rec es k) = none) : ClaimL es was (k + 1) l := fun q => by
  rw [h q, claimK_next hk, hw]
  simp
theorem claim_some {es : List (List Int)} {was : Int → Int} {k : Nat} (hk : k < es.length) {l : List ((Int × Int) × Value)} (h : ClaimM es was k (rec es k) l) {q : Int × Int} (hw : wishE es was (rec es k) = some q) :
    ClaimL es was (k + 1) (putL q (.int .i64 (((claimK es was k q + if isAt q.1 q.2 (rec es k) = true then 1 else 0 : Nat) : Int) + 1)) l) := fun r => by
  rw [getL_put, claimK_next hk, hw]
  by_cases e : r = q
  · subst e
    rw [if_pos rfl, if_pos rfl]
    simp
  · have e2 : ¬ (some q = some r) := fun x => e (Option.some.inj x).symm
    rw [if_neg e, h r, if_neg e2]
    rfl
theorem wish_none {es : List (List Int)} {was : Int → Int} {k : Nat} (hk : k < es.length) (hu : Uniq es) {l : List (Int × Value)} (h : WishL es was k l) (hw : wishE es was (rec es k) = none) : WishL es was (k + 1) l := by
  refine ⟨fun i hi => ?_, fun id hid => h.2 id fun i hi => hid i (by omega)⟩
  by_cases e : i = k
  · subst e
    rw [hw]
    exact h.2 _ fun j hj x => by have := hu j i (by omega) hk x; omega
  · exact h.1 i (by omega)
theorem wish_some {es : List (List Int)} {was : Int → Int} {k : Nat} (hk : k < es.length) (hu : Uniq es) {l : List (Int × Value)} (h : WishL es was k l) {q : Int × Int} (hw : wishE es was (rec es k) = some q) : WishL es was (k + 1) (putL (fld (rec es k) 0) (plV q) l) := by
  refine ⟨fun i hi => ?_, fun id hid => ?_⟩
  · rw [getL_put]
    by_cases e : i = k
    · subst e
      rw [if_pos rfl, hw]
      rfl
    · rw [if_neg (fun x => e (hu i k (by omega) hk x))]
      exact h.1 i (by omega)
  · rw [getL_put, if_neg (fun x => hid k (by omega) x.symm)]
    exact h.2 id fun i hi => hid i (by omega)
theorem claimK_all (es : List (List Int)) (was : Int → Int) (q : Int × Int) : claimK es was es.length q = claimsE es was q.1 q.2 := by
  unfold claimK claimsE
  rw [List.take_length]
end Go.Proofs.Ytakmjfchhchngaa

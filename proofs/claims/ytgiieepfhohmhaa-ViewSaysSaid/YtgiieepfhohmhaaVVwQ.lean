/- Views, plain: the list that is sorted is the list that is built cell by cell. -/
import Derived.Test.YtgiieepfhohmhaaVVwV
namespace Go.Proofs.Ytgiieepfhohmhaa
theorem perm_flat {α β : Type} {f g : α → List β} : ∀ (l : List α), (∀ a ∈ l, (f a).Perm (g a)) → (l.flatMap f).Perm (l.flatMap g)
  | [], _ => List.Perm.refl _
  | a :: l, h => by
    rw [List.flatMap_cons, List.flatMap_cons]
    exact (h a (List.mem_cons_self)).append (perm_flat l fun b hb => h b (List.mem_cons_of_mem _ hb))
theorem pair_mem {α : Type} {R : α → α → Prop} {l : List α} (h : ∀ a ∈ l, ∀ b ∈ l, R a b) : l.Pairwise R :=
  List.pairwise_iff_getElem.2 fun _ _ hi hj _ => h _ (List.getElem_mem hi) _ (List.getElem_mem hj)
theorem split_keys {α : Type} (key : α → Int) (l : List α) : ∀ n : Nat, ((List.range n).flatMap (fun i : Nat => l.filter (fun u => decide (key u = (i : Int))))).Perm (l.filter (fun u => decide (0 ≤ key u ∧ key u < (n : Int))))
  | 0 => by
    have e : l.filter (fun u => decide (0 ≤ key u ∧ key u < ((0 : Nat) : Int))) = [] := by
      rw [List.filter_eq_nil_iff]
      intro u _ h
      have := of_decide_eq_true h
      omega
    rw [e]
    exact List.Perm.refl _
  | n + 1 => by
    have h1 := split_keys key l n
    have e : List.range (n + 1) = List.range n ++ [n] := List.range_succ
    rw [e, List.flatMap_append]
    simp only [List.flatMap_cons, List.flatMap_nil, List.append_nil]
    refine (h1.append_right _).trans ?_
    have h2 := List.filter_append_perm (fun u => decide (key u < (n : Int))) (l.filter (fun u => decide (0 ≤ key u ∧ key u < ((n + 1 : Nat) : Int))))
    rw [List.filter_filter, List.filter_filter] at h2
    have e1 : l.filter (fun u => decide (key u < (n : Int)) && decide (0 ≤ key u ∧ key u < ((n + 1 : Nat) : Int))) = l.filter (fun u => decide (0 ≤ key u ∧ key u < (n : Int))) := by
      apply List.filter_congr
      intro u _
      rw [← Bool.decide_and, decide_eq_decide]
      omega
    have e2 : l.filter (fun u => (!decide (key u < (n : Int))) && decide (0 ≤ key u ∧ key u < ((n + 1 : Nat) : Int))) = l.filter (fun u => decide (key u = (n : Int))) := by
      apply List.filter_congr
      intro u _
      rw [← decide_not, ← Bool.decide_and, decide_eq_decide]
      omega
    rw [e1, e2] at h2
    exact h2
theorem split_all {α : Type} (key : α → Int) (l : List α) (n : Nat) (h : ∀ u ∈ l, 0 ≤ key u ∧ key u < (n : Int)) : ((List.range n).flatMap (fun i : Nat => l.filter (fun u => decide (key u = (i : Int))))).Perm l := by
  have h1 := split_keys key l n
  rw [List.filter_eq_self.2 (fun u hu => by simpa using h u hu)] at h1
  exact h1
theorem viewL_map (es : List (List Int)) : viewL es = ((List.range 12).flatMap (fun y : Nat => (List.range 12).flatMap (fun x : Nat => es.filter (atB (x : Int) (y : Int))))).map (sawR es) := by
  unfold viewL
  rw [List.map_flatMap]
  congr 1
  funext y
  unfold rowL
  rw [List.map_flatMap]
  rfl
def OnB (es : List (List Int)) : Prop := ∀ u ∈ es, (0 ≤ fld u 3 ∧ fld u 3 < 12) ∧ 0 ≤ fld u 4 ∧ fld u 4 < 12
def Apart2 (es : List (List Int)) : Prop := es.Pairwise (fun a b => ¬ (fld a 3 = fld b 3 ∧ fld a 4 = fld b 4))
theorem viewL_perm {es : List (List Int)} (h : OnB es) : (viewL es).Perm (es.map (sawR es)) := by
  rw [viewL_map]
  refine List.Perm.map _ ?_
  refine List.Perm.trans ?_ (split_all (fun u => fld u 4) es 12 (fun u hu => (h u hu).2))
  refine perm_flat _ fun y _ => ?_
  have e : ∀ x : Nat, es.filter (atB (x : Int) (y : Int)) = (es.filter (fun u => decide (fld u 4 = (y : Int)))).filter (fun u => decide (fld u 3 = (x : Int))) := fun x => by
    rw [List.filter_filter]
    apply List.filter_congr
    intro u _
    unfold atB
    rw [Bool.decide_and]
  simp only [e]
  exact split_all (fun u => fld u 3) _ 12 (fun u hu => (h u ((List.mem_filter.1 hu).1)).1)
def leV (a b : List Int) : Prop := fld a 1 < fld b 1 ∨ (fld a 1 = fld b 1 ∧ fld a 0 ≤ fld b 0)
theorem apart_same {es : List (List Int)} (h : Apart2 es) {u v : List Int} (hu : u ∈ es) (hv : v ∈ es) (h3 : fld u 3 = fld v 3) (h4 : fld u 4 = fld v 4) : u = v := by
  obtain ⟨i, hi, rfl⟩ := List.mem_iff_getElem.1 hu
  obtain ⟨j, hj, rfl⟩ := List.mem_iff_getElem.1 hv
  have hp := List.pairwise_iff_getElem.1 h
  rcases Nat.lt_trichotomy i j with hij | hij | hij
  · exact absurd ⟨h3, h4⟩ (hp i j hi hj hij)
  · subst hij; rfl
  · exact absurd ⟨h3.symm, h4.symm⟩ (hp j i hj hi hij)
theorem saw_at {es : List (List Int)} {y x : Nat} {s : List Int} (h : s ∈ cellL es y x) : fld s 0 = (x : Int) ∧ fld s 1 = (y : Int) := by
  unfold cellL at h
  obtain ⟨u, hu, rfl⟩ := List.mem_map.1 h
  have h2 := (List.mem_filter.1 hu).2
  unfold atB at h2
  have h3 := of_decide_eq_true h2
  exact ⟨h3.1, h3.2⟩
theorem row_at {es : List (List Int)} {y : Nat} {s : List Int} (h : s ∈ rowL es y) : fld s 1 = (y : Int) := by
  unfold rowL at h
  obtain ⟨x, _, hx⟩ := List.mem_flatMap.1 h
  exact (saw_at hx).2
theorem viewL_sorted {es : List (List Int)} : (viewL es).Pairwise leV := by
  unfold viewL
  rw [List.pairwise_flatMap]
  refine ⟨fun y _ => ?_, ?_⟩
  · unfold rowL
    rw [List.pairwise_flatMap]
    refine ⟨fun x _ => ?_, ?_⟩
    · refine pair_mem ?_
      intro a ha b hb
      obtain ⟨a0, a1⟩ := saw_at ha
      obtain ⟨b0, b1⟩ := saw_at hb
      exact Or.inr ⟨by rw [a1, b1], by rw [a0, b0]; exact Int.le_refl _⟩
    · refine (List.pairwise_lt_range (n := 12)).imp ?_
      intro x1 x2 hlt a ha b hb
      obtain ⟨a0, a1⟩ := saw_at ha
      obtain ⟨b0, b1⟩ := saw_at hb
      exact Or.inr ⟨by rw [a1, b1], by rw [a0, b0]; omega⟩
  · refine (List.pairwise_lt_range (n := 12)).imp ?_
    intro y1 y2 hlt a ha b hb
    exact Or.inl (by rw [row_at ha, row_at hb]; omega)
theorem sorted_view {es d : List (List Int)} (hO : OnB es) (hA : Apart2 es) (hp : d.Perm (es.map (sawR es))) (hs : d.Pairwise leV) : d = viewL es := by
  refine List.Perm.eq_of_pairwise (le := leV) ?_ hs viewL_sorted (hp.trans (viewL_perm hO).symm)
  intro a b ha hb h1 h2
  obtain ⟨u, hu, rfl⟩ := List.mem_map.1 (hp.mem_iff.1 ha)
  obtain ⟨v, hv, rfl⟩ := List.mem_map.1 ((viewL_perm hO).mem_iff.1 hb)
  have e0 : fld (sawR es u) 0 = fld u 3 := rfl
  have e1 : fld (sawR es u) 1 = fld u 4 := rfl
  have f0 : fld (sawR es v) 0 = fld v 3 := rfl
  have f1 : fld (sawR es v) 1 = fld v 4 := rfl
  unfold leV at h1 h2
  rw [e0, e1, f0, f1] at h1 h2
  have huv : u = v := apart_same hA hu hv (by omega) (by omega)
  rw [huv]
theorem fold_spot {z : Int} {q : Int × Int} : ∀ (es : List (List Int)) (p : Int × Int), (∀ e ∈ es, z = fld e 0 → (fld e 3, fld e 4) = q) → ((∃ e ∈ es, z = fld e 0) ∨ p = q) → es.foldl (fun p e => if z = fld e 0 then (fld e 3, fld e 4) else p) p = q
  | [], _, _, h => by
    rcases h with ⟨e, he, _⟩ | h
    · cases he
    · exact h
  | e :: es, p, h1, h2 => by
    rw [List.foldl_cons]
    refine fold_spot es _ (fun a ha => h1 a (List.mem_cons_of_mem _ ha)) ?_
    by_cases hz : z = fld e 0
    · rw [if_pos hz]
      exact Or.inr (h1 e (List.mem_cons_self) hz)
    · rw [if_neg hz]
      rcases h2 with ⟨a, ha, hza⟩ | h2
      · rcases List.mem_cons.1 ha with rfl | ha
        · exact absurd hza hz
        · exact Or.inl ⟨a, ha, hza⟩
      · exact Or.inr h2
theorem spot_tgt {es : List (List Int)} {u : List Int} (hid : ∀ a ∈ es, ∀ b ∈ es, fld a 0 = fld b 0 → a = b) (hpos : ∀ a ∈ es, 0 < fld a 0) (ht : fld u 9 = 0 ∨ (0 < fld u 9 ∧ ∃ v ∈ es, fld v 0 = fld u 9)) : spotZ es (fld u 9) = tgtZ es u := by
  rcases ht with h0 | ⟨h9, v, hv, hvz⟩
  · have eT : tgtZ es u = (-1, -1) := by
      unfold tgtZ
      exact if_neg (fun h => by omega)
    rw [eT]
    unfold spotZ
    refine fold_spot es _ (fun e he hz => ?_) (Or.inr (if_pos h0))
    have := hpos e he
    omega
  · have hw : 0 ≤ whoZ (fld u 9) es := by
      unfold whoZ
      cases hf : es.findIdx? (fun r => fld r 0 == fld u 9) with
      | none =>
        have := List.findIdx?_eq_none_iff.1 hf v hv
        simp [hvz] at this
      | some i => exact Int.natCast_nonneg i
    have hat := idxZ_at (p := fun r => fld r 0 == fld u 9) hw
    have hl' : (whoZ (fld u 9) es).toNat < es.length := hat.1
    have hp0 : (fld (rec es (whoZ (fld u 9) es).toNat) 0 == fld u 9) = true := hat.2
    have hp' : fld (rec es (whoZ (fld u 9) es).toNat) 0 = fld u 9 := by simpa using hp0
    have eT : tgtZ es u = (fld (rec es (whoZ (fld u 9) es).toNat) 3, fld (rec es (whoZ (fld u 9) es).toNat) 4) := by
      unfold tgtZ
      exact if_pos ⟨h9, hw⟩
    rw [eT]
    unfold spotZ
    refine fold_spot es _ (fun e he hz => ?_) (Or.inl ⟨v, hv, hvz.symm⟩)
    rw [hid e he _ (rec_mem hl') (by rw [hp', hz])]
end Go.Proofs.Ytgiieepfhohmhaa

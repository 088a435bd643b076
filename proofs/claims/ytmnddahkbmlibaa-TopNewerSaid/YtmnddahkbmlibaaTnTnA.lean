/- The newer game: who is there behind a tick; IDs, gold and ore. Plain. -/
import Derived.Test.YtmnddahkbmlibaaTnEqO
import Derived.Test.YtmnddahkbmlibaaTnWhN
namespace Go.Proofs.Ytmnddahkbmlibaa
open Go.RowKit Go.Maps
structure GrewN (s0 s : St) (n : Nat) : Prop where
  t : s.t = s0.t
  lo : s0.nx ≤ s.nx
  hi : s.nx ≤ s0.nx + n
  gold : s.g0 + s.g1 ≤ s0.g0 + s0.g1
  each : ∀ u ∈ s.es, (∃ o ∈ s0.es, ∀ j, (j < 6 ∨ j = 10) → fld u j = fld o j) ∨ (s0.nx ≤ fld u 0 ∧ fld u 10 = s0.t)
  mine : (∀ u ∈ s0.es, fld u 2 ≠ 4) → ∀ u ∈ s.es, fld u 2 ≠ 4
theorem grewN_refl (s : St) : GrewN s s 0 := ⟨rfl, Int.le_refl _, by omega, Int.le_refl _, fun u hu => Or.inl ⟨u, hu, fun _ _ => rfl⟩, fun h => h⟩
theorem grewN_more {s0 s : St} {n : Nat} (h : GrewN s0 s n) : GrewN s0 s (n + 1) := ⟨h.t, h.lo, by have := h.hi; omega, h.gold, h.each, h.mine⟩
theorem grewN_set {s0 s : St} {n : Nat} (h : GrewN s0 s n) {i : Nat} (hi : i < s.es.length) (d x y t : Int) : GrewN s0 { s with es := s.es.set i (tellR (rec s.es i) d x y t) } (n + 1) := by
  have hf := (tellR_fld (rec s.es i) d x y t).1
  have hm := rec_mem hi
  refine ⟨h.t, h.lo, by have := h.hi; show s.nx ≤ _; omega, h.gold, fun v hv => ?_, fun h0 v hv => ?_⟩
  · rcases List.mem_or_eq_of_mem_set hv with hv | rfl
    · exact h.each v hv
    · rcases h.each _ hm with ⟨o, ho, he⟩ | ⟨h1, h2⟩
      · exact Or.inl ⟨o, ho, fun j hj => (hf j hj).trans (he j hj)⟩
      · exact Or.inr ⟨by rw [hf 0 (by omega)]; exact h1, by rw [hf 10 (by omega)]; exact h2⟩
  · rcases List.mem_or_eq_of_mem_set hv with hv | rfl
    · exact h.mine h0 v hv
    · rw [hf 2 (by omega)]
      exact h.mine h0 _ hm
theorem grewN_ord {s0 s : St} (hI : InvN s) {n : Nat} (h : GrewN s0 s n) (q : List Int) : GrewN s0 (ordN s q) (n + 1) := by
  unfold ordN
  split
  · exact grewN_more h
  next hz =>
    have hz' : 0 ≤ idxZ (isId (fld q 2)) s.es := by
      have : ¬ idxZ (isId (fld q 2)) s.es < 0 := hz
      omega
    have hi : (whoZ (fld q 2) s.es).toNat < s.es.length := (idxZ_at hz').1
    split
    · generalize (whoZ (fld q 2) s.es).toNat = i at hi
      unfold doN
      split
      · unfold goesR
        split
        · exact grewN_set h hi _ _ _ _
        · exact grewN_more h
      · split
        · split
          · unfold aimsR
            split
            · exact grewN_set h hi _ _ _ _
            · exact grewN_more h
          · exact grewN_more h
        · split
          · rw [buildN s hI.fr hI.lt]
            split
            · exact grewN_more h
            next hso =>
              split
              · exact grewN_more h
              · split
                · exact grewN_more h
                · have hk4 : fld q 3 ≠ 4 := by
                    intro e
                    apply hso
                    unfold soonR
                    rw [e]
                    simp
                  have hc := costN_bd (fld q 3)
                  have hlo := h.lo
                  have hhi := h.hi
                  have hgo := h.gold
                  rw [payN]
                  refine ⟨h.t, by show s0.nx ≤ s.nx + 1; omega, by show s.nx + 1 ≤ s0.nx + ((n + 1 : Nat) : Int); omega, ?_, fun v hv => ?_, fun h0 v hv => ?_⟩
                  · show (if fld (rec s.es i) 1 = 0 then s.g0 - Pl.nCost (fld q 3) else s.g0) + (if fld (rec s.es i) 1 = 0 then s.g1 else s.g1 - Pl.nCost (fld q 3)) ≤ _
                    split <;> omega
                  · rcases List.mem_append.1 hv with hv | hv
                    · exact h.each v hv
                    · rw [List.mem_singleton.1 hv]
                      exact Or.inr ⟨h.lo, h.t⟩
                  · rcases List.mem_append.1 hv with hv | hv
                    · exact h.mine h0 v hv
                    · rw [List.mem_singleton.1 hv]
                      exact hk4
          · split
            · exact grewN_set h hi _ _ _ _
            · exact grewN_more h
    · exact grewN_more h
theorem grewN_ords {s0 : St} : ∀ (l : List (List Int)) {s : St} {n : Nat}, InvN s → GrewN s0 s n → GrewN s0 (ordsN s l) (n + l.length) := by
  intro l
  induction l with
  | nil => exact fun _ h => h
  | cons q l ih =>
    intro s n hI h
    have := ih (invN_ord hI q) (grewN_ord hI h q)
    have e : n + (q :: l).length = n + 1 + l.length := by simp; omega
    rw [e]
    exact this
theorem moveO_far (es : List (List Int)) (old u : List Int) : Pl.farZ (fld u 3) (fld u 4) (fld (moveO es old u) 3) (fld (moveO es old u) 4) ≤ 1 := by
  rcases moveO_cases es old u with ⟨x, y, hw, _, e⟩ | e
  · rw [e, (movedO_fld u x y).2.1, (movedO_fld u x y).2.2]
    obtain ⟨_, _, rfl, rfl⟩ := wishN_some (wishO_some hw).2
    have h1 := near_one (fld u 3) (headXN (tgtR es u) u)
    have h2 := near_one (fld u 4) (headYN (tgtR es u) u)
    unfold Pl.farZ
    split <;> assumption
  · rw [e]; exact far_self _ _
theorem endO_each (s : St) (old : List Int) : ∀ e ∈ (endO s old).es, ∃ u ∈ s.es, fld e 0 = fld u 0 ∧ fld e 1 = fld u 1 ∧ fld e 2 = fld u 2 ∧ fld e 10 = fld u 10 ∧ Pl.farZ (fld u 3) (fld u 4) (fld e 3) (fld e 4) ≤ 1 := by
  intro e he
  have he' : e ∈ ((((s.es.map (moveO s.es old)).map (arriveF old)).map (hurtO (arriveSO (moveSO s old) old).es old)).filter aliveB).map (idleF _) := he
  obtain ⟨a, ha, rfl⟩ := List.mem_map.1 he'
  have ha := (List.mem_filter.1 ha).1
  obtain ⟨b, hb, rfl⟩ := List.mem_map.1 ha
  obtain ⟨c, hc, rfl⟩ := List.mem_map.1 hb
  obtain ⟨u, hu, rfl⟩ := List.mem_map.1 hc
  have i5 : ∀ A (x : List Int), ∀ j, (j < 6 ∨ j = 10) → fld (idleF A x) j = fld x j := fun A x j hj => idleF_fld A x hj
  have a5 : ∀ (x : List Int), ∀ j, (j < 6 ∨ j = 10) → fld (arriveF old x) j = fld x j := fun x j hj => arriveF_fld old x hj
  have h5 : ∀ (x : List Int), ∀ j, j < 11 → j ≠ 5 → fld (hurtO (arriveSO (moveSO s old) old).es old x) j = fld x j := fun x j hj hj5 => hurtO_fld _ _ _ hj hj5
  have m := fun {j : Nat} (hj : j < 11) (h3 : j ≠ 3) (h4 : j ≠ 4) => moveO_fld s.es old u hj h3 h4
  refine ⟨u, hu, ?_, ?_, ?_, ?_, ?_⟩
  · rw [i5 _ _ 0 (by omega), h5 _ 0 (by omega) (by omega), a5 _ 0 (by omega), m (by omega) (by omega) (by omega)]
  · rw [i5 _ _ 1 (by omega), h5 _ 1 (by omega) (by omega), a5 _ 1 (by omega), m (by omega) (by omega) (by omega)]
  · rw [i5 _ _ 2 (by omega), h5 _ 2 (by omega) (by omega), a5 _ 2 (by omega), m (by omega) (by omega) (by omega)]
  · rw [i5 _ _ 10 (by omega), h5 _ 10 (by omega) (by omega), a5 _ 10 (by omega), m (by omega) (by omega) (by omega)]
  · rw [i5 _ _ 3 (by omega), i5 _ _ 4 (by omega), h5 _ 3 (by omega) (by omega), h5 _ 4 (by omega) (by omega), a5 _ 3 (by omega), a5 _ 4 (by omega)]
    exact moveO_far s.es old u
theorem earnO_none {es : List (List Int)} {old : List Int} {o : Int} : ∀ (l : List (List Int)) (g : Int), (∀ u ∈ l, ¬ (strikeO es old u = true ∧ fld u 6 ≠ 2)) → earnO es old o l g = g := by
  intro l
  induction l with
  | nil => exact fun g _ => rfl
  | cons u l ih =>
    intro g h
    unfold earnO
    rw [List.foldl_cons, if_neg (fun hx => h u (List.mem_cons_self) ⟨hx.1, hx.2.1⟩)]
    exact ih g fun v hv => h v (List.mem_cons_of_mem _ hv)
theorem endO_gold {s : St} (h : InvN s) (old : List Int) (hm : ∀ u ∈ s.es, fld u 2 ≠ 4) : (endO s old).g0 = s.g0 ∧ (endO s old).g1 = s.g1 := by
  have h2 := invN_arrive (invN_move h old) old
  have hm2 : ∀ u ∈ (arriveSO (moveSO s old) old).es, fld u 2 ≠ 4 := by
    intro u hu
    have hu' : u ∈ (s.es.map (moveO s.es old)).map (arriveF old) := hu
    obtain ⟨a, ha, rfl⟩ := List.mem_map.1 hu'
    obtain ⟨b, hb, rfl⟩ := List.mem_map.1 ha
    rw [arriveF_fld old _ (by omega), moveO_fld _ _ _ (by omega) (by omega) (by omega)]
    exact hm b hb
  have hno : ∀ u ∈ (arriveSO (moveSO s old) old).es, ¬ (strikeO (arriveSO (moveSO s old) old).es old u = true ∧ fld u 6 ≠ 2) := by
    rintro u hu ⟨hs, h6⟩
    unfold strikeO at hs
    simp only [Bool.and_eq_true, decide_eq_true_eq] at hs
    have hd := aimsN h2 hu hs.2.1
    obtain ⟨_, htm, _, hmay⟩ := invN_target h2 hu hd
    have e3 : fld u 6 = 3 := by omega
    unfold mayN mineN at hmay
    rw [if_pos e3, Bool.and_eq_true, beq_iff_eq] at hmay
    exact hm2 _ htm hmay.1
  exact ⟨earnO_none _ _ hno, earnO_none _ _ hno⟩
def stepN (s : St) (l : List (List Int)) : St := endO (ordsN s l) (idsE s.es)
theorem invN_step {s : St} (h : InvN s) (ht : s.t < 60) (l : List (List Int)) : InvN (stepN s l) := by
  have hg := grewN_ords (s0 := s) l h (grewN_refl s)
  exact invN_end (invN_ords l h) (by rw [hg.t]; exact ht) _
theorem stepN_t {s : St} (h : InvN s) (l : List (List Int)) : (stepN s l).t = s.t + 1 := by
  have hg := grewN_ords (s0 := s) l h (grewN_refl s)
  show (ordsN s l).t + 1 = _
  rw [hg.t]
theorem stepN_nx {s : St} (h : InvN s) (l : List (List Int)) : s.nx ≤ (stepN s l).nx ∧ (stepN s l).nx ≤ s.nx + l.length := by
  have hg := grewN_ords (s0 := s) l h (grewN_refl s)
  have e : (stepN s l).nx = (ordsN s l).nx := rfl
  rw [e]
  have := hg.lo
  have := hg.hi
  omega
theorem stepN_each {s : St} (h : InvN s) (l : List (List Int)) : ∀ e ∈ (stepN s l).es, (∃ o ∈ s.es, fld o 0 = fld e 0 ∧ fld o 2 = fld e 2 ∧ fld o 1 = fld e 1 ∧ fld o 10 = fld e 10 ∧ Pl.farZ (fld o 3) (fld o 4) (fld e 3) (fld e 4) ≤ 1) ∨ (s.nx ≤ fld e 0 ∧ fld e 10 = s.t) := by
  intro e he
  have hg := grewN_ords (s0 := s) l h (grewN_refl s)
  obtain ⟨u, hu, h0, h1, h2, h10, hf⟩ := endO_each _ _ e he
  rcases hg.each u hu with ⟨o, ho, hs⟩ | ⟨ha, hb⟩
  · refine Or.inl ⟨o, ho, ?_, ?_, ?_, ?_, ?_⟩
    · rw [h0, hs 0 (by omega)]
    · rw [h2, hs 2 (by omega)]
    · rw [h1, hs 1 (by omega)]
    · rw [h10, hs 10 (by omega)]
    · rw [← hs 3 (by omega), ← hs 4 (by omega)]
      exact hf
  · exact Or.inr ⟨by rw [h0]; exact ha, by rw [h10]; exact hb⟩
theorem stepN_gold {s : St} (h : InvN s) (l : List (List Int)) (hm : ∀ u ∈ s.es, fld u 2 ≠ 4) : (stepN s l).g0 + (stepN s l).g1 ≤ s.g0 + s.g1 := by
  have hg := grewN_ords (s0 := s) l h (grewN_refl s)
  have he := endO_gold (invN_ords l h) (idsE s.es) (hg.mine hm)
  have e0 : (stepN s l).g0 = (ordsN s l).g0 := he.1
  have e1 : (stepN s l).g1 = (ordsN s l).g1 := he.2
  rw [e0, e1]
  exact hg.gold
end Go.Proofs.Ytmnddahkbmlibaa

/- Package newer: a right state stays right when all go at once, arrive, strike and are buried. Plain. -/
import Derived.Test.YtmnddahkbmlibaaNsRefN
import Derived.Test.YtmnddahkbmlibaaNsRefU
import Derived.Test.YtmnddahkbmlibaaNsInN
import Derived.Test.YtmnddahkbmlibaaNsNwP
namespace Go.Proofs.Ytmnddahkbmlibaa
open Go.RowKit Go.Maps
theorem invN_map {s : St} (h : InvN s) (f : List Int → List Int) (h0 : ∀ u ∈ s.es, fld (f u) 0 = fld u 0 ∧ fld (f u) 1 = fld u 1 ∧ fld (f u) 2 = fld u 2 ∧ fld (f u) 10 = fld u 10) (hb : ∀ u ∈ s.es, boundsN (f u) = true) (hp : ∀ u ∈ s.es, placeN (f u) = true) (hg : ∀ u ∈ s.es, targetE (f u) = true)
    (hap : (s.es.map f).Pairwise (fun a b => ¬ (fld a 3 = fld b 3 ∧ fld a 4 = fld b 4))) (ham : ∀ u ∈ s.es, 0 < fld (f u) 9 → ∃ v ∈ s.es, fld v 0 = fld (f u) 9 ∧ mayN (fld (f u) 6) (f u) v = true) : InvN { s with es := s.es.map f } := by
  have hmem : ∀ (P : List Int → Prop), (∀ u ∈ s.es, P (f u)) → ∀ v ∈ s.es.map f, P v := by
    intro P hP v hv
    obtain ⟨u, hu, rfl⟩ := List.mem_map.1 hv
    exact hP u hu
  refine ⟨h.t0, h.t1, h.n0, h.n1, h.a0, h.a1, by simpa using h.el, hmem _ hb, hmem _ ?_, hmem _ hp, hmem _ hg, hmem (fun v => fld v 0 < s.nx) (fun u hu => by rw [(h0 u hu).1]; exact h.lt u hu), hmem (fun v => 0 ≤ fld v 10 ∧ fld v 10 ≤ s.t) (fun u hu => by rw [(h0 u hu).2.2.2]; exact h.sn u hu), ?_, hap, ?_, h.fr⟩
  · intro u hu
    have := h.ow u hu
    unfold ownerE at this ⊢
    rw [(h0 u hu).2.1, (h0 u hu).2.2.1]
    exact this
  · show (s.es.map f).Pairwise _
    rw [List.pairwise_map]
    exact h.up.imp_of_mem fun {a b} ha hb hab => by rw [(h0 a ha).1, (h0 b hb).1]; exact hab
  · refine hmem (fun v => 0 < fld v 9 → ∃ w ∈ s.es.map f, fld w 0 = fld v 9 ∧ mayN (fld v 6) v w = true) (fun u hu h9 => ?_)
    obtain ⟨v, hv, he, hc⟩ := ham u hu h9
    refine ⟨f v, List.mem_map.2 ⟨v, hv, rfl⟩, by rw [(h0 v hv).1]; exact he, ?_⟩
    unfold mayN mineN fightN at hc ⊢
    rw [(h0 v hv).2.1, (h0 v hv).2.2.1]
    exact hc
def wishO (es : List (List Int)) (old : List Int) (u : List Int) : Option (Int × Int) := if isB old (fld u 0) = true then wishN (tgtR es u) u else none
def claimsO (es : List (List Int)) (old : List Int) (x y : Int) : Nat := es.countP (isAt x y) + es.countP (fun u => decide (wishO es old u = some (x, y)))
def moveO (es : List (List Int)) (old : List Int) (u : List Int) : List Int :=
  match wishO es old u with
  | some (x, y) => if claimsO es old x y = 1 then updR 11 (updR 11 u 3 x) 4 y else u
  | none => u
def moveSO (s : St) (old : List Int) : St := { s with es := s.es.map (moveO s.es old) }
def arriveSO (s : St) (old : List Int) : St := { s with es := arriveR old s.es }
theorem invN_target {s : St} (h : InvN s) {u : List Int} (hu : u ∈ s.es) (hd : fld u 6 = 2 ∨ fld u 6 = 3) : 0 ≤ idxZ (isId (fld u 9)) s.es ∧ tgtR s.es u ∈ s.es ∧ fld (tgtR s.es u) 0 = fld u 9 ∧ mayN (fld u 6) u (tgtR s.es u) = true := by
  have ht := h.tg u hu
  have h9 : 0 < fld u 9 := by
    unfold targetE at ht
    have hb : (fld u 6 == 2 || fld u 6 == 3) = true := by
      rcases hd with e | e <;> rw [e] <;> rfl
    rw [hb] at ht
    simpa using ht
  obtain ⟨v, hv, he, hc⟩ := h.am u hu h9
  have hz : 0 ≤ idxZ (isId (fld u 9)) s.es := idx_mem.2 ⟨v, hv, he⟩
  obtain ⟨hk, hp⟩ := idxZ_at hz
  have hm : tgtR s.es u ∈ s.es := rec_mem hk
  have he2 : fld (tgtR s.es u) 0 = fld u 9 := eq_of_beq hp
  have huniq : v = tgtR s.es u := mem_uniq h.up hv hm (by rw [he, he2])
  exact ⟨hz, hm, he2, by rw [← huniq]; exact hc⟩
theorem invN_on {s : St} (h : InvN s) {u : List Int} (hu : u ∈ s.es) : OnU u := (boundsN_true (h.bd u hu)).2.1
theorem headN_on {s : St} (h : InvN s) {u : List Int} (hu : u ∈ s.es) (hb : headBN (tgtR s.es u) u = true) : (0 ≤ headXN (tgtR s.es u) u ∧ headXN (tgtR s.es u) u < 12) ∧ 0 ≤ headYN (tgtR s.es u) u ∧ headYN (tgtR s.es u) u < 12 := by
  by_cases h1 : fld u 6 = 1
  · have hp := h.pl u hu
    unfold placeN at hp
    rw [if_pos h1, Bool.and_eq_true] at hp
    unfold headXN headYN
    rw [if_pos h1, if_pos h1]
    exact Pl.onB_true hp.1
  · by_cases h2 : fld u 6 = 2 ∨ fld u 6 = 3
    · unfold headXN headYN
      rw [if_neg h1, if_pos h2, if_neg h1, if_pos h2]
      exact invN_on h (invN_target h hu h2).2.1
    · unfold headBN at hb
      rw [if_neg h1, if_neg h2] at hb
      cases hb
theorem wishN_some {t u : List Int} {x y : Int} (hw : wishN t u = some (x, y)) : headBN t u = true ∧ Pl.nSpeed (fld u 2) ≠ 0 ∧ x = Pl.nearZ (fld u 3) (headXN t u) ∧ y = Pl.nearZ (fld u 4) (headYN t u) := by
  unfold wishN at hw
  split at hw
  next hc =>
    simp only [Option.some.injEq, Prod.mk.injEq] at hw
    exact ⟨hc.1, hc.2.1, hw.1.symm, hw.2.symm⟩
  · cases hw
theorem wishO_some {es : List (List Int)} {old u : List Int} {q : Int × Int} (hw : wishO es old u = some q) : isB old (fld u 0) = true ∧ wishN (tgtR es u) u = some q := by
  unfold wishO at hw
  split at hw
  next hc => exact ⟨hc, hw⟩
  · cases hw
theorem wishO_on {s : St} (h : InvN s) {old : List Int} {u : List Int} (hu : u ∈ s.es) {x y : Int} (hw : wishO s.es old u = some (x, y)) : (0 ≤ x ∧ x < 12) ∧ 0 ≤ y ∧ y < 12 := by
  obtain ⟨hb, _, rfl, rfl⟩ := wishN_some (wishO_some hw).2
  have hon := invN_on h hu
  have hh := headN_on h hu hb
  exact ⟨Pl.nearZ_bd _ _ ⟨hon.1, hh.1⟩, Pl.nearZ_bd _ _ ⟨hon.2, hh.2⟩⟩
theorem moveO_cases (es : List (List Int)) (old : List Int) (u : List Int) : (∃ x y, wishO es old u = some (x, y) ∧ claimsO es old x y = 1 ∧ moveO es old u = updR 11 (updR 11 u 3 x) 4 y) ∨ moveO es old u = u := by
  unfold moveO
  cases hw : wishO es old u with
  | none => exact Or.inr rfl
  | some p =>
    obtain ⟨x, y⟩ := p
    simp only
    split
    next hc => exact Or.inl ⟨x, y, rfl, hc, rfl⟩
    · exact Or.inr rfl
theorem movedO_fld (u : List Int) (x y : Int) : (∀ j, j < 11 → j ≠ 3 → j ≠ 4 → fld (updR 11 (updR 11 u 3 x) 4 y) j = fld u j) ∧ fld (updR 11 (updR 11 u 3 x) 4 y) 3 = x ∧ fld (updR 11 (updR 11 u 3 x) 4 y) 4 = y := by
  refine ⟨fun j hj h3 h4 => ?_, ?_, ?_⟩
  · rw [fld_updR _ _ _ hj, if_neg h4, fld_updR _ _ _ hj, if_neg h3]
  · rw [fld_updR _ _ _ (by omega), if_neg (by omega), fld_updR _ _ _ (by omega), if_pos rfl]
  · rw [fld_updR _ _ _ (by omega), if_pos rfl]
theorem moveO_fld (es : List (List Int)) (old : List Int) (u : List Int) {j : Nat} (hj : j < 11) (h3 : j ≠ 3) (h4 : j ≠ 4) : fld (moveO es old u) j = fld u j := by
  rcases moveO_cases es old u with ⟨x, y, _, _, e⟩ | e
  · rw [e]; exact (movedO_fld u x y).1 j hj h3 h4
  · rw [e]
theorem invN_move {s : St} (h : InvN s) (old : List Int) : InvN (moveSO s old) := by
  have f := fun u {j : Nat} (hj : j < 11) (h3 : j ≠ 3) (h4 : j ≠ 4) => moveO_fld s.es old u hj h3 h4
  refine invN_map h (moveO s.es old) (fun u _ => ⟨f u (by omega) (by omega) (by omega), f u (by omega) (by omega) (by omega), f u (by omega) (by omega) (by omega), f u (by omega) (by omega) (by omega)⟩) ?_ ?_ ?_ ?_ ?_
  · intro u hu
    have hb := h.bd u hu
    have hon : Pl.onB (fld (moveO s.es old u) 3) (fld (moveO s.es old u) 4) = true := by
      rcases moveO_cases s.es old u with ⟨x, y, hw, _, e⟩ | e
      · rw [e, (movedO_fld u x y).2.1, (movedO_fld u x y).2.2]
        exact Pl.onB_mk (wishO_on h hu hw)
      · rw [e]
        exact Pl.onB_mk (invN_on h hu)
    unfold boundsN at hb ⊢
    rw [hon, f u (j := 0) (by omega) (by omega) (by omega), f u (j := 2) (by omega) (by omega) (by omega), f u (j := 5) (by omega) (by omega) (by omega), f u (j := 6) (by omega) (by omega) (by omega), f u (j := 9) (by omega) (by omega) (by omega)]
    simp only [Bool.and_eq_true] at hb ⊢
    exact ⟨hb.1, hb.2.1, trivial, hb.2.2.2⟩
  · intro u hu
    have hp := h.pl u hu
    unfold placeN at hp ⊢
    rw [f u (j := 2) (by omega) (by omega) (by omega), f u (j := 6) (by omega) (by omega) (by omega), f u (j := 7) (by omega) (by omega) (by omega), f u (j := 8) (by omega) (by omega) (by omega)]
    exact hp
  · intro u hu
    have hp := h.tg u hu
    unfold targetE at hp ⊢
    rw [f u (j := 6) (by omega) (by omega) (by omega), f u (j := 9) (by omega) (by omega) (by omega)]
    exact hp
  · rw [List.pairwise_map, List.pairwise_iff_getElem]
    intro i j hi hj hij hxy
    have hmi : s.es[i] ∈ s.es := List.getElem_mem hi
    have hmj : s.es[j] ∈ s.es := List.getElem_mem hj
    have at_self : ∀ v : List Int, isAt (fld v 3) (fld v 4) v = true := fun v => by unfold isAt; simp
    rcases moveO_cases s.es old s.es[i] with ⟨x, y, hw, hc, e⟩ | e
    · rw [e, (movedO_fld _ x y).2.1, (movedO_fld _ x y).2.2] at hxy
      rcases moveO_cases s.es old s.es[j] with ⟨x2, y2, hw2, hc2, e2⟩ | e2
      · rw [e2, (movedO_fld _ x2 y2).2.1, (movedO_fld _ x2 y2).2.2] at hxy
        obtain ⟨rfl, rfl⟩ := hxy
        have := count_two (es := s.es) (p := fun u => decide (wishO s.es old u = some (x, y))) hij hj (decide_eq_true hw) (decide_eq_true hw2)
        unfold claimsO at hc
        omega
      · rw [e2] at hxy
        have h1 := count_one (p := isAt x y) hmj (by rw [hxy.1, hxy.2]; exact at_self _)
        have h2 := count_one (p := fun u => decide (wishO s.es old u = some (x, y))) hmi (decide_eq_true hw)
        unfold claimsO at hc
        omega
    · rw [e] at hxy
      rcases moveO_cases s.es old s.es[j] with ⟨x2, y2, hw2, hc2, e2⟩ | e2
      · rw [e2, (movedO_fld _ x2 y2).2.1, (movedO_fld _ x2 y2).2.2] at hxy
        have h1 := count_one (p := isAt x2 y2) hmi (by rw [← hxy.1, ← hxy.2]; exact at_self _)
        have h2 := count_one (p := fun u => decide (wishO s.es old u = some (x2, y2))) hmj (decide_eq_true hw2)
        unfold claimsO at hc2
        omega
      · rw [e2] at hxy
        exact List.pairwise_iff_getElem.1 h.ap i j hi hj hij hxy
  · intro u hu h9
    rw [f u (j := 9) (by omega) (by omega) (by omega)] at h9 ⊢
    obtain ⟨v, hv, he, hc⟩ := h.am u hu h9
    refine ⟨v, hv, he, ?_⟩
    unfold mayN mineN fightN at hc ⊢
    rw [f u (j := 6) (by omega) (by omega) (by omega), f u (j := 1) (by omega) (by omega) (by omega), f u (j := 2) (by omega) (by omega) (by omega)]
    exact hc
theorem tell0_ok {u : List Int} (hb : boundsN u = true) : boundsN (tellR u 0 0 0 0) = true ∧ placeN (tellR u 0 0 0 0) = true ∧ targetE (tellR u 0 0 0 0) = true := by
  obtain ⟨h5, h6, h7, h8, h9⟩ := tellR_fld u 0 0 0 0
  refine ⟨?_, ?_, ?_⟩
  · unfold boundsN at hb ⊢
    rw [h5 0 (by omega), h5 2 (by omega), h5 3 (by omega), h5 4 (by omega), h5 5 (by omega), h6, h9]
    simp only [Bool.and_eq_true] at hb ⊢
    exact ⟨hb.1, hb.2.1, hb.2.2.1, hb.2.2.2.1, rfl, rfl⟩
  · unfold placeN
    rw [h6, h7, h8]
    rfl
  · unfold targetE
    rw [h6, h9]
    rfl
theorem arriveF_cases (old u : List Int) : arriveF old u = tellR u 0 0 0 0 ∨ arriveF old u = u := by
  unfold arriveF
  split
  · exact Or.inl rfl
  · exact Or.inr rfl
theorem arriveF_fld (old u : List Int) {j : Nat} (hj : j < 6 ∨ j = 10) : fld (arriveF old u) j = fld u j := by
  rcases arriveF_cases old u with e | e
  · rw [e]; exact (tellR_fld u 0 0 0 0).1 j hj
  · rw [e]
theorem invN_arrive {s : St} (h : InvN s) (old : List Int) : InvN (arriveSO s old) := by
  have cs := arriveF_cases old
  have f5 : ∀ u, ∀ j, (j < 6 ∨ j = 10) → fld (arriveF old u) j = fld u j := fun u j hj => arriveF_fld old u hj
  refine invN_map h (arriveF old) (fun u _ => ⟨f5 u 0 (by omega), f5 u 1 (by omega), f5 u 2 (by omega), f5 u 10 (by omega)⟩) ?_ ?_ ?_ ?_ ?_
  · intro u hu
    rcases cs u with e | e
    · rw [e]; exact (tell0_ok (h.bd u hu)).1
    · rw [e]; exact h.bd u hu
  · intro u hu
    rcases cs u with e | e
    · rw [e]; exact (tell0_ok (h.bd u hu)).2.1
    · rw [e]; exact h.pl u hu
  · intro u hu
    rcases cs u with e | e
    · rw [e]; exact (tell0_ok (h.bd u hu)).2.2
    · rw [e]; exact h.tg u hu
  · rw [List.pairwise_map]
    exact h.ap.imp fun {a b} hab => by rw [f5 a 3 (by omega), f5 b 3 (by omega), f5 a 4 (by omega), f5 b 4 (by omega)]; exact hab
  · intro u hu h9
    rcases cs u with e | e
    · rw [e, (tellR_fld u 0 0 0 0).2.2.2.2] at h9
      omega
    · rw [e] at h9 ⊢
      exact h.am u hu h9
def strikeO (es : List (List Int)) (old : List Int) (u : List Int) : Bool := isB old (fld u 0) && (decide (fld u 9 ≠ 0) && nearN u (tgtR es u))
def amountO (u : List Int) : Int := if fld u 6 = 2 then Pl.nHarm (fld u 2) else Pl.nLoad (fld u 2)
def lessO (es : List (List Int)) (old : List Int) (l : List (List Int)) (id : Int) : Int :=
  l.foldl (fun n u => if strikeO es old u = true ∧ fld u 9 = id then n + amountO u else n) 0
def hurtO (es : List (List Int)) (old : List Int) (u : List Int) : List Int := updR 11 u 5 (fld u 5 - lessO es old es (fld u 0))
def earnO (es : List (List Int)) (old : List Int) (o : Int) (l : List (List Int)) (g : Int) : Int :=
  l.foldl (fun n u => if strikeO es old u = true ∧ fld u 6 ≠ 2 ∧ fld u 1 = o then min (n + Pl.nLoad (fld u 2)) 1000 else n) g
def strikeSO (s : St) (old : List Int) : St := { s with g0 := earnO s.es old 0 s.es s.g0, g1 := earnO s.es old 1 s.es s.g1, es := s.es.map (hurtO s.es old) }
def buryO (s : St) : St := { s with es := (s.es.filter aliveB).map (idleF (s.es.filter aliveB)) }
def endO (s : St) (old : List Int) : St := { buryO (strikeSO (arriveSO (moveSO s old) old) old) with t := s.t + 1 }
theorem harmN_bd (k : Int) : 0 ≤ Pl.nHarm k ∧ Pl.nHarm k ≤ 3 := by
  unfold Pl.nHarm
  repeat' split
  all_goals omega
theorem loadN_bd (k : Int) : 0 ≤ Pl.nLoad k ∧ Pl.nLoad k ≤ 2 := by
  unfold Pl.nLoad
  repeat' split
  all_goals omega
theorem amountO_bd (u : List Int) : 0 ≤ amountO u ∧ amountO u ≤ 3 := by
  have h1 := harmN_bd (fld u 2)
  have h2 := loadN_bd (fld u 2)
  unfold amountO
  split <;> omega
theorem lessO_nonneg (es : List (List Int)) (old : List Int) (l : List (List Int)) (id : Int) : 0 ≤ lessO es old l id := by
  have : ∀ (l : List (List Int)) (n : Int), 0 ≤ n → 0 ≤ l.foldl (fun n u => if strikeO es old u = true ∧ fld u 9 = id then n + amountO u else n) n := by
    intro l
    induction l with
    | nil => exact fun n h => h
    | cons u l ih =>
      intro n h
      rw [List.foldl_cons]
      apply ih
      split
      · have := (amountO_bd u).1
        omega
      · exact h
  exact this l 0 (Int.le_refl _)
theorem earnO_bd (es : List (List Int)) (old : List Int) (o : Int) (l : List (List Int)) : ∀ g : Int, 0 ≤ g ∧ g ≤ 1000 → 0 ≤ earnO es old o l g ∧ earnO es old o l g ≤ 1000 := by
  unfold earnO
  induction l with
  | nil => exact fun g h => h
  | cons u l ih =>
    intro g h
    rw [List.foldl_cons]
    apply ih
    split
    · have := loadN_bd (fld u 2)
      omega
    · exact h
theorem idleF_cases (A : List (List Int)) (u : List Int) : idleF A u = tellR u 0 0 0 0 ∨ (idleF A u = u ∧ (0 < fld u 9 → 0 ≤ idxZ (isId (fld u 9)) A)) := by
  unfold idleF
  split
  · exact Or.inl rfl
  next hc =>
    refine Or.inr ⟨rfl, fun h9 => ?_⟩
    rw [decide_eq_true h9, Bool.true_and, decide_eq_true_eq] at hc
    have hc' : ¬ idxZ (isId (fld u 9)) A < 0 := hc
    omega
theorem idleF_fld (A : List (List Int)) (u : List Int) {j : Nat} (hj : j < 6 ∨ j = 10) : fld (idleF A u) j = fld u j := by
  rcases idleF_cases A u with e | ⟨e, _⟩
  · rw [e]; exact (tellR_fld u 0 0 0 0).1 j hj
  · rw [e]
theorem invN_bury {s : St} (h : InvN s) (g : List Int → List Int) (hg : ∀ u j, j < 11 → j ≠ 5 → fld (g u) j = fld u j) (h5 : ∀ u, fld (g u) 5 ≤ fld u 5) {g0 g1 : Int} (hg0 : 0 ≤ g0 ∧ g0 ≤ 1000) (hg1 : 0 ≤ g1 ∧ g1 ≤ 1000) {t : Int} (ht : s.t ≤ t ∧ t ≤ 60) :
    InvN { buryO { s with g0 := g0, g1 := g1, es := s.es.map g } with t := t } := by
  have L : ∀ u, u ∈ (s.es.map g).filter aliveB → ∃ v, v ∈ s.es ∧ u = g v ∧ 0 < fld (g v) 5 := by
    intro u hu
    rw [List.mem_filter, List.mem_map] at hu
    obtain ⟨⟨v, hv, rfl⟩, hp⟩ := hu
    unfold aliveB at hp
    rw [decide_eq_true_eq] at hp
    exact ⟨v, hv, rfl, hp⟩
  have hbd : ∀ u ∈ (s.es.map g).filter aliveB, boundsN u = true := by
    intro u hu
    obtain ⟨v, hv, rfl, hp⟩ := L u hu
    have hb := h.bd v hv
    unfold boundsN at hb ⊢
    rw [hg v 0 (by omega) (by omega), hg v 2 (by omega) (by omega), hg v 3 (by omega) (by omega), hg v 4 (by omega) (by omega), hg v 6 (by omega) (by omega), hg v 9 (by omega) (by omega)]
    simp only [Bool.and_eq_true] at hb ⊢
    refine ⟨hb.1, hb.2.1, hb.2.2.1, ?_, hb.2.2.2.2⟩
    have h1 := hb.2.2.2.1
    unfold inZ at h1 ⊢
    rw [decide_eq_true_eq] at h1 ⊢
    have := h5 v
    omega
  have hpl : ∀ u ∈ (s.es.map g).filter aliveB, placeN u = true := by
    intro u hu
    obtain ⟨v, hv, rfl, hp⟩ := L u hu
    have hb := h.pl v hv
    unfold placeN at hb ⊢
    rw [hg v 2 (by omega) (by omega), hg v 6 (by omega) (by omega), hg v 7 (by omega) (by omega), hg v 8 (by omega) (by omega)]
    exact hb
  have htg : ∀ u ∈ (s.es.map g).filter aliveB, targetE u = true := by
    intro u hu
    obtain ⟨v, hv, rfl, hp⟩ := L u hu
    have hb := h.tg v hv
    unfold targetE at hb ⊢
    rw [hg v 6 (by omega) (by omega), hg v 9 (by omega) (by omega)]
    exact hb
  have how : ∀ u ∈ (s.es.map g).filter aliveB, ownerE u = true := by
    intro u hu
    obtain ⟨v, hv, rfl, hp⟩ := L u hu
    have hb := h.ow v hv
    unfold ownerE at hb ⊢
    rw [hg v 1 (by omega) (by omega), hg v 2 (by omega) (by omega)]
    exact hb
  have hup : ((s.es.map g).filter aliveB).Pairwise (fun a b => fld a 0 < fld b 0) := by
    refine List.Pairwise.filter _ ?_
    rw [List.pairwise_map]
    exact h.up.imp fun {a b} hab => by rw [hg a 0 (by omega) (by omega), hg b 0 (by omega) (by omega)]; exact hab
  have hap : ((s.es.map g).filter aliveB).Pairwise (fun a b => ¬ (fld a 3 = fld b 3 ∧ fld a 4 = fld b 4)) := by
    refine List.Pairwise.filter _ ?_
    rw [List.pairwise_map]
    exact h.ap.imp fun {a b} hab => by rw [hg a 3 (by omega) (by omega), hg b 3 (by omega) (by omega), hg a 4 (by omega) (by omega), hg b 4 (by omega) (by omega)]; exact hab
  have hlen : ((s.es.map g).filter aliveB).length ≤ s.es.length := by
    refine Nat.le_trans (List.length_filter_le _ _) ?_
    rw [List.length_map]
    exact Nat.le_refl _
  generalize hA : (s.es.map g).filter aliveB = A at L hbd hpl htg how hup hap hlen
  have cs := idleF_cases A
  have f5 : ∀ u, ∀ j, (j < 6 ∨ j = 10) → fld (idleF A u) j = fld u j := fun u j hj => idleF_fld A u hj
  have hes : (buryO { s with g0 := g0, g1 := g1, es := s.es.map g }).es = A.map (idleF A) := by unfold buryO; simp only; rw [hA]
  have hmem : ∀ (P : List Int → Prop), (∀ u ∈ A, P (idleF A u)) → ∀ v ∈ A.map (idleF A), P v := by
    intro P hP v hv
    obtain ⟨u, hu, rfl⟩ := List.mem_map.1 hv
    exact hP u hu
  have ht0 := h.t0
  refine ⟨by show 0 ≤ t; omega, ht.2, h.n0, h.n1, hg0, hg1, ?_, ?_, ?_, ?_, ?_, ?_, ?_, ?_, ?_, ?_, h.fr⟩
  all_goals simp only [hes]
  · rw [List.length_map]
    have := h.el
    omega
  · exact hmem (fun v => boundsN v = true) fun u hu => by
      rcases cs u with e | ⟨e, _⟩
      · rw [e]; exact (tell0_ok (hbd u hu)).1
      · rw [e]; exact hbd u hu
  · exact hmem (fun v => ownerE v = true) fun u hu => by
      have := how u hu
      unfold ownerE at this ⊢
      rw [f5 u 1 (by omega), f5 u 2 (by omega)]
      exact this
  · exact hmem (fun v => placeN v = true) fun u hu => by
      rcases cs u with e | ⟨e, _⟩
      · rw [e]; exact (tell0_ok (hbd u hu)).2.1
      · rw [e]; exact hpl u hu
  · exact hmem (fun v => targetE v = true) fun u hu => by
      rcases cs u with e | ⟨e, _⟩
      · rw [e]; exact (tell0_ok (hbd u hu)).2.2
      · rw [e]; exact htg u hu
  · refine hmem (fun v => fld v 0 < (buryO { s with g0 := g0, g1 := g1, es := s.es.map g }).nx) fun u hu => ?_
    obtain ⟨v, hv, rfl, _⟩ := L u hu
    rw [f5 _ 0 (by omega), hg v 0 (by omega) (by omega)]
    exact h.lt v hv
  · refine hmem (fun v => 0 ≤ fld v 10 ∧ fld v 10 ≤ t) fun u hu => ?_
    obtain ⟨v, hv, rfl, _⟩ := L u hu
    rw [f5 _ 10 (by omega), hg v 10 (by omega) (by omega)]
    have := h.sn v hv
    omega
  · rw [List.pairwise_map]
    exact hup.imp fun {a b} hab => by rw [f5 a 0 (by omega), f5 b 0 (by omega)]; exact hab
  · rw [List.pairwise_map]
    exact hap.imp fun {a b} hab => by rw [f5 a 3 (by omega), f5 b 3 (by omega), f5 a 4 (by omega), f5 b 4 (by omega)]; exact hab
  · refine hmem (fun v => 0 < fld v 9 → ∃ w ∈ A.map (idleF A), fld w 0 = fld v 9 ∧ mayN (fld v 6) v w = true) fun u hu h9 => ?_
    rcases cs u with e | ⟨e, hfound⟩
    · rw [e, (tellR_fld u 0 0 0 0).2.2.2.2] at h9
      omega
    · rw [e] at h9 ⊢
      obtain ⟨w, hwm, hwe⟩ := idx_mem.1 (hfound h9)
      obtain ⟨v, hv, rfl, _⟩ := L u hu
      obtain ⟨x, hx, rfl, _⟩ := L w hwm
      rw [hg v 9 (by omega) (by omega)] at h9 hwe
      rw [hg x 0 (by omega) (by omega)] at hwe
      obtain ⟨y, hy, hye, hyc⟩ := h.am v hv h9
      have hxy : y = x := mem_uniq h.up hy hx (by rw [hye, hwe])
      subst hxy
      refine ⟨idleF A (g y), List.mem_map.2 ⟨g y, hwm, rfl⟩, ?_, ?_⟩
      · rw [f5 _ 0 (by omega), hg y 0 (by omega) (by omega), hg v 9 (by omega) (by omega)]
        exact hwe
      · unfold mayN mineN fightN at hyc ⊢
        rw [f5 _ 1 (by omega), f5 _ 2 (by omega), hg y 1 (by omega) (by omega), hg y 2 (by omega) (by omega), hg v 1 (by omega) (by omega), hg v 2 (by omega) (by omega), hg v 6 (by omega) (by omega)]
        exact hyc
theorem hurtO_fld (es : List (List Int)) (old u : List Int) {j : Nat} (hj : j < 11) (h5 : j ≠ 5) : fld (hurtO es old u) j = fld u j := by
  unfold hurtO
  rw [fld_updR _ _ _ hj, if_neg h5]
theorem hurtO_le (es : List (List Int)) (old u : List Int) : fld (hurtO es old u) 5 ≤ fld u 5 := by
  unfold hurtO
  rw [fld_updR _ _ _ (by omega), if_pos rfl]
  have := lessO_nonneg es old es (fld u 0)
  omega
theorem invN_end {s : St} (h : InvN s) (ht : s.t < 60) (old : List Int) : InvN (endO s old) := by
  have h2 := invN_arrive (invN_move h old) old
  exact invN_bury h2 (hurtO (arriveSO (moveSO s old) old).es old) (fun u j hj h5 => hurtO_fld _ _ _ hj h5) (fun u => hurtO_le _ _ _) (earnO_bd _ _ 0 _ _ h2.a0) (earnO_bd _ _ 1 _ _ h2.a1) (t := s.t + 1) ⟨by show s.t ≤ s.t + 1; omega, by omega⟩
end Go.Proofs.Ytmnddahkbmlibaa

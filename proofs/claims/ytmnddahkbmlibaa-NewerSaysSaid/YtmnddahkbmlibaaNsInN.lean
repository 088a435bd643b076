/- Package newer: a right state of the newer game, said by members; orders leave it right. Plain. -/
import Derived.Test.YtmnddahkbmlibaaNsRefL
import Derived.Test.YtmnddahkbmlibaaNsRefMA
import Derived.Test.YtmnddahkbmlibaaNsEqN
namespace Go.Proofs.Ytmnddahkbmlibaa
open Go.RowKit Go.Maps
structure InvN (s : St) : Prop where
  t0 : 0 ≤ s.t
  t1 : s.t ≤ 60
  n0 : 1 ≤ s.nx
  n1 : s.nx ≤ 2001
  a0 : 0 ≤ s.g0 ∧ s.g0 ≤ 1000
  a1 : 0 ≤ s.g1 ∧ s.g1 ≤ 1000
  el : s.es.length ≤ 20
  bd : ∀ u ∈ s.es, boundsN u = true
  ow : ∀ u ∈ s.es, ownerE u = true
  pl : ∀ u ∈ s.es, placeN u = true
  tg : ∀ u ∈ s.es, targetE u = true
  lt : ∀ u ∈ s.es, fld u 0 < s.nx
  sn : ∀ u ∈ s.es, 0 ≤ fld u 10 ∧ fld u 10 ≤ s.t
  up : s.es.Pairwise (fun a b => fld a 0 < fld b 0)
  ap : s.es.Pairwise (fun a b => ¬ (fld a 3 = fld b 3 ∧ fld a 4 = fld b 4))
  am : ∀ u ∈ s.es, 0 < fld u 9 → ∃ v ∈ s.es, fld v 0 = fld u 9 ∧ mayN (fld u 6) u v = true
  fr : s.free = []
theorem unitAtN_ok {t nx : Int} {us : List (List Int)} {i : Nat} (h : unitAtN t nx us i = 0) : boundsN (rec us i) = true ∧ (0 ≤ fld (rec us i) 10 ∧ fld (rec us i) 10 ≤ t) ∧ ownerE (rec us i) = true ∧ placeN (rec us i) = true ∧ targetE (rec us i) = true ∧ ¬ orderN nx us i := by
  unfold unitAtN at h
  split at h
  next h1 =>
    split at h
    next h2 =>
      split at h
      · omega
      next h3 =>
        refine ⟨h1.1, ?_, h2.1, h2.2.1, h2.2.2, h3⟩
        have := h1.2
        unfold inZ at this
        exact of_decide_eq_true this
    · omega
  · omega
theorem uniq_of_up {es : List (List Int)} (h : es.Pairwise (fun a b => fld a 0 < fld b 0)) : Uniq es := by
  intro i j hi hj e
  have hpw := (all_pair (R := fun a b => fld a 0 < fld b 0)).2 h
  rcases Nat.lt_trichotomy i j with hlt | heq | hgt
  · have := hpw i j hlt hj; omega
  · exact heq
  · have := hpw j i hgt hi; omega
theorem mem_uniq {es : List (List Int)} (h : es.Pairwise (fun a b => fld a 0 < fld b 0)) {u v : List Int} (hu : u ∈ es) (hv : v ∈ es) (e : fld u 0 = fld v 0) : u = v := by
  obtain ⟨a, ha, rfl⟩ := List.mem_iff_getElem.1 hu
  obtain ⟨b, hb, rfl⟩ := List.mem_iff_getElem.1 hv
  have hpw := List.pairwise_iff_getElem.1 h
  rcases Nat.lt_trichotomy a b with hlt | heq | hgt
  · have := hpw a b ha hb hlt; omega
  · subst heq; rfl
  · have := hpw b a hb ha hgt; omega
theorem idx_mem {es : List (List Int)} {id : Int} : 0 ≤ idxZ (isId id) es ↔ ∃ v ∈ es, fld v 0 = id := by
  constructor
  · intro h
    obtain ⟨hk, hp⟩ := idxZ_at h
    exact ⟨_, rec_mem hk, eq_of_beq hp⟩
  · rintro ⟨v, hv, he⟩
    by_cases hz : idxZ (isId id) es < 0
    · obtain ⟨i, hi, rfl⟩ := List.mem_iff_getElem.1 hv
      have := idxZ_neg_iff.1 hz i hi
      rw [rec_at hi] at this
      unfold isId at this
      rw [he] at this
      simp at this
    · omega
theorem invN_of_check {s : St} (hf : s.free = []) (h : checkN s.t s.g0 s.g1 s.nx s.es = 0) : InvN s := by
  unfold checkN at h
  split at h
  next hst =>
    split at h
    next hfi =>
      have hz := firstE_zero hfi
      have hu : ∀ i, i < s.es.length → unitAtN s.t s.nx s.es i = 0 ∧ ¬ takenN s.es i := fun i hi => by
        have h1 := hz i hi
        unfold oneN at h1
        split at h1
        next h2 =>
          split at h1
          · omega
          next h3 => exact ⟨h2, h3⟩
        next h2 => exact absurd h1 h2
      have hk := fun i hi => unitAtN_ok (hu i hi).1
      unfold stateN at hst
      split at hst
      next h1 =>
        split at hst
        next h2 =>
          split at hst
          next h3 =>
            split at hst
            · omega
            next h4 =>
              unfold inZ at h1 h2 h3
              have t := of_decide_eq_true h1.1
              have n := of_decide_eq_true h1.2
              have a := of_decide_eq_true h2
              have b := of_decide_eq_true h3
              have hup1 : ∀ i, i + 1 < s.es.length → fld (rec s.es i) 0 < fld (rec s.es (i + 1)) 0 := fun i hi => by
                have := (hk (i + 1) hi).2.2.2.2.2
                unfold orderN at this
                have h5 : ¬ (0 < i + 1 ∧ fld (rec s.es (i + 1)) 0 ≤ fld (rec s.es (i + 1 - 1)) 0) := fun x => this (Or.inl x)
                rw [Nat.add_sub_cancel] at h5
                omega
              have hup : ∀ d i, i + d + 1 < s.es.length → fld (rec s.es i) 0 < fld (rec s.es (i + d + 1)) 0 := by
                intro d
                induction d with
                | zero => exact fun i hi => hup1 i hi
                | succ d ih =>
                  intro i hi
                  have h1 := ih i (by omega)
                  have h2 := hup1 (i + d + 1) (by omega)
                  have e : i + (d + 1) + 1 = i + d + 1 + 1 := by omega
                  rw [e]
                  omega
              have hupP : s.es.Pairwise (fun a b => fld a 0 < fld b 0) := (all_pair (R := fun a b => fld a 0 < fld b 0)).1 fun i j hij hj => by
                have h := hup (j - i - 1) i (by omega)
                have e : i + (j - i - 1) + 1 = j := by omega
                rw [e] at h
                exact h
              refine ⟨t.1, t.2, n.1, n.2, a, b, by omega, all_mem.1 fun i hi => (hk i hi).1, all_mem.1 fun i hi => (hk i hi).2.2.1, all_mem.1 fun i hi => (hk i hi).2.2.2.1, all_mem.1 fun i hi => (hk i hi).2.2.2.2.1, (all_mem (P := fun u => fld u 0 < s.nx)).1 fun i hi => ?_, (all_mem (P := fun u => 0 ≤ fld u 10 ∧ fld u 10 ≤ s.t)).1 fun i hi => (hk i hi).2.1, hupP, (all_pair (R := fun a b => ¬ (fld a 3 = fld b 3 ∧ fld a 4 = fld b 4))).1 fun i j hij hj => ?_, ?_, hf⟩
              · have := (hk i hi).2.2.2.2.2
                unfold orderN at this
                have h5 : ¬ s.nx ≤ fld (rec s.es i) 0 := fun x => this (Or.inr x)
                omega
              · intro hx
                refine (hu j hj).2 ?_
                unfold takenN
                rw [List.countP_pos_iff]
                refine ⟨rec s.es i, ?_, ?_⟩
                · rw [← rec_take hij]
                  exact rec_mem (by rw [List.length_take]; omega)
                · unfold isAt
                  rw [hx.1, hx.2]
                  simp
              · intro u hu' h9
                obtain ⟨i, hi, rfl⟩ := List.mem_iff_getElem.1 hu'
                unfold targetsN at h
                split at h
                next hall =>
                  have := hall i hi
                  unfold aimOkN at this
                  rw [rec_at hi] at this
                  rcases this with e | ⟨e1, e2⟩
                  · omega
                  · obtain ⟨hkk, hp⟩ := idxZ_at e1
                    exact ⟨_, rec_mem hkk, eq_of_beq hp, e2⟩
                · omega
          · omega
        · omega
      · omega
    next hne => exact absurd h hne
  next hne => exact absurd h hne
theorem check_of_invN {s : St} (h : InvN s) : checkN s.t s.g0 s.g1 s.nx s.es = 0 := by
  have hst : stateN s.t s.g0 s.g1 s.nx s.es.length = 0 := by
    unfold stateN inZ
    have h1 : (0 ≤ s.t ∧ s.t ≤ 60) := ⟨h.t0, h.t1⟩
    have h2 : (1 ≤ s.nx ∧ s.nx ≤ 2001) := ⟨h.n0, h.n1⟩
    have h3 := h.el
    simp [h1, h2, h.a0, h.a1]
    omega
  have hup := (all_pair (R := fun a b => fld a 0 < fld b 0)).2 h.up
  have hap := (all_pair (R := fun a b => ¬ (fld a 3 = fld b 3 ∧ fld a 4 = fld b 4))).2 h.ap
  have hone : ∀ i, i < s.es.length → oneN s.t s.nx s.es i = 0 := fun i hi => by
    have hm := rec_mem hi
    have hs := h.sn _ hm
    have h1 : unitAtN s.t s.nx s.es i = 0 := by
      unfold unitAtN
      have e : inZ (fld (rec s.es i) 10) 0 s.t = true := by unfold inZ; exact decide_eq_true hs
      rw [if_pos ⟨h.bd _ hm, e⟩, if_pos ⟨h.ow _ hm, h.pl _ hm, h.tg _ hm⟩, if_neg]
      rintro (⟨h0, hx⟩ | hx)
      · have := hup (i - 1) i (by omega) hi
        omega
      · have := h.lt _ hm
        omega
    have h2 : ¬ takenN s.es i := by
      unfold takenN
      rw [List.countP_pos_iff]
      rintro ⟨u, hu, hp⟩
      obtain ⟨k, hk, rfl⟩ := List.mem_iff_getElem.1 hu
      rw [List.length_take] at hk
      rw [List.getElem_take, ← rec_at (show k < s.es.length by omega)] at hp
      unfold isAt at hp
      rw [Bool.and_eq_true, beq_iff_eq, beq_iff_eq] at hp
      exact hap k i (by omega) hi hp
    unfold oneN
    rw [if_pos h1, if_neg h2]
  have hta : targetsN s.es = 0 := by
    unfold targetsN
    rw [if_pos]
    intro i hi
    have hm := rec_mem hi
    unfold aimOkN
    by_cases h9 : fld (rec s.es i) 9 = 0
    · exact Or.inl h9
    · have h9' := (boundsN_true (h.bd _ hm)).2.2.2.2.1
      obtain ⟨v, hv, he, hc⟩ := h.am _ hm (by omega)
      have hx : 0 ≤ idxZ (isId (fld (rec s.es i) 9)) s.es := idx_mem.2 ⟨v, hv, he⟩
      obtain ⟨hk, hp⟩ := idxZ_at hx
      have : rec s.es (idxZ (isId (fld (rec s.es i) 9)) s.es).toNat = v := mem_uniq h.up (rec_mem hk) hv (by rw [he]; exact eq_of_beq hp)
      exact Or.inr ⟨hx, by rw [this]; exact hc⟩
  unfold checkN
  rw [if_pos hst, if_pos (firstE_none hone), hta]
theorem invN_alike {s : St} (h : InvN s) {b : List (List Int)} (hl : b.length = s.es.length) (hf : ∀ k, k < s.es.length → ∀ j, (j < 6 ∨ j = 10) → fld (rec b k) j = fld (rec s.es k) j)
    (hd : ∀ k, k < s.es.length → (0 ≤ fld (rec b k) 6 ∧ fld (rec b k) 6 ≤ 3) ∧ (0 ≤ fld (rec b k) 9 ∧ fld (rec b k) 9 ≤ 2000) ∧ placeN (rec b k) = true ∧ targetE (rec b k) = true)
    (ha : ∀ k, k < s.es.length → 0 < fld (rec b k) 9 → ∃ v ∈ s.es, fld v 0 = fld (rec b k) 9 ∧ mayN (fld (rec b k) 6) (rec s.es k) v = true) : InvN { s with es := b } := by
  have hup := (all_pair (R := fun a b => fld a 0 < fld b 0)).2 h.up
  have hap := (all_pair (R := fun a b => ¬ (fld a 3 = fld b 3 ∧ fld a 4 = fld b 4))).2 h.ap
  have all : ∀ (P : List Int → Prop), (∀ k, k < s.es.length → P (rec b k)) → ∀ u ∈ b, P u := fun P hP => all_mem.1 fun i hi => hP i (by omega)
  refine ⟨h.t0, h.t1, h.n0, h.n1, h.a0, h.a1, by have := h.el; show b.length ≤ 20; omega, all _ fun k hk => ?_, all _ fun k hk => ?_, all _ fun k hk => (hd k hk).2.2.1, all _ fun k hk => (hd k hk).2.2.2, all _ fun k hk => ?_, all _ fun k hk => ?_, (all_pair (R := fun a b => fld a 0 < fld b 0)).1 fun i j hij hj => ?_, (all_pair (R := fun a b => ¬ (fld a 3 = fld b 3 ∧ fld a 4 = fld b 4))).1 fun i j hij hj => ?_, ?_, h.fr⟩
  · have hb := h.bd _ (rec_mem hk)
    have f := hf k hk
    unfold boundsN at hb ⊢
    rw [f 0 (by omega), f 2 (by omega), f 3 (by omega), f 4 (by omega), f 5 (by omega)]
    simp only [Bool.and_eq_true] at hb ⊢
    exact ⟨hb.1, hb.2.1, hb.2.2.1, hb.2.2.2.1, by unfold inZ; exact decide_eq_true (hd k hk).1, by unfold inZ; exact decide_eq_true (hd k hk).2.1⟩
  · have hb := h.ow _ (rec_mem hk)
    have f := hf k hk
    unfold ownerE at hb ⊢
    rw [f 1 (by omega), f 2 (by omega)]
    exact hb
  · rw [hf k hk 0 (by omega)]
    exact h.lt _ (rec_mem hk)
  · rw [hf k hk 10 (by omega)]
    exact h.sn _ (rec_mem hk)
  · have hj' : j < b.length := hj
    rw [hf i (by omega) 0 (by omega), hf j (by omega) 0 (by omega)]
    exact hup i j hij (by omega)
  · have hj' : j < b.length := hj
    rw [hf i (by omega) 3 (by omega), hf j (by omega) 3 (by omega), hf i (by omega) 4 (by omega), hf j (by omega) 4 (by omega)]
    exact hap i j hij (by omega)
  · refine all (fun u => 0 < fld u 9 → ∃ v ∈ b, fld v 0 = fld u 9 ∧ mayN (fld u 6) u v = true) fun k hk h9 => ?_
    obtain ⟨v, hv, he, hc⟩ := ha k hk h9
    obtain ⟨m, hm, rfl⟩ := List.mem_iff_getElem.1 hv
    rw [← rec_at hm] at he hc
    refine ⟨rec b m, rec_mem (by omega), by rw [hf m hm 0 (by omega)]; exact he, ?_⟩
    unfold mayN mineN fightN at hc ⊢
    rw [hf m hm 1 (by omega), hf m hm 2 (by omega), hf k hk 1 (by omega), hf k hk 2 (by omega)]
    exact hc
theorem tellR_fld (u : List Int) (d x y t : Int) : (∀ j, (j < 6 ∨ j = 10) → fld (tellR u d x y t) j = fld u j) ∧ fld (tellR u d x y t) 6 = d ∧ fld (tellR u d x y t) 7 = x ∧ fld (tellR u d x y t) 8 = y ∧ fld (tellR u d x y t) 9 = t := by
  refine ⟨fun j hj => ?_, ?_, ?_, ?_, ?_⟩
  · unfold tellR
    rw [fld_updR _ _ _ (by omega), if_neg (by omega), fld_updR _ _ _ (by omega), if_neg (by omega), fld_updR _ _ _ (by omega), if_neg (by omega), fld_updR _ _ _ (by omega), if_neg (by omega)]
  · simp [tellR, fld_updR]
  · simp [tellR, fld_updR]
  · simp [tellR, fld_updR]
  · simp [tellR, fld_updR]
theorem invN_tell {s : St} (h : InvN s) {i : Nat} (hi : i < s.es.length) {d x y t : Int} (hd : 0 ≤ d ∧ d ≤ 3) (ht : 0 ≤ t ∧ t ≤ 2000) (hp : placeN (tellR (rec s.es i) d x y t) = true) (hg : targetE (tellR (rec s.es i) d x y t) = true)
    (ha : 0 < t → ∃ v ∈ s.es, fld v 0 = t ∧ mayN d (rec s.es i) v = true) : InvN { s with es := s.es.set i (tellR (rec s.es i) d x y t) } := by
  obtain ⟨h5, h6, h7, h8, h9⟩ := tellR_fld (rec s.es i) d x y t
  refine invN_alike h (by simp) (fun k hk j hj => ?_) (fun k hk => ?_) (fun k hk => ?_)
  · rw [rec_set hk]
    split
    next e => rw [e]; exact h5 j hj
    · rfl
  · rw [rec_set hk]
    split
    · rw [h6, h9]
      exact ⟨hd, ht, hp, hg⟩
    · have hm := rec_mem hk
      have hb := boundsN_true (h.bd _ hm)
      exact ⟨hb.2.2.2.1, hb.2.2.2.2.1, h.pl _ hm, h.tg _ hm⟩
  · rw [rec_set hk]
    split
    next e =>
      subst e
      rw [h6, h9]
      exact ha
    · exact h.am _ (rec_mem hk)
theorem invN_stop {s : St} (h : InvN s) {i : Nat} (hi : i < s.es.length) : InvN (stopR s i) := by
  obtain ⟨_, h6, h7, h8, h9⟩ := tellR_fld (rec s.es i) 0 0 0 0
  refine invN_tell h hi (by omega) (by omega) ?_ ?_ (fun h => by omega)
  · unfold placeN
    rw [h6, h7, h8]
    rfl
  · unfold targetE
    rw [h6, h9]
    rfl
theorem invN_go {s : St} (h : InvN s) {i : Nat} (hi : i < s.es.length) (x y : Int) : InvN (goesR true s i x y) := by
  unfold goesR
  split
  next hc =>
    obtain ⟨h5, h6, h7, h8, h9⟩ := tellR_fld (rec s.es i) 1 x y 0
    rw [Bool.and_eq_true] at hc
    refine invN_tell h hi (by omega) (by omega) ?_ ?_ (fun h => by omega)
    · unfold placeN
      rw [h6, h7, h8, h5 2 (by omega), if_pos rfl, hc.1]
      exact hc.2
    · unfold targetE
      rw [h6, h9]
      rfl
  · exact h
theorem mayZ_cases (u v : List Int) : mayZ true u v = 0 ∨ mayZ true u v = 2 ∨ mayZ true u v = 3 := by
  have e1 : mayZ true u v = if fld v 2 = 4 ∧ 0 < Pl.nLoad (fld u 2) then 3 else if fld v 2 ≠ 4 ∧ fld v 1 ≠ fld u 1 ∧ 0 < Pl.nHarm (fld u 2) then 2 else 0 := rfl
  rw [e1]
  split
  · exact Or.inr (Or.inr rfl)
  · split
    · exact Or.inr (Or.inl rfl)
    · exact Or.inl rfl
theorem invN_aim {s : St} (h : InvN s) {i : Nat} (hi : i < s.es.length) (t d : Int) : InvN (aimsR true s i t d) := by
  unfold aimsR
  split
  next hc =>
    obtain ⟨hw, hd0, hm⟩ := hc
    have hw' : 0 ≤ idxZ (isId t) s.es := hw
    obtain ⟨hk, hp⟩ := idxZ_at hw'
    have hid : fld (rec s.es (whoZ t s.es).toNat) 0 = t := eq_of_beq hp
    have hmem : rec s.es (whoZ t s.es).toNat ∈ s.es := rec_mem hk
    have hb := (boundsN_true (h.bd _ hmem)).1
    rw [hid] at hb
    have hd : d = 2 ∨ d = 3 := by
      rcases mayZ_cases (rec s.es i) (rec s.es (whoZ t s.es).toNat) with e | e | e
      · omega
      · exact Or.inl (by omega)
      · exact Or.inr (by omega)
    obtain ⟨h5, h6, h7, h8, h9⟩ := tellR_fld (rec s.es i) d 0 0 t
    refine invN_tell h hi (by omega) (by omega) ?_ ?_ (fun _ => ⟨_, hmem, hid, (mayZN hd _ _).1 hm⟩)
    · unfold placeN
      rw [h6, h7, h8, if_neg (by omega)]
      rfl
    · unfold targetE
      rw [h6, h9, decide_eq_true (show 0 < t by omega)]
      rcases hd with rfl | rfl <;> rfl
  · exact h
theorem putK_last {u : List Int} {us : List (List Int)} (h : ∀ x ∈ us, fld x 0 < fld u 0) : ∀ k, k ≤ us.length → putK u us k = (us.take k, false) := by
  intro k
  induction k with
  | zero => intro _; rfl
  | succ k ih =>
    intro hk
    rw [putK_succ (by omega), ih (by omega)]
    have := h _ (rec_mem (show k < us.length by omega))
    unfold putS
    rw [decide_eq_false (by omega)]
    simp only [Bool.not_false, Bool.and_false, Bool.false_eq_true, if_false]
    rw [take_rec (by omega)]
theorem putR_last {u : List Int} {us : List (List Int)} (h : ∀ x ∈ us, fld x 0 < fld u 0) : putR u us = us ++ [u] := by
  unfold putR
  rw [putK_last h _ (Nat.le_refl _), List.take_length]
  rfl
def bornN (s : St) (u : List Int) (k x y : Int) : List Int := newR true s.t s.nx (fld u 1) k x y
theorem buildN (s : St) (hf : s.free = []) (hl : ∀ v ∈ s.es, fld v 0 < s.nx) (u : List Int) (k x y : Int) :
    buildR true s u k x y = if soonR true u k x y = true then s else if lateR true s u k x y = true then s else if 2000 < s.nx then s else
      { payS { s with nx := s.nx + 1 } (fld u 1) (Pl.nCost k) with es := s.es ++ [bornN s u k x y], born := s.born ++ [s.nx] } := by
  unfold buildR doneR takeR
  rw [if_pos hf]
  have e : topZ true = 2000 := rfl
  rw [e]
  split
  · rfl
  · split
    · rfl
    · by_cases hn : 2000 < s.nx
      · rw [if_pos hn, if_pos hn]
      · rw [if_neg hn, if_neg hn]
        show finR true s.t u k x y s.nx { s with nx := s.nx + 1 } = _
        unfold finR
        have hp : putR (newR true s.t s.nx (fld u 1) k x y) s.es = s.es ++ [newR true s.t s.nx (fld u 1) k x y] := putR_last hl
        show ({ payS { s with nx := s.nx + 1 } (fld u 1) (fld (ruleL true k) 0) with es := putR (newR true s.t s.nx (fld u 1) k x y) s.es, born := s.born ++ [s.nx] } : St) = _
        rw [hp]
        rfl
theorem payN (s : St) (o c : Int) : payS s o c = { s with g0 := if o = 0 then s.g0 - c else s.g0, g1 := if o = 0 then s.g1 else s.g1 - c } := by
  unfold payS
  split <;> rfl
theorem costN_bd (k : Int) : 0 ≤ Pl.nCost k ∧ Pl.nCost k ≤ 15 := by
  unfold Pl.nCost
  repeat' split
  all_goals omega
theorem invN_build {s : St} (h : InvN s) {i : Nat} (hi : i < s.es.length) (k x y : Int) : InvN (buildR true s (rec s.es i) k x y) := by
  rw [buildN s h.fr h.lt]
  split
  · exact h
  next hso =>
    split
    · exact h
    next hla =>
      split
      · exact h
      next hnx =>
        have hm := rec_mem hi
        generalize rec s.es i = u at hm hso hla
        unfold soonR at hso
        simp only [Bool.or_eq_true, not_or, Bool.not_eq_true', Bool.not_eq_false, beq_iff_eq, bne_iff_ne, ne_eq, Decidable.not_not] at hso
        obtain ⟨hhas, hk4, hk1, hon⟩ := hso
        have hhas' : Pl.nHas k = true := hhas
        unfold lateR at hla
        simp only [Bool.or_eq_true, not_or, decide_eq_true_eq, beq_iff_eq] at hla
        obtain ⟨hst, hfar, hgold, hlen⟩ := hla
        have hgold' : ¬ goldOf s (fld u 1) < Pl.nCost k := hgold
        have how : fld u 1 = 0 ∨ fld u 1 = 1 := by
          have ho := h.ow u hm
          unfold ownerE inZ at ho
          rw [if_neg (by omega), decide_eq_true_eq] at ho
          omega
        have hon' := Pl.onB_true hon
        have hel := h.el
        have hc := costN_bd k
        have a0 := h.a0
        have a1 := h.a1
        have n0 := h.n0
        have t0 := h.t0
        rw [payN]
        have hNf : fld (bornN s u k x y) 0 = s.nx ∧ fld (bornN s u k x y) 1 = fld u 1 ∧ fld (bornN s u k x y) 2 = k ∧ fld (bornN s u k x y) 3 = x ∧ fld (bornN s u k x y) 4 = y ∧ fld (bornN s u k x y) 5 = Pl.nHP k ∧ fld (bornN s u k x y) 6 = 0 ∧ fld (bornN s u k x y) 7 = 0 ∧ fld (bornN s u k x y) 8 = 0 ∧ fld (bornN s u k x y) 9 = 0 ∧ fld (bornN s u k x y) 10 = s.t := ⟨rfl, rfl, rfl, rfl, rfl, rfl, rfl, rfl, rfl, rfl, rfl⟩
        generalize bornN s u k x y = v at hNf
        obtain ⟨v0, v1, v2, v3, v4, v5, v6, v7, v8, v9, v10⟩ := hNf
        have one : ∀ (P : List Int → Prop), (∀ w ∈ s.es, P w) → P v → ∀ w ∈ s.es ++ [v], P w := by
          intro P h1 h2 w hw
          rcases List.mem_append.1 hw with hw | hw
          · exact h1 w hw
          · rw [List.mem_singleton.1 hw]; exact h2
        have hhp : 1 ≤ Pl.nHP k ∧ mostN k = Pl.nHP k := by
          unfold mostN
          rw [if_neg hk4]
          refine ⟨?_, rfl⟩
          unfold Pl.nHas at hhas'
          unfold Pl.nHP
          revert hhas'
          repeat' split
          all_goals simp_all
          all_goals omega
        refine ⟨h.t0, h.t1, by show 1 ≤ s.nx + 1; omega, by show s.nx + 1 ≤ 2001; omega, ?_, ?_, ?_, one _ h.bd ?_, one _ h.ow ?_, one _ h.pl ?_, one _ h.tg ?_, one (fun w => fld w 0 < s.nx + 1) (fun w hw => by have := h.lt w hw; omega) (by rw [v0]; omega), one (fun w => 0 ≤ fld w 10 ∧ fld w 10 ≤ s.t) h.sn (by rw [v10]; omega), ?_, ?_, ?_, h.fr⟩
        · show 0 ≤ (if fld u 1 = 0 then s.g0 - Pl.nCost k else s.g0) ∧ (if fld u 1 = 0 then s.g0 - Pl.nCost k else s.g0) ≤ 1000
          unfold goldOf at hgold'
          split
          next e => rw [if_pos e] at hgold'; omega
          · omega
        · show 0 ≤ (if fld u 1 = 0 then s.g1 else s.g1 - Pl.nCost k) ∧ (if fld u 1 = 0 then s.g1 else s.g1 - Pl.nCost k) ≤ 1000
          unfold goldOf at hgold'
          split
          · omega
          next e => rw [if_neg e] at hgold'; omega
        · show (s.es ++ [v]).length ≤ 20
          rw [List.length_append]
          simp
          omega
        · unfold boundsN inZ
          rw [v0, v2, v3, v4, v5, v6, v9, hhas', hon, hhp.2]
          have e1 := hhp.1
          have e2 : s.nx ≤ 2000 := by omega
          simp [e1, e2, n0]
        · unfold ownerE inZ
          rw [v1, v2, if_neg hk4, decide_eq_true_eq]
          omega
        · unfold placeN
          rw [v6, v7, v8]
          rfl
        · unfold targetE
          rw [v6, v9]
          rfl
        · show (s.es ++ [v]).Pairwise _
          rw [List.pairwise_append]
          refine ⟨h.up, List.pairwise_singleton _ _, fun a ha b hb => ?_⟩
          rw [List.mem_singleton.1 hb, v0]
          exact h.lt a ha
        · show (s.es ++ [v]).Pairwise _
          rw [List.pairwise_append]
          refine ⟨h.ap, List.pairwise_singleton _ _, fun a ha b hb => ?_⟩
          rw [List.mem_singleton.1 hb, v3, v4]
          intro hx
          refine hst ?_
          unfold standsB
          rw [List.any_eq_true]
          exact ⟨a, ha, by rw [hx.1, hx.2]; simp⟩
        · refine one (fun w => 0 < fld w 9 → ∃ z ∈ s.es ++ [v], fld z 0 = fld w 9 ∧ mayN (fld w 6) w z = true) (fun w hw h9 => ?_) (fun h9 => by rw [v9] at h9; omega)
          obtain ⟨z, hz, he, hc⟩ := h.am w hw h9
          exact ⟨z, List.mem_append_left _ hz, he, hc⟩
def doN (s : St) (q : List Int) (i : Nat) : St :=
  if fld q 1 = 1 then goesR true s i (fld q 4) (fld q 5)
  else if fld q 1 = 2 then (if 0 ≤ whoZ (fld q 3) s.es then aimsR true s i (fld q 3) (mayZ true (rec s.es i) (rec s.es (whoZ (fld q 3) s.es).toNat)) else s)
  else if fld q 1 = 3 then buildR true s (rec s.es i) (fld q 3) (fld q 4) (fld q 5)
  else if fld q 1 = 4 then stopR s i
  else s
def ordN (s : St) (q : List Int) : St :=
  if whoZ (fld q 2) s.es < 0 then s
  else if fld (rec s.es (whoZ (fld q 2) s.es).toNat) 1 = fld q 0 then doN s q (whoZ (fld q 2) s.es).toNat
  else s
def ordsN (s : St) (l : List (List Int)) : St := l.foldl ordN s
theorem invN_ord {s : St} (h : InvN s) (q : List Int) : InvN (ordN s q) := by
  unfold ordN
  split
  · exact h
  next hz =>
    have hz' : 0 ≤ idxZ (isId (fld q 2)) s.es := by
      have : ¬ idxZ (isId (fld q 2)) s.es < 0 := hz
      omega
    have hi : (whoZ (fld q 2) s.es).toNat < s.es.length := (idxZ_at hz').1
    split
    · generalize (whoZ (fld q 2) s.es).toNat = i at hi
      unfold doN
      split
      · exact invN_go h hi _ _
      · split
        · split
          · exact invN_aim h hi _ _
          · exact h
        · split
          · exact invN_build h hi _ _ _
          · split
            · exact invN_stop h hi
            · exact h
    · exact h
theorem invN_ords : ∀ (l : List (List Int)) {s : St}, InvN s → InvN (ordsN s l) := by
  intro l
  induction l with
  | nil => exact fun h => h
  | cons q l ih => exact fun h => ih (invN_ord h q)
end Go.Proofs.Ytmnddahkbmlibaa

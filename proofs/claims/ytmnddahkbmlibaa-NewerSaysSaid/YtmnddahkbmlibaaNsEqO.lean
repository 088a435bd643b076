/- The reference's game and package newer, held against each other as plain functions: a tick's end. -/
import Derived.Test.YtmnddahkbmlibaaNsEqCA
import Derived.Test.YtmnddahkbmlibaaNsInO
namespace Go.Proofs.Ytmnddahkbmlibaa
open Go.RowKit Go.Maps
theorem nearRN (es : List (List Int)) (u : List Int) (hd : fld u 6 = 2 ∨ fld u 6 = 3) : nearR true es u = nearN u (tgtR es u) := by
  unfold nearR nearN
  have e2 : fld (ruleL true (fld u 2)) 4 = Pl.nRange (fld u 2) := rfl
  rw [e2]
  rcases hd with h | h
  · rw [h]
    simp
  · rw [h]
    simp
theorem restN (es : List (List Int)) {u : List Int} (h : 0 ≤ fld u 6 ∧ fld u 6 ≤ 3) : restR true es u = !(headBN (tgtR es u) u && decide (Pl.nSpeed (fld u 2) ≠ 0)) := by
  have e : restR true es u = ((fld u 6 == 0) || ((Pl.nSpeed (fld u 2) == 0) || (decide (1 < fld u 6) && nearR true es u))) := rfl
  have hz : decide (Pl.nSpeed (fld u 2) ≠ 0) = !(Pl.nSpeed (fld u 2) == 0) := by
    rw [Bool.eq_iff_iff]
    simp
  rw [e, hz]
  generalize (Pl.nSpeed (fld u 2) == 0) = sp
  unfold headBN
  by_cases h0 : fld u 6 = 0
  · rw [if_neg (by omega), if_neg (by omega), h0]
    rfl
  · have e0 : (fld u 6 == 0) = false := by simpa using h0
    rw [e0]
    by_cases h1 : fld u 6 = 1
    · rw [if_pos h1, decide_eq_false (by omega)]
      cases sp <;> rfl
    · have hd : fld u 6 = 2 ∨ fld u 6 = 3 := by omega
      rw [if_neg h1, if_pos hd, decide_eq_true (by omega), nearRN es u hd]
      cases sp <;> cases nearN u (tgtR es u) <;> rfl
theorem wishVN (es : List (List Int)) {u : List Int} (h : 0 ≤ fld u 6 ∧ fld u 6 ≤ 3) : wishN (tgtR es u) u = if (wishV true es u).2.2 = true then some ((wishV true es u).1, (wishV true es u).2.1) else none := by
  unfold wishV wishN
  rw [restN es h]
  cases hb : (headBN (tgtR es u) u && decide (Pl.nSpeed (fld u 2) ≠ 0)) with
  | false =>
    rw [if_neg]
    · simp
    · rintro ⟨h1, h3, _⟩
      rw [h1, decide_eq_true h3] at hb
      cases hb
  | true =>
    rw [Bool.and_eq_true, decide_eq_true_eq] at hb
    have hx : destX es u = headXN (tgtR es u) u := by
      unfold destX headXN
      by_cases h1 : fld u 6 = 1
      · rw [if_pos h1, if_neg (by omega)]
      · rw [if_neg h1]
        by_cases h2 : fld u 6 = 2 ∨ fld u 6 = 3
        · rw [if_pos h2, if_pos (by omega)]
        · unfold headBN at hb
          rw [if_neg h1, if_neg h2] at hb
          cases hb.1
    have hy : destY es u = headYN (tgtR es u) u := by
      unfold destY headYN
      by_cases h1 : fld u 6 = 1
      · rw [if_pos h1, if_neg (by omega)]
      · rw [if_neg h1]
        by_cases h2 : fld u 6 = 2 ∨ fld u 6 = 3
        · rw [if_pos h2, if_pos (by omega)]
        · unfold headBN at hb
          rw [if_neg h1, if_neg h2] at hb
          cases hb.1
    rw [hx, hy]
    simp only [Bool.not_true, Bool.false_eq_true, if_false]
    have hiff : (headBN (tgtR es u) u = true ∧ Pl.nSpeed (fld u 2) ≠ 0 ∧ (Pl.nearZ (fld u 3) (headXN (tgtR es u) u) ≠ fld u 3 ∨ Pl.nearZ (fld u 4) (headYN (tgtR es u) u) ≠ fld u 4)) ↔ ((Pl.nearZ (fld u 3) (headXN (tgtR es u) u) != fld u 3) || (Pl.nearZ (fld u 4) (headYN (tgtR es u) u) != fld u 4)) = true := by
      simp only [Bool.or_eq_true, bne_iff_ne]
      exact ⟨fun h => h.2.2, fun h => ⟨hb.1, hb.2, h⟩⟩
    by_cases hc : (headBN (tgtR es u) u = true ∧ Pl.nSpeed (fld u 2) ≠ 0 ∧ (Pl.nearZ (fld u 3) (headXN (tgtR es u) u) ≠ fld u 3 ∨ Pl.nearZ (fld u 4) (headYN (tgtR es u) u) ≠ fld u 4))
    · rw [if_pos hc, if_pos (hiff.1 hc)]
    · rw [if_neg hc, if_neg (fun h => hc (hiff.2 h))]
theorem wishVO (es : List (List Int)) (old : List Int) {u : List Int} (h : 0 ≤ fld u 6 ∧ fld u 6 ≤ 3) : wishO es old u = if ((wishV true es u).2.2 && isB old (fld u 0)) = true then some ((wishV true es u).1, (wishV true es u).2.1) else none := by
  unfold wishO
  rw [wishVN es h]
  cases (wishV true es u).2.2 <;> cases isB old (fld u 0) <;> rfl
theorem standsN (x y : Int) (es : List (List Int)) : standsB x y es = decide (0 < es.countP (isAt x y)) := by
  rw [Bool.eq_iff_iff, decide_eq_true_eq, List.countP_pos_iff]
  unfold standsB
  rw [List.any_eq_true]
  rfl
theorem moveFO {s : St} (h : InvN s) (old : List Int) {k : Nat} (hk : k < s.es.length) : moveF true s.es old k = moveO s.es old (rec s.es k) := by
  have hb : ∀ j, j < s.es.length → 0 ≤ fld (rec s.es j) 6 ∧ fld (rec s.es j) 6 ≤ 3 := fun j hj => (boundsN_true (h.bd _ (rec_mem hj))).2.2.2.1
  have hw := wishVO s.es old (hb k hk)
  unfold moveF leaveR moveO
  generalize hwv : wishV true s.es (rec s.es k) = wv at hw
  obtain ⟨x, y, b⟩ := wv
  simp only at hw ⊢
  cases hc : (b && isB old (fld (rec s.es k) 0)) with
  | false =>
    rw [hc] at hw
    simp only [Bool.false_eq_true, if_false] at hw
    rw [hw]
    have hl : (!b || (standsB x y s.es || !isB old (fld (rec s.es k) 0))) = true := by
      revert hc
      cases b <;> cases isB old (fld (rec s.es k) 0) <;> simp
    rw [if_pos hl]
  | true =>
    rw [hc] at hw
    simp only [if_true] at hw
    rw [hw]
    rw [Bool.and_eq_true] at hc
    rw [hc.1, hc.2]
    have hcw : 1 ≤ s.es.countP (fun u => decide (wishO s.es old u = some (x, y))) := count_one (rec_mem hk) (decide_eq_true hw)
    have hcl : claimsO s.es old x y = s.es.countP (isAt x y) + s.es.countP (fun u => decide (wishO s.es old u = some (x, y))) := rfl
    simp only [Bool.not_true, Bool.false_or, Bool.or_false]
    cases hs : standsB x y s.es with
    | true =>
      rw [standsN, decide_eq_true_eq] at hs
      simp only [if_true]
      rw [if_neg (by omega)]
    | false =>
      rw [standsN, decide_eq_false_iff_not] at hs
      simp only [Bool.false_eq_true, if_false]
      have hal : aloneR true s.es old x y k s.es.length = true ↔ claimsO s.es old x y = 1 := by
        have h1 : claimsO s.es old x y = 1 ↔ s.es.countP (fun u => decide (wishO s.es old u = some (x, y))) = 1 := by omega
        rw [h1, count_alone hk (p := fun u => decide (wishO s.es old u = some (x, y))) (decide_eq_true hw)]
        unfold aloneR
        rw [List.all_eq_true]
        have hit : ∀ j, j < s.es.length → hitR true s.es old x y k j = (decide (j ≠ k) && decide (wishO s.es old (rec s.es j) = some (x, y))) := by
          intro j hj
          have hwj := wishVO s.es old (hb j hj)
          unfold hitR
          rw [hwj]
          generalize wishV true s.es (rec s.es j) = wj
          obtain ⟨a, c, d⟩ := wj
          simp only
          have hjk : decide ((j : Int) ≠ (k : Int)) = decide (j ≠ k) := by
            rw [Bool.eq_iff_iff, decide_eq_true_eq, decide_eq_true_eq]
            omega
          rw [hjk]
          cases d with
          | false => simp
          | true =>
            cases isB old (fld (rec s.es j) 0) with
            | false => simp
            | true =>
              rw [Bool.eq_iff_iff]
              simp [and_assoc]
        constructor
        · intro h2 j hj hne
          have := h2 j (List.mem_range.2 hj)
          rw [hit j hj, decide_eq_true hne] at this
          simpa using this
        · intro h2 j hj
          have hj := List.mem_range.1 hj
          rw [hit j hj]
          by_cases e : j = k
          · rw [decide_eq_false (fun hn => hn e)]; rfl
          · rw [h2 j hj e, Bool.and_false]; rfl
      by_cases ha : claimsO s.es old x y = 1
      · rw [if_pos (hal.2 ha), if_pos ha]
      · rw [if_neg (fun h => ha (hal.1 h)), if_neg ha]
theorem moveRO {s : St} (h : InvN s) (old : List Int) : moveR true s.es old = s.es.map (moveO s.es old) := by
  unfold moveR
  refine ext_rec (by rw [idxK_len]; simp) fun j hj => ?_
  rw [idxK_len] at hj
  rw [idxK_rec _ _ _ hj, if_pos hj, moveFO h old hj]
  rw [rec_at (show j < (s.es.map (moveO s.es old)).length by simpa using hj), List.getElem_map, rec_at hj]
theorem goneO {s : St} (h : InvN s) (old : List Int) : arriveR old (moveR true s.es old) = (arriveSO (moveSO s old) old).es := by
  rw [moveRO h]
  rfl
theorem lessO_next {es : List (List Int)} (old : List Int) {k : Nat} (hk : k < es.length) (id : Int) : lessO es old (es.take (k + 1)) id = if strikeO es old (rec es k) = true ∧ fld (rec es k) 9 = id then lessO es old (es.take k) id + amountO (rec es k) else lessO es old (es.take k) id := by
  unfold lessO
  rw [take_rec hk, List.foldl_append]
  rfl
theorem earnO_next {es : List (List Int)} (old : List Int) {k : Nat} (hk : k < es.length) (o g : Int) : earnO es old o (es.take (k + 1)) g = if strikeO es old (rec es k) = true ∧ fld (rec es k) 6 ≠ 2 ∧ fld (rec es k) 1 = o then min (earnO es old o (es.take k) g + Pl.nLoad (fld (rec es k) 2)) 1000 else earnO es old o (es.take k) g := by
  unfold earnO
  rw [take_rec hk, List.foldl_append]
  rfl
structure ToilsN (s : St) (old : List Int) (k : Nat) (a : List Int × Int × Int) : Prop where
  len : a.1.length = 20
  less : ∀ j, j < s.es.length → fld a.1 j = lessO s.es old (s.es.take k) (fld (rec s.es j) 0)
  g0 : a.2.1 = earnO s.es old 0 (s.es.take k) s.g0
  g1 : a.2.2 = earnO s.es old 1 (s.es.take k) s.g1
theorem aimsN {s : St} (h : InvN s) {u : List Int} (hu : u ∈ s.es) (h9 : fld u 9 ≠ 0) : fld u 6 = 2 ∨ fld u 6 = 3 := by
  have hb := (boundsN_true (h.bd u hu)).2.2.2.2.1
  have ht := h.tg u hu
  unfold targetE at ht
  rw [decide_eq_true (show 0 < fld u 9 by omega)] at ht
  have : (fld u 6 == 2 || fld u 6 == 3) = true := by simpa using ht
  rw [Bool.or_eq_true, beq_iff_eq, beq_iff_eq] at this
  exact this
theorem own01N {s : St} (h : InvN s) {u : List Int} (hu : u ∈ s.es) (h9 : fld u 9 ≠ 0) : fld u 1 = 0 ∨ fld u 1 = 1 := by
  have ht := invN_target h hu (aimsN h hu h9)
  have ho := h.ow _ hu
  have hk : fld u 2 ≠ 4 := by
    intro e
    have hm := ht.2.2.2
    unfold mayN mineN fightN at hm
    rw [e] at hm
    have e1 : Pl.nLoad 4 = 0 := by decide
    have e2 : Pl.nHarm 4 = 0 := by decide
    rw [e1, e2] at hm
    split at hm
    · simp at hm
    · simp at hm
  unfold ownerE at ho
  rw [if_neg hk] at ho
  unfold inZ at ho
  rw [decide_eq_true_eq] at ho
  omega
theorem toilsN_step {s : St} (h : InvN s) (old : List Int) {k : Nat} (hk : k < s.es.length) {a : List Int × Int × Int} (ha : ToilsN s old k a) : ToilsN s old (k + 1) (toilS true s.es old a (rec s.es k)) := by
  have hm := rec_mem hk
  have hln : ∀ id, lessO s.es old (s.es.take (k + 1)) id = _ := fun id => lessO_next old hk id
  have hen : ∀ o g, earnO s.es old o (s.es.take (k + 1)) g = _ := fun o g => earnO_next old hk o g
  generalize rec s.es k = u at hm hln hen
  have hse : strikeO s.es old u = (isB old (fld u 0) && (decide (fld u 9 ≠ 0) && nearN u (tgtR s.es u))) := rfl
  unfold toilS
  have stay : strikeO s.es old u = false → ToilsN s old (k + 1) a := fun hs => by
    refine ⟨ha.len, fun j hj => ?_, ?_, ?_⟩
    · rw [hln, hs, if_neg (fun x => by cases x.1)]
      exact ha.less j hj
    · rw [hen, hs, if_neg (fun x => by cases x.1)]
      exact ha.g0
    · rw [hen, hs, if_neg (fun x => by cases x.1)]
      exact ha.g1
  cases hw : isB old (fld u 0) with
  | false =>
    rw [hw] at hse
    simp only [Bool.not_false, Bool.true_or, if_true]
    exact stay hse
  | true =>
    rw [hw] at hse
    by_cases h9 : fld u 9 = 0
    · rw [decide_eq_false (fun hn => hn h9)] at hse
      rw [h9]
      simp only [Bool.not_true, Bool.false_or, beq_self_eq_true, if_true]
      exact stay hse
    rw [decide_eq_true h9] at hse
    have h9b : (fld u 9 == 0) = false := by simpa using h9
    rw [h9b]
    have hd := aimsN h hm h9
    rw [nearRN s.es u hd]
    simp only [Bool.not_true, Bool.false_or, Bool.false_eq_true, if_false]
    cases hn : nearN u (tgtR s.es u) with
    | false =>
      rw [hn] at hse
      simp only [Bool.false_eq_true, if_false]
      exact stay hse
    | true =>
      rw [hn] at hse
      have hst : strikeO s.es old u = true := hse
      simp only [if_true]
      obtain ⟨hi0, _, hi2, _⟩ := invN_target h hm hd
      have hwn : whoN s.es u = (idxZ (isId (fld u 9)) s.es).toNat := rfl
      have hkl := (idxZ_at hi0).1
      have hid : fld (rec s.es (idxZ (isId (fld u 9)) s.es).toNat) 0 = fld u 9 := hi2
      rw [hwn]
      generalize (idxZ (isId (fld u 9)) s.es).toNat = m at hkl hid
      have hel := h.el
      have hL : ∀ x, x = amountO u → ∀ j, j < s.es.length → fld (a.1.set m (fld a.1 m + x)) j = lessO s.es old (s.es.take (k + 1)) (fld (rec s.es j) 0) := by
        intro x hx j hj
        rw [fld_set _ _ _ _ (by rw [ha.len]; omega), hln, hst, ← hx]
        by_cases e : j = m
        · subst e
          rw [if_pos rfl, if_pos ⟨rfl, hid.symm⟩, ha.less j hj]
        · rw [if_neg e, if_neg (fun hx => e (uniq_of_up h.up j m hj hkl (by rw [hid]; exact hx.2.symm)))]
          exact ha.less j hj
      have hlen : ∀ x, (a.1.set m x).length = 20 := fun x => by rw [List.length_set]; exact ha.len
      by_cases h2 : fld u 6 = 2
      · rw [if_pos h2]
        refine ⟨hlen _, hL _ (by unfold amountO; rw [if_pos h2]; rfl), ?_, ?_⟩
        · rw [hen, if_neg (fun hx => hx.2.1 h2)]
          exact ha.g0
        · rw [hen, if_neg (fun hx => hx.2.1 h2)]
          exact ha.g1
      · rw [if_neg h2]
        have hdg : digG true u a.2 = if fld u 1 = 0 then (min 1000 (a.2.1 + Pl.nLoad (fld u 2)), a.2.2) else (a.2.1, min 1000 (a.2.2 + Pl.nLoad (fld u 2))) := rfl
        refine ⟨hlen _, hL _ (by unfold amountO; rw [if_neg h2]; rfl), ?_, ?_⟩
        · show (digG true u a.2).1 = _
          rw [hdg, hen, hst, ← ha.g0]
          by_cases ho : fld u 1 = 0
          · rw [if_pos ho, if_pos ⟨rfl, h2, ho⟩]
            show min 1000 _ = _
            rw [Int.min_comm]
          · rw [if_neg ho, if_neg (fun hx => ho hx.2.2)]
        · show (digG true u a.2).2 = _
          rw [hdg, hen, hst, ← ha.g1]
          by_cases ho : fld u 1 = 0
          · rw [if_pos ho, if_neg (fun hx => by have := hx.2.2; omega)]
          · have ho1 : fld u 1 = 1 := by
              have := own01N h hm h9
              omega
            rw [if_neg ho, if_pos ⟨rfl, h2, ho1⟩]
            show min 1000 _ = _
            rw [Int.min_comm]
theorem toilsN {s : St} (h : InvN s) (old : List Int) : ∀ k, k ≤ s.es.length → ToilsN s old k (toilK true s.es old (s.g0, s.g1) k) := by
  intro k
  induction k with
  | zero =>
    intro _
    rw [toilK_zero]
    refine ⟨rfl, fun j _ => ?_, rfl, rfl⟩
    show fld (List.replicate 20 (0 : Int)) j = 0
    unfold fld
    rw [List.getD_eq_getElem?_getD, List.getElem?_replicate]
    split <;> rfl
  | succ k ih =>
    intro hk
    rw [toilK_succ (by omega)]
    exact toilsN_step h old (by omega) (ih (by omega))
theorem hurtRO (es : List (List Int)) (old : List Int) (L : List Int) (h : ∀ j, j < es.length → fld L j = lessO es old es (fld (rec es j) 0)) : hurtR es L = es.map (hurtO es old) := by
  unfold hurtR
  refine ext_rec (by rw [idxK_len]; simp) fun j hj => ?_
  rw [idxK_len] at hj
  rw [idxK_rec _ _ _ hj, if_pos hj]
  unfold hurtF
  rw [h j hj, rec_at (show j < (es.map (hurtO es old)).length by simpa using hj), List.getElem_map, ← rec_at hj]
  rfl
theorem buryRO : ∀ (B acc : List (List Int)) (fr : List Int), B.foldl (burySR true) (acc, fr) = (acc ++ B.filter aliveB, fr)
  | [], acc, fr => by simp
  | u :: B, acc, fr => by
    rw [List.foldl_cons]
    have e : burySR true (acc, fr) u = if 0 < fld u 5 then (acc ++ [u], fr) else (acc, fr) := rfl
    rw [e]
    by_cases h : 0 < fld u 5
    · have ha : aliveB u = true := decide_eq_true h
      rw [if_pos h, buryRO B]
      simp [ha]
    · have ha : aliveB u = false := decide_eq_false h
      rw [if_neg h, buryRO B]
      simp [ha]
theorem toilRO {s : St} (h : InvN s) (old : List Int) : toilR true s old = { buryO (strikeSO s old) with t := s.t + 1 } := by
  have ht := toilsN h old s.es.length (Nat.le_refl _)
  have hl := ht.less
  have hg0 := ht.g0
  have hg1 := ht.g1
  simp only [List.take_length] at hl hg0 hg1
  have e1 : toilT true s old = toilK true s.es old (s.g0, s.g1) s.es.length := rfl
  have hb : toilBk true s old = ((s.es.map (hurtO s.es old)).filter aliveB, s.free) := by
    unfold toilBk
    rw [e1, hurtRO s.es old _ hl]
    unfold buryK
    rw [List.take_of_length_le (by simp), buryRO]
    rfl
  unfold toilR
  rw [hb, e1, hg0, hg1]
  rfl
theorem endRO {s : St} (h : InvN s) (old : List Int) : endR true s old = endO s old := by
  unfold endR
  rw [goneO h old]
  exact toilRO (invN_arrive (invN_move h old) old) old
theorem wishOkN {s : St} (h : InvN s) {i : Nat} (hi : i < s.es.length) : WishOk s.es (rec s.es i) := by
  have hm := rec_mem hi
  generalize rec s.es i = u at hm
  have h6 := (boundsN_true (h.bd u hm)).2.2.2.1
  refine ⟨invN_on h hm, fun h1 => ?_, fun h0 h1 => ?_⟩
  · obtain ⟨a, b, _, _⟩ := invN_target h hm (by omega)
    exact ⟨a, invN_on h b⟩
  · have hp := h.pl u hm
    unfold placeN at hp
    rw [if_pos (by omega), Bool.and_eq_true] at hp
    exact Pl.onB_true hp.1
theorem toilOkN {s : St} (h : InvN s) {i : Nat} (hi : i < s.es.length) (h9 : fld (rec s.es i) 9 ≠ 0) : ToilOk s.es (rec s.es i) := by
  have hm := rec_mem hi
  generalize rec s.es i = u at hm h9
  obtain ⟨a, b, _, _⟩ := invN_target h hm (aimsN h hm h9)
  exact ⟨invN_on h hm, a, invN_on h b, fun _ => own01N h hm h9⟩
theorem hpN {s : St} (h : InvN s) {i : Nat} (hi : i < s.es.length) : 0 ≤ fld (rec s.es i) 5 ∧ fld (rec s.es i) 5 ≤ 1000 := by
  have hb := (boundsN_true (h.bd _ (rec_mem hi))).2.2.1
  have : mostN (fld (rec s.es i) 2) ≤ 1000 := by
    unfold mostN Pl.nHP
    repeat' split
    all_goals omega
  omega
end Go.Proofs.Ytmnddahkbmlibaa

/- The reference's game: a tick's end, whole. -/
import Derived.Test.YtgiieepfhohmhaaRefN
import Derived.Test.YtgiieepfhohmhaaRefU
import Derived.Test.YtgiieepfhohmhaaRefMA
namespace Go.Proofs.Ytgiieepfhohmhaa
open Go.RowKit Go.Maps

def endR (nw : Bool) (s : St) (old : List Int) : St := toilR nw { s with es := arriveR old (moveR nw s.es old) } old
theorem endLen (nw : Bool) (es : List (List Int)) (old : List Int) : (arriveR old (moveR nw es old)).length = es.length := by
  unfold arriveR moveR
  rw [List.length_map, idxK_len]

theorem refEnds_calls (base p : Nat) (nw : Bool) (s : St) (uv fv bv : Value) (old : List Int) (oa : Option Addr) (oc : Nat) (w : World) (hG : Gr base w p uv fv bv nw s) (hbs : base ≤ w.heap.size) (hn : s.es.length ≤ 20) (hol : old.length ≤ 1000) (hon : Nums w oa old)
    (hoa : ∀ b o, oa = some ⟨b, o, none⟩ → b < w.heap.size ∧ Apart w p b) (hok : ∀ i, i < s.es.length → WishOk s.es (rec s.es i))
    (htk : ∀ i, i < s.es.length → isB old (fld (rec (arriveR old (moveR nw s.es old)) i) 0) = true → fld (rec (arriveR old (moveR nw s.es old)) i) 9 ≠ 0 → ToilOk (arriveR old (moveR nw s.es old)) (rec (arriveR old (moveR nw s.es old)) i))
    (hg0 : 0 ≤ s.g0 ∧ s.g0 ≤ 2000) (hg1 : 0 ≤ s.g1 ∧ s.g1 ≤ 2000) (hhp : ∀ i, i < s.es.length → 0 ≤ fld (rec (arriveR old (moveR nw s.es old)) i) 5 ∧ fld (rec (arriveR old (moveR nw s.es old)) i) 5 ≤ 1000) (hfl : s.free.length ≤ 1000) (ht : 0 ≤ s.t ∧ s.t ≤ 1000) :
    Calls Try.prog 92 #[.pointer (some ⟨p, 0, none⟩), .slice oa old.length oc] w fun e w' => e = .returned (.tuple #[]) ∧ GrE base w' p nw (endR nw s old) ∧ Below base w w' := by
  refine ends_calls base p nw s uv fv bv old oa oc w hG hbs hn hol hon hoa hok (endR nw s old) fun X hX hbX hcX hnX hoX haX => ?_
  have hl := endLen nw s.es old
  exact toil_calls base p nw { s with es := arriveR old (moveR nw s.es old) } uv fv bv old oa oc w.heap.size X hX hbX (by show (arriveR old (moveR nw s.es old)).length ≤ 20; omega) hol ⟨hcX, hnX⟩ hoX haX (fun i hi => htk i (by have h : i < (arriveR old (moveR nw s.es old)).length := hi; omega)) hg0 hg1 (fun i hi => hhp i (by have h : i < (arriveR old (moveR nw s.es old)).length := hi; omega)) hfl ht
end Go.Proofs.Ytgiieepfhohmhaa

/- The reference's game and the program's, held against each other: a tick's end. -/
namespace Go.Proofs.Ytgiieepfhohmhaa
open Go.RowKit Go.Maps

theorem isB_was (old : List Int) (id : Int) : isB old id = decide (wasF old id ≠ 0) := by
  rw [Bool.eq_iff_iff, decide_eq_true_eq]
  unfold isB wasF
  rw [List.any_eq_true]
  constructor
  · rintro ⟨x, hx, he⟩
    rw [beq_iff_eq] at he
    subst he
    rw [if_pos hx]
    decide
  · intro h
    by_cases hm : id ∈ old
    · exact ⟨id, hm, by simp⟩
    · rw [if_neg hm] at h
      exact absurd rfl h
theorem tgtF (es : List (List Int)) (u : List Int) {j : Nat} (h : j < 10) : fld (tgtR (es.map unitE) (unitE u)) j = fld (tgtE es u) j := by
  unfold tgtR tgtE
  have e : fld (unitE u) 9 = fld u 9 := rfl
  rw [e, whoU, frecU _ _ h]
theorem nearU (es : List (List Int)) (u : List Int) (hd : fld u 6 = 2 ∨ fld u 6 = 3) : nearR false (es.map unitE) (unitE u) = nearE u (tgtE es u) := by
  unfold nearR nearE
  rw [tgtF es u (by omega), tgtF es u (by omega)]
  have e : ∀ j, j < 10 → fld (unitE u) j = fld u j := fun j h => fldU u h
  rw [e 6 (by omega), e 3 (by omega), e 4 (by omega), e 2 (by omega)]
  have e2 : fld (ruleL false (fld u 2)) 4 = Pl.eRange (fld u 2) := rfl
  rw [e2]
  rcases hd with h | h
  · rw [h]
    simp
  · rw [h]
    simp
theorem restU (es : List (List Int)) {u : List Int} (h : 0 ≤ fld u 6 ∧ fld u 6 ≤ 3) : restR false (es.map unitE) (unitE u) = !(headB es u && decide (Pl.eSpeed (fld u 2) ≠ 0)) := by
  have e : restR false (es.map unitE) (unitE u) = ((fld u 6 == 0) || ((Pl.eSpeed (fld u 2) == 0) || (decide (1 < fld u 6) && nearR false (es.map unitE) (unitE u)))) := rfl
  have hz : decide (Pl.eSpeed (fld u 2) ≠ 0) = !(Pl.eSpeed (fld u 2) == 0) := by
    rw [Bool.eq_iff_iff]
    simp
  rw [e, hz]
  generalize (Pl.eSpeed (fld u 2) == 0) = sp
  unfold headB
  by_cases h0 : fld u 6 = 0
  · rw [if_neg (by omega), if_neg (by omega), h0]
    rfl
  · have e0 : (fld u 6 == 0) = false := by simpa using h0
    rw [e0]
    by_cases h1 : fld u 6 = 1
    · rw [if_pos h1, decide_eq_false (by omega)]
      cases sp <;> rfl
    · have hd : fld u 6 = 2 ∨ fld u 6 = 3 := by omega
      rw [if_neg h1, if_pos hd, decide_eq_true (by omega), nearU es u hd]
      cases sp <;> cases nearE u (tgtE es u) <;> rfl
theorem wishU (es : List (List Int)) (old : List Int) {u : List Int} (h : 0 ≤ fld u 6 ∧ fld u 6 ≤ 3) :
    wishE es (wasF old) u = if ((wishV false (es.map unitE) (unitE u)).2.2 && isB old (fld u 0)) = true then some ((wishV false (es.map unitE) (unitE u)).1, (wishV false (es.map unitE) (unitE u)).2.1) else none := by
  unfold wishV wishE
  rw [restU es h, isB_was]
  cases hb : (headB es u && decide (Pl.eSpeed (fld u 2) ≠ 0)) with
  | false =>
    rw [if_neg]
    · simp
    · rintro ⟨h1, _, h3, _⟩
      rw [h1, decide_eq_true h3] at hb
      cases hb
  | true =>
    rw [Bool.and_eq_true, decide_eq_true_eq] at hb
    have hx : destX (es.map unitE) (unitE u) = headX es u := by
      unfold destX headX
      rw [tgtF es u (by omega)]
      have e6 : fld (unitE u) 6 = fld u 6 := rfl
      have e7 : fld (unitE u) 7 = fld u 7 := rfl
      rw [e6, e7]
      by_cases h1 : fld u 6 = 1
      · rw [if_pos h1, if_neg (by omega)]
      · rw [if_neg h1]
        by_cases h2 : fld u 6 = 2 ∨ fld u 6 = 3
        · rw [if_pos h2, if_pos (by omega)]
        · unfold headB at hb
          rw [if_neg h1, if_neg h2] at hb
          cases hb.1
    have hy : destY (es.map unitE) (unitE u) = headY es u := by
      unfold destY headY
      rw [tgtF es u (by omega)]
      have e6 : fld (unitE u) 6 = fld u 6 := rfl
      have e7 : fld (unitE u) 8 = fld u 8 := rfl
      rw [e6, e7]
      by_cases h1 : fld u 6 = 1
      · rw [if_pos h1, if_neg (by omega)]
      · rw [if_neg h1]
        by_cases h2 : fld u 6 = 2 ∨ fld u 6 = 3
        · rw [if_pos h2, if_pos (by omega)]
        · unfold headB at hb
          rw [if_neg h1, if_neg h2] at hb
          cases hb.1
    have e3 : fld (unitE u) 3 = fld u 3 := rfl
    have e4 : fld (unitE u) 4 = fld u 4 := rfl
    rw [hx, hy, e3, e4]
    simp only [Bool.not_true, Bool.false_eq_true, if_false]
    have hiff : (headB es u = true ∧ wasF old (fld u 0) ≠ 0 ∧ Pl.eSpeed (fld u 2) ≠ 0 ∧ (Pl.nearZ (fld u 3) (headX es u) ≠ fld u 3 ∨ Pl.nearZ (fld u 4) (headY es u) ≠ fld u 4)) ↔ (((Pl.nearZ (fld u 3) (headX es u) != fld u 3) || (Pl.nearZ (fld u 4) (headY es u) != fld u 4)) && decide (wasF old (fld u 0) ≠ 0)) = true := by
      simp only [Bool.and_eq_true, Bool.or_eq_true, bne_iff_ne, decide_eq_true_eq]
      exact ⟨fun h => ⟨h.2.2.2, h.2.1⟩, fun h => ⟨hb.1, h.2, hb.2, h.1⟩⟩
    by_cases hc : (headB es u = true ∧ wasF old (fld u 0) ≠ 0 ∧ Pl.eSpeed (fld u 2) ≠ 0 ∧ (Pl.nearZ (fld u 3) (headX es u) ≠ fld u 3 ∨ Pl.nearZ (fld u 4) (headY es u) ≠ fld u 4))
    · rw [if_pos hc, if_pos (hiff.1 hc)]
    · rw [if_neg hc, if_neg (fun h => hc (hiff.2 h))]
theorem count_alone {es : List (List Int)} {p : List Int → Bool} {k : Nat} (hk : k < es.length) (hp : p (rec es k) = true) : es.countP p = 1 ↔ ∀ j, j < es.length → j ≠ k → p (rec es j) = false := by
  constructor
  · intro h j hj hne
    cases hpj : p (rec es j) with
    | false => rfl
    | true =>
      rw [rec_at hk] at hp
      rw [rec_at hj] at hpj
      rcases Nat.lt_or_gt_of_ne hne with hlt | hgt
      · have := count_two hlt hk hpj hp; omega
      · have := count_two hgt hj hp hpj; omega
  · intro h
    have e : es = es.take k ++ es[k] :: es.drop (k + 1) := by
      rw [List.getElem_cons_drop, List.take_append_drop]
    have h1 : (es.take k).countP p = 0 := by
      rw [List.countP_eq_zero]
      intro x hx
      obtain ⟨j, hj, rfl⟩ := List.mem_iff_getElem.1 hx
      rw [List.length_take] at hj
      have := h j (by omega) (by omega)
      rw [rec_at (by omega)] at this
      rw [List.getElem_take, this]
      decide
    have h2 : (es.drop (k + 1)).countP p = 0 := by
      rw [List.countP_eq_zero]
      intro x hx
      obtain ⟨j, hj, rfl⟩ := List.mem_iff_getElem.1 hx
      rw [List.length_drop] at hj
      have := h (k + 1 + j) (by omega) (by omega)
      rw [rec_at (by omega)] at this
      rw [List.getElem_drop, this]
      decide
    rw [rec_at hk] at hp
    rw [e, List.countP_append, List.countP_cons_of_pos hp, h1, h2]
theorem stands_count (x y : Int) (es : List (List Int)) : standsB x y (es.map unitE) = decide (0 < es.countP (isAt x y)) := by
  rw [standsU, Bool.eq_iff_iff, decide_eq_true_eq, decide_eq_true_eq, List.countP_pos_iff]
  constructor
  · intro h
    obtain ⟨hk, hp⟩ := idxZ_at h
    exact ⟨_, rec_mem hk, hp⟩
  · rintro ⟨u, hu, hp⟩
    obtain ⟨i, hi, rfl⟩ := List.mem_iff_getElem.1 hu
    by_cases hz : idxZ (isAt x y) es < 0
    · have := idxZ_neg_iff.1 hz i hi
      rw [rec_at hi, hp] at this
      cases this
    · omega
theorem moveFU {s : St} (h : InvM s) (old : List Int) {k : Nat} (hk : k < s.es.length) : moveF false (s.es.map unitE) old k = unitE (moveU s.es (wasF old) (rec s.es k)) := by
  have hb : ∀ j, j < s.es.length → 0 ≤ fld (rec s.es j) 6 ∧ fld (rec s.es j) 6 ≤ 3 := fun j hj => (boundsE_true (h.bd _ (rec_mem hj))).2.2.2.2.1
  have hw := wishU s.es old (hb k hk)
  have hrk := recU hk
  unfold moveF leaveR moveU
  rw [hrk]
  have e0 : fld (unitE (rec s.es k)) 0 = fld (rec s.es k) 0 := rfl
  rw [e0]
  generalize hwv : wishV false (s.es.map unitE) (unitE (rec s.es k)) = wv at hw
  obtain ⟨x, y, b⟩ := wv
  simp only at hw ⊢
  cases hc : (b && isB old (fld (rec s.es k) 0)) with
  | false =>
    rw [hc] at hw
    simp only [Bool.false_eq_true, if_false] at hw
    rw [hw]
    have hl : (!b || (standsB x y (s.es.map unitE) || !isB old (fld (rec s.es k) 0))) = true := by
      revert hc
      cases b <;> cases isB old (fld (rec s.es k) 0) <;> simp
    rw [if_pos hl]
  | true =>
    rw [hc] at hw
    simp only [if_true] at hw
    rw [hw]
    rw [Bool.and_eq_true] at hc
    rw [hc.1, hc.2]
    have hcw : 1 ≤ s.es.countP (fun u => decide (wishE s.es (wasF old) u = some (x, y))) := count_one (rec_mem hk) (decide_eq_true hw)
    have hcl : claimsE s.es (wasF old) x y = s.es.countP (isAt x y) + s.es.countP (fun u => decide (wishE s.es (wasF old) u = some (x, y))) := rfl
    simp only [Bool.not_true, Bool.false_or, Bool.or_false]
    cases hs : standsB x y (s.es.map unitE) with
    | true =>
      rw [stands_count, decide_eq_true_eq] at hs
      simp only [if_true]
      rw [if_neg (by omega)]
    | false =>
      rw [stands_count, decide_eq_false_iff_not] at hs
      simp only [Bool.false_eq_true, if_false]
      have hal : aloneR false (s.es.map unitE) old x y k (s.es.map unitE).length = true ↔ claimsE s.es (wasF old) x y = 1 := by
        have h1 : claimsE s.es (wasF old) x y = 1 ↔ s.es.countP (fun u => decide (wishE s.es (wasF old) u = some (x, y))) = 1 := by omega
        rw [h1, count_alone hk (p := fun u => decide (wishE s.es (wasF old) u = some (x, y))) (decide_eq_true hw), List.length_map]
        unfold aloneR
        rw [List.all_eq_true]
        have hit : ∀ j, j < s.es.length → hitR false (s.es.map unitE) old x y k j = (decide (j ≠ k) && decide (wishE s.es (wasF old) (rec s.es j) = some (x, y))) := by
          intro j hj
          have hwj := wishU s.es old (hb j hj)
          unfold hitR
          rw [recU hj]
          have e0 : fld (unitE (rec s.es j)) 0 = fld (rec s.es j) 0 := rfl
          rw [e0, hwj]
          generalize wishV false (s.es.map unitE) (unitE (rec s.es j)) = wj
          obtain ⟨a, c, d⟩ := wj
          simp only
          have hjk : decide ((j : Int) ≠ (k : Int)) = decide (j ≠ k) := by
            rw [Bool.eq_iff_iff, decide_eq_true_eq, decide_eq_true_eq]
            omega
          rw [hjk]
          cases d with
          | false => simp
          | true =>
            cases isB old (fld (rec s.es j) 0) with
            | false => simp
            | true =>
              rw [Bool.eq_iff_iff]
              simp [and_assoc]
        constructor
        · intro h2 j hj hne
          have := h2 j (List.mem_range.2 hj)
          rw [hit j hj, decide_eq_true hne] at this
          simpa using this
        · intro h2 j hj
          have hj := List.mem_range.1 hj
          rw [hit j hj]
          by_cases e : j = k
          · rw [decide_eq_false (fun hn => hn e)]; rfl
          · rw [h2 j hj e, Bool.and_false]; rfl
      by_cases ha : claimsE s.es (wasF old) x y = 1
      · rw [if_pos (hal.2 ha), if_pos ha]
        rfl
      · rw [if_neg (fun h => ha (hal.1 h)), if_neg ha]
theorem moveRU {s : St} (h : InvM s) (old : List Int) : moveR false (s.es.map unitE) old = (s.es.map (moveU s.es (wasF old))).map unitE := by
  unfold moveR
  refine ext_rec (by rw [idxK_len]; simp) fun j hj => ?_
  rw [idxK_len, List.length_map] at hj
  rw [idxK_rec _ _ _ (by simpa using hj), if_pos (by simpa using hj), moveFU h old hj, recU (by simpa using hj)]
  rw [rec_at (show j < (s.es.map (moveU s.es (wasF old))).length by simpa using hj), List.getElem_map, rec_at hj]
theorem arriveFU (old : List Int) (u : List Int) : arriveF old (unitE u) = unitE (arriveU (wasF old) u) := by
  have e : arriveF old (unitE u) = if (((isB old (fld u 0) && (fld u 6 == 1)) && (fld u 3 == fld u 7)) && (fld u 4 == fld u 8)) = true then tellR (unitE u) 0 0 0 0 else unitE u := rfl
  rw [e, isB_was]
  unfold arriveU
  have hw : wasF old (fld u 0) ≠ 0 ↔ 0 < wasF old (fld u 0) := by
    unfold wasF
    split <;> decide
  simp only [Bool.and_eq_true, decide_eq_true_eq, beq_iff_eq]
  by_cases hc : 0 < wasF old (fld u 0) ∧ fld u 6 = 1 ∧ fld u 3 = fld u 7 ∧ fld u 4 = fld u 8
  · rw [if_pos ⟨⟨⟨hw.2 hc.1, hc.2.1⟩, hc.2.2.1⟩, hc.2.2.2⟩, if_pos hc]
    rfl
  · rw [if_neg (fun h => hc ⟨hw.1 h.1.1.1, h.1.1.2, h.1.2, h.2⟩), if_neg hc]
theorem goneU {s : St} (h : InvM s) (old : List Int) : arriveR old (moveR false (s.es.map unitE) old) = (arriveS (moveS s (wasF old)) (wasF old)).es.map unitE := by
  rw [moveRU h]
  unfold arriveR arriveS moveS
  simp only [List.map_map]
  refine List.map_congr_left fun u _ => ?_
  exact arriveFU old _
/- Blows and diggings. -/
theorem less_next {es : List (List Int)} (was : Int → Int) {k : Nat} (hk : k < es.length) (id : Int) : lessE es was (es.take (k + 1)) id = if strikeB es was (rec es k) = true ∧ fld (rec es k) 9 = id then lessE es was (es.take k) id + amountE (rec es k) else lessE es was (es.take k) id := by
  unfold lessE
  rw [take_rec hk, List.foldl_append]
  rfl
theorem earn_next {es : List (List Int)} (was : Int → Int) {k : Nat} (hk : k < es.length) (o g : Int) : earnE es was o (es.take (k + 1)) g = if strikeB es was (rec es k) = true ∧ fld (rec es k) 6 ≠ 2 ∧ fld (rec es k) 1 = o then min (earnE es was o (es.take k) g + Pl.eLoad (fld (rec es k) 2)) 40 else earnE es was o (es.take k) g := by
  unfold earnE
  rw [take_rec hk, List.foldl_append]
  rfl
structure Toils (s : St) (old : List Int) (k : Nat) (a : List Int × Int × Int) : Prop where
  len : a.1.length = 20
  less : ∀ j, j < s.es.length → fld a.1 j = lessE s.es (wasF old) (s.es.take k) (fld (rec s.es j) 0)
  g0 : a.2.1 = earnE s.es (wasF old) 0 (s.es.take k) s.g0
  g1 : a.2.2 = earnE s.es (wasF old) 1 (s.es.take k) s.g1
theorem own01 {s : St} (h : InvM s) {u : List Int} (hu : u ∈ s.es) (h9 : fld u 9 ≠ 0) : fld u 1 = 0 ∨ fld u 1 = 1 := by
  have ht := h.target hu (aims h hu h9)
  have ho := h.ow _ hu
  have hk : fld u 2 ≠ 4 := by
    intro e
    have hm := ht.2.2.2
    unfold mayE mineE fightE at hm
    rw [e] at hm
    have e1 : Pl.eLoad 4 = 0 := by decide
    have e2 : Pl.eHarm 4 = 0 := by decide
    rw [e1, e2] at hm
    split at hm
    · simp at hm
    · simp at hm
  unfold ownerE at ho
  rw [if_neg hk] at ho
  unfold inZ at ho
  rw [decide_eq_true_eq] at ho
  omega
theorem toils_step {s : St} (h : InvM s) (old : List Int) {k : Nat} (hk : k < s.es.length) {a : List Int × Int × Int} (ha : Toils s old k a) : Toils s old (k + 1) (toilS false (s.es.map unitE) old a (unitE (rec s.es k))) := by
  have hm := rec_mem hk
  have hln : ∀ id, lessE s.es (wasF old) (s.es.take (k + 1)) id = _ := fun id => less_next (wasF old) hk id
  have hen : ∀ o g, earnE s.es (wasF old) o (s.es.take (k + 1)) g = _ := fun o g => earn_next (wasF old) hk o g
  generalize rec s.es k = u at hm hln hen
  have hse : strikeB s.es (wasF old) u = (decide (wasF old (fld u 0) ≠ 0) && (decide (fld u 9 ≠ 0) && nearE u (tgtE s.es u))) := rfl
  unfold toilS
  have e0 : fld (unitE u) 0 = fld u 0 := rfl
  have e9 : fld (unitE u) 9 = fld u 9 := rfl
  have e6 : fld (unitE u) 6 = fld u 6 := rfl
  rw [e0, e9, e6, isB_was]
  have stay : strikeB s.es (wasF old) u = false → Toils s old (k + 1) a := fun hs => by
    refine ⟨ha.len, fun j hj => ?_, ?_, ?_⟩
    · rw [hln, hs, if_neg (fun x => by cases x.1)]
      exact ha.less j hj
    · rw [hen, hs, if_neg (fun x => by cases x.1)]
      exact ha.g0
    · rw [hen, hs, if_neg (fun x => by cases x.1)]
      exact ha.g1
  by_cases hw : wasF old (fld u 0) = 0
  · rw [decide_eq_false (fun hn => hn hw)] at hse ⊢
    simp only [Bool.not_false, Bool.true_or, if_true]
    exact stay hse
  rw [decide_eq_true hw] at hse ⊢
  by_cases h9 : fld u 9 = 0
  · rw [decide_eq_false (fun hn => hn h9)] at hse
    rw [h9]
    simp only [Bool.not_true, Bool.false_or, beq_self_eq_true, if_true]
    exact stay hse
  rw [decide_eq_true h9] at hse
  have h9b : (fld u 9 == 0) = false := by simpa using h9
  rw [h9b]
  have hd := aims h hm h9
  rw [nearU s.es u hd]
  simp only [Bool.not_true, Bool.false_or, Bool.false_eq_true, if_false]
  cases hn : nearE u (tgtE s.es u) with
  | false =>
    rw [hn] at hse
    simp only [Bool.false_eq_true, if_false]
    exact stay hse
  | true =>
    rw [hn] at hse
    have hst : strikeB s.es (wasF old) u = true := hse
    simp only [if_true]
    obtain ⟨hi0, _, hi2, _⟩ := h.target hm hd
    have hwn : whoN (s.es.map unitE) (unitE u) = (idxZ (isId (fld u 9)) s.es).toNat := by
      unfold whoN
      rw [e9, whoU]
    have hkl := (idxZ_at hi0).1
    have hid : fld (rec s.es (idxZ (isId (fld u 9)) s.es).toNat) 0 = fld u 9 := hi2
    rw [hwn]
    generalize (idxZ (isId (fld u 9)) s.es).toNat = m at hkl hid
    have hel := h.el
    have hL : ∀ x, x = amountE u → ∀ j, j < s.es.length → fld (a.1.set m (fld a.1 m + x)) j = lessE s.es (wasF old) (s.es.take (k + 1)) (fld (rec s.es j) 0) := by
      intro x hx j hj
      rw [fld_set _ _ _ _ (by rw [ha.len]; omega), hln, hst, ← hx]
      by_cases e : j = m
      · subst e
        rw [if_pos rfl, if_pos ⟨rfl, hid.symm⟩, ha.less j hj]
      · rw [if_neg e, if_neg (fun hx => e (invM_uniq h j m hj hkl (by rw [hid]; exact hx.2.symm)))]
        exact ha.less j hj
    have hlen : ∀ x, (a.1.set m x).length = 20 := fun x => by rw [List.length_set]; exact ha.len
    have er : ∀ j, fld (ruleL false (fld (unitE u) 2)) j = fld [Pl.eCost (fld u 2), Pl.eHP (fld u 2), Pl.eSpeed (fld u 2), Pl.eHarm (fld u 2), Pl.eRange (fld u 2), Pl.eLoad (fld u 2)] j := fun j => rfl
    by_cases h2 : fld u 6 = 2
    · rw [if_pos h2]
      refine ⟨hlen _, hL _ (by unfold amountE; rw [if_pos h2]; rfl), ?_, ?_⟩
      · rw [hen, if_neg (fun hx => hx.2.1 h2)]
        exact ha.g0
      · rw [hen, if_neg (fun hx => hx.2.1 h2)]
        exact ha.g1
    · rw [if_neg h2]
      have hdg : digG false (unitE u) a.2 = if fld u 1 = 0 then (min 40 (a.2.1 + Pl.eLoad (fld u 2)), a.2.2) else (a.2.1, min 40 (a.2.2 + Pl.eLoad (fld u 2))) := rfl
      refine ⟨hlen _, hL _ (by unfold amountE; rw [if_neg h2]; rfl), ?_, ?_⟩
      · show (digG false (unitE u) a.2).1 = _
        rw [hdg, hen, hst, ← ha.g0]
        by_cases ho : fld u 1 = 0
        · rw [if_pos ho, if_pos ⟨rfl, h2, ho⟩]
          show min 40 _ = _
          rw [Int.min_comm]
        · rw [if_neg ho, if_neg (fun hx => ho hx.2.2)]
      · show (digG false (unitE u) a.2).2 = _
        rw [hdg, hen, hst, ← ha.g1]
        by_cases ho : fld u 1 = 0
        · rw [if_pos ho, if_neg (fun hx => by have := hx.2.2; omega)]
        · have ho1 : fld u 1 = 1 := by
            have := own01 h hm h9
            omega
          rw [if_neg ho, if_pos ⟨rfl, h2, ho1⟩]
          show min 40 _ = _
          rw [Int.min_comm]
theorem toils {s : St} (h : InvM s) (old : List Int) : ∀ k, k ≤ s.es.length → Toils s old k (toilK false (s.es.map unitE) old (s.g0, s.g1) k) := by
  intro k
  induction k with
  | zero =>
    intro _
    rw [toilK_zero]
    refine ⟨rfl, fun j _ => ?_, rfl, rfl⟩
    show fld (List.replicate 20 (0 : Int)) j = 0
    unfold fld
    rw [List.getD_eq_getElem?_getD, List.getElem?_replicate]
    split <;> rfl
  | succ k ih =>
    intro hk
    rw [toilK_succ (by rw [List.length_map]; omega), recU (by omega)]
    exact toils_step h old (by omega) (ih (by omega))
theorem hurtRU (es : List (List Int)) (was : Int → Int) (L : List Int) (h : ∀ j, j < es.length → fld L j = lessE es was es (fld (rec es j) 0)) : hurtR (es.map unitE) L = (es.map (hurtU es was)).map unitE := by
  unfold hurtR
  refine ext_rec (by rw [idxK_len]; simp) fun j hj => ?_
  rw [idxK_len, List.length_map] at hj
  rw [idxK_rec _ _ _ (by simpa using hj), if_pos (by simpa using hj), recU (by simpa using hj)]
  unfold hurtF
  rw [recU hj, h j hj, rec_at (show j < (es.map (hurtU es was)).length by simpa using hj), List.getElem_map, ← rec_at hj]
  rfl
theorem buryU : ∀ (B acc : List (List Int)) (fr : List Int), (B.map unitE).foldl (burySR false) (acc, fr) = (acc ++ (B.filter aliveB).map unitE, fr ++ idsE (B.filter (fun u => !aliveB u)))
  | [], acc, fr => by simp [idsE]
  | u :: B, acc, fr => by
    rw [List.map_cons, List.foldl_cons]
    have e : burySR false (acc, fr) (unitE u) = if 0 < fld u 5 then (acc ++ [unitE u], fr) else (acc, fr ++ [fld u 0]) := rfl
    rw [e]
    by_cases h : 0 < fld u 5
    · have ha : aliveB u = true := decide_eq_true h
      rw [if_pos h, buryU B]
      simp [ha]
    · have ha : aliveB u = false := decide_eq_false h
      rw [if_neg h, buryU B]
      simp [ha, idsE]
theorem idleFU (C : List (List Int)) (u : List Int) : idleF (C.map unitE) (unitE u) = unitE (idleU C u) := by
  have e : idleF (C.map unitE) (unitE u) = if (decide (0 < fld u 9) && decide (whoZ (fld u 9) (C.map unitE) < 0)) = true then tellR (unitE u) 0 0 0 0 else unitE u := rfl
  rw [e, whoU]
  unfold idleU
  simp only [Bool.and_eq_true, decide_eq_true_eq]
  split <;> rfl
theorem toilU {s : St} (h : InvM s) (old : List Int) : toilR false (upS s) old = upS { buryS (strikeS s (wasF old)) with t := s.t + 1 } := by
  have ht := toils h old s.es.length (Nat.le_refl _)
  have hl := ht.less
  have hg0 := ht.g0
  have hg1 := ht.g1
  simp only [List.take_length] at hl hg0 hg1
  have e1 : toilT false (upS s) old = toilK false (s.es.map unitE) old (s.g0, s.g1) s.es.length := by
    unfold toilT upS
    simp only [List.length_map]
  have hb : toilBk false (upS s) old = (((s.es.map (hurtU s.es (wasF old))).filter aliveB).map unitE, s.free ++ idsE ((s.es.map (hurtU s.es (wasF old))).filter (fun u => !aliveB u))) := by
    unfold toilBk
    rw [e1]
    have e2 : (upS s).es = s.es.map unitE := rfl
    have e3 : (upS s).free = s.free := rfl
    rw [e2, e3, hurtRU s.es (wasF old) _ hl]
    unfold buryK
    rw [List.take_of_length_le (by simp), buryU]
    rfl
  have hE : ∀ B : List (List Int), (B.map unitE).map (idleF (B.map unitE)) = (B.map (idleU B)).map unitE := fun B => by
    rw [List.map_map, List.map_map]
    exact List.map_congr_left fun u _ => idleFU B u
  unfold toilR
  rw [hb, e1, hg0, hg1]
  simp only [hE]
  rfl
theorem endU {s : St} (h : InvM s) (old : List Int) : endR false (upS s) old = upS (endS s (wasF old)) := by
  unfold endR
  have e : (upS s).es = s.es.map unitE := rfl
  rw [e, goneU h old]
  exact toilU (inv_arrive (inv_move h (wasF old)) (wasF old)) old
/- What the reference's end of a tick leans on. -/
theorem wishOkU {s : St} (h : InvM s) {i : Nat} (hi : i < s.es.length) : WishOk (s.es.map unitE) (rec (s.es.map unitE) i) := by
  rw [recU hi]
  have hm := rec_mem hi
  generalize rec s.es i = u at hm
  have h6 := (boundsE_true (h.bd u hm)).2.2.2.2.1
  have hon : OnU u := h.on hm
  refine ⟨hon, fun h1 => ?_, fun h0 h1 => ?_⟩
  · have h1' : 1 < fld u 6 := h1
    have hd : fld u 6 = 2 ∨ fld u 6 = 3 := by omega
    obtain ⟨a, b, _, _⟩ := h.target hm hd
    have e9 : fld (unitE u) 9 = fld u 9 := rfl
    refine ⟨by rw [e9, whoU]; exact a, ?_⟩
    have := h.on b
    unfold OnU at this ⊢
    rw [tgtF s.es u (by omega), tgtF s.es u (by omega)]
    exact this
  · have h0' : fld u 6 ≠ 0 := h0
    have h1' : ¬ 1 < fld u 6 := h1
    have hp := h.pl u hm
    unfold placeE at hp
    rw [if_pos (by omega), Bool.and_eq_true] at hp
    exact Pl.onB_true hp.1
theorem toilOkU {s : St} (h : InvM s) {i : Nat} (hi : i < s.es.length) (h9 : fld (rec (s.es.map unitE) i) 9 ≠ 0) : ToilOk (s.es.map unitE) (rec (s.es.map unitE) i) := by
  rw [recU hi] at h9 ⊢
  have hm := rec_mem hi
  generalize rec s.es i = u at hm h9
  have h9' : fld u 9 ≠ 0 := h9
  obtain ⟨a, b, _, _⟩ := h.target hm (aims h hm h9')
  have e9 : fld (unitE u) 9 = fld u 9 := rfl
  have hon : OnU u := h.on hm
  have how : fld u 1 = 0 ∨ fld u 1 = 1 := own01 h hm h9'
  refine ⟨hon, by rw [e9, whoU]; exact a, ?_, fun _ => how⟩
  have := h.on b
  unfold OnU at this ⊢
  rw [tgtF s.es u (by omega), tgtF s.es u (by omega)]
  exact this
theorem hpU {s : St} (h : InvM s) {i : Nat} (hi : i < s.es.length) : 0 ≤ fld (rec (s.es.map unitE) i) 5 ∧ fld (rec (s.es.map unitE) i) 5 ≤ 1000 := by
  rw [frecU _ _ (by omega)]
  have hb := (boundsE_true (h.bd _ (rec_mem hi))).2.2.2.1
  have : mostZ (fld (rec s.es i) 2) ≤ 1000 := by
    unfold mostZ Pl.eHP
    repeat' split
    all_goals omega
  omega
end Go.Proofs.Ytgiieepfhohmhaa

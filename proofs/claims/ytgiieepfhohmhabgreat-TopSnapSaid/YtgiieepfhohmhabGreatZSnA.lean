/- Snaps, plain: numbers as bytes one behind the other, and a reader of them; what is written is read, and what is read was written. -/
import Derived.Test.YtgiieepfhohmhabGreatZMemA
import Derived.Test.YtgiieepfhohmhabGreatZNums
namespace Go.Proofs.YtgiieepfhohmhabGreat
def numsL (l : List Int) : List UInt8 := l.flatMap fun z => Nu.num z.toNat
theorem numsL_append (a b : List Int) : numsL (a ++ b) = numsL a ++ numsL b := List.flatMap_append
theorem numsL_cons (z : Int) (l : List Int) : numsL (z :: l) = Nu.num z.toNat ++ numsL l := List.flatMap_cons
theorem numsL_one (z : Int) : numsL [z] = Nu.num z.toNat := by rw [numsL_cons]; exact List.append_nil _
theorem numsL_length : ∀ l : List Int, (numsL l).length ≤ 9 * l.length
  | [] => Nat.le_refl _
  | z :: l => by
    have h1 := Nu.num_length z.toNat
    have h2 := numsL_length l
    rw [numsL_cons, List.length_append, List.length_cons]
    omega
theorem numsL_take {l : List Int} {k : Nat} (hk : k < l.length) : numsL (l.take (k + 1)) = numsL (l.take k) ++ Nu.num (fld l k).toNat := by
  rw [List.take_succ_eq_append_getElem hk, numsL_append, numsL_one]
  simp [fld, List.getD_eq_getElem?_getD, hk]
def Sml (z : Int) : Prop := 0 ≤ z ∧ z < 9223372036854775808
structure Rd where
  l : List UInt8
  e : Nat
def Rd.num (r : Rd) : Int × Rd := if 0 < r.e then (0, ⟨[], r.e⟩) else if (Nu.take r.l).2.2 = 0 then (((Nu.take r.l).1 : Int), ⟨(Nu.take r.l).2.1, 0⟩) else (0, ⟨[], (Nu.take r.l).2.2⟩)
def Rd.upTo (r : Rd) (most : Int) : Int × Rd := if most < r.num.1 then (0, ⟨[], 2⟩) else r.num
def Rd.many (r : Rd) : Nat → List Int × Rd
  | 0 => ([], r)
  | n + 1 => ((r.many n).1 ++ [(r.many n).2.num.1], (r.many n).2.num.2)
def Rd.recs (k : Nat) (r : Rd) : Nat → List (List Int) × Rd
  | 0 => ([], r)
  | n + 1 => ((Rd.recs k r n).1 ++ [((Rd.recs k r n).2.many k).1], ((Rd.recs k r n).2.many k).2)
def Rd.tick (k : Nat) (r : Rd) : List (List Int) × Rd := Rd.recs k (r.upTo 8).2 (r.upTo 8).1.toNat
def Rd.ticks (k : Nat) (r : Rd) : Nat → List (List (List Int)) × Rd
  | 0 => ([], r)
  | n + 1 => ((Rd.ticks k r n).1 ++ [(Rd.tick k (Rd.ticks k r n).2).1], (Rd.tick k (Rd.ticks k r n).2).2)
def Rd.all (k : Nat) (r : Rd) (most : Int) : List (List Int) × Rd := Rd.recs k (r.upTo most).2 (r.upTo most).1.toNat
def Rd.row (r : Rd) (most : Int) : List Int × Rd := (r.upTo most).2.many (r.upTo most).1.toNat
def Rd.tape (k : Nat) (r : Rd) : List (List (List Int)) × Rd := Rd.ticks k (r.upTo 60).2 (r.upTo 60).1.toNat
def Rd.elder (r : Rd) : St × Rd :=
  (⟨fld (r.many 4).1 0, fld (r.many 4).1 1, fld (r.many 4).1 2, fld (r.many 4).1 3, ((r.many 4).2.row 200).1, (Rd.all 10 ((r.many 4).2.row 200).2 20).1, []⟩, (Rd.all 10 ((r.many 4).2.row 200).2 20).2)
def Rd.newer (r : Rd) : St × Rd :=
  (⟨fld (r.many 4).1 0, fld (r.many 4).1 1, fld (r.many 4).1 2, fld (r.many 4).1 3, [], (Rd.all 11 (r.many 4).2 20).1, []⟩, (Rd.all 11 (r.many 4).2 20).2)
def Rd.over (r : Rd) : Nat := if r.e = 0 ∧ r.l ≠ [] then 7 else r.e
def normK (k : Nat) (u : List Int) : List Int := (List.range k).map (fld u)
theorem normK_length (k : Nat) (u : List Int) : (normK k u).length = k := by simp [normK]
def recsN (k : Nat) (es : List (List Int)) : List Int := (es.length : Int) :: es.flatMap (normK k)
def elderN (s : St) : List Int := [s.t, s.g0, s.g1, s.nx] ++ ((s.free.length : Int) :: s.free) ++ recsN 10 s.es
def newerN (s : St) : List Int := [s.t, s.g0, s.g1, s.nx] ++ recsN 11 s.es
def ticksN (k : Nat) (ls : List (List (List Int))) : List Int := (ls.length : Int) :: ls.flatMap (recsN k)
structure SmlS (k : Nat) (s : St) : Prop where
  t : Sml s.t
  g0 : Sml s.g0
  g1 : Sml s.g1
  nx : Sml s.nx
  fr : ∀ z ∈ s.free, Sml z
  fl : s.free.length ≤ 200
  es : ∀ u ∈ s.es, ∀ j, j < k → Sml (fld u j)
  el : s.es.length ≤ 20
  bo : s.born = []
theorem head_sml {k : Nat} {s : St} (h : SmlS k s) : ∀ z ∈ [s.t, s.g0, s.g1, s.nx], Sml z := by
  intro z hz
  simp only [List.mem_cons, List.not_mem_nil, or_false] at hz
  rcases hz with rfl | rfl | rfl | rfl
  · exact h.t
  · exact h.g0
  · exact h.g1
  · exact h.nx
theorem num_wrote {r : Rd} (h : r.num.2.e = 0) : r.e = 0 ∧ Nu.num r.num.1.toNat ++ r.num.2.l = r.l ∧ Sml r.num.1 := by
  unfold Rd.num at h ⊢
  by_cases h0 : 0 < r.e
  · rw [if_pos h0] at h
    have : r.e = 0 := h
    omega
  · rw [if_neg h0] at h ⊢
    by_cases h1 : (Nu.take r.l).2.2 = 0
    · rw [if_pos h1]
      obtain ⟨h2, h3⟩ := Nu.take_ok r.l (Nu.take r.l).1 (Nu.take r.l).2.1 (by rw [← h1])
      refine ⟨by omega, ?_, ?_⟩
      · simp only [Int.toNat_natCast]
        exact h2
      · exact ⟨by simp, by simp only; omega⟩
    · rw [if_neg h1] at h
      exact absurd h h1
theorem num_same {r : Rd} (h : r.e ≠ 0) : r.num = (0, ⟨[], r.e⟩) := if_pos (by omega)
theorem upTo_wrote {r : Rd} {m : Int} (h : (r.upTo m).2.e = 0) : r.e = 0 ∧ Nu.num (r.upTo m).1.toNat ++ (r.upTo m).2.l = r.l ∧ Sml (r.upTo m).1 ∧ (r.upTo m).1 ≤ m := by
  unfold Rd.upTo at h ⊢
  by_cases h0 : m < r.num.1
  · rw [if_pos h0] at h
    have : (2 : Nat) = 0 := h
    omega
  · rw [if_neg h0] at h ⊢
    obtain ⟨h1, h2, h3⟩ := num_wrote h
    exact ⟨h1, h2, h3, by omega⟩
theorem many_length (r : Rd) : ∀ n, (r.many n).1.length = n
  | 0 => rfl
  | n + 1 => by
    unfold Rd.many
    rw [List.length_append, many_length r n]
    rfl
theorem many_wrote (r : Rd) : ∀ n, (r.many n).2.e = 0 → r.e = 0 ∧ numsL (r.many n).1 ++ (r.many n).2.l = r.l ∧ ∀ z ∈ (r.many n).1, Sml z
  | 0, h => ⟨h, rfl, fun z hz => by cases hz⟩
  | n + 1, h => by
    unfold Rd.many at h ⊢
    obtain ⟨h1, h2, h3⟩ := num_wrote h
    obtain ⟨h4, h5, h6⟩ := many_wrote r n h1
    refine ⟨h4, ?_, ?_⟩
    · simp only
      rw [numsL_append, numsL_one, List.append_assoc, h2, h5]
    · intro z hz
      rcases List.mem_append.1 hz with hz | hz
      · exact h6 z hz
      · rw [List.mem_singleton.1 hz]
        exact h3
theorem norm_many (r : Rd) (k : Nat) : normK k (r.many k).1 = (r.many k).1 := by
  have hl := many_length r k
  generalize (r.many k).1 = l at hl
  subst hl
  apply List.ext_getElem
  · simp [normK]
  · intro i h1 h2
    simp [normK, fld, List.getD_eq_getElem?_getD, h2]
theorem recs_length (k : Nat) (r : Rd) : ∀ n, (Rd.recs k r n).1.length = n
  | 0 => rfl
  | n + 1 => by
    unfold Rd.recs
    rw [List.length_append, recs_length k r n]
    rfl
theorem recs_wrote (k : Nat) (r : Rd) : ∀ n, (Rd.recs k r n).2.e = 0 → r.e = 0 ∧ numsL ((Rd.recs k r n).1.flatMap (normK k)) ++ (Rd.recs k r n).2.l = r.l ∧ ∀ u ∈ (Rd.recs k r n).1, ∀ j, j < k → Sml (fld u j)
  | 0, h => ⟨h, rfl, fun u hu => by cases hu⟩
  | n + 1, h => by
    unfold Rd.recs at h ⊢
    obtain ⟨h1, h2, h3⟩ := many_wrote _ k h
    obtain ⟨h4, h5, h6⟩ := recs_wrote k r n h1
    refine ⟨h4, ?_, ?_⟩
    · simp only
      rw [List.flatMap_append, numsL_append, List.append_assoc]
      simp only [List.flatMap_cons, List.flatMap_nil, List.append_nil]
      rw [norm_many, h2, h5]
    · intro u hu j hj
      rcases List.mem_append.1 hu with hu | hu
      · exact h6 u hu j hj
      · rw [List.mem_singleton.1 hu]
        refine h3 _ ?_
        have hl := many_length (Rd.recs k r n).2 k
        unfold fld
        rw [List.getD_eq_getElem?_getD, List.getElem?_eq_getElem (by omega)]
        exact List.getElem_mem _
theorem all_wrote {k : Nat} {r : Rd} {m : Int} (h : (Rd.all k r m).2.e = 0) : r.e = 0 ∧ numsL (recsN k (Rd.all k r m).1) ++ (Rd.all k r m).2.l = r.l ∧ (∀ u ∈ (Rd.all k r m).1, ∀ j, j < k → Sml (fld u j)) ∧ ((Rd.all k r m).1.length : Int) ≤ m := by
  unfold Rd.all at h ⊢
  obtain ⟨h1, h2, h3⟩ := recs_wrote k _ _ h
  obtain ⟨h4, h5, h6, h7⟩ := upTo_wrote h1
  have hl := recs_length k (r.upTo m).2 (r.upTo m).1.toNat
  have e : ((Rd.recs k (r.upTo m).2 (r.upTo m).1.toNat).1.length : Int) = (r.upTo m).1 := by rw [hl]; exact Int.toNat_of_nonneg h6.1
  refine ⟨h4, ?_, h3, by rw [e]; exact h7⟩
  unfold recsN
  rw [numsL_cons, List.append_assoc, h2, e, h5]
theorem row_wrote {r : Rd} {m : Int} (h : (r.row m).2.e = 0) : r.e = 0 ∧ numsL (((r.row m).1.length : Int) :: (r.row m).1) ++ (r.row m).2.l = r.l ∧ (∀ z ∈ (r.row m).1, Sml z) ∧ ((r.row m).1.length : Int) ≤ m := by
  unfold Rd.row at h ⊢
  obtain ⟨h1, h2, h3⟩ := many_wrote _ _ h
  obtain ⟨h4, h5, h6, h7⟩ := upTo_wrote h1
  have hl := many_length (r.upTo m).2 (r.upTo m).1.toNat
  have e : (((r.upTo m).2.many (r.upTo m).1.toNat).1.length : Int) = (r.upTo m).1 := by rw [hl]; exact Int.toNat_of_nonneg h6.1
  refine ⟨h4, ?_, h3, by rw [e]; exact h7⟩
  rw [numsL_cons, List.append_assoc, h2, e, h5]
theorem ticks_length (k : Nat) (r : Rd) : ∀ n, (Rd.ticks k r n).1.length = n
  | 0 => rfl
  | n + 1 => by
    unfold Rd.ticks
    rw [List.length_append, ticks_length k r n]
    rfl
theorem ticks_wrote (k : Nat) (r : Rd) : ∀ n, (Rd.ticks k r n).2.e = 0 → r.e = 0 ∧ numsL ((Rd.ticks k r n).1.flatMap (recsN k)) ++ (Rd.ticks k r n).2.l = r.l ∧ (∀ l ∈ (Rd.ticks k r n).1, l.length ≤ 8 ∧ ∀ u ∈ l, ∀ j, j < k → Sml (fld u j))
  | 0, h => ⟨h, rfl, fun u hu => by cases hu⟩
  | n + 1, h => by
    unfold Rd.ticks at h ⊢
    obtain ⟨h1, h2, h3, h3'⟩ := all_wrote (m := 8) h
    obtain ⟨h4, h5, h6⟩ := ticks_wrote k r n h1
    refine ⟨h4, ?_, ?_⟩
    · simp only
      rw [List.flatMap_append, numsL_append, List.append_assoc]
      simp only [List.flatMap_cons, List.flatMap_nil, List.append_nil]
      show numsL _ ++ (numsL (recsN k (Rd.all k (Rd.ticks k r n).2 8).1) ++ (Rd.all k (Rd.ticks k r n).2 8).2.l) = _
      rw [h2, h5]
    · intro l hl
      rcases List.mem_append.1 hl with hl | hl
      · exact h6 l hl
      · rw [List.mem_singleton.1 hl]
        refine ⟨?_, h3⟩
        have : ((Rd.all k (Rd.ticks k r n).2 8).1.length : Int) ≤ 8 := h3'
        show (Rd.all k (Rd.ticks k r n).2 8).1.length ≤ 8
        omega
theorem tape_wrote {k : Nat} {r : Rd} (h : (Rd.tape k r).2.e = 0) : r.e = 0 ∧ numsL (ticksN k (Rd.tape k r).1) ++ (Rd.tape k r).2.l = r.l ∧ (∀ l ∈ (Rd.tape k r).1, l.length ≤ 8 ∧ ∀ u ∈ l, ∀ j, j < k → Sml (fld u j)) ∧ (Rd.tape k r).1.length ≤ 60 := by
  unfold Rd.tape at h ⊢
  obtain ⟨h1, h2, h3⟩ := ticks_wrote k _ _ h
  obtain ⟨h4, h5, h6, h7⟩ := upTo_wrote h1
  have hl := ticks_length k (r.upTo 60).2 (r.upTo 60).1.toNat
  have e : ((Rd.ticks k (r.upTo 60).2 (r.upTo 60).1.toNat).1.length : Int) = (r.upTo 60).1 := by rw [hl]; exact Int.toNat_of_nonneg h6.1
  refine ⟨h4, ?_, h3, by omega⟩
  unfold ticksN
  rw [numsL_cons, List.append_assoc, h2, e, h5]
theorem le_nat {a b : Nat} {m : Int} (h : (a : Int) ≤ m) (hb : m = (b : Int)) : a ≤ b := by omega
theorem four_list {l : List Int} (h : l.length = 4) : [fld l 0, fld l 1, fld l 2, fld l 3] = l := by
  match l, h with
  | [_, _, _, _], _ => rfl
theorem elder_wrote {r : Rd} (h : r.elder.2.e = 0) : r.e = 0 ∧ numsL (elderN r.elder.1) ++ r.elder.2.l = r.l ∧ SmlS 10 r.elder.1 := by
  have h' : (Rd.all 10 ((r.many 4).2.row 200).2 20).2.e = 0 := by simp only [Rd.elder] at h; exact h
  obtain ⟨h1, h2, h3, h4⟩ := all_wrote h'
  obtain ⟨h5, h6, h7, h8⟩ := row_wrote h1
  obtain ⟨h9, h10, h11⟩ := many_wrote r 4 h5
  have hl := many_length r 4
  refine ⟨h9, ?_, ?_⟩
  · unfold elderN Rd.elder
    simp only
    rw [four_list hl, numsL_append, numsL_append, List.append_assoc, List.append_assoc, h2, h6, h10]
  · have hm : ∀ j, j < 4 → Sml (fld (r.many 4).1 j) := fun j hj => by
      refine h11 _ ?_
      unfold fld
      rw [List.getD_eq_getElem?_getD, List.getElem?_eq_getElem (by omega)]
      exact List.getElem_mem _
    simp only [Rd.elder]
    generalize Rd.all 10 ((r.many 4).2.row 200).2 20 = A at h3 h4 ⊢
    generalize (r.many 4).2.row 200 = B at h7 h8 ⊢
    exact ⟨hm 0 (by decide), hm 1 (by decide), hm 2 (by decide), hm 3 (by decide), h7, le_nat h8 rfl, h3, le_nat h4 rfl, rfl⟩
theorem newer_wrote {r : Rd} (h : r.newer.2.e = 0) : r.e = 0 ∧ numsL (newerN r.newer.1) ++ r.newer.2.l = r.l ∧ SmlS 11 r.newer.1 := by
  have h' : (Rd.all 11 (r.many 4).2 20).2.e = 0 := by simp only [Rd.newer] at h; exact h
  obtain ⟨h1, h2, h3, h4⟩ := all_wrote h'
  obtain ⟨h9, h10, h11⟩ := many_wrote r 4 h1
  have hl := many_length r 4
  refine ⟨h9, ?_, ?_⟩
  · unfold newerN Rd.newer
    simp only
    rw [four_list hl, numsL_append, List.append_assoc, h2, h10]
  · have hm : ∀ j, j < 4 → Sml (fld (r.many 4).1 j) := fun j hj => by
      refine h11 _ ?_
      unfold fld
      rw [List.getD_eq_getElem?_getD, List.getElem?_eq_getElem (by omega)]
      exact List.getElem_mem _
    have h0 : ∀ z ∈ ([] : List Int), Sml z := fun z hz => absurd hz List.not_mem_nil
    simp only [Rd.newer]
    generalize Rd.all 11 (r.many 4).2 20 = A at h3 h4 ⊢
    exact ⟨hm 0 (by decide), hm 1 (by decide), hm 2 (by decide), hm 3 (by decide), h0, Nat.zero_le _, h3, le_nat h4 rfl, rfl⟩
theorem over_wrote {r : Rd} (h : r.over = 0) : r.e = 0 ∧ r.l = [] := by
  unfold Rd.over at h
  split at h
  next h1 => cases h
  next h1 =>
    refine ⟨h, ?_⟩
    by_cases h2 : r.l = []
    · exact h2
    · exact absurd ⟨h, h2⟩ h1
theorem takeF_few : ∀ (l : List UInt8) (i n m : Nat), i ≤ 9 → 10 ≤ m + i → (Nu.takeF i n (l.take m)).1 = (Nu.takeF i n l).1 ∧ (Nu.takeF i n (l.take m)).2.2 = (Nu.takeF i n l).2.2
  | [], i, n, m, _, _ => by simp
  | b :: t, i, n, m, hi, hm => by
    obtain ⟨k, rfl⟩ : ∃ k, m = k + 1 := ⟨m - 1, by omega⟩
    rw [List.take_succ_cons]
    unfold Nu.takeF
    by_cases h9 : i = 9
    · rw [if_pos h9, if_pos h9]; exact ⟨rfl, rfl⟩
    · rw [if_neg h9, if_neg h9]
      by_cases hb : 128 ≤ b.toNat
      · rw [if_pos hb, if_pos hb]
        exact takeF_few t (i + 1) _ k (by omega) (by omega)
      · rw [if_neg hb, if_neg hb]
        by_cases h0 : b.toNat = 0 ∧ 0 < i
        · rw [if_pos h0, if_pos h0]; exact ⟨rfl, rfl⟩
        · rw [if_neg h0, if_neg h0]; exact ⟨rfl, rfl⟩
theorem takeF_err : ∀ (l : List UInt8) (i n : Nat), (Nu.takeF i n l).2.2 ≠ 0 → (Nu.takeF i n l).1 = 0
  | [], _, _, _ => rfl
  | b :: t, i, n, h => by
    unfold Nu.takeF at h ⊢
    by_cases h9 : i = 9
    · rw [if_pos h9]
    · rw [if_neg h9] at h ⊢
      by_cases hb : 128 ≤ b.toNat
      · rw [if_pos hb] at h ⊢
        exact takeF_err t _ _ h
      · rw [if_neg hb] at h ⊢
        by_cases h0 : b.toNat = 0 ∧ 0 < i
        · rw [if_pos h0]
        · rw [if_neg h0] at h
          exact absurd rfl h
theorem take_few (l : List UInt8) : (Nu.take (l.take 10)).1 = (Nu.take l).1 ∧ (Nu.take (l.take 10)).2.2 = (Nu.take l).2.2 ∧ ((Nu.take l).2.2 = 0 → l.drop ((l.take 10).length - (Nu.take (l.take 10)).2.1.length) = (Nu.take l).2.1) := by
  obtain ⟨h1, h2⟩ := takeF_few l 0 0 10 (by omega) (by omega)
  refine ⟨h1, h2, fun h => ?_⟩
  obtain ⟨h3, h4⟩ := Nu.take_ok l (Nu.take l).1 (Nu.take l).2.1 (by rw [← h])
  generalize (Nu.take l).1 = y at h3 h4
  generalize (Nu.take l).2.1 = r at h3
  have hn := Nu.num_length y
  subst h3
  have e : (Nu.num y ++ r).take 10 = Nu.num y ++ r.take (10 - (Nu.num y).length) := by
    rw [List.take_append, List.take_of_length_le (by omega)]
  rw [e, Nu.take_of_num y h4]
  have e2 : (Nu.num y ++ List.take (10 - (Nu.num y).length) r).length - (List.take (10 - (Nu.num y).length) r).length = (Nu.num y).length := by
    rw [List.length_append]; omega
  simp only
  rw [e2, List.drop_left]
theorem rd_num_few {r : Rd} (h : r.e = 0) : r.num = (((Nu.take (r.l.take 10)).1 : Int), ⟨if (Nu.take (r.l.take 10)).2.2 = 0 then r.l.drop ((r.l.take 10).length - (Nu.take (r.l.take 10)).2.1.length) else [], (Nu.take (r.l.take 10)).2.2⟩) := by
  obtain ⟨h1, h2, h3⟩ := take_few r.l
  unfold Rd.num
  rw [if_neg (by omega), h1, h2]
  by_cases hc : (Nu.take r.l).2.2 = 0
  · rw [if_pos hc, if_pos hc, h3 hc, hc]
  · rw [if_neg hc, if_neg hc]
    have := takeF_err r.l 0 0 hc
    show ((0 : Int), _) = (((Nu.takeF 0 0 r.l).1 : Int), _)
    rw [this]
    rfl
end Go.Proofs.YtgiieepfhohmhabGreat

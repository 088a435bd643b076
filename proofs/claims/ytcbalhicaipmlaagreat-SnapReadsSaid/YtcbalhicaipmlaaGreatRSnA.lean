/- Snaps, plain: numbers as bytes one behind the other, and a reader of them; what is written is read, and what is read was written. -/
import Derived.Below
import Derived.Laws.BitsAllLaws
import Derived.Test.YtcbalhicaipmlaaGreatRMemA
import Derived.Test.YtcbalhicaipmlaaGreatRRefQ
import Derived.Test.YtcbalhicaipmlaaGreatRRulA
import Derived.Test.YtcbalhicaipmlaaGreatRNwK
namespace Go.Proofs.YtcbalhicaipmlaaGreat
def numsL (l : List Int) : List UInt8 := l.flatMap fun z => Nu.num z.toNat
theorem numsL_append (a b : List Int) : numsL (a ++ b) = numsL a ++ numsL b := List.flatMap_append
theorem numsL_cons (z : Int) (l : List Int) : numsL (z :: l) = Nu.num z.toNat ++ numsL l := List.flatMap_cons
theorem numsL_one (z : Int) : numsL [z] = Nu.num z.toNat := by rw [numsL_cons]; exact List.append_nil _
theorem numsL_length : ∀ l : List Int, (numsL l).length ≤ 9 * l.length
  | [] => Nat.le_refl _
  | z :: l => by
    have h1 := Nu.num_length z.toNat
    have h2 := numsL_length l
    rw [numsL_cons, List.length_append, List.length_cons]
    omega
theorem numsL_take {l : List Int} {k : Nat} (hk : k < l.length) : numsL (l.take (k + 1)) = numsL (l.take k) ++ Nu.num (fld l k).toNat := by
  rw [List.take_succ_eq_append_getElem hk, numsL_append, numsL_one]
  simp [fld, List.getD_eq_getElem?_getD, hk]
def Sml (z : Int) : Prop := 0 ≤ z ∧ z < 9223372036854775808
structure Rd where
  l : List UInt8
  e : Nat
def Rd.num (r : Rd) : Int × Rd := if 0 < r.e then (0, ⟨[], r.e⟩) else if (Nu.take r.l).2.2 = 0 then (((Nu.take r.l).1 : Int), ⟨(Nu.take r.l).2.1, 0⟩) else (0, ⟨[], (Nu.take r.l).2.2⟩)
def Rd.upTo (r : Rd) (most : Int) : Int × Rd := if most < r.num.1 then (0, ⟨[], 2⟩) else r.num
def Rd.many (r : Rd) : Nat → List Int × Rd
  | 0 => ([], r)
  | n + 1 => ((r.many n).1 ++ [(r.many n).2.num.1], (r.many n).2.num.2)
def Rd.recs (k : Nat) (r : Rd) : Nat → List (List Int) × Rd
  | 0 => ([], r)
  | n + 1 => ((Rd.recs k r n).1 ++ [((Rd.recs k r n).2.many k).1], ((Rd.recs k r n).2.many k).2)
def Rd.tick (k : Nat) (r : Rd) : List (List Int) × Rd := Rd.recs k (r.upTo 8).2 (r.upTo 8).1.toNat
def Rd.ticks (k : Nat) (r : Rd) : Nat → List (List (List Int)) × Rd
  | 0 => ([], r)
  | n + 1 => ((Rd.ticks k r n).1 ++ [(Rd.tick k (Rd.ticks k r n).2).1], (Rd.tick k (Rd.ticks k r n).2).2)
def Rd.all (k : Nat) (r : Rd) (most : Int) : List (List Int) × Rd := Rd.recs k (r.upTo most).2 (r.upTo most).1.toNat
def Rd.row (r : Rd) (most : Int) : List Int × Rd := (r.upTo most).2.many (r.upTo most).1.toNat
def Rd.tape (k : Nat) (r : Rd) : List (List (List Int)) × Rd := Rd.ticks k (r.upTo 60).2 (r.upTo 60).1.toNat
def Rd.elder (r : Rd) : St × Rd :=
  (⟨fld (r.many 4).1 0, fld (r.many 4).1 1, fld (r.many 4).1 2, fld (r.many 4).1 3, ((r.many 4).2.row 200).1, (Rd.all 10 ((r.many 4).2.row 200).2 20).1, []⟩, (Rd.all 10 ((r.many 4).2.row 200).2 20).2)
def Rd.newer (r : Rd) : St × Rd :=
  (⟨fld (r.many 4).1 0, fld (r.many 4).1 1, fld (r.many 4).1 2, fld (r.many 4).1 3, [], (Rd.all 11 (r.many 4).2 20).1, []⟩, (Rd.all 11 (r.many 4).2 20).2)
def Rd.over (r : Rd) : Nat := if r.e = 0 ∧ r.l ≠ [] then 7 else r.e
def normK (k : Nat) (u : List Int) : List Int := (List.range k).map (fld u)
theorem normK_length (k : Nat) (u : List Int) : (normK k u).length = k := by simp [normK]
theorem fld_normK {k j : Nat} (u : List Int) (h : j < k) : fld (normK k u) j = fld u j := by simp [normK, fld, List.getD_eq_getElem?_getD, h]
def recsN (k : Nat) (es : List (List Int)) : List Int := (es.length : Int) :: es.flatMap (normK k)
def elderN (s : St) : List Int := [s.t, s.g0, s.g1, s.nx] ++ ((s.free.length : Int) :: s.free) ++ recsN 10 s.es
theorem num_read {z : Int} (h : Sml z) (t : List UInt8) : (Rd.mk (Nu.num z.toNat ++ t) 0).num = (z, ⟨t, 0⟩) := by
  unfold Rd.num
  rw [if_neg (Nat.lt_irrefl 0)]
  have h1 := h.1
  have h2 := h.2
  rw [Nu.take_of_num z.toNat (by omega) t]
  simp only [if_true]
  rw [Int.toNat_of_nonneg h1]
theorem upTo_read {z m : Int} (h : Sml z) (hm : z ≤ m) (t : List UInt8) : (Rd.mk (Nu.num z.toNat ++ t) 0).upTo m = (z, ⟨t, 0⟩) := by
  unfold Rd.upTo
  rw [num_read h, if_neg (by simp; omega)]
theorem many_read {l : List Int} (h : ∀ z ∈ l, Sml z) (t : List UInt8) : ∀ k, k ≤ l.length → (Rd.mk (numsL l ++ t) 0).many k = (l.take k, ⟨numsL (l.drop k) ++ t, 0⟩)
  | 0, _ => by simp [Rd.many]
  | k + 1, hk => by
    have hk' : k < l.length := by omega
    unfold Rd.many
    rw [many_read h t k (by omega)]
    have e : l.drop k = l[k] :: l.drop (k + 1) := List.drop_eq_getElem_cons hk'
    simp only
    rw [e, numsL_cons, List.append_assoc, num_read (h _ (List.getElem_mem hk')), List.take_succ_eq_append_getElem hk']
theorem many_all {l : List Int} (h : ∀ z ∈ l, Sml z) (t : List UInt8) : (Rd.mk (numsL l ++ t) 0).many l.length = (l, ⟨t, 0⟩) := by
  rw [many_read h t _ (Nat.le_refl _)]
  simp [numsL]
theorem recs_read {k : Nat} {es : List (List Int)} (h : ∀ u ∈ es, ∀ j, j < k → Sml (fld u j)) (t : List UInt8) : ∀ n, n ≤ es.length → Rd.recs k ⟨numsL (es.flatMap (normK k)) ++ t, 0⟩ n = ((es.take n).map (normK k), ⟨numsL ((es.drop n).flatMap (normK k)) ++ t, 0⟩)
  | 0, _ => by simp [Rd.recs]
  | n + 1, hn => by
    have hn' : n < es.length := by omega
    unfold Rd.recs
    rw [recs_read h t n (by omega)]
    have e : es.drop n = es[n] :: es.drop (n + 1) := List.drop_eq_getElem_cons hn'
    have hs : ∀ z ∈ normK k es[n], Sml z := by
      intro z hz
      unfold normK at hz
      obtain ⟨j, hj, rfl⟩ := List.mem_map.1 hz
      exact h _ (List.getElem_mem hn') j (List.mem_range.1 hj)
    have e2 : ∀ x : List UInt8, (Rd.mk (numsL (normK k es[n]) ++ x) 0).many k = (normK k es[n], ⟨x, 0⟩) := fun x => by
      have := many_all hs x
      rw [normK_length] at this
      exact this
    simp only
    rw [e, List.flatMap_cons, numsL_append, List.append_assoc, e2, List.take_succ_eq_append_getElem hn', List.map_append]
    rfl
theorem all_read {k : Nat} {es : List (List Int)} {m : Int} (h : ∀ u ∈ es, ∀ j, j < k → Sml (fld u j)) (hm : (es.length : Int) ≤ m) (hl : es.length ≤ 1000000) (t : List UInt8) : Rd.all k ⟨numsL (recsN k es) ++ t, 0⟩ m = (es.map (normK k), ⟨t, 0⟩) := by
  have e : numsL (recsN k es) ++ t = Nu.num (es.length : Int).toNat ++ (numsL (es.flatMap (normK k)) ++ t) := by
    unfold recsN
    rw [numsL_cons, List.append_assoc]
  have hz : Sml (es.length : Int) := ⟨by omega, by omega⟩
  unfold Rd.all
  rw [e, upTo_read hz hm]
  simp only [Int.toNat_natCast]
  rw [recs_read h t _ (Nat.le_refl _)]
  simp [numsL]
theorem row_read {l : List Int} {m : Int} (h : ∀ z ∈ l, Sml z) (hm : (l.length : Int) ≤ m) (hl : l.length ≤ 1000000) (t : List UInt8) : (Rd.mk (numsL ((l.length : Int) :: l) ++ t) 0).row m = (l, ⟨t, 0⟩) := by
  have hz : Sml (l.length : Int) := ⟨by omega, by omega⟩
  unfold Rd.row
  rw [numsL_cons, List.append_assoc, upTo_read hz hm]
  simp only [Int.toNat_natCast]
  exact many_all h t
structure SmlS (k : Nat) (s : St) : Prop where
  t : Sml s.t
  g0 : Sml s.g0
  g1 : Sml s.g1
  nx : Sml s.nx
  fr : ∀ z ∈ s.free, Sml z
  fl : s.free.length ≤ 200
  es : ∀ u ∈ s.es, ∀ j, j < k → Sml (fld u j)
  el : s.es.length ≤ 20
  bo : s.born = []
theorem head_sml {k : Nat} {s : St} (h : SmlS k s) : ∀ z ∈ [s.t, s.g0, s.g1, s.nx], Sml z := by
  intro z hz
  simp only [List.mem_cons, List.not_mem_nil, or_false] at hz
  rcases hz with rfl | rfl | rfl | rfl
  · exact h.t
  · exact h.g0
  · exact h.g1
  · exact h.nx
def normS (k : Nat) (s : St) : St := { s with es := s.es.map (normK k) }
theorem elder_read {s : St} (h : SmlS 10 s) (t : List UInt8) : (Rd.mk (numsL (elderN s) ++ t) 0).elder = (normS 10 s, ⟨t, 0⟩) := by
  have e : numsL (elderN s) ++ t = numsL [s.t, s.g0, s.g1, s.nx] ++ (numsL ((s.free.length : Int) :: s.free) ++ (numsL (recsN 10 s.es) ++ t)) := by
    unfold elderN
    rw [numsL_append, numsL_append, List.append_assoc, List.append_assoc]
  have h4 : ∀ x, (Rd.mk (numsL [s.t, s.g0, s.g1, s.nx] ++ x) 0).many 4 = ([s.t, s.g0, s.g1, s.nx], ⟨x, 0⟩) := fun x => many_all (head_sml h) x
  have hfl := h.fl
  have hel := h.el
  unfold Rd.elder
  rw [e, h4]
  simp only
  rw [row_read h.fr (by omega) (by omega)]
  simp only
  rw [all_read h.es (by omega) (by omega)]
  simp only [normS, h.bo]
  rfl
theorem num_same {r : Rd} (h : r.e ≠ 0) : r.num = (0, ⟨[], r.e⟩) := if_pos (by omega)
theorem many_length (r : Rd) : ∀ n, (r.many n).1.length = n
  | 0 => rfl
  | n + 1 => by
    unfold Rd.many
    rw [List.length_append, many_length r n]
    rfl
theorem recs_length (k : Nat) (r : Rd) : ∀ n, (Rd.recs k r n).1.length = n
  | 0 => rfl
  | n + 1 => by
    unfold Rd.recs
    rw [List.length_append, recs_length k r n]
    rfl
theorem ticks_length (k : Nat) (r : Rd) : ∀ n, (Rd.ticks k r n).1.length = n
  | 0 => rfl
  | n + 1 => by
    unfold Rd.ticks
    rw [List.length_append, ticks_length k r n]
    rfl
theorem takeF_few : ∀ (l : List UInt8) (i n m : Nat), i ≤ 9 → 10 ≤ m + i → (Nu.takeF i n (l.take m)).1 = (Nu.takeF i n l).1 ∧ (Nu.takeF i n (l.take m)).2.2 = (Nu.takeF i n l).2.2
  | [], i, n, m, _, _ => by simp
  | b :: t, i, n, m, hi, hm => by
    obtain ⟨k, rfl⟩ : ∃ k, m = k + 1 := ⟨m - 1, by omega⟩
    rw [List.take_succ_cons]
    unfold Nu.takeF
    by_cases h9 : i = 9
    · rw [if_pos h9, if_pos h9]; exact ⟨rfl, rfl⟩
    · rw [if_neg h9, if_neg h9]
      by_cases hb : 128 ≤ b.toNat
      · rw [if_pos hb, if_pos hb]
        exact takeF_few t (i + 1) _ k (by omega) (by omega)
      · rw [if_neg hb, if_neg hb]
        by_cases h0 : b.toNat = 0 ∧ 0 < i
        · rw [if_pos h0, if_pos h0]; exact ⟨rfl, rfl⟩
        · rw [if_neg h0, if_neg h0]; exact ⟨rfl, rfl⟩
theorem takeF_err : ∀ (l : List UInt8) (i n : Nat), (Nu.takeF i n l).2.2 ≠ 0 → (Nu.takeF i n l).1 = 0
  | [], _, _, _ => rfl
  | b :: t, i, n, h => by
    unfold Nu.takeF at h ⊢
    by_cases h9 : i = 9
    · rw [if_pos h9]
    · rw [if_neg h9] at h ⊢
      by_cases hb : 128 ≤ b.toNat
      · rw [if_pos hb] at h ⊢
        exact takeF_err t _ _ h
      · rw [if_neg hb] at h ⊢
        by_cases h0 : b.toNat = 0 ∧ 0 < i
        · rw [if_pos h0]
        · rw [if_neg h0] at h
          exact absurd rfl h
theorem take_few (l : List UInt8) : (Nu.take (l.take 10)).1 = (Nu.take l).1 ∧ (Nu.take (l.take 10)).2.2 = (Nu.take l).2.2 ∧ ((Nu.take l).2.2 = 0 → l.drop ((l.take 10).length - (Nu.take (l.take 10)).2.1.length) = (Nu.take l).2.1) := by
  obtain ⟨h1, h2⟩ := takeF_few l 0 0 10 (by omega) (by omega)
  refine ⟨h1, h2, fun h => ?_⟩
  obtain ⟨h3, h4⟩ := Nu.take_ok l (Nu.take l).1 (Nu.take l).2.1 (by rw [← h])
  generalize (Nu.take l).1 = y at h3 h4
  generalize (Nu.take l).2.1 = r at h3
  have hn := Nu.num_length y
  subst h3
  have e : (Nu.num y ++ r).take 10 = Nu.num y ++ r.take (10 - (Nu.num y).length) := by
    rw [List.take_append, List.take_of_length_le (by omega)]
  rw [e, Nu.take_of_num y h4]
  have e2 : (Nu.num y ++ List.take (10 - (Nu.num y).length) r).length - (List.take (10 - (Nu.num y).length) r).length = (Nu.num y).length := by
    rw [List.length_append]; omega
  simp only
  rw [e2, List.drop_left]
theorem rd_num_few {r : Rd} (h : r.e = 0) : r.num = (((Nu.take (r.l.take 10)).1 : Int), ⟨if (Nu.take (r.l.take 10)).2.2 = 0 then r.l.drop ((r.l.take 10).length - (Nu.take (r.l.take 10)).2.1.length) else [], (Nu.take (r.l.take 10)).2.2⟩) := by
  obtain ⟨h1, h2, h3⟩ := take_few r.l
  unfold Rd.num
  rw [if_neg (by omega), h1, h2]
  by_cases hc : (Nu.take r.l).2.2 = 0
  · rw [if_pos hc, if_pos hc, h3 hc, hc]
  · rw [if_neg hc, if_neg hc]
    have := takeF_err r.l 0 0 hc
    show ((0 : Int), _) = (((Nu.takeF 0 0 r.l).1 : Int), _)
    rw [this]
    rfl
end Go.Proofs.YtcbalhicaipmlaaGreat
namespace Go.Proofs.YtcbalhicaipmlaaGreat
open Go.RowKit
theorem xor_byte (A : Nat) (hA : A < 2 ^ 32) (b : UInt8) : bits .xor .u32 (A : Int) ((b.toNat : Int) % 4294967296) = ((A ^^^ b.toNat : Nat) : Int) := by
  have hb := b.toNat_lt
  have e : ((b.toNat : Int) % 4294967296) = (b.toNat : Int) := by omega
  rw [e]
  exact u32_xor_nat A b.toNat (by omega) (by omega)
theorem step_odd (z : Nat) (hz : z < 2 ^ 32) (h : ((z : Int) % 2 == 1) = true) : bits .xor .u32 ((z : Int) / 2) 3988292384 = (Cr.step z : Int) := by
  have h1 : z % 2 = 1 := by
    have := beq_iff_eq.1 h
    omega
  have e : ((z : Int) / 2) = ((z / 2 : Nat) : Int) := by omega
  have e2 : (3988292384 : Int) = ((3988292384 : Nat) : Int) := rfl
  rw [e, e2, u32_xor_nat (z / 2) 3988292384 (by omega) (by omega)]
  unfold Cr.step Cr.poly
  rw [if_pos h1]
theorem step_even (z : Nat) (h : ((z : Int) % 2 == 1) = false) : ((z : Int) / 2) = (Cr.step z : Int) := by
  have h1 : ¬ z % 2 = 1 := by
    have := beq_eq_false_iff_ne.1 h
    omega
  unfold Cr.step
  rw [if_neg h1]
  omega
theorem xor_ones (z : Nat) (hz : z < 2 ^ 32) : bits .xor .u32 (z : Int) 4294967295 = ((z ^^^ Cr.ones : Nat) : Int) := by
  have e2 : (4294967295 : Int) = ((4294967295 : Nat) : Int) := rfl
  rw [e2, u32_xor_nat z 4294967295 (by omega) (by omega)]
  rfl
set_option maxRecDepth 100000 in
set_option maxHeartbeats 400000 in
theorem sum_calls (l : List UInt8) (hs : l.length ≤ 1000000000) (w : World) :
    Calls Tryz.prog 102 #[.string ⟨l.toArray⟩] w fun e w' => e = .returned (.int .u32 (Cr.sumN l)) ∧ w' = w := by
  go_enter Tryz.func102, Tryz.ntmps102
  go_wp2
  go_loop [3, 8] (fun x i => ∃ k y : Nat, k ≤ l.length ∧ i = .int .i64 k ∧ x = .int .u32 y ∧ y < 2 ^ 32 ∧ Hid (y = Cr.crc Cr.ones (l.take k))) (fun _ i => l.length - (intOf i).toNat)
  case atStart => exact ⟨0, Cr.ones, Nat.zero_le _, rfl, rfl, Cr.ones_lt, rfl⟩
  case round =>
    obtain ⟨k, y, hk, rfl, rfl, hy, HY⟩ := hrel
    by_cases hlt : k < l.length
    · go_wp2
      go_loop [3, 17] (fun x i => ∃ j z : Nat, j ≤ 8 ∧ i = .int .i64 j ∧ x = .int .u32 z ∧ z < 2 ^ 32 ∧ Hid (z = Cr.stepN j (y ^^^ l[k].toNat))) (fun _ i => 8 - (intOf i).toNat)
      case atStart =>
        refine ⟨0, y ^^^ l[k].toNat, Nat.zero_le _, rfl, congrArg (Value.int .u32) (xor_byte y hy l[k]), Nat.xor_lt_two_pow hy ?_, rfl⟩
        have := l[k].toNat_lt
        omega
      case round =>
        obtain ⟨j, z, hj, rfl, rfl, hz, HZ⟩ := hrel
        by_cases hlt8 : j < 8
        · go_wp2
          · go_round
            case rel =>
              exact ⟨j + 1, Cr.step z, by omega, by go_num, congrArg (Value.int .u32) (step_odd z hz ‹_›), Cr.step_lt z hz, by have := HZ.out; rw [this]; rfl⟩
            case measure => simp [intOf]; omega
          · go_round
            case rel =>
              exact ⟨j + 1, Cr.step z, by omega, by go_num, congrArg (Value.int .u32) (step_even z ‹_›), Cr.step_lt z hz, by have := HZ.out; rw [this]; rfl⟩
            case measure => simp [intOf]; omega
        · have hj8 : j = 8 := by omega
          have HE : Hid (z = Cr.crc Cr.ones (l.take (k + 1))) := by
            show z = _
            rw [Cr.crc_take _ _ _ hlt, ← HY.out, HZ.out, hj8]; rfl
          clear HZ HY
          go_wp2
          go_round
          case rel => exact ⟨k + 1, z, by omega, by go_num, rfl, hz, HE⟩
          case measure => simp [intOf]; omega
    · have hkl : l.take k = l := List.take_of_length_le (by omega)
      have HE : Hid (y = Cr.crc Cr.ones l) := by show y = _; rw [HY.out, hkl]
      clear hkl HY
      go_wp2
      go_ret
      exact ⟨ret_int (by rw [xor_ones y hy]; unfold Cr.sumN; rw [← HE.out]), rfl⟩
theorem low_eq (y B r : Nat) (hy : y < 2 ^ 32) (hB : B < 256) :
    bits .xor .u32 (bits .and .u32 (y : Int) 1) (bits .and .u32 ((B : Int) / 2 ^ r % 4294967296) 1) = (((y % 2) ^^^ (B / 2 ^ r % 2) : Nat) : Int) := by
  have h1 : (1 : Int) = ((1 : Nat) : Int) := rfl
  have e1 : bits .and .u32 (y : Int) 1 = ((y % 2 : Nat) : Int) := by
    rw [h1, u32_and_nat y 1 (by omega) (by omega), Nat.and_one_is_mod]
  have hd : B / 2 ^ r ≤ B := Nat.div_le_self _ _
  have e0 : ((B : Int) / 2 ^ r % 4294967296) = ((B / 2 ^ r : Nat) : Int) := by
    have : ((B : Int) / 2 ^ r) = ((B / 2 ^ r : Nat) : Int) := by simp
    have hlt : B / 2 ^ r < 4294967296 := by omega
    rw [this]; exact Int.emod_eq_of_lt (Int.natCast_nonneg _) (Int.ofNat_lt.2 hlt)
  have e2 : bits .and .u32 ((B : Int) / 2 ^ r % 4294967296) 1 = ((B / 2 ^ r % 2 : Nat) : Int) := by
    rw [e0, h1, u32_and_nat (B / 2 ^ r) 1 (by omega) (by omega), Nat.and_one_is_mod]
  rw [e1, e2]
  exact u32_xor_nat (y % 2) (B / 2 ^ r % 2) (by omega) (by omega)
theorem feed_odd (y B r : Nat) (hy : y < 2 ^ 32) (hB : B < 256) (h : (bits .xor .u32 (bits .and .u32 (y : Int) 1) (bits .and .u32 ((B : Int) / 2 ^ r % 4294967296) 1) == 1) = true) :
    bits .xor .u32 ((y : Int) / 2) 3988292384 = (Cr.feed1 y (B / 2 ^ r % 2) : Int) := by
  rw [low_eq y B r hy hB] at h
  have h1 : (y % 2) ^^^ (B / 2 ^ r % 2) = 1 := by
    have := beq_iff_eq.1 h
    omega
  have e : ((y : Int) / 2) = ((y / 2 : Nat) : Int) := by omega
  have e2 : (3988292384 : Int) = ((3988292384 : Nat) : Int) := rfl
  rw [e, e2, u32_xor_nat (y / 2) 3988292384 (by omega) (by omega)]
  unfold Cr.feed1 Cr.poly
  rw [if_pos h1]
theorem feed_even (y B r : Nat) (hy : y < 2 ^ 32) (hB : B < 256) (h : (bits .xor .u32 (bits .and .u32 (y : Int) 1) (bits .and .u32 ((B : Int) / 2 ^ r % 4294967296) 1) == 1) = false) :
    ((y : Int) / 2) = (Cr.feed1 y (B / 2 ^ r % 2) : Int) := by
  rw [low_eq y B r hy hB] at h
  have h1 : ¬ (y % 2) ^^^ (B / 2 ^ r % 2) = 1 := by
    have := beq_eq_false_iff_ne.1 h
    omega
  unfold Cr.feed1
  rw [if_neg h1]
  omega
set_option maxRecDepth 100000 in
set_option maxHeartbeats 400000 in
theorem refSum_calls (l : List UInt8) (hs : l.length ≤ 1000000000) (w : World) :
    Calls Tryz.prog 41 #[.string ⟨l.toArray⟩] w fun e w' => e = .returned (.int .u32 (Cr.sumN l)) ∧ w' = w := by
  go_enter Tryz.func41, Tryz.ntmps41
  go_wp2
  go_loop [3, 4] (fun x i => ∃ k y : Nat, k ≤ 8 * l.length ∧ i = .int .i64 k ∧ x = .int .u32 y ∧ y < 2 ^ 32 ∧ Hid (y = Cr.st l k)) (fun _ i => 8 * l.length - (intOf i).toNat)
  case atStart => exact ⟨0, Cr.ones, Nat.zero_le _, rfl, rfl, Cr.ones_lt, rfl⟩
  case round =>
    obtain ⟨k, y, hk, rfl, rfl, hy, HY⟩ := hrel
    by_cases hlt : k < 8 * l.length
    · have hq : k / 8 < l.length := by omega
      have HB : Hid (Cr.bitAt l k = l[k / 8].toNat / 2 ^ (k % 8) % 2) := by
        show _ = _
        unfold Cr.bitAt
        simp [List.getD_eq_getElem?_getD, hq]
      have HS : Hid (Cr.st l (k + 1) = Cr.feed1 y (l[k / 8].toNat / 2 ^ (k % 8) % 2)) := by
        show _ = _
        rw [Cr.st_succ l k hlt, HB.out, HY.out]
      clear HB
      go_wp2
      · go_round
        case rel =>
          exact ⟨k + 1, _, by omega, by go_num, congrArg (Value.int .u32) (feed_odd y l[k / 8].toNat (k % 8) hy l[k / 8].toNat_lt ‹_›), Cr.feed1_lt _ _ hy, HS.out.symm⟩
        case measure => simp [intOf]; omega
      · go_round
        case rel =>
          exact ⟨k + 1, _, by omega, by go_num, congrArg (Value.int .u32) (feed_even y l[k / 8].toNat (k % 8) hy l[k / 8].toNat_lt ‹_›), Cr.feed1_lt _ _ hy, HS.out.symm⟩
        case measure => simp [intOf]; omega
    · have hk8 : k = 8 * l.length := by omega
      have HE : Hid (y = Cr.crc Cr.ones l) := by show y = _; rw [HY.out, hk8, Cr.st_end]
      clear hk8 HY
      go_wp2
      go_ret
      exact ⟨ret_int (by rw [xor_ones y hy]; unfold Cr.sumN; rw [← HE.out]), rfl⟩
end Go.Proofs.YtcbalhicaipmlaaGreat

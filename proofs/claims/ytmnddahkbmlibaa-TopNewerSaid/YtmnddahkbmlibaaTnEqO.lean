/- The reference's game and package newer, held against each other as plain functions: a tick's end. -/
import Derived.Test.YtmnddahkbmlibaaTnRefMA
import Derived.Test.YtmnddahkbmlibaaTnRefN
import Derived.Test.YtmnddahkbmlibaaTnInO
namespace Go.Proofs.Ytmnddahkbmlibaa
open Go.RowKit Go.Maps
theorem standsN (x y : Int) (es : List (List Int)) : standsB x y es = decide (0 < es.countP (isAt x y)) := by
  rw [Bool.eq_iff_iff, decide_eq_true_eq, List.countP_pos_iff]
  unfold standsB
  rw [List.any_eq_true]
  rfl
theorem aimsN {s : St} (h : InvN s) {u : List Int} (hu : u ∈ s.es) (h9 : fld u 9 ≠ 0) : fld u 6 = 2 ∨ fld u 6 = 3 := by
  have hb := (boundsN_true (h.bd u hu)).2.2.2.2.1
  have ht := h.tg u hu
  unfold targetE at ht
  rw [decide_eq_true (show 0 < fld u 9 by omega)] at ht
  have : (fld u 6 == 2 || fld u 6 == 3) = true := by simpa using ht
  rw [Bool.or_eq_true, beq_iff_eq, beq_iff_eq] at this
  exact this
theorem own01N {s : St} (h : InvN s) {u : List Int} (hu : u ∈ s.es) (h9 : fld u 9 ≠ 0) : fld u 1 = 0 ∨ fld u 1 = 1 := by
  have ht := invN_target h hu (aimsN h hu h9)
  have ho := h.ow _ hu
  have hk : fld u 2 ≠ 4 := by
    intro e
    have hm := ht.2.2.2
    unfold mayN mineN fightN at hm
    rw [e] at hm
    have e1 : Pl.nLoad 4 = 0 := by decide
    have e2 : Pl.nHarm 4 = 0 := by decide
    rw [e1, e2] at hm
    split at hm
    · simp at hm
    · simp at hm
  unfold ownerE at ho
  rw [if_neg hk] at ho
  unfold inZ at ho
  rw [decide_eq_true_eq] at ho
  omega
theorem hpN {s : St} (h : InvN s) {i : Nat} (hi : i < s.es.length) : 0 ≤ fld (rec s.es i) 5 ∧ fld (rec s.es i) 5 ≤ 1000 := by
  have hb := (boundsN_true (h.bd _ (rec_mem hi))).2.2.1
  have : mostN (fld (rec s.es i) 2) ≤ 1000 := by
    unfold mostN Pl.nHP
    repeat' split
    all_goals omega
  omega
end Go.Proofs.Ytmnddahkbmlibaa

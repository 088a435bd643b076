/- A right state bears all that the steps of a tick lean on. -/
import Derived.Test.YtakmjfchhchngaaInvZ
import Derived.Test.YtakmjfchhchngaaMv
import Derived.Test.YtakmjfchhchngaaSk
namespace Go.Proofs.Ytakmjfchhchngaa
open Go.RowKit Go.Maps

theorem rec_mem {es : List (List Int)} {i : Nat} (h : i < es.length) : rec es i ∈ es := by
  rw [rec_at h]
  exact List.getElem_mem h
theorem head_on {s : St} (h : InvM s) {u : List Int} (hu : u ∈ s.es) (hb : headB s.es u = true) : (0 ≤ headX s.es u ∧ headX s.es u < 12) ∧ 0 ≤ headY s.es u ∧ headY s.es u < 12 := by
  by_cases h1 : fld u 6 = 1
  · have hp := h.pl u hu
    unfold placeE at hp
    rw [if_pos h1, Bool.and_eq_true] at hp
    unfold headX headY
    rw [if_pos h1, if_pos h1]
    exact Pl.onB_true hp.1
  · by_cases h2 : fld u 6 = 2 ∨ fld u 6 = 3
    · unfold headX headY
      rw [if_neg h1, if_pos h2, if_neg h1, if_pos h2]
      exact h.on (h.target hu h2).2.1
    · unfold headB at hb
      rw [if_neg h1, if_neg h2] at hb
      cases hb
theorem invM_uniq {s : St} (h : InvM s) : Uniq s.es := by
  have hup := h.inv.up
  intro i j hi hj e
  rcases Nat.lt_trichotomy i j with hlt | heq | hgt
  · have := hup i j hlt hj; omega
  · exact heq
  · have := hup j i hgt hi; omega
theorem invM_wf {s : St} (h : InvM s) {u : List Int} (hu : u ∈ s.es) : (Lit.int .i64 (fld u 0)).wf = true := by
  have := (boundsE_true (h.bd u hu)).2.1
  exact wf64 (by omega) (by omega)
theorem invM_moveOk {s : St} (h : InvM s) : MoveOk s :=
  ⟨by have := h.el; omega, fun i hi => h.on (rec_mem hi), fun i hi => h.aimU (rec_mem hi), fun i hi hb => head_on h (rec_mem hi) hb, fun i hi => invM_wf h (rec_mem hi), invM_uniq h⟩
theorem aims {s : St} (h : InvM s) {u : List Int} (hu : u ∈ s.es) (h9 : fld u 9 ≠ 0) : fld u 6 = 2 ∨ fld u 6 = 3 := by
  have hb := (boundsE_true (h.bd u hu)).2.2.2.2.2
  have ht := h.tg u hu
  unfold targetE at ht
  rw [decide_eq_true (show 0 < fld u 9 by omega)] at ht
  have : (fld u 6 == 2 || fld u 6 == 3) = true := by simpa using ht
  rw [Bool.or_eq_true, beq_iff_eq, beq_iff_eq] at this
  exact this
theorem invM_strikeOk {s : St} (h : InvM s) : StrikeOk s := by
  refine ⟨by have := h.el; omega, fun i hi => h.on (rec_mem hi), fun i hi => invM_wf h (rec_mem hi), invM_uniq h, fun i hi h9 => (h.target (rec_mem hi) (aims h (rec_mem hi) h9)).1, fun i hi h9 => ?_, fun i hi => ?_, h.a0, h.a1⟩
  · have ht := h.target (rec_mem hi) (aims h (rec_mem hi) h9)
    have ho := h.ow _ (rec_mem hi)
    have hk : fld (rec s.es i) 2 ≠ 4 := by
      intro e
      have hm := ht.2.2.2
      unfold mayE mineE fightE at hm
      rw [e] at hm
      have e1 : Pl.eLoad 4 = 0 := by decide
      have e2 : Pl.eHarm 4 = 0 := by decide
      rw [e1, e2] at hm
      split at hm
      · simp at hm
      · simp at hm
    unfold ownerE at ho
    rw [if_neg hk] at ho
    unfold inZ at ho
    rw [decide_eq_true_eq] at ho
    omega
  · have hb := (boundsE_true (h.bd _ (rec_mem hi))).2.2.2.1
    have : mostZ (fld (rec s.es i) 2) ≤ 1000 := by
      unfold mostZ Pl.eHP
      repeat' split
      all_goals omega
    omega
theorem inv_okU {s : St} (h : Inv s) : ∀ i, i < s.es.length → OkU (rec s.es i) := fun i hi => by
  refine ⟨(boundsE_true (h.bd i hi)).2.2.1, fun h2 => ?_⟩
  have ho := h.ow i hi
  unfold ownerE at ho
  rw [if_neg (by omega)] at ho
  unfold inZ at ho
  rw [decide_eq_true_eq] at ho
  omega
theorem build_born (s : St) (u q : List Int) : (buildS s u q).born.length ≤ s.born.length + 1 := by
  unfold buildS
  split
  · split
    · omega
    next id s1 htk =>
      have h1 : s1.born = s.born := by
        unfold takeS at htk
        split at htk
        · split at htk
          · cases htk
          · cases htk; rfl
        · cases htk; rfl
      simp only [List.length_append, List.length_cons, List.length_nil, h1]
      omega
  · omega
theorem cmd_born (s : St) (q : List Int) : (cmdS s q).born.length ≤ s.born.length + 1 := by
  unfold cmdS doS goS aimS stopS
  repeat' (first | exact Nat.le_succ _ | exact build_born _ _ _ | split)
theorem cmds_next (s : St) {l : List (List Int)} {k : Nat} (hk : k < l.length) : cmdsS s (l.take (k + 1)) = cmdS (cmdsS s (l.take k)) (rec l k) := by
  unfold cmdsS
  rw [take_rec hk, List.foldl_append]
  rfl
theorem cmds_born (s : St) (l : List (List Int)) (k : Nat) : (cmdsS s (l.take k)).born.length ≤ s.born.length + k := by
  induction k with
  | zero => exact Nat.le_of_eq rfl
  | succ k ih =>
    by_cases hk : k < l.length
    · rw [cmds_next s hk]
      have := cmd_born (cmdsS s (l.take k)) (rec l k)
      omega
    · rw [List.take_of_length_le (by omega)]
      rw [List.take_of_length_le (by omega)] at ih
      omega
theorem cmds_inv {s : St} (h : Inv s) (hb : s.born = []) (l : List (List Int)) : Inv (cmdsS s l) := (cmds_ok (s0 := s) l s h (grew_refl s hb)).1
end Go.Proofs.Ytakmjfchhchngaa

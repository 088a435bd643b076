/- The walk of WireSays. -/
import Derived.Test.YtgiieepfhohmhabGreatZWire5
import Derived.Test.YtgiieepfhohmhabGreatZSnN
namespace Go.Proofs.YtgiieepfhohmhabGreat
open Go.RowKit
theorem after {w a b : World} (h : Below w.heap.size w a) (k : Below a.heap.size a b) : Below w.heap.size w b := h.trans (k.mono h.size)
end Go.Proofs.YtgiieepfhohmhabGreat
namespace Go.Proofs.YtgiieepfhohmhabGreat
open Go.RowKit
theorem open_wrote {b : UInt8} {l : List UInt8} (h : openE b l = 0) : frameL b (openB b l) = l := by
  have e : openB b l = midL l := if_pos h
  rw [e]
  unfold openE at h
  split at h
  · cases h
  next h8 =>
    split at h
    · cases h
    next h4 =>
      split at h
      · cases h
      next hs => exact (framed_iff b l (by omega) (Classical.not_not.1 h4)).2 (Classical.not_not.1 hs)
theorem rdE_wrote {l : List UInt8} {s : St} (h : rdE l = (0, s)) : checkE s.t s.g0 s.g1 s.nx s.free s.es = 0 ∧ frameL 69 (numsL (elderN s)) = l ∧ s.born = [] := by
  unfold rdE at h
  by_cases h1 : openE 69 l = 0
  · rw [if_pos h1] at h
    have hw := open_wrote h1
    generalize openB 69 l = body at h hw
    by_cases h2 : (Rd.mk body 0).elder.2.over = 0
    · rw [if_pos h2] at h
      obtain ⟨h3, h4⟩ := over_wrote h2
      obtain ⟨_, h5, h6⟩ := elder_wrote h3
      rw [h4, List.append_nil] at h5
      generalize (Rd.mk body 0).elder = R at h h5 h6
      by_cases hc : checkE R.1.t R.1.g0 R.1.g1 R.1.nx R.1.free R.1.es = 0
      · rw [if_pos hc] at h
        have e : R.1 = s := (Prod.mk.inj h).2
        rw [← e]
        refine ⟨hc, ?_, h6.bo⟩
        have h5' : numsL (elderN R.1) = body := h5
        rw [h5']
        exact hw
      · rw [if_neg hc] at h
        exact absurd (Prod.mk.inj h).1 hc
    · rw [if_neg h2] at h
      exact absurd (Prod.mk.inj h).1 h2
  · rw [if_neg h1] at h
    exact absurd (Prod.mk.inj h).1 h1
theorem rdN_wrote {l : List UInt8} {s : St} (h : rdN l = (0, s)) : ckN s = 0 ∧ frameL 78 (numsL (newerN s)) = l ∧ s.born = [] ∧ s.free = [] := by
  unfold rdN at h
  by_cases h1 : openE 78 l = 0
  · rw [if_pos h1] at h
    have hw := open_wrote h1
    generalize openB 78 l = body at h hw
    by_cases h2 : (Rd.mk body 0).newer.2.over = 0
    · rw [if_pos h2] at h
      obtain ⟨h3, h4⟩ := over_wrote h2
      obtain ⟨_, h5, h6⟩ := newer_wrote h3
      rw [h4, List.append_nil] at h5
      have hf : (Rd.mk body 0).newer.1.free = [] := by simp only [Rd.newer]
      generalize (Rd.mk body 0).newer = R at h h5 h6 hf
      by_cases hc : ckN R.1 = 0
      · rw [if_pos hc] at h
        have e : R.1 = s := (Prod.mk.inj h).2
        rw [← e]
        refine ⟨hc, ?_, h6.bo, hf⟩
        have h5' : numsL (newerN R.1) = body := h5
        rw [h5']
        exact hw
      · rw [if_neg hc] at h
        exact absurd (Prod.mk.inj h).1 hc
    · rw [if_neg h2] at h
      exact absurd (Prod.mk.inj h).1 h2
  · rw [if_neg h1] at h
    exact absurd (Prod.mk.inj h).1 h1
def tooM (ls : List (List (List Int))) : Bool := ls.any fun l => decide (8 < l.length)
def negU (k : Nat) (u : List Int) : Bool := (List.range k).any fun j => decide (fld u j < 0)
def negB (k : Nat) (ls : List (List (List Int))) : Bool := ls.any fun l => l.any (negU k)
def ckT (k : Nat) (c : Nat) (t : Int) (ls : List (List (List Int))) : Nat :=
  if c = 0 then (if (decide (60 - t < (ls.length : Int)) || tooM ls) = true then 2 else if negB k ls = true then 1 else 0) else c
theorem ckT_zero {k c : Nat} {t : Int} {ls : List (List (List Int))} (h : ckT k c t ls = 0) : c = 0 ∧ (ls.length : Int) ≤ 60 - t ∧ (∀ l ∈ ls, l.length ≤ 8) ∧ ∀ l ∈ ls, ∀ u ∈ l, ∀ j, j < k → 0 ≤ fld u j := by
  unfold ckT at h
  by_cases hc : c = 0
  · rw [if_pos hc] at h
    refine ⟨hc, ?_⟩
    by_cases h2 : (decide (60 - t < (ls.length : Int)) || tooM ls) = true
    · rw [if_pos h2] at h; cases h
    · rw [if_neg h2] at h
      rw [Bool.or_eq_true, not_or, decide_eq_true_eq] at h2
      by_cases h3 : negB k ls = true
      · rw [if_pos h3] at h; cases h
      · refine ⟨by omega, fun l hl => ?_, fun l hl u hu j hj => ?_⟩
        · by_cases h8 : l.length ≤ 8
          · exact h8
          · exact absurd (List.any_eq_true.2 ⟨l, hl, decide_eq_true (by omega)⟩) h2.2
        · by_cases h0 : 0 ≤ fld u j
          · exact h0
          · exact absurd (List.any_eq_true.2 ⟨l, hl, List.any_eq_true.2 ⟨u, hu, List.any_eq_true.2 ⟨j, List.mem_range.2 hj, decide_eq_true (by omega)⟩⟩⟩) h3
  · rw [if_neg hc] at h
    exact absurd h hc
def tapeN (s : St) (ls : List (List (List Int))) : List Int := elderN s ++ ticksN 7 ls
def reelN (s : St) (ls : List (List (List Int))) : List Int := newerN s ++ ticksN 6 ls
def rdT (l : List UInt8) : Nat × St × List (List (List Int)) :=
  if openE 84 l = 0 then (if (Rd.tape 7 (Rd.mk (openB 84 l) 0).elder.2).2.over = 0 then (if ckT 7 (checkE (Rd.mk (openB 84 l) 0).elder.1.t (Rd.mk (openB 84 l) 0).elder.1.g0 (Rd.mk (openB 84 l) 0).elder.1.g1 (Rd.mk (openB 84 l) 0).elder.1.nx (Rd.mk (openB 84 l) 0).elder.1.free (Rd.mk (openB 84 l) 0).elder.1.es) (Rd.mk (openB 84 l) 0).elder.1.t (Rd.tape 7 (Rd.mk (openB 84 l) 0).elder.2).1 = 0 then (0, (Rd.mk (openB 84 l) 0).elder.1, (Rd.tape 7 (Rd.mk (openB 84 l) 0).elder.2).1) else (ckT 7 (checkE (Rd.mk (openB 84 l) 0).elder.1.t (Rd.mk (openB 84 l) 0).elder.1.g0 (Rd.mk (openB 84 l) 0).elder.1.g1 (Rd.mk (openB 84 l) 0).elder.1.nx (Rd.mk (openB 84 l) 0).elder.1.free (Rd.mk (openB 84 l) 0).elder.1.es) (Rd.mk (openB 84 l) 0).elder.1.t (Rd.tape 7 (Rd.mk (openB 84 l) 0).elder.2).1, zeroS, [])) else ((Rd.tape 7 (Rd.mk (openB 84 l) 0).elder.2).2.over, zeroS, [])) else (openE 84 l, zeroS, [])
def rdR (l : List UInt8) : Nat × St × List (List (List Int)) :=
  if openE 82 l = 0 then (if (Rd.tape 6 (Rd.mk (openB 82 l) 0).newer.2).2.over = 0 then (if ckT 6 (ckN (Rd.mk (openB 82 l) 0).newer.1) (Rd.mk (openB 82 l) 0).newer.1.t (Rd.tape 6 (Rd.mk (openB 82 l) 0).newer.2).1 = 0 then (0, (Rd.mk (openB 82 l) 0).newer.1, (Rd.tape 6 (Rd.mk (openB 82 l) 0).newer.2).1) else (ckT 6 (ckN (Rd.mk (openB 82 l) 0).newer.1) (Rd.mk (openB 82 l) 0).newer.1.t (Rd.tape 6 (Rd.mk (openB 82 l) 0).newer.2).1, zeroS, [])) else ((Rd.tape 6 (Rd.mk (openB 82 l) 0).newer.2).2.over, zeroS, [])) else (openE 82 l, zeroS, [])
theorem rdT_wrote {l : List UInt8} {s : St} {ls : List (List (List Int))} (h : rdT l = (0, s, ls)) : ckT 7 (checkE s.t s.g0 s.g1 s.nx s.free s.es) s.t ls = 0 ∧ frameL 84 (numsL (tapeN s ls)) = l ∧ s.born = [] ∧ (∀ x ∈ ls, ∀ u ∈ x, ∀ j, j < 7 → Sml (fld u j)) := by
  unfold rdT at h
  by_cases h1 : openE 84 l = 0
  · rw [if_pos h1] at h
    have hw := open_wrote h1
    generalize openB 84 l = body at h hw
    by_cases h2 : (Rd.tape 7 (Rd.mk body 0).elder.2).2.over = 0
    · rw [if_pos h2] at h
      obtain ⟨h3, h4⟩ := over_wrote h2
      obtain ⟨h7, h8, h9, _⟩ := tape_wrote h3
      obtain ⟨_, h5, h6⟩ := elder_wrote h7
      rw [h4, List.append_nil] at h8
      rw [← h8] at h5
      generalize (Rd.mk body 0).elder = R at h h5 h6 h9 h8
      generalize Rd.tape 7 R.2 = Q at h h5 h9 h8
      by_cases hc : ckT 7 (checkE R.1.t R.1.g0 R.1.g1 R.1.nx R.1.free R.1.es) R.1.t Q.1 = 0
      · rw [if_pos hc] at h
        have e : R.1 = s := (Prod.mk.inj (Prod.mk.inj h).2).1
        have e2 : Q.1 = ls := (Prod.mk.inj (Prod.mk.inj h).2).2
        rw [← e, ← e2]
        refine ⟨hc, ?_, h6.bo, fun x hx => (h9 x hx).2⟩
        have h5' : numsL (elderN R.1) ++ numsL (ticksN 7 Q.1) = body := h5
        unfold tapeN
        rw [numsL_append, h5']
        exact hw
      · rw [if_neg hc] at h
        exact absurd (Prod.mk.inj h).1 hc
    · rw [if_neg h2] at h
      exact absurd (Prod.mk.inj h).1 h2
  · rw [if_neg h1] at h
    exact absurd (Prod.mk.inj h).1 h1
theorem rdR_wrote {l : List UInt8} {s : St} {ls : List (List (List Int))} (h : rdR l = (0, s, ls)) : ckT 6 (ckN s) s.t ls = 0 ∧ frameL 82 (numsL (reelN s ls)) = l ∧ s.born = [] ∧ s.free = [] ∧ (∀ x ∈ ls, ∀ u ∈ x, ∀ j, j < 6 → Sml (fld u j)) := by
  unfold rdR at h
  by_cases h1 : openE 82 l = 0
  · rw [if_pos h1] at h
    have hw := open_wrote h1
    generalize openB 82 l = body at h hw
    by_cases h2 : (Rd.tape 6 (Rd.mk body 0).newer.2).2.over = 0
    · rw [if_pos h2] at h
      obtain ⟨h3, h4⟩ := over_wrote h2
      obtain ⟨h7, h8, h9, _⟩ := tape_wrote h3
      obtain ⟨_, h5, h6⟩ := newer_wrote h7
      rw [h4, List.append_nil] at h8
      rw [← h8] at h5
      have hf : (Rd.mk body 0).newer.1.free = [] := by simp only [Rd.newer]
      generalize (Rd.mk body 0).newer = R at h h5 h6 h9 h8 hf
      generalize Rd.tape 6 R.2 = Q at h h5 h9 h8
      by_cases hc : ckT 6 (ckN R.1) R.1.t Q.1 = 0
      · rw [if_pos hc] at h
        have e : R.1 = s := (Prod.mk.inj (Prod.mk.inj h).2).1
        have e2 : Q.1 = ls := (Prod.mk.inj (Prod.mk.inj h).2).2
        rw [← e, ← e2]
        refine ⟨hc, ?_, h6.bo, hf, fun x hx => (h9 x hx).2⟩
        have h5' : numsL (newerN R.1) ++ numsL (ticksN 6 Q.1) = body := h5
        unfold reelN
        rw [numsL_append, h5']
        exact hw
      · rw [if_neg hc] at h
        exact absurd (Prod.mk.inj h).1 hc
    · rw [if_neg h2] at h
      exact absurd (Prod.mk.inj h).1 h2
  · rw [if_neg h1] at h
    exact absurd (Prod.mk.inj h).1 h1
end Go.Proofs.YtgiieepfhohmhabGreat

/- The walk of WireSays. -/
import Derived.Test.YtcbalhicaipmlaaGreatSWire4
import Derived.Test.YtcbalhicaipmlaaGreatSSnN
namespace Go.Proofs.YtcbalhicaipmlaaGreat
open Go.RowKit
theorem after {w a b : World} (h : Below w.heap.size w a) (k : Below a.heap.size a b) : Below w.heap.size w b := h.trans (k.mono h.size)
theorem open_frame (b : UInt8) (l : List UInt8) : openE b (frameL b l) = 0 ∧ openB b (frameL b l) = l := by
  have hlen := frameL_length b l
  have e1 : (frameL b l).take 4 = headL b := by
    unfold frameL
    rw [List.append_assoc, List.take_append_of_le_length (by rw [headL_length]; omega), List.take_of_length_le (by rw [headL_length]; omega)]
  have e2 : (frameL b l).take ((frameL b l).length - 4) = headL b ++ l := by
    rw [hlen]
    unfold frameL
    rw [List.take_append_of_le_length (by simp [headL_length]; omega), List.take_of_length_le (by simp [headL_length]; omega)]
  have e3 : (frameL b l).drop ((frameL b l).length - 4) = le4 (Cr.sumN (headL b ++ l)) := by
    rw [hlen]
    unfold frameL
    rw [List.drop_append_of_le_length (by simp [headL_length]; omega), List.drop_of_length_le (by simp [headL_length]; omega), List.nil_append]
  have e4 : openE b (frameL b l) = 0 := by
    unfold openE
    rw [if_neg (by omega), if_neg (by simp [e1]), if_neg (by rw [e2, e3]; simp)]
  refine ⟨e4, ?_⟩
  unfold openB midL
  rw [if_pos e4, hlen]
  unfold frameL
  rw [List.append_assoc, List.drop_append_of_le_length (by simp [headL_length]), List.drop_of_length_le (by simp [headL_length]), List.nil_append,
    List.take_append_of_le_length (by omega), List.take_of_length_le (by omega)]
end Go.Proofs.YtcbalhicaipmlaaGreat
namespace Go.Proofs.YtcbalhicaipmlaaGreat
open Go.RowKit
theorem normE {u : List Int} {j : Nat} (h : j < 10) : fld (normK 10 u) j = fld u j := fld_normK u h
theorem normU {u : List Int} {j : Nat} (h : j < 11) : fld (normK 11 u) j = fld u j := fld_normK u h
theorem norm_inv {s : St} (h : InvM s) : InvM (normS 10 s) := by
  refine invM_map h (normK 10) (fun u _ => ⟨normE (by omega), normE (by omega), normE (by omega)⟩) (fun u hu => ?_) (fun u hu => ?_) (fun u hu => ?_) ?_ (fun u hu h9 => ?_)
  · have := h.bd u hu
    unfold boundsE at this ⊢
    rw [normE (by omega), normE (by omega), normE (by omega), normE (by omega), normE (by omega), normE (by omega), normE (by omega)]
    exact this
  · have := h.pl u hu
    unfold placeE at this ⊢
    rw [normE (by omega), normE (by omega), normE (by omega), normE (by omega)]
    exact this
  · have := h.tg u hu
    unfold targetE at this ⊢
    rw [normE (by omega), normE (by omega)]
    exact this
  · rw [List.pairwise_map]
    refine List.Pairwise.imp ?_ h.ap
    intro a b hab
    rw [normE (by omega), normE (by omega), normE (by omega), normE (by omega)]
    exact hab
  · rw [normE (by omega)] at h9 ⊢
    obtain ⟨v, hv, e, hmay⟩ := h.am u hu h9
    refine ⟨v, hv, e, ?_⟩
    rw [normE (by omega)]
    unfold mayE mineE fightE at hmay ⊢
    rw [normE (by omega), normE (by omega)]
    exact hmay
theorem norm_invN {s : St} (h : InvN s) : InvN (normS 11 s) where
  t0 := h.t0
  t1 := h.t1
  n0 := h.n0
  n1 := h.n1
  a0 := h.a0
  a1 := h.a1
  el := by
    show (s.es.map (normK 11)).length ≤ 20
    rw [List.length_map]
    exact h.el
  bd := fun x hx => by
    obtain ⟨u, hu, rfl⟩ := List.mem_map.1 hx
    have := h.bd u hu
    unfold boundsN at this ⊢
    rw [normU (by omega), normU (by omega), normU (by omega), normU (by omega), normU (by omega), normU (by omega), normU (by omega)]
    exact this
  ow := fun x hx => by
    obtain ⟨u, hu, rfl⟩ := List.mem_map.1 hx
    have := h.ow u hu
    unfold ownerE at this ⊢
    rw [normU (by omega), normU (by omega)]
    exact this
  pl := fun x hx => by
    obtain ⟨u, hu, rfl⟩ := List.mem_map.1 hx
    have := h.pl u hu
    unfold placeN at this ⊢
    rw [normU (by omega), normU (by omega), normU (by omega), normU (by omega)]
    exact this
  tg := fun x hx => by
    obtain ⟨u, hu, rfl⟩ := List.mem_map.1 hx
    have := h.tg u hu
    unfold targetE at this ⊢
    rw [normU (by omega), normU (by omega)]
    exact this
  lt := fun x hx => by
    obtain ⟨u, hu, rfl⟩ := List.mem_map.1 hx
    rw [normU (by omega)]
    exact h.lt u hu
  sn := fun x hx => by
    obtain ⟨u, hu, rfl⟩ := List.mem_map.1 hx
    rw [normU (by omega)]
    exact h.sn u hu
  up := by
    show (s.es.map (normK 11)).Pairwise _
    rw [List.pairwise_map]
    refine List.Pairwise.imp ?_ h.up
    intro a b hab
    rw [normU (by omega), normU (by omega)]
    exact hab
  ap := by
    show (s.es.map (normK 11)).Pairwise _
    rw [List.pairwise_map]
    refine List.Pairwise.imp ?_ h.ap
    intro a b hab
    rw [normU (by omega), normU (by omega), normU (by omega), normU (by omega)]
    exact hab
  am := fun x hx h9 => by
    obtain ⟨u, hu, rfl⟩ := List.mem_map.1 hx
    rw [normU (by omega)] at h9 ⊢
    obtain ⟨v, hv, e, hmay⟩ := h.am u hu h9
    refine ⟨normK 11 v, List.mem_map_of_mem hv, by rw [normU (by omega)]; exact e, ?_⟩
    rw [normU (by omega)]
    unfold mayN mineN fightN at hmay ⊢
    rw [normU (by omega), normU (by omega), normU (by omega), normU (by omega)]
    exact hmay
  fr := h.fr
theorem rdE_by {s : St} (hI : Inv s) (hb : s.born = []) : rdE (frameL 69 (numsL (elderN s))) = (0, normS 10 s) := by
  obtain ⟨h1, h2⟩ := open_frame 69 (numsL (elderN s))
  have er := elder_read (smlE hI hb) []
  rw [List.append_nil] at er
  have hc := check_of_inv (norm_inv hI.mem).inv
  unfold rdE
  rw [if_pos h1, h2, er]
  rw [if_pos (show Rd.over ⟨[], 0⟩ = 0 from rfl), if_pos hc]
end Go.Proofs.YtcbalhicaipmlaaGreat
namespace Go.Proofs.YtcbalhicaipmlaaGreat
open Go.RowKit
def tooM (ls : List (List (List Int))) : Bool := ls.any fun l => decide (8 < l.length)
def negU (k : Nat) (u : List Int) : Bool := (List.range k).any fun j => decide (fld u j < 0)
def negB (k : Nat) (ls : List (List (List Int))) : Bool := ls.any fun l => l.any (negU k)
def ckT (k : Nat) (c : Nat) (t : Int) (ls : List (List (List Int))) : Nat :=
  if c = 0 then (if (decide (60 - t < (ls.length : Int)) || tooM ls) = true then 2 else if negB k ls = true then 1 else 0) else c
theorem ckT_zero {k c : Nat} {t : Int} {ls : List (List (List Int))} (h : ckT k c t ls = 0) : c = 0 ∧ (ls.length : Int) ≤ 60 - t ∧ (∀ l ∈ ls, l.length ≤ 8) ∧ ∀ l ∈ ls, ∀ u ∈ l, ∀ j, j < k → 0 ≤ fld u j := by
  unfold ckT at h
  by_cases hc : c = 0
  · rw [if_pos hc] at h
    refine ⟨hc, ?_⟩
    by_cases h2 : (decide (60 - t < (ls.length : Int)) || tooM ls) = true
    · rw [if_pos h2] at h; cases h
    · rw [if_neg h2] at h
      rw [Bool.or_eq_true, not_or, decide_eq_true_eq] at h2
      by_cases h3 : negB k ls = true
      · rw [if_pos h3] at h; cases h
      · refine ⟨by omega, fun l hl => ?_, fun l hl u hu j hj => ?_⟩
        · by_cases h8 : l.length ≤ 8
          · exact h8
          · exact absurd (List.any_eq_true.2 ⟨l, hl, decide_eq_true (by omega)⟩) h2.2
        · by_cases h0 : 0 ≤ fld u j
          · exact h0
          · exact absurd (List.any_eq_true.2 ⟨l, hl, List.any_eq_true.2 ⟨u, hu, List.any_eq_true.2 ⟨j, List.mem_range.2 hj, decide_eq_true (by omega)⟩⟩⟩) h3
  · rw [if_neg hc] at h
    exact absurd h hc
theorem ckT_ok {k : Nat} {t : Int} {ls : List (List (List Int))} (h1 : (ls.length : Int) ≤ 60 - t) (h2 : ∀ l ∈ ls, l.length ≤ 8) (h3 : ∀ l ∈ ls, ∀ u ∈ l, ∀ j, j < k → 0 ≤ fld u j) : ckT k 0 t ls = 0 := by
  unfold ckT
  rw [if_pos rfl, if_neg, if_neg]
  · intro h
    obtain ⟨l, hl, h⟩ := List.any_eq_true.1 h
    obtain ⟨u, hu, h⟩ := List.any_eq_true.1 h
    obtain ⟨j, hj, h⟩ := List.any_eq_true.1 h
    have := of_decide_eq_true h
    have := h3 l hl u hu j (List.mem_range.1 hj)
    omega
  · rw [Bool.or_eq_true, not_or, decide_eq_true_eq]
    refine ⟨by omega, fun h => ?_⟩
    obtain ⟨l, hl, h⟩ := List.any_eq_true.1 h
    have := of_decide_eq_true h
    have := h2 l hl
    omega
def tapeN (s : St) (ls : List (List (List Int))) : List Int := elderN s ++ ticksN 7 ls
def reelN (s : St) (ls : List (List (List Int))) : List Int := newerN s ++ ticksN 6 ls
def rdT (l : List UInt8) : Nat × St × List (List (List Int)) :=
  if openE 84 l = 0 then (if (Rd.tape 7 (Rd.mk (openB 84 l) 0).elder.2).2.over = 0 then (if ckT 7 (checkE (Rd.mk (openB 84 l) 0).elder.1.t (Rd.mk (openB 84 l) 0).elder.1.g0 (Rd.mk (openB 84 l) 0).elder.1.g1 (Rd.mk (openB 84 l) 0).elder.1.nx (Rd.mk (openB 84 l) 0).elder.1.free (Rd.mk (openB 84 l) 0).elder.1.es) (Rd.mk (openB 84 l) 0).elder.1.t (Rd.tape 7 (Rd.mk (openB 84 l) 0).elder.2).1 = 0 then (0, (Rd.mk (openB 84 l) 0).elder.1, (Rd.tape 7 (Rd.mk (openB 84 l) 0).elder.2).1) else (ckT 7 (checkE (Rd.mk (openB 84 l) 0).elder.1.t (Rd.mk (openB 84 l) 0).elder.1.g0 (Rd.mk (openB 84 l) 0).elder.1.g1 (Rd.mk (openB 84 l) 0).elder.1.nx (Rd.mk (openB 84 l) 0).elder.1.free (Rd.mk (openB 84 l) 0).elder.1.es) (Rd.mk (openB 84 l) 0).elder.1.t (Rd.tape 7 (Rd.mk (openB 84 l) 0).elder.2).1, zeroS, [])) else ((Rd.tape 7 (Rd.mk (openB 84 l) 0).elder.2).2.over, zeroS, [])) else (openE 84 l, zeroS, [])
def rdR (l : List UInt8) : Nat × St × List (List (List Int)) :=
  if openE 82 l = 0 then (if (Rd.tape 6 (Rd.mk (openB 82 l) 0).newer.2).2.over = 0 then (if ckT 6 (ckN (Rd.mk (openB 82 l) 0).newer.1) (Rd.mk (openB 82 l) 0).newer.1.t (Rd.tape 6 (Rd.mk (openB 82 l) 0).newer.2).1 = 0 then (0, (Rd.mk (openB 82 l) 0).newer.1, (Rd.tape 6 (Rd.mk (openB 82 l) 0).newer.2).1) else (ckT 6 (ckN (Rd.mk (openB 82 l) 0).newer.1) (Rd.mk (openB 82 l) 0).newer.1.t (Rd.tape 6 (Rd.mk (openB 82 l) 0).newer.2).1, zeroS, [])) else ((Rd.tape 6 (Rd.mk (openB 82 l) 0).newer.2).2.over, zeroS, [])) else (openE 82 l, zeroS, [])
def normT (k : Nat) (ls : List (List (List Int))) : List (List (List Int)) := ls.map (fun l => l.map (normK k))
theorem normT_ok {k : Nat} {ls : List (List (List Int))} (h : ∀ l ∈ ls, ∀ u ∈ l, ∀ j, j < k → 0 ≤ fld u j) : ∀ l ∈ normT k ls, ∀ u ∈ l, ∀ j, j < k → 0 ≤ fld u j := by
  intro x hx v hv j hj
  obtain ⟨l, hl, rfl⟩ := List.mem_map.1 hx
  obtain ⟨u, hu, rfl⟩ := List.mem_map.1 hv
  rw [fld_normK u hj]
  exact h l hl u hu j hj
theorem normT_eight {k : Nat} {ls : List (List (List Int))} (h : ∀ l ∈ ls, l.length ≤ 8) : ∀ l ∈ normT k ls, l.length ≤ 8 := by
  intro x hx
  obtain ⟨l, hl, rfl⟩ := List.mem_map.1 hx
  rw [List.length_map]
  exact h l hl
theorem rdT_by {s : St} {ls : List (List (List Int))} (hb : s.born = []) (hw : ∀ x ∈ ls, ∀ u ∈ x, ∀ j, j < 7 → fld u j < 9223372036854775808) (hc : ckT 7 (checkE s.t s.g0 s.g1 s.nx s.free s.es) s.t ls = 0) : rdT (frameL 84 (numsL (tapeN s ls))) = (0, normS 10 s, normT 7 ls) := by
  obtain ⟨h1, h2⟩ := open_frame 84 (numsL (tapeN s ls))
  obtain ⟨h3, h4, h5, h6⟩ := ckT_zero hc
  have hI := inv_of_check h3
  have hsml : ∀ x ∈ ls, ∀ u ∈ x, ∀ j, j < 7 → Sml (fld u j) := fun x hx u hu j hj => ⟨h6 x hx u hu j hj, hw x hx u hu j hj⟩
  have er := elder_read (smlE hI hb) (numsL (ticksN 7 ls))
  have ht0 := hI.t0
  have et := tape_read hsml h5 (by omega) []
  rw [List.append_nil] at et
  have hck : ckT 7 (checkE (normS 10 s).t (normS 10 s).g0 (normS 10 s).g1 (normS 10 s).nx (normS 10 s).free (normS 10 s).es) (normS 10 s).t (normT 7 ls) = 0 := by
    rw [check_of_inv (norm_inv hI.mem).inv]
    exact ckT_ok (by show ((normT 7 ls).length : Int) ≤ 60 - s.t; unfold normT; rw [List.length_map]; exact h4) (normT_eight h5) (normT_ok h6)
  unfold rdT
  rw [if_pos h1, h2]
  unfold tapeN
  rw [numsL_append, er]
  simp only
  rw [et, if_pos (show Rd.over ⟨[], 0⟩ = 0 from rfl)]
  exact if_pos hck
theorem rdR_by {s : St} {ls : List (List (List Int))} (hb : s.born = []) (hf : s.free = []) (hw : ∀ x ∈ ls, ∀ u ∈ x, ∀ j, j < 6 → fld u j < 9223372036854775808) (hc : ckT 6 (ckN s) s.t ls = 0) : rdR (frameL 82 (numsL (reelN s ls))) = (0, normS 11 s, normT 6 ls) := by
  obtain ⟨h1, h2⟩ := open_frame 82 (numsL (reelN s ls))
  obtain ⟨h3, h4, h5, h6⟩ := ckT_zero hc
  have hI := invN_of_check hf h3
  have hsml : ∀ x ∈ ls, ∀ u ∈ x, ∀ j, j < 6 → Sml (fld u j) := fun x hx u hu j hj => ⟨h6 x hx u hu j hj, hw x hx u hu j hj⟩
  have er := newer_read (smlN hI hb) hf (numsL (ticksN 6 ls))
  have ht0 := hI.t0
  have et := tape_read hsml h5 (by omega) []
  rw [List.append_nil] at et
  have hck : ckT 6 (ckN (normS 11 s)) (normS 11 s).t (normT 6 ls) = 0 := by
    rw [show ckN (normS 11 s) = 0 from check_of_invN (norm_invN hI)]
    exact ckT_ok (by show ((normT 6 ls).length : Int) ≤ 60 - s.t; unfold normT; rw [List.length_map]; exact h4) (normT_eight h5) (normT_ok h6)
  unfold rdR
  rw [if_pos h1, h2]
  unfold reelN
  rw [numsL_append, er]
  simp only
  rw [et, if_pos (show Rd.over ⟨[], 0⟩ = 0 from rfl)]
  exact if_pos hck
end Go.Proofs.YtcbalhicaipmlaaGreat

/- The reference's game: blows and diggings: as plain functions, and the row of what each loses. -/
import Derived.Test.YtgiieepfhohmhaaRefMA
import Derived.Test.YtgiieepfhohmhaaRefEA
import Derived.Test.YtgiieepfhohmhaaGiA
namespace Go.Proofs.Ytgiieepfhohmhaa
open Go.RowKit Go.Maps

def lessC (l : List Int) : Array Value := (l.map (Value.int .i64)).toArray
theorem lessC_at {l : List Int} {j : Nat} (hj : j < l.length) : (lessC l)[j]? = some (.int .i64 (fld l j)) := by
  unfold lessC
  simp [fld, List.getD_eq_getElem?_getD, hj]
theorem lessC_set (l : List Int) (j : Nat) (x : Int) : (lessC l).setIfInBounds j (.int .i64 x) = lessC (l.set j x) := by
  unfold lessC
  rw [List.map_set]
  simp
theorem fld_set (l : List Int) (k : Nat) (x : Int) (j : Nat) (hk : k < l.length) : fld (l.set k x) j = if j = k then x else fld l j := by
  unfold fld
  rw [List.getD_eq_getElem?_getD, List.getD_eq_getElem?_getD, List.getElem?_set]
  by_cases e : k = j
  · subst e; simp [hk]
  · rw [if_neg e, if_neg (fun h => e h.symm)]
def LessB (w : World) (L : Nat) (l : List Int) : Prop := w.heap[L]? = some (.cells (lessC l) 248)
theorem LessB.below {w w' : World} {L : Nat} {l : List Int} (h : LessB w L l) (hb : Below w.heap.size w w') : LessB w' L l := (hb.block L (Array.getElem?_eq_some_iff.1 h).1).trans h
theorem LessB.cell {w : World} {L : Nat} {l : List Int} (h : LessB w L l) {j : Nat} (hj : j < l.length) : w.cell? ⟨L, j, none⟩ = some (.int .i64 (fld l j)) := (cell_of_row w L j _ _ _ h).trans (lessC_at hj)
theorem LessB.frozen {w : World} {L : Nat} {l : List Int} (h : LessB w L l) (j : Nat) : w.frozen? ⟨L, j, none⟩ = false := frozen_of_row w L j _ _ h
theorem LessB.set {w : World} {L : Nat} {l : List Int} (h : LessB w L l) (j : Nat) (x : Int) : LessB (w.setCell ⟨L, j, none⟩ (.int .i64 x)) L (l.set j x) := by
  unfold LessB
  rw [← lessC_set]
  exact heap_setCell_same w L j _ _ _ h
theorem LessB.other {w : World} {L q : Nat} {l : List Int} (h : LessB w L l) (hq : L ≠ q) (j : Nat) (v : Value) : LessB (w.setCell ⟨q, j, none⟩ v) L l := (heap_setCell_other w ⟨q, j, none⟩ L v (fun e => hq e)).trans h

def whoN (es : List (List Int)) (u : List Int) : Nat := (whoZ (fld u 9) es).toNat
def digG (nw : Bool) (u : List Int) (g : Int × Int) : Int × Int :=
  if fld u 1 = 0 then (min (richZ nw) (g.1 + fld (ruleL nw (fld u 2)) 5), g.2) else (g.1, min (richZ nw) (g.2 + fld (ruleL nw (fld u 2)) 5))
def toilS (nw : Bool) (es : List (List Int)) (old : List Int) (a : List Int × Int × Int) (u : List Int) : List Int × Int × Int :=
  if (!isB old (fld u 0) || (fld u 9 == 0)) = true then a
  else if nearR nw es u = true then
    if fld u 6 = 2 then (a.1.set (whoN es u) (fld a.1 (whoN es u) + fld (ruleL nw (fld u 2)) 3), a.2) else (a.1.set (whoN es u) (fld a.1 (whoN es u) + fld (ruleL nw (fld u 2)) 5), digG nw u a.2)
  else a
def toilK (nw : Bool) (es : List (List Int)) (old : List Int) (g : Int × Int) (k : Nat) : List Int × Int × Int := (es.take k).foldl (toilS nw es old) (List.replicate 20 0, g)
theorem toilK_zero (nw : Bool) (es : List (List Int)) (old : List Int) (g : Int × Int) : toilK nw es old g 0 = (List.replicate 20 0, g) := rfl
theorem toilK_succ {nw : Bool} {es : List (List Int)} {old : List Int} {g : Int × Int} {k : Nat} (h : k < es.length) : toilK nw es old g (k + 1) = toilS nw es old (toilK nw es old g k) (rec es k) := by
  unfold toilK
  rw [List.take_add_one, rec_at h, List.foldl_append]
  simp [h]
structure ToilOk (es : List (List Int)) (u : List Int) : Prop where
  on : OnU u
  who : 0 ≤ whoZ (fld u 9) es
  tgt : OnU (tgtR es u)
  own : fld u 6 ≠ 2 → fld u 1 = 0 ∨ fld u 1 = 1
theorem harmR_bd (nw : Bool) (k : Int) : (0 ≤ fld (ruleL nw k) 3 ∧ fld (ruleL nw k) 3 ≤ 3) ∧ 0 ≤ fld (ruleL nw k) 5 ∧ fld (ruleL nw k) 5 ≤ 2 := by
  cases nw
  · show (0 ≤ Pl.eHarm k ∧ Pl.eHarm k ≤ 3) ∧ 0 ≤ Pl.eLoad k ∧ Pl.eLoad k ≤ 2
    unfold Pl.eHarm Pl.eLoad
    refine ⟨?_, ?_⟩
    · repeat' split
      all_goals omega
    · repeat' split
      all_goals omega
  · show (0 ≤ Pl.nHarm k ∧ Pl.nHarm k ≤ 3) ∧ 0 ≤ Pl.nLoad k ∧ Pl.nLoad k ≤ 2
    unfold Pl.nHarm Pl.nLoad
    refine ⟨?_, ?_⟩
    · repeat' split
      all_goals omega
    · repeat' split
      all_goals omega
/- How great it all may be. -/
structure ToilB (k : Nat) (a : List Int × Int × Int) : Prop where
  len : a.1.length = 20
  lo : ∀ j, 0 ≤ fld a.1 j ∧ fld a.1 j ≤ 3 * (k : Int)
  g0 : 0 ≤ a.2.1 ∧ a.2.1 ≤ 2000
  g1 : 0 ≤ a.2.2 ∧ a.2.2 ≤ 2000
theorem ToilB.zero {g : Int × Int} (h0 : 0 ≤ g.1 ∧ g.1 ≤ 2000) (h1 : 0 ≤ g.2 ∧ g.2 ≤ 2000) : ToilB 0 (List.replicate 20 0, g) := by
  refine ⟨rfl, fun j => ?_, h0, h1⟩
  have : fld (List.replicate 20 (0 : Int)) j = 0 := by
    unfold fld
    rw [List.getD_eq_getElem?_getD, List.getElem?_replicate]
    split <;> rfl
  show 0 ≤ fld (List.replicate 20 (0 : Int)) j ∧ _
  rw [this]
  omega
theorem ToilB.step {nw : Bool} {es : List (List Int)} {old : List Int} {k : Nat} {a : List Int × Int × Int} (h : ToilB k a) (u : List Int) (hw : whoN es u < 20) : ToilB (k + 1) (toilS nw es old a u) := by
  have hm : ToilB (k + 1) a := ⟨h.len, fun j => ⟨(h.lo j).1, by have := (h.lo j).2; omega⟩, h.g0, h.g1⟩
  have hb := harmR_bd nw (fld u 2)
  have hr := richZ_bd nw
  have hs : ∀ x, 0 ≤ x → x ≤ 3 → ∀ j, 0 ≤ fld (a.1.set (whoN es u) (fld a.1 (whoN es u) + x)) j ∧ fld (a.1.set (whoN es u) (fld a.1 (whoN es u) + x)) j ≤ 3 * ((k + 1 : Nat) : Int) := fun x h0 h3 j => by
    rw [fld_set _ _ _ _ (by rw [h.len]; exact hw)]
    have h1 := h.lo (whoN es u)
    have h2 := h.lo j
    split <;> omega
  unfold toilS
  split
  · exact hm
  · split
    · split
      · exact ⟨by rw [List.length_set]; exact h.len, hs _ hb.1.1 hb.1.2, h.g0, h.g1⟩
      · refine ⟨by rw [List.length_set]; exact h.len, hs _ hb.2.1 (by omega), ?_, ?_⟩
        · unfold digG
          have := h.g0
          split
          · show 0 ≤ min (richZ nw) (a.2.1 + _) ∧ min (richZ nw) (a.2.1 + _) ≤ 2000
            omega
          · exact this
        · unfold digG
          have := h.g1
          split
          · exact this
          · show 0 ≤ min (richZ nw) (a.2.2 + _) ∧ min (richZ nw) (a.2.2 + _) ≤ 2000
            omega
    · exact hm
theorem Nums.setOther {w : World} {oa : Option Addr} {l : List Int} {q : Nat} (h : Nums w oa l) (hq : ∀ b o, oa = some ⟨b, o, none⟩ → b ≠ q) (j : Nat) (v : Value) : Nums (w.setCell ⟨q, j, none⟩ v) oa l := by
  rcases h with h | ⟨b, o, e, hc⟩
  · exact Or.inl h
  · refine Or.inr ⟨b, o, e, fun i hi => ?_⟩
    have hne := hq b o e
    rw [← hc i hi]
    unfold World.cell?
    rw [heap_setCell_other w ⟨q, j, none⟩ b v (fun e => hne e)]
theorem cell_setOther {w : World} {B q : Nat} (h : B ≠ q) (i j : Nat) (v : Value) : (w.setCell ⟨q, j, none⟩ v).cell? ⟨B, i, none⟩ = w.cell? ⟨B, i, none⟩ := by
  unfold World.cell?
  rw [heap_setCell_other w ⟨q, j, none⟩ B v (fun e => h e)]
end Go.Proofs.Ytgiieepfhohmhaa

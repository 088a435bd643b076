/- Package newer of the program: one more. -/
import Derived.BigRegion
import Derived.BigQuiet
import Derived.Test.YtmnddahkbmlibaaNsSw
import Derived.Test.YtmnddahkbmlibaaNsEqO
import Derived.Test.YtmnddahkbmlibaaNsWhN
import Derived.Test.YtmnddahkbmlibaaNsEsNA
namespace Go.Proofs.Ytmnddahkbmlibaa
open Go.RowKit Go.Maps
abbrev ruleNC2 (k : Int) : Array Value := #[.int .i64 (Pl.nCost k), .int .i64 (Pl.nHP k), .int .i64 (Pl.nSpeed k), .int .i64 (Pl.nHarm k), .int .i64 (Pl.nRange k), .int .i64 (Pl.nLoad k)]
structure BoxN (W : World) (b0 b1 b2 : Nat) (u q : List Int) : Prop where
  h0 : W.heap[b0]? = some (.cells (unitC u) 110)
  h1 : W.heap[b1]? = some (.cells (ordC q) 98)
  h2 : W.heap[b2]? = some (.cells (ruleNC2 (fld q 3)) 41)
section
variable {W W' : World} {b0 b1 b2 : Nat} {u q : List Int}
theorem BoxN.lt (h : BoxN W b0 b1 b2 u q) : b0 < W.heap.size ∧ b1 < W.heap.size ∧ b2 < W.heap.size :=
  ⟨(Array.getElem?_eq_some_iff.1 h.h0).1, (Array.getElem?_eq_some_iff.1 h.h1).1, (Array.getElem?_eq_some_iff.1 h.h2).1⟩
theorem BoxN.below (h : BoxN W b0 b1 b2 u q) (hb : Below W.heap.size W W') : BoxN W' b0 b1 b2 u q :=
  ⟨(hb.block _ h.lt.1).trans h.h0, (hb.block _ h.lt.2.1).trans h.h1, (hb.block _ h.lt.2.2).trans h.h2⟩
theorem BoxN.set (h : BoxN W b0 b1 b2 u q) {p : Nat} (h0 : b0 ≠ p) (h1 : b1 ≠ p) (h2 : b2 ≠ p) (j : Nat) (v : Value) : BoxN (W.setCell ⟨p, j, none⟩ v) b0 b1 b2 u q :=
  ⟨(heap_setCell_other W ⟨p, j, none⟩ b0 v h0).trans h.h0, (heap_setCell_other W ⟨p, j, none⟩ b1 v h1).trans h.h1, (heap_setCell_other W ⟨p, j, none⟩ b2 v h2).trans h.h2⟩
theorem BoxN.cells (h : BoxN W b0 b1 b2 u q) : (∀ j, W.cell? ⟨b0, j, none⟩ = (unitC u)[j]?) ∧ (∀ j, W.cell? ⟨b1, j, none⟩ = (ordC q)[j]?) ∧ (∀ j, W.cell? ⟨b2, j, none⟩ = (ruleNC2 (fld q 3))[j]?) :=
  ⟨fun j => cell_of_row W _ j _ _ _ h.h0, fun j => cell_of_row W _ j _ _ _ h.h1, fun j => cell_of_row W _ j _ _ _ h.h2⟩
end
theorem gmN_same {base : Nat} {w : World} {p : Nat} {uv : Value} {B : Nat} {s s' : St} {f : Int → Option Value} {o : Int} (h : GmN base w p uv B s f o) (ht : s'.t = s.t) (h0 : s'.g0 = s.g0) (h1 : s'.g1 = s.g1) (hn : s'.nx = s.nx) (he : s'.es = s.es) : GmN base w p uv B s' f o := by
  refine ⟨?_, by rw [he]; exact h.er, h.wh, h.bp, h.bB⟩
  have := h.hp
  unfold nwC at this ⊢
  rw [ht, h0, h1, hn]
  exact this
def GmNE (base : Nat) (w : World) (p B : Nat) (s : St) (o : Int) : Prop := ∃ uv, GmN base w p uv B s (whoK s.es s.es.length) o
theorem step_putN {ops : Array Oper} {o : Oper} {a : Act} {K : Act → World → Prop} {Q : Exit → Act → World → Prop} {E : Prop} (X : World) (u : List Int) (hgd : o.guard = none) (sO xO : Operand)
    (ho : o.op = .call { callee := .builtin .append, args := #[sO, xO], argTypes := #[88, 88] }) (base : Nat) (v : Value) (us : List (List Int)) (hs : a.eval sO = v) (hO : RowU base X v us) (hbs : base ≤ X.heap.size) (hl : us.length ≤ 1000)
    (hxe : a.eval xO = .slice (some ⟨X.heap.size, 0, none⟩) 1 1)
    (h : ∀ v' w', RowU base w' v' (us ++ [u]) → (X.alloc (.cells (unitC u) 110)).grownBy w' v.ownBlock → K (a.put o.dst v') w') :
    if Region.wanted o (yielded ops a.tmps) = true then Oper.wp Try.prog o a (X.alloc (.cells (unitC u) 110)).drew K Q else E := by
  have hR : Recs (X.alloc (.cells (unitC u) 110)).drew (some ⟨X.heap.size, 0, none⟩) 11 [u] := recs_oneU X u _
  have hW : RowU base (X.alloc (.cells (unitC u) 110)).drew v us := World.ownsRow.drew (World.ownsRow.alloc hO _)
  refine step_rowsU (w := (X.alloc (.cells (unitC u) 110)).drew) hgd sO xO ho base v us hs hW (some ⟨X.heap.size, 0, none⟩) 1 [u] hxe hR (fun h => by cases h) (show us.length + 1 ≤ 100000 by omega) (by simp [go_sem]; omega) ?_
  intro v' w' h1 h2 _
  exact h v' w' h1 ⟨h2.os, h2.tape, h2.output, h2.size, h2.block⟩
theorem gmN_grew {base : Nat} {w w' : World} {p B : Nat} {uv uv' : Value} {s : St} {f : Int → Option Value} {o : Int} {es : List (List Int)} {ob : Obj} (h : GmN base w p uv B s f o) (hg : (w.alloc ob).grownBy w' uv.ownBlock) (hr : RowU base w' uv' es) :
    GmN base (w'.setCell ⟨p, 4, none⟩ uv') p uv' B { s with es := es } f o := by
  have ha : GmN base (w.alloc ob) p uv B s f o := h.below ((Below.refl _ _).alloc (Nat.le_refl _) _)
  have hp' : w'.heap[p]? = some (.cells (nwC s uv B o) 162) := (hg.block p ha.lt (fun e => row_ne ha.er ha.hp (by decide) e.symm)).trans ha.hp
  obtain ⟨me, mc, hm⟩ := ha.wh.isMap
  have hB' : w'.heap[B]? = (w.alloc ob).heap[B]? := hg.block B ha.wh.lt (fun e => row_ne_map ha.er hm e.symm)
  have hm' := hB'.trans hm
  refine ⟨?_, row_set hr (row_ne hr hp' (by decide)) _ _, (ha.wh.other hB').other (heap_setCell_other w' ⟨p, 4, none⟩ B uv' (fun e => h.pB (by have : B = p := e; exact this.symm))), h.bp, h.bB⟩
  exact heap_setCell_same w' p 4 _ _ uv' hp'
theorem grown_owned {base : Nat} {w w' : World} {uv : Value} {es : List (List Int)} {ob : Obj} (hg : (w.alloc ob).grownBy w' uv.ownBlock) (hr : RowU base w uv es) (hb : base ≤ w.heap.size) : Below base w w' := by
  have ha : Below base w (w.alloc ob) := ((Below.refl _ w).alloc (Nat.le_refl _) ob).mono hb
  exact ha.trans (Below.grown (Below.refl _ _) hg (Nat.le_trans hb ha.size) (fun k hk => (World.ownsRow.lt hr k hk).1))
set_option maxRecDepth 100000 in
set_option maxHeartbeats 8000000 in
theorem raiseN_calls (base p B : Nat) (s : St) (o : Int) (u q : List Int) (w : World) (hI : InvN s) (hu : OnU u) (ho : fld u 2 = 1 → fld u 1 = 0 ∨ fld u 1 = 1) (h : GmNE base w p B s o) :
    Calls Try.prog 158 #[.pointer (some ⟨p, 0, none⟩), unitV u, ordV q] w fun e w' => e = .returned (.tuple #[]) ∧ GmNE base w' p B (buildR true s u (fld q 3) (fld q 4) (fld q 5)) o ∧ Below base w w' := by
  obtain ⟨uv, h⟩ := h
  have hlt := h.lt
  have hbp := h.bp
  have hbs : base ≤ w.heap.size := by omega
  obtain ⟨W, hW⟩ : ∃ W, (w.alloc (.cells (unitC u) 110)).alloc (.cells (ordC q) 98) = W := ⟨_, rfl⟩
  have hbW : Below w.heap.size w W := by rw [← hW]; exact ((Below.refl _ w).alloc (Nat.le_refl _) _).alloc (by simp [go_sem]) _
  have hsW : W.heap.size = w.heap.size + 2 := by rw [← hW]; simp [go_sem]
  have hh0 : W.heap[w.heap.size]? = some (.cells (unitC u) 110) := by
    rw [← hW, heap_alloc_old _ _ (by simp [go_sem])]
    exact heap_alloc_new w _
  have hh1 : W.heap[w.heap.size + 1]? = some (.cells (ordC q) 98) := by
    have e : w.heap.size + 1 = (w.alloc (.cells (unitC u) 110)).heap.size := by simp [go_sem]
    rw [← hW, e]
    exact heap_alloc_new _ _
  have y3 : W.cell? ⟨w.heap.size + 1, 3, none⟩ = some (.int .i64 (fld q 3)) := cell_of_row W _ 3 _ _ _ hh1
  have HBN := hid (buildN s hI.fr hI.lt u (fld q 3) (fld q 4) (fld q 5))
  have HG := hid h
  have HI := hid hI
  have HU := hid hu
  have HO := hid ho
  have HBW := hid hbW
  have HSW := hid hsW
  have H0 := hid hh0
  have H1 := hid hh1
  have hel := hI.el
  clear h hI hu ho hbW hsW hh0 hh1
  go_enter Try.func158, Try.ntmps158
  go_wp2_with fail
  refine (newerB_calls (fld q 3) W).mono ?_
  rintro e w1 ⟨rfl, hb1⟩
  obtain ⟨V, hV⟩ : ∃ V, w1.alloc (.cells (ruleNC2 (fld q 3)) 41) = V := ⟨_, rfl⟩
  have hbV : Below W.heap.size W V := by rw [← hV]; exact hb1.alloc hb1.size _
  have hV2 : V.heap[w1.heap.size]? = some (.cells (ruleNC2 (fld q 3)) 41) := by rw [← hV]; exact heap_alloc_new _ _
  have hs1 : w.heap.size + 2 ≤ w1.heap.size := by have := hb1.size; rw [HSW.out] at this; exact this
  have hBx : BoxN V w.heap.size (w.heap.size + 1) w1.heap.size u q := ⟨(hbV.block _ (by rw [HSW.out]; omega)).trans H0.out, (hbV.block _ (by rw [HSW.out]; omega)).trans H1.out, hV2⟩
  have hBV : Below w.heap.size w V := HBW.out.trans (hbV.mono (by rw [HSW.out]; omega))
  have HBX := hid hBx
  have HBV := hid hBV
  have HGV := hid (HG.out.below hBV)
  obtain ⟨cu, cq, cr⟩ := hBx.cells
  have x0 : V.cell? ⟨w.heap.size, 0, none⟩ = some (.int .i64 (fld u 0)) := cu 0
  have x1 : V.cell? ⟨w.heap.size, 1, none⟩ = some (.int .i64 (fld u 1)) := cu 1
  have x2 : V.cell? ⟨w.heap.size, 2, none⟩ = some (.int .i64 (fld u 2)) := cu 2
  have x3 : V.cell? ⟨w.heap.size, 3, none⟩ = some (.int .i64 (fld u 3)) := cu 3
  have x4 : V.cell? ⟨w.heap.size, 4, none⟩ = some (.int .i64 (fld u 4)) := cu 4
  have x5 : V.cell? ⟨w.heap.size, 5, none⟩ = some (.int .i64 (fld u 5)) := cu 5
  have x6 : V.cell? ⟨w.heap.size, 6, none⟩ = some (.int .i64 (fld u 6)) := cu 6
  have x7 : V.cell? ⟨w.heap.size, 7, none⟩ = some (.int .i64 (fld u 7)) := cu 7
  have x8 : V.cell? ⟨w.heap.size, 8, none⟩ = some (.int .i64 (fld u 8)) := cu 8
  have x9 : V.cell? ⟨w.heap.size, 9, none⟩ = some (.int .i64 (fld u 9)) := cu 9
  have x10 : V.cell? ⟨w.heap.size, 10, none⟩ = some (.int .i64 (fld u 10)) := cu 10
  have q3 : V.cell? ⟨w.heap.size + 1, 3, none⟩ = some (.int .i64 (fld q 3)) := cq 3
  have q4 : V.cell? ⟨w.heap.size + 1, 4, none⟩ = some (.int .i64 (fld q 4)) := cq 4
  have q5 : V.cell? ⟨w.heap.size + 1, 5, none⟩ = some (.int .i64 (fld q 5)) := cq 5
  have HVV := hid hV
  clear hW hb1 hbV hV2 hBx hBV cu cq cr HBW HG H0 H1 y3 hV
  go_upto_region 2 with fail
  rw [HVV.out]
  have HFIN0 : Hid (∀ X, Below V.heap.size V X → buildR true s u (fld q 3) (fld q 4) (fld q 5) = s → GmNE base X p B (buildR true s u (fld q 3) (fld q 4) (fld q 5)) o ∧ Below base w X) := fun X hX e => by
    rw [e]
    exact ⟨⟨_, HGV.out.below hX⟩, (HBV.out.trans (hX.mono HBV.out.size)).mono hbs⟩
  cases h1 : Pl.nHas (fld q 3)
  · have HE : Hid (buildR true s u (fld q 3) (fld q 4) (fld q 5) = s) := by show _ = _; rw [HBN.out, if_pos]; unfold soonR hasB; simp [h1]
    go_wp2
    refine bodyPost_ret (results_none rfl _ _ _) rfl ?_
    obtain ⟨f1, f2⟩ := HFIN0.out _ (Below.refl _ _) HE.out
    exact ⟨rfl, f1, f2⟩
  cases h2 : fld q 3 == 4
  case true =>
    have HE : Hid (buildR true s u (fld q 3) (fld q 4) (fld q 5) = s) := by show _ = _; rw [HBN.out, if_pos]; unfold soonR hasB; simp [h2]
    go_wp2
    refine bodyPost_ret (results_none rfl _ _ _) rfl ?_
    obtain ⟨f1, f2⟩ := HFIN0.out _ (Below.refl _ _) HE.out
    exact ⟨rfl, f1, f2⟩
  cases h3 : fld u 2 != 1
  case true =>
    have HE : Hid (buildR true s u (fld q 3) (fld q 4) (fld q 5) = s) := by show _ = _; rw [HBN.out, if_pos]; unfold soonR hasB; simp [h3]
    go_wp2
    refine bodyPost_ret (results_none rfl _ _ _) rfl ?_
    obtain ⟨f1, f2⟩ := HFIN0.out _ (Below.refl _ _) HE.out
    exact ⟨rfl, f1, f2⟩
  have HOWN := hid (HO.out (by simpa [bne] using h3))
  go_wp2_with fail
  refine (hasRoomN_calls base p B uv s _ o u (fld q 4) (fld q 5) V (by omega) HU.out HGV.out).mono ?_
  rintro e w5 ⟨rfl, hb5⟩
  have hG5 := HGV.out.below hb5
  have hBx5 := HBX.out.below hb5
  have HB5 : Hid (Below w.heap.size w w5) := HBV.out.trans (hb5.mono HBV.out.size)
  have hs5 : w1.heap.size < w5.heap.size := hBx5.lt.2.2
  cases hroom : roomE s.es u (fld q 4) (fld q 5)
  · have HE : Hid (buildR true s u (fld q 3) (fld q 4) (fld q 5) = s) := by
      show _ = _
      rw [HBN.out]
      by_cases hso : soonR true u (fld q 3) (fld q 4) (fld q 5) = true
      · rw [if_pos hso]
      · rw [if_neg hso, if_pos]
        unfold soonR at hso
        unfold roomE at hroom
        unfold lateR
        rw [standsN]
        simp only [Bool.or_eq_true, not_or, Bool.not_eq_true', Bool.not_eq_false] at hso
        rw [hso.2.2.2, Bool.true_and, Bool.and_eq_false_iff] at hroom
        rcases hroom with hr | hr
        · simp only [decide_eq_false_iff_not] at hr
          simp only [Bool.or_eq_true, decide_eq_true_eq]
          right; left; omega
        · simp only [decide_eq_false_iff_not] at hr
          simp only [Bool.or_eq_true, decide_eq_true_eq]
          left
          obtain ⟨hk, hp⟩ := idxZ_at (show 0 ≤ idxZ (isAt (fld q 4) (fld q 5)) s.es by omega)
          rw [List.countP_pos_iff]
          exact ⟨_, rec_mem hk, hp⟩
    have HB5' := hid hb5
    clear hb5 hG5 hBx5
    go_wp2
    refine bodyPost_ret (results_none rfl _ _ _) rfl ?_
    obtain ⟨f1, f2⟩ := HFIN0.out _ HB5'.out HE.out
    exact ⟨rfl, f1, f2⟩
  have hHB5 := hid hb5
  obtain ⟨G, hG⟩ : ∃ G, G = goldOf s (fld u 1) := ⟨_, rfl⟩
  have a0 := HI.out.a0
  have a1 := HI.out.a1
  have hGb : 0 ≤ G ∧ G ≤ 1000 := by rw [hG]; unfold goldOf; split <;> omega
  have hcost := costN_bd (fld q 3)
  have hnx0 := HI.out.n0
  have hnx1 := HI.out.n1
  have ht0 := HI.out.t0
  have HBN2 : Hid (buildR true s u (fld q 3) (fld q 4) (fld q 5) = if G < Pl.nCost (fld q 3) ∨ 20 ≤ s.es.length ∨ 2000 < s.nx then s else { payS { s with nx := s.nx + 1 } (fld u 1) (Pl.nCost (fld q 3)) with es := s.es ++ [bornN s u (fld q 3) (fld q 4) (fld q 5)], born := s.born ++ [s.nx] }) := by
    show _ = _
    rw [HBN.out]
    unfold roomE at hroom
    simp only [Bool.and_eq_true, decide_eq_true_eq] at hroom
    have hso : ¬ soonR true u (fld q 3) (fld q 4) (fld q 5) = true := by
      unfold soonR hasB
      simp [h1, h3, hroom.1]
      simpa using h2
    rw [if_neg hso]
    have hst : standsB (fld q 4) (fld q 5) s.es = false := by
      rw [standsN, decide_eq_false_iff_not]
      intro hc
      obtain ⟨v, hv, hp⟩ := List.countP_pos_iff.1 hc
      obtain ⟨i, hi, rfl⟩ := List.mem_iff_getElem.1 hv
      have := idxZ_neg_iff.1 hroom.2.2 i hi
      rw [rec_at hi, hp] at this
      cases this
    have hla : lateR true s u (fld q 3) (fld q 4) (fld q 5) = true ↔ G < Pl.nCost (fld q 3) ∨ 20 ≤ s.es.length := by
      unfold lateR
      rw [hst, ← hG]
      have e : fld (ruleL true (fld q 3)) 0 = Pl.nCost (fld q 3) := rfl
      rw [e]
      simp only [Bool.false_or, Bool.or_eq_true, decide_eq_true_eq, beq_iff_eq]
      have := hroom.2.1
      omega
    by_cases hl : lateR true s u (fld q 3) (fld q 4) (fld q 5) = true
    · rw [if_pos hl, if_pos (by rcases hla.1 hl with x | x; exact Or.inl x; exact Or.inr (Or.inl x))]
    · rw [if_neg hl]
      by_cases hn : 2000 < s.nx
      · rw [if_pos hn, if_pos (Or.inr (Or.inr hn))]
      · rw [if_neg hn, if_neg]
        rintro (x | x | x)
        · exact hl (hla.2 (Or.inl x))
        · exact hl (hla.2 (Or.inr x))
        · exact hn x
  obtain ⟨ea, c, rfl, hcap, _, _⟩ := hG5.er.open
  obtain ⟨cu, cq, cr⟩ := hBx5.cells
  clear x0 x1 x2 x3 x4 x5 x6 x7 x8 x9 x10 q3 q4 q5 hroom h1 h2 h3 hb5 HBN
  have x1 : w5.cell? ⟨w.heap.size, 1, none⟩ = some (.int .i64 (fld u 1)) := cu 1
  have z0 : w5.cell? ⟨w1.heap.size, 0, none⟩ = some (.int .i64 (Pl.nCost (fld q 3))) := cr 0
  have d3 : w5.cell? ⟨p, 3, none⟩ = some (.int .i64 s.nx) := hG5.cell 3
  have d4 : w5.cell? ⟨p, 4, none⟩ = some (.slice ea s.es.length c) := hG5.cell 4
  have hob : 0 ≤ fld u 1 ∧ fld u 1 < 2 := by rcases HOWN.out with e | e <;> omega
  obtain ⟨hob0, hob1⟩ := hob
  have gc : w5.cell? ⟨p, 1 + (fld u 1).toNat, none⟩ = some (.int .i64 G) := by
    rcases HOWN.out with hu1 | hu1
    · rw [hG, hu1]; exact hG5.cell 1
    · rw [hG, hu1]; exact hG5.cell 2
  have HG5 := hid hG5
  have HBX5 := hid hBx5
  have HGG := hid hG
  clear hG5 hBx5 cu cq cr hG
  by_cases hlow : G < Pl.nCost (fld q 3)
  · have HE : Hid (buildR true s u (fld q 3) (fld q 4) (fld q 5) = s) := by show _ = _; rw [HBN2.out, if_pos (Or.inl hlow)]
    go_wp2_with fail
    go_quiet (fail)
    go_wp2
    refine bodyPost_ret (results_none rfl _ _ _) rfl ?_
    obtain ⟨f1, f2⟩ := HFIN0.out _ (below_drewN hHB5.out _) HE.out
    exact ⟨rfl, f1, f2⟩
  have hlowd : decide (G < Pl.nCost (fld q 3)) = false := decide_eq_false hlow
  by_cases hfull : 20 ≤ s.es.length
  · have HE : Hid (buildR true s u (fld q 3) (fld q 4) (fld q 5) = s) := by show _ = _; rw [HBN2.out, if_pos (Or.inr (Or.inl hfull))]
    have hfz : (20 : Int) ≤ (s.es.length : Int) := by omega
    go_wp2_with fail
    go_quiet (fail)
    go_wp2
    refine bodyPost_ret (results_none rfl _ _ _) rfl ?_
    obtain ⟨f1, f2⟩ := HFIN0.out _ (below_drewN hHB5.out _) HE.out
    exact ⟨rfl, f1, f2⟩
  have hfz : ¬ (20 : Int) ≤ (s.es.length : Int) := by omega
  have hfd : decide ((20 : Int) ≤ (s.es.length : Int)) = false := decide_eq_false hfz
  by_cases hnx : 2000 < s.nx
  · have HE : Hid (buildR true s u (fld q 3) (fld q 4) (fld q 5) = s) := by show _ = _; rw [HBN2.out, if_pos (Or.inr (Or.inr hnx))]
    go_wp2_with fail
    go_quiet (fail)
    go_wp2
    refine bodyPost_ret (results_none rfl _ _ _) rfl ?_
    obtain ⟨f1, f2⟩ := HFIN0.out _ (below_drewN hHB5.out _) HE.out
    exact ⟨rfl, f1, f2⟩
  have hnxd : decide (2000 < s.nx) = false := decide_eq_false hnx
  have HBN3 : Hid (buildR true s u (fld q 3) (fld q 4) (fld q 5) = { payS { s with nx := s.nx + 1 } (fld u 1) (Pl.nCost (fld q 3)) with es := s.es ++ [bornN s u (fld q 3) (fld q 4) (fld q 5)], born := s.born ++ [s.nx] }) := by
    show _ = _
    rw [HBN2.out, if_neg]
    rintro (x | x | x)
    · exact hlow x
    · exact hfull x
    · exact hnx x
  have hwg : IntKind.i64.wrap (G - Pl.nCost (fld q 3)) = G - Pl.nCost (fld q 3) := IntWalk.i64_in _ ⟨by omega, by omega⟩
  go_wp2_with fail
  go_quiet (fail)
  clear x1 z0 d3 d4 gc hlowd hfd hnxd hfz hlow hnx hfull
  obtain ⟨Y, hY⟩ : ∃ Y, w5.drewN nq = Y := ⟨_, rfl⟩
  have hbY : Below w5.heap.size w5 Y := by rw [← hY]; exact below_drewN (Below.refl _ _) nq
  rw [hY]
  have hGY := HG5.out.below hbY
  have hBxY := HBX5.out.below hbY
  have HBY : Hid (Below w.heap.size w Y) := HB5.out.trans (hbY.mono HB5.out.size)
  obtain ⟨cu, cq, cr⟩ := hBxY.cells
  have x1 : Y.cell? ⟨w.heap.size, 1, none⟩ = some (.int .i64 (fld u 1)) := cu 1
  have z0 : Y.cell? ⟨w1.heap.size, 0, none⟩ = some (.int .i64 (Pl.nCost (fld q 3))) := cr 0
  have gc : Y.cell? ⟨p, 1 + (fld u 1).toNat, none⟩ = some (.int .i64 G) := by
    rcases HOWN.out with hu1 | hu1
    · rw [HGG.out, hu1]; exact hGY.cell 1
    · rw [HGG.out, hu1]; exact hGY.cell 2
  have gf := hGY.frozen (1 + (fld u 1).toNat)
  have hG6 : GmN base (Y.setCell ⟨p, 1 + (fld u 1).toNat, none⟩ (.int .i64 (G - Pl.nCost (fld q 3)))) p (.slice ea s.es.length c) B (payS s (fld u 1) (Pl.nCost (fld q 3))) (whoK s.es s.es.length) o := by
    rcases HOWN.out with hu1 | hu1
    · rw [hu1]
      exact hGY.pset 1 _ (s' := payS s 0 (Pl.nCost (fld q 3))) (by rw [HGG.out, hu1]; rfl) hGY.er
    · rw [hu1]
      exact hGY.pset 2 _ (s' := payS s 1 (Pl.nCost (fld q 3))) (by rw [HGG.out, hu1]; rfl) hGY.er
  have hBx6 : BoxN (Y.setCell ⟨p, 1 + (fld u 1).toNat, none⟩ (.int .i64 (G - Pl.nCost (fld q 3)))) w.heap.size (w.heap.size + 1) w1.heap.size u q := hBxY.set (by omega) (by omega) (by omega) _ _
  have HB6 : Hid (Below base w (Y.setCell ⟨p, 1 + (fld u 1).toNat, none⟩ (.int .i64 (G - Pl.nCost (fld q 3))))) := (HBY.out.mono hbs).setCell (p := ⟨p, 1 + (fld u 1).toNat, none⟩) hbp _
  have hPS : (payS s (fld u 1) (Pl.nCost (fld q 3))).t = s.t ∧ (payS s (fld u 1) (Pl.nCost (fld q 3))).nx = s.nx ∧ (payS s (fld u 1) (Pl.nCost (fld q 3))).es = s.es := by rw [payN]; exact ⟨rfl, rfl, rfl⟩
  have HBN4 : Hid (∀ X uv', GmN base X p uv' B { payS s (fld u 1) (Pl.nCost (fld q 3)) with nx := s.nx + 1, es := s.es ++ [bornN s u (fld q 3) (fld q 4) (fld q 5)] } (putF (whoK s.es s.es.length) s.nx (inV s.es.length)) o → GmNE base X p B (buildR true s u (fld q 3) (fld q 4) (fld q 5)) o) := fun X uv' hX => by
    refine ⟨uv', ?_⟩
    rw [HBN3.out]
    have e1 : ({ payS { s with nx := s.nx + 1 } (fld u 1) (Pl.nCost (fld q 3)) with es := s.es ++ [bornN s u (fld q 3) (fld q 4) (fld q 5)], born := s.born ++ [s.nx] } : St).es = s.es ++ [bornN s u (fld q 3) (fld q 4) (fld q 5)] := rfl
    rw [e1, who_append]
    refine gmN_same hX ?_ ?_ ?_ ?_ ?_
    all_goals rw [payN, payN]
  have hsz6 : (Y.setCell ⟨p, 1 + (fld u 1).toNat, none⟩ (.int .i64 (G - Pl.nCost (fld q 3)))).heap.size = Y.heap.size := World.size_setCell _ _ _
  have hs5Y : w1.heap.size < Y.heap.size := hBxY.lt.2.2
  generalize payS s (fld u 1) (Pl.nCost (fld q 3)) = PS at hG6 hPS HBN4
  obtain ⟨ept, epn, epe⟩ := hPS
  clear hbY hGY hBxY cu cq cr HBN2 HBN3 HFIN0 hY HG5 HBX5
  go_wp2_with fail
  go_region
  all_goals
    have hbd : Below (Y.setCell ⟨p, 1 + (fld u 1).toNat, none⟩ (.int .i64 (G - Pl.nCost (fld q 3)))).heap.size (Y.setCell ⟨p, 1 + (fld u 1).toNat, none⟩ (.int .i64 (G - Pl.nCost (fld q 3)))) (Y.setCell ⟨p, 1 + (fld u 1).toNat, none⟩ (.int .i64 (G - Pl.nCost (fld q 3)))).drew := (Below.refl _ _).drew
    have hG7 := hG6.below hbd
    have hBx7 := hBx6.below hbd
    have HB7 := hid HB6.out.drew
    have hsz7 : (Y.setCell ⟨p, 1 + (fld u 1).toNat, none⟩ (.int .i64 (G - Pl.nCost (fld q 3)))).drew.heap.size = Y.heap.size := hsz6
    clear hbd hG6 hBx6 HB6 hsz6
    generalize (Y.setCell ⟨p, 1 + (fld u 1).toNat, none⟩ (.int .i64 (G - Pl.nCost (fld q 3)))).drew = Y7 at hG7 hBx7 HB7 hsz7 ⊢
    clear x1 z0 gc gf
    obtain ⟨cu, cq, cr⟩ := hBx7.cells
    have x1 : Y7.cell? ⟨w.heap.size, 1, none⟩ = some (.int .i64 (fld u 1)) := cu 1
    have q3 : Y7.cell? ⟨w.heap.size + 1, 3, none⟩ = some (.int .i64 (fld q 3)) := cq 3
    have q4 : Y7.cell? ⟨w.heap.size + 1, 4, none⟩ = some (.int .i64 (fld q 4)) := cq 4
    have q5 : Y7.cell? ⟨w.heap.size + 1, 5, none⟩ = some (.int .i64 (fld q 5)) := cq 5
    have z1 : Y7.cell? ⟨w1.heap.size, 1, none⟩ = some (.int .i64 (Pl.nHP (fld q 3))) := cr 1
    have d0 : Y7.cell? ⟨p, 0, none⟩ = some (.int .i64 s.t) := by rw [← ept]; exact hG7.cell 0
    have d3 : Y7.cell? ⟨p, 3, none⟩ = some (.int .i64 s.nx) := by rw [← epn]; exact hG7.cell 3
    have HG7 := hid hG7
    have HEE : Hid (PS.t = s.t ∧ PS.nx = s.nx ∧ PS.es = s.es) := ⟨ept, epn, epe⟩
    clear cu cq cr hG7 hBx7 ept epn epe
    have hpY7 : p < Y7.heap.size := HG7.out.lt
    have h0Y7 : w.heap.size < Y7.heap.size := by omega
    have h1Y7 : w.heap.size + 1 < Y7.heap.size := by omega
    have h2Y7 : w1.heap.size < Y7.heap.size := by omega
    clear hsz7
    have S1 : ∀ w', Below Y7.heap.size Y7 w' → w'.cell? ⟨w.heap.size, 1, none⟩ = some (.int .i64 (fld u 1)) := fun w' h => (h.cell (p := ⟨w.heap.size, 1, none⟩) h0Y7).trans x1
    have S3 : ∀ w', Below Y7.heap.size Y7 w' → w'.cell? ⟨w.heap.size + 1, 3, none⟩ = some (.int .i64 (fld q 3)) := fun w' h => (h.cell (p := ⟨w.heap.size + 1, 3, none⟩) h1Y7).trans q3
    have S4 : ∀ w', Below Y7.heap.size Y7 w' → w'.cell? ⟨w.heap.size + 1, 4, none⟩ = some (.int .i64 (fld q 4)) := fun w' h => (h.cell (p := ⟨w.heap.size + 1, 4, none⟩) h1Y7).trans q4
    have S5 : ∀ w', Below Y7.heap.size Y7 w' → w'.cell? ⟨w.heap.size + 1, 5, none⟩ = some (.int .i64 (fld q 5)) := fun w' h => (h.cell (p := ⟨w.heap.size + 1, 5, none⟩) h1Y7).trans q5
    have SZ : ∀ w', Below Y7.heap.size Y7 w' → w'.cell? ⟨w1.heap.size, 1, none⟩ = some (.int .i64 (Pl.nHP (fld q 3))) := fun w' h => (h.cell (p := ⟨w1.heap.size, 1, none⟩) h2Y7).trans z1
    have SP0 : ∀ w', Below Y7.heap.size Y7 w' → w'.cell? ⟨p, 0, none⟩ = some (.int .i64 s.t) := fun w' h => (h.cell (p := ⟨p, 0, none⟩) hpY7).trans d0
    have SP3 : ∀ w', Below Y7.heap.size Y7 w' → w'.cell? ⟨p, 3, none⟩ = some (.int .i64 s.nx) := fun w' h => (h.cell (p := ⟨p, 3, none⟩) hpY7).trans d3
    go_wp2_with fail
    go_cut [8] (fun r wx => r = .pointer (some ⟨Y7.heap.size, 0, none⟩) ∧ Hid (wx = (Y7.alloc (.cells (unitC (bornN s u (fld q 3) (fld q 4) (fld q 5))) 110)).drew))
    case first =>
      clear x1 q3 q4 q5 z1 d0 d3
      go_region_held3 (fun w' => Below Y7.heap.size Y7 w') (first | with_reducible exact (Below.refl _ _).drew | with_reducible exact ((Below.refl _ _).alloc (Nat.le_refl _) _).drew)
        (fail)
      all_goals
        go_wp2
        go_meet
        exact ⟨rfl, rfl⟩
    case rest =>
      obtain ⟨rfl, HWC⟩ := hcut
      clear x1 q3 q4 q5 z1 d0 d3 S1 S3 S4 S5 SZ SP0 SP3
      have hbc : Below Y7.heap.size Y7 wc := by rw [HWC.out]; exact ((Below.refl _ _).alloc (Nat.le_refl _) _).drew
      have hvc : wc.heap[Y7.heap.size]? = some (.cells (unitC (bornN s u (fld q 3) (fld q 4) (fld q 5))) 110) := by rw [HWC.out]; exact heap_alloc_new Y7 _
      have hGc := HG7.out.below hbc
      have HBc : Hid (Below base w wc) := HB7.out.trans (hbc.mono (by omega))
      have d3 : wc.cell? ⟨p, 3, none⟩ = some (.int .i64 s.nx) := by rw [← HEE.out.2.1]; exact hGc.cell 3
      have df3 := hGc.frozen 3
      have hwn : IntKind.i64.wrap (s.nx + 1) = s.nx + 1 := IntWalk.i64_in _ ⟨by omega, by omega⟩
      have hG8 : GmN base (wc.setCell ⟨p, 3, none⟩ (.int .i64 (s.nx + 1))) p (.slice ea s.es.length c) B { PS with nx := s.nx + 1 } (whoK s.es s.es.length) o := hGc.pset 3 (.int .i64 (s.nx + 1)) (s' := { PS with nx := s.nx + 1 }) rfl hGc.er
      have hv8 : (wc.setCell ⟨p, 3, none⟩ (.int .i64 (s.nx + 1))).heap[Y7.heap.size]? = some (.cells (unitC (bornN s u (fld q 3) (fld q 4) (fld q 5))) 110) := (heap_setCell_other wc ⟨p, 3, none⟩ Y7.heap.size _ (fun e => by have : Y7.heap.size = p := e; omega)).trans hvc
      have HB8 : Hid (Below base w (wc.setCell ⟨p, 3, none⟩ (.int .i64 (s.nx + 1)))) := HBc.out.setCell (p := ⟨p, 3, none⟩) hbp _
      clear hbc hvc hGc HBc HWC
      go_upto_region 7 with fail
      clear d3 df3 hwn
      generalize wc.setCell ⟨p, 3, none⟩ (.int .i64 (s.nx + 1)) = W8 at hG8 hv8 HB8 ⊢
      have d5 := hG8.cell 5
      have d4 := hG8.cell 4
      have v0 : W8.cell? ⟨Y7.heap.size, 0, none⟩ = some (.int .i64 s.nx) := cell_of_row W8 _ 0 _ _ _ hv8
      obtain ⟨w9, hrun, hw9, hg9⟩ := Who.put (w := W8.drew) hG8.wh s.nx (inV s.es.length)
      have hg9' := drew_grown hg9
      have hG9 := hG8.marked hg9' hw9
      obtain ⟨me, mc, hmB⟩ := hG8.wh.isMap
      have hv9 : w9.heap[Y7.heap.size]? = some (.cells (unitC (bornN s u (fld q 3) (fld q 4) (fld q 5))) 110) := (hg9'.block _ (Array.getElem?_eq_some_iff.1 hv8).1 (fun e => by
        have e2 : Y7.heap.size = B := by simpa using e
        rw [e2, hmB] at hv8
        cases hv8)).trans hv8
      have HB9 : Hid (Below base w w9) := below_grown HB8.out hg9' hG8.bB (by have := hG8.lt; omega)
      have HG9 := hid hG9
      have HV9 := hid hv9
      clear hg9 hw9 hg9' hmB hv8 hG8 HB8 hG9 hv9
      go_region
      all_goals
        clear d4 d5 v0 hrun
        have d4 : w9.cell? ⟨p, 4, none⟩ = some (.slice ea s.es.length c) := HG9.out.cell 4
        have v0 : w9.cell? ⟨Y7.heap.size, 0, none⟩ = some (.int .i64 s.nx) := cell_of_row w9 _ 0 _ _ _ HV9.out
        have v1 : w9.cell? ⟨Y7.heap.size, 1, none⟩ = some (.int .i64 (fld u 1)) := cell_of_row w9 _ 1 _ _ _ HV9.out
        have v2 : w9.cell? ⟨Y7.heap.size, 2, none⟩ = some (.int .i64 (fld q 3)) := cell_of_row w9 _ 2 _ _ _ HV9.out
        have v3 : w9.cell? ⟨Y7.heap.size, 3, none⟩ = some (.int .i64 (fld q 4)) := cell_of_row w9 _ 3 _ _ _ HV9.out
        have v4 : w9.cell? ⟨Y7.heap.size, 4, none⟩ = some (.int .i64 (fld q 5)) := cell_of_row w9 _ 4 _ _ _ HV9.out
        have v5 : w9.cell? ⟨Y7.heap.size, 5, none⟩ = some (.int .i64 (Pl.nHP (fld q 3))) := cell_of_row w9 _ 5 _ _ _ HV9.out
        have v6 : w9.cell? ⟨Y7.heap.size, 6, none⟩ = some (.int .i64 0) := cell_of_row w9 _ 6 _ _ _ HV9.out
        have v7 : w9.cell? ⟨Y7.heap.size, 7, none⟩ = some (.int .i64 0) := cell_of_row w9 _ 7 _ _ _ HV9.out
        have v8 : w9.cell? ⟨Y7.heap.size, 8, none⟩ = some (.int .i64 0) := cell_of_row w9 _ 8 _ _ _ HV9.out
        have v9 : w9.cell? ⟨Y7.heap.size, 9, none⟩ = some (.int .i64 0) := cell_of_row w9 _ 9 _ _ _ HV9.out
        have v10 : w9.cell? ⟨Y7.heap.size, 10, none⟩ = some (.int .i64 s.t) := cell_of_row w9 _ 10 _ _ _ HV9.out
        have hp9 : p < w9.heap.size := HG9.out.lt
        have hpne : p ≠ w9.heap.size := by omega
        have hvne : Y7.heap.size ≠ w9.heap.size := by have := (Array.getElem?_eq_some_iff.1 HV9.out).1; omega
        have HER : Hid (RowU base w9 (.slice ea s.es.length c) s.es) := by
          have h := HG9.out.er
          have e : ({ PS with nx := s.nx + 1 } : St).es = s.es := HEE.out.2.2
          rw [e] at h
          exact h
        have hb9 : base ≤ w9.heap.size := by omega
        have hl9 : s.es.length ≤ 1000 := by omega
        go_wp2_with fail
        go_region_law (refine step_putN w9 (bornN s u (fld q 3) (fld q 4) (fld q 5)) (by rfl) (.tmp 127) (.tmp 129) (by rfl) base (.slice ea s.es.length c) s.es (by simp [Act.eval]) HER.out hb9 hl9 (by simp [Act.eval]) ?_
                       intro v' w' hr hg
                       have hr' := hr
                       obtain ⟨va, vc, rfl, _, _, _⟩ := hr'.open
                       have HGE := hid (gmN_grew HG9.out hg hr)
                       have HBE := hid (grown_owned hg HG9.out.er hb9)
                       have hpa : p < (w9.alloc (.cells (unitC (bornN s u (fld q 3) (fld q 4) (fld q 5))) 110)).heap.size := by simp [go_sem]; omega
                       have ha := HG9.out.below ((Below.refl _ w9).alloc (Nat.le_refl _) (.cells (unitC (bornN s u (fld q 3) (fld q 4) (fld q 5))) 110))
                       have hp' := (hg.block p hpa (fun e => row_ne ha.er ha.hp (by decide) e.symm)).trans ha.hp
                       have e4 : w'.cell? ⟨p, 4, none⟩ = some (.slice ea s.es.length c) := cell_of_row w' p 4 _ _ _ hp'
                       have ef4 := frozen_of_row w' p 4 _ _ hp'
                       clear hr hr' hg hpa ha hp')
        all_goals
          clear v0 v1 v2 v3 v4 v5 v6 v7 v8 v9 v10 d4
          go_wp2
          go_end0
          have hge := HGE.out
          rw [List.length_append, List.length_singleton] at hge
          exact ⟨rfl, HBN4.out _ _ hge, (HB9.out.trans HBE.out).setCell (p := ⟨p, 4, none⟩) hbp _⟩
end Go.Proofs.Ytmnddahkbmlibaa

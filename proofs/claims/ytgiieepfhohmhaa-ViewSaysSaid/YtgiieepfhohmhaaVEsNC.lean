/- NewerSays: a state in memory of its own, with a mark behind: OwnNewer. -/
import Derived.Test.YtgiieepfhohmhaaVEsBA
import Derived.Test.YtgiieepfhohmhaaVInN
namespace Go.Proofs.Ytgiieepfhohmhaa
open Go.RowKit Go.Maps
abbrev mark11 : Array Value := #[.int .i64 77, .int .i64 0, .int .i64 0, .int .i64 0, .int .i64 0, .int .i64 0, .int .i64 0, .int .i64 0, .int .i64 0, .int .i64 0, .int .i64 0]
def markV : List Int := [77, 0, 0, 0, 0, 0, 0, 0, 0, 0, 0]
section
variable {ops : Array Oper} {o : Oper} {a : Act} {K : Act → World → Prop} {Q : Exit → Act → World → Prop} {E : Prop}
theorem step_ownU1 (W X : World) (hgd : o.guard = none) (sO xO : Operand) (ho : o.op = .call { callee := .builtin .append, args := #[sO, xO], argTypes := #[88, 88] }) (hs : a.eval sO = .slice none 0 0) (ea : Option Addr) (ec : Nat) (es : List (List Int)) (hxe : a.eval xO = .slice ea es.length ec) (hx : Recs W ea 11 es) (hnil : ea = none → ec = 0) (hl : es.length ≤ 1000) (hb : Below W.heap.size W X)
    (h : ∀ v' w', RowU W.heap.size w' v' es → Below X.heap.size X w' → K (a.put o.dst v') w') : if Region.wanted o (yielded ops a.tmps) = true then Oper.wp Try.prog o a X K Q else E := by
  refine step_rowsU (w := X) hgd sO xO ho W.heap.size (.slice none 0 0) [] hs (World.ownsRow_nil _ _ _ _) ea ec es hxe (hx.below hb) hnil (by simp; omega) hb.size ?_
  intro v' w' h1 h2 _
  rw [List.nil_append] at h1
  exact h v' w' h1 (grown_below h2)
theorem step_ownU1a (W : World) (hgd : o.guard = none) (sO xO : Operand) (ho : o.op = .call { callee := .builtin .append, args := #[sO, xO], argTypes := #[88, 88] }) (hs : a.eval sO = .slice none 0 0) (ea : Option Addr) (ec : Nat) (es : List (List Int)) (hxe : a.eval xO = .slice ea es.length ec) (hx : Recs W ea 11 es) (hnil : ea = none → ec = 0) (hl : es.length ≤ 1000)
    (h : ∀ v' w', RowU W.heap.size w' v' es → Below W.heap.size W w' → Recs w' (some ⟨W.heap.size, 0, none⟩) 11 [markV] → K (a.put o.dst v') w') : if Region.wanted o (yielded ops a.tmps) = true then Oper.wp Try.prog o a (W.alloc (.cells mark11 110)).drew K Q else E := by
  have hb : Below W.heap.size W (W.alloc (.cells mark11 110)).drew := ((Below.refl _ W).alloc (Nat.le_refl _) _).drew
  refine step_ownU1 W _ hgd sO xO ho hs ea ec es hxe hx hnil hl hb fun v' w' h1 h2 => h v' w' h1 (hb.trans (h2.mono hb.size)) ?_
  have h3 : Recs (W.alloc (.cells mark11 110)).drew (some ⟨W.heap.size, 0, none⟩) 11 [markV] := recs_oneU W markV _
  exact h3.below h2
theorem step_ownU1b (W : World) (hgd : o.guard = none) (sO xO : Operand) (ho : o.op = .call { callee := .builtin .append, args := #[sO, xO], argTypes := #[88, 88] }) (hs : a.eval sO = .slice none 0 0) (ea : Option Addr) (ec : Nat) (es : List (List Int)) (hxe : a.eval xO = .slice ea es.length ec) (hx : Recs W ea 11 es) (hnil : ea = none → ec = 0) (hl : es.length ≤ 1000)
    (h : ∀ v' w', RowU W.heap.size w' v' es → Below W.heap.size W w' → K (a.put o.dst v') w') : if Region.wanted o (yielded ops a.tmps) = true then Oper.wp Try.prog o a W.drew K Q else E :=
  step_ownU1 W W.drew hgd sO xO ho hs ea ec es hxe hx hnil hl (Below.refl _ W).drew fun v' w' h1 h2 => h v' w' h1 ⟨h2.os, h2.tape, h2.output, h2.size, h2.block⟩
theorem step_ownU2a (base : Nat) (w5 : World) (q : Nat) (hgd : o.guard = none) (sO xO : Operand) (ho : o.op = .call { callee := .builtin .append, args := #[sO, xO], argTypes := #[88, 88] }) (v : Value) (hs : a.eval sO = v) (es : List (List Int)) (hO : RowU base w5 v es) (hxe : a.eval xO = .slice (some ⟨q, 0, none⟩) 1 1) (hx : Recs w5 (some ⟨q, 0, none⟩) 11 [markV]) (hl : es.length ≤ 1000) (hb : base ≤ w5.heap.size)
    (h : ∀ v' w', RowU base w' v' (es ++ [markV]) → w5.grownBy w' v.ownBlock → K (a.put o.dst v') w') : if Region.wanted o (yielded ops a.tmps) = true then Oper.wp Try.prog o a w5 K Q else E := by
  refine step_rowsU (w := w5) hgd sO xO ho base v es hs hO (some ⟨q, 0, none⟩) 1 [markV] hxe hx (fun h => by cases h) (show es.length + 1 ≤ 100000 by omega) hb ?_
  intro v' w' h1 h2 _
  exact h v' w' h1 h2
theorem step_ownU2b (base : Nat) (w5 : World) (hgd : o.guard = none) (sO xO : Operand) (ho : o.op = .call { callee := .builtin .append, args := #[sO, xO], argTypes := #[88, 88] }) (v : Value) (hs : a.eval sO = v) (es : List (List Int)) (hO : RowU base w5 v es) (hxe : a.eval xO = .slice (some ⟨w5.heap.size, 0, none⟩) 1 1) (hl : es.length ≤ 1000) (hb : base ≤ w5.heap.size)
    (h : ∀ v' w', RowU base w' v' (es ++ [markV]) → (w5.alloc (.cells mark11 110)).grownBy w' v.ownBlock → K (a.put o.dst v') w') : if Region.wanted o (yielded ops a.tmps) = true then Oper.wp Try.prog o a (w5.alloc (.cells mark11 110)) K Q else E := by
  have hx : Recs (w5.alloc (.cells mark11 110)) (some ⟨w5.heap.size, 0, none⟩) 11 [markV] := recs_oneU w5 markV _
  exact step_ownU2a base _ w5.heap.size hgd sO xO ho v hs es (World.ownsRow.alloc hO _) hxe hx hl (by simp [go_sem]; omega) h
end
theorem rowU_front {base : Nat} {w : World} {va : Option Addr} {n vc : Nat} {es : List (List Int)} {u : List Int} (h : RowU base w (.slice va n vc) (es ++ [u])) : Recs w va 11 es ∧ es.length ≤ vc ∧ va ≠ none ∧ (∀ b o, va = some ⟨b, o, none⟩ → base ≤ b) := by
  obtain ⟨ea, c, e, hc, hr, hg⟩ := h.open
  cases e
  obtain ⟨g, rfl, hbg, _⟩ := hg (by simp)
  refine ⟨?_, by simp at hc; omega, (fun x => by cases x), fun b o x => by cases x; exact hbg⟩
  rcases hr with x | ⟨b, o, x, hcell⟩
  · simp at x
  · refine Or.inr ⟨b, o, x, fun i hi j hj => ?_⟩
    have h2 := hcell i (by simp; omega) j hj
    have e2 : rec (es ++ [u]) i = rec es i := by
      rw [rec_at (by simp; omega), rec_at hi, List.getElem_append_left hi]
    rw [e2] at h2
    exact h2
structure OwnW (w : World) (t g0 g1 nx : Int) (uv : Value) (X : World) : Prop where
  bx : X.heap[w.heap.size]? = some (.cells (newerC t g0 g1 nx uv) 90)
  bz : X.heap[w.heap.size + 1]? = some (.cells (newerC 0 0 0 0 (.slice none 0 0)) 90)
  be : Below w.heap.size w X
  sz : w.heap.size + 2 ≤ X.heap.size
theorem OwnW.below {w : World} {t g0 g1 nx : Int} {uv : Value} {X Y : World} (h : OwnW w t g0 g1 nx uv X) (hb : Below X.heap.size X Y) : OwnW w t g0 g1 nx uv Y :=
  ⟨(hb.block _ (by have := h.sz; omega)).trans h.bx, (hb.block _ (by have := h.sz; omega)).trans h.bz, h.be.trans (hb.mono (by have := h.sz; omega)), Nat.le_trans h.sz hb.size⟩
theorem OwnW.grown {w : World} {t g0 g1 nx : Int} {uv v : Value} {X Y : World} {base : Nat} {es : List (List Int)} (h : OwnW w t g0 g1 nx uv X) (hr : RowU base X v es) (hbs : w.heap.size ≤ base) (hg : X.grownBy Y v.ownBlock) : OwnW w t g0 g1 nx uv Y := by
  have hs := h.sz
  refine ⟨(hg.block _ (by omega) (fun e => row_ne hr h.bx (by decide) e.symm)).trans h.bx, (hg.block _ (by omega) (fun e => row_ne hr h.bz (by decide) e.symm)).trans h.bz, h.be.grown hg (by omega) (fun k hk => ?_), Nat.le_trans hs hg.size⟩
  have := (World.ownsRow.lt hr k hk).1
  omega
theorem OwnW.set4 {w : World} {t g0 g1 nx : Int} {uv : Value} {X : World} (h : OwnW w t g0 g1 nx uv X) (v : Value) : OwnW w t g0 g1 nx v (X.setCell ⟨w.heap.size, 4, none⟩ v) :=
  ⟨heap_setCell_same X w.heap.size 4 _ _ v h.bx, (heap_setCell_other X ⟨w.heap.size, 4, none⟩ _ v (fun e => by have e' : w.heap.size + 1 = w.heap.size := e; omega)).trans h.bz, h.be.setCell (p := ⟨w.heap.size, 4, none⟩) (Nat.le_refl _) v, by have := h.sz; simpa using this⟩
theorem own_finW {w w9 : World} {t g0 g1 nx : Int} {uv : Value} {base n vc : Nat} {va : Option Addr} {es : List (List Int)} {u : List Int} (h : OwnW w t g0 g1 nx uv w9) (hr : RowU base w9 (.slice va n vc) (es ++ [u])) (hb : w.heap.size < base) :
    OwnW w t g0 g1 nx (.slice va es.length vc) (w9.setCell ⟨w.heap.size, 4, none⟩ (.slice va es.length vc)) ∧ Recs (w9.setCell ⟨w.heap.size, 4, none⟩ (.slice va es.length vc)) va 11 es ∧ es.length ≤ vc ∧ va ≠ none ∧ ∀ b o, va = some ⟨b, o, none⟩ → base ≤ b := by
  have hr2 : RowU base (w9.setCell ⟨w.heap.size, 4, none⟩ (.slice va es.length vc)) (.slice va n vc) (es ++ [u]) := row_set hr (fun e => by have := (World.ownsRow.lt hr _ e).1; omega) 4 _
  obtain ⟨a, b, c, d⟩ := rowU_front hr2
  exact ⟨h.set4 _, a, b, c, d⟩
set_option maxRecDepth 100000 in
set_option maxHeartbeats 8000000 in
theorem ownNewer_calls (t g0 g1 nx : Int) (ea : Option Addr) (ec : Nat) (es : List (List Int)) (w : World) (hen : ea = none → ec = 0) (hne : es.length ≤ 1000) (hrow : Recs w ea 11 es) :
    Calls Try.prog 51 #[newerV t g0 g1 nx (.slice ea es.length ec)] w fun e w' => ∃ ea' ec', e = .returned (newerV t g0 g1 nx (.slice ea' es.length ec')) ∧ Recs w' ea' 11 es ∧ es.length ≤ ec' ∧ ea' ≠ none ∧ Below w.heap.size w w' := by
  obtain ⟨W, hW⟩ : ∃ W, (w.alloc (.cells (newerC t g0 g1 nx (.slice ea es.length ec)) 90)).alloc (.cells (newerC 0 0 0 0 (.slice none 0 0)) 90) = W := ⟨_, rfl⟩
  obtain ⟨hbW, hsW, hh0, hh1⟩ := boxes5 (s := ⟨t, g0, g1, nx, [], es, []⟩) hW
  have HO : Hid (OwnW w t g0 g1 nx (.slice ea es.length ec) W) := ⟨hh0, hh1, hbW, by omega⟩
  have HR := hid (hrow.below hbW)
  have c5 : W.cell? ⟨w.heap.size, 4, none⟩ = some (.slice ea es.length ec) := cell_of_row W _ 4 _ _ _ hh0
  have hwW : w.heap.size < W.heap.size := by omega
  have c5W : ∀ o : Obj, (W.alloc o).cell? ⟨w.heap.size, 4, none⟩ = some (.slice ea es.length ec) := fun o => cell_of_row _ _ 4 _ _ _ (HO.out.below ((Below.refl _ W).alloc (Nat.le_refl _) o)).bx
  have HEN := hid hen
  clear hrow hbW hsW hh0 hh1 hen
  go_enter Try.func51, Try.ntmps51
  go_wp2_with fail
  go_cut [] (fun wx => ∃ va vc, Hid (OwnW w t g0 g1 nx (.slice va es.length vc) wx ∧ Recs wx va 11 es ∧ es.length ≤ vc ∧ va ≠ none ∧ (∀ b o, va = some ⟨b, o, none⟩ → W.heap.size ≤ b)))
  case first =>
    clear hW
    go_region_law (first
      | (refine step_ownU1a W (by rfl) (.const (.slice none 0 0)) (.tmp 4) (by rfl) (by rfl) ea ec es (by rfl) HR.out HEN.out hne ?_; intro v5 w5 h1 h2 h3; have HO5 := hid (HO.out.below h2); have c5' : w5.cell? ⟨w.heap.size, 4, none⟩ = some (.slice ea es.length ec) := cell_of_row w5 _ 4 _ _ _ HO5.out.bx; have HR5 := hid h1; have HM5 := hid h3; have hs5 := h2.size; obtain ⟨va5, vc5, rfl, _, _, _⟩ := h1.open; clear h1 h2 h3)
      | (refine step_ownU1b W (by rfl) (.const (.slice none 0 0)) (.tmp 4) (by rfl) (by rfl) ea ec es (by rfl) HR.out HEN.out hne ?_; intro v5 w5 h1 h2; have HO5 := hid (HO.out.below h2); have c5' : w5.cell? ⟨w.heap.size, 4, none⟩ = some (.slice ea es.length ec) := cell_of_row w5 _ 4 _ _ _ HO5.out.bx; have HR5 := hid h1; have hs5 := h2.size; have c5a : ∀ o : Obj, (w5.alloc o).cell? ⟨w.heap.size, 4, none⟩ = some (.slice ea es.length ec) := (fun o => cell_of_row _ _ 4 _ _ _ (HO5.out.below ((Below.refl _ w5).alloc (Nat.le_refl _) o)).bx); obtain ⟨va5, vc5, rfl, _, _, _⟩ := h1.open; clear h1 h2)
      | (refine step_ownU2a W.heap.size w5 W.heap.size (by rfl) (.tmp 5) (.tmp 7) (by rfl) (.slice va5 es.length vc5) (by rfl) es HR5.out (by rfl) HM5.out hne hs5 ?_; intro v9 w9 h1 h2; have HO9 := hid (HO5.out.grown HR5.out (Nat.le_of_lt hwW) h2); have c9 : w9.cell? ⟨w.heap.size, 4, none⟩ = some (.slice ea es.length ec) := cell_of_row w9 _ 4 _ _ _ HO9.out.bx; have f9 := frozen_of_row w9 w.heap.size 4 _ _ HO9.out.bx; have HR9 := hid h1; have h1' := h1; obtain ⟨va9, vc9, rfl, hcap, _, _⟩ := h1'.open; have hcz : (es.length : Int) ≤ (vc9 : Int) := (by simp at hcap; omega); clear h1 h1' h2 hcap)
      | (refine step_ownU2b W.heap.size w5 (by rfl) (.tmp 5) (.tmp 7) (by rfl) (.slice va5 es.length vc5) (by rfl) es HR5.out (by rfl) hne hs5 ?_; intro v9 w9 h1 h2; have HO9 := hid ((HO5.out.below ((Below.refl _ w5).alloc (Nat.le_refl _) (.cells mark11 110))).grown (World.ownsRow.alloc HR5.out _) (Nat.le_of_lt hwW) h2); have c9 : w9.cell? ⟨w.heap.size, 4, none⟩ = some (.slice ea es.length ec) := cell_of_row w9 _ 4 _ _ _ HO9.out.bx; have f9 := frozen_of_row w9 w.heap.size 4 _ _ HO9.out.bx; have HR9 := hid h1; have h1' := h1; obtain ⟨va9, vc9, rfl, hcap, _, _⟩ := h1'.open; have hcz : (es.length : Int) ≤ (vc9 : Int) := (by simp at hcap; omega); clear h1 h1' h2 hcap))
    all_goals
      go_wp2
      go_meet
      exact ⟨va9, vc9, own_finW HO9.out HR9.out hwW⟩
  case rest =>
    obtain ⟨va, vc, HM⟩ := hcut
    obtain ⟨x0, x1, x2, x3, x4, _⟩ := five_cells HM.out.1.bx
    obtain ⟨q0, q1, q2, q3, q4, f0⟩ := five_cells HM.out.1.bz
    clear c5 c5W hW
    go_wp2
    refine bodyPost_ret (v := newerV t g0 g1 nx (.slice va es.length vc)) (by simp [results, Try.results51, go_sem, q0, q1, q2, q3, q4]) rfl ⟨va, vc, rfl, ?_, HM.out.2.2.1, HM.out.2.2.2.1, below_five (b := w.heap.size + 1) HM.out.1.be (Nat.le_succ _)⟩
    have hn : ∀ g o, va = some ⟨g, o, none⟩ → g ≠ w.heap.size + 1 := fun g o e => by have := HM.out.2.2.2.2 g o e; have := HO.out.sz; omega
    exact recs_off (recs_off (recs_off (recs_off (recs_off HM.out.2.1 hn) hn) hn) hn) hn
end Go.Proofs.Ytgiieepfhohmhaa

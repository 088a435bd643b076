/- ElderSays: what its text calls besides: a closed fact; what is light. -/
import Derived.Test.YtgiieepfhohmhaaVElA
import Derived.Test.YtgiieepfhohmhaaVRefQ
namespace Go.Proofs.Ytgiieepfhohmhaa
open Go.RowKit Go.Maps
set_option maxRecDepth 100000 in
set_option maxHeartbeats 1000000 in
theorem lightElder_calls (t g0 g1 nx : Int) (fa ea : Option Addr) (nf ne fc ec : Nat) (w : World) :
    Calls Try.prog 37 #[elderV t g0 g1 nx (.slice fa nf fc) (.slice ea ne ec)] w fun e w' => e = .returned (.bool (decide (ne ≤ 25 ∧ nf ≤ 220))) ∧ Below w.heap.size w w' := by
  have hb : Below w.heap.size w (w.alloc (.cells (elC t g0 g1 nx (.slice fa nf fc) (.slice ea ne ec)) 60)) := (Below.refl _ w).alloc (Nat.le_refl _) _
  have HB := hid hb
  clear hb
  by_cases h1 : ne ≤ 25
  · have h1z : (ne : Int) ≤ 25 := by omega
    by_cases h2 : nf ≤ 220
    · have h2z : (nf : Int) ≤ 220 := by omega
      rw [decide_eq_true ⟨h1, h2⟩]
      clear h1 h2
      go_enter Try.func37, Try.ntmps37
      go_wp2
      go_ret
      exact ⟨rfl, HB.out⟩
    · have h2z : ¬ (nf : Int) ≤ 220 := by omega
      rw [decide_eq_false (fun h => h2 h.2)]
      clear h1 h2
      go_enter Try.func37, Try.ntmps37
      go_wp2
      go_ret
      exact ⟨rfl, HB.out⟩
  · have h1z : ¬ (ne : Int) ≤ 25 := by omega
    rw [decide_eq_false (fun h => h1 h.1)]
    clear h1
    go_enter Try.func37, Try.ntmps37
    go_wp2
    go_ret
    exact ⟨rfl, HB.out⟩
end Go.Proofs.Ytgiieepfhohmhaa
namespace Go.Proofs.Ytgiieepfhohmhaa
open Go.RowKit Go.Maps
abbrev mark10 : Array Value := #[.int .i64 77, .int .i64 0, .int .i64 0, .int .i64 0, .int .i64 0, .int .i64 0, .int .i64 0, .int .i64 0, .int .i64 0, .int .i64 0]
def markU : List Int := [77, 0, 0, 0, 0, 0, 0, 0, 0, 0]
section
variable {ops : Array Oper} {o : Oper} {a : Act} {K : Act → World → Prop} {Q : Exit → Act → World → Prop} {E : Prop}
theorem step_own1 (W X : World) (hgd : o.guard = none) (sO xO : Operand) (ho : o.op = .call { callee := .builtin .append, args := #[sO, xO], argTypes := #[58, 58] }) (hs : a.eval sO = .slice none 0 0) (ea : Option Addr) (ec : Nat) (es : List (List Int)) (hxe : a.eval xO = .slice ea es.length ec) (hx : Recs W ea 10 es) (hnil : ea = none → ec = 0) (hl : es.length ≤ 1000) (hb : Below W.heap.size W X)
    (h : ∀ v' w', Row W.heap.size w' v' es → Below X.heap.size X w' → K (a.put o.dst v') w') : if Region.wanted o (yielded ops a.tmps) = true then Oper.wp Try.prog o a X K Q else E := by
  refine step_rows (w := X) hgd sO xO ho W.heap.size (.slice none 0 0) [] hs (World.ownsRow_nil _ _ _ _) ea ec es hxe (hx.below hb) hnil (by simp; omega) hb.size ?_
  intro v' w' h1 h2 _
  rw [List.nil_append] at h1
  exact h v' w' h1 (grown_below h2)
theorem step_own1a (W : World) (hgd : o.guard = none) (sO xO : Operand) (ho : o.op = .call { callee := .builtin .append, args := #[sO, xO], argTypes := #[58, 58] }) (hs : a.eval sO = .slice none 0 0) (ea : Option Addr) (ec : Nat) (es : List (List Int)) (hxe : a.eval xO = .slice ea es.length ec) (hx : Recs W ea 10 es) (hnil : ea = none → ec = 0) (hl : es.length ≤ 1000)
    (h : ∀ v' w', Row W.heap.size w' v' es → Below W.heap.size W w' → Recs w' (some ⟨W.heap.size, 0, none⟩) 10 [markU] → K (a.put o.dst v') w') : if Region.wanted o (yielded ops a.tmps) = true then Oper.wp Try.prog o a (W.alloc (.cells mark10 86)).drew K Q else E := by
  have hb : Below W.heap.size W (W.alloc (.cells mark10 86)).drew := ((Below.refl _ W).alloc (Nat.le_refl _) _).drew
  refine step_own1 W _ hgd sO xO ho hs ea ec es hxe hx hnil hl hb fun v' w' h1 h2 => h v' w' h1 (hb.trans (h2.mono hb.size)) ?_
  have h3 : Recs (W.alloc (.cells mark10 86)).drew (some ⟨W.heap.size, 0, none⟩) 10 [markU] := recs_one W markU _
  exact h3.below h2
theorem step_own1b (W : World) (hgd : o.guard = none) (sO xO : Operand) (ho : o.op = .call { callee := .builtin .append, args := #[sO, xO], argTypes := #[58, 58] }) (hs : a.eval sO = .slice none 0 0) (ea : Option Addr) (ec : Nat) (es : List (List Int)) (hxe : a.eval xO = .slice ea es.length ec) (hx : Recs W ea 10 es) (hnil : ea = none → ec = 0) (hl : es.length ≤ 1000)
    (h : ∀ v' w', Row W.heap.size w' v' es → Below W.heap.size W w' → K (a.put o.dst v') w') : if Region.wanted o (yielded ops a.tmps) = true then Oper.wp Try.prog o a W.drew K Q else E :=
  step_own1 W W.drew hgd sO xO ho hs ea ec es hxe hx hnil hl (Below.refl _ W).drew fun v' w' h1 h2 => h v' w' h1 ⟨h2.os, h2.tape, h2.output, h2.size, h2.block⟩
theorem step_own2a (base : Nat) (w5 : World) (q : Nat) (hgd : o.guard = none) (sO xO : Operand) (ho : o.op = .call { callee := .builtin .append, args := #[sO, xO], argTypes := #[58, 58] }) (v : Value) (hs : a.eval sO = v) (es : List (List Int)) (hO : Row base w5 v es) (hxe : a.eval xO = .slice (some ⟨q, 0, none⟩) 1 1) (hx : Recs w5 (some ⟨q, 0, none⟩) 10 [markU]) (hl : es.length ≤ 1000) (hb : base ≤ w5.heap.size)
    (h : ∀ v' w', Row base w' v' (es ++ [markU]) → w5.grownBy w' v.ownBlock → K (a.put o.dst v') w') : if Region.wanted o (yielded ops a.tmps) = true then Oper.wp Try.prog o a w5 K Q else E := by
  refine step_rows (w := w5) hgd sO xO ho base v es hs hO (some ⟨q, 0, none⟩) 1 [markU] hxe hx (fun h => by cases h) (show es.length + 1 ≤ 100000 by omega) hb ?_
  intro v' w' h1 h2 _
  exact h v' w' h1 h2
theorem step_own2b (base : Nat) (w5 : World) (hgd : o.guard = none) (sO xO : Operand) (ho : o.op = .call { callee := .builtin .append, args := #[sO, xO], argTypes := #[58, 58] }) (v : Value) (hs : a.eval sO = v) (es : List (List Int)) (hO : Row base w5 v es) (hxe : a.eval xO = .slice (some ⟨w5.heap.size, 0, none⟩) 1 1) (hl : es.length ≤ 1000) (hb : base ≤ w5.heap.size)
    (h : ∀ v' w', Row base w' v' (es ++ [markU]) → (w5.alloc (.cells mark10 86)).grownBy w' v.ownBlock → K (a.put o.dst v') w') : if Region.wanted o (yielded ops a.tmps) = true then Oper.wp Try.prog o a (w5.alloc (.cells mark10 86)) K Q else E := by
  have hx : Recs (w5.alloc (.cells mark10 86)) (some ⟨w5.heap.size, 0, none⟩) 10 [markU] := recs_one w5 markU _
  exact step_own2a base _ w5.heap.size hgd sO xO ho v hs es (World.ownsRow.alloc hO _) hxe hx hl (by simp [go_sem]; omega) h
end
section
variable {ops : Array Oper} {o : Oper} {a : Act} {K : Act → World → Prop} {Q : Exit → Act → World → Prop} {E : Prop}
theorem step_nown1 (W X : World) (hgd : o.guard = none) (sO xO : Operand) (ho : o.op = .call { callee := .builtin .append, args := #[sO, xO], argTypes := #[57, 57] }) (hs : a.eval sO = .slice none 0 0) (ea : Option Addr) (ec : Nat) (es : List Int) (hxe : a.eval xO = .slice ea es.length ec) (hx : Nums W ea es) (hnil : ea = none → ec = 0) (hl : es.length ≤ 1000) (hb : Below W.heap.size W X)
    (h : ∀ v' w', NRow W.heap.size w' v' es → Below X.heap.size X w' → K (a.put o.dst v') w') : if Region.wanted o (yielded ops a.tmps) = true then Oper.wp Try.prog o a X K Q else E := by
  refine step_nums (w := X) hgd sO xO ho W.heap.size (.slice none 0 0) [] hs (World.ownsRow_nil _ _ _ _) ea ec es hxe (hx.below hb) hnil (by simp; omega) hb.size ?_
  intro v' w' h1 h2 _
  rw [List.nil_append] at h1
  exact h v' w' h1 (grown_below h2)
theorem step_nown1a (W : World) (hgd : o.guard = none) (sO xO : Operand) (ho : o.op = .call { callee := .builtin .append, args := #[sO, xO], argTypes := #[57, 57] }) (hs : a.eval sO = .slice none 0 0) (ea : Option Addr) (ec : Nat) (es : List Int) (hxe : a.eval xO = .slice ea es.length ec) (hx : Nums W ea es) (hnil : ea = none → ec = 0) (hl : es.length ≤ 1000)
    (h : ∀ v' w', NRow W.heap.size w' v' es → Below W.heap.size W w' → Nums w' (some ⟨W.heap.size, 0, none⟩) [77] → K (a.put o.dst v') w') : if Region.wanted o (yielded ops a.tmps) = true then Oper.wp Try.prog o a (W.alloc (.cells #[.int .i64 77] 3)).drew K Q else E := by
  have hb : Below W.heap.size W (W.alloc (.cells #[.int .i64 77] 3)).drew := ((Below.refl _ W).alloc (Nat.le_refl _) _).drew
  refine step_nown1 W _ hgd sO xO ho hs ea ec es hxe hx hnil hl hb fun v' w' h1 h2 => h v' w' h1 (hb.trans (h2.mono hb.size)) ?_
  have h3 : Nums (W.alloc (.cells #[.int .i64 77] 3)).drew (some ⟨W.heap.size, 0, none⟩) [77] := nums_one W 77 _
  exact h3.below h2
theorem step_nown1b (W : World) (hgd : o.guard = none) (sO xO : Operand) (ho : o.op = .call { callee := .builtin .append, args := #[sO, xO], argTypes := #[57, 57] }) (hs : a.eval sO = .slice none 0 0) (ea : Option Addr) (ec : Nat) (es : List Int) (hxe : a.eval xO = .slice ea es.length ec) (hx : Nums W ea es) (hnil : ea = none → ec = 0) (hl : es.length ≤ 1000)
    (h : ∀ v' w', NRow W.heap.size w' v' es → Below W.heap.size W w' → K (a.put o.dst v') w') : if Region.wanted o (yielded ops a.tmps) = true then Oper.wp Try.prog o a W.drew K Q else E :=
  step_nown1 W W.drew hgd sO xO ho hs ea ec es hxe hx hnil hl (Below.refl _ W).drew fun v' w' h1 h2 => h v' w' h1 ⟨h2.os, h2.tape, h2.output, h2.size, h2.block⟩
theorem step_nown2a (base : Nat) (w5 : World) (q : Nat) (hgd : o.guard = none) (sO xO : Operand) (ho : o.op = .call { callee := .builtin .append, args := #[sO, xO], argTypes := #[57, 57] }) (v : Value) (hs : a.eval sO = v) (es : List Int) (hO : NRow base w5 v es) (hxe : a.eval xO = .slice (some ⟨q, 0, none⟩) 1 1) (hx : Nums w5 (some ⟨q, 0, none⟩) [77]) (hl : es.length ≤ 1000) (hb : base ≤ w5.heap.size)
    (h : ∀ v' w', NRow base w' v' (es ++ [77]) → w5.grownBy w' v.ownBlock → K (a.put o.dst v') w') : if Region.wanted o (yielded ops a.tmps) = true then Oper.wp Try.prog o a w5 K Q else E := by
  refine step_nums (w := w5) hgd sO xO ho base v es hs hO (some ⟨q, 0, none⟩) 1 [77] hxe hx (fun h => by cases h) (show es.length + 1 ≤ 100000 by omega) hb ?_
  intro v' w' h1 h2 _
  exact h v' w' h1 h2
theorem step_nown2b (base : Nat) (w5 : World) (hgd : o.guard = none) (sO xO : Operand) (ho : o.op = .call { callee := .builtin .append, args := #[sO, xO], argTypes := #[57, 57] }) (v : Value) (hs : a.eval sO = v) (es : List Int) (hO : NRow base w5 v es) (hxe : a.eval xO = .slice (some ⟨w5.heap.size, 0, none⟩) 1 1) (hl : es.length ≤ 1000) (hb : base ≤ w5.heap.size)
    (h : ∀ v' w', NRow base w' v' (es ++ [77]) → (w5.alloc (.cells #[.int .i64 77] 3)).grownBy w' v.ownBlock → K (a.put o.dst v') w') : if Region.wanted o (yielded ops a.tmps) = true then Oper.wp Try.prog o a (w5.alloc (.cells #[.int .i64 77] 3)) K Q else E := by
  have hx : Nums (w5.alloc (.cells #[.int .i64 77] 3)) (some ⟨w5.heap.size, 0, none⟩) [77] := nums_one w5 77 _
  exact step_nown2a base _ w5.heap.size hgd sO xO ho v hs es (World.ownsRow.alloc hO _) hxe hx hl (by simp [go_sem]; omega) h
end
theorem row_front {base : Nat} {w : World} {va : Option Addr} {n vc : Nat} {es : List (List Int)} {u : List Int} (h : Row base w (.slice va n vc) (es ++ [u])) : Recs w va 10 es ∧ es.length ≤ vc ∧ va ≠ none ∧ (∀ b o, va = some ⟨b, o, none⟩ → base ≤ b) := by
  obtain ⟨ea, c, e, hc, hr, hg⟩ := h.open
  cases e
  obtain ⟨g, rfl, hbg, _⟩ := hg (by simp)
  refine ⟨?_, by simp at hc; omega, (fun x => by cases x), fun b o x => by cases x; exact hbg⟩
  rcases hr with x | ⟨b, o, x, hcell⟩
  · simp at x
  · refine Or.inr ⟨b, o, x, fun i hi j hj => ?_⟩
    have h2 := hcell i (by simp; omega) j hj
    have e2 : rec (es ++ [u]) i = rec es i := by
      rw [rec_at (by simp; omega), rec_at hi, List.getElem_append_left hi]
    rw [e2] at h2
    exact h2
theorem nrow_front {base : Nat} {w : World} {va : Option Addr} {n vc : Nat} {zs : List Int} {z : Int} (h : NRow base w (.slice va n vc) (zs ++ [z])) : Nums w va zs ∧ va ≠ none ∧ (∀ b o, va = some ⟨b, o, none⟩ → base ≤ b) := by
  obtain ⟨ea, c, e, hc, hr, hg⟩ := h.open
  cases e
  obtain ⟨g, rfl, hbg, _⟩ := hg (by simp)
  refine ⟨?_, (fun x => by cases x), fun b o x => by cases x; exact hbg⟩
  rcases hr with x | ⟨b, o, x, hcell⟩
  · simp at x
  · refine Or.inr ⟨b, o, x, fun i hi => ?_⟩
    have h2 := hcell i (by simp; omega)
    have e2 : fld (zs ++ [z]) i = fld zs i := by
      unfold fld
      rw [List.getD_eq_getElem?_getD, List.getD_eq_getElem?_getD, List.getElem?_append_left hi]
    rw [e2] at h2
    exact h2
structure OwnE (w : World) (t g0 g1 nx : Int) (fv ev : Value) (X : World) : Prop where
  bx : X.heap[w.heap.size]? = some (.cells (elC t g0 g1 nx fv ev) 60)
  bz : X.heap[w.heap.size + 1]? = some (.cells (elC 0 0 0 0 (.slice none 0 0) (.slice none 0 0)) 60)
  be : Below w.heap.size w X
  sz : w.heap.size + 2 ≤ X.heap.size
theorem OwnE.below {w : World} {t g0 g1 nx : Int} {fv ev : Value} {X Y : World} (h : OwnE w t g0 g1 nx fv ev X) (hb : Below X.heap.size X Y) : OwnE w t g0 g1 nx fv ev Y :=
  ⟨(hb.block _ (by have := h.sz; omega)).trans h.bx, (hb.block _ (by have := h.sz; omega)).trans h.bz, h.be.trans (hb.mono (by have := h.sz; omega)), Nat.le_trans h.sz hb.size⟩
theorem OwnE.grown {w : World} {t g0 g1 nx : Int} {fv ev v : Value} {X Y : World} {base : Nat} {es : List (List Int)} (h : OwnE w t g0 g1 nx fv ev X) (hr : Row base X v es) (hbs : w.heap.size ≤ base) (hg : X.grownBy Y v.ownBlock) : OwnE w t g0 g1 nx fv ev Y := by
  have hs := h.sz
  refine ⟨(hg.block _ (by omega) (fun e => row_ne hr h.bx (by decide) e.symm)).trans h.bx, (hg.block _ (by omega) (fun e => row_ne hr h.bz (by decide) e.symm)).trans h.bz, h.be.grown hg (by omega) (fun k hk => ?_), Nat.le_trans hs hg.size⟩
  have := (World.ownsRow.lt hr k hk).1
  omega
theorem OwnE.grownN {w : World} {t g0 g1 nx : Int} {fv ev v : Value} {X Y : World} {base : Nat} {zs : List Int} (h : OwnE w t g0 g1 nx fv ev X) (hr : NRow base X v zs) (hbs : w.heap.size ≤ base) (hg : X.grownBy Y v.ownBlock) : OwnE w t g0 g1 nx fv ev Y := by
  have hs := h.sz
  refine ⟨(hg.block _ (by omega) (fun e => row_ne hr h.bx (by decide) e.symm)).trans h.bx, (hg.block _ (by omega) (fun e => row_ne hr h.bz (by decide) e.symm)).trans h.bz, h.be.grown hg (by omega) (fun k hk => ?_), Nat.le_trans hs hg.size⟩
  have := (World.ownsRow.lt hr k hk).1
  omega
theorem OwnE.set5 {w : World} {t g0 g1 nx : Int} {fv ev : Value} {X : World} (h : OwnE w t g0 g1 nx fv ev X) (v : Value) : OwnE w t g0 g1 nx fv v (X.setCell ⟨w.heap.size, 5, none⟩ v) :=
  ⟨elder_set5 h.bx v, (heap_setCell_other X ⟨w.heap.size, 5, none⟩ _ v (fun e => by have e' : w.heap.size + 1 = w.heap.size := e; omega)).trans h.bz, h.be.setCell (p := ⟨w.heap.size, 5, none⟩) (Nat.le_refl _) v, by have := h.sz; simpa using this⟩
theorem OwnE.set4 {w : World} {t g0 g1 nx : Int} {fv ev : Value} {X : World} (h : OwnE w t g0 g1 nx fv ev X) (v : Value) : OwnE w t g0 g1 nx v ev (X.setCell ⟨w.heap.size, 4, none⟩ v) :=
  ⟨heap_setCell_same X w.heap.size 4 _ _ v h.bx, (heap_setCell_other X ⟨w.heap.size, 4, none⟩ _ v (fun e => by have e' : w.heap.size + 1 = w.heap.size := e; omega)).trans h.bz, h.be.setCell (p := ⟨w.heap.size, 4, none⟩) (Nat.le_refl _) v, by have := h.sz; simpa using this⟩
theorem own_finE {w w9 : World} {t g0 g1 nx : Int} {fv ev : Value} {base n vc : Nat} {va : Option Addr} {es : List (List Int)} {u : List Int} (h : OwnE w t g0 g1 nx fv ev w9) (hr : Row base w9 (.slice va n vc) (es ++ [u])) (hb : w.heap.size < base) :
    OwnE w t g0 g1 nx fv (.slice va es.length vc) (w9.setCell ⟨w.heap.size, 5, none⟩ (.slice va es.length vc)) ∧ Recs (w9.setCell ⟨w.heap.size, 5, none⟩ (.slice va es.length vc)) va 10 es ∧ es.length ≤ vc ∧ va ≠ none ∧ ∀ b o, va = some ⟨b, o, none⟩ → base ≤ b := by
  have hr2 : Row base (w9.setCell ⟨w.heap.size, 5, none⟩ (.slice va es.length vc)) (.slice va n vc) (es ++ [u]) := row_set hr (fun e => by have := (World.ownsRow.lt hr _ e).1; omega) 5 _
  obtain ⟨a, b, c, d⟩ := row_front hr2
  exact ⟨h.set5 _, a, b, c, d⟩
theorem own_finN {w w9 : World} {t g0 g1 nx : Int} {fv ev : Value} {base n vc : Nat} {va : Option Addr} {zs : List Int} {z : Int} (h : OwnE w t g0 g1 nx fv ev w9) (hr : NRow base w9 (.slice va n vc) (zs ++ [z])) (hb : w.heap.size < base) :
    OwnE w t g0 g1 nx (.slice va zs.length vc) ev (w9.setCell ⟨w.heap.size, 4, none⟩ (.slice va zs.length vc)) ∧ Nums (w9.setCell ⟨w.heap.size, 4, none⟩ (.slice va zs.length vc)) va zs ∧ va ≠ none ∧ ∀ b o, va = some ⟨b, o, none⟩ → base ≤ b := by
  have hr2 : NRow base (w9.setCell ⟨w.heap.size, 4, none⟩ (.slice va zs.length vc)) (.slice va n vc) (zs ++ [z]) := row_set hr (fun e => by have := (World.ownsRow.lt hr _ e).1; omega) 4 _
  obtain ⟨a, c, d⟩ := nrow_front hr2
  exact ⟨h.set4 _, a, c, d⟩
theorem recs_off {w : World} {a : Option Addr} {n b j : Nat} {rs : List (List Int)} {v : Value} (h : Recs w a n rs) (ho : ∀ g o, a = some ⟨g, o, none⟩ → g ≠ b) : Recs (w.setCell ⟨b, j, none⟩ v) a n rs := by
  rcases h with h | ⟨g, o, e, hc⟩
  · exact Or.inl h
  · refine Or.inr ⟨g, o, e, fun i hi q hq => ?_⟩
    rw [← hc i hi q hq]
    unfold World.cell?
    simp only [heap_setCell_other w ⟨b, j, none⟩ g v (fun x => ho g o e x)]
theorem nums_off {w : World} {a : Option Addr} {b j : Nat} {zs : List Int} {v : Value} (h : Nums w a zs) (ho : ∀ g o, a = some ⟨g, o, none⟩ → g ≠ b) : Nums (w.setCell ⟨b, j, none⟩ v) a zs := by
  rcases h with h | ⟨g, o, e, hc⟩
  · exact Or.inl h
  · refine Or.inr ⟨g, o, e, fun i hi => ?_⟩
    rw [← hc i hi]
    unfold World.cell?
    simp only [heap_setCell_other w ⟨b, j, none⟩ g v (fun x => ho g o e x)]
end Go.Proofs.Ytgiieepfhohmhaa

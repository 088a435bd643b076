/- ElderSays: what its text calls besides: a closed fact; what is light. -/
import Derived.Test.YtgiieepfhohmhaaPlyB
import Derived.Test.YtgiieepfhohmhaaElA
namespace Go.Proofs.Ytgiieepfhohmhaa
open Go.RowKit Go.Maps

def playU : List Int := [1, 0, 1, 3, 3, 5, 0, 0, 0, 0]
def playQ : List Int := [0, 1, 1, 0, 5, 3, 0]
def playS0 : St := ⟨0, 0, 0, 2, [], [playU], []⟩
theorem play0_c : outC playS0 [playQ] = 0 := by decide +kernel
theorem play0_t : (outS playS0 [playQ]).t = 1 := by decide +kernel
theorem play0_b : (outS playS0 [playQ]).born = [] := by decide +kernel
theorem play0_l : (outS playS0 [playQ]).es.length = 1 := by decide +kernel
theorem play0_x : fld (rec (outS playS0 [playQ]).es 0) 3 = 4 := by decide +kernel

set_option maxRecDepth 100000 in
set_option maxHeartbeats 8000000 in
theorem plays_calls (w : World) : Calls Try.prog 36 #[] w fun e w' => e = .returned (.bool true) ∧ Below w.heap.size w w' := by
  obtain ⟨W, hW⟩ : ∃ W, ((w.alloc (.cells (entC playU) 86)).alloc (.cells (elC 0 0 0 2 (.slice none 0 0) (.slice (some ⟨w.heap.size, 0, none⟩) 1 1)) 60)).alloc (.cells (cmdC playQ) 69) = W := ⟨_, rfl⟩
  have hbW : Below w.heap.size w W := by rw [← hW]; exact (((Below.refl _ w).alloc (Nat.le_refl _) _).alloc (by simp [go_sem]) _).alloc (by simp [go_sem]; omega) _
  have hr : Recs W (some ⟨w.heap.size, 0, none⟩) 10 [playU] := by
    rw [← hW]
    exact (recs_one w playU _).below (((Below.refl _ _).alloc (Nat.le_refl _) _).alloc (by simp [go_sem]) _)
  have hq : Recs W (some ⟨w.heap.size + 2, 0, none⟩) 7 [playQ] := by
    refine Or.inr ⟨w.heap.size + 2, 0, rfl, fun i hi j hj => ?_⟩
    have h0 : i = 0 := by simpa using hi
    subst h0
    have hh : W.heap[w.heap.size + 2]? = some (.cells (cmdC playQ) 69) := by
      have e : w.heap.size + 2 = ((w.alloc (.cells (entC playU) 86)).alloc (.cells (elC 0 0 0 2 (.slice none 0 0) (.slice (some ⟨w.heap.size, 0, none⟩) 1 1)) 60)).heap.size := by simp [go_sem]
      rw [← hW, e]
      exact heap_alloc_new _ _
    rw [cell_of_row W _ (0 + 0 * 7 + j) _ _ _ hh]
    have e : 0 + 0 * 7 + j = j := by omega
    rw [e]
    match j, hj with
    | 0, _ | 1, _ | 2, _ | 3, _ | 4, _ | 5, _ | 6, _ => rfl
  have hin : InE W playS0 none (some ⟨w.heap.size, 0, none⟩) 0 1 := ⟨fun _ => rfl, (fun h => by cases h), Nat.le_refl _, hr, Or.inl rfl, fun i hi => absurd hi (Nat.not_lt_zero _), rfl⟩
  have HSA : Hid (Calls Try.prog 40 #[.agg #[.int .i64 0, .int .i64 0, .int .i64 0, .int .i64 2, .slice none 0 0, .slice (some ⟨w.heap.size, 0, none⟩) 1 1], .slice (some ⟨w.heap.size + 1 + 1, 0, none⟩) 1 1] (((w.alloc (.cells #[.int .i64 1, .int .i64 0, .int .i64 1, .int .i64 3, .int .i64 3, .int .i64 5, .int .i64 0, .int .i64 0, .int .i64 0, .int .i64 0] 86)).alloc (.cells #[.int .i64 0, .int .i64 0, .int .i64 0, .int .i64 2, .slice none 0 0, .slice (some ⟨w.heap.size, 0, none⟩) 1 1] 60)).alloc (.cells #[.int .i64 0, .int .i64 1, .int .i64 1, .int .i64 0, .int .i64 5, .int .i64 3, .int .i64 0] 69)) (Ans errV playS0 [playQ] W)) := by
    have h := step_all playS0 none (some ⟨w.heap.size, 0, none⟩) (some ⟨w.heap.size + 2, 0, none⟩) 0 1 1 [playQ] W hin hq
    rw [← hW] at h ⊢
    exact h
  have HBW := hid hbW
  clear hbW hr hq hin hW
  go_enter Try.func36, Try.ntmps36
  go_wp2_with fail
  refine HSA.out.mono ?_
  rintro e w5 ⟨fv, ev, bv, rfl, h1, h2, h3, hb5⟩
  obtain ⟨ea5, ec5, rfl, _, hr5, _⟩ := h1.open
  obtain ⟨fa5, fc5, rfl, _, _, _⟩ := h2.open
  obtain ⟨ba5, bc5, rfl, _, _, _⟩ := h3.open
  have ht := play0_t
  have hbn := play0_b
  have hl := play0_l
  have hx := play0_x
  rw [play0_c, errV_zero]
  generalize outS playS0 [playQ] = T at hr5 ht hbn hl hx ⊢
  obtain ⟨b, o, rfl, hc⟩ := hr5.at (i := 0) (by rw [hl]; decide)
  have c3 : w5.cell? ⟨b, o + 3, none⟩ = some (.int .i64 4) := by
    have := hc 3 (by omega)
    rw [hx] at this
    simpa using this
  have hbl : b < w5.heap.size := World.block_lt_of_cell? w5 _ c3
  have HB5 : Hid (Below w.heap.size w w5) := HBW.out.trans (hb5.mono HBW.out.size)
  have hnl : T.born.length = 0 := by rw [hbn]; rfl
  rw [ht, hl, hnl]
  obtain ⟨V, hV⟩ : ∃ V, w5.alloc (.cells (elC 1 T.g0 T.g1 T.nx (.slice fa5 T.free.length fc5) (.slice (some ⟨b, o, none⟩) 1 ec5)) 60) = V := ⟨_, rfl⟩
  have hbV : Below w5.heap.size w5 V := by rw [← hV]; exact (Below.refl _ _).alloc (Nat.le_refl _) _
  have hhV : V.heap[w5.heap.size]? = some (.cells (elC 1 T.g0 T.g1 T.nx (.slice fa5 T.free.length fc5) (.slice (some ⟨b, o, none⟩) 1 ec5)) 60) := by rw [← hV]; exact heap_alloc_new _ _
  obtain ⟨v0, _, _, _, _, v5⟩ := elder_cells hhV
  have d3 : V.cell? ⟨b, o + 3, none⟩ = some (.int .i64 4) := (hbV.cell (p := ⟨b, o + 3, none⟩) hbl).trans c3
  have HBV : Hid (Below w.heap.size w V) := HB5.out.trans (hbV.mono HB5.out.size)
  have HSM := hid (same_calls 0 0 (by omega) (by omega) V)
  clear h1 h2 h3 hb5 hr5 hc c3 hbV hhV ht hbn hl hx hnl HSA
  go_wp2_with fail
  refine HSM.out.mono ?_
  rintro e w6 ⟨rfl, rfl⟩
  go_wp2
  go_ret
  exact ⟨rfl, HBV.out⟩

set_option maxRecDepth 100000 in
set_option maxHeartbeats 1000000 in
theorem lightElder_calls (t g0 g1 nx : Int) (fa ea : Option Addr) (nf ne fc ec : Nat) (w : World) :
    Calls Try.prog 37 #[elderV t g0 g1 nx (.slice fa nf fc) (.slice ea ne ec)] w fun e w' => e = .returned (.bool (decide (ne ≤ 25 ∧ nf ≤ 220))) ∧ Below w.heap.size w w' := by
  have hb : Below w.heap.size w (w.alloc (.cells (elC t g0 g1 nx (.slice fa nf fc) (.slice ea ne ec)) 60)) := (Below.refl _ w).alloc (Nat.le_refl _) _
  have HB := hid hb
  clear hb
  by_cases h1 : ne ≤ 25
  · have h1z : (ne : Int) ≤ 25 := by omega
    by_cases h2 : nf ≤ 220
    · have h2z : (nf : Int) ≤ 220 := by omega
      rw [decide_eq_true ⟨h1, h2⟩]
      clear h1 h2
      go_enter Try.func37, Try.ntmps37
      go_wp2
      go_ret
      exact ⟨rfl, HB.out⟩
    · have h2z : ¬ (nf : Int) ≤ 220 := by omega
      rw [decide_eq_false (fun h => h2 h.2)]
      clear h1 h2
      go_enter Try.func37, Try.ntmps37
      go_wp2
      go_ret
      exact ⟨rfl, HB.out⟩
  · have h1z : ¬ (ne : Int) ≤ 25 := by omega
    rw [decide_eq_false (fun h => h1 h.1)]
    clear h1
    go_enter Try.func37, Try.ntmps37
    go_wp2
    go_ret
    exact ⟨rfl, HB.out⟩

set_option maxRecDepth 100000 in
set_option maxHeartbeats 4000000 in
theorem lightTape_calls (s : St) (fa ea ta : Option Addr) (fc ec tc : Nat) (ls : List (List (List Int))) (w : World) (ht : Tks w ta ls) :
    Calls Try.prog 38 #[tapeV s.t s.g0 s.g1 s.nx (.slice fa s.free.length fc) (.slice ea s.es.length ec) (.slice ta ls.length tc)] w fun e w' => ∃ b, e = .returned (.bool b) ∧ (b = true → ls.length ≤ 70 ∧ s.es.length ≤ 25 ∧ s.free.length ≤ 220) ∧ Below w.heap.size w w' := by
  obtain ⟨W, hW⟩ : ∃ W, w.alloc (.cells (tapeC s.t s.g0 s.g1 s.nx (.slice fa s.free.length fc) (.slice ea s.es.length ec) (.slice ta ls.length tc)) 64) = W := ⟨_, rfl⟩
  have hbW : Below w.heap.size w W := by rw [← hW]; exact (Below.refl _ w).alloc (Nat.le_refl _) _
  have hh0 : W.heap[w.heap.size]? = some (.cells (tapeC s.t s.g0 s.g1 s.nx (.slice fa s.free.length fc) (.slice ea s.es.length ec) (.slice ta ls.length tc)) 64) := by rw [← hW]; exact heap_alloc_new _ _
  obtain ⟨x0, x1, x2, x3, x4, x5, x6⟩ := tape_cells hh0
  have HT := hid (ht.below hbW)
  have HBW := hid hbW
  have hwW : w.heap.size ≤ W.heap.size := hbW.size
  clear ht hbW hh0
  by_cases h70 : ls.length ≤ 70
  case neg =>
    have hz : (70 : Int) < (ls.length : Int) := by omega
    go_enter Try.func38, Try.ntmps38
    go_wp2
    go_ret
    exact ⟨false, rfl, (fun h => by cases h), HBW.out⟩
  case pos =>
    have hz : ¬ (70 : Int) < (ls.length : Int) := by omega
    go_enter Try.func38, Try.ntmps38
    go_wp2_with fail
    go_loopw [3] (fun i wr => ∃ k : Nat, k ≤ ls.length ∧ i = .int .i64 k ∧ wr = W) (fun i _ => ls.length - (intOf i).toNat)
    case atStart => exact ⟨0, Nat.zero_le _, rfl, rfl⟩
    case round =>
      obtain ⟨k, hk, rfl, rfl⟩ := hrel
      by_cases hkl : k < ls.length
      · have hkz : (k : Int) < (ls.length : Int) := by omega
        obtain ⟨b, o, la, lc, rfl, hcell, _⟩ := HT.out.at hkl
        generalize ls.getD k [] = l at hcell
        by_cases h12 : l.length ≤ 12
        · have h12z : ¬ (12 : Int) < (l.length : Int) := by omega
          go_wp2
          go_roundw
          case rel => exact ⟨k + 1, by omega, by go_num, trivial⟩
          case measure => simp [intOf]; omega
        · have h12z : (12 : Int) < (l.length : Int) := by omega
          go_wp2
          go_ret
          exact ⟨false, rfl, (fun h => by cases h), HBW.out⟩
      · have hkz : ¬ (k : Int) < (ls.length : Int) := by omega
        go_wp2_with fail
        refine (lightElder_calls _ _ _ _ _ _ _ _ _ _ _).mono ?_
        rintro e w2 ⟨rfl, hb2⟩
        have HB2 : Hid (Below w.heap.size w w2) := HBW.out.trans (hb2.mono hwW)
        clear hb2
        go_wp2
        go_ret
        exact ⟨_, rfl, (fun h => ⟨h70, by rw [Bool.and_eq_true, decide_eq_true_eq, decide_eq_true_eq] at h; exact h⟩), HB2.out⟩
end Go.Proofs.Ytgiieepfhohmhaa

/- ElderSays: a state in memory of its own, with marks behind: OwnElder. -/
namespace Go.Proofs.Ytgiieepfhohmhaa
open Go.RowKit Go.Maps

abbrev mark10 : Array Value := #[.int .i64 77, .int .i64 0, .int .i64 0, .int .i64 0, .int .i64 0, .int .i64 0, .int .i64 0, .int .i64 0, .int .i64 0, .int .i64 0]
def markU : List Int := [77, 0, 0, 0, 0, 0, 0, 0, 0, 0]
section
variable {ops : Array Oper} {o : Oper} {a : Act} {K : Act → World → Prop} {Q : Exit → Act → World → Prop} {E : Prop}
/- The first append, of all; ahead of the mark or behind it. -/
theorem step_own1 (W X : World) (hgd : o.guard = none) (sO xO : Operand) (ho : o.op = .call { callee := .builtin .append, args := #[sO, xO], argTypes := #[58, 58] }) (hs : a.eval sO = .slice none 0 0) (ea : Option Addr) (ec : Nat) (es : List (List Int)) (hxe : a.eval xO = .slice ea es.length ec) (hx : Recs W ea 10 es) (hnil : ea = none → ec = 0) (hl : es.length ≤ 1000) (hb : Below W.heap.size W X)
    (h : ∀ v' w', Row W.heap.size w' v' es → Below X.heap.size X w' → K (a.put o.dst v') w') : if Region.wanted o (yielded ops a.tmps) = true then Oper.wp Try.prog o a X K Q else E := by
  refine step_rows (w := X) hgd sO xO ho W.heap.size (.slice none 0 0) [] hs (World.ownsRow_nil _ _ _ _) ea ec es hxe (hx.below hb) hnil (by simp; omega) hb.size ?_
  intro v' w' h1 h2 _
  rw [List.nil_append] at h1
  exact h v' w' h1 (grown_below h2)
theorem step_own1a (W : World) (hgd : o.guard = none) (sO xO : Operand) (ho : o.op = .call { callee := .builtin .append, args := #[sO, xO], argTypes := #[58, 58] }) (hs : a.eval sO = .slice none 0 0) (ea : Option Addr) (ec : Nat) (es : List (List Int)) (hxe : a.eval xO = .slice ea es.length ec) (hx : Recs W ea 10 es) (hnil : ea = none → ec = 0) (hl : es.length ≤ 1000)
    (h : ∀ v' w', Row W.heap.size w' v' es → Below W.heap.size W w' → Recs w' (some ⟨W.heap.size, 0, none⟩) 10 [markU] → K (a.put o.dst v') w') : if Region.wanted o (yielded ops a.tmps) = true then Oper.wp Try.prog o a (W.alloc (.cells mark10 86)).drew K Q else E := by
  have hb : Below W.heap.size W (W.alloc (.cells mark10 86)).drew := ((Below.refl _ W).alloc (Nat.le_refl _) _).drew
  refine step_own1 W _ hgd sO xO ho hs ea ec es hxe hx hnil hl hb fun v' w' h1 h2 => h v' w' h1 (hb.trans (h2.mono hb.size)) ?_
  have h3 : Recs (W.alloc (.cells mark10 86)).drew (some ⟨W.heap.size, 0, none⟩) 10 [markU] := recs_one W markU _
  exact h3.below h2
theorem step_own1b (W : World) (hgd : o.guard = none) (sO xO : Operand) (ho : o.op = .call { callee := .builtin .append, args := #[sO, xO], argTypes := #[58, 58] }) (hs : a.eval sO = .slice none 0 0) (ea : Option Addr) (ec : Nat) (es : List (List Int)) (hxe : a.eval xO = .slice ea es.length ec) (hx : Recs W ea 10 es) (hnil : ea = none → ec = 0) (hl : es.length ≤ 1000)
    (h : ∀ v' w', Row W.heap.size w' v' es → Below W.heap.size W w' → K (a.put o.dst v') w') : if Region.wanted o (yielded ops a.tmps) = true then Oper.wp Try.prog o a W.drew K Q else E :=
  step_own1 W W.drew hgd sO xO ho hs ea ec es hxe hx hnil hl (Below.refl _ W).drew fun v' w' h1 h2 => h v' w' h1 ⟨h2.os, h2.tape, h2.output, h2.size, h2.block⟩
/- The second append, of the mark. -/
theorem step_own2a (base : Nat) (w5 : World) (q : Nat) (hgd : o.guard = none) (sO xO : Operand) (ho : o.op = .call { callee := .builtin .append, args := #[sO, xO], argTypes := #[58, 58] }) (v : Value) (hs : a.eval sO = v) (es : List (List Int)) (hO : Row base w5 v es) (hxe : a.eval xO = .slice (some ⟨q, 0, none⟩) 1 1) (hx : Recs w5 (some ⟨q, 0, none⟩) 10 [markU]) (hl : es.length ≤ 1000) (hb : base ≤ w5.heap.size)
    (h : ∀ v' w', Row base w' v' (es ++ [markU]) → w5.grownBy w' v.ownBlock → K (a.put o.dst v') w') : if Region.wanted o (yielded ops a.tmps) = true then Oper.wp Try.prog o a w5 K Q else E := by
  refine step_rows (w := w5) hgd sO xO ho base v es hs hO (some ⟨q, 0, none⟩) 1 [markU] hxe hx (fun h => by cases h) (show es.length + 1 ≤ 100000 by omega) hb ?_
  intro v' w' h1 h2 _
  exact h v' w' h1 h2
theorem step_own2b (base : Nat) (w5 : World) (hgd : o.guard = none) (sO xO : Operand) (ho : o.op = .call { callee := .builtin .append, args := #[sO, xO], argTypes := #[58, 58] }) (v : Value) (hs : a.eval sO = v) (es : List (List Int)) (hO : Row base w5 v es) (hxe : a.eval xO = .slice (some ⟨w5.heap.size, 0, none⟩) 1 1) (hl : es.length ≤ 1000) (hb : base ≤ w5.heap.size)
    (h : ∀ v' w', Row base w' v' (es ++ [markU]) → (w5.alloc (.cells mark10 86)).grownBy w' v.ownBlock → K (a.put o.dst v') w') : if Region.wanted o (yielded ops a.tmps) = true then Oper.wp Try.prog o a (w5.alloc (.cells mark10 86)) K Q else E := by
  have hx : Recs (w5.alloc (.cells mark10 86)) (some ⟨w5.heap.size, 0, none⟩) 10 [markU] := recs_one w5 markU _
  exact step_own2a base _ w5.heap.size hgd sO xO ho v hs es (World.ownsRow.alloc hO _) hxe hx hl (by simp [go_sem]; omega) h
end
section
variable {ops : Array Oper} {o : Oper} {a : Act} {K : Act → World → Prop} {Q : Exit → Act → World → Prop} {E : Prop}
/- The first append, of all; ahead of the mark or behind it. -/
theorem step_nown1 (W X : World) (hgd : o.guard = none) (sO xO : Operand) (ho : o.op = .call { callee := .builtin .append, args := #[sO, xO], argTypes := #[57, 57] }) (hs : a.eval sO = .slice none 0 0) (ea : Option Addr) (ec : Nat) (es : List Int) (hxe : a.eval xO = .slice ea es.length ec) (hx : Nums W ea es) (hnil : ea = none → ec = 0) (hl : es.length ≤ 1000) (hb : Below W.heap.size W X)
    (h : ∀ v' w', NRow W.heap.size w' v' es → Below X.heap.size X w' → K (a.put o.dst v') w') : if Region.wanted o (yielded ops a.tmps) = true then Oper.wp Try.prog o a X K Q else E := by
  refine step_nums (w := X) hgd sO xO ho W.heap.size (.slice none 0 0) [] hs (World.ownsRow_nil _ _ _ _) ea ec es hxe (hx.below hb) hnil (by simp; omega) hb.size ?_
  intro v' w' h1 h2 _
  rw [List.nil_append] at h1
  exact h v' w' h1 (grown_below h2)
theorem step_nown1a (W : World) (hgd : o.guard = none) (sO xO : Operand) (ho : o.op = .call { callee := .builtin .append, args := #[sO, xO], argTypes := #[57, 57] }) (hs : a.eval sO = .slice none 0 0) (ea : Option Addr) (ec : Nat) (es : List Int) (hxe : a.eval xO = .slice ea es.length ec) (hx : Nums W ea es) (hnil : ea = none → ec = 0) (hl : es.length ≤ 1000)
    (h : ∀ v' w', NRow W.heap.size w' v' es → Below W.heap.size W w' → Nums w' (some ⟨W.heap.size, 0, none⟩) [77] → K (a.put o.dst v') w') : if Region.wanted o (yielded ops a.tmps) = true then Oper.wp Try.prog o a (W.alloc (.cells #[.int .i64 77] 3)).drew K Q else E := by
  have hb : Below W.heap.size W (W.alloc (.cells #[.int .i64 77] 3)).drew := ((Below.refl _ W).alloc (Nat.le_refl _) _).drew
  refine step_nown1 W _ hgd sO xO ho hs ea ec es hxe hx hnil hl hb fun v' w' h1 h2 => h v' w' h1 (hb.trans (h2.mono hb.size)) ?_
  have h3 : Nums (W.alloc (.cells #[.int .i64 77] 3)).drew (some ⟨W.heap.size, 0, none⟩) [77] := nums_one W 77 _
  exact h3.below h2
theorem step_nown1b (W : World) (hgd : o.guard = none) (sO xO : Operand) (ho : o.op = .call { callee := .builtin .append, args := #[sO, xO], argTypes := #[57, 57] }) (hs : a.eval sO = .slice none 0 0) (ea : Option Addr) (ec : Nat) (es : List Int) (hxe : a.eval xO = .slice ea es.length ec) (hx : Nums W ea es) (hnil : ea = none → ec = 0) (hl : es.length ≤ 1000)
    (h : ∀ v' w', NRow W.heap.size w' v' es → Below W.heap.size W w' → K (a.put o.dst v') w') : if Region.wanted o (yielded ops a.tmps) = true then Oper.wp Try.prog o a W.drew K Q else E :=
  step_nown1 W W.drew hgd sO xO ho hs ea ec es hxe hx hnil hl (Below.refl _ W).drew fun v' w' h1 h2 => h v' w' h1 ⟨h2.os, h2.tape, h2.output, h2.size, h2.block⟩
/- The second append, of the mark. -/
theorem step_nown2a (base : Nat) (w5 : World) (q : Nat) (hgd : o.guard = none) (sO xO : Operand) (ho : o.op = .call { callee := .builtin .append, args := #[sO, xO], argTypes := #[57, 57] }) (v : Value) (hs : a.eval sO = v) (es : List Int) (hO : NRow base w5 v es) (hxe : a.eval xO = .slice (some ⟨q, 0, none⟩) 1 1) (hx : Nums w5 (some ⟨q, 0, none⟩) [77]) (hl : es.length ≤ 1000) (hb : base ≤ w5.heap.size)
    (h : ∀ v' w', NRow base w' v' (es ++ [77]) → w5.grownBy w' v.ownBlock → K (a.put o.dst v') w') : if Region.wanted o (yielded ops a.tmps) = true then Oper.wp Try.prog o a w5 K Q else E := by
  refine step_nums (w := w5) hgd sO xO ho base v es hs hO (some ⟨q, 0, none⟩) 1 [77] hxe hx (fun h => by cases h) (show es.length + 1 ≤ 100000 by omega) hb ?_
  intro v' w' h1 h2 _
  exact h v' w' h1 h2
theorem step_nown2b (base : Nat) (w5 : World) (hgd : o.guard = none) (sO xO : Operand) (ho : o.op = .call { callee := .builtin .append, args := #[sO, xO], argTypes := #[57, 57] }) (v : Value) (hs : a.eval sO = v) (es : List Int) (hO : NRow base w5 v es) (hxe : a.eval xO = .slice (some ⟨w5.heap.size, 0, none⟩) 1 1) (hl : es.length ≤ 1000) (hb : base ≤ w5.heap.size)
    (h : ∀ v' w', NRow base w' v' (es ++ [77]) → (w5.alloc (.cells #[.int .i64 77] 3)).grownBy w' v.ownBlock → K (a.put o.dst v') w') : if Region.wanted o (yielded ops a.tmps) = true then Oper.wp Try.prog o a (w5.alloc (.cells #[.int .i64 77] 3)) K Q else E := by
  have hx : Nums (w5.alloc (.cells #[.int .i64 77] 3)) (some ⟨w5.heap.size, 0, none⟩) [77] := nums_one w5 77 _
  exact step_nown2a base _ w5.heap.size hgd sO xO ho v hs es (World.ownsRow.alloc hO _) hxe hx hl (by simp [go_sem]; omega) h
end
theorem row_front {base : Nat} {w : World} {va : Option Addr} {n vc : Nat} {es : List (List Int)} {u : List Int} (h : Row base w (.slice va n vc) (es ++ [u])) : Recs w va 10 es ∧ es.length ≤ vc ∧ va ≠ none ∧ (∀ b o, va = some ⟨b, o, none⟩ → base ≤ b) := by
  obtain ⟨ea, c, e, hc, hr, hg⟩ := h.open
  cases e
  obtain ⟨g, rfl, hbg, _⟩ := hg (by simp)
  refine ⟨?_, by simp at hc; omega, (fun x => by cases x), fun b o x => by cases x; exact hbg⟩
  rcases hr with x | ⟨b, o, x, hcell⟩
  · simp at x
  · refine Or.inr ⟨b, o, x, fun i hi j hj => ?_⟩
    have h2 := hcell i (by simp; omega) j hj
    have e2 : rec (es ++ [u]) i = rec es i := by
      rw [rec_at (by simp; omega), rec_at hi, List.getElem_append_left hi]
    rw [e2] at h2
    exact h2
theorem nrow_front {base : Nat} {w : World} {va : Option Addr} {n vc : Nat} {zs : List Int} {z : Int} (h : NRow base w (.slice va n vc) (zs ++ [z])) : Nums w va zs ∧ va ≠ none ∧ (∀ b o, va = some ⟨b, o, none⟩ → base ≤ b) := by
  obtain ⟨ea, c, e, hc, hr, hg⟩ := h.open
  cases e
  obtain ⟨g, rfl, hbg, _⟩ := hg (by simp)
  refine ⟨?_, (fun x => by cases x), fun b o x => by cases x; exact hbg⟩
  rcases hr with x | ⟨b, o, x, hcell⟩
  · simp at x
  · refine Or.inr ⟨b, o, x, fun i hi => ?_⟩
    have h2 := hcell i (by simp; omega)
    have e2 : fld (zs ++ [z]) i = fld zs i := by
      unfold fld
      rw [List.getD_eq_getElem?_getD, List.getD_eq_getElem?_getD, List.getElem?_append_left hi]
    rw [e2] at h2
    exact h2
/- What is known behind each of the two. -/
structure OwnE (w : World) (t g0 g1 nx : Int) (fv ev : Value) (X : World) : Prop where
  bx : X.heap[w.heap.size]? = some (.cells (elC t g0 g1 nx fv ev) 60)
  bz : X.heap[w.heap.size + 1]? = some (.cells (elC 0 0 0 0 (.slice none 0 0) (.slice none 0 0)) 60)
  be : Below w.heap.size w X
  sz : w.heap.size + 2 ≤ X.heap.size
theorem OwnE.below {w : World} {t g0 g1 nx : Int} {fv ev : Value} {X Y : World} (h : OwnE w t g0 g1 nx fv ev X) (hb : Below X.heap.size X Y) : OwnE w t g0 g1 nx fv ev Y :=
  ⟨(hb.block _ (by have := h.sz; omega)).trans h.bx, (hb.block _ (by have := h.sz; omega)).trans h.bz, h.be.trans (hb.mono (by have := h.sz; omega)), Nat.le_trans h.sz hb.size⟩
theorem OwnE.grown {w : World} {t g0 g1 nx : Int} {fv ev v : Value} {X Y : World} {base : Nat} {es : List (List Int)} (h : OwnE w t g0 g1 nx fv ev X) (hr : Row base X v es) (hbs : w.heap.size ≤ base) (hg : X.grownBy Y v.ownBlock) : OwnE w t g0 g1 nx fv ev Y := by
  have hs := h.sz
  refine ⟨(hg.block _ (by omega) (fun e => row_ne hr h.bx (by decide) e.symm)).trans h.bx, (hg.block _ (by omega) (fun e => row_ne hr h.bz (by decide) e.symm)).trans h.bz, h.be.grown hg (by omega) (fun k hk => ?_), Nat.le_trans hs hg.size⟩
  have := (World.ownsRow.lt hr k hk).1
  omega
theorem OwnE.grownN {w : World} {t g0 g1 nx : Int} {fv ev v : Value} {X Y : World} {base : Nat} {zs : List Int} (h : OwnE w t g0 g1 nx fv ev X) (hr : NRow base X v zs) (hbs : w.heap.size ≤ base) (hg : X.grownBy Y v.ownBlock) : OwnE w t g0 g1 nx fv ev Y := by
  have hs := h.sz
  refine ⟨(hg.block _ (by omega) (fun e => row_ne hr h.bx (by decide) e.symm)).trans h.bx, (hg.block _ (by omega) (fun e => row_ne hr h.bz (by decide) e.symm)).trans h.bz, h.be.grown hg (by omega) (fun k hk => ?_), Nat.le_trans hs hg.size⟩
  have := (World.ownsRow.lt hr k hk).1
  omega
theorem OwnE.set5 {w : World} {t g0 g1 nx : Int} {fv ev : Value} {X : World} (h : OwnE w t g0 g1 nx fv ev X) (v : Value) : OwnE w t g0 g1 nx fv v (X.setCell ⟨w.heap.size, 5, none⟩ v) :=
  ⟨elder_set5 h.bx v, (heap_setCell_other X ⟨w.heap.size, 5, none⟩ _ v (fun e => by have e' : w.heap.size + 1 = w.heap.size := e; omega)).trans h.bz, h.be.setCell (p := ⟨w.heap.size, 5, none⟩) (Nat.le_refl _) v, by have := h.sz; simpa using this⟩
theorem OwnE.set4 {w : World} {t g0 g1 nx : Int} {fv ev : Value} {X : World} (h : OwnE w t g0 g1 nx fv ev X) (v : Value) : OwnE w t g0 g1 nx v ev (X.setCell ⟨w.heap.size, 4, none⟩ v) :=
  ⟨heap_setCell_same X w.heap.size 4 _ _ v h.bx, (heap_setCell_other X ⟨w.heap.size, 4, none⟩ _ v (fun e => by have e' : w.heap.size + 1 = w.heap.size := e; omega)).trans h.bz, h.be.setCell (p := ⟨w.heap.size, 4, none⟩) (Nat.le_refl _) v, by have := h.sz; simpa using this⟩

theorem own_finE {w w9 : World} {t g0 g1 nx : Int} {fv ev : Value} {base n vc : Nat} {va : Option Addr} {es : List (List Int)} {u : List Int} (h : OwnE w t g0 g1 nx fv ev w9) (hr : Row base w9 (.slice va n vc) (es ++ [u])) (hb : w.heap.size < base) :
    OwnE w t g0 g1 nx fv (.slice va es.length vc) (w9.setCell ⟨w.heap.size, 5, none⟩ (.slice va es.length vc)) ∧ Recs (w9.setCell ⟨w.heap.size, 5, none⟩ (.slice va es.length vc)) va 10 es ∧ es.length ≤ vc ∧ va ≠ none ∧ ∀ b o, va = some ⟨b, o, none⟩ → base ≤ b := by
  have hr2 : Row base (w9.setCell ⟨w.heap.size, 5, none⟩ (.slice va es.length vc)) (.slice va n vc) (es ++ [u]) := row_set hr (fun e => by have := (World.ownsRow.lt hr _ e).1; omega) 5 _
  obtain ⟨a, b, c, d⟩ := row_front hr2
  exact ⟨h.set5 _, a, b, c, d⟩
theorem own_finN {w w9 : World} {t g0 g1 nx : Int} {fv ev : Value} {base n vc : Nat} {va : Option Addr} {zs : List Int} {z : Int} (h : OwnE w t g0 g1 nx fv ev w9) (hr : NRow base w9 (.slice va n vc) (zs ++ [z])) (hb : w.heap.size < base) :
    OwnE w t g0 g1 nx (.slice va zs.length vc) ev (w9.setCell ⟨w.heap.size, 4, none⟩ (.slice va zs.length vc)) ∧ Nums (w9.setCell ⟨w.heap.size, 4, none⟩ (.slice va zs.length vc)) va zs ∧ va ≠ none ∧ ∀ b o, va = some ⟨b, o, none⟩ → base ≤ b := by
  have hr2 : NRow base (w9.setCell ⟨w.heap.size, 4, none⟩ (.slice va zs.length vc)) (.slice va n vc) (zs ++ [z]) := row_set hr (fun e => by have := (World.ownsRow.lt hr _ e).1; omega) 4 _
  obtain ⟨a, c, d⟩ := nrow_front hr2
  exact ⟨h.set4 _, a, c, d⟩
theorem recs_off {w : World} {a : Option Addr} {n b j : Nat} {rs : List (List Int)} {v : Value} (h : Recs w a n rs) (ho : ∀ g o, a = some ⟨g, o, none⟩ → g ≠ b) : Recs (w.setCell ⟨b, j, none⟩ v) a n rs := by
  rcases h with h | ⟨g, o, e, hc⟩
  · exact Or.inl h
  · refine Or.inr ⟨g, o, e, fun i hi q hq => ?_⟩
    rw [← hc i hi q hq]
    unfold World.cell?
    simp only [heap_setCell_other w ⟨b, j, none⟩ g v (fun x => ho g o e x)]
theorem nums_off {w : World} {a : Option Addr} {b j : Nat} {zs : List Int} {v : Value} (h : Nums w a zs) (ho : ∀ g o, a = some ⟨g, o, none⟩ → g ≠ b) : Nums (w.setCell ⟨b, j, none⟩ v) a zs := by
  rcases h with h | ⟨g, o, e, hc⟩
  · exact Or.inl h
  · refine Or.inr ⟨g, o, e, fun i hi => ?_⟩
    rw [← hc i hi]
    unfold World.cell?
    simp only [heap_setCell_other w ⟨b, j, none⟩ g v (fun x => ho g o e x)]

end Go.Proofs.Ytgiieepfhohmhaa

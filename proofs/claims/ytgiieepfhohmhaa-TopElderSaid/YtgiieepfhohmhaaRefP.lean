/- The reference's game: its state, as one of the elder game. -/
import Derived.Test.YtgiieepfhohmhaaOkA
import Derived.Test.YtgiieepfhohmhaaGiA
import Derived.Test.YtgiieepfhohmhaaSt
import Derived.Deep.DeepCutAuto
namespace Go.Proofs.Ytgiieepfhohmhaa
open Go.RowKit Go.Maps

abbrev elC (t g0 g1 nx : Int) (fv ev : Value) : Array Value := #[.int .i64 t, .int .i64 g0, .int .i64 g1, .int .i64 nx, fv, ev]
theorem elder_set5 {w : World} {b : Nat} {t g0 g1 nx : Int} {fv ev : Value} (h : w.heap[b]? = some (.cells (elC t g0 g1 nx fv ev) 60)) (v : Value) : (w.setCell ⟨b, 5, none⟩ v).heap[b]? = some (.cells (elC t g0 g1 nx fv v) 60) := heap_setCell_same w b 5 _ _ v h

theorem wp_putE {ops : Array Oper} {rest : List Oper} {o : Oper} {a : Act} {Q : Exit → Act → World → Prop} (X : World) (hgd : o.guard = none) (sO xO : Operand)
    (ho : o.op = .call { callee := .builtin .append, args := #[sO, xO], argTypes := #[58, 58] }) (base : Nat) (v : Value) (l : List (List Int)) (hs : a.eval sO = v) (hO : Row base X v l) (hb : base ≤ X.heap.size)
    (x : List Int) (hxe : a.eval xO = .slice (some ⟨X.heap.size, 0, none⟩) 1 1) (hl : l.length ≤ 2000)
    (h : ∀ v' w', Row base w' v' (l ++ [x]) → (X.alloc (.cells (entC x) 86)).grownBy w' v.ownBlock → wpList Try.prog ops Q rest (a.put o.dst v') w') : wpList Try.prog ops Q (o :: rest) a (X.alloc (.cells (entC x) 86)) := by
  refine wp_rows _ hgd sO xO ho base v l hs (World.ownsRow.alloc hO _) (some ⟨X.heap.size, 0, none⟩) 1 [x] hxe (recs_one X x _) (fun h => by cases h) (by show l.length + 1 ≤ 100000; omega) (by simp [go_sem]; omega) ?_
  intro v' w' h1 h2 _
  exact h v' w' h1 h2
theorem box_grown {X w9 : World} {b base : Nat} {c : Array Value} {v : Value} {l : List (List Int)} {o : Obj} (hb : X.heap[b]? = some (.cells c 60)) (hO : Row base X v l) (hg : (X.alloc o).grownBy w9 v.ownBlock) : w9.heap[b]? = some (.cells c 60) := by
  have hlt := (Array.getElem?_eq_some_iff.1 hb).1
  exact (hg.block b (by simp [go_sem]; omega) (fun e => row_ne hO hb (by decide) e.symm)).trans ((heap_alloc_old X o hlt).trans hb)

set_option maxRecDepth 100000 in
set_option maxHeartbeats 8000000 in
theorem refElder_calls (base p : Nat) (nw : Bool) (s : St) (uv fv bv : Value) (es : List (List Int)) (w : World) (hG : Gr base w p uv fv bv nw s) (hes : s.es = es.map unitE) (hn : es.length ≤ 1000) :
    Calls Try.prog 93 #[.pointer (some ⟨p, 0, none⟩)] w fun e w' => ∃ ev, e = .returned (elderV s.t s.g0 s.g1 s.nx fv ev) ∧ Row w.heap.size w' ev es ∧ Below w.heap.size w w' := by
  obtain ⟨ua, uc, rfl, hcap, hrecs, _⟩ := hG.er.open
  obtain ⟨fa, fc, rfl, _, _, _⟩ := hG.fr.open
  obtain ⟨W, hW⟩ : ∃ W, w.alloc (.cells (elC 0 0 0 0 (.slice none 0 0) (.slice none 0 0)) 60) = W := ⟨_, rfl⟩
  have hbW : Below w.heap.size w W := by rw [← hW]; exact (Below.refl _ w).alloc (Nat.le_refl _) _
  have hsW : W.heap.size = w.heap.size + 1 := by rw [← hW]; simp [go_sem]
  have hh0 : W.heap[w.heap.size]? = some (.cells (elC 0 0 0 0 (.slice none 0 0) (.slice none 0 0)) 60) := by rw [← hW]; exact heap_alloc_new w _
  have hlen : s.es.length = es.length := by rw [hes, List.length_map]
  have hGW := hG.below hbW
  have hpW := hGW.lt
  have KC : ∀ j w', Below W.heap.size W w' → w'.cell? ⟨p, j, none⟩ = (refC nw s (.slice fa s.free.length fc) (.slice ua s.es.length uc) bv)[j]? := fun j w' h => (hGW.below h).cell j
  have k1 : ∀ w', Below W.heap.size W w' → w'.cell? ⟨p, 1, none⟩ = some (.int .i64 s.t) := KC 1
  have k2 : ∀ w', Below W.heap.size W w' → w'.cell? ⟨p, 2, none⟩ = some (.int .i64 s.g0) := KC 2
  have k3 : ∀ w', Below W.heap.size W w' → w'.cell? ⟨p, 3, none⟩ = some (.int .i64 s.g1) := KC 3
  have k4 : ∀ w', Below W.heap.size W w' → w'.cell? ⟨p, 4, none⟩ = some (.int .i64 s.nx) := KC 4
  have k5 : ∀ w', Below W.heap.size W w' → w'.cell? ⟨p, 5, none⟩ = some (.slice fa s.free.length fc) := KC 5
  have HK6 : Hid (∀ w', Below W.heap.size W w' → w'.cell? ⟨p, 6, none⟩ = some (.slice ua es.length uc)) := fun w' h => by rw [← hlen]; exact KC 6 w' h
  have HRU : Hid (∀ w', Below W.heap.size W w' → Recs w' ua 11 (es.map unitE)) := fun w' h => by rw [← hes]; exact (hrecs.below hbW).below h
  have HBW := hid hbW
  have HSW := hid hsW
  have H0 := hid hh0
  generalize s.t = t at k1 ⊢
  generalize s.g0 = g0 at k2 ⊢
  generalize s.g1 = g1 at k3 ⊢
  generalize s.nx = nx at k4 ⊢
  generalize s.free.length = nf at k5 ⊢
  clear hG hGW KC hrecs hes hbW hh0 hlen hcap hsW
  go_enter Try.func93, Try.ntmps93
  go_wp2_with fail
  go_cut [3] (fun r wx => r = .pointer (some ⟨W.heap.size, 0, none⟩) ∧ Hid (wx.heap[W.heap.size]? = some (.cells (elC t g0 g1 nx (.slice fa nf fc) (.slice none 0 0)) 60) ∧ Below W.heap.size W wx))
  case first =>
    clear hW
    go_region_held3 (fun w' => Below W.heap.size W w') (first | with_reducible exact (Below.refl _ _).drew | exact ((Below.refl _ _).alloc (Nat.le_refl _) _).drew | exact Below.alloc (by assumption) (Below.size (by assumption)) _) (fail)
    all_goals
      go_wp2
      go_meet
      exact ⟨rfl, heap_alloc_new W _, ((Below.refl _ W).alloc (Nat.le_refl _) _).drew⟩
  case rest =>
    obtain ⟨rfl, HM⟩ := hcut
    clear k1 k2 k3 k4 k5 hW
    have HMR : Hid (∃ ev, Row w.heap.size wc ev (es.take 0) ∧ wc.heap[W.heap.size]? = some (.cells (elC t g0 g1 nx (.slice fa nf fc) ev) 60) ∧ Below W.heap.size W wc) := ⟨.slice none 0 0, World.ownsRow_nil _ _ _ _, HM.out.1, HM.out.2⟩
    clear HM
    go_wp2_with fail
    go_loopw [4] (fun i wr => ∃ k : Nat, k ≤ es.length ∧ i = .int .i64 k ∧ Hid (∃ ev, Row w.heap.size wr ev (es.take k) ∧ wr.heap[W.heap.size]? = some (.cells (elC t g0 g1 nx (.slice fa nf fc) ev) 60) ∧ Below W.heap.size W wr)) (fun i _ => es.length - (intOf i).toNat)
    case atStart => exact ⟨0, Nat.zero_le _, rfl, HMR⟩
    case round =>
      clear HMR
      obtain ⟨k, hk, rfl, HMR⟩ := hrel
      obtain ⟨ev, hrow, hbox, hbel⟩ := HMR.out
      obtain ⟨va, vc, rfl, hvc, _, _⟩ := hrow.open
      have hWr : W.heap.size < wr.heap.size := (Array.getElem?_eq_some_iff.1 hbox).1
      have u6 := HK6.out wr hbel
      have hsz := hbel.size
      by_cases hkl : k < es.length
      · have hkz : (k : Int) < (es.length : Int) := by omega
        obtain ⟨b, o, rfl, hc⟩ := (HRU.out wr hbel).at (i := k) (by simpa using hkl)
        have hcc : ∀ j, j < 10 → wr.cell? ⟨b, o + k * 11 + j, none⟩ = some (.int .i64 (fld (rec es k) j)) := fun j hj => by rw [hc j (by omega), frecU es k hj]
        have l0 : wr.cell? ⟨b, o + k * 11, none⟩ = some (.int .i64 (fld (rec es k) 0)) := hcc 0 (by omega)
        have l1 := hcc 1 (by omega)
        have l2 := hcc 2 (by omega)
        have l3 := hcc 3 (by omega)
        have l4 := hcc 4 (by omega)
        have l5 := hcc 5 (by omega)
        have l6 := hcc 6 (by omega)
        have l7 := hcc 7 (by omega)
        have l8 := hcc 8 (by omega)
        have l9 := hcc 9 (by omega)
        have l10 : wr.cell? ⟨b, o + k * 11 + 10, none⟩ = some (.int .i64 0) := by
          rw [hc 10 (by omega), recU hkl]
          rfl
        have HTK : Hid (es.take (k + 1) = es.take k ++ [rec es k]) := take_rec hkl
        have HLT : Hid ((es.take k).length = k) := by show _ = _; rw [List.length_take]; omega
        generalize rec es k = u at l0 l1 l2 l3 l4 l5 l6 l7 l8 l9 HTK
        obtain ⟨X, hX⟩ : ∃ X, wr.alloc (.cells #[.int .i64 (fld u 0), .int .i64 (fld u 1), .int .i64 (fld u 2), .int .i64 (fld u 3), .int .i64 (fld u 4), .int .i64 (fld u 5), .int .i64 (fld u 6), .int .i64 (fld u 7), .int .i64 (fld u 8), .int .i64 (fld u 9), .int .i64 0] 110) = X := ⟨_, rfl⟩
        have hbX : Below wr.heap.size wr X := by rw [← hX]; exact (Below.refl _ _).alloc (Nat.le_refl _) _
        have hxX : X.heap[wr.heap.size]? = some (.cells #[.int .i64 (fld u 0), .int .i64 (fld u 1), .int .i64 (fld u 2), .int .i64 (fld u 3), .int .i64 (fld u 4), .int .i64 (fld u 5), .int .i64 (fld u 6), .int .i64 (fld u 7), .int .i64 (fld u 8), .int .i64 (fld u 9), .int .i64 0] 110) := by rw [← hX]; exact heap_alloc_new _ _
        have hbxX := (hbX.block _ hWr).trans hbox
        have hrX : Row w.heap.size X _ (es.take k) := row_below hrow hbX
        have c5 : X.cell? ⟨W.heap.size, 5, none⟩ = some (.slice va (es.take k).length vc) := cell_of_row X _ 5 _ _ _ hbxX
        have y0 : X.cell? ⟨wr.heap.size, 0, none⟩ = some (.int .i64 (fld u 0)) := cell_of_row X _ 0 _ _ _ hxX
        have y1 : X.cell? ⟨wr.heap.size, 1, none⟩ = some (.int .i64 (fld u 1)) := cell_of_row X _ 1 _ _ _ hxX
        have y2 : X.cell? ⟨wr.heap.size, 2, none⟩ = some (.int .i64 (fld u 2)) := cell_of_row X _ 2 _ _ _ hxX
        have y3 : X.cell? ⟨wr.heap.size, 3, none⟩ = some (.int .i64 (fld u 3)) := cell_of_row X _ 3 _ _ _ hxX
        have y4 : X.cell? ⟨wr.heap.size, 4, none⟩ = some (.int .i64 (fld u 4)) := cell_of_row X _ 4 _ _ _ hxX
        have y5 : X.cell? ⟨wr.heap.size, 5, none⟩ = some (.int .i64 (fld u 5)) := cell_of_row X _ 5 _ _ _ hxX
        have y6 : X.cell? ⟨wr.heap.size, 6, none⟩ = some (.int .i64 (fld u 6)) := cell_of_row X _ 6 _ _ _ hxX
        have y7 : X.cell? ⟨wr.heap.size, 7, none⟩ = some (.int .i64 (fld u 7)) := cell_of_row X _ 7 _ _ _ hxX
        have y8 : X.cell? ⟨wr.heap.size, 8, none⟩ = some (.int .i64 (fld u 8)) := cell_of_row X _ 8 _ _ _ hxX
        have y9 : X.cell? ⟨wr.heap.size, 9, none⟩ = some (.int .i64 (fld u 9)) := cell_of_row X _ 9 _ _ _ hxX
        have HRX := hid hrX
        have HBX := hid hbxX
        have HBL : Hid (Below W.heap.size W X) := hbel.trans (hbX.mono hsz)
        have hXs : wr.heap.size < X.heap.size := (Array.getElem?_eq_some_iff.1 hxX).1
        have hwX : w.heap.size ≤ X.heap.size := by have := HSW.out; omega
        rw [HLT.out] at c5 HRX
        clear hc hcc hbX hxX hbxX hrX hrow hbox hbel HMR hvc
        have HX := hid hX
        clear hX
        go_upto_region 6 with fail
        rw [HX.out]
        clear l0 l1 l2 l3 l4 l5 l6 l7 l8 l9 l10 u6
        go_wp2_with (at_builtin; refine wp_putE X (by rfl) (.tmp 40) (.tmp 62) (by rfl) w.heap.size (.slice va k vc) (es.take k) (by rfl) HRX.out hwX u (by rfl) (by rw [HLT.out]; omega) ?_
                     intro v9 w9 hr9 hg9
                     have hr9' := hr9
                     obtain ⟨va9, vc9, rfl, _, _, _⟩ := hr9'.open
                     have hp9 := box_grown HBX.out HRX.out hg9
                     have f5 := frozen_of_row w9 W.heap.size 5 _ _ hp9
                     have d5 := cell_of_row w9 W.heap.size 5 _ _ _ hp9
                     have HR9 := hid hr9
                     have HG9 := hid hg9
                     have HP9 := hid hp9
                     clear hr9 hr9' hg9 hp9)
        go_roundw
        case rel =>
          have hlen : (es.take k ++ [u]).length = k + 1 := by rw [List.length_append, HLT.out]; rfl
          have hr := HR9.out
          rw [hlen] at hr
          have hX0 := (HBL.out.block w.heap.size (by rw [HSW.out]; omega)).trans H0.out
          refine ⟨k + 1, by omega, by go_num, .slice va9 (k + 1) vc9, ?_, elder_set5 HP9.out _, ?_⟩
          · rw [HTK.out]
            exact row_other hr (fun g hg => heap_setCell_other w9 ⟨W.heap.size, 5, none⟩ g _ (fun e => row_ne hr HP9.out (by decide) (by rw [hg, e])))
          · refine Below.setCell (p := ⟨W.heap.size, 5, none⟩) ?_ (Nat.le_refl _) _
            refine (HBL.out.alloc (by omega) _).grown HG9.out (by simp [go_sem]; omega) (fun q hq => ?_)
            have h1 := (World.ownsRow.lt HRX.out q hq).1
            have h2 : q ≠ w.heap.size := fun e => row_ne HRX.out hX0 (by decide) (by rw [← e]; exact hq)
            rw [HSW.out]
            omega
        case measure => simp [intOf]; omega
      · have hke : k = es.length := by omega
        subst hke
        have hkz : ¬ (es.length : Int) < (es.length : Int) := by omega
        rw [List.take_length] at hrow hbox
        have hq := (hbel.block w.heap.size (by rw [HSW.out]; omega)).trans H0.out
        obtain ⟨b0, b1, b2, b3, b4, b5⟩ := elder_cells hbox
        obtain ⟨q0, q1, q2, q3, q4, q5⟩ := elder_cells hq
        have f0 := fun j => frozen_of_row wr w.heap.size j _ _ hq
        have hne : W.heap.size ≠ w.heap.size := by rw [HSW.out]; omega
        have HROW := hid hrow
        have HQ := hid hq
        have HB9 : Hid (Below w.heap.size w wr) := HBW.out.trans (hbel.mono (by rw [HSW.out]; omega))
        clear hrow hbox hq hbel HMR
        go_wp2
        refine bodyPost_ret (v := elderV t g0 g1 nx (.slice fa nf fc) (.slice va es.length vc)) (by simp [results, Try.results93, go_sem, q0, q1, q2, q3, q4, q5]) rfl ⟨.slice va es.length vc, rfl, ?_, below_six (b := w.heap.size) HB9.out (Nat.le_refl _)⟩
        exact row_other HROW.out (fun g hg => heap_six (b := w.heap.size) (fun e => row_ne HROW.out HQ.out (by decide) (by rw [hg, e])))
end Go.Proofs.Ytgiieepfhohmhaa

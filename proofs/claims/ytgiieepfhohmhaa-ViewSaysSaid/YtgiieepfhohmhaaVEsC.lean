/- ElderSays: a state in memory of its own, with marks behind: OwnElder, the walk. -/
import Derived.Test.YtgiieepfhohmhaaVEsBA
namespace Go.Proofs.Ytgiieepfhohmhaa
open Go.RowKit Go.Maps
set_option maxRecDepth 100000 in
set_option maxHeartbeats 8000000 in
theorem ownElder_calls (t g0 g1 nx : Int) (free : List Int) (fa ea : Option Addr) (fc ec : Nat) (es : List (List Int)) (w : World) (hen : ea = none → ec = 0) (hfn : fa = none → fc = 0) (hne : es.length ≤ 1000) (hnf : free.length ≤ 1000) (hrow : Recs w ea 10 es) (hfr : Nums w fa free) :
    Calls Try.prog 39 #[elderV t g0 g1 nx (.slice fa free.length fc) (.slice ea es.length ec)] w fun e w' => ∃ fa' ea' fc' ec', e = .returned (elderV t g0 g1 nx (.slice fa' free.length fc') (.slice ea' es.length ec')) ∧ Recs w' ea' 10 es ∧ Nums w' fa' free ∧ es.length ≤ ec' ∧ ea' ≠ none ∧ fa' ≠ none ∧ Below w.heap.size w w' := by
  obtain ⟨W, hW⟩ : ∃ W, (w.alloc (.cells (elC t g0 g1 nx (.slice fa free.length fc) (.slice ea es.length ec)) 60)).alloc (.cells (elC 0 0 0 0 (.slice none 0 0) (.slice none 0 0)) 60) = W := ⟨_, rfl⟩
  obtain ⟨hbW, hsW, hh0, hh1⟩ := step_boxes (s := ⟨t, g0, g1, nx, free, es, []⟩) hW
  have HO : Hid (OwnE w t g0 g1 nx (.slice fa free.length fc) (.slice ea es.length ec) W) := ⟨hh0, hh1, hbW, by omega⟩
  have HR := hid (hrow.below hbW)
  have HF := hid hfr
  have c5 : W.cell? ⟨w.heap.size, 5, none⟩ = some (.slice ea es.length ec) := cell_of_row W _ 5 _ _ _ hh0
  have hwW : w.heap.size < W.heap.size := by omega
  have c5W : ∀ o : Obj, (W.alloc o).cell? ⟨w.heap.size, 5, none⟩ = some (.slice ea es.length ec) := fun o => cell_of_row _ _ 5 _ _ _ (HO.out.below ((Below.refl _ W).alloc (Nat.le_refl _) o)).bx
  have HEN := hid hen
  have HFN := hid hfn
  clear hrow hfr hbW hsW hh0 hh1 hen hfn
  go_enter Try.func39, Try.ntmps39
  go_wp2_with fail
  go_cut [] (fun wx => ∃ va vc, Hid (OwnE w t g0 g1 nx (.slice fa free.length fc) (.slice va es.length vc) wx ∧ Recs wx va 10 es ∧ es.length ≤ vc ∧ va ≠ none ∧ (∀ b o, va = some ⟨b, o, none⟩ → W.heap.size ≤ b)))
  case first =>
    clear hW
    go_region_law (first
      | (refine step_own1a W (by rfl) (.const (.slice none 0 0)) (.tmp 4) (by rfl) (by rfl) ea ec es (by rfl) HR.out HEN.out hne ?_; intro v5 w5 h1 h2 h3; have HO5 := hid (HO.out.below h2); have c5' : w5.cell? ⟨w.heap.size, 5, none⟩ = some (.slice ea es.length ec) := cell_of_row w5 _ 5 _ _ _ HO5.out.bx; have HR5 := hid h1; have HM5 := hid h3; have hs5 := h2.size; obtain ⟨va5, vc5, rfl, _, _, _⟩ := h1.open; clear h1 h2 h3)
      | (refine step_own1b W (by rfl) (.const (.slice none 0 0)) (.tmp 4) (by rfl) (by rfl) ea ec es (by rfl) HR.out HEN.out hne ?_; intro v5 w5 h1 h2; have HO5 := hid (HO.out.below h2); have c5' : w5.cell? ⟨w.heap.size, 5, none⟩ = some (.slice ea es.length ec) := cell_of_row w5 _ 5 _ _ _ HO5.out.bx; have HR5 := hid h1; have hs5 := h2.size; have c5a : ∀ o : Obj, (w5.alloc o).cell? ⟨w.heap.size, 5, none⟩ = some (.slice ea es.length ec) := (fun o => cell_of_row _ _ 5 _ _ _ (HO5.out.below ((Below.refl _ w5).alloc (Nat.le_refl _) o)).bx); obtain ⟨va5, vc5, rfl, _, _, _⟩ := h1.open; clear h1 h2)
      | (refine step_own2a W.heap.size w5 W.heap.size (by rfl) (.tmp 5) (.tmp 7) (by rfl) (.slice va5 es.length vc5) (by rfl) es HR5.out (by rfl) HM5.out hne hs5 ?_; intro v9 w9 h1 h2; have HO9 := hid (HO5.out.grown HR5.out (Nat.le_of_lt hwW) h2); have c9 : w9.cell? ⟨w.heap.size, 5, none⟩ = some (.slice ea es.length ec) := cell_of_row w9 _ 5 _ _ _ HO9.out.bx; have f9 := frozen_of_row w9 w.heap.size 5 _ _ HO9.out.bx; have HR9 := hid h1; have h1' := h1; obtain ⟨va9, vc9, rfl, hcap, _, _⟩ := h1'.open; have hcz : (es.length : Int) ≤ (vc9 : Int) := (by simp at hcap; omega); clear h1 h1' h2 hcap)
      | (refine step_own2b W.heap.size w5 (by rfl) (.tmp 5) (.tmp 7) (by rfl) (.slice va5 es.length vc5) (by rfl) es HR5.out (by rfl) hne hs5 ?_; intro v9 w9 h1 h2; have HO9 := hid ((HO5.out.below ((Below.refl _ w5).alloc (Nat.le_refl _) (.cells mark10 86))).grown (World.ownsRow.alloc HR5.out _) (Nat.le_of_lt hwW) h2); have c9 : w9.cell? ⟨w.heap.size, 5, none⟩ = some (.slice ea es.length ec) := cell_of_row w9 _ 5 _ _ _ HO9.out.bx; have f9 := frozen_of_row w9 w.heap.size 5 _ _ HO9.out.bx; have HR9 := hid h1; have h1' := h1; obtain ⟨va9, vc9, rfl, hcap, _, _⟩ := h1'.open; have hcz : (es.length : Int) ≤ (vc9 : Int) := (by simp at hcap; omega); clear h1 h1' h2 hcap))
    all_goals
      go_wp2
      go_meet
      exact ⟨va9, vc9, own_finE HO9.out HR9.out hwW⟩
  case rest =>
    obtain ⟨va, vc, HM⟩ := hcut
    obtain ⟨V, hV⟩ : ∃ V, V = wc := ⟨_, rfl⟩
    subst hV
    have HOV := hid HM.out.1
    have HN := hid (HF.out.below HOV.out.be)
    have c4 : V.cell? ⟨w.heap.size, 4, none⟩ = some (.slice fa free.length fc) := cell_of_row V _ 4 _ _ _ HOV.out.bx
    have hwV : w.heap.size < V.heap.size := by have := HOV.out.sz; omega
    have c4V : ∀ o : Obj, (V.alloc o).cell? ⟨w.heap.size, 4, none⟩ = some (.slice fa free.length fc) := fun o => cell_of_row _ _ 4 _ _ _ (HOV.out.below ((Below.refl _ V).alloc (Nat.le_refl _) o)).bx
    clear c5 c5W hW HR HF
    go_wp2_with fail
    go_cut [] (fun wx => ∃ ua uc, Hid (OwnE w t g0 g1 nx (.slice ua free.length uc) (.slice va es.length vc) wx ∧ Nums wx ua free ∧ ua ≠ none ∧ (∀ b o, ua = some ⟨b, o, none⟩ → V.heap.size ≤ b) ∧ Recs wx va 10 es))
    case first =>
      go_region_law (first
        | (refine step_nown1a V (by rfl) (.const (.slice none 0 0)) (.tmp 15) (by rfl) (by rfl) fa fc free (by rfl) HN.out HFN.out hnf ?_; intro v5 w5 h1 h2 h3; have HO5 := hid (HOV.out.below h2); have c5' : w5.cell? ⟨w.heap.size, 4, none⟩ = some (.slice fa free.length fc) := cell_of_row w5 _ 4 _ _ _ HO5.out.bx; have HR5 := hid h1; have HB5 := hid h2; have HM5 := hid h3; have hs5 := h2.size; obtain ⟨va5, vc5, rfl, _, _, _⟩ := h1.open; clear h1 h2 h3)
        | (refine step_nown1b V (by rfl) (.const (.slice none 0 0)) (.tmp 15) (by rfl) (by rfl) fa fc free (by rfl) HN.out HFN.out hnf ?_; intro v5 w5 h1 h2; have HO5 := hid (HOV.out.below h2); have c5' : w5.cell? ⟨w.heap.size, 4, none⟩ = some (.slice fa free.length fc) := cell_of_row w5 _ 4 _ _ _ HO5.out.bx; have HR5 := hid h1; have HB5 := hid h2; have hs5 := h2.size; have c5a : ∀ o : Obj, (w5.alloc o).cell? ⟨w.heap.size, 4, none⟩ = some (.slice fa free.length fc) := (fun o => cell_of_row _ _ 4 _ _ _ (HO5.out.below ((Below.refl _ w5).alloc (Nat.le_refl _) o)).bx); obtain ⟨va5, vc5, rfl, _, _, _⟩ := h1.open; clear h1 h2)
        | (refine step_nown2a V.heap.size w5 V.heap.size (by rfl) (.tmp 16) (.tmp 17) (by rfl) (.slice va5 free.length vc5) (by rfl) free HR5.out (by rfl) HM5.out hnf hs5 ?_; intro v9 w9 h1 h2; have HB9 : Hid (Below V.heap.size V w9) := HB5.out.grown h2 hs5 (fun k hk => (World.ownsRow.lt HR5.out k hk).1); have HO9 := hid (HO5.out.grownN HR5.out (Nat.le_of_lt hwV) h2); have c9 : w9.cell? ⟨w.heap.size, 4, none⟩ = some (.slice fa free.length fc) := cell_of_row w9 _ 4 _ _ _ HO9.out.bx; have f9 := frozen_of_row w9 w.heap.size 4 _ _ HO9.out.bx; have HR9 := hid h1; have h1' := h1; obtain ⟨va9, vc9, rfl, hcap, _, _⟩ := h1'.open; have hcz : (free.length : Int) ≤ (vc9 : Int) := (by simp at hcap; omega); clear h1 h1' h2 hcap)
        | (refine step_nown2b V.heap.size w5 (by rfl) (.tmp 16) (.tmp 17) (by rfl) (.slice va5 free.length vc5) (by rfl) free HR5.out (by rfl) hnf hs5 ?_; intro v9 w9 h1 h2; have HB9 : Hid (Below V.heap.size V w9) := (HB5.out.alloc hs5 _).grown h2 (Nat.le_trans hs5 (by simp [go_sem])) (fun k hk => (World.ownsRow.lt HR5.out k hk).1); have HO9 := hid ((HO5.out.below ((Below.refl _ w5).alloc (Nat.le_refl _) (.cells #[.int .i64 77] 3))).grownN (World.ownsRow.alloc HR5.out _) (Nat.le_of_lt hwV) h2); have c9 : w9.cell? ⟨w.heap.size, 4, none⟩ = some (.slice fa free.length fc) := cell_of_row w9 _ 4 _ _ _ HO9.out.bx; have f9 := frozen_of_row w9 w.heap.size 4 _ _ HO9.out.bx; have HR9 := hid h1; have h1' := h1; obtain ⟨va9, vc9, rfl, hcap, _, _⟩ := h1'.open; have hcz : (free.length : Int) ≤ (vc9 : Int) := (by simp at hcap; omega); clear h1 h1' h2 hcap))
      all_goals
        go_wp2
        go_meet
        obtain ⟨n1, n2, n3, n4⟩ := own_finN HO9.out HR9.out hwV
        refine ⟨va9, vc9, n1, n2, n3, n4, recs_off (HM.out.2.1.below HB9.out) (fun g o e => ?_)⟩
        have := HM.out.2.2.2.2 g o e
        omega
    case rest =>
      obtain ⟨ua, uc, HM2⟩ := hcut
      obtain ⟨x0, x1, x2, x3, x4, x5⟩ := elder_cells HM2.out.1.bx
      obtain ⟨q0, q1, q2, q3, q4, q5⟩ := elder_cells HM2.out.1.bz
      have f0 := fun j => frozen_of_row wc (w.heap.size + 1) j _ _ HM2.out.1.bz
      clear c4 c4V
      go_wp2
      refine bodyPost_ret (v := elderV t g0 g1 nx (.slice ua free.length uc) (.slice va es.length vc)) (by simp [results, Try.results39, go_sem, q0, q1, q2, q3, q4, q5]) rfl ⟨ua, va, uc, vc, rfl, ?_, ?_, HM.out.2.2.1, HM.out.2.2.2.1, HM2.out.2.2.1, below_six (b := w.heap.size + 1) HM2.out.1.be (Nat.le_succ _)⟩
      · have hn : ∀ g o, va = some ⟨g, o, none⟩ → g ≠ w.heap.size + 1 := fun g o e => by have := HM.out.2.2.2.2 g o e; have := HO.out.sz; omega
        exact recs_off (recs_off (recs_off (recs_off (recs_off (recs_off HM2.out.2.2.2.2 hn) hn) hn) hn) hn) hn
      · have hn : ∀ g o, ua = some ⟨g, o, none⟩ → g ≠ w.heap.size + 1 := fun g o e => by have := HM2.out.2.2.2.1 g o e; have := HOV.out.sz; omega
        exact nums_off (nums_off (nums_off (nums_off (nums_off (nums_off HM2.out.2.1 hn) hn) hn) hn) hn) hn
end Go.Proofs.Ytgiieepfhohmhaa

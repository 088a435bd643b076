/- Package view: the view of an elder state. -/
import Derived.Test.YtgiieepfhohmhaaVRgU
import Derived.Test.YtgiieepfhohmhaaVVwW
import Derived.Test.YtgiieepfhohmhaaVEsD
namespace Go.Proofs.Ytgiieepfhohmhaa
open Go.RowKit Go.Maps
def VwA (t g0 g1 : Int) (es : List (List Int)) (w : World) (e : Ending) (w' : World) : Prop :=
  ∃ va vc, ∃ d : Array (List Int), e = .returned (.tuple #[viewV t g0 g1 (.slice va es.length vc), .nilIface]) ∧ Sort.PermIn 0 (es.map (sawP es)).toArray.size (es.map (sawP es)).toArray d ∧ Sort.SortedIn (ltOf rowsZ) 0 (es.map (sawP es)).toArray.size d ∧ Recs w' va 10 d.toList ∧ Below w.heap.size w w'
set_option maxRecDepth 100000 in
set_option maxHeartbeats 4000000 in
theorem viewElder_good {ρ : Go.Shelf.Ren} (Ly : SlLaysF0.n6 Try.prog ρ) (h6 : ρ.f 6 = 169) (h24 : ρ.t 24 = 171)
    (HN0 : Hid (∀ w, Calls Try.prog 169 #[.slice none 0 0, .func (.func 170) #[] #[]] w fun e w' => e = .returned (.tuple #[]) ∧ w' = w))
    (s : St) (fa ea : Option Addr) (fc ec : Nat) (w : World) (h : InE w s fa ea fc ec) (hc : checkE s.t s.g0 s.g1 s.nx s.free s.es = 0) :
    Calls Try.prog 61 #[elderV s.t s.g0 s.g1 s.nx (.slice fa s.free.length fc) (.slice ea s.es.length ec)] w (VwA s.t s.g0 s.g1 s.es w) := by
  obtain ⟨W, hW⟩ : ∃ W, (w.alloc (.cells (elC s.t s.g0 s.g1 s.nx (.slice fa s.free.length fc) (.slice ea s.es.length ec)) 60)).alloc (.cells (viewC 0 0 0 (.slice none 0 0)) 115) = W := ⟨_, rfl⟩
  have hbW : Below w.heap.size w W := by rw [← hW]; exact ((Below.refl _ w).alloc (Nat.le_refl _) _).alloc (by simp [go_sem]) _
  have hsW : W.heap.size = w.heap.size + 2 := by rw [← hW]; simp [go_sem]
  have hh0 : W.heap[w.heap.size]? = some (.cells (elC s.t s.g0 s.g1 s.nx (.slice fa s.free.length fc) (.slice ea s.es.length ec)) 60) := by
    rw [← hW, heap_alloc_old _ _ (by simp [go_sem])]
    exact heap_alloc_new w _
  have hh1 : W.heap[w.heap.size + 1]? = some (.cells (viewC 0 0 0 (.slice none 0 0)) 115) := by
    have e : w.heap.size + 1 = (w.alloc (.cells (elC s.t s.g0 s.g1 s.nx (.slice fa s.free.length fc) (.slice ea s.es.length ec)) 60)).heap.size := by simp [go_sem]
    rw [← hW, e]
    exact heap_alloc_new _ _
  obtain ⟨x0, x1, x2, x3, x4, x5⟩ := elder_cells hh0
  have hin := h.below hbW
  have hI := inv_of_check hc
  have hel := hI.el
  have HC := hid (check_calls s.t s.g0 s.g1 s.nx s.free fa ea fc ec s.es W h.cap hin.rows hin.nums h.wf)
  have HBW := hid hbW
  have HSW := hid hsW
  have H0 := hid hh0
  have H1 := hid hh1
  have HIN := hid hin
  rw [hc, errV_zero] at HC
  clear h hin hbW hsW hh0 hh1 hc hI
  go_enter Try.func61, Try.ntmps61
  go_wp2_with fail
  refine HC.out.mono ?_
  rintro e w2 ⟨rfl, hb2⟩
  have h02 := (hb2.block w.heap.size (by rw [HSW.out]; omega)).trans H0.out
  have h12 := (hb2.block (w.heap.size + 1) (by rw [HSW.out]; omega)).trans H1.out
  have hl2 : w.heap.size < w2.heap.size := (Array.getElem?_eq_some_iff.1 h02).1
  have r0 : ∀ w' : World, w'.heap[w.heap.size]? = some (.cells (elC s.t s.g0 s.g1 s.nx (.slice fa s.free.length fc) (.slice ea s.es.length ec)) 60) → w'.cell? ⟨w.heap.size, 0, none⟩ = some (.int .i64 s.t) := fun w' h => (elder_cells h).1
  have r1 : ∀ w' : World, w'.heap[w.heap.size]? = some (.cells (elC s.t s.g0 s.g1 s.nx (.slice fa s.free.length fc) (.slice ea s.es.length ec)) 60) → w'.cell? ⟨w.heap.size, 1, none⟩ = some (.int .i64 s.g0) := fun w' h => (elder_cells h).2.1
  have r2 : ∀ w' : World, w'.heap[w.heap.size]? = some (.cells (elC s.t s.g0 s.g1 s.nx (.slice fa s.free.length fc) (.slice ea s.es.length ec)) 60) → w'.cell? ⟨w.heap.size, 2, none⟩ = some (.int .i64 s.g1) := fun w' h => (elder_cells h).2.2.1
  have r5 : ∀ w' : World, w'.heap[w.heap.size]? = some (.cells (elC s.t s.g0 s.g1 s.nx (.slice fa s.free.length fc) (.slice ea s.es.length ec)) 60) → w'.cell? ⟨w.heap.size, 5, none⟩ = some (.slice ea s.es.length ec) := fun w' h => (elder_cells h).2.2.2.2.2
  have H02 := hid h02
  have HA : Hid (∀ wx, Below w2.heap.size w2 wx → Calls Try.prog 114 #[.slice ea s.es.length ec] wx (AllA s.es wx)) := fun wx hx => all_calls Ly h6 h24 HN0 s.es ea ec wx ((HIN.out.below hb2).below hx).rows (by omega)
  have HB2 : Hid (Below w.heap.size w w2) := HBW.out.trans (hb2.mono (by rw [HSW.out]; omega))
  have H12 := hid h12
  clear HC hb2 h02 h12 x0 x1 x2 x3 x4 x5 hW
  go_wp2_with fail
  refine wp_region_noPanic ?_
  refine wp_region_till (S := fun w' : World => w'.heap[w.heap.size]? = some (.cells (elC s.t s.g0 s.g1 s.nx (.slice fa s.free.length fc) (.slice ea s.es.length ec)) 60)) 9 (by kernel_rfl) H02.out (fun hHeld => ?_)
  refine wpTill_take (i := 0) [0, 1, 7, 8, 9] (v := ?_) rfl (by kernel_rfl) (by kernel_rfl) (by kernel_rfl) (by kernel_rfl) (fun _ _ _ h => h) (Or.inl ⟨by rfl, ?_⟩) (by assumption) ?_
  rotate_left
  · intro w' hSw
    go_simp
    all_goals with_reducible rfl
  simp only [Act.put]
  refine wpTill_take (i := 1) [1, 7, 8, 9] (v := ?_) rfl (by kernel_rfl) (by kernel_rfl) (by kernel_rfl) (by kernel_rfl) (fun _ _ _ h => h) (Or.inl ⟨by rfl, ?_⟩) (by assumption) ?_
  rotate_left
  · intro w' hSw
    go_simp
    all_goals with_reducible rfl
  simp only [Act.put]
  refine wpTill_take (i := 2) [2, 3, 7, 8, 9] (v := ?_) rfl (by kernel_rfl) (by kernel_rfl) (by kernel_rfl) (by kernel_rfl) (fun _ _ _ h => h) (Or.inl ⟨by rfl, ?_⟩) (by assumption) ?_
  rotate_left
  · intro w' hSw
    go_simp
    all_goals with_reducible rfl
  simp only [Act.put]
  refine wpTill_take (i := 3) [3, 7, 8, 9] (v := ?_) rfl (by kernel_rfl) (by kernel_rfl) (by kernel_rfl) (by kernel_rfl) (fun _ _ _ h => h) (Or.inl ⟨by rfl, ?_⟩) (by assumption) ?_
  rotate_left
  · intro w' hSw
    go_simp
    all_goals with_reducible rfl
  simp only [Act.put]
  refine wpTill_take (i := 4) [4, 5, 6, 7, 8, 9] (v := ?_) rfl (by kernel_rfl) (by kernel_rfl) (by kernel_rfl) (by kernel_rfl) (fun _ _ _ h => h) (Or.inl ⟨by rfl, ?_⟩) (by assumption) ?_
  rotate_left
  · intro w' hSw
    go_simp
    all_goals with_reducible rfl
  simp only [Act.put]
  refine wpTill_take (i := 5) [5, 6, 7, 8, 9] (v := ?_) rfl (by kernel_rfl) (by kernel_rfl) (by kernel_rfl) (by kernel_rfl) (fun _ _ _ h => h) (Or.inl ⟨by rfl, ?_⟩) (by assumption) ?_
  rotate_left
  · intro w' hSw
    go_simp
    all_goals with_reducible rfl
  simp only [Act.put]
  refine wpTill_one (i := 6) (by kernel_rfl) rfl (fun K hK => ?_)
  go_simp
  have hD : Below w2.heap.size w2 w2.drew := (Below.refl _ _).drew
  refine (HA.out _ hD).mono ?_
  rintro e w5 ⟨va, vc, d, rfl, hp, hs, hrec, hb5, hfr⟩
  have hB5 : Below w2.heap.size w2 w5 := hD.trans (hb5.mono hD.size)
  have hq := (hB5.block (w.heap.size + 1) (Array.getElem?_eq_some_iff.1 H12.out).1).trans H12.out
  obtain ⟨q0, q1, q2, q3, qf⟩ := four_cells hq
  have HRC : Hid (Recs w5 va 10 d.toList) := hrec
  have HPP : Hid (Sort.PermIn 0 (s.es.map (sawP s.es)).toArray.size (s.es.map (sawP s.es)).toArray d ∧ Sort.SortedIn (ltOf rowsZ) 0 (s.es.map (sawP s.es)).toArray.size d) := ⟨hp, hs⟩
  have HNB : Hid (∀ b o, va = some ⟨b, o, none⟩ → b ≠ w.heap.size + 1) := fun b o h => by
    have h1 := hfr b o h
    have h2 := hD.size
    have h3 := (Array.getElem?_eq_some_iff.1 H12.out).1
    omega
  have HB5 : Hid (Below w.heap.size w w5) := HB2.out.trans (hB5.mono (by omega))
  have HH5 : Hid (w5.heap[w.heap.size]? = some (.cells (elC s.t s.g0 s.g1 s.nx (.slice fa s.free.length fc) (.slice ea s.es.length ec)) 60)) := (hB5.block w.heap.size hl2).trans H02.out
  clear hp hs hrec hb5 hfr hB5 hq r0 r1 r2 r5 HA hHeld hD
  go_wp2_with fail
  refine hK.out _ _ (fun _ => HH5.out) ?_
  clear hK K
  refine wpTill_one (i := 7) (by kernel_rfl) rfl (fun K hK => ?_)
  go_simp
  refine hK.out _ _ (fun _ => HH5.out) ?_
  clear hK K
  refine wpTill_one (i := 8) (by kernel_rfl) rfl (fun K hK => ?_)
  go_simp
  have hoth : ∀ j, (⟨w.heap.size + 1, j, none⟩ : Addr).block ≠ w.heap.size := fun j h => by
    have h' : w.heap.size + 1 = w.heap.size := h
    omega
  refine hK.out _ _ (fun _ => (heap_setCell_other _ _ _ _ (fun h => hoth 3 h.symm)).trans ((heap_setCell_other _ _ _ _ (fun h => hoth 2 h.symm)).trans ((heap_setCell_other _ _ _ _ (fun h => hoth 1 h.symm)).trans ((heap_setCell_other _ _ _ _ (fun h => hoth 0 h.symm)).trans HH5.out)))) ?_
  clear hK K hoth
  refine wpTill_one (i := 9) (by kernel_rfl) rfl (fun K hK => ?_)
  go_simp
  refine hK.out _ _ (fun h => absurd rfl h) ?_
  clear hK K
  refine wpTill_done (by kernel_rfl) ?_ _
  refine NoPanic.normal ?_
  go_wp2
  refine bodyPost_ret (v := .tuple #[viewV s.t s.g0 s.g1 (.slice va s.es.length vc), .nilIface]) (by simp [results, Try.results61, go_sem, q0, q1, q2, q3]) rfl ⟨va, vc, d, rfl, HPP.out.1, HPP.out.2, ?_, ?_⟩
  · exact recs_off (recs_off (recs_off (recs_off HRC.out HNB.out) HNB.out) HNB.out) HNB.out
  · exact (((HB5.out.setCell (p := ⟨w.heap.size + 1, 0, none⟩) (Nat.le_succ _) _).setCell (p := ⟨w.heap.size + 1, 1, none⟩) (Nat.le_succ _) _).setCell (p := ⟨w.heap.size + 1, 2, none⟩) (Nat.le_succ _) _).setCell (p := ⟨w.heap.size + 1, 3, none⟩) (Nat.le_succ _) _
end Go.Proofs.Ytgiieepfhohmhaa

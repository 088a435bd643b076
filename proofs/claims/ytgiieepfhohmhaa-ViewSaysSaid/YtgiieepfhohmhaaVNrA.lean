/- The reference's game: a state of the newer game as a game, and back. -/
import Derived.BigQuiet
import Derived.Deep.DeepCutAuto
import Derived.Test.YtgiieepfhohmhaaVRefO
import Derived.Test.YtgiieepfhohmhaaVNwF
import Derived.Test.YtgiieepfhohmhaaVRefQ
import Derived.Test.YtgiieepfhohmhaaVNwC
import Derived.Test.YtgiieepfhohmhaaVInN
import Derived.Test.YtgiieepfhohmhaaVEsBA
import Derived.Test.YtgiieepfhohmhaaVEsRA
import Derived.Test.YtgiieepfhohmhaaVRgU
import Derived.Test.YtgiieepfhohmhaaVEsNC
namespace Go.Proofs.Ytgiieepfhohmhaa
open Go.RowKit Go.Maps
theorem Gr.newN (w : World) (t g0 g1 nx : Int) (base : Nat) (hb : base ≤ w.heap.size) : Gr base (w.alloc (.cells (refC true (st0 t g0 g1 nx [] []) nilV nilV nilV) 147)) w.heap.size nilV nilV nilV true (st0 t g0 g1 nx [] []) :=
  ⟨heap_alloc_new w _, World.ownsRow_nil _ _ _ _, World.ownsRow_nil _ _ _ _, World.ownsRow_nil _ _ _ _, hb, Or.inl rfl⟩
set_option maxRecDepth 100000 in
set_option maxHeartbeats 8000000 in
theorem ofNewer_calls (t g0 g1 nx : Int) (ua : Option Addr) (uc : Nat) (us : List (List Int)) (w : World) (hnu : us.length ≤ 1000) (hrow : Recs w ua 11 us) (hun : ua = none → uc = 0) :
    Calls Try.prog 55 #[newerV t g0 g1 nx (.slice ua us.length uc)] w fun e w' => ∃ p, e = .returned (.pointer (some ⟨p, 0, none⟩)) ∧ GrE w.heap.size w' p true (st0 t g0 g1 nx [] us) ∧ Below w.heap.size w w' := by
  obtain ⟨W, hW⟩ : ∃ W, (w.alloc (.cells (newerC t g0 g1 nx (.slice ua us.length uc)) 90)).alloc (.cells #[.bool true, .int .i64 t, .int .i64 g0, .int .i64 g1, .int .i64 nx, .slice none 0 0, .slice none 0 0, .slice none 0 0] 147) = W := ⟨_, rfl⟩
  have hbW : Below w.heap.size w W := by
    rw [← hW]
    exact ((Below.refl _ w).alloc (Nat.le_refl _) _).alloc (by simp [go_sem]) _
  have hsW : W.heap.size = w.heap.size + 2 := by rw [← hW]; simp [go_sem]
  have HGW : Hid (Gr w.heap.size W (w.heap.size + 1) nilV nilV nilV true (st0 t g0 g1 nx [] [])) := by
    have h := Gr.newN (w.alloc (.cells (newerC t g0 g1 nx (.slice ua us.length uc)) 90)) t g0 g1 nx w.heap.size (by simp [go_sem])
    have hW' : (w.alloc (.cells (newerC t g0 g1 nx (.slice ua us.length uc)) 90)).alloc (.cells (refC true (st0 t g0 g1 nx [] []) nilV nilV nilV) 147) = W := hW
    rw [hW'] at h
    have e : (w.alloc (.cells (newerC t g0 g1 nx (.slice ua us.length uc)) 90)).heap.size = w.heap.size + 1 := by simp [go_sem]
    rw [e] at h
    exact h
  have hbx : W.heap[w.heap.size]? = some (.cells (newerC t g0 g1 nx (.slice ua us.length uc)) 90) := by
    rw [← hW, heap_alloc_old _ _ (by simp [go_sem])]
    exact heap_alloc_new w _
  have b4 : W.cell? ⟨w.heap.size, 4, none⟩ = some (.slice ua us.length uc) := cell_of_row W _ 4 _ _ _ hbx
  have g6 : W.cell? ⟨w.heap.size + 1, 6, none⟩ = some nilV := HGW.out.cell 6
  have gf6 : W.frozen? ⟨w.heap.size + 1, 6, none⟩ = false := HGW.out.frozen 6
  have HRW := hid (hrow.below hbW)
  have HBW := hid hbW
  have HUN := hid hun
  clear hrow hbx hbW hun
  go_enter Try.func55, Try.ntmps55
  go_wp2_with fail
  go_region_law (refine step_rowsU rfl (.tmp 16) (.tmp 18) rfl w.heap.size nilV [] (by simp [Act.eval]) (World.ownsRow_nil _ _ _ _) ua uc us (by simp [Act.eval]) HRW.out HUN.out (by show 0 + us.length ≤ 100000; omega) (by simp [go_sem]; omega) ?_
                 intro v' w' hr hg hl
                 rw [List.nil_append] at hr
                 have hr' := hr
                 obtain ⟨va, vc, rfl, _, _, _⟩ := hr'.open
                 have hb' : Below W.heap.size W w' := (Below.refl _ W).grown ⟨hg.os, hg.tape, hg.output, hg.size, hg.block⟩ (Nat.le_refl _) (fun k hk => by cases hk)
                 have d6 : w'.cell? ⟨w.heap.size + 1, 6, none⟩ = some nilV := (HGW.out.below hb').cell 6
                 have f6 : w'.frozen? ⟨w.heap.size + 1, 6, none⟩ = false := (HGW.out.below hb').frozen 6
                 have HR' := hid hr
                 have HB' := hid hb'
                 have HG' : Hid (W.grownBy w' nilV.ownBlock) := ⟨hg.os, hg.tape, hg.output, hg.size, hg.block⟩
                 clear hr hr' hg hl hb')
  all_goals
    go_wp2
    go_ret
    exact ⟨_, rfl, ⟨_, _, _, Gr.grewU HGW.out HR'.out HG'.out⟩, (HBW.out.trans (HB'.out.mono (by rw [hsW]; omega))).setCell (p := ⟨w.heap.size + 1, 6, none⟩) (Nat.le_succ _) _⟩
end Go.Proofs.Ytgiieepfhohmhaa
namespace Go.Proofs.Ytgiieepfhohmhaa
open Go.RowKit Go.Maps
theorem st0_N {s : St} (hf : s.free = []) (hb : s.born = []) : st0 s.t s.g0 s.g1 s.nx [] s.es = s := by
  cases s
  simp only at hf hb
  subst hf hb
  rfl
end Go.Proofs.Ytgiieepfhohmhaa
namespace Go.Proofs.Ytgiieepfhohmhaa
open Go.RowKit Go.Maps
theorem newer_held {Y : World} {b : Nat} {a0 a1 a2 a3 a4 : Value} (h : Y.heap[b]? = some (.cells #[a0, a1, a2, a3, a4] 90)) :
    (∀ w', Below Y.heap.size Y w' → w'.cell? ⟨b, 0, none⟩ = some a0) ∧ (∀ w', Below Y.heap.size Y w' → w'.cell? ⟨b, 1, none⟩ = some a1) ∧ (∀ w', Below Y.heap.size Y w' → w'.cell? ⟨b, 2, none⟩ = some a2) ∧ (∀ w', Below Y.heap.size Y w' → w'.cell? ⟨b, 3, none⟩ = some a3) ∧ (∀ w', Below Y.heap.size Y w' → w'.cell? ⟨b, 4, none⟩ = some a4) := by
  have k : ∀ w', Below Y.heap.size Y w' → w'.heap[b]? = some (.cells #[a0, a1, a2, a3, a4] 90) := fun w' hb => (hb.block b (Array.getElem?_eq_some_iff.1 h).1).trans h
  exact ⟨fun w' hb => (five_cells (k w' hb)).1, fun w' hb => (five_cells (k w' hb)).2.1, fun w' hb => (five_cells (k w' hb)).2.2.1, fun w' hb => (five_cells (k w' hb)).2.2.2.1, fun w' hb => (five_cells (k w' hb)).2.2.2.2.1⟩
end Go.Proofs.Ytgiieepfhohmhaa

/- The program: a play of the elder game. -/
import Derived.Test.YtgiieepfhohmhabTPlyAA
namespace Go.Proofs.Ytgiieepfhohmhab
open Go.RowKit Go.Maps
abbrev tapeC (t g0 g1 nx : Int) (fv ev tv : Value) : Array Value := #[.int .i64 t, .int .i64 g0, .int .i64 g1, .int .i64 nx, fv, ev, tv]
abbrev tapeV (t g0 g1 nx : Int) (fv ev tv : Value) : Value := .agg (tapeC t g0 g1 nx fv ev tv)
theorem tape_boxes {w W : World} {c : Array Value} (hW : (w.alloc (.cells c 39)).alloc (.cells (elC 0 0 0 0 (.slice none 0 0) (.slice none 0 0)) 36) = W) :
    Below w.heap.size w W ∧ W.heap.size = w.heap.size + 2 ∧ W.heap[w.heap.size]? = some (.cells c 39) ∧ W.heap[w.heap.size + 1]? = some (.cells (elC 0 0 0 0 (.slice none 0 0) (.slice none 0 0)) 36) := by
  refine ⟨?_, ?_, ?_, ?_⟩
  · rw [← hW]; exact ((Below.refl _ w).alloc (Nat.le_refl _) _).alloc (by simp [go_sem]) _
  · rw [← hW]; simp [go_sem]
  · rw [← hW, heap_alloc_old _ _ (by simp [go_sem])]
    exact heap_alloc_new w _
  · have e : w.heap.size + 1 = (w.alloc (.cells c 39)).heap.size := by simp [go_sem]
    rw [← hW, e]
    exact heap_alloc_new _ _
theorem tape_cells {w : World} {b : Nat} {a0 a1 a2 a3 a4 a5 a6 : Value} (h : w.heap[b]? = some (.cells #[a0, a1, a2, a3, a4, a5, a6] 39)) :
    w.cell? ⟨b, 0, none⟩ = some a0 ∧ w.cell? ⟨b, 1, none⟩ = some a1 ∧ w.cell? ⟨b, 2, none⟩ = some a2 ∧ w.cell? ⟨b, 3, none⟩ = some a3 ∧ w.cell? ⟨b, 4, none⟩ = some a4 ∧ w.cell? ⟨b, 5, none⟩ = some a5 ∧ w.cell? ⟨b, 6, none⟩ = some a6 :=
  ⟨cell_of_row w b 0 _ _ _ h, cell_of_row w b 1 _ _ _ h, cell_of_row w b 2 _ _ _ h, cell_of_row w b 3 _ _ _ h, cell_of_row w b 4 _ _ _ h, cell_of_row w b 5 _ _ _ h, cell_of_row w b 6 _ _ _ h⟩
section
variable (s : St) (fa ea ta : Option Addr) (fc ec tc : Nat) (ls : List (List (List Int))) (n : Int) (w : World)
end
end Go.Proofs.Ytgiieepfhohmhab

/- ElderSays: the walk. -/
import Derived.Test.YtgiieepfhohmhaaVEsRA
import Derived.Test.YtgiieepfhohmhaaVEsC
namespace Go.Proofs.Ytgiieepfhohmhaa
open Go.RowKit Go.Maps
theorem elder_held {Y : World} {b : Nat} {a0 a1 a2 a3 a4 a5 : Value} (h : Y.heap[b]? = some (.cells #[a0, a1, a2, a3, a4, a5] 60)) :
    (∀ w', Below Y.heap.size Y w' → w'.cell? ⟨b, 0, none⟩ = some a0) ∧ (∀ w', Below Y.heap.size Y w' → w'.cell? ⟨b, 1, none⟩ = some a1) ∧ (∀ w', Below Y.heap.size Y w' → w'.cell? ⟨b, 2, none⟩ = some a2) ∧ (∀ w', Below Y.heap.size Y w' → w'.cell? ⟨b, 3, none⟩ = some a3) ∧ (∀ w', Below Y.heap.size Y w' → w'.cell? ⟨b, 4, none⟩ = some a4) ∧ (∀ w', Below Y.heap.size Y w' → w'.cell? ⟨b, 5, none⟩ = some a5) := by
  have k : ∀ w', Below Y.heap.size Y w' → w'.heap[b]? = some (.cells #[a0, a1, a2, a3, a4, a5] 60) := fun w' hb => (hb.block b (Array.getElem?_eq_some_iff.1 h).1).trans h
  exact ⟨fun w' hb => (elder_cells (k w' hb)).1, fun w' hb => (elder_cells (k w' hb)).2.1, fun w' hb => (elder_cells (k w' hb)).2.2.1, fun w' hb => (elder_cells (k w' hb)).2.2.2.1, fun w' hb => (elder_cells (k w' hb)).2.2.2.2.1, fun w' hb => (elder_cells (k w' hb)).2.2.2.2.2⟩
end Go.Proofs.Ytgiieepfhohmhaa

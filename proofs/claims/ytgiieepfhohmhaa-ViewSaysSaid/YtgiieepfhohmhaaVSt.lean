/- A tick: elder.Step. -/
import Derived.Deep.RegionHeld3
import Derived.Test.YtgiieepfhohmhaaVGiA
import Derived.Test.YtgiieepfhohmhaaVInvZ
import Derived.Test.YtgiieepfhohmhaaVOkA
namespace Go.Proofs.Ytgiieepfhohmhaa
open Go.RowKit Go.Maps
structure InE (w : World) (s : St) (fa ea : Option Addr) (fc ec : Nat) : Prop where
  fn : fa = none → fc = 0
  en : ea = none → ec = 0
  cap : s.es.length ≤ ec
  rows : Recs w ea 10 s.es
  nums : Nums w fa s.free
  wf : ∀ i, i < s.free.length → (Lit.int .i64 (fld s.free i)).wf = true
  born : s.born = []
theorem InE.below {w w' : World} {s : St} {fa ea : Option Addr} {fc ec : Nat} (h : InE w s fa ea fc ec) (hb : Below w.heap.size w w') : InE w' s fa ea fc ec :=
  ⟨h.fn, h.en, h.cap, h.rows.below hb, h.nums.below hb, h.wf, h.born⟩
theorem errV_zero : errV 0 = .nilIface := rfl
theorem errV_some {c : Nat} (h : c ≠ 0) : errV c = .iface 131 (.int .i64 c) := by unfold errV; rw [if_neg h]
theorem step_boxes {w W : World} {s : St} {fv ev : Value} (hW : (w.alloc (.cells #[.int .i64 s.t, .int .i64 s.g0, .int .i64 s.g1, .int .i64 s.nx, fv, ev] 60)).alloc (.cells #[.int .i64 0, .int .i64 0, .int .i64 0, .int .i64 0, .slice none 0 0, .slice none 0 0] 60) = W) :
    Below w.heap.size w W ∧ W.heap.size = w.heap.size + 2 ∧ W.heap[w.heap.size]? = some (.cells #[.int .i64 s.t, .int .i64 s.g0, .int .i64 s.g1, .int .i64 s.nx, fv, ev] 60) ∧ W.heap[w.heap.size + 1]? = some (.cells #[.int .i64 0, .int .i64 0, .int .i64 0, .int .i64 0, .slice none 0 0, .slice none 0 0] 60) := by
  refine ⟨?_, ?_, ?_, ?_⟩
  · rw [← hW]; exact ((Below.refl _ w).alloc (Nat.le_refl _) _).alloc (by simp [go_sem]) _
  · rw [← hW]; simp [go_sem]
  · rw [← hW, heap_alloc_old _ _ (by simp [go_sem])]
    exact heap_alloc_new w _
  · have e : w.heap.size + 1 = (w.alloc (.cells #[.int .i64 s.t, .int .i64 s.g0, .int .i64 s.g1, .int .i64 s.nx, fv, ev] 60)).heap.size := by simp [go_sem]
    rw [← hW, e]
    exact heap_alloc_new _ _
theorem elder_cells {w : World} {b : Nat} {a0 a1 a2 a3 a4 a5 : Value} (h : w.heap[b]? = some (.cells #[a0, a1, a2, a3, a4, a5] 60)) :
    w.cell? ⟨b, 0, none⟩ = some a0 ∧ w.cell? ⟨b, 1, none⟩ = some a1 ∧ w.cell? ⟨b, 2, none⟩ = some a2 ∧ w.cell? ⟨b, 3, none⟩ = some a3 ∧ w.cell? ⟨b, 4, none⟩ = some a4 ∧ w.cell? ⟨b, 5, none⟩ = some a5 :=
  ⟨cell_of_row w b 0 _ _ _ h, cell_of_row w b 1 _ _ _ h, cell_of_row w b 2 _ _ _ h, cell_of_row w b 3 _ _ _ h, cell_of_row w b 4 _ _ _ h, cell_of_row w b 5 _ _ _ h⟩
def setSix (w : World) (b : Nat) (a0 a1 a2 a3 a4 a5 : Value) : World := (((((w.setCell ⟨b, 0, none⟩ a0).setCell ⟨b, 1, none⟩ a1).setCell ⟨b, 2, none⟩ a2).setCell ⟨b, 3, none⟩ a3).setCell ⟨b, 4, none⟩ a4).setCell ⟨b, 5, none⟩ a5
theorem below_six {B b : Nat} {a w : World} {a0 a1 a2 a3 a4 a5 : Value} (h : Below B a w) (hb : B ≤ b) : Below B a (setSix w b a0 a1 a2 a3 a4 a5) :=
  (((((h.setCell (p := ⟨b, 0, none⟩) hb _).setCell (p := ⟨b, 1, none⟩) hb _).setCell (p := ⟨b, 2, none⟩) hb _).setCell (p := ⟨b, 3, none⟩) hb _).setCell (p := ⟨b, 4, none⟩) hb _).setCell (p := ⟨b, 5, none⟩) hb _
end Go.Proofs.Ytgiieepfhohmhaa

/- The reference's game: what is wrong with one by itself. -/
import Derived.Test.YtgiieepfhohmhaaVRefC1
import Derived.Test.YtgiieepfhohmhaaVRefC2
import Derived.Test.YtgiieepfhohmhaaVRefC3
import Derived.Test.YtgiieepfhohmhaaVRefC4
namespace Go.Proofs.Ytgiieepfhohmhaa
open Go.RowKit
theorem oneFault_calls (p : Nat) (nw : Bool) (tick : Int) (u : List Int) (w : World) (h0 : w.cell? ⟨p, 0, none⟩ = some (.bool nw)) (h1 : w.cell? ⟨p, 1, none⟩ = some (.int .i64 tick)) (hp : p < w.heap.size) :
    Calls Try.prog 99 #[.pointer (some ⟨p, 0, none⟩), unitV u] w fun e w' => e = .returned (.int .i64 (oneR nw tick u)) ∧ Below w.heap.size w w' := by
  by_cases hk : fld u 2 = 4
  · have hm : mostR nw (fld u 2) = 100 := by unfold mostR; rw [if_pos hk]
    cases hb : boundR nw tick u
    · rw [show oneR nw tick u = shapeR nw u by unfold oneR; rw [hb]; rfl]
      exact one_shape4 p nw tick u w h0 h1 hp (by simpa using hk) hm hb
    · rw [show oneR nw tick u = 1 by unfold oneR; rw [hb]; rfl]
      exact one_bound4 p nw tick u w h0 h1 hp (by simpa using hk) hm hb
  · have hm : mostR nw (fld u 2) = fld (ruleL nw (fld u 2)) 1 := by unfold mostR; rw [if_neg hk]
    cases hb : boundR nw tick u
    · rw [show oneR nw tick u = shapeR nw u by unfold oneR; rw [hb]; rfl]
      exact one_shape5 p nw tick u w h0 h1 hp (by simpa using hk) hm hb
    · rw [show oneR nw tick u = 1 by unfold oneR; rw [hb]; rfl]
      exact one_bound5 p nw tick u w h0 h1 hp (by simpa using hk) hm hb
end Go.Proofs.Ytgiieepfhohmhaa

/- Package newer of the program: who is gone. -/
import Derived.Test.YtmnddahkbmlibaaNsNwI
namespace Go.Proofs.Ytmnddahkbmlibaa
open Go.RowKit Go.Maps
def goneB (u : List Int) : Bool := decide (fld u 5 ≤ 0)
set_option maxHeartbeats 2000000 in
theorem goneN_calls (w : World) (W : World) (u : List Int) (hb : Below w.heap.size w W) :
    Calls Try.prog 162 #[unitV u] W fun e w' => e = .returned (.bool (goneB u)) ∧ Below w.heap.size w w' := by
  have HB := hid hb
  clear hb
  unfold goneB
  by_cases h : fld u 5 ≤ 0
  · have HD := hid (decide_eq_true h)
    go_enter Try.func162, Try.ntmps162
    go_wp2
    go_ret
    exact ⟨retB HD.out.symm, HB.out.alloc HB.out.size _⟩
  · have HD := hid (decide_eq_false h)
    go_enter Try.func162, Try.ntmps162
    go_wp2
    go_ret
    exact ⟨retB HD.out.symm, HB.out.alloc HB.out.size _⟩
end Go.Proofs.Ytmnddahkbmlibaa

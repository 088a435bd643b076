/- The reference: a tick of the elder game. -/
import Derived.Test.YtgiieepfhohmhaaVHdA
import Derived.Test.YtgiieepfhohmhaaVOkA
import Derived.Test.YtgiieepfhohmhaaVRefO
import Derived.Test.YtgiieepfhohmhaaVRefP
import Derived.Test.YtgiieepfhohmhaaVRefK2
import Derived.Test.YtgiieepfhohmhaaVSt
namespace Go.Proofs.Ytgiieepfhohmhaa
open Go.RowKit Go.Maps
theorem st0_up {s : St} (h : s.born = []) : st0 s.t s.g0 s.g1 s.nx s.free (s.es.map unitE) = upS s := by
  cases s
  simp only at h
  subst h
  rfl
theorem Apart.below {w w' : World} {p k : Nat} (h : Apart w p k) (hp : p < w.heap.size) (hb : Below w.heap.size w w') : Apart w' p k :=
  ⟨h.1, fun j v hv => h.2 j v ((hb.cell (p := ⟨p, j, none⟩) hp).symm.trans hv)⟩
end Go.Proofs.Ytgiieepfhohmhaa
namespace Go.Proofs.Ytgiieepfhohmhaa
open Go.RowKit Go.Maps
theorem GrE.lt {base : Nat} {w : World} {p : Nat} {nw : Bool} {s : St} (h : GrE base w p nw s) : p < w.heap.size := by
  obtain ⟨uv, fv, bv, h⟩ := h
  exact h.lt
theorem GrE.who {base : Nat} {w : World} {p : Nat} {nw : Bool} {s : St} (h : GrE base w p nw s) : ∃ ua uc, w.cell? ⟨p, 6, none⟩ = some (.slice ua s.es.length uc) ∧ Recs w ua 11 s.es := by
  obtain ⟨uv, fv, bv, h⟩ := h
  obtain ⟨ea, c, rfl, _, hr, _⟩ := h.er.open
  exact ⟨ea, c, h.cell 6, hr⟩
end Go.Proofs.Ytgiieepfhohmhaa
namespace Go.Proofs.Ytgiieepfhohmhaa
open Go.RowKit Go.Maps
end Go.Proofs.Ytgiieepfhohmhaa
namespace Go.Proofs.Ytgiieepfhohmhaa
open Go.RowKit Go.Maps
theorem firstE_le {n m : Nat} {f : Nat → Nat} (h : ∀ i, i < n → f i ≤ m) : firstE n f ≤ m := by
  unfold firstE
  cases hf : (List.range n).find? (fun i => f i != 0) with
  | none => exact Nat.zero_le _
  | some k =>
    have := List.mem_of_find?_eq_some hf
    exact h k (by simpa using this)
theorem check_le (s : St) : checkE s.t s.g0 s.g1 s.nx s.free s.es ≤ 3 := by
  have h1 : stateE s.t s.g0 s.g1 s.nx s.free.length s.es.length ≤ 3 := by
    unfold stateE
    repeat' split
    all_goals omega
  have h2 : firstE s.es.length (entE s.nx s.es) ≤ 3 := firstE_le fun i _ => by
    unfold entE
    repeat' split
    all_goals omega
  have h3 : freeE s.nx s.es s.free ≤ 3 := by
    unfold freeE
    repeat' split
    all_goals omega
  unfold checkE
  repeat' split
  all_goals omega
end Go.Proofs.Ytgiieepfhohmhaa

/- The reference's game: a tick's end, whole. -/
import Derived.Test.YtgiieepfhohmhabTMemA
import Derived.Test.YtgiieepfhohmhabTRefBA
import Derived.Test.YtgiieepfhohmhabTHdA
import Derived.Test.YtgiieepfhohmhabTGiA
import Derived.Test.YtgiieepfhohmhabTOkA
namespace Go.Proofs.Ytgiieepfhohmhab
open Go.RowKit Go.Maps
end Go.Proofs.Ytgiieepfhohmhab
namespace Go.Proofs.Ytgiieepfhohmhab
open Go.RowKit Go.Maps
theorem hpU {s : St} (h : InvM s) {i : Nat} (hi : i < s.es.length) : 0 ≤ fld (rec (s.es.map unitE) i) 5 ∧ fld (rec (s.es.map unitE) i) 5 ≤ 1000 := by
  rw [frecU _ _ (by omega)]
  have hb := (boundsE_true (h.bd _ (rec_mem hi))).2.2.2.1
  have : mostZ (fld (rec s.es i) 2) ≤ 1000 := by
    unfold mostZ Pl.eHP
    repeat' split
    all_goals omega
  omega
end Go.Proofs.Ytgiieepfhohmhab

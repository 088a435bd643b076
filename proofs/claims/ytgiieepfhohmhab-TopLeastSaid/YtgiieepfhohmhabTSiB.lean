/- The two games side by side, plain: a tick's end of the elder list, IDs renamed, is that of the newer one. -/
import Derived.Deep.RegionHeld3
import Derived.Deep.DeepCutAuto
import Derived.BigQuiet
import Derived.Test.YtgiieepfhohmhabTElA
import Derived.Test.YtgiieepfhohmhabTElB
import Derived.Test.YtgiieepfhohmhabTMemA
import Derived.Test.YtgiieepfhohmhabTRefBA
import Derived.Test.YtgiieepfhohmhabTHdA
import Derived.Test.YtgiieepfhohmhabTGiA
import Derived.Test.YtgiieepfhohmhabTInvZ
import Derived.Test.YtgiieepfhohmhabTOkA
import Derived.Test.YtgiieepfhohmhabTEsBA
import Derived.Test.YtgiieepfhohmhabTCkB
import Derived.Test.YtgiieepfhohmhabTLsF
import Derived.Test.YtgiieepfhohmhabTMkA
namespace Go.Proofs.Ytgiieepfhohmhab
structure Ren (f : Int → Int) (u v : List Int) : Prop where
  id : fld v 0 = f (fld u 0)
  eq : ∀ j, 1 ≤ j → j ≤ 8 → fld v j = fld u j
  tg : fld v 9 = if fld u 9 = 0 then 0 else f (fld u 9)
end Go.Proofs.Ytgiieepfhohmhab
namespace Go.Proofs.Ytgiieepfhohmhab
open Go.RowKit
set_option maxRecDepth 100000 in
set_option maxHeartbeats 4000000 in
theorem topLeast1_calls (V : World) (ba bb : Nat) (xa ya : Option Addr) (n1 n2 xc yc : Nat) (xs ys : List Int) (e1 : xs.length = n1) (e2 : ys.length = n2) (n : Int) (hn1 : n ≤ n1) (hn2 : n ≤ n2)
    (hA : V.heap[ba]? = some (.cells #[.slice xa n1 xc] 23)) (hB : V.heap[bb]? = some (.cells #[.slice ya n2 yc] 23)) (hX : Marks V xa xs) (hY : Marks V ya ys)
    (W : World) (i : Int) (hi0 : 0 ≤ i) (hi1 : i < n) (hI : Below V.heap.size V W) :
    Calls Try.prog 12 (#[.int .i64 i] ++ #[.pointer (some ⟨ba, 0, none⟩), .pointer (some ⟨bb, 0, none⟩)]) W fun e w' => e = .returned (.bool (zAt xs i.toNat != zAt ys i.toNat)) ∧ Below V.heap.size V w' := by
  obtain ⟨j, rfl⟩ := Int.eq_ofNat_of_zero_le hi0
  have hjx : j < xs.length := by omega
  have hjy : j < ys.length := by omega
  obtain ⟨b, o, rfl, hcx⟩ := (hX.below hI).at hjx
  obtain ⟨b', o', rfl, hcy⟩ := (hY.below hI).at hjy
  have c1 : W.cell? ⟨ba, 0, none⟩ = some (.slice (some ⟨b, o, none⟩) n1 xc) := cell_of_row W _ 0 _ _ _ ((hI.block _ (Array.getElem?_eq_some_iff.1 hA).1).trans hA)
  have c2 : W.cell? ⟨bb, 0, none⟩ = some (.slice (some ⟨b', o', none⟩) n2 yc) := cell_of_row W _ 0 _ _ _ ((hI.block _ (Array.getElem?_eq_some_iff.1 hB).1).trans hB)
  have z1 : (j : Int) < (n1 : Int) := by omega
  have z2 : (j : Int) < (n2 : Int) := by omega
  have HI := hid hI
  clear hA hB hX hY hI hi0 hi1 hn1 hn2 hjx hjy e1 e2
  show Calls Try.prog 12 #[.int .i64 (j : Int), .pointer (some ⟨ba, 0, none⟩), .pointer (some ⟨bb, 0, none⟩)] W fun e w' => e = .returned (.bool (zAt xs j != zAt ys j)) ∧ Below V.heap.size V w'
  generalize zAt xs j = p at hcx ⊢
  generalize zAt ys j = q at hcy ⊢
  go_enter Try.func12, Try.ntmps12
  go_wp2_with fail
  go_quiet (fail)
  go_wp2
  go_ret
  exact ⟨rfl, belowL_drewN HI.out _⟩
end Go.Proofs.Ytgiieepfhohmhab

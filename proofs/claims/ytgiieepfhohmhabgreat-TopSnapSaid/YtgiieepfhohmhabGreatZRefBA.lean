/- The reference's game: what one may do to another. -/
import Derived.Deep.DeepCutAuto
import Derived.Deep.RegionHeld3
import Derived.Test.YtgiieepfhohmhabGreatZRulA
import Derived.Test.YtgiieepfhohmhabGreatZElB
import Derived.Test.YtgiieepfhohmhabGreatZMemA
namespace Go.Proofs.YtgiieepfhohmhabGreat
open Go.RowKit
def mayZ (nw : Bool) (u t : List Int) : Int :=
  if fld t 2 = 4 ∧ 0 < fld (ruleL nw (fld u 2)) 5 then 3
  else if fld t 2 ≠ 4 ∧ fld t 1 ≠ fld u 1 ∧ 0 < fld (ruleL nw (fld u 2)) 3 then 2 else 0
end Go.Proofs.YtgiieepfhohmhabGreat
namespace Go.Proofs.YtgiieepfhohmhabGreat
open Go.RowKit
set_option maxHeartbeats 800000 in
theorem newer5 (w : World) :
    Calls Tryz.prog 225 #[.int .i64 5] w fun e w' => e = .returned (.tuple #[.agg #[.int .i64 0, .int .i64 0, .int .i64 0, .int .i64 0, .int .i64 0, .int .i64 0], .bool false]) ∧ w' = w.alloc (.cells #[.int .i64 0, .int .i64 0, .int .i64 0, .int .i64 0, .int .i64 0, .int .i64 0] 288) := by
  go_enter Tryz.func225, Tryz.ntmps225
  go_wp2
  exact bodyPost_ret (v := .tuple #[.agg #[.int .i64 0, .int .i64 0, .int .i64 0, .int .i64 0, .int .i64 0, .int .i64 0], .bool false]) (by simp [results, Tryz.results225, go_sem]) rfl ⟨rfl, rfl⟩
set_option maxHeartbeats 800000 in
theorem newer_calls (k : Int) (h5 : k ≠ 5) (w : World) :
    Calls Tryz.prog 225 #[.int .i64 k] w fun e w' => e = .returned (.tuple #[.agg #[.int .i64 (Pl.nCost k), .int .i64 (Pl.nHP k), .int .i64 (Pl.nSpeed k), .int .i64 (Pl.nHarm k), .int .i64 (Pl.nRange k), .int .i64 (Pl.nLoad k)], .bool (Pl.nHas k)]) ∧ ∃ (c1 c2 c3 : Array Value) (t1 t2 t3 : TypeId), w' = ((w.alloc (.cells c1 t1)).alloc (.cells c2 t2)).alloc (.cells c3 t3) := by
  by_cases h3 : k = 3
  · subst h3
    clear h5
    go_enter Tryz.func225, Tryz.ntmps225
    go_wp2_with fail
    refine (elder_calls 3 _).mono ?_
    rintro e w' ⟨rfl, rfl⟩
    go_wp2
    exact bodyPost_ret (v := .tuple #[.agg #[.int .i64 (Pl.nCost 3), .int .i64 (Pl.nHP 3), .int .i64 (Pl.nSpeed 3), .int .i64 (Pl.nHarm 3), .int .i64 (Pl.nRange 3), .int .i64 (Pl.nLoad 3)], .bool (Pl.eHas 3)]) (by simp [results, Tryz.results225, go_sem]; exact ⟨rfl, rfl, rfl, rfl, rfl, rfl⟩) rfl ⟨rfl, _, _, _, _, _, _, rfl⟩
  · obtain ⟨e1, e2, e3, e4, e5, e6, e7⟩ := Pl.nSame h3 h5
    rw [e1, e2, e3, e4, e5, e6, e7]
    clear e1 e2 e3 e4 e5 e6 e7
    have g3 : (k == 3) = false := by simpa using h3
    have g5 : (k == 5) = false := by simpa using h5
    clear h3 h5
    go_enter Tryz.func225, Tryz.ntmps225
    go_wp2_with fail
    refine (elder_calls k _).mono ?_
    rintro e w' ⟨rfl, rfl⟩
    go_wp2
    exact bodyPost_ret (v := .tuple #[.agg #[.int .i64 (Pl.eCost k), .int .i64 (Pl.eHP k), .int .i64 (Pl.eSpeed k), .int .i64 (Pl.eHarm k), .int .i64 (Pl.eRange k), .int .i64 (Pl.eLoad k)], .bool (Pl.eHas k)]) (by simp [results, Tryz.results225, go_sem]) rfl ⟨rfl, _, _, _, _, _, _, rfl⟩
end Go.Proofs.YtgiieepfhohmhabGreat
namespace Go.Proofs.YtgiieepfhohmhabGreat
open Go.RowKit
abbrev unitV (u : List Int) : Value := .agg #[.int .i64 (fld u 0), .int .i64 (fld u 1), .int .i64 (fld u 2), .int .i64 (fld u 3), .int .i64 (fld u 4), .int .i64 (fld u 5), .int .i64 (fld u 6), .int .i64 (fld u 7), .int .i64 (fld u 8), .int .i64 (fld u 9), .int .i64 (fld u 10)]
abbrev unitC (u : List Int) : Array Value := #[.int .i64 (fld u 0), .int .i64 (fld u 1), .int .i64 (fld u 2), .int .i64 (fld u 3), .int .i64 (fld u 4), .int .i64 (fld u 5), .int .i64 (fld u 6), .int .i64 (fld u 7), .int .i64 (fld u 8), .int .i64 (fld u 9), .int .i64 (fld u 10)]
end Go.Proofs.YtgiieepfhohmhabGreat
namespace Go.Proofs.YtgiieepfhohmhabGreat
open Go.RowKit Go.Maps
def OnU (u : List Int) : Prop := (0 ≤ fld u 3 ∧ fld u 3 < 12) ∧ 0 ≤ fld u 4 ∧ fld u 4 < 12
def tgtE (es : List (List Int)) (u : List Int) : List Int := rec es (idxZ (isId (fld u 9)) es).toNat
end Go.Proofs.YtgiieepfhohmhabGreat

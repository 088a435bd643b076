/- Plain facts about the board: how far it is, one step nearer, on the board; no Go in sight. -/
import Derived.Test.YtgiieepfhohmhabGreatRows
import Derived.WalkKit
import Derived.WalkLawsBesides
import Derived.Below
import Derived.Test.YtgiieepfhohmhabGreatProg
import Derived.WalkSpells
import Derived.Handy
import Derived.Deep.RegionWith
import Derived.Deep.QuietTactic
import Derived.BigQuiet
import Derived.BigRegion
namespace Go.Proofs.YtgiieepfhohmhabGreat.Pl
def apartZ (a b : Int) : Int := if b ≤ a then a - b else b - a
def nearZ (a b : Int) : Int := if a < b then a + 1 else if b < a then a - 1 else a
def farZ (x y tx ty : Int) : Int := if apartZ x tx < apartZ y ty then apartZ y ty else apartZ x tx
def lineB (a : Int) : Bool := decide (0 ≤ a ∧ a < 12)
def onB (x y : Int) : Bool := lineB x && lineB y
theorem lineB_true {a : Int} (h : lineB a = true) : 0 ≤ a ∧ a < 12 := by
  simpa [lineB] using h
theorem lineB_mk {a : Int} (h0 : 0 ≤ a) (h1 : a < 12) : lineB a = true := by
  simp [lineB]; omega
theorem lineB_no0 {a : Int} (h : a < 0) : lineB a = false := by
  simp [lineB]; omega
theorem lineB_no1 {a : Int} (h : 12 ≤ a) : lineB a = false := by
  simp [lineB]; omega
theorem onB_true {x y : Int} (h : onB x y = true) : (0 ≤ x ∧ x < 12) ∧ 0 ≤ y ∧ y < 12 := by
  simp only [onB, Bool.and_eq_true] at h
  exact ⟨lineB_true h.1, lineB_true h.2⟩
def eCost (k : Int) : Int := if k = 1 then 5 else if k = 2 then 8 else if k = 3 then 15 else if k = 5 then 7 else 0
def eHP (k : Int) : Int := if k = 1 then 5 else if k = 2 then 8 else if k = 3 then 20 else if k = 5 then 6 else 0
def eSpeed (k : Int) : Int := if k = 1 then 1 else if k = 2 then 1 else if k = 5 then 1 else 0
def eHarm (k : Int) : Int := if k = 1 then 1 else if k = 2 then 2 else if k = 3 then 3 else 0
def eRange (k : Int) : Int := if k = 1 then 1 else if k = 2 then 2 else if k = 3 then 3 else if k = 5 then 1 else 0
def eLoad (k : Int) : Int := if k = 1 then 1 else if k = 5 then 2 else 0
def eHas (k : Int) : Bool := decide (1 ≤ k ∧ k ≤ 5)
def nCost (k : Int) : Int := if k = 1 then 5 else if k = 2 then 8 else if k = 3 then 15 else 0
def nHP (k : Int) : Int := if k = 1 then 5 else if k = 2 then 8 else if k = 3 then 20 else 0
def nSpeed (k : Int) : Int := if k = 1 then 1 else if k = 2 then 1 else 0
def nHarm (k : Int) : Int := if k = 1 then 1 else if k = 2 then 2 else if k = 3 then 3 else 0
def nRange (k : Int) : Int := if k = 1 then 1 else if k = 2 then 2 else if k = 3 then 4 else 0
def nLoad (k : Int) : Int := if k = 1 then 1 else 0
def nHas (k : Int) : Bool := decide (1 ≤ k ∧ k ≤ 4)
theorem kinds (k : Int) : k = 1 ∨ k = 2 ∨ k = 3 ∨ k = 4 ∨ k = 5 ∨ (k ≠ 1 ∧ k ≠ 2 ∧ k ≠ 3 ∧ k ≠ 4 ∧ k ≠ 5) := by omega
theorem eElse {k : Int} (h : k ≠ 1 ∧ k ≠ 2 ∧ k ≠ 3 ∧ k ≠ 4 ∧ k ≠ 5) : eCost k = 0 ∧ eHP k = 0 ∧ eSpeed k = 0 ∧ eHarm k = 0 ∧ eRange k = 0 ∧ eLoad k = 0 ∧ eHas k = false := by
  obtain ⟨h1, h2, h3, h4, h5⟩ := h
  simp only [eCost, eHP, eSpeed, eHarm, eRange, eLoad, eHas, if_neg h1, if_neg h2, if_neg h3, if_neg h5, decide_eq_false_iff_not]
  simp; omega
theorem nSame {k : Int} (h3 : k ≠ 3) (h5 : k ≠ 5) : nCost k = eCost k ∧ nHP k = eHP k ∧ nSpeed k = eSpeed k ∧ nHarm k = eHarm k ∧ nRange k = eRange k ∧ nLoad k = eLoad k ∧ nHas k = eHas k := by
  simp only [eCost, eHP, eSpeed, eHarm, eRange, eLoad, eHas, nCost, nHP, nSpeed, nHarm, nRange, nLoad, nHas, if_neg h3, if_neg h5]
  refine ⟨trivial, trivial, trivial, trivial, trivial, trivial, ?_⟩
  rw [decide_eq_decide]; omega
end Go.Proofs.YtgiieepfhohmhabGreat.Pl
namespace Go.Proofs.YtgiieepfhohmhabGreat
open Go.RowKit
theorem ret_int {k : IntKind} {a b : Int} (h : a = b) : Ending.returned (.int k a) = .returned (.int k b) := by rw [h]
set_option maxHeartbeats 400000 in
theorem onLine_calls (a : Int) (w : World) :
    Calls Tryz.prog 247 #[.int .i64 a] w fun e w' => e = .returned (.bool (Pl.lineB a)) ∧ w' = w := by
  by_cases h1 : 0 ≤ a
  · by_cases h2 : a < 12
    · rw [Pl.lineB_mk h1 h2]
      go_enter Tryz.func247, Tryz.ntmps247
      go_wp2
      go_ret
      exact ⟨rfl, rfl⟩
    · rw [Pl.lineB_no1 (by omega)]
      go_enter Tryz.func247, Tryz.ntmps247
      go_wp2
      go_ret
      exact ⟨rfl, rfl⟩
  · rw [Pl.lineB_no0 (by omega)]
    go_enter Tryz.func247, Tryz.ntmps247
    go_wp2
    go_ret
    exact ⟨rfl, rfl⟩
set_option maxHeartbeats 400000 in
theorem on_calls (x y : Int) (w : World) :
    Calls Tryz.prog 208 #[.int .i64 x, .int .i64 y] w fun e w' => e = .returned (.bool (Pl.onB x y)) ∧ w' = w := by
  unfold Pl.onB
  cases hx : Pl.lineB x
  · rw [Bool.false_and]
    go_enter Tryz.func208, Tryz.ntmps208
    go_wp2_with fail
    refine (onLine_calls x _).mono ?_
    rintro e w' ⟨rfl, rfl⟩
    rw [hx]
    go_wp2
    go_ret
    exact ⟨rfl, rfl⟩
  · rw [Bool.true_and]
    go_enter Tryz.func208, Tryz.ntmps208
    go_wp2_with fail
    refine (onLine_calls x _).mono ?_
    rintro e w' ⟨rfl, rfl⟩
    rw [hx]
    go_wp2_with fail
    refine (onLine_calls y _).mono ?_
    rintro e w' ⟨rfl, rfl⟩
    go_wp2
    go_ret
    exact ⟨rfl, rfl⟩
end Go.Proofs.YtgiieepfhohmhabGreat
namespace Go.Proofs.YtgiieepfhohmhabGreat
open Go.RowKit
set_option maxHeartbeats 800000 in
theorem elder_calls (k : Int) (w : World) :
    Calls Tryz.prog 222 #[.int .i64 k] w fun e w' => e = .returned (.tuple #[.agg #[.int .i64 (Pl.eCost k), .int .i64 (Pl.eHP k), .int .i64 (Pl.eSpeed k), .int .i64 (Pl.eHarm k), .int .i64 (Pl.eRange k), .int .i64 (Pl.eLoad k)], .bool (Pl.eHas k)]) ∧ w' = w.alloc (.cells #[.int .i64 (Pl.eCost k), .int .i64 (Pl.eHP k), .int .i64 (Pl.eSpeed k), .int .i64 (Pl.eHarm k), .int .i64 (Pl.eRange k), .int .i64 (Pl.eLoad k)] 288) := by
  rcases Pl.kinds k with rfl | rfl | rfl | rfl | rfl | h
  · show Calls Tryz.prog 222 #[.int .i64 1] w fun e w' => e = .returned (.tuple #[.agg #[.int .i64 5, .int .i64 5, .int .i64 1, .int .i64 1, .int .i64 1, .int .i64 1], .bool true]) ∧ w' = w.alloc (.cells #[.int .i64 5, .int .i64 5, .int .i64 1, .int .i64 1, .int .i64 1, .int .i64 1] 288)
    go_enter Tryz.func222, Tryz.ntmps222
    go_wp2
    exact bodyPost_ret (v := .tuple #[.agg #[.int .i64 5, .int .i64 5, .int .i64 1, .int .i64 1, .int .i64 1, .int .i64 1], .bool true]) (by simp [results, Tryz.results222, go_sem]) rfl ⟨rfl, rfl⟩
  · show Calls Tryz.prog 222 #[.int .i64 2] w fun e w' => e = .returned (.tuple #[.agg #[.int .i64 8, .int .i64 8, .int .i64 1, .int .i64 2, .int .i64 2, .int .i64 0], .bool true]) ∧ w' = w.alloc (.cells #[.int .i64 8, .int .i64 8, .int .i64 1, .int .i64 2, .int .i64 2, .int .i64 0] 288)
    go_enter Tryz.func222, Tryz.ntmps222
    go_wp2
    exact bodyPost_ret (v := .tuple #[.agg #[.int .i64 8, .int .i64 8, .int .i64 1, .int .i64 2, .int .i64 2, .int .i64 0], .bool true]) (by simp [results, Tryz.results222, go_sem]) rfl ⟨rfl, rfl⟩
  · show Calls Tryz.prog 222 #[.int .i64 3] w fun e w' => e = .returned (.tuple #[.agg #[.int .i64 15, .int .i64 20, .int .i64 0, .int .i64 3, .int .i64 3, .int .i64 0], .bool true]) ∧ w' = w.alloc (.cells #[.int .i64 15, .int .i64 20, .int .i64 0, .int .i64 3, .int .i64 3, .int .i64 0] 288)
    go_enter Tryz.func222, Tryz.ntmps222
    go_wp2
    exact bodyPost_ret (v := .tuple #[.agg #[.int .i64 15, .int .i64 20, .int .i64 0, .int .i64 3, .int .i64 3, .int .i64 0], .bool true]) (by simp [results, Tryz.results222, go_sem]) rfl ⟨rfl, rfl⟩
  · show Calls Tryz.prog 222 #[.int .i64 4] w fun e w' => e = .returned (.tuple #[.agg #[.int .i64 0, .int .i64 0, .int .i64 0, .int .i64 0, .int .i64 0, .int .i64 0], .bool true]) ∧ w' = w.alloc (.cells #[.int .i64 0, .int .i64 0, .int .i64 0, .int .i64 0, .int .i64 0, .int .i64 0] 288)
    go_enter Tryz.func222, Tryz.ntmps222
    go_wp2
    exact bodyPost_ret (v := .tuple #[.agg #[.int .i64 0, .int .i64 0, .int .i64 0, .int .i64 0, .int .i64 0, .int .i64 0], .bool true]) (by simp [results, Tryz.results222, go_sem]) rfl ⟨rfl, rfl⟩
  · show Calls Tryz.prog 222 #[.int .i64 5] w fun e w' => e = .returned (.tuple #[.agg #[.int .i64 7, .int .i64 6, .int .i64 1, .int .i64 0, .int .i64 1, .int .i64 2], .bool true]) ∧ w' = w.alloc (.cells #[.int .i64 7, .int .i64 6, .int .i64 1, .int .i64 0, .int .i64 1, .int .i64 2] 288)
    go_enter Tryz.func222, Tryz.ntmps222
    go_wp2
    exact bodyPost_ret (v := .tuple #[.agg #[.int .i64 7, .int .i64 6, .int .i64 1, .int .i64 0, .int .i64 1, .int .i64 2], .bool true]) (by simp [results, Tryz.results222, go_sem]) rfl ⟨rfl, rfl⟩
  · obtain ⟨e1, e2, e3, e4, e5, e6, e7⟩ := Pl.eElse h
    rw [e1, e2, e3, e4, e5, e6, e7]
    clear e1 e2 e3 e4 e5 e6 e7
    have h1 : (k == 1) = false := by simpa using h.1
    have h2 : (k == 2) = false := by simpa using h.2.1
    have h3 : (k == 3) = false := by simpa using h.2.2.1
    have h4 : (k == 4) = false := by simpa using h.2.2.2.1
    have h5 : (k == 5) = false := by simpa using h.2.2.2.2
    clear h
    go_enter Tryz.func222, Tryz.ntmps222
    go_wp2
    exact bodyPost_ret (v := .tuple #[.agg #[.int .i64 0, .int .i64 0, .int .i64 0, .int .i64 0, .int .i64 0, .int .i64 0], .bool false]) (by simp [results, Tryz.results222, go_sem]) rfl ⟨rfl, rfl⟩
end Go.Proofs.YtgiieepfhohmhabGreat
namespace Go.Proofs.YtgiieepfhohmhabGreat
open Go.RowKit
def fld (r : List Int) (j : Nat) : Int := r.getD j 0
def rec (rs : List (List Int)) (i : Nat) : List Int := rs.getD i []
def Recs (w : World) (a : Option Addr) (k : Nat) (rs : List (List Int)) : Prop :=
  rs = [] ∨ ∃ b o, a = some ⟨b, o, none⟩ ∧ ∀ i, i < rs.length → ∀ j, j < k → w.cell? ⟨b, o + i * k + j, none⟩ = some (.int .i64 (fld (rec rs i) j))
def Nums (w : World) (a : Option Addr) (zs : List Int) : Prop :=
  zs = [] ∨ ∃ b o, a = some ⟨b, o, none⟩ ∧ ∀ i, i < zs.length → w.cell? ⟨b, o + i, none⟩ = some (.int .i64 (fld zs i))
theorem Recs.at {w : World} {a : Option Addr} {k : Nat} {rs : List (List Int)} (h : Recs w a k rs) {i : Nat} (hi : i < rs.length) :
    ∃ b o, a = some ⟨b, o, none⟩ ∧ ∀ j, j < k → w.cell? ⟨b, o + i * k + j, none⟩ = some (.int .i64 (fld (rec rs i) j)) := by
  rcases h with rfl | ⟨b, o, e, hc⟩
  · simp at hi
  · exact ⟨b, o, e, hc i hi⟩
theorem Nums.at {w : World} {a : Option Addr} {zs : List Int} (h : Nums w a zs) {i : Nat} (hi : i < zs.length) :
    ∃ b o, a = some ⟨b, o, none⟩ ∧ w.cell? ⟨b, o + i, none⟩ = some (.int .i64 (fld zs i)) := by
  rcases h with rfl | ⟨b, o, e, hc⟩
  · simp at hi
  · exact ⟨b, o, e, hc i hi⟩
theorem Recs.drewN {w : World} {a : Option Addr} {k : Nat} {rs : List (List Int)} (h : Recs w a k rs) (n : Nat) : Recs (w.drewN n) a k rs := h
theorem Nums.drewN {w : World} {a : Option Addr} {zs : List Int} (h : Nums w a zs) (n : Nat) : Nums (w.drewN n) a zs := h
def whoZ (id : Int) (rs : List (List Int)) : Int :=
  match rs.findIdx? (fun r => fld r 0 == id) with
  | some i => i
  | none => -1
def standsB (x y : Int) (rs : List (List Int)) : Bool := rs.any fun r => fld r 3 == x && fld r 4 == y
end Go.Proofs.YtgiieepfhohmhabGreat
namespace Go.Proofs.YtgiieepfhohmhabGreat
open Go.RowKit
theorem retI {k : IntKind} {a b : Int} (h : a = b) : Ending.returned (.int k a) = .returned (.int k b) := by rw [h]
theorem retB {a b : Bool} (h : a = b) : Ending.returned (.bool a) = .returned (.bool b) := by rw [h]
def topZ (nw : Bool) : Int := if nw then 2000 else 200
end Go.Proofs.YtgiieepfhohmhabGreat

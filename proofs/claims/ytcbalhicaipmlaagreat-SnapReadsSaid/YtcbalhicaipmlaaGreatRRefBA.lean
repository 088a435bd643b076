/- The reference's game: what one may do to another. -/
import Derived.Deep.DeepCutAuto
import Derived.Deep.RegionHeld3
import Derived.Test.YtcbalhicaipmlaaGreatRRulA
import Derived.Test.YtcbalhicaipmlaaGreatRElB
import Derived.Test.YtcbalhicaipmlaaGreatRMemA
namespace Go.Proofs.YtcbalhicaipmlaaGreat
open Go.RowKit
def mayZ (nw : Bool) (u t : List Int) : Int :=
  if fld t 2 = 4 ∧ 0 < fld (ruleL nw (fld u 2)) 5 then 3
  else if fld t 2 ≠ 4 ∧ fld t 1 ≠ fld u 1 ∧ 0 < fld (ruleL nw (fld u 2)) 3 then 2 else 0
set_option maxHeartbeats 1000000 in
theorem may_calls (p : Nat) (nw : Bool) (u t : List Int) (w : World) (h0 : w.cell? ⟨p, 0, none⟩ = some (.bool nw)) (hp : p < w.heap.size) :
    Calls Tryz.prog 72 #[.pointer (some ⟨p, 0, none⟩), .agg #[.int .i64 (fld u 0), .int .i64 (fld u 1), .int .i64 (fld u 2), .int .i64 (fld u 3), .int .i64 (fld u 4), .int .i64 (fld u 5), .int .i64 (fld u 6), .int .i64 (fld u 7), .int .i64 (fld u 8), .int .i64 (fld u 9), .int .i64 (fld u 10)], .agg #[.int .i64 (fld t 0), .int .i64 (fld t 1), .int .i64 (fld t 2), .int .i64 (fld t 3), .int .i64 (fld t 4), .int .i64 (fld t 5), .int .i64 (fld t 6), .int .i64 (fld t 7), .int .i64 (fld t 8), .int .i64 (fld t 9), .int .i64 (fld t 10)]] w fun e w' => e = .returned (.int .i64 (mayZ nw u t)) ∧ Below w.heap.size w w' := by
  have hp1 : p < w.heap.size + 1 := by omega
  have hp2 : p < w.heap.size + 1 + 1 := by omega
  go_enter Tryz.func72, Tryz.ntmps72
  go_upto_region 1 with fail
  go_cut [7, 8] (fun r s wx => ∃ g, r = .pointer (some ⟨g, 0, none⟩) ∧ wx.cell? ⟨g, 3, none⟩ = some (.int .i64 (fld (ruleL nw (fld u 2)) 3)) ∧ wx.cell? ⟨g, 5, none⟩ = some (.int .i64 (fld (ruleL nw (fld u 2)) 5)) ∧ wx.cell? ⟨w.heap.size, 1, none⟩ = some (.int .i64 (fld u 1)) ∧ wx.cell? ⟨w.heap.size + 1, 1, none⟩ = some (.int .i64 (fld t 1)) ∧ wx.cell? ⟨w.heap.size + 1, 2, none⟩ = some (.int .i64 (fld t 2)) ∧ Hid (Below w.heap.size w wx))
  case first =>
    go_region_with (go_at_call 103; refine (rule_calls nw (fld u 2) _).mono ?_; rintro e w1 ⟨rfl, rfl⟩)
    all_goals
      go_wp2_with fail
      go_meet
      exact ⟨_, rfl, by simp [go_sem], by simp [go_sem], by simp [go_sem], by simp [go_sem], by simp [go_sem], by show Below _ _ _; go_grown⟩
  case rest =>
    obtain ⟨g, rfl, c3, c5, u1, t1, t2, HB⟩ := hcut
    clear h0 hp hp1 hp2
    by_cases hk : fld t 2 = 4
    · have bk : (fld t 2 == 4) = true := by simpa using hk
      have bk2 : (fld t 2 != 4) = false := by simpa using hk
      by_cases hl : 0 < fld (ruleL nw (fld u 2)) 5
      · have HE : Hid (mayZ nw u t = 3) := by show _ = _; unfold mayZ; rw [if_pos ⟨hk, hl⟩]
        clear hk
        go_wp2
        go_ret
        exact ⟨retI HE.out.symm, HB.out⟩
      · have HE : Hid (mayZ nw u t = 0) := by show _ = _; unfold mayZ; rw [if_neg (fun h => hl h.2), if_neg (fun h => h.1 hk)]
        clear hk
        go_wp2
        go_ret
        exact ⟨retI HE.out.symm, HB.out⟩
    · have bk : (fld t 2 == 4) = false := by simpa using hk
      have bk2 : (fld t 2 != 4) = true := by simpa using hk
      by_cases ho : fld t 1 = fld u 1
      · have bo : (fld t 1 != fld u 1) = false := by simpa using ho
        have HE : Hid (mayZ nw u t = 0) := by show _ = _; unfold mayZ; rw [if_neg (fun h => hk h.1), if_neg (fun h => h.2.1 ho)]
        clear hk ho
        go_wp2
        go_ret
        exact ⟨retI HE.out.symm, HB.out⟩
      · have bo : (fld t 1 != fld u 1) = true := by simpa using ho
        by_cases hl : 0 < fld (ruleL nw (fld u 2)) 3
        · have HE : Hid (mayZ nw u t = 2) := by show _ = _; unfold mayZ; rw [if_neg (fun h => hk h.1), if_pos ⟨hk, ho, hl⟩]
          clear hk ho
          go_wp2
          go_ret
          exact ⟨retI HE.out.symm, HB.out⟩
        · have HE : Hid (mayZ nw u t = 0) := by show _ = _; unfold mayZ; rw [if_neg (fun h => hk h.1), if_neg (fun h => hl h.2.2)]
          clear hk ho
          go_wp2
          go_ret
          exact ⟨retI HE.out.symm, HB.out⟩
end Go.Proofs.YtcbalhicaipmlaaGreat
namespace Go.Proofs.YtcbalhicaipmlaaGreat
open Go.RowKit
set_option maxHeartbeats 800000 in
theorem newer5 (w : World) :
    Calls Tryz.prog 137 #[.int .i64 5] w fun e w' => e = .returned (.tuple #[.agg #[.int .i64 0, .int .i64 0, .int .i64 0, .int .i64 0, .int .i64 0, .int .i64 0], .bool false]) ∧ w' = w.alloc (.cells #[.int .i64 0, .int .i64 0, .int .i64 0, .int .i64 0, .int .i64 0, .int .i64 0] 203) := by
  go_enter Tryz.func137, Tryz.ntmps137
  go_wp2
  exact bodyPost_ret (v := .tuple #[.agg #[.int .i64 0, .int .i64 0, .int .i64 0, .int .i64 0, .int .i64 0, .int .i64 0], .bool false]) (by simp [results, Tryz.results137, go_sem]) rfl ⟨rfl, rfl⟩
set_option maxHeartbeats 800000 in
theorem newer_calls (k : Int) (h5 : k ≠ 5) (w : World) :
    Calls Tryz.prog 137 #[.int .i64 k] w fun e w' => e = .returned (.tuple #[.agg #[.int .i64 (Pl.nCost k), .int .i64 (Pl.nHP k), .int .i64 (Pl.nSpeed k), .int .i64 (Pl.nHarm k), .int .i64 (Pl.nRange k), .int .i64 (Pl.nLoad k)], .bool (Pl.nHas k)]) ∧ ∃ (c1 c2 c3 : Array Value) (t1 t2 t3 : TypeId), w' = ((w.alloc (.cells c1 t1)).alloc (.cells c2 t2)).alloc (.cells c3 t3) := by
  by_cases h3 : k = 3
  · subst h3
    clear h5
    go_enter Tryz.func137, Tryz.ntmps137
    go_wp2_with fail
    refine (elder_calls 3 _).mono ?_
    rintro e w' ⟨rfl, rfl⟩
    go_wp2
    exact bodyPost_ret (v := .tuple #[.agg #[.int .i64 (Pl.nCost 3), .int .i64 (Pl.nHP 3), .int .i64 (Pl.nSpeed 3), .int .i64 (Pl.nHarm 3), .int .i64 (Pl.nRange 3), .int .i64 (Pl.nLoad 3)], .bool (Pl.eHas 3)]) (by simp [results, Tryz.results137, go_sem]; exact ⟨rfl, rfl, rfl, rfl, rfl, rfl⟩) rfl ⟨rfl, _, _, _, _, _, _, rfl⟩
  · obtain ⟨e1, e2, e3, e4, e5, e6, e7⟩ := Pl.nSame h3 h5
    rw [e1, e2, e3, e4, e5, e6, e7]
    clear e1 e2 e3 e4 e5 e6 e7
    have g3 : (k == 3) = false := by simpa using h3
    have g5 : (k == 5) = false := by simpa using h5
    clear h3 h5
    go_enter Tryz.func137, Tryz.ntmps137
    go_wp2_with fail
    refine (elder_calls k _).mono ?_
    rintro e w' ⟨rfl, rfl⟩
    go_wp2
    exact bodyPost_ret (v := .tuple #[.agg #[.int .i64 (Pl.eCost k), .int .i64 (Pl.eHP k), .int .i64 (Pl.eSpeed k), .int .i64 (Pl.eHarm k), .int .i64 (Pl.eRange k), .int .i64 (Pl.eLoad k)], .bool (Pl.eHas k)]) (by simp [results, Tryz.results137, go_sem]) rfl ⟨rfl, _, _, _, _, _, _, rfl⟩
set_option maxHeartbeats 400000 in
theorem refOn_calls (x y : Int) (w : World) :
    Calls Tryz.prog 104 #[.int .i64 x, .int .i64 y] w fun e w' => e = .returned (.bool (Pl.onB x y)) ∧ w' = w := by
  by_cases h1 : 0 ≤ x
  · by_cases h2 : x < 12
    · by_cases h3 : 0 ≤ y
      · by_cases h4 : y < 12
        · rw [Pl.onB_mk ⟨⟨h1, h2⟩, h3, h4⟩]
          go_enter Tryz.func104, Tryz.ntmps104
          go_wp2
          go_ret
          exact ⟨rfl, rfl⟩
        · rw [Pl.onB_no2 (Pl.lineB_no1 (by omega))]
          go_enter Tryz.func104, Tryz.ntmps104
          go_wp2
          go_ret
          exact ⟨rfl, rfl⟩
      · rw [Pl.onB_no2 (Pl.lineB_no0 (by omega))]
        go_enter Tryz.func104, Tryz.ntmps104
        go_wp2
        go_ret
        exact ⟨rfl, rfl⟩
    · rw [Pl.onB_no1 (Pl.lineB_no1 (by omega))]
      go_enter Tryz.func104, Tryz.ntmps104
      go_wp2
      go_ret
      exact ⟨rfl, rfl⟩
  · rw [Pl.onB_no1 (Pl.lineB_no0 (by omega))]
    go_enter Tryz.func104, Tryz.ntmps104
    go_wp2
    go_ret
    exact ⟨rfl, rfl⟩
end Go.Proofs.YtcbalhicaipmlaaGreat
namespace Go.Proofs.YtcbalhicaipmlaaGreat
open Go.RowKit
theorem tf (b : Bool) {P : Prop} (h : P) : b = true ∨ (b = false ∧ P) := by
  cases b
  · exact Or.inr ⟨rfl, h⟩
  · exact Or.inl rfl
abbrev unitV (u : List Int) : Value := .agg #[.int .i64 (fld u 0), .int .i64 (fld u 1), .int .i64 (fld u 2), .int .i64 (fld u 3), .int .i64 (fld u 4), .int .i64 (fld u 5), .int .i64 (fld u 6), .int .i64 (fld u 7), .int .i64 (fld u 8), .int .i64 (fld u 9), .int .i64 (fld u 10)]
abbrev unitC (u : List Int) : Array Value := #[.int .i64 (fld u 0), .int .i64 (fld u 1), .int .i64 (fld u 2), .int .i64 (fld u 3), .int .i64 (fld u 4), .int .i64 (fld u 5), .int .i64 (fld u 6), .int .i64 (fld u 7), .int .i64 (fld u 8), .int .i64 (fld u 9), .int .i64 (fld u 10)]
abbrev ruleCR (nw : Bool) (k : Int) : Array Value := #[.int .i64 (fld (ruleL nw k) 0), .int .i64 (fld (ruleL nw k) 1), .int .i64 (fld (ruleL nw k) 2), .int .i64 (fld (ruleL nw k) 3), .int .i64 (fld (ruleL nw k) 4), .int .i64 (fld (ruleL nw k) 5)]
def mostR (nw : Bool) (k : Int) : Int := if k = 4 then 100 else fld (ruleL nw k) 1
def sinceB (nw : Bool) (tick : Int) (u : List Int) : Bool := nw && (decide (fld u 10 < 0) || decide (tick < fld u 10))
def boundR (nw : Bool) (tick : Int) (u : List Int) : Bool := !hasB nw (fld u 2) || (decide (fld u 0 < 1) || (decide (topZ nw < fld u 0) || (!Pl.onB (fld u 3) (fld u 4) || (decide (fld u 5 < 1) || (decide (mostR nw (fld u 2) < fld u 5) || (decide (fld u 6 < 0) || (decide (3 < fld u 6) || (decide (fld u 9 < 0) || (decide (topZ nw < fld u 9) || sinceB nw tick u)))))))))
def ownR (u : List Int) : Bool := decide (fld u 1 < 0) || (decide (2 < fld u 1) || ((fld u 1 == 2) != (fld u 2 == 4)))
def doesR (nw : Bool) (u : List Int) : Bool := ((fld u 6 == 1) && (!Pl.onB (fld u 7) (fld u 8) || fld (ruleL nw (fld u 2)) 2 == 0)) || (((fld u 6 != 1) && (fld u 7 != 0 || fld u 8 != 0)) || (decide (1 < fld u 6) != decide (0 < fld u 9)))
def shapeR (nw : Bool) (u : List Int) : Int := if ownR u = true then 3 else if doesR nw u = true then 3 else 0
def oneR (nw : Bool) (tick : Int) (u : List Int) : Int := if boundR nw tick u = true then 1 else shapeR nw u
theorem ruleB_calls (nw : Bool) (k : Int) (w : World) :
    Calls Tryz.prog 103 #[.int .i64 k, .bool nw] w fun e w' => e = .returned (.tuple #[.agg (ruleCR nw k), .bool (hasB nw k)]) ∧ Below w.heap.size w w' :=
  (rule_calls nw k w).mono fun e w' h => ⟨h.1, by rw [h.2]; exact (Below.refl _ _).alloc (Nat.le_refl _) _⟩
abbrev zero6 : Array Value := #[.int .i64 0, .int .i64 0, .int .i64 0, .int .i64 0, .int .i64 0, .int .i64 0]
def Box6 (w : World) (b : Nat) : Prop := w.heap[b]? = some (.cells zero6 124)
theorem Box6.new (w : World) : Box6 (w.alloc (.cells zero6 124)) w.heap.size := heap_alloc_new w _
theorem Box6.below {w w' : World} {b : Nat} (h : Box6 w b) (hb : Below w.heap.size w w') : Box6 w' b := by
  unfold Box6 at h ⊢
  rw [hb.block b (Array.getElem?_eq_some_iff.1 h).1]
  exact h
theorem Box6.zero {w : World} {b : Nat} (h : Box6 w b) : w.cell? ⟨b, 0, none⟩ = some (.int .i64 0) ∧ w.cell? ⟨b, 1, none⟩ = some (.int .i64 0) ∧ w.cell? ⟨b, 2, none⟩ = some (.int .i64 0) ∧ w.cell? ⟨b, 3, none⟩ = some (.int .i64 0) ∧ w.cell? ⟨b, 4, none⟩ = some (.int .i64 0) ∧ w.cell? ⟨b, 5, none⟩ = some (.int .i64 0) ∧ ∀ j, w.frozen? ⟨b, j, none⟩ = false :=
  ⟨cell_of_row w b 0 _ _ _ h, cell_of_row w b 1 _ _ _ h, cell_of_row w b 2 _ _ _ h, cell_of_row w b 3 _ _ _ h, cell_of_row w b 4 _ _ _ h, cell_of_row w b 5 _ _ _ h, fun j => frozen_of_row w b j _ _ h⟩
def six6 (w : World) (b : Nat) (a0 a1 a2 a3 a4 a5 : Value) : World := (((((w.setCell ⟨b, 0, none⟩ a0).setCell ⟨b, 1, none⟩ a1).setCell ⟨b, 2, none⟩ a2).setCell ⟨b, 3, none⟩ a3).setCell ⟨b, 4, none⟩ a4).setCell ⟨b, 5, none⟩ a5
theorem six6_nest (w : World) (b : Nat) (a0 a1 a2 a3 a4 a5 : Value) : (((((w.setCell ⟨b, 0, none⟩ a0).setCell ⟨b, 1, none⟩ a1).setCell ⟨b, 2, none⟩ a2).setCell ⟨b, 3, none⟩ a3).setCell ⟨b, 4, none⟩ a4).setCell ⟨b, 5, none⟩ a5 = six6 w b a0 a1 a2 a3 a4 a5 := rfl
theorem below_six6 {B b : Nat} {a w : World} {a0 a1 a2 a3 a4 a5 : Value} (h : Below B a w) (hb : B ≤ b) : Below B a (six6 w b a0 a1 a2 a3 a4 a5) :=
  (((((h.setCell (p := ⟨b, 0, none⟩) hb _).setCell (p := ⟨b, 1, none⟩) hb _).setCell (p := ⟨b, 2, none⟩) hb _).setCell (p := ⟨b, 3, none⟩) hb _).setCell (p := ⟨b, 4, none⟩) hb _).setCell (p := ⟨b, 5, none⟩) hb _
theorem Box6.fill {w : World} {b : Nat} (h : Box6 w b) (a0 a1 a2 a3 a4 a5 : Value) : (six6 w b a0 a1 a2 a3 a4 a5).heap[b]? = some (.cells #[a0, a1, a2, a3, a4, a5] 124) := by
  have h0 : (w.setCell ⟨b, 0, none⟩ a0).heap[b]? = some (.cells #[a0, .int .i64 0, .int .i64 0, .int .i64 0, .int .i64 0, .int .i64 0] 124) := heap_setCell_same _ b 0 _ _ a0 h
  have h1 : ((w.setCell ⟨b, 0, none⟩ a0).setCell ⟨b, 1, none⟩ a1).heap[b]? = some (.cells #[a0, a1, .int .i64 0, .int .i64 0, .int .i64 0, .int .i64 0] 124) := heap_setCell_same _ b 1 _ _ a1 h0
  have h2 : (((w.setCell ⟨b, 0, none⟩ a0).setCell ⟨b, 1, none⟩ a1).setCell ⟨b, 2, none⟩ a2).heap[b]? = some (.cells #[a0, a1, a2, .int .i64 0, .int .i64 0, .int .i64 0] 124) := heap_setCell_same _ b 2 _ _ a2 h1
  have h3 : ((((w.setCell ⟨b, 0, none⟩ a0).setCell ⟨b, 1, none⟩ a1).setCell ⟨b, 2, none⟩ a2).setCell ⟨b, 3, none⟩ a3).heap[b]? = some (.cells #[a0, a1, a2, a3, .int .i64 0, .int .i64 0] 124) := heap_setCell_same _ b 3 _ _ a3 h2
  have h4 : (((((w.setCell ⟨b, 0, none⟩ a0).setCell ⟨b, 1, none⟩ a1).setCell ⟨b, 2, none⟩ a2).setCell ⟨b, 3, none⟩ a3).setCell ⟨b, 4, none⟩ a4).heap[b]? = some (.cells #[a0, a1, a2, a3, a4, .int .i64 0] 124) := heap_setCell_same _ b 4 _ _ a4 h3
  exact heap_setCell_same _ b 5 _ _ a5 h4
theorem since_ways (nw : Bool) (tick : Int) (u : List Int) : (nw = false ∧ sinceB nw tick u = false) ∨ (nw = true ∧ (decide (fld u 10 < 0) = true ∧ sinceB nw tick u = true)) ∨ (nw = true ∧ decide (fld u 10 < 0) = false ∧ decide (tick < fld u 10) = true ∧ sinceB nw tick u = true) ∨ (nw = true ∧ decide (fld u 10 < 0) = false ∧ decide (tick < fld u 10) = false ∧ sinceB nw tick u = false) := by
  unfold sinceB
  cases nw
  · exact Or.inl ⟨rfl, rfl⟩
  · cases decide (fld u 10 < 0)
    · cases decide (tick < fld u 10)
      · exact Or.inr (Or.inr (Or.inr ⟨rfl, rfl, rfl, rfl⟩))
      · exact Or.inr (Or.inr (Or.inl ⟨rfl, rfl, rfl, rfl⟩))
    · exact Or.inr (Or.inl ⟨rfl, rfl, rfl⟩)
end Go.Proofs.YtcbalhicaipmlaaGreat
namespace Go.Proofs.YtcbalhicaipmlaaGreat
open Go.RowKit Go.Maps
def OnU (u : List Int) : Prop := (0 ≤ fld u 3 ∧ fld u 3 < 12) ∧ 0 ≤ fld u 4 ∧ fld u 4 < 12
def tgtE (es : List (List Int)) (u : List Int) : List Int := rec es (idxZ (isId (fld u 9)) es).toNat
end Go.Proofs.YtcbalhicaipmlaaGreat

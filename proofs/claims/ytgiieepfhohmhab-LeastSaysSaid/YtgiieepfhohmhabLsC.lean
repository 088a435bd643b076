/- The law LeastSays: its closed fact, its closure. -/
import Derived.Test.YtgiieepfhohmhabLsB
namespace Go.Proofs.Ytgiieepfhohmhab
open Go.RowKit

set_option maxHeartbeats 1000000 in
theorem finds1_calls (i : Int) (w : World) : Calls Try.prog 13 #[.int .i64 i] w fun e w' => e = .returned (.bool (decide (3 < i))) ∧ w' = w := by
  by_cases h : 3 < i
  · rw [decide_eq_true h]
    go_enter Try.func13, Try.ntmps13
    go_wp2
    go_ret
    exact ⟨rfl, rfl⟩
  · rw [decide_eq_false h]
    go_enter Try.func13, Try.ntmps13
    go_wp2
    go_ret
    exact ⟨rfl, rfl⟩

set_option maxHeartbeats 1000000 in
theorem finds_calls (w : World) : Calls Try.prog 5 #[] w fun e w' => e = .returned (.bool true) ∧ w' = w := by
  have eg : ∀ args w, (callFunc 13 args).run Try.prog w = .ok (.enter 13 args) w := enters_of Try.func13 (by kernel_rfl) rfl
  have HC := hidL (find_calls 13 #[] eg 9 (fun i => decide (3 < i)) (fun _ W => W = w) w (by omega) rfl (fun k W i _ _ _ hW => by
    subst hW
    exact finds1_calls i W))
  clear eg
  go_enter Try.func5, Try.ntmps5
  go_wp2_with fail
  refine HC.out.mono ?_
  clear HC
  rintro e w' ⟨a, k, f, rfl, hF, rfl⟩
  obtain ⟨rfl, ⟨ha0, ha1⟩, hLa, hLb, hk, _⟩ := hF.hit (by omega) (by decide)
  have h4 : a = 4 := by
    have h1 : 3 < a := of_decide_eq_true hLa
    have h2 := of_decide_eq_false (hLb (by omega))
    omega
  subst h4
  have hkz : decide (0 < k) = true := decide_eq_true (by omega)
  clear hF hLa hLb hk ha0 ha1
  go_wp2
  go_ret
  exact ⟨rfl, rfl⟩

def bAt (l : List Bool) (j : Nat) : Bool := l.getD j false
def Bools (w : World) (a : Option Addr) (l : List Bool) : Prop := l = [] ∨ ∃ b o, a = some ⟨b, o, none⟩ ∧ ∀ i, i < l.length → w.cell? ⟨b, o + i, none⟩ = some (.bool (bAt l i))
theorem Bools.below {w W : World} {a : Option Addr} {zs : List Bool} (h : Bools w a zs) (hb : Below w.heap.size w W) : Bools W a zs := by
  rcases h with h | ⟨b, o, e, hc⟩
  · exact Or.inl h
  · exact Or.inr ⟨b, o, e, fun i hi => (hb.cell (World.block_lt_of_cell? w _ (hc i hi))).trans (hc i hi)⟩
theorem Bools.at {w : World} {a : Option Addr} {zs : List Bool} (h : Bools w a zs) {i : Nat} (hi : i < zs.length) : ∃ b o, a = some ⟨b, o, none⟩ ∧ w.cell? ⟨b, o + i, none⟩ = some (.bool (bAt zs i)) := by
  rcases h with rfl | ⟨b, o, e, hc⟩
  · simp at hi
  · exact ⟨b, o, e, hc i hi⟩

/- What the law's closure holds: how often it was asked; that it was never asked of a place that is not; how many places; the places. -/
structure Asked (w : World) (la : Option Addr) (lc : Nat) (l : List Bool) (bl bn bo bt : Nat) (k : Nat) (W : World) : Prop where
  times : W.heap[bt]? = some (.cells #[.int .i64 k] 3)
  out : W.heap[bo]? = some (.cells #[.bool false] 4)
  num : W.heap[bn]? = some (.cells #[.int .i64 l.length] 3)
  box : W.heap[bl]? = some (.cells #[.slice la l.length lc] 22)
  below : Below w.heap.size w W

set_option maxRecDepth 100000 in
set_option maxHeartbeats 4000000 in
theorem least1_calls (w : World) (la : Option Addr) (lc : Nat) (l : List Bool) (bl bn bo bt : Nat) (hl : Bools w la l) (n1 : bl ≠ bt) (n2 : bn ≠ bt) (n3 : bo ≠ bt) (hbt : w.heap.size ≤ bt)
    (k : Nat) (W : World) (i : Int) (hk : k ≤ 1000) (hi0 : 0 ≤ i) (hi1 : i < l.length) (hI : Asked w la lc l bl bn bo bt k W) :
    Calls Try.prog 7 (#[.int .i64 i] ++ #[.pointer (some ⟨bt, 0, none⟩), .pointer (some ⟨bn, 0, none⟩), .pointer (some ⟨bo, 0, none⟩), .pointer (some ⟨bl, 0, none⟩)]) W fun e w' => e = .returned (.bool (bAt l i.toNat)) ∧ Asked w la lc l bl bn bo bt (k + 1) w' := by
  obtain ⟨j, rfl⟩ := Int.eq_ofNat_of_zero_le hi0
  have hj : j < l.length := by omega
  obtain ⟨b, o, rfl, hc⟩ := (hl.below hI.below).at hj
  have hbW : b < w.heap.size := by
    obtain ⟨b', o', e, hc'⟩ := hl.at hj
    cases e
    exact World.block_lt_of_cell? w _ hc'
  have hne : b ≠ bt := by omega
  have hkw : IntKind.i64.wrap ((k : Int) + 1) = (k : Int) + 1 := wrapI _ (by omega)
  have t0 : W.cell? ⟨bt, 0, none⟩ = some (.int .i64 k) := cell_of_row W bt 0 _ _ _ hI.times
  have tf := frozen_of_row W bt 0 _ _ hI.times
  obtain ⟨V, hV⟩ : ∃ V, W.setCell ⟨bt, 0, none⟩ (.int .i64 ((k : Int) + 1)) = V := ⟨_, rfl⟩
  have hoth : ∀ q, q ≠ bt → V.heap[q]? = W.heap[q]? := fun q hq => by rw [← hV]; exact heap_setCell_other W ⟨bt, 0, none⟩ q _ (fun e => hq e)
  have hIV : Asked w (some ⟨b, o, none⟩) lc l bl bn bo bt (k + 1) V := by
    refine ⟨?_, (hoth _ n3).trans hI.out, (hoth _ n2).trans hI.num, (hoth _ n1).trans hI.box, ?_⟩
    · rw [← hV]
      exact heap_setCell_same W bt 0 _ _ _ hI.times
    · rw [← hV]
      exact hI.below.setCell (p := ⟨bt, 0, none⟩) hbt _
  have v1 : W.cell? ⟨bn, 0, none⟩ = some (.int .i64 l.length) := cell_of_row W bn 0 _ _ _ hI.num
  have v2 : W.cell? ⟨bl, 0, none⟩ = some (.slice (some ⟨b, o, none⟩) l.length lc) := cell_of_row W bl 0 _ _ _ hI.box
  have v3 : W.cell? ⟨b, o + j, none⟩ = some (.bool (bAt l j)) := hc
  have HI := hidL hIV
  have z1 : ¬ (j : Int) < 0 := by omega
  have z2 : ¬ (l.length : Int) ≤ (j : Int) := by omega
  have z3 : (j : Int) < (l.length : Int) := by omega
  have HV := hidL hV
  clear hI hl hIV hoth hc hi0 hi1 hV
  show Calls Try.prog 7 #[.int .i64 (j : Int), .pointer (some ⟨bt, 0, none⟩), .pointer (some ⟨bn, 0, none⟩), .pointer (some ⟨bo, 0, none⟩), .pointer (some ⟨bl, 0, none⟩)] W fun e w' => e = .returned (.bool (bAt l j)) ∧ Asked w (some ⟨b, o, none⟩) lc l bl bn bo bt (k + 1) w'
  go_enter Try.func7, Try.ntmps7
  go_wp2
  go_ret
  exact ⟨rfl, by rw [HV.out]; exact HI.out⟩
end Go.Proofs.Ytgiieepfhohmhab

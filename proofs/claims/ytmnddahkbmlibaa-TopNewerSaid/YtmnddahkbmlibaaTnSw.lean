/- A tick under way: all strike at once. -/
import Derived.Deep.RegionHeld3
import Derived.Test.YtmnddahkbmlibaaTnOkA
import Derived.Test.YtmnddahkbmlibaaTnGiA
import Derived.Test.YtmnddahkbmlibaaTnInvZ
import Derived.Test.YtmnddahkbmlibaaTnNwL
import Derived.Test.YtmnddahkbmlibaaTnTnA
namespace Go.Proofs.Ytmnddahkbmlibaa
open Go.RowKit Go.Maps
theorem below_drewd {a w : World} (h : Below a.drew.heap.size a.drew w) : Below a.heap.size a w := ⟨h.os, h.tape, h.output, h.size, h.block⟩
theorem grown_set {w w' : World} {p : Nat} (h : w.grownBy w' (some p)) (j : Nat) (v : Value) : w.grownBy (w'.setCell ⟨p, j, none⟩ v) (some p) :=
  ⟨h.os, h.tape, h.output, by rw [World.size_setCell]; exact h.size, fun k hk hne => (heap_setCell_other w' ⟨p, j, none⟩ k v (fun e => hne (by rw [show k = p from e]))).trans (h.block k hk hne)⟩
end Go.Proofs.Ytmnddahkbmlibaa
namespace Go.Proofs.Ytmnddahkbmlibaa
open Go.RowKit Go.Maps
theorem errV_zero : errV 0 = .nilIface := rfl
theorem errV_some {c : Nat} (h : c ≠ 0) : errV c = .iface 131 (.int .i64 c) := by unfold errV; rw [if_neg h]
end Go.Proofs.Ytmnddahkbmlibaa
namespace Go.Proofs.Ytmnddahkbmlibaa
open Go.RowKit Go.Maps
abbrev zeroNV : Value := newerV 0 0 0 0 (.slice none 0 0)
structure InW (w : World) (s : St) (ua : Option Addr) (uc : Nat) : Prop where
  un : ua = none → uc = 0
  cap : s.es.length ≤ uc
  rows : Recs w ua 11 s.es
  fr : s.free = []
  born : s.born = []
theorem InW.below {w w' : World} {s : St} {ua : Option Addr} {uc : Nat} (h : InW w s ua uc) (hb : Below w.heap.size w w') : InW w' s ua uc := ⟨h.un, h.cap, h.rows.below hb, h.fr, h.born⟩
theorem boxes5 {w W : World} {s : St} {uv : Value} (hW : (w.alloc (.cells (newerC s.t s.g0 s.g1 s.nx uv) 90)).alloc (.cells (newerC 0 0 0 0 (.slice none 0 0)) 90) = W) :
    Below w.heap.size w W ∧ W.heap.size = w.heap.size + 2 ∧ W.heap[w.heap.size]? = some (.cells (newerC s.t s.g0 s.g1 s.nx uv) 90) ∧ W.heap[w.heap.size + 1]? = some (.cells (newerC 0 0 0 0 (.slice none 0 0)) 90) := by
  refine ⟨?_, ?_, ?_, ?_⟩
  · rw [← hW]; exact ((Below.refl _ w).alloc (Nat.le_refl _) _).alloc (by simp [go_sem]) _
  · rw [← hW]; simp [go_sem]
  · rw [← hW, heap_alloc_old _ _ (by simp [go_sem])]
    exact heap_alloc_new w _
  · have e : w.heap.size + 1 = (w.alloc (.cells (newerC s.t s.g0 s.g1 s.nx uv) 90)).heap.size := by simp [go_sem]
    rw [← hW, e]
    exact heap_alloc_new _ _
def setFive (w : World) (b : Nat) (a0 a1 a2 a3 a4 : Value) : World := ((((w.setCell ⟨b, 0, none⟩ a0).setCell ⟨b, 1, none⟩ a1).setCell ⟨b, 2, none⟩ a2).setCell ⟨b, 3, none⟩ a3).setCell ⟨b, 4, none⟩ a4
theorem below_five {B b : Nat} {a w : World} {a0 a1 a2 a3 a4 : Value} (h : Below B a w) (hb : B ≤ b) : Below B a (setFive w b a0 a1 a2 a3 a4) :=
  ((((h.setCell (p := ⟨b, 0, none⟩) hb _).setCell (p := ⟨b, 1, none⟩) hb _).setCell (p := ⟨b, 2, none⟩) hb _).setCell (p := ⟨b, 3, none⟩) hb _).setCell (p := ⟨b, 4, none⟩) hb _
theorem heap_five {w : World} {b k : Nat} {a0 a1 a2 a3 a4 : Value} (h : k ≠ b) : (setFive w b a0 a1 a2 a3 a4).heap[k]? = w.heap[k]? := by
  unfold setFive
  rw [heap_setCell_other _ ⟨b, 4, none⟩ k _ (fun e => h e), heap_setCell_other _ ⟨b, 3, none⟩ k _ (fun e => h e), heap_setCell_other _ ⟨b, 2, none⟩ k _ (fun e => h e), heap_setCell_other _ ⟨b, 1, none⟩ k _ (fun e => h e), heap_setCell_other _ ⟨b, 0, none⟩ k _ (fun e => h e)]
theorem row_five {w : World} {base base' b : Nat} {e : TypeId} {size : Nat} {v : Value} {n : Nat} {xs : List Value} {a0 a1 a2 a3 a4 : Value} (h : w.ownsRow base e size v n xs) (hb : b < base) (hbb : base' ≤ base) : (setFive w b a0 a1 a2 a3 a4).ownsRow base' e size v n xs :=
  own_mono (row_other (w' := setFive w b a0 a1 a2 a3 a4) h (fun g hg => heap_five (fun x => by have := (World.ownsRow.lt h g hg).1; omega))) hbb
theorem ords_next (s : St) {l : List (List Int)} {k : Nat} (hk : k < l.length) : ordsN s (l.take (k + 1)) = ordN (ordsN s (l.take k)) (rec l k) := by
  unfold ordsN
  rw [take_rec hk, List.foldl_append]
  rfl
abbrev ordC (q : List Int) : Array Value := #[.int .i64 (fld q 0), .int .i64 (fld q 1), .int .i64 (fld q 2), .int .i64 (fld q 3), .int .i64 (fld q 4), .int .i64 (fld q 5)]
abbrev ordV (q : List Int) : Value := .agg (ordC q)
end Go.Proofs.Ytmnddahkbmlibaa

/- Package newer of the program: a state in memory of its own; a tick begins. -/
import Derived.Test.YtgiieepfhohmhabGreatZRefEA
import Derived.Test.YtgiieepfhohmhabGreatZOkA
import Derived.Test.YtgiieepfhohmhabGreatZNwG
namespace Go.Proofs.YtgiieepfhohmhabGreat
open Go.RowKit Go.Maps
theorem five_cells {w : World} {b : Nat} {x0 x1 x2 x3 x4 : Value} {t : TypeId} (h : w.heap[b]? = some (.cells #[x0, x1, x2, x3, x4] t)) :
    w.cell? ⟨b, 0, none⟩ = some x0 ∧ w.cell? ⟨b, 1, none⟩ = some x1 ∧ w.cell? ⟨b, 2, none⟩ = some x2 ∧ w.cell? ⟨b, 3, none⟩ = some x3 ∧ w.cell? ⟨b, 4, none⟩ = some x4 ∧ (∀ j, w.frozen? ⟨b, j, none⟩ = false) :=
  ⟨cell_of_row w b 0 _ _ _ h, cell_of_row w b 1 _ _ _ h, cell_of_row w b 2 _ _ _ h, cell_of_row w b 3 _ _ _ h, cell_of_row w b 4 _ _ _ h, fun j => frozen_of_row w b j _ _ h⟩
end Go.Proofs.YtgiieepfhohmhabGreat
namespace Go.Proofs.YtgiieepfhohmhabGreat
open Go.RowKit Go.Maps
def takeR (nw : Bool) (s : St) : Option (Int × St) :=
  if s.free = [] then (if topZ nw < s.nx then none else some (s.nx, { s with nx := s.nx + 1 })) else some (fld s.free (s.free.length - 1), { s with free := s.free.take (s.free.length - 1) })
def newR (nw : Bool) (t id o k x y : Int) : List Int := [id, o, k, x, y, fld (ruleL nw k) 1, 0, 0, 0, 0, if nw = true then t else 0]
def lateR (nw : Bool) (s : St) (u : List Int) (k x y : Int) : Bool := standsB x y s.es || (decide (1 < Pl.farZ (fld u 3) (fld u 4) x y) || (decide (goldOf s (fld u 1) < fld (ruleL nw k) 0) || ((s.es.length : Int) == 20)))
def soonR (nw : Bool) (u : List Int) (k x y : Int) : Bool := !hasB nw k || (k == 4 || (fld u 2 != 1 || !Pl.onB x y))
def finR (nw : Bool) (t : Int) (u : List Int) (k x y id : Int) (s1 : St) : St := { payS s1 (fld u 1) (fld (ruleL nw k) 0) with es := putR (newR nw t id (fld u 1) k x y) s1.es, born := s1.born ++ [id] }
def doneR (nw : Bool) (s : St) (u : List Int) (k x y : Int) : St :=
  match takeR nw s with
  | none => s
  | some (id, s1) => finR nw s.t u k x y id s1
def buildR (nw : Bool) (s : St) (u : List Int) (k x y : Int) : St :=
  if soonR nw u k x y = true then s else if lateR nw s u k x y = true then s else doneR nw s u k x y
end Go.Proofs.YtgiieepfhohmhabGreat
namespace Go.Proofs.YtgiieepfhohmhabGreat
open Go.RowKit Go.Maps
def stopR (s : St) (i : Nat) : St := { s with es := s.es.set i (tellR (rec s.es i) 0 0 0 0) }
end Go.Proofs.YtgiieepfhohmhabGreat
namespace Go.Proofs.YtgiieepfhohmhabGreat
open Go.RowKit Go.Maps
def isB (old : List Int) (id : Int) : Bool := old.any fun x => x == id
def Keep (W : World) (ob : Option Nat) (w : World) : Prop := Below 0 W w ∧ ∀ k, k < W.heap.size → ob ≠ some k → w.heap[k]? = W.heap[k]?
theorem Keep.refl (W : World) (ob : Option Nat) : Keep W ob W := ⟨Below.refl _ _, fun _ _ _ => rfl⟩
theorem Keep.below {W w w' : World} {ob : Option Nat} (h : Keep W ob w) (hb : Below w.heap.size w w') : Keep W ob w' :=
  ⟨h.1.trans (hb.mono (Nat.zero_le _)), fun k hk hn => (hb.block k (Nat.lt_of_lt_of_le hk h.1.size)).trans (h.2 k hk hn)⟩
theorem Keep.set {W w : World} {g : Nat} (h : Keep W (some g) w) (j : Nat) (v : Value) : Keep W (some g) (w.setCell ⟨g, j, none⟩ v) :=
  ⟨h.1.setCell (p := ⟨g, j, none⟩) (Nat.zero_le _) v, fun k hk hn => (heap_setCell_other w ⟨g, j, none⟩ k v (fun e => hn (by rw [e]))).trans (h.2 k hk hn)⟩
theorem Keep.base {W w : World} {ob : Option Nat} {B : Nat} (h : Keep W ob w) (hB : B ≤ W.heap.size) (ho : ∀ k, ob = some k → B ≤ k) : Below B W w :=
  ⟨h.1.os, h.1.tape, h.1.output, h.1.size, fun k hk => h.2 k (by omega) (fun e => by have := ho k e; omega)⟩
theorem Keep.cell {W w : World} {ob : Option Nat} (h : Keep W ob w) {p : Addr} (hp : p.block < W.heap.size) (hn : ob ≠ some p.block) : w.cell? p = W.cell? p := by
  unfold World.cell?
  rw [h.2 p.block hp hn]
end Go.Proofs.YtgiieepfhohmhabGreat
namespace Go.Proofs.YtgiieepfhohmhabGreat
open Go.RowKit Go.Maps
def arriveF (old : List Int) (u : List Int) : List Int := if (((isB old (fld u 0) && (fld u 6 == 1)) && (fld u 3 == fld u 7)) && (fld u 4 == fld u 8)) = true then tellR u 0 0 0 0 else u
def arriveR (old : List Int) (es : List (List Int)) : List (List Int) := es.map (arriveF old)
theorem RowU.nil {b n c : Nat} {w : World} {a : Option Addr} {us : List (List Int)} (h : RowU b w (.slice a n c) us) : a = none → c = 0 := by
  rcases h.2 with ⟨h', _⟩ | ⟨g', cap', cur, h', _⟩
  · intro _; cases h'; rfl
  · intro e; cases h'; cases e
end Go.Proofs.YtgiieepfhohmhabGreat
namespace Go.Proofs.YtgiieepfhohmhabGreat
open Go.RowKit Go.Maps
def idleF (A : List (List Int)) (u : List Int) : List Int := if (decide (0 < fld u 9) && decide (whoZ (fld u 9) A < 0)) = true then tellR u 0 0 0 0 else u
end Go.Proofs.YtgiieepfhohmhabGreat

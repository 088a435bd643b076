/- The reference's game and the program's, held against each other: commands. -/
import Derived.Test.YtmnddahkbmlibaaTnRefEA
import Derived.Test.YtmnddahkbmlibaaTnOkA
import Derived.Test.YtmnddahkbmlibaaTnEqN
namespace Go.Proofs.Ytmnddahkbmlibaa
open Go.RowKit Go.Maps
def stopR (s : St) (i : Nat) : St := { s with es := s.es.set i (tellR (rec s.es i) 0 0 0 0) }
end Go.Proofs.Ytmnddahkbmlibaa
namespace Go.Proofs.Ytmnddahkbmlibaa
open Go.RowKit Go.Maps
def isB (old : List Int) (id : Int) : Bool := old.any fun x => x == id
theorem ext_rec {A B : List (List Int)} (h : A.length = B.length) (g : ∀ j, j < A.length → rec A j = rec B j) : A = B := by
  refine List.ext_getElem h fun j h1 h2 => ?_
  have := g j h1
  rw [rec_at h1, rec_at h2] at this
  exact this
def Keep (W : World) (ob : Option Nat) (w : World) : Prop := Below 0 W w ∧ ∀ k, k < W.heap.size → ob ≠ some k → w.heap[k]? = W.heap[k]?
theorem Keep.refl (W : World) (ob : Option Nat) : Keep W ob W := ⟨Below.refl _ _, fun _ _ _ => rfl⟩
theorem Keep.below {W w w' : World} {ob : Option Nat} (h : Keep W ob w) (hb : Below w.heap.size w w') : Keep W ob w' :=
  ⟨h.1.trans (hb.mono (Nat.zero_le _)), fun k hk hn => (hb.block k (Nat.lt_of_lt_of_le hk h.1.size)).trans (h.2 k hk hn)⟩
theorem Keep.set {W w : World} {g : Nat} (h : Keep W (some g) w) (j : Nat) (v : Value) : Keep W (some g) (w.setCell ⟨g, j, none⟩ v) :=
  ⟨h.1.setCell (p := ⟨g, j, none⟩) (Nat.zero_le _) v, fun k hk hn => (heap_setCell_other w ⟨g, j, none⟩ k v (fun e => hn (by rw [e]))).trans (h.2 k hk hn)⟩
theorem Keep.base {W w : World} {ob : Option Nat} {B : Nat} (h : Keep W ob w) (hB : B ≤ W.heap.size) (ho : ∀ k, ob = some k → B ≤ k) : Below B W w :=
  ⟨h.1.os, h.1.tape, h.1.output, h.1.size, fun k hk => h.2 k (by omega) (fun e => by have := ho k e; omega)⟩
theorem Keep.cell {W w : World} {ob : Option Nat} (h : Keep W ob w) {p : Addr} (hp : p.block < W.heap.size) (hn : ob ≠ some p.block) : w.cell? p = W.cell? p := by
  unfold World.cell?
  rw [h.2 p.block hp hn]
end Go.Proofs.Ytmnddahkbmlibaa

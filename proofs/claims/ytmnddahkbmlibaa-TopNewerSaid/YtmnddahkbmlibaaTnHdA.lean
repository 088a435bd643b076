/- One record of the elder game, read and written as a whole. -/
import Derived.Deep.MidRow
import Derived.Deep.RegionHeld3
import Derived.Deep.DeepCutAuto
import Derived.Test.YtmnddahkbmlibaaTnRefBA
namespace Go.Proofs.Ytmnddahkbmlibaa
open Go.RowKit Go.Maps
theorem heap_setCells_other (b : Nat) : ∀ (vs : List Value) (o : Nat) (w : World) (k : Nat), k ≠ b → (w.setCells b o vs).heap[k]? = w.heap[k]?
  | [], _, _, _, _ => rfl
  | v :: r, o, w, k, h => by
    rw [World.setCells, heap_setCells_other b r (o + 1) _ k h]
    exact heap_setCell_other w ⟨b, o, none⟩ k v (fun e => h e)
theorem below_setCells {B b : Nat} {a : World} (hb : B ≤ b) : ∀ (vs : List Value) (o : Nat) (w : World), Below B a w → Below B a (w.setCells b o vs)
  | [], _, _, h => h
  | v :: r, o, w, h => by
    rw [World.setCells]
    exact below_setCells hb r (o + 1) _ (h.setCell (p := ⟨b, o, none⟩) hb v)
theorem Recs.held {W : World} {g : Nat} {es : List (List Int)} (h : Recs W (some ⟨g, 0, none⟩) 10 es) {k : Nat} (hk : k < es.length) {t : List Int} (ht : rec es k = t) :
    ∀ j, j < 10 → ∀ w', Below W.heap.size W w' → w'.cell? ⟨g, k * 10 + j, none⟩ = some (.int .i64 (fld t j)) := fun j hj w' hb => by
  obtain ⟨b', o', hbo, hc⟩ := (h.below hb).at hk
  cases hbo
  have := hc j hj
  rw [Nat.zero_add] at this
  rw [← ht]
  exact this
end Go.Proofs.Ytmnddahkbmlibaa
namespace Go.Proofs.Ytmnddahkbmlibaa
open Go.RowKit Go.Maps
def Kept (m b : Nat) (W w' : World) : Prop := Below m W w' ∧ w'.heap[b]? = W.heap[b]?
theorem Kept.start (m b : Nat) (W : World) : Kept m b W W.drew := ⟨(Below.refl _ _).drew, rfl⟩
theorem Kept.call {m b : Nat} {W w' w2 : World} (h : Kept m b W w') (hm : m ≤ W.heap.size) (hb : b < W.heap.size) (h2 : Below w'.heap.size w' w2) : Kept m b W w2 :=
  ⟨h.1.trans (h2.mono (Nat.le_trans hm h.1.size)), (h2.block b (Nat.lt_of_lt_of_le hb h.1.size)).trans h.2⟩
theorem Kept.set {m b : Nat} {W w' : World} (h : Kept m b W w') (hb : b ≠ m) (j : Nat) (v : Value) : Kept m b W (w'.setCell ⟨m, j, none⟩ v) :=
  ⟨h.1.setCell (p := ⟨m, j, none⟩) (Nat.le_refl _) v, (heap_setCell_other w' ⟨m, j, none⟩ b v (fun e => hb e)).trans h.2⟩
theorem Kept.cell {m b : Nat} {W w' : World} (h : Kept m b W w') {k : Nat} (hk : k < m ∨ k = b) (j : Nat) : w'.cell? ⟨k, j, none⟩ = W.cell? ⟨k, j, none⟩ := by
  rcases hk with hk | rfl
  · exact h.1.cell (p := ⟨k, j, none⟩) hk
  · exact World.cell?_of_block (w := W) (a := ⟨k, j, none⟩) h.2
end Go.Proofs.Ytmnddahkbmlibaa

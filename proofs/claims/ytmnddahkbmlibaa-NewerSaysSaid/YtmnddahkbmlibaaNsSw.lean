/- A tick under way: all strike at once. -/
import Derived.Deep.RegionHeld3
import Derived.Test.YtmnddahkbmlibaaNsOkA
import Derived.Test.YtmnddahkbmlibaaNsGiA
import Derived.Test.YtmnddahkbmlibaaNsInvZ
namespace Go.Proofs.Ytmnddahkbmlibaa
open Go.RowKit Go.Maps
theorem below_drewd {a w : World} (h : Below a.drew.heap.size a.drew w) : Below a.heap.size a w := ⟨h.os, h.tape, h.output, h.size, h.block⟩
theorem grown_set {w w' : World} {p : Nat} (h : w.grownBy w' (some p)) (j : Nat) (v : Value) : w.grownBy (w'.setCell ⟨p, j, none⟩ v) (some p) :=
  ⟨h.os, h.tape, h.output, by rw [World.size_setCell]; exact h.size, fun k hk hne => (heap_setCell_other w' ⟨p, j, none⟩ k v (fun e => hne (by rw [show k = p from e]))).trans (h.block k hk hne)⟩
end Go.Proofs.Ytmnddahkbmlibaa
namespace Go.Proofs.Ytmnddahkbmlibaa
open Go.RowKit Go.Maps
theorem errV_zero : errV 0 = .nilIface := rfl
theorem errV_some {c : Nat} (h : c ≠ 0) : errV c = .iface 131 (.int .i64 c) := by unfold errV; rw [if_neg h]
end Go.Proofs.Ytmnddahkbmlibaa
namespace Go.Proofs.Ytmnddahkbmlibaa
open Go.RowKit Go.Maps
abbrev nilV : Value := .slice none 0 0
def st0 (t g0 g1 nx : Int) (free : List Int) (us : List (List Int)) : St := { t := t, g0 := g0, g1 := g1, nx := nx, free := free, es := us, born := [] }
theorem Gr.new (w : World) (t g0 g1 nx : Int) (base : Nat) (hb : base ≤ w.heap.size) : Gr base (w.alloc (.cells (refC false (st0 t g0 g1 nx [] []) nilV nilV nilV) 147)) w.heap.size nilV nilV nilV false (st0 t g0 g1 nx [] []) :=
  ⟨heap_alloc_new w _, World.ownsRow_nil _ _ _ _, World.ownsRow_nil _ _ _ _, World.ownsRow_nil _ _ _ _, hb, Or.inl rfl⟩
theorem rowU_cur {base : Nat} {w : World} {v : Value} {us : List (List Int)} (h : RowU base w v us) {g : Nat} (hg : v.ownBlock = some g) : ∃ cur, w.heap[g]? = some (.cells cur 110 (0, 0)) := by
  rcases h.2 with ⟨h', _⟩ | ⟨g', cap', cur, h', _, hc, _⟩
  · rw [h'] at hg; cases hg
  · rw [h'] at hg; cases hg; exact ⟨cur, hc⟩
theorem Gr.grewU {base : Nat} {w w9 : World} {p : Nat} {uv fv bv v9 : Value} {nw : Bool} {s : St} {us : List (List Int)} (h : Gr base w p uv fv bv nw s) (hr9 : RowU base w9 v9 us) (hg9 : w.grownBy w9 uv.ownBlock) : Gr base (w9.setCell ⟨p, 6, none⟩ v9) p v9 fv bv nw { s with es := us } := by
  have hp9 : w9.heap[p]? = some (.cells (refC nw s fv uv bv) 147) := (hg9.block p h.lt (fun e => row_ne h.er h.hp (by decide) e.symm)).trans h.hp
  have fr9 : NRow base w9 fv s.free := row_other h.fr fun g hg => hg9.block g (World.ownsRow.lt h.fr g hg).2 (fun e => by
    obtain ⟨cur, hc⟩ := rowU_cur h.er e.symm
    exact row_ne h.fr hc (by decide) hg)
  have br9 : NRow base w9 bv s.born := row_other h.br fun g hg => hg9.block g (World.ownsRow.lt h.br g hg).2 (fun e => by
    obtain ⟨cur, hc⟩ := rowU_cur h.er e.symm
    exact row_ne h.br hc (by decide) hg)
  have ho : ∀ k, k ≠ p → (w9.setCell ⟨p, 6, none⟩ v9).heap[k]? = w9.heap[k]? := fun k hk => heap_setCell_other w9 ⟨p, 6, none⟩ k v9 (fun e => hk e)
  refine ⟨heap_setCell_same w9 p 6 _ _ v9 hp9, ?_, ?_, ?_, h.bp, h.fb⟩
  · exact row_other hr9 fun g hg => ho g fun e => row_ne hr9 hp9 (by decide) (by rw [hg, e])
  · exact row_other fr9 fun g hg => ho g fun e => row_ne fr9 hp9 (by decide) (by rw [hg, e])
  · exact row_other br9 fun g hg => ho g fun e => row_ne br9 hp9 (by decide) (by rw [hg, e])
def SB (B : Nat) (u : List Int) (w : World) : Prop := w.heap[B]? = some (.cells (entC u) 86)
theorem SB.drew {B : Nat} {u : List Int} {w : World} (h : SB B u w) : SB B u w.drew := h
theorem SB.alloc {B : Nat} {u : List Int} {w : World} (h : SB B u w) (o : Obj) : SB B u (w.alloc o) := (heap_alloc_old w o (Array.getElem?_eq_some_iff.1 h).1).trans h
theorem SB.set {B : Nat} {u : List Int} {w : World} (h : SB B u w) {q j : Nat} (hq : B ≠ q) (v : Value) : SB B u (w.setCell ⟨q, j, none⟩ v) := (heap_setCell_other w ⟨q, j, none⟩ B v (fun e => hq e)).trans h
end Go.Proofs.Ytmnddahkbmlibaa

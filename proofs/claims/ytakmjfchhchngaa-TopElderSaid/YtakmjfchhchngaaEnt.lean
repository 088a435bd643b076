/- One record of the elder game, read and written as a whole. -/
import Derived.Test.YtakmjfchhchngaaGl
import Derived.Deep.MidRow
namespace Go.Proofs.Ytakmjfchhchngaa
open Go.RowKit Go.Maps

abbrev zeroC : Array Value := #[.int .i64 0, .int .i64 0, .int .i64 0, .int .i64 0, .int .i64 0, .int .i64 0, .int .i64 0, .int .i64 0, .int .i64 0, .int .i64 0]
theorem ent_size : (Try.prog.info? 86).map (·.size) = some 10 := by kernel_rfl
theorem recL_ent (u : List Int) : (recL 10 u).toArray = entC u := rfl
theorem recL_one (u : List Int) : ∀ v ∈ recL 10 u, v.oneCell' = true := by
  intro v hv
  simp only [recL, List.mem_map] at hv
  obtain ⟨j, _, rfl⟩ := hv
  rfl
theorem ent_range {w : World} {b o : Nat} {u : List Int} (h : ∀ j, j < 10 → w.cell? ⟨b, o + j, none⟩ = some (.int .i64 (fld u j))) : w.rangeAt b o (recL 10 u) := fun j v hv => by
  have hj : j < 10 := by
    have := (List.getElem?_eq_some_iff.1 hv).1
    rwa [recL_length] at this
  rw [recL_get u hj] at hv
  rw [h j hj]
  exact hv
theorem load_ent {w : World} {b o : Nat} {u : List Int} (h : ∀ j, j < 10 → w.cell? ⟨b, o + j, none⟩ = some (.int .i64 (fld u j))) :
    (Instr.loadAt 86 (.pointer (some ⟨b, o, none⟩))).run Try.prog w = .ok (entV u) w :=
  run_loadAt_mid w b o 86 (recL 10 u) _ (ent_range h) Try.underlying86 rfl (by rw [recL_length]; exact ent_size)
/- The world with one record written. -/
def entW (w : World) (b o : Nat) (u : List Int) : World := w.setCells b o (recL 10 u)
theorem store_ent {w : World} {b o : Nat} (u : List Int) (h : ∀ j, j < 10 → (w.cell? ⟨b, o + j, none⟩).isSome = true ∧ w.frozen? ⟨b, o + j, none⟩ = false) :
    (Instr.storeAt 86 (.pointer (some ⟨b, o, none⟩)) (entV u)).run Try.prog w = .ok () (entW w b o u) := by
  have := run_storeAt_mid (P := Try.prog) w b o 86 (recL 10 u).toArray (fun j hj => h j (by simpa [recL_length] using hj)) (by rw [List.size_toArray, recL_length]; exact ent_size) (all_oneCell_toArray (recL_one u))
  exact this
theorem heap_setCells_other (b : Nat) : ∀ (vs : List Value) (o : Nat) (w : World) (k : Nat), k ≠ b → (w.setCells b o vs).heap[k]? = w.heap[k]?
  | [], _, _, _, _ => rfl
  | v :: r, o, w, k, h => by
    rw [World.setCells, heap_setCells_other b r (o + 1) _ k h]
    exact heap_setCell_other w ⟨b, o, none⟩ k v (fun e => h e)
theorem below_setCells {B b : Nat} {a : World} (hb : B ≤ b) : ∀ (vs : List Value) (o : Nat) (w : World), Below B a w → Below B a (w.setCells b o vs)
  | [], _, _, h => h
  | v :: r, o, w, h => by
    rw [World.setCells]
    exact below_setCells hb r (o + 1) _ (h.setCell (p := ⟨b, o, none⟩) hb v)
theorem below_entW {B b o : Nat} {a w : World} {u : List Int} (h : Below B a w) (hb : B ≤ b) : Below B a (entW w b o u) := below_setCells hb _ _ _ h
theorem entW_other {w : World} {b o : Nat} {u : List Int} {k : Nat} (h : k ≠ b) : (entW w b o u).heap[k]? = w.heap[k]? := heap_setCells_other b _ _ _ _ h
theorem entW_cell {w : World} {b o : Nat} {u : List Int} (h : ∀ j, j < 10 → (w.cell? ⟨b, o + j, none⟩).isSome = true) : ∀ j, j < 10 → (entW w b o u).cell? ⟨b, o + j, none⟩ = some (.int .i64 (fld u j)) := fun j hj => by
  have := World.cell?_setCells_in b (recL 10 u) o w (fun i hi => h i (by rwa [recL_length] at hi)) j (by rw [recL_length]; exact hj)
  unfold entW
  rw [this]
  simp [recL]
/- A box that was laid empty. -/
def Box0 (w : World) (b : Nat) : Prop := w.heap[b]? = some (.cells zeroC 86)
theorem Box0.there {w : World} {b : Nat} (h : Box0 w b) : ∀ j, j < 10 → (w.cell? ⟨b, 0 + j, none⟩).isSome = true ∧ w.frozen? ⟨b, 0 + j, none⟩ = false := fun j hj => by
  refine ⟨?_, frozen_of_row w b (0 + j) _ _ h⟩
  rw [cell_of_row w b (0 + j) _ _ _ h, Nat.zero_add]
  match j, hj with
  | 0, _ => rfl
  | 1, _ => rfl
  | 2, _ => rfl
  | 3, _ => rfl
  | 4, _ => rfl
  | 5, _ => rfl
  | 6, _ => rfl
  | 7, _ => rfl
  | 8, _ => rfl
  | 9, _ => rfl
theorem Box0.store {w : World} {b : Nat} (h : Box0 w b) (u : List Int) : (Instr.storeAt 86 (.pointer (some ⟨b, 0, none⟩)) (entV u)).run Try.prog w = .ok () (entW w b 0 u) := store_ent u h.there
theorem Box0.cells {w : World} {b : Nat} (h : Box0 w b) (u : List Int) : ∀ j, j < 10 → (entW w b 0 u).cell? ⟨b, j, none⟩ = some (.int .i64 (fld u j)) := fun j hj => by
  have := entW_cell (u := u) (fun j hj => (h.there j hj).1) j hj
  rwa [Nat.zero_add] at this
theorem Box0.new (w : World) : Box0 (w.alloc (.cells zeroC 86)) w.heap.size := heap_alloc_new w _
theorem Box0.below {w w' : World} {b : Nat} (h : Box0 w b) (hb : Below w.heap.size w w') : Box0 w' b := by
  unfold Box0 at h ⊢
  rw [hb.block b (Array.getElem?_eq_some_iff.1 h).1]
  exact h
theorem Box0.drew {w : World} {b : Nat} (h : Box0 w b) : Box0 w.drew b := h
theorem entW_nest (w : World) (b : Nat) (u : List Int) : (((((((((w.setCell ⟨b, 0, none⟩ (.int .i64 (fld u 0))).setCell ⟨b, 1, none⟩ (.int .i64 (fld u 1))).setCell ⟨b, 2, none⟩ (.int .i64 (fld u 2))).setCell ⟨b, 3, none⟩ (.int .i64 (fld u 3))).setCell ⟨b, 4, none⟩ (.int .i64 (fld u 4))).setCell ⟨b, 5, none⟩ (.int .i64 (fld u 5))).setCell ⟨b, 6, none⟩ (.int .i64 (fld u 6))).setCell ⟨b, 7, none⟩ (.int .i64 (fld u 7))).setCell ⟨b, 8, none⟩ (.int .i64 (fld u 8))).setCell ⟨b, 9, none⟩ (.int .i64 (fld u 9)) = entW w b 0 u := rfl
theorem Box0.zero {w : World} {b : Nat} (h : Box0 w b) : ∀ j, j < 10 → w.cell? ⟨b, j, none⟩ = some (.int .i64 0) := fun j hj => by
  rw [cell_of_row w b j _ _ _ h]
  match j, hj with
  | 0, _ => rfl
  | 1, _ => rfl
  | 2, _ => rfl
  | 3, _ => rfl
  | 4, _ => rfl
  | 5, _ => rfl
  | 6, _ => rfl
  | 7, _ => rfl
  | 8, _ => rfl
  | 9, _ => rfl
theorem Box0.free {w : World} {b : Nat} (h : Box0 w b) (j : Nat) : w.frozen? ⟨b, j, none⟩ = false := frozen_of_row w b j _ _ h
theorem box_cells {w : World} {b : Nat} {u : List Int} (h : w.heap[b]? = some (.cells (entC u) 86)) : ∀ j, j < 10 → w.cell? ⟨b, j, none⟩ = some (.int .i64 (fld u j)) := fun j hj => by
  rw [cell_of_row w b j _ _ _ h]
  match j, hj with
  | 0, _ => rfl
  | 1, _ => rfl
  | 2, _ => rfl
  | 3, _ => rfl
  | 4, _ => rfl
  | 5, _ => rfl
  | 6, _ => rfl
  | 7, _ => rfl
  | 8, _ => rfl
  | 9, _ => rfl
/- A record of a row, in every world that has kept what was there. -/
theorem Recs.held {W : World} {g : Nat} {es : List (List Int)} (h : Recs W (some ⟨g, 0, none⟩) 10 es) {k : Nat} (hk : k < es.length) {t : List Int} (ht : rec es k = t) :
    ∀ j, j < 10 → ∀ w', Below W.heap.size W w' → w'.cell? ⟨g, k * 10 + j, none⟩ = some (.int .i64 (fld t j)) := fun j hj w' hb => by
  obtain ⟨b', o', hbo, hc⟩ := (h.below hb).at hk
  cases hbo
  have := hc j hj
  rw [Nat.zero_add] at this
  rw [← ht]
  exact this
end Go.Proofs.Ytakmjfchhchngaa

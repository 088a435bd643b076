/- The sorted row: what lies in memory behind slices.SortFunc. -/
import Derived.Test.YtgiieepfhohmhaaVVwS
import Derived.Test.YtgiieepfhohmhaaVVwT
namespace Go.Proofs.Ytgiieepfhohmhaa
open Go.RowKit Go.Maps Go.Shelf Go.Sort
def encS (u : List Int) : List Value := (entC u).toList
theorem encS_one (x : List Int) : ∀ v ∈ encS x, v.oneCell' = true := by
  intro v hv
  simp [encS] at hv
  rcases hv with rfl | rfl | rfl | rfl | rfl | rfl | rfl | rfl | rfl | rfl <;> rfl
theorem flatS_get (d : Array (List Int)) {i j : Nat} (hi : i < d.size) (hj : j < 10) : (flatK encS 10 d)[i * 10 + j]! = .int .i64 (fld d[i]! j) := by
  have hlt : i * 10 + j < d.size * 10 := by omega
  rw [get_flatK encS 10 d _ hlt]
  have e1 : (i * 10 + j) / 10 = i := by omega
  have e2 : (i * 10 + j) % 10 = j := by omega
  rw [e1, e2]
  match j, hj with
  | 0, _ | 1, _ | 2, _ | 3, _ | 4, _ | 5, _ | 6, _ | 7, _ | 8, _ | 9, _ => rfl
theorem rec_arr (d : Array (List Int)) {i : Nat} (hi : i < d.size) : rec d.toList i = d[i]! := by
  rw [rec_at (by simpa using hi), getElem!_pos d i hi, Array.getElem_toList]
theorem holds_recs {w : World} {g : Nat} {d : Array (List Int)} (h : HoldsK encS 10 w g 0 d) : Recs w (some ⟨g, 0, none⟩) 10 d.toList := by
  refine Or.inr ⟨g, 0, rfl, fun i hi j hj => ?_⟩
  have hi' : i < d.size := by simpa using hi
  have h1 := (h (i * 10 + j) (by rw [size_flatK]; omega)).1
  rw [← Nat.add_assoc] at h1
  rw [h1, rec_arr d hi']
  exact congrArg some (flatS_get d hi' hj)
theorem holds_row {base : Nat} {w : World} {g c : Nat} {L : List (List Int)} (h : RowS base w (.slice (some ⟨g, 0, none⟩) L.length c) L) : HoldsK encS 10 w g 0 L.toArray := by
  intro m hm
  rw [size_flatK] at hm
  have hm' : m < L.length * 10 := by simpa using hm
  refine ⟨?_, World.ownsRow.frozenAt h _⟩
  rw [Nat.zero_add, World.ownsRow.cellAt h m hm']
  have e : m = (m / 10) * 10 + m % 10 := by omega
  have hr : m % 10 < 10 := Nat.mod_lt _ (by omega)
  have hq : m / 10 < L.length := by omega
  generalize m / 10 = q at e hq
  generalize m % 10 = r at e hr
  subst e
  rw [flat_get hr, if_pos hq]
  have h2 := flatS_get L.toArray (i := q) (j := r) (by simpa using hq) hr
  rw [h2, ← rec_arr L.toArray (by simpa using hq)]
  rfl
theorem grownBy_sortedS {w : World} {g n : Nat} {os : Array Obj} (d : Array (List Int)) : w.grownBy (sortWorldK encS 10 w g 0 n d os) (some g) := by
  unfold sortWorldK putRowK
  refine ⟨rfl, rfl, rfl, by simp, fun k hk hne => ?_⟩
  rw [heap_grow_old _ _ (by simpa using hk)]
  have : g ≠ k := fun e => hne (by rw [e])
  simp [putRow, mapBlock, Sort.ahead, Array.getElem?_modify, this]
theorem sortS_some {ρ : Go.Shelf.Ren} (Ly : SlLaysF0.n6 Try.prog ρ) (h6 : ρ.f 6 = 169) (h24 : ρ.t 24 = 171) (base g vc : Nat) (L : List (List Int)) (w : World) (hrow : RowS base w (.slice (some ⟨g, 0, none⟩) L.length vc) L) (hl : L.length ≤ 1000) (hb : base ≤ g) (hg : g < w.heap.size) :
    Calls Try.prog 169 #[.slice (some ⟨g, 0, none⟩) L.length vc, .func (.func 170) #[] #[]] w fun e w' => e = .returned (.tuple #[]) ∧ ∃ d' : Array (List Int), PermIn 0 L.toArray.size L.toArray d' ∧ SortedIn (ltOf rowsZ) 0 L.toArray.size d' ∧ Recs w' (some ⟨g, 0, none⟩) 10 d'.toList ∧ RowKit.Below base w w' := by
  have eg : ∀ args w, (callFunc 170 args).run Try.prog w = .ok (.enter 170 args) w := enters_of Try.func170 (by kernel_rfl) rfl
  have hH := holds_row hrow
  have hcmp : CmpLays Try.prog 170 #[] encS 10 rowsZ g 0 L.toArray.size w := fun m os dk _ x y => byRows_calls x y _
  have hcon := AnyQ.slices_SortFunc Ly 10 (by rw [h24]; exact Try.isAgg171) (by rw [h24]; exact Try.sizeOf171) encS (fun _ => rfl) encS_one rowsZ swoRows 170 #[] g 0 vc L.toArray w eg hcmp hH hg (by simp; omega)
  rw [h6] at hcon
  have e : L.toArray.size = L.length := by simp
  refine Calls.mono (by rw [e] at hcon; exact hcon) ?_
  rintro e w' ⟨he, d', n, os, hp, hs, rfl⟩
  refine ⟨he, d', hp, hs, holds_recs (holdsK_sortWorldK_c encS 10 w g 0 L.toArray d' n os hH hg hp.1), ?_⟩
  exact grown_to_below (grownBy_sortedS d') hb (by omega)
end Go.Proofs.Ytgiieepfhohmhaa

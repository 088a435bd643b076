/- Views: row by row is a strict weak order; what a sort by it leaves is sorted. -/
import Derived.Shelf.SlSortCmp.WholeK
import Derived.Test.YtgiieepfhohmhabTVwQ
namespace Go.Proofs.Ytgiieepfhohmhab
open Go.Sort Go.Shelf
def orZ (a b : Int) : Int := if a = 0 then b else a
def rowsZ (x y : List Int) : Int := orZ (Lib.compareInt (fld x 1) (fld y 1)) (Lib.compareInt (fld x 0) (fld y 0))
theorem rows_lt (x y : List Int) : ltOf rowsZ x y = decide (fld x 1 < fld y 1 ∨ (fld x 1 = fld y 1 ∧ fld x 0 < fld y 0)) := by
  unfold ltOf rowsZ orZ Lib.compareInt
  rw [decide_eq_decide]
  repeat' split
  all_goals omega
theorem swoRows : SWO (ltOf rowsZ) where
  irrefl x := by rw [rows_lt]; simp
  trans x y z h1 h2 := by rw [rows_lt] at *; simp at *; omega
  ntrans x y z h1 h2 := by rw [rows_lt] at *; simp at *; omega
theorem sorted_le {d : Array (List Int)} (h : SortedIn (ltOf rowsZ) 0 d.size d) : d.toList.Pairwise leV := by
  refine List.pairwise_iff_getElem.2 fun i j hi hj hij => ?_
  have hi' : i < d.size := by simpa using hi
  have hj' : j < d.size := by simpa using hj
  have h1 := h i j (Nat.zero_le _) hij hj'
  rw [rows_lt, getElem!_pos d j hj', getElem!_pos d i hi'] at h1
  have h2 := of_decide_eq_false h1
  unfold leV
  rw [Array.getElem_toList, Array.getElem_toList]
  omega
theorem perm_all {d d' : Array (List Int)} (h : PermIn 0 d.size d d') : d'.toList.Perm d.toList ∧ d'.size = d.size := by
  obtain ⟨h1, _, h3⟩ := h
  refine ⟨?_, h1⟩
  have e1 : (d.extract 0 d.size).toList = d.toList := by simp
  have e2 : (d'.extract 0 d.size).toList = d'.toList := by rw [← h1]; simp
  rw [e1, e2] at h3
  exact h3
theorem sorted_is {es : List (List Int)} {d d' : Array (List Int)} (hO : OnB es) (hA : Apart2 es) (hd : d.toList = es.map (sawR es)) (hp : PermIn 0 d.size d d') (hs : SortedIn (ltOf rowsZ) 0 d.size d') : d'.toList = viewL es := by
  obtain ⟨h1, h2⟩ := perm_all hp
  rw [← h2] at hs
  rw [hd] at h1
  exact sorted_view hO hA h1 (sorted_le hs)
end Go.Proofs.Ytgiieepfhohmhab

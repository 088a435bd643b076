/- Views: row by row is a strict weak order; what a sort by it leaves is sorted. -/
import Derived.Shelf.SlSortCmp.WholeK
import Derived.Test.YtgiieepfhohmhaaVVwQ
import Derived.Test.YtgiieepfhohmhaaVVwP
namespace Go.Proofs.Ytgiieepfhohmhaa
open Go.Sort Go.Shelf
def orZ (a b : Int) : Int := if a = 0 then b else a
def rowsZ (x y : List Int) : Int := orZ (Lib.compareInt (fld x 1) (fld y 1)) (Lib.compareInt (fld x 0) (fld y 0))
theorem rows_lt (x y : List Int) : ltOf rowsZ x y = decide (fld x 1 < fld y 1 ∨ (fld x 1 = fld y 1 ∧ fld x 0 < fld y 0)) := by
  unfold ltOf rowsZ orZ Lib.compareInt
  rw [decide_eq_decide]
  repeat' split
  all_goals omega
theorem swoRows : SWO (ltOf rowsZ) where
  irrefl x := by rw [rows_lt]; simp
  trans x y z h1 h2 := by rw [rows_lt] at *; simp at *; omega
  ntrans x y z h1 h2 := by rw [rows_lt] at *; simp at *; omega
theorem sorted_le {d : Array (List Int)} (h : SortedIn (ltOf rowsZ) 0 d.size d) : d.toList.Pairwise leV := by
  refine List.pairwise_iff_getElem.2 fun i j hi hj hij => ?_
  have hi' : i < d.size := by simpa using hi
  have hj' : j < d.size := by simpa using hj
  have h1 := h i j (Nat.zero_le _) hij hj'
  rw [rows_lt, getElem!_pos d j hj', getElem!_pos d i hi'] at h1
  have h2 := of_decide_eq_false h1
  unfold leV
  rw [Array.getElem_toList, Array.getElem_toList]
  omega
theorem perm_all {d d' : Array (List Int)} (h : PermIn 0 d.size d d') : d'.toList.Perm d.toList ∧ d'.size = d.size := by
  obtain ⟨h1, _, h3⟩ := h
  refine ⟨?_, h1⟩
  have e1 : (d.extract 0 d.size).toList = d.toList := by simp
  have e2 : (d'.extract 0 d.size).toList = d'.toList := by rw [← h1]; simp
  rw [e1, e2] at h3
  exact h3
theorem sorted_is {es : List (List Int)} {d d' : Array (List Int)} (hO : OnB es) (hA : Apart2 es) (hd : d.toList = es.map (sawR es)) (hp : PermIn 0 d.size d d') (hs : SortedIn (ltOf rowsZ) 0 d.size d') : d'.toList = viewL es := by
  obtain ⟨h1, h2⟩ := perm_all hp
  rw [← h2] at hs
  rw [hd] at h1
  exact sorted_view hO hA h1 (sorted_le hs)
end Go.Proofs.Ytgiieepfhohmhaa
namespace Go.Proofs.Ytgiieepfhohmhaa
open Go.RowKit Go.Maps Go.Sort
theorem isNaN_calls (a : Int) (w : World) : Calls Try.prog 209 #[.int .i64 a] w fun e w' => e = .returned (.bool false) ∧ w' = w := by
  have h : (a != a) = false := by simp
  go_enter Try.func209, Try.ntmps209
  go_wp2
  go_ret
  exact ⟨rfl, rfl⟩
theorem compareI_calls (a b : Int) (w : World) : Calls Try.prog 191 #[.int .i64 a, .int .i64 b] w fun e w' => e = .returned (.int .i64 (Lib.compareInt a b)) ∧ w' = w := by
  unfold Lib.compareInt
  by_cases h1 : a < b
  · rw [if_pos h1]
    go_enter Try.func191, Try.ntmps191
    go_wp2_with (first
      | (go_at_call 209; refine (isNaN_calls _ _).mono ?_; rintro e w2 ⟨rfl, rfl⟩))
    go_ret
    exact ⟨rfl, rfl⟩
  · rw [if_neg h1]
    by_cases h2 : b < a
    · rw [if_pos h2]
      go_enter Try.func191, Try.ntmps191
      go_wp2_with (first
        | (go_at_call 209; refine (isNaN_calls _ _).mono ?_; rintro e w2 ⟨rfl, rfl⟩))
      go_ret
      exact ⟨rfl, rfl⟩
    · rw [if_neg h2]
      go_enter Try.func191, Try.ntmps191
      go_wp2_with (first
        | (go_at_call 209; refine (isNaN_calls _ _).mono ?_; rintro e w2 ⟨rfl, rfl⟩))
      go_ret
      exact ⟨rfl, rfl⟩
theorem or_calls (a b : Int) (g : Nat) (w : World) (h0 : w.cell? ⟨g, 0, none⟩ = some (.int .i64 a)) (h1 : w.cell? ⟨g, 1, none⟩ = some (.int .i64 b)) : Calls Try.prog 190 #[.slice (some ⟨g, 0, none⟩) 2 2] w fun e w' => e = .returned (.int .i64 (orZ a b)) ∧ w' = w := by
  have HN : Hid (Nums w (some ⟨g, 0, none⟩) [a, b]) := by
    refine Or.inr ⟨g, 0, rfl, fun i hi => ?_⟩
    have hi' : i < 2 := hi
    match i, hi' with
    | 0, _ => exact h0
    | 1, _ => exact h1
  clear h0 h1
  go_enter Try.func190, Try.ntmps190
  go_wp2_with fail
  go_loopw [8] (fun i wr => ∃ k : Nat, k ≤ 2 ∧ i = .int .i64 k ∧ Hid ((∀ j, j < k → fld [a, b] j = 0)) ∧ wr = w) (fun i _ => 2 - (intOf i).toNat)
  case atStart => exact ⟨0, Nat.zero_le _, rfl, fun j hj => absurd hj (Nat.not_lt_zero _), rfl⟩
  case round =>
    obtain ⟨k, hk, rfl, HZ, rfl⟩ := hrel
    by_cases hlt : k < 2
    · have hltz : (k : Int) < 2 := by omega
      obtain ⟨b', o', e, hc⟩ := HN.out.at (i := k) hlt
      cases e
      rw [Nat.zero_add] at hc
      by_cases hz : fld [a, b] k = 0
      · have HZN : Hid (∀ j, j < k + 1 → fld [a, b] j = 0) := fun j hj => by
          rcases Nat.lt_succ_iff_lt_or_eq.1 hj with h | h
          · exact HZ.out j h
          · rw [h]; exact hz
        have hzz : (fld [a, b] k != 0) = false := by simpa using hz
        generalize fld [a, b] k = v at hc hzz
        clear hz
        go_wp2
        go_roundw
        case rel => exact ⟨k + 1, by omega, by go_num, HZN, trivial⟩
        case measure => simp [intOf]; omega
      · have hzz : (fld [a, b] k != 0) = true := by simpa using hz
        have HV : Hid (fld [a, b] k = orZ a b) := by
          unfold orZ
          match k, hlt with
          | 0, _ =>
            have hz' : a ≠ 0 := hz
            exact (if_neg hz').symm
          | 1, _ =>
            have h0 : a = 0 := HZ.out 0 (by omega)
            exact (if_pos h0).symm
        generalize fld [a, b] k = v at hc hzz HV
        clear hz HZ
        go_wp2
        go_ret
        exact ⟨by rw [← HV.out]; rfl, rfl⟩
    · have hltz : ¬ (k : Int) < 2 := by omega
      have e : orZ a b = 0 := by
        have h0 : a = 0 := HZ.out 0 (by omega)
        have h1 : b = 0 := HZ.out 1 (by omega)
        unfold orZ
        rw [if_pos h0]
        exact h1
      have HE := hid e
      clear e
      go_wp2
      go_ret
      exact ⟨by rw [HE.out]; rfl, rfl⟩
def Grows (W w' : World) : Prop := ∃ q os', w' = grow (W.drewN q) os'
theorem Grows.alloc {W w' : World} (h : Grows W w') (o : Obj) : Grows W (w'.alloc o) := by
  obtain ⟨q, os, rfl⟩ := h
  exact ⟨q, os ++ #[o], by rw [alloc_eq_grow, grow_grow]⟩
theorem Grows.drew {W w' : World} (h : Grows W w') : Grows W w'.drew := by
  obtain ⟨q, os, rfl⟩ := h
  exact ⟨q + 1, os, rfl⟩
theorem Grows.trans {W X Y : World} (h : Grows W X) (g : Grows X Y) : Grows W Y := by
  obtain ⟨q, os, rfl⟩ := h
  obtain ⟨q2, os2, rfl⟩ := g
  exact ⟨q + q2, os ++ os2, by rw [← grow_grow]; simp [grow, World.drewN, Nat.add_assoc]⟩
theorem Grows.cell {W w' : World} (h : Grows W w') {p : Addr} {v : Value} (hc : W.cell? p = some v) : w'.cell? p = some v := by
  obtain ⟨q, os, rfl⟩ := h
  have hlt := World.block_lt_of_cell? W p hc
  rw [← hc]
  unfold World.cell? grow World.drewN
  simp [Array.getElem?_append_left hlt]
theorem grows_refl (W : World) : Grows W W := ⟨0, #[], by rw [grow_empty]; rfl⟩
end Go.Proofs.Ytgiieepfhohmhaa

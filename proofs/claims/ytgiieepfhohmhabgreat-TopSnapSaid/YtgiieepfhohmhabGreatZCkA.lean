/- Package snap: may a tape be. -/
import Derived.Test.YtgiieepfhohmhabGreatZRulA
import Derived.Test.YtgiieepfhohmhabGreatZElA
import Derived.Test.YtgiieepfhohmhabGreatZElB
import Derived.Test.YtgiieepfhohmhabGreatZTnA
import Derived.Test.YtgiieepfhohmhabGreatZWire6
namespace Go.Proofs.YtgiieepfhohmhabGreat
open Go.RowKit
theorem tooM_yes {ls : List (List (List Int))} {j : Nat} (hj : j < ls.length) (h : 8 < (ls.getD j []).length) : tooM ls = true := by
  unfold tooM
  rw [List.any_eq_true]
  refine ⟨ls.getD j [], ?_, decide_eq_true h⟩
  rw [List.getD_eq_getElem?_getD, List.getElem?_eq_getElem hj]
  exact List.getElem_mem hj
theorem tooM_no {ls : List (List (List Int))} (h : ∀ j, j < ls.length → ¬ 8 < (ls.getD j []).length) : tooM ls = false := by
  unfold tooM
  rw [List.any_eq_false]
  intro l hl
  obtain ⟨j, hj, rfl⟩ := List.getElem_of_mem hl
  have := h j hj
  rw [List.getD_eq_getElem?_getD, List.getElem?_eq_getElem hj] at this
  simpa using this
def IdxP (b : Bool) (w : World) (e : Ending) (w' : World) : Prop := ∃ r : Int, e = .returned (.int .i64 r) ∧ decide (0 ≤ r) = b ∧ w' = w
set_option maxHeartbeats 1000000 in
theorem tooMany1_calls (la : Option Addr) (n lc : Nat) (w : World) :
    Calls Tryz.prog 227 #[.slice la n lc] w fun e w' => e = .returned (.bool (decide (8 < n))) ∧ w' = w := by
  by_cases h : 8 < n
  · rw [decide_eq_true h]
    have hz : (8 : Int) < (n : Int) := by omega
    go_enter Tryz.func227, Tryz.ntmps227
    go_wp2
    go_ret
    exact ⟨rfl, rfl⟩
  · rw [decide_eq_false h]
    have hz : ¬ (8 : Int) < (n : Int) := by omega
    go_enter Tryz.func227, Tryz.ntmps227
    go_wp2
    go_ret
    exact ⟨rfl, rfl⟩
set_option maxHeartbeats 2000000 in
theorem indexT_calls (ls : List (List (List Int))) (ta : Option Addr) (tc : Nat) (w : World) (hn : ls.length ≤ 1000) (ht : Tks w ta ls) :
    Calls Tryz.prog 263 #[.slice ta ls.length tc, .func (.func 227) #[] #[]] w (IdxP (tooM ls) w) := by
  have eg : ∀ args w, (callFunc 227 args).run Tryz.prog w = .ok (.enter 227 args) w := enters_of Tryz.func227 (by kernel_rfl) rfl
  have HT := hid ht
  clear ht
  go_enter Tryz.func263, Tryz.ntmps263
  go_wp2
  go_loopw [8] (fun i wr => ∃ k : Nat, k ≤ ls.length ∧ i = .int .i64 k ∧ Hid (wr = w) ∧ Hid (∀ j, j < k → ¬ 8 < (ls.getD j []).length)) (fun i _ => ls.length - (intOf i).toNat)
  case atStart => exact ⟨0, Nat.zero_le _, rfl, hid rfl, fun j hj => absurd hj (Nat.not_lt_zero _)⟩
  case round =>
    obtain ⟨k, hk, rfl, HW, HA⟩ := hrel
    by_cases hlt : k < ls.length
    · have hltz : (k : Int) < (ls.length : Int) := by omega
      obtain ⟨b, o, la, lc, rfl, hc, hr⟩ := HT.out.at hlt
      rw [← HW.out] at hc
      have HNO := hid HA.out
      have HY := hid (fun h => @tooM_yes ls k hlt h)
      obtain ⟨n, hn0⟩ : ∃ n, (ls.getD k []).length = n := ⟨_, rfl⟩
      have HEQ := hid hn0
      rw [hn0] at hc HY
      clear hn0
      clear hr
      have HC := hid (tooMany1_calls la n lc wr)
      by_cases h8 : 8 < n
      · have HT8 := hid (HY.out h8)
        rw [decide_eq_true h8] at HC
        clear h8
        go_wp2_with fail
        refine HC.out.mono ?_
        rintro e w' ⟨rfl, rfl⟩
        clear HC
        go_wp2
        go_ret
        exact ⟨(k : Int), rfl, by rw [HT8.out]; exact decide_eq_true (by omega), HW.out⟩
      · have HN : Hid (∀ j, j < k + 1 → ¬ 8 < (ls.getD j []).length) := fun j hj => by
          by_cases e : j = k
          · rw [e, HEQ.out]; exact h8
          · exact HNO.out j (by omega)
        rw [decide_eq_false h8] at HC
        clear h8 HA HNO
        go_wp2_with fail
        refine HC.out.mono ?_
        rintro e w' ⟨rfl, rfl⟩
        clear HC
        go_wp2
        go_roundw
        case rel => exact ⟨k + 1, by omega, by go_num, HW, HN⟩
        case measure => simp [intOf]; omega
    · have hltz : ¬ (k : Int) < (ls.length : Int) := by omega
      have HNO := hid (tooM_no (fun j hj => HA.out j (by omega)))
      clear HA
      go_wp2
      go_ret
      exact ⟨-1, rfl, by rw [HNO.out]; rfl, HW.out⟩
set_option maxHeartbeats 1000000 in
theorem containsT_calls (ls : List (List (List Int))) (ta : Option Addr) (tc : Nat) (w : World) (hn : ls.length ≤ 1000) (ht : Tks w ta ls) :
    Calls Tryz.prog 226 #[.slice ta ls.length tc, .func (.func 227) #[] #[]] w fun e w' => e = .returned (.bool (tooM ls)) ∧ w' = w := by
  have HC := hid (indexT_calls ls ta tc w hn ht)
  clear ht
  go_enter Tryz.func226, Tryz.ntmps226
  go_wp2_with fail
  refine HC.out.mono ?_
  rintro e w' ⟨r, rfl, hr, rfl⟩
  have HR := hid hr
  clear HC hr
  go_wp2
  go_ret
  exact ⟨by rw [← HR.out]; rfl, rfl⟩
set_option maxHeartbeats 1000000 in
theorem tooMany_calls (ls : List (List (List Int))) (ta : Option Addr) (tc : Nat) (left : Int) (w : World) (hn : ls.length ≤ 1000) (ht : Tks w ta ls) :
    Calls Tryz.prog 179 #[.slice ta ls.length tc, .int .i64 left] w fun e w' => e = .returned (.bool (decide (left < (ls.length : Int)) || tooM ls)) ∧ w' = w := by
  by_cases h : left < (ls.length : Int)
  · rw [decide_eq_true h, Bool.true_or]
    go_enter Tryz.func179, Tryz.ntmps179
    go_wp2
    go_ret
    exact ⟨rfl, rfl⟩
  · rw [decide_eq_false h, Bool.false_or]
    have HC := hid (containsT_calls ls ta tc w hn ht)
    clear ht
    go_enter Tryz.func179, Tryz.ntmps179
    go_wp2_with fail
    refine HC.out.mono ?_
    rintro e w' ⟨rfl, rfl⟩
    clear HC
    go_wp2
    go_ret
    exact ⟨rfl, rfl⟩
def RowP (k : Nat) (u : List Int) (w : World) (e : Ending) (w' : World) : Prop := ∃ g, e = .returned (.slice (some ⟨g, 0, none⟩) k k) ∧ (∀ j, j < k → w'.cell? ⟨g, j, none⟩ = some (.int .i64 (fld u j))) ∧ Below w.heap.size w w'
theorem cmd_cells {w : World} {b : Nat} {u : List Int} {t : TypeId} (h : w.heap[b]? = some (.cells (cmdC u) t)) : ∀ j, j < 7 → w.cell? ⟨b, j, none⟩ = some (.int .i64 (fld u j)) := fun j hj => by
  rw [cell_of_row w b j _ _ _ h]
  match j, hj with
  | 0, _ => rfl
  | 1, _ => rfl
  | 2, _ => rfl
  | 3, _ => rfl
  | 4, _ => rfl
  | 5, _ => rfl
  | 6, _ => rfl
set_option maxRecDepth 100000 in
set_option maxHeartbeats 2000000 in
theorem cmdNumbers_calls (u : List Int) (w : World) : Calls Tryz.prog 123 #[cmdV u] w (RowP 7 u w) := by
  have hb : Below w.heap.size w ((w.alloc (.cells (cmdC u) 125)).alloc (.cells (cmdC u) 3)) := ((Below.refl _ w).alloc (Nat.le_refl _) _).alloc (by simp [go_sem]) _
  have hs : (w.alloc (.cells (cmdC u) 125)).heap.size = w.heap.size + 1 := by simp [go_sem]
  have hh : ((w.alloc (.cells (cmdC u) 125)).alloc (.cells (cmdC u) 3)).heap[w.heap.size + 1]? = some (.cells (cmdC u) 3) := by
    rw [← hs]
    exact heap_alloc_new _ _
  have HB := hid hb
  have HH := hid hh
  clear hb hh hs
  go_enter Tryz.func123, Tryz.ntmps123
  go_wp2
  go_ret
  exact ⟨w.heap.size + 1, rfl, cmd_cells HH.out, HB.out⟩
def MinP (k : Nat) (u : List Int) (w : World) (e : Ending) (w' : World) : Prop := ∃ m : Int, e = .returned (.int .i64 m) ∧ decide (m < 0) = negU k u ∧ w' = w
theorem negU_iff (k : Nat) (u : List Int) (b : Bool) (h : b = true ↔ ∃ j, j < k ∧ fld u j < 0) : b = negU k u := by
  unfold negU
  rw [Bool.eq_iff_iff, h, List.any_eq_true]
  constructor
  · rintro ⟨j, hj, hn⟩
    exact ⟨j, List.mem_range.2 hj, decide_eq_true hn⟩
  · rintro ⟨j, hj, hn⟩
    exact ⟨j, List.mem_range.1 hj, of_decide_eq_true hn⟩
set_option maxRecDepth 100000 in
set_option maxHeartbeats 2000000 in
theorem min_calls (k : Nat) (hk : 1 ≤ k) (hk9 : k ≤ 1000) (u : List Int) (g : Nat) (w : World) (hg : ∀ j, j < k → w.cell? ⟨g, j, none⟩ = some (.int .i64 (fld u j))) :
    Calls Tryz.prog 146 #[.slice (some ⟨g, 0, none⟩) k k] w (MinP k u w) := by
  have c0 : w.cell? ⟨g, 0, none⟩ = some (.int .i64 (fld u 0)) := hg 0 (by omega)
  have z0 : ¬ (k : Int) < 1 := by omega
  have z1 : (0 : Int) < (k : Int) := by omega
  have z2 : 0 < k := by omega
  have HG := hid hg
  clear hg
  go_enter Tryz.func146, Tryz.ntmps146
  go_wp2
  go_loopw [3, 4] (fun s3 s4 wr => ∃ (i : Nat) (m : Int), (1 ≤ i ∧ i ≤ k) ∧ s3 = .int .i64 m ∧ s4 = .int .i64 i ∧ Hid (wr = w) ∧ Hid (m < 0 ↔ ∃ j, j < i ∧ fld u j < 0)) (fun _ s4 _ => k - (intOf s4).toNat)
  case atStart => exact ⟨1, fld u 0, ⟨Nat.le_refl _, hk⟩, rfl, rfl, hid rfl, ⟨fun h => ⟨0, by omega, h⟩, fun ⟨j, hj, h⟩ => by rw [show j = 0 by omega] at h; exact h⟩⟩
  case round =>
    obtain ⟨i, m, ⟨hi1, hik⟩, rfl, rfl, HW, HM⟩ := hrel
    by_cases hi : i < k
    · have hiz : (i : Int) < (k : Int) := by omega
      have ci := HG.out i hi
      rw [← HW.out] at ci
      have HNX : Hid (∀ x : Int, x = min m (fld u i) → (x < 0 ↔ ∃ j, j < i + 1 ∧ fld u j < 0)) := fun x hx => by
        constructor
        · intro h
          by_cases hm : m < 0
          · obtain ⟨j, hj, hn⟩ := HM.out.1 hm
            exact ⟨j, by omega, hn⟩
          · exact ⟨i, by omega, by omega⟩
        · rintro ⟨j, hj, hn⟩
          by_cases e : j = i
          · rw [e] at hn; omega
          · have := HM.out.2 ⟨j, by omega, hn⟩
            omega
      generalize fld u i = z at ci HNX
      by_cases hlt : z < m
      · have HN := hid (HNX.out z (by omega))
        clear HM HNX c0
        go_wp2
        go_roundw
        case rel => exact ⟨i + 1, z, ⟨by omega, by omega⟩, by go_num, by go_num, HW, HN⟩
        case measure => simp [intOf]; omega
      · have HN := hid (HNX.out m (by omega))
        clear HM HNX c0
        go_wp2
        go_roundw
        case rel => exact ⟨i + 1, m, ⟨by omega, by omega⟩, by go_num, by go_num, HW, HN⟩
        case measure => simp [intOf]; omega
    · have hiz : ¬ (i : Int) < (k : Int) := by omega
      have hie : i = k := by omega
      have HF : Hid (decide (m < 0) = negU k u) := negU_iff k u _ (by rw [decide_eq_true_iff, ← hie]; exact HM.out)
      clear HM
      go_wp2
      go_ret
      exact ⟨m, rfl, HF.out, HW.out⟩
end Go.Proofs.YtgiieepfhohmhabGreat

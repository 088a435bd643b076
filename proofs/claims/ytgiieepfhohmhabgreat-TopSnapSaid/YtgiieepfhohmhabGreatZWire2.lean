/- What the two functions that make a frame answer: the same bytes. -/
import Derived.Deep.RegionWith
import Derived.Deep.QuietTactic
import Derived.BigQuiet
import Derived.WalkSpells
import Derived.Test.YtgiieepfhohmhabGreatZWire1
import Derived.Test.YtgiieepfhohmhabGreatZElA
namespace Go.Proofs.YtgiieepfhohmhabGreat
open Go.RowKit
theorem cat (a b : List UInt8) : (⟨a.toArray⟩ : ByteArray) ++ ⟨b.toArray⟩ = ⟨(a ++ b).toArray⟩ := by
  apply ByteArray.ext
  simp
def frameL (b : UInt8) (l : List UInt8) : List UInt8 := headL b ++ l ++ le4 (Cr.sumN (headL b ++ l))
theorem frameL_length (b : UInt8) (l : List UInt8) : (frameL b l).length = l.length + 8 := by
  simp [frameL, headL_length, le4_length]; omega
set_option maxRecDepth 100000 in
set_option maxHeartbeats 400000 in
theorem frame_calls (b : UInt8) (l : List UInt8) (hs : l.length ≤ 1000000) (w : World) :
    Calls Tryz.prog 24 #[.int .u8 (b.toNat : Int), .string ⟨l.toArray⟩] w fun e w' => e = .returned (.string ⟨(frameL b l).toArray⟩) ∧ Below w.heap.size w w' := by
  have hl := headL_length b
  have hl4 := le4_length (Cr.sumN (headL b ++ l))
  go_enter Tryz.func24, Tryz.ntmps24
  go_wp2_with fail
  refine (head_calls b _).mono ?_
  rintro e w1 ⟨rfl, hb1⟩
  go_wp2_with fail
  simp only [cat]
  refine (sum_calls (headL b ++ l) (by simp [hl]; omega) _).mono ?_
  rintro e w2 ⟨rfl, rfl⟩
  go_wp2_with fail
  refine (sumBytes_calls (Cr.sumN (headL b ++ l)) (Cr.sumN_lt _) _).mono ?_
  rintro e w3 ⟨rfl, hb3⟩
  go_wp2
  go_ret
  refine ⟨?_, hb1.trans (hb3.mono hb1.size)⟩
  simp only [cat]
  rfl
end Go.Proofs.YtgiieepfhohmhabGreat
namespace Go.Proofs.YtgiieepfhohmhabGreat
open Go.RowKit
theorem cutx (l : List UInt8) (a b : Nat) : (⟨l.toArray⟩ : ByteArray).extract a b = ⟨((l.drop a).take (b - a)).toArray⟩ := by
  apply ByteArray.ext
  apply Array.toList_inj.1
  rw [Lib.extract_data]
theorem bytes_toList (l : List UInt8) : (⟨l.toArray⟩ : ByteArray).toList = l := by rw [Lib.toList_data]
def openE (b : UInt8) (l : List UInt8) : Nat :=
  if l.length < 8 then 4 else if l.take 4 ≠ headL b then 6 else if l.drop (l.length - 4) ≠ le4 (Cr.sumN (l.take (l.length - 4))) then 5 else 0
def midL (l : List UInt8) : List UInt8 := (l.drop 4).take (l.length - 4 - 4)
def openB (b : UInt8) (l : List UInt8) : List UInt8 := if openE b l = 0 then midL l else []
theorem undrew {w w1 : World} (h : Below w.drew.heap.size w.drew w1) : Below w.heap.size w w1 := by
  have h0 : Below w.heap.size w w.drew := (Below.refl _ w).drew
  exact h0.trans (h.mono (Nat.le_of_eq (by simp)))
theorem size_cut (l : List UInt8) (a b : Nat) : ((⟨l.toArray⟩ : ByteArray).extract a b).size ≤ l.length := by
  rw [cutx]
  show (List.toArray _).size ≤ _
  simp
  omega
theorem ret_two {a b : List UInt8} {u v : Value} (h : a = b) (g : u = v) : Ending.returned (.tuple #[.string ⟨a.toArray⟩, u]) = .returned (.tuple #[.string ⟨b.toArray⟩, v]) := by rw [h, g]
set_option maxRecDepth 100000 in
set_option maxHeartbeats 800000 in
theorem open_calls (b : UInt8) (l : List UInt8) (hs : l.length ≤ 1000000) (w : World) :
    Calls Tryz.prog 102 #[.int .u8 (b.toNat : Int), .string ⟨l.toArray⟩] w fun e w' => e = .returned (.tuple #[.string ⟨(openB b l).toArray⟩, errV (openE b l)]) ∧ Below w.heap.size w w' := by
  by_cases h8 : l.length < 8
  · have e1 : openE b l = 4 := by unfold openE; rw [if_pos h8]
    have e2 : openB b l = [] := by unfold openB; rw [if_neg (by omega)]
    rw [e1, e2]
    clear e1 e2
    go_enter Tryz.func102, Tryz.ntmps102
    go_wp2
    go_ret2
    exact ⟨rfl, Below.refl _ _⟩
  · by_cases hh : l.take 4 = headL b
    · have hq : (((⟨l.toArray⟩ : ByteArray).extract 0 4).toList == headL b) = true := by
        rw [cutx, bytes_toList]; simpa using hh
      have ht : ((l.length : Int) - 4).toNat = l.length - 4 := by omega
      by_cases hm : l.drop (l.length - 4) = le4 (Cr.sumN (l.take (l.length - 4)))
      · have e1 : openE b l = 0 := by unfold openE; rw [if_neg h8, if_neg (by simp [hh]), if_neg (by simp [hm])]
        have e2 : openB b l = midL l := by unfold openB; rw [if_pos e1]
        have hq2 : (((⟨l.toArray⟩ : ByteArray).extract (l.length - 4) l.length).toList == le4 (Cr.sumN (l.take (l.length - 4)))) = true := by
          rw [cutx, bytes_toList, List.take_of_length_le (by simp)]; simpa using hm
        rw [e1, e2]
        clear e1 e2 hm hh
        go_enter Tryz.func102, Tryz.ntmps102
        go_wp2_with fail
        go_region_with (go_at_call 71; refine (head_calls b _).mono ?_; rintro e w1 ⟨rfl, hb1⟩)
        all_goals
          go_wp2_with fail
          go_region_with (first | (go_at_call 73; rw [cutx]; refine (sum_calls _ (by simp; omega) _).mono ?_; rintro e w2 ⟨rfl, rfl⟩) | (go_at_call 72; refine (sumBytes_calls _ (Cr.sumN_lt _) _).mono ?_; rintro e w3 ⟨rfl, hb3⟩))
        all_goals
          go_wp2_with fail
          refine (freshS_calls ((⟨l.toArray⟩ : ByteArray).extract 4 (l.length - 4)) _ (Nat.le_trans (size_cut _ _ _) (by omega))).mono ?_
          rintro e w4 ⟨rfl, hb4⟩
          go_wp2
          go_ret2
          have h1 : Below w.heap.size w w1 := undrew hb1
          have h3 : Below w1.heap.size w1 w3 := undrew hb3
          have hz := h1.size
          refine ⟨?_, (h1.trans (h3.mono hz)).trans (hb4.mono (Nat.le_trans hz h3.size))⟩
          rw [cutx]; rfl
      · have e1 : openE b l = 5 := by unfold openE; rw [if_neg h8, if_neg (by simp [hh]), if_pos (by simpa using hm)]
        have e2 : openB b l = [] := by unfold openB; rw [if_neg (by omega)]
        have hq2 : (((⟨l.toArray⟩ : ByteArray).extract (l.length - 4) l.length).toList == le4 (Cr.sumN (l.take (l.length - 4)))) = false := by
          rw [cutx, bytes_toList, List.take_of_length_le (by simp)]; simpa using hm
        rw [e1, e2]
        clear e1 e2 hm hh
        go_enter Tryz.func102, Tryz.ntmps102
        go_wp2_with fail
        go_region_with (go_at_call 71; refine (head_calls b _).mono ?_; rintro e w1 ⟨rfl, hb1⟩)
        all_goals
          go_wp2_with fail
          go_region_with (first | (go_at_call 73; rw [cutx]; refine (sum_calls _ (by simp; omega) _).mono ?_; rintro e w2 ⟨rfl, rfl⟩) | (go_at_call 72; refine (sumBytes_calls _ (Cr.sumN_lt _) _).mono ?_; rintro e w3 ⟨rfl, hb3⟩))
        all_goals
          go_wp2
          go_ret2
          have h1 : Below w.heap.size w w1 := undrew hb1
          have h3 : Below w1.heap.size w1 w3 := undrew hb3
          exact ⟨rfl, h1.trans (h3.mono h1.size)⟩
    · have e1 : openE b l = 6 := by unfold openE; rw [if_neg h8, if_pos (by simpa using hh)]
      have e2 : openB b l = [] := by unfold openB; rw [if_neg (by omega)]
      have hq : (((⟨l.toArray⟩ : ByteArray).extract 0 4).toList == headL b) = false := by
        rw [cutx, bytes_toList]; simpa using hh
      rw [e1, e2]
      clear e1 e2 hh
      go_enter Tryz.func102, Tryz.ntmps102
      go_wp2_with fail
      go_region_with (go_at_call 71; refine (head_calls b _).mono ?_; rintro e w1 ⟨rfl, hb1⟩)
      all_goals
        go_wp2
        go_ret2
        exact ⟨rfl, undrew hb1⟩
theorem framed_iff (b : UInt8) (l : List UInt8) (h8 : 8 ≤ l.length) (hh : l.take 4 = headL b) :
    frameL b (midL l) = l ↔ l.drop (l.length - 4) = le4 (Cr.sumN (l.take (l.length - 4))) := by
  have e1 : headL b ++ midL l = l.take (l.length - 4) := by
    rw [← hh]; unfold midL
    conv => rhs; rw [show l.length - 4 = 4 + (l.length - 4 - 4) by omega, List.take_add]
  unfold frameL
  rw [e1]
  constructor
  · intro h
    have h2 : l.take (l.length - 4) ++ le4 (Cr.sumN (l.take (l.length - 4))) = l.take (l.length - 4) ++ l.drop (l.length - 4) := by
      rw [List.take_append_drop]; exact h
    exact (List.append_cancel_left h2).symm
  · intro h
    rw [← h, List.take_append_drop]
end Go.Proofs.YtgiieepfhohmhabGreat

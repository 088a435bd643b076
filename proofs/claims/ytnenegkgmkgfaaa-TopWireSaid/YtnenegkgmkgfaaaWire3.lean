/- What the two functions that open a frame answer, and how an error is held against its number. -/
import Derived.Test.YtnenegkgmkgfaaaWire2
import Derived.Deep.RegionWith
import Derived.Deep.QuietTactic
import Derived.BigQuiet
import Derived.WalkSpells
namespace Go.Proofs.Ytnenegkgmkgfaaa
open Go.RowKit

theorem cutx (l : List UInt8) (a b : Nat) : (⟨l.toArray⟩ : ByteArray).extract a b = ⟨((l.drop a).take (b - a)).toArray⟩ := by
  apply ByteArray.ext
  apply Array.toList_inj.1
  rw [Lib.extract_data]
theorem bytes_toList (l : List UInt8) : (⟨l.toArray⟩ : ByteArray).toList = l := by rw [Lib.toList_data]

def openE (b : UInt8) (l : List UInt8) : Nat :=
  if l.length < 8 then 4 else if l.take 4 ≠ headL b then 6 else if l.drop (l.length - 4) ≠ le4 (Cr.sumN (l.take (l.length - 4))) then 5 else 0
def midL (l : List UInt8) : List UInt8 := (l.drop 4).take (l.length - 4 - 4)
def openB (b : UInt8) (l : List UInt8) : List UInt8 := if openE b l = 0 then midL l else []
def errV (c : Nat) : Value := if c = 0 then .nilIface else .iface 56 (.int .i64 c)

theorem assert_errno (c : Int) (w : World) : (Instr.typeAssert (.iface 56 (.int .i64 c)) 24 56 true).run Try.prog w = .ok (.tuple #[.int .i64 c, .bool true]) w := by kernel_rfl

set_option maxHeartbeats 400000 in
theorem same_calls (c f : Nat) (hf : f ≤ 1000) (hc : c ≤ 1000) (w : World) :
    Calls Try.prog 9 #[errV c, .int .i64 f] w fun e w' => e = .returned (.bool (decide (c = f))) ∧ w' = w := by
  by_cases h0 : c = 0
  · subst h0
    by_cases hf0 : f = 0
    · subst hf0
      simp only [errV, if_true, decide_true]
      go_enter Try.func9, Try.ntmps9
      go_wp2
      go_ret
      exact ⟨rfl, rfl⟩
    · have e : decide (0 = f) = false := by simp; omega
      have h1 : ((f : Int) == 0) = false := by rw [beq_eq_false_iff_ne]; omega
      rw [e]
      simp only [errV, if_true]
      clear e
      go_enter Try.func9, Try.ntmps9
      go_wp2
      go_ret
      exact ⟨rfl, rfl⟩
  · simp only [errV, if_neg h0]
    have hta := assert_errno (c : Int) w
    by_cases hf0 : f = 0
    · subst hf0
      have e : decide (c = 0) = false := by simp [h0]
      rw [e]
      clear e
      go_enter Try.func9, Try.ntmps9
      go_wp2
      go_ret
      exact ⟨rfl, rfl⟩
    · have hp : (0 : Int) < (f : Int) := by omega
      by_cases hcf : c = f
      · subst hcf
        have e : decide (c = c) = true := by simp
        rw [e]
        clear e
        go_enter Try.func9, Try.ntmps9
        go_wp2
        go_ret
        exact ⟨rfl, rfl⟩
      · have e : decide (c = f) = false := by simp [hcf]
        have h1 : ((c : Int) == (f : Int)) = false := by rw [beq_eq_false_iff_ne]; omega
        rw [e]
        clear e
        go_enter Try.func9, Try.ntmps9
        go_wp2
        go_ret
        exact ⟨rfl, rfl⟩

theorem undrew {w w1 : World} (h : Below w.drew.heap.size w.drew w1) : Below w.heap.size w w1 := by
  have h0 : Below w.heap.size w w.drew := (Below.refl _ w).drew
  exact h0.trans (h.mono (Nat.le_of_eq (by simp)))
theorem size_cut (l : List UInt8) (a b : Nat) : ((⟨l.toArray⟩ : ByteArray).extract a b).size ≤ l.length := by
  rw [cutx]
  show (List.toArray _).size ≤ _
  simp
  omega
theorem ret_two {a b : List UInt8} {u v : Value} (h : a = b) (g : u = v) : Ending.returned (.tuple #[.string ⟨a.toArray⟩, u]) = .returned (.tuple #[.string ⟨b.toArray⟩, v]) := by rw [h, g]
theorem nilData : (⟨#[]⟩ : ByteArray) = ⟨([] : List UInt8).toArray⟩ := rfl

set_option maxHeartbeats 800000 in
theorem open_calls (b : UInt8) (l : List UInt8) (hs : l.length ≤ 1000000) (w : World) :
    Calls Try.prog 17 #[.int .u8 (b.toNat : Int), .string ⟨l.toArray⟩] w fun e w' => e = .returned (.tuple #[.string ⟨(openB b l).toArray⟩, errV (openE b l)]) ∧ Below w.heap.size w w' := by
  by_cases h8 : l.length < 8
  · have e1 : openE b l = 4 := by unfold openE; rw [if_pos h8]
    have e2 : openB b l = [] := by unfold openB; rw [if_neg (by omega)]
    rw [e1, e2]
    clear e1 e2
    go_enter Try.func17, Try.ntmps17
    go_wp2
    go_ret2
    exact ⟨rfl, Below.refl _ _⟩
  · by_cases hh : l.take 4 = headL b
    · have hq : (((⟨l.toArray⟩ : ByteArray).extract 0 4).toList == headL b) = true := by
        rw [cutx, bytes_toList]; simpa using hh
      have ht : ((l.length : Int) - 4).toNat = l.length - 4 := by omega
      by_cases hm : l.drop (l.length - 4) = le4 (Cr.sumN (l.take (l.length - 4)))
      · have e1 : openE b l = 0 := by unfold openE; rw [if_neg h8, if_neg (by simp [hh]), if_neg (by simp [hm])]
        have e2 : openB b l = midL l := by unfold openB; rw [if_pos e1]
        have hq2 : (((⟨l.toArray⟩ : ByteArray).extract (l.length - 4) l.length).toList == le4 (Cr.sumN (l.take (l.length - 4)))) = true := by
          rw [cutx, bytes_toList, List.take_of_length_le (by simp)]; simpa using hm
        rw [e1, e2]
        clear e1 e2 hm hh
        go_enter Try.func17, Try.ntmps17
        go_wp2_with fail
        go_region_with (go_at_call 31; refine (head_calls b _).mono ?_; rintro e w1 ⟨rfl, hb1⟩)
        all_goals
          go_wp2_with fail
          go_region_with (first | (go_at_call 13; rw [cutx]; refine (sum_calls _ (by simp; omega) _).mono ?_; rintro e w2 ⟨rfl, rfl⟩) | (go_at_call 32; refine (sumBytes_calls _ (Cr.sumN_lt _) _).mono ?_; rintro e w3 ⟨rfl, hb3⟩))
        all_goals
          go_wp2_with fail
          refine (fresh_calls ((⟨l.toArray⟩ : ByteArray).extract 4 (l.length - 4)) _ (Nat.le_trans (size_cut _ _ _) (by omega))).mono ?_
          rintro e w4 ⟨rfl, hb4⟩
          go_wp2
          go_ret2
          have h1 : Below w.heap.size w w1 := undrew hb1
          have h3 : Below w1.heap.size w1 w3 := undrew hb3
          have hz := h1.size
          refine ⟨?_, (h1.trans (h3.mono hz)).trans (hb4.mono (Nat.le_trans hz h3.size))⟩
          rw [cutx]; rfl
      · have e1 : openE b l = 5 := by unfold openE; rw [if_neg h8, if_neg (by simp [hh]), if_pos (by simpa using hm)]
        have e2 : openB b l = [] := by unfold openB; rw [if_neg (by omega)]
        have hq2 : (((⟨l.toArray⟩ : ByteArray).extract (l.length - 4) l.length).toList == le4 (Cr.sumN (l.take (l.length - 4)))) = false := by
          rw [cutx, bytes_toList, List.take_of_length_le (by simp)]; simpa using hm
        rw [e1, e2]
        clear e1 e2 hm hh
        go_enter Try.func17, Try.ntmps17
        go_wp2_with fail
        go_region_with (go_at_call 31; refine (head_calls b _).mono ?_; rintro e w1 ⟨rfl, hb1⟩)
        all_goals
          go_wp2_with fail
          go_region_with (first | (go_at_call 13; rw [cutx]; refine (sum_calls _ (by simp; omega) _).mono ?_; rintro e w2 ⟨rfl, rfl⟩) | (go_at_call 32; refine (sumBytes_calls _ (Cr.sumN_lt _) _).mono ?_; rintro e w3 ⟨rfl, hb3⟩))
        all_goals
          go_wp2
          go_ret2
          have h1 : Below w.heap.size w w1 := undrew hb1
          have h3 : Below w1.heap.size w1 w3 := undrew hb3
          exact ⟨rfl, h1.trans (h3.mono h1.size)⟩
    · have e1 : openE b l = 6 := by unfold openE; rw [if_neg h8, if_pos (by simpa using hh)]
      have e2 : openB b l = [] := by unfold openB; rw [if_neg (by omega)]
      have hq : (((⟨l.toArray⟩ : ByteArray).extract 0 4).toList == headL b) = false := by
        rw [cutx, bytes_toList]; simpa using hh
      rw [e1, e2]
      clear e1 e2 hh
      go_enter Try.func17, Try.ntmps17
      go_wp2_with fail
      go_region_with (go_at_call 31; refine (head_calls b _).mono ?_; rintro e w1 ⟨rfl, hb1⟩)
      all_goals
        go_wp2
        go_ret2
        exact ⟨rfl, undrew hb1⟩

theorem framed_iff (b : UInt8) (l : List UInt8) (h8 : 8 ≤ l.length) (hh : l.take 4 = headL b) :
    frameL b (midL l) = l ↔ l.drop (l.length - 4) = le4 (Cr.sumN (l.take (l.length - 4))) := by
  have e1 : headL b ++ midL l = l.take (l.length - 4) := by
    rw [← hh]; unfold midL
    conv => rhs; rw [show l.length - 4 = 4 + (l.length - 4 - 4) by omega, List.take_add]
  unfold frameL
  rw [e1]
  constructor
  · intro h
    have h2 : l.take (l.length - 4) ++ le4 (Cr.sumN (l.take (l.length - 4))) = l.take (l.length - 4) ++ l.drop (l.length - 4) := by
      rw [List.take_append_drop]; exact h
    exact (List.append_cancel_left h2).symm
  · intro h
    rw [← h, List.take_append_drop]

set_option maxHeartbeats 800000 in
theorem opened_calls (b : UInt8) (l : List UInt8) (hs : l.length ≤ 1000000) (w : World) :
    Calls Try.prog 18 #[.int .u8 (b.toNat : Int), .string ⟨l.toArray⟩] w fun e w' => e = .returned (.tuple #[.string ⟨(openB b l).toArray⟩, .int .i64 (openE b l)]) ∧ Below w.heap.size w w' := by
  by_cases h8 : l.length < 8
  · have e1 : openE b l = 4 := by unfold openE; rw [if_pos h8]
    have e2 : openB b l = [] := by unfold openB; rw [if_neg (by omega)]
    rw [e1, e2]
    clear e1 e2
    go_enter Try.func18, Try.ntmps18
    go_wp2
    go_ret2
    exact ⟨rfl, Below.refl _ _⟩
  · have hcv : (convert 53 9 (.slice (some ⟨w.heap.size, 0, none⟩) 1 1)).run Try.prog (w.alloc (.cells #[.int .u8 (b.toNat : Int)] 5)).drew = .ok (.string ⟨#[b]⟩) (w.alloc (.cells #[.int .u8 (b.toNat : Int)] 5)).drew := conv_bytes _ w.heap.size 1 1 [b] rfl (by
      intro j hj
      match j, hj with
      | 0, _ => simp)
    have hb := b.toNat_lt
    by_cases hh : l.take 4 = headL b
    · have hq : (((⟨l.toArray⟩ : ByteArray).extract 0 4).toList == ((⟨#[70, 89, 49]⟩ : ByteArray) ++ ⟨#[b]⟩).toList) = true := by
        rw [cutx, bytes_toList, cat, bytes_toList]; simpa [headL] using hh
      have ht : ((l.length : Int) - 4).toNat = l.length - 4 := by omega
      have hiff := framed_iff b l (by omega) hh
      have HM : Hid ((⟨l.toArray⟩ : ByteArray).extract 4 (l.length - 4) = ⟨(midL l).toArray⟩) := by
        show _ = _
        rw [cutx]; rfl
      have hml : (midL l).length ≤ 1000000 := by simp [midL]; omega
      by_cases hm : l.drop (l.length - 4) = le4 (Cr.sumN (l.take (l.length - 4)))
      · have e1 : openE b l = 0 := by unfold openE; rw [if_neg h8, if_neg (by simp [hh]), if_neg (by simp [hm])]
        have e2 : openB b l = midL l := by unfold openB; rw [if_pos e1]
        have hq2 : (frameL b (midL l) == l) = true := by simpa using hiff.2 hm
        rw [e1, e2]
        clear e1 e2 hh hm hiff
        go_enter Try.func18, Try.ntmps18
        go_wp2_with fail
        go_region
        go_wp2_with fail
        rw [HM.out]
        refine (framed_calls b (midL l) hml _).mono ?_
        rintro e w1 ⟨rfl, hb1⟩
        have h0 : Below w.heap.size w (w.alloc (.cells #[.int .u8 (b.toNat : Int)] 5)).drew := by go_grown
        go_wp2
        go_ret2
        refine ⟨?_, h0.trans (hb1.mono h0.size)⟩
        rw [HM.out]; rfl
      · have e1 : openE b l = 5 := by unfold openE; rw [if_neg h8, if_neg (by simp [hh]), if_pos (by simpa using hm)]
        have e2 : openB b l = [] := by unfold openB; rw [if_neg (by omega)]
        have hq2 : (frameL b (midL l) == l) = false := by simpa using fun h => hm (hiff.1 h)
        rw [e1, e2]
        clear e1 e2 hh hm hiff
        go_enter Try.func18, Try.ntmps18
        go_wp2_with fail
        go_region
        go_wp2_with fail
        rw [HM.out]
        refine (framed_calls b (midL l) hml _).mono ?_
        rintro e w1 ⟨rfl, hb1⟩
        have h0 : Below w.heap.size w (w.alloc (.cells #[.int .u8 (b.toNat : Int)] 5)).drew := by go_grown
        go_wp2
        go_ret2
        exact ⟨rfl, h0.trans (hb1.mono h0.size)⟩
    · have e1 : openE b l = 6 := by unfold openE; rw [if_neg h8, if_pos (by simpa using hh)]
      have e2 : openB b l = [] := by unfold openB; rw [if_neg (by omega)]
      have hq : (((⟨l.toArray⟩ : ByteArray).extract 0 4).toList == ((⟨#[70, 89, 49]⟩ : ByteArray) ++ ⟨#[b]⟩).toList) = false := by
        rw [cutx, bytes_toList, cat, bytes_toList]; simpa [headL] using hh
      rw [e1, e2]
      clear e1 e2 hh
      go_enter Try.func18, Try.ntmps18
      go_wp2_with fail
      go_region
      go_wp2
      go_ret2
      exact ⟨rfl, by go_grown⟩
end Go.Proofs.Ytnenegkgmkgfaaa

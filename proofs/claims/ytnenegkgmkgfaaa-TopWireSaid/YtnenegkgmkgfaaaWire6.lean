/- The walk of WireSays. -/
import Derived.Test.YtnenegkgmkgfaaaWire5
namespace Go.Proofs.Ytnenegkgmkgfaaa
open Go.RowKit

theorem after {w a b : World} (h : Below w.heap.size w a) (k : Below a.heap.size a b) : Below w.heap.size w b := h.trans (k.mono h.size)
theorem take_code (l : List UInt8) : (Nu.take l).2.2 ≤ 7 := by
  have h : ∀ (l : List UInt8) (i n : Nat), (Nu.takeF i n l).2.2 ≤ 7 := by
    intro l
    induction l with
    | nil => intro i n; simp [Nu.takeF]
    | cons b t ih =>
      intro i n
      simp only [Nu.takeF]
      repeat' split
      all_goals first | exact ih _ _ | simp
  exact h l 0 0
theorem open_code (b : UInt8) (l : List UInt8) : openE b l ≤ 6 := by
  unfold openE; repeat' split
  all_goals omega

theorem open_frame (b : UInt8) (l : List UInt8) : openE b (frameL b l) = 0 ∧ openB b (frameL b l) = l := by
  have hlen := frameL_length b l
  have e1 : (frameL b l).take 4 = headL b := by
    unfold frameL
    rw [List.append_assoc, List.take_append_of_le_length (by rw [headL_length]; omega), List.take_of_length_le (by rw [headL_length]; omega)]
  have e2 : (frameL b l).take ((frameL b l).length - 4) = headL b ++ l := by
    rw [hlen]
    unfold frameL
    rw [List.take_append_of_le_length (by simp [headL_length]; omega), List.take_of_length_le (by simp [headL_length]; omega)]
  have e3 : (frameL b l).drop ((frameL b l).length - 4) = le4 (Cr.sumN (headL b ++ l)) := by
    rw [hlen]
    unfold frameL
    rw [List.drop_append_of_le_length (by simp [headL_length]; omega), List.drop_of_length_le (by simp [headL_length]; omega), List.nil_append]
  have e4 : openE b (frameL b l) = 0 := by
    unfold openE
    rw [if_neg (by omega), if_neg (by simp [e1]), if_neg (by rw [e2, e3]; simp)]
  refine ⟨e4, ?_⟩
  unfold openB midL
  rw [if_pos e4, hlen]
  unfold frameL
  rw [List.append_assoc, List.drop_append_of_le_length (by simp [headL_length]), List.drop_of_length_le (by simp [headL_length]), List.nil_append,
    List.take_append_of_le_length (by omega), List.take_of_length_le (by omega)]

set_option maxHeartbeats 800000 in
theorem writes_calls (w : World) :
    Calls Try.prog 7 #[] w fun e w' => e = .returned (.bool true) ∧ Below w.heap.size w w' := by
  go_enter Try.func7, Try.ntmps7
  go_wp2_with fail
  refine (num_calls 300 (by omega) _).mono ?_
  rintro e w1 ⟨rfl, hb1⟩
  go_wp2_with fail
  refine (same_calls 0 0 (by omega) (by omega) _).mono ?_
  rintro e w2 ⟨rfl, rfl⟩
  have e1 : Nu.num 300 = [172, 2] := by decide
  rw [e1]
  go_wp2
  go_ret
  exact ⟨rfl, hb1⟩

set_option maxHeartbeats 2000000 in
theorem wireSays_neg (n : Int) (l : List UInt8) (b : UInt8) (hn : n < 0) (hl : l.length ≤ 600) (w : World) :
    Calls Try.prog 3 #[.int .i64 n, .string ⟨l.toArray⟩, .int .u8 (b.toNat : Int)] w fun e w' => e = .returned (.bool true) ∧ Below w.heap.size w w' := by
  have hof := open_frame b l
  have hfl := frameL_length b l
  have htc := take_code l
  have hoc := open_code b l
  go_enter Try.func3, Try.ntmps3
  go_wp2_with fail
  refine (writes_calls _).mono ?_
  rintro e w1 ⟨rfl, hb1⟩
  go_wp2_with fail
  refine (num_neg_calls n hn _).mono ?_
  rintro e w2 ⟨rfl, rfl⟩
  go_wp2_with fail
  refine (same_calls 1 1 (by omega) (by omega) _).mono ?_
  rintro e w20 ⟨rfl, rfl⟩
  go_wp2_with fail
  refine (take_calls l (by omega) _).mono ?_
  rintro e w3 ⟨rfl, hb3⟩
  go_wp2_with fail
  refine (refTake_calls l (by omega) _).mono ?_
  rintro e w4 ⟨rfl, hb4⟩
  generalize hT : Nu.take l = T at *
  obtain ⟨y, r, c⟩ := T
  go_wp2_with fail
  refine (same_calls c c (by omega) (by omega) _).mono ?_
  rintro e w5 ⟨rfl, rfl⟩
  go_wp2_with fail
  refine (sum_calls l (by omega) _).mono ?_
  rintro e w6 ⟨rfl, rfl⟩
  go_wp2_with fail
  refine (refSum_calls l (by omega) _).mono ?_
  rintro e w7 ⟨rfl, rfl⟩
  go_wp2_with fail
  refine (frame_calls b l (by omega) _).mono ?_
  rintro e w8 ⟨rfl, hb8⟩
  go_wp2_with fail
  refine (framed_calls b l (by omega) _).mono ?_
  rintro e w9 ⟨rfl, hb9⟩
  go_wp2_with fail
  refine (open_calls b l (by omega) _).mono ?_
  rintro e w10 ⟨rfl, hb10⟩
  go_wp2_with fail
  refine (opened_calls b l (by omega) _).mono ?_
  rintro e w11 ⟨rfl, hb11⟩
  go_wp2_with fail
  refine (framed_calls b l (by omega) _).mono ?_
  rintro e w12 ⟨rfl, hb12⟩
  go_wp2_with fail
  refine (open_calls b (frameL b l) (by omega) _).mono ?_
  rintro e w13 ⟨rfl, hb13⟩
  rw [hof.1, hof.2]
  go_wp2_with fail
  refine (same_calls (openE b l) (openE b l) (by omega) (by omega) _).mono ?_
  rintro e w14 ⟨rfl, rfl⟩
  go_wp2_with fail
  refine (same_calls 0 0 (by omega) (by omega) _).mono ?_
  rintro e w15 ⟨rfl, rfl⟩
  go_wp2
  go_ret
  exact ⟨rfl, after (after (after (after (after (after (after (after (after hb1 hb3) hb4) hb8) hb9) hb10) hb11) hb12) hb13) (Below.refl _ _)⟩

set_option maxHeartbeats 2000000 in
theorem wireSays_pos (n : Nat) (l : List UInt8) (b : UInt8) (hn : n ≤ 9223372036854775807) (hl : l.length ≤ 600) (w : World) :
    Calls Try.prog 3 #[.int .i64 n, .string ⟨l.toArray⟩, .int .u8 (b.toNat : Int)] w fun e w' => e = .returned (.bool true) ∧ Below w.heap.size w w' := by
  have hof := open_frame b l
  have hfl := frameL_length b l
  have htc := take_code l
  have hoc := open_code b l
  go_enter Try.func3, Try.ntmps3
  go_wp2_with fail
  refine (writes_calls _).mono ?_
  rintro e w1 ⟨rfl, hb1⟩
  go_wp2_with fail
  refine (num_calls n hn _).mono ?_
  rintro e w2 ⟨rfl, hb2⟩
  go_wp2_with fail
  refine (same_calls 0 0 (by omega) (by omega) _).mono ?_
  rintro e w20 ⟨rfl, rfl⟩
  go_wp2_with fail
  refine (refNum_calls n hn _).mono ?_
  rintro e w21 ⟨rfl, hb21⟩
  go_wp2_with fail
  refine (take_calls l (by omega) _).mono ?_
  rintro e w3 ⟨rfl, hb3⟩
  go_wp2_with fail
  refine (refTake_calls l (by omega) _).mono ?_
  rintro e w4 ⟨rfl, hb4⟩
  generalize hT : Nu.take l = T at *
  obtain ⟨y, r, c⟩ := T
  go_wp2_with fail
  refine (same_calls c c (by omega) (by omega) _).mono ?_
  rintro e w5 ⟨rfl, rfl⟩
  go_wp2_with fail
  refine (sum_calls l (by omega) _).mono ?_
  rintro e w6 ⟨rfl, rfl⟩
  go_wp2_with fail
  refine (refSum_calls l (by omega) _).mono ?_
  rintro e w7 ⟨rfl, rfl⟩
  go_wp2_with fail
  refine (frame_calls b l (by omega) _).mono ?_
  rintro e w8 ⟨rfl, hb8⟩
  go_wp2_with fail
  refine (framed_calls b l (by omega) _).mono ?_
  rintro e w9 ⟨rfl, hb9⟩
  go_wp2_with fail
  refine (open_calls b l (by omega) _).mono ?_
  rintro e w10 ⟨rfl, hb10⟩
  go_wp2_with fail
  refine (opened_calls b l (by omega) _).mono ?_
  rintro e w11 ⟨rfl, hb11⟩
  go_wp2_with fail
  refine (framed_calls b l (by omega) _).mono ?_
  rintro e w12 ⟨rfl, hb12⟩
  go_wp2_with fail
  refine (open_calls b (frameL b l) (by omega) _).mono ?_
  rintro e w13 ⟨rfl, hb13⟩
  rw [hof.1, hof.2]
  go_wp2_with fail
  refine (same_calls (openE b l) (openE b l) (by omega) (by omega) _).mono ?_
  rintro e w14 ⟨rfl, rfl⟩
  go_wp2_with fail
  refine (same_calls 0 0 (by omega) (by omega) _).mono ?_
  rintro e w15 ⟨rfl, rfl⟩
  go_wp2
  go_ret
  exact ⟨rfl, after (after (after (after (after (after (after (after (after (after (after hb1 hb2) hb21) hb3) hb4) hb8) hb9) hb10) hb11) hb12) hb13) (Below.refl _ _)⟩


set_option maxHeartbeats 800000 in
theorem wireSays_long (n : Int) (s : ByteArray) (k : Int) (hl : 600 < s.size) (w : World) :
    Calls Try.prog 3 #[.int .i64 n, .string s, .int .u8 k] w fun e w' => e = .returned (.bool true) ∧ Below w.heap.size w w' := by
  have hl' : (600 : Int) < (s.size : Int) := by omega
  go_enter Try.func3, Try.ntmps3
  go_wp2_with fail
  refine (writes_calls _).mono ?_
  rintro e w1 ⟨rfl, hb1⟩
  go_wp2
  go_ret
  exact ⟨rfl, hb1⟩
end Go.Proofs.Ytnenegkgmkgfaaa

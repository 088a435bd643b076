/- What the two functions that make a frame answer: the same bytes. -/
import Derived.Test.YtnenegkgmkgfaaaWire1
namespace Go.Proofs.Ytnenegkgmkgfaaa
open Go.RowKit

theorem cat (a b : List UInt8) : (⟨a.toArray⟩ : ByteArray) ++ ⟨b.toArray⟩ = ⟨(a ++ b).toArray⟩ := by
  apply ByteArray.ext
  simp
theorem ret_str {a b : List UInt8} (h : a = b) : Ending.returned (.string ⟨a.toArray⟩) = .returned (.string ⟨b.toArray⟩) := by rw [h]

def frameL (b : UInt8) (l : List UInt8) : List UInt8 := headL b ++ l ++ le4 (Cr.sumN (headL b ++ l))
theorem frameL_length (b : UInt8) (l : List UInt8) : (frameL b l).length = l.length + 8 := by
  simp [frameL, headL_length, le4_length]; omega

set_option maxHeartbeats 400000 in
theorem frame_calls (b : UInt8) (l : List UInt8) (hs : l.length ≤ 1000000) (w : World) :
    Calls Try.prog 15 #[.int .u8 (b.toNat : Int), .string ⟨l.toArray⟩] w fun e w' => e = .returned (.string ⟨(frameL b l).toArray⟩) ∧ Below w.heap.size w w' := by
  have hl := headL_length b
  have hl4 := le4_length (Cr.sumN (headL b ++ l))
  go_enter Try.func15, Try.ntmps15
  go_wp2_with fail
  refine (head_calls b _).mono ?_
  rintro e w1 ⟨rfl, hb1⟩
  go_wp2_with fail
  simp only [cat]
  refine (sum_calls (headL b ++ l) (by simp [hl]; omega) _).mono ?_
  rintro e w2 ⟨rfl, rfl⟩
  go_wp2_with fail
  refine (sumBytes_calls (Cr.sumN (headL b ++ l)) (Cr.sumN_lt _) _).mono ?_
  rintro e w3 ⟨rfl, hb3⟩
  go_wp2
  go_ret
  refine ⟨?_, hb1.trans (hb3.mono hb1.size)⟩
  simp only [cat]
  rfl

def leN : Nat → Nat → List UInt8
  | 0, _ => []
  | n + 1, x => UInt8.ofNat (x % 256) :: leN n (x / 256)
theorem leN_four (x : Nat) (h : x < 2 ^ 32) : leN 4 x = le4 x := by
  have e1 : x / 256 / 256 = x / 65536 := by omega
  have e2 : x / 65536 / 256 = x / 16777216 := by omega
  have e3 : x / 16777216 % 256 = x / 16777216 := by omega
  simp only [leN, le4, e1, e2, e3]
theorem leN_length : ∀ (n x : Nat), (leN n x).length = n
  | 0, _ => rfl
  | n + 1, x => by simp [leN, leN_length n]

set_option maxHeartbeats 800000 in
theorem framed_calls (b : UInt8) (l : List UInt8) (hs : l.length ≤ 1000000) (w : World) :
    Calls Try.prog 16 #[.int .u8 (b.toNat : Int), .string ⟨l.toArray⟩] w fun e w' => e = .returned (.string ⟨(frameL b l).toArray⟩) ∧ Below w.heap.size w w' := by
  have hb := b.toNat_lt
  have hcv := conv_bytes (w.alloc (.cells #[.int .u8 (b.toNat : Int)] 5)) w.heap.size 1 1 [b] rfl (by
    intro j hj
    match j, hj with
    | 0, _ => simp)
  have HF : Hid (frameL b l = headL b ++ l ++ leN 4 (Cr.sumN (headL b ++ l))) := by
    show _ = _
    rw [leN_four _ (Cr.sumN_lt _)]; rfl
  have hlt := Cr.sumN_lt (headL b ++ l)
  have hl := headL_length b
  go_enter Try.func16, Try.ntmps16
  go_wp2_with fail
  simp only [cat]
  have e0 : [70, 89, 49] ++ [b] ++ l = headL b ++ l := by simp [headL]
  rw [e0]
  clear e0
  refine (refSum_calls (headL b ++ l) (by simp [hl]; omega) _).mono ?_
  rintro e w2 ⟨rfl, rfl⟩
  clear hcv
  have hBl : (headL b ++ l).length ≤ 1000004 := by simp [hl]; omega
  generalize headL b ++ l = B at *
  generalize Cr.sumN B = X0 at *
  go_wp2_with fail
  go_loopw [5, 6, 7] (fun s x i wr => ∃ (k X : Nat) (acc : List UInt8), k ≤ 4 ∧ i = .int .i64 k ∧ s = .string ⟨(B ++ acc).toArray⟩ ∧ x = .int .u32 X ∧ X < 2 ^ 32 ∧ acc.length = k ∧ Hid (acc ++ leN (4 - k) X = leN 4 X0) ∧ Below w.heap.size w wr) (fun _ _ i _ => 4 - (intOf i).toNat)
  case atStart => exact ⟨0, X0, [], by omega, rfl, by simp, rfl, hlt, rfl, rfl, by go_grown⟩
  case round =>
    obtain ⟨k, X, acc, hk, rfl, rfl, rfl, hX, hal, HA, hbw⟩ := hrel
    by_cases hk4 : k < 4
    · have hcv := conv_bytes (wr.alloc (.cells #[.int .u8 ((X : Int) % 256)] 5)) wr.heap.size 1 1 [UInt8.ofNat (X % 256)] rfl (by
        intro j hj
        match j, hj with
        | 0, _ => simp)
      have HB : Hid ((acc ++ [UInt8.ofNat (X % 256)]) ++ leN (4 - (k + 1)) (X / 256) = leN 4 X0) := by
        show _ = _
        rw [← HA.out, show 4 - k = 4 - (k + 1) + 1 by omega]
        simp [leN]
      clear HA
      go_wp2
      go_roundw
      case rel =>
        exact ⟨k + 1, X / 256, acc ++ [UInt8.ofNat (X % 256)], by omega, by go_num, by rw [cat, List.append_assoc], rfl, by omega, by simp [hal], HB, hbw.alloc hbw.size _⟩
      case measure => simp [intOf]; omega
    · have hk4 : k = 4 := by omega
      have HE : Hid (B ++ acc = frameL b l) := by
        show _ = _
        rw [HF.out, ← HA.out, hk4]
        simp [leN]
      clear HF HA hk4
      go_wp2
      go_ret
      exact ⟨ret_str HE.out, hbw⟩
end Go.Proofs.Ytnenegkgmkgfaaa

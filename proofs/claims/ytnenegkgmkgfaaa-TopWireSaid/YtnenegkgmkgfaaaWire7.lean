/- A frame whose bits are turned within 32 is refused: plain. -/
import Derived.Test.YtnenegkgmkgfaaaWire6
import Derived.Test.YtnenegkgmkgfaaaBurst
namespace Go.Proofs.Ytnenegkgmkgfaaa
open Go.RowKit

theorem crc_leN : ∀ (n r x : Nat), Cr.crc r (leN n x) ^^^ (x / 256 ^ n) = Cr.stepN (8 * n) (r ^^^ x)
  | 0, r, x => by simp [leN, Cr.crc, Cr.stepN]
  | n + 1, r, x => by
    have h := crc_leN n (Cr.feedB r (UInt8.ofNat (x % 256))) (x / 256)
    have e1 : Cr.crc r (leN (n + 1) x) = Cr.crc (Cr.feedB r (UInt8.ofNat (x % 256))) (leN n (x / 256)) := rfl
    have e2 : x / 256 ^ (n + 1) = x / 256 / 256 ^ n := by
      rw [Nat.pow_succ, Nat.mul_comm, Nat.div_div_eq_div_mul]
    rw [e1, e2, h, Cr.feedB_step, ← Cr.stepN_add, Nat.mul_succ]
theorem crc_frame (b : UInt8) (l : List UInt8) : Cr.crc Cr.ones (frameL b l) = Cr.stepN 32 Cr.ones := by
  unfold frameL
  rw [Cr.crc_append, ← leN_four _ (Cr.sumN_lt _)]
  have h := crc_leN 4 (Cr.crc Cr.ones (headL b ++ l)) (Cr.sumN (headL b ++ l))
  have e : Cr.sumN (headL b ++ l) / 256 ^ 4 = 0 := Nat.div_eq_of_lt (Cr.sumN_lt _)
  rw [e, Nat.xor_zero] at h
  rw [h]
  unfold Cr.sumN
  rw [← Nat.xor_assoc, Nat.xor_self, Nat.zero_xor]

theorem open_turned (b : UInt8) (l : List UInt8) (a K v : Nat) (hK : K ≤ 32) (hM : a + K ≤ 8 * (frameL b l).length) :
    openE b (Cr.flips (frameL b l) a v K) = 0 ↔ Cr.flips (frameL b l) a v K = frameL b l := by
  constructor
  · intro h
    generalize ht : Cr.flips (frameL b l) a v K = t at h
    have h8 : ¬ t.length < 8 := by intro h8; unfold openE at h; rw [if_pos h8] at h; omega
    have hh : t.take 4 = headL b := by
      unfold openE at h
      rw [if_neg h8] at h
      by_cases hh : t.take 4 = headL b
      · exact hh
      · rw [if_pos hh] at h; omega
    have hm : t.drop (t.length - 4) = le4 (Cr.sumN (t.take (t.length - 4))) := by
      unfold openE at h
      rw [if_neg h8, if_neg (by simp [hh])] at h
      by_cases hm : t.drop (t.length - 4) = le4 (Cr.sumN (t.take (t.length - 4)))
      · exact hm
      · rw [if_pos hm] at h; omega
    have hf := (framed_iff b t (by omega) hh).2 hm
    have hc : Cr.crc Cr.ones (frameL b l) = Cr.crc Cr.ones (Cr.flips (frameL b l) a v K) := by
      rw [ht, crc_frame, ← hf, crc_frame]
    rw [← ht]
    exact Cr.burst (frameL b l) a K v hK hM hc
  · intro h
    rw [h]
    exact (open_frame b l).1
end Go.Proofs.Ytnenegkgmkgfaaa

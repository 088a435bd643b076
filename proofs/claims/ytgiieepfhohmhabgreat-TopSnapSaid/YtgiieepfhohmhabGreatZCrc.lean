/- Plain facts about the sum of bytes (bit by bit, byte by byte, and that bits turned within 32 change it); no Go in sight. -/
import Derived.Below
import Derived.Laws.BitsAllLaws
import Derived.Test.YtgiieepfhohmhabGreatZRulA
namespace Go.Proofs.YtgiieepfhohmhabGreat.Cr
def poly : Nat := 3988292384
def ones : Nat := 4294967295
def step (x : Nat) : Nat := if x % 2 = 1 then (x / 2) ^^^ poly else x / 2
def stepN : Nat → Nat → Nat
  | 0, x => x
  | k + 1, x => step (stepN k x)
def feed1 (x b : Nat) : Nat := if (x % 2) ^^^ b = 1 then (x / 2) ^^^ poly else x / 2
def fed : Nat → Nat → Nat → Nat
  | 0, x, _ => x
  | k + 1, x, b => feed1 (fed k x b) (b / 2 ^ k % 2)
def feedB (x : Nat) (b : UInt8) : Nat := stepN 8 (x ^^^ b.toNat)
def crc (x : Nat) (l : List UInt8) : Nat := l.foldl feedB x
def sumN (l : List UInt8) : Nat := crc ones l ^^^ ones
theorem xor_half (a b : Nat) : (a ^^^ b) / 2 = (a / 2) ^^^ (b / 2) := Nat.xor_div_two
theorem xor_odd (a b : Nat) : (a ^^^ b) % 2 = (a % 2) ^^^ (b % 2) := by
  have h := @Nat.xor_mod_two_pow a b 1
  simpa using h
theorem key (F z : Nat) : step (F ^^^ z) = feed1 F (z % 2) ^^^ (z / 2) := by
  unfold step feed1
  rw [xor_half, xor_odd]
  split
  · rw [Nat.xor_assoc, Nat.xor_comm (z / 2) poly, ← Nat.xor_assoc]
  · rfl
theorem stepN_fed : ∀ (k x b : Nat), stepN k (x ^^^ b) = fed k x b ^^^ (b / 2 ^ k)
  | 0, x, b => by simp [stepN, fed]
  | k + 1, x, b => by
    simp only [stepN, fed]
    rw [stepN_fed k x b, key, Nat.div_div_eq_div_mul, ← Nat.pow_succ]
theorem fed_eight (x : Nat) (b : UInt8) : fed 8 x b.toNat = feedB x b := by
  unfold feedB
  rw [stepN_fed]
  have h : b.toNat / 2 ^ 8 = 0 := Nat.div_eq_of_lt (by have := b.toNat_lt; omega)
  rw [h, Nat.xor_zero]
theorem poly_lt : poly < 2 ^ 32 := by decide
theorem step_lt (x : Nat) (h : x < 2 ^ 32) : step x < 2 ^ 32 := by
  unfold step
  split
  · exact Nat.xor_lt_two_pow (by omega) poly_lt
  · omega
theorem feed1_lt (x b : Nat) (h : x < 2 ^ 32) : feed1 x b < 2 ^ 32 := by
  unfold feed1
  split
  · exact Nat.xor_lt_two_pow (by omega) poly_lt
  · omega
theorem fed_lt : ∀ (k x b : Nat), x < 2 ^ 32 → fed k x b < 2 ^ 32
  | 0, _, _, h => h
  | k + 1, x, b, h => feed1_lt _ _ (fed_lt k x b h)
theorem feedB_lt (x : Nat) (b : UInt8) (h : x < 2 ^ 32) : feedB x b < 2 ^ 32 := by
  rw [← fed_eight]; exact fed_lt _ _ _ h
theorem crc_lt : ∀ (l : List UInt8) (x : Nat), x < 2 ^ 32 → crc x l < 2 ^ 32
  | [], _, h => h
  | b :: t, x, h => crc_lt t (feedB x b) (feedB_lt x b h)
theorem ones_lt : ones < 2 ^ 32 := by decide
theorem sumN_lt (l : List UInt8) : sumN l < 2 ^ 32 := Nat.xor_lt_two_pow (crc_lt l _ ones_lt) ones_lt
theorem crc_snoc (x : Nat) (l : List UInt8) (b : UInt8) : crc x (l ++ [b]) = feedB (crc x l) b := by
  simp [crc, List.foldl_append]
theorem take_snoc (l : List UInt8) (k : Nat) (h : k < l.length) : l.take (k + 1) = l.take k ++ [l[k]] := by
  rw [List.take_succ_eq_append_getElem h]
theorem crc_take (x : Nat) (l : List UInt8) (k : Nat) (h : k < l.length) : crc x (l.take (k + 1)) = feedB (crc x (l.take k)) l[k] := by
  rw [take_snoc l k h, crc_snoc]
end Go.Proofs.YtgiieepfhohmhabGreat.Cr
namespace Go.Proofs.YtgiieepfhohmhabGreat
open Go.RowKit
theorem xor_byte (A : Nat) (hA : A < 2 ^ 32) (b : UInt8) : bits .xor .u32 (A : Int) ((b.toNat : Int) % 4294967296) = ((A ^^^ b.toNat : Nat) : Int) := by
  have hb := b.toNat_lt
  have e : ((b.toNat : Int) % 4294967296) = (b.toNat : Int) := by omega
  rw [e]
  exact u32_xor_nat A b.toNat (by omega) (by omega)
theorem step_odd (z : Nat) (hz : z < 2 ^ 32) (h : ((z : Int) % 2 == 1) = true) : bits .xor .u32 ((z : Int) / 2) 3988292384 = (Cr.step z : Int) := by
  have h1 : z % 2 = 1 := by
    have := beq_iff_eq.1 h
    omega
  have e : ((z : Int) / 2) = ((z / 2 : Nat) : Int) := by omega
  have e2 : (3988292384 : Int) = ((3988292384 : Nat) : Int) := rfl
  rw [e, e2, u32_xor_nat (z / 2) 3988292384 (by omega) (by omega)]
  unfold Cr.step Cr.poly
  rw [if_pos h1]
theorem step_even (z : Nat) (h : ((z : Int) % 2 == 1) = false) : ((z : Int) / 2) = (Cr.step z : Int) := by
  have h1 : ¬ z % 2 = 1 := by
    have := beq_eq_false_iff_ne.1 h
    omega
  unfold Cr.step
  rw [if_neg h1]
  omega
theorem xor_ones (z : Nat) (hz : z < 2 ^ 32) : bits .xor .u32 (z : Int) 4294967295 = ((z ^^^ Cr.ones : Nat) : Int) := by
  have e2 : (4294967295 : Int) = ((4294967295 : Nat) : Int) := rfl
  rw [e2, u32_xor_nat z 4294967295 (by omega) (by omega)]
  rfl
set_option maxRecDepth 100000 in
set_option maxHeartbeats 400000 in
theorem sum_calls (l : List UInt8) (hs : l.length ≤ 1000000000) (w : World) :
    Calls Tryz.prog 73 #[.string ⟨l.toArray⟩] w fun e w' => e = .returned (.int .u32 (Cr.sumN l)) ∧ w' = w := by
  go_enter Tryz.func73, Tryz.ntmps73
  go_wp2
  go_loop [3, 8] (fun x i => ∃ k y : Nat, k ≤ l.length ∧ i = .int .i64 k ∧ x = .int .u32 y ∧ y < 2 ^ 32 ∧ Hid (y = Cr.crc Cr.ones (l.take k))) (fun _ i => l.length - (intOf i).toNat)
  case atStart => exact ⟨0, Cr.ones, Nat.zero_le _, rfl, rfl, Cr.ones_lt, rfl⟩
  case round =>
    obtain ⟨k, y, hk, rfl, rfl, hy, HY⟩ := hrel
    by_cases hlt : k < l.length
    · go_wp2
      go_loop [3, 17] (fun x i => ∃ j z : Nat, j ≤ 8 ∧ i = .int .i64 j ∧ x = .int .u32 z ∧ z < 2 ^ 32 ∧ Hid (z = Cr.stepN j (y ^^^ l[k].toNat))) (fun _ i => 8 - (intOf i).toNat)
      case atStart =>
        refine ⟨0, y ^^^ l[k].toNat, Nat.zero_le _, rfl, congrArg (Value.int .u32) (xor_byte y hy l[k]), Nat.xor_lt_two_pow hy ?_, rfl⟩
        have := l[k].toNat_lt
        omega
      case round =>
        obtain ⟨j, z, hj, rfl, rfl, hz, HZ⟩ := hrel
        by_cases hlt8 : j < 8
        · go_wp2
          · go_round
            case rel =>
              exact ⟨j + 1, Cr.step z, by omega, by go_num, congrArg (Value.int .u32) (step_odd z hz ‹_›), Cr.step_lt z hz, by have := HZ.out; rw [this]; rfl⟩
            case measure => simp [intOf]; omega
          · go_round
            case rel =>
              exact ⟨j + 1, Cr.step z, by omega, by go_num, congrArg (Value.int .u32) (step_even z ‹_›), Cr.step_lt z hz, by have := HZ.out; rw [this]; rfl⟩
            case measure => simp [intOf]; omega
        · have hj8 : j = 8 := by omega
          have HE : Hid (z = Cr.crc Cr.ones (l.take (k + 1))) := by
            show z = _
            rw [Cr.crc_take _ _ _ hlt, ← HY.out, HZ.out, hj8]; rfl
          clear HZ HY
          go_wp2
          go_round
          case rel => exact ⟨k + 1, z, by omega, by go_num, rfl, hz, HE⟩
          case measure => simp [intOf]; omega
    · have hkl : l.take k = l := List.take_of_length_le (by omega)
      have HE : Hid (y = Cr.crc Cr.ones l) := by show y = _; rw [HY.out, hkl]
      clear hkl HY
      go_wp2
      go_ret
      exact ⟨ret_int (by rw [xor_ones y hy]; unfold Cr.sumN; rw [← HE.out]), rfl⟩
end Go.Proofs.YtgiieepfhohmhabGreat

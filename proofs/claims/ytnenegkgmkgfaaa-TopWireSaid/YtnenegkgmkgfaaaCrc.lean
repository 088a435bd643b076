/- Plain facts about the sum of bytes (bit by bit, byte by byte, and that bits turned within 32 change it); no Go in sight. -/
namespace Go.Proofs.Ytnenegkgmkgfaaa.Cr

def poly : Nat := 3988292384
def ones : Nat := 4294967295
def step (x : Nat) : Nat := if x % 2 = 1 then (x / 2) ^^^ poly else x / 2
def stepN : Nat → Nat → Nat
  | 0, x => x
  | k + 1, x => step (stepN k x)
def feed1 (x b : Nat) : Nat := if (x % 2) ^^^ b = 1 then (x / 2) ^^^ poly else x / 2
def fed : Nat → Nat → Nat → Nat
  | 0, x, _ => x
  | k + 1, x, b => feed1 (fed k x b) (b / 2 ^ k % 2)
def feedB (x : Nat) (b : UInt8) : Nat := stepN 8 (x ^^^ b.toNat)
def crc (x : Nat) (l : List UInt8) : Nat := l.foldl feedB x
def sumN (l : List UInt8) : Nat := crc ones l ^^^ ones

theorem xor_half (a b : Nat) : (a ^^^ b) / 2 = (a / 2) ^^^ (b / 2) := Nat.xor_div_two
theorem xor_odd (a b : Nat) : (a ^^^ b) % 2 = (a % 2) ^^^ (b % 2) := by
  have h := @Nat.xor_mod_two_pow a b 1
  simpa using h
theorem bit_cases (a : Nat) : a % 2 = 0 ∨ a % 2 = 1 := by omega

theorem step_xor (x y : Nat) : step (x ^^^ y) = step x ^^^ step y := by
  unfold step
  rw [xor_half, xor_odd]
  rcases bit_cases x with hx | hx <;> rcases bit_cases y with hy | hy <;> simp [hx, hy]
  · exact Nat.xor_assoc _ _ _
  · rw [Nat.xor_assoc, Nat.xor_comm (y / 2) poly, ← Nat.xor_assoc]
  · rw [Nat.xor_assoc, Nat.xor_comm (y / 2) poly, ← Nat.xor_assoc poly poly, Nat.xor_self, Nat.zero_xor]

theorem key (F z : Nat) : step (F ^^^ z) = feed1 F (z % 2) ^^^ (z / 2) := by
  unfold step feed1
  rw [xor_half, xor_odd]
  split
  · rw [Nat.xor_assoc, Nat.xor_comm (z / 2) poly, ← Nat.xor_assoc]
  · rfl

theorem stepN_xor : ∀ (k x y : Nat), stepN k (x ^^^ y) = stepN k x ^^^ stepN k y
  | 0, _, _ => rfl
  | k + 1, x, y => by simp only [stepN]; rw [stepN_xor k x y, step_xor]

theorem stepN_fed : ∀ (k x b : Nat), stepN k (x ^^^ b) = fed k x b ^^^ (b / 2 ^ k)
  | 0, x, b => by simp [stepN, fed]
  | k + 1, x, b => by
    simp only [stepN, fed]
    rw [stepN_fed k x b, key, Nat.div_div_eq_div_mul, ← Nat.pow_succ]

theorem fed_eight (x : Nat) (b : UInt8) : fed 8 x b.toNat = feedB x b := by
  unfold feedB
  rw [stepN_fed]
  have h : b.toNat / 2 ^ 8 = 0 := Nat.div_eq_of_lt (by have := b.toNat_lt; omega)
  rw [h, Nat.xor_zero]

theorem poly_lt : poly < 2 ^ 32 := by decide
theorem step_lt (x : Nat) (h : x < 2 ^ 32) : step x < 2 ^ 32 := by
  unfold step
  split
  · exact Nat.xor_lt_two_pow (by omega) poly_lt
  · omega
theorem stepN_lt : ∀ (k x : Nat), x < 2 ^ 32 → stepN k x < 2 ^ 32
  | 0, _, h => h
  | k + 1, x, h => step_lt _ (stepN_lt k x h)
theorem feed1_lt (x b : Nat) (h : x < 2 ^ 32) : feed1 x b < 2 ^ 32 := by
  unfold feed1
  split
  · exact Nat.xor_lt_two_pow (by omega) poly_lt
  · omega
theorem fed_lt : ∀ (k x b : Nat), x < 2 ^ 32 → fed k x b < 2 ^ 32
  | 0, _, _, h => h
  | k + 1, x, b, h => feed1_lt _ _ (fed_lt k x b h)
theorem feedB_lt (x : Nat) (b : UInt8) (h : x < 2 ^ 32) : feedB x b < 2 ^ 32 := by
  rw [← fed_eight]; exact fed_lt _ _ _ h
theorem crc_lt : ∀ (l : List UInt8) (x : Nat), x < 2 ^ 32 → crc x l < 2 ^ 32
  | [], _, h => h
  | b :: t, x, h => crc_lt t (feedB x b) (feedB_lt x b h)
theorem ones_lt : ones < 2 ^ 32 := by decide
theorem sumN_lt (l : List UInt8) : sumN l < 2 ^ 32 := Nat.xor_lt_two_pow (crc_lt l _ ones_lt) ones_lt

theorem crc_snoc (x : Nat) (l : List UInt8) (b : UInt8) : crc x (l ++ [b]) = feedB (crc x l) b := by
  simp [crc, List.foldl_append]
theorem crc_append (x : Nat) (l m : List UInt8) : crc x (l ++ m) = crc (crc x l) m := by
  simp [crc, List.foldl_append]
theorem take_snoc (l : List UInt8) (k : Nat) (h : k < l.length) : l.take (k + 1) = l.take k ++ [l[k]] := by
  rw [List.take_succ_eq_append_getElem h]
theorem crc_take (x : Nat) (l : List UInt8) (k : Nat) (h : k < l.length) : crc x (l.take (k + 1)) = feedB (crc x (l.take k)) l[k] := by
  rw [take_snoc l k h, crc_snoc]

def bitAt (l : List UInt8) (k : Nat) : Nat := (l.getD (k / 8) 0).toNat / 2 ^ (k % 8) % 2
def st (l : List UInt8) (k : Nat) : Nat := fed (k % 8) (crc ones (l.take (k / 8))) (l.getD (k / 8) 0).toNat
theorem st_zero (l : List UInt8) : st l 0 = ones := rfl
theorem st_succ (l : List UInt8) (k : Nat) (h : k < 8 * l.length) : st l (k + 1) = feed1 (st l k) (bitAt l k) := by
  have hq : k / 8 < l.length := by omega
  unfold st bitAt
  by_cases h7 : k % 8 < 7
  · have e1 : (k + 1) / 8 = k / 8 := by omega
    have e2 : (k + 1) % 8 = k % 8 + 1 := by omega
    rw [e1, e2]; rfl
  · have e1 : (k + 1) / 8 = k / 8 + 1 := by omega
    have e2 : (k + 1) % 8 = 0 := by omega
    have e3 : k % 8 = 7 := by omega
    rw [e1, e2, e3, crc_take _ _ _ hq]
    have e4 : l.getD (k / 8) 0 = l[k / 8] := by simp [List.getD_eq_getElem?_getD, hq]
    rw [e4, ← fed_eight]; rfl
theorem st_end (l : List UInt8) : st l (8 * l.length) = crc ones l := by
  unfold st
  have e1 : 8 * l.length / 8 = l.length := by omega
  have e2 : 8 * l.length % 8 = 0 := by omega
  rw [e1, e2, List.take_of_length_le (Nat.le_refl _)]; rfl
theorem st_lt (l : List UInt8) (k : Nat) : st l k < 2 ^ 32 := fed_lt _ _ _ (crc_lt _ _ ones_lt)
end Go.Proofs.Ytnenegkgmkgfaaa.Cr

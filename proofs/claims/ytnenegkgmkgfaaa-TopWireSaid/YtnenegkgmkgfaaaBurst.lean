/- Plain facts: bits turned within 32 that follow each other change the sum; no Go in sight. -/
import Derived.Test.YtnenegkgmkgfaaaCrc
namespace Go.Proofs.Ytnenegkgmkgfaaa.Cr

theorem feed1_step (x b : Nat) (hb : b < 2) : feed1 x b = step (x ^^^ b) := by
  have h := key x b
  have e1 : b % 2 = b := by omega
  have e2 : b / 2 = 0 := by omega
  rw [h, e1, e2, Nat.xor_zero]
theorem step_zero : step 0 = 0 := rfl
theorem stepN_zero : ∀ k, stepN k 0 = 0
  | 0 => rfl
  | k + 1 => by simp only [stepN]; rw [stepN_zero k]; rfl
theorem stepN_add : ∀ (a b x : Nat), stepN (a + b) x = stepN a (stepN b x)
  | 0, b, x => by simp [stepN]
  | a + 1, b, x => by
    rw [show a + 1 + b = (a + b) + 1 by omega]
    simp only [stepN]; rw [stepN_add a b x]
theorem step_inj (x : Nat) (hx : x < 2 ^ 32) (h : step x = 0) : x = 0 := by
  unfold step at h
  split at h
  · exfalso
    have h1 : ((x / 2) ^^^ poly).testBit 31 = true := by
      rw [Nat.testBit_xor]
      have e1 : (x / 2).testBit 31 = false := Nat.testBit_lt_two_pow (by omega)
      have e2 : poly.testBit 31 = true := by decide
      rw [e1, e2]; rfl
    rw [h] at h1
    simp at h1
  · omega
theorem stepN_inj : ∀ (k x : Nat), x < 2 ^ 32 → stepN k x = 0 → x = 0
  | 0, _, _, h => h
  | k + 1, x, hx, h => stepN_inj k x hx (step_inj _ (stepN_lt k x hx) h)

theorem bitAt_lt (l : List UInt8) (k : Nat) : bitAt l k < 2 := by unfold bitAt; omega
theorem xor_lt_two (a b : Nat) (ha : a < 2) (hb : b < 2) : a ^^^ b < 2 := Nat.xor_lt_two_pow (n := 1) (by omega) (by omega)

theorem st_diff (f t : List UInt8) (hlen : t.length = f.length) (k : Nat) (h : k < 8 * f.length) :
    st f (k + 1) ^^^ st t (k + 1) = step ((st f k ^^^ st t k) ^^^ (bitAt f k ^^^ bitAt t k)) := by
  rw [st_succ f k h, st_succ t k (by omega), feed1_step _ _ (bitAt_lt f k), feed1_step _ _ (bitAt_lt t k), ← step_xor]
  congr 1
  rw [Nat.xor_assoc, ← Nat.xor_assoc (bitAt f k), Nat.xor_comm (bitAt f k) (st t k), Nat.xor_assoc (st t k), ← Nat.xor_assoc]

/- The bits that are turned: from a on, those of v, K of them. -/
def e (a K v j : Nat) : Nat := if a ≤ j ∧ j < a + K then v / 2 ^ (j - a) % 2 else 0

theorem burst_zero (f t : List UInt8) (hlen : t.length = f.length) (a K v : Nat) (hK : K ≤ 32) (hM : a + K ≤ 8 * f.length)
    (he : ∀ j, j < 8 * f.length → bitAt f j ^^^ bitAt t j = e a K v j) (hc : crc ones f = crc ones t) : v % 2 ^ K = 0 := by
  have hD0 : ∀ j, j ≤ a → st f j ^^^ st t j = 0 := by
    intro j
    induction j with
    | zero => intro _; rw [st_zero, st_zero, Nat.xor_self]
    | succ j ih =>
      intro hj
      rw [st_diff f t hlen j (by omega), ih (by omega), he j (by omega)]
      unfold e
      rw [if_neg (by omega)]
      rfl
  have hlow : ∀ i, i < K → v % 2 ^ K / 2 ^ i % 2 = v / 2 ^ i % 2 := by
    intro i hi
    have h1 := Nat.toNat_testBit (v % 2 ^ K) i
    have h2 := Nat.toNat_testBit v i
    rw [Nat.testBit_mod_two_pow] at h1
    rw [← h1, ← h2]
    simp [hi]
  have hD1 : ∀ i, i ≤ K → (st f (a + i) ^^^ st t (a + i)) ^^^ (v % 2 ^ K / 2 ^ i) = stepN i (v % 2 ^ K) := by
    intro i
    induction i with
    | zero => intro _; rw [Nat.add_zero, hD0 a (Nat.le_refl _)]; simp [stepN]
    | succ i ih =>
      intro hi
      have ih' := ih (by omega)
      simp only [stepN]
      rw [← ih', key, ← Nat.add_assoc, st_diff f t hlen (a + i) (by omega), he (a + i) (by omega)]
      have ee : e a K v (a + i) = v % 2 ^ K / 2 ^ i % 2 := by
        unfold e
        rw [if_pos (by omega), hlow i (by omega)]
        congr 3
        omega
      rw [ee, feed1_step _ _ (by omega), Nat.div_div_eq_div_mul, ← Nat.pow_succ]
  have hlt : v % 2 ^ K < 2 ^ K := Nat.mod_lt _ (Nat.two_pow_pos K)
  have hle : (2 : Nat) ^ K ≤ 2 ^ 32 := Nat.pow_le_pow_right (by omega) hK
  have hDK : st f (a + K) ^^^ st t (a + K) = stepN K (v % 2 ^ K) := by
    have h := hD1 K (Nat.le_refl _)
    rw [Nat.div_eq_of_lt hlt, Nat.xor_zero] at h
    exact h
  have hD2 : ∀ m, a + K + m ≤ 8 * f.length → st f (a + K + m) ^^^ st t (a + K + m) = stepN (m + K) (v % 2 ^ K) := by
    intro m
    induction m with
    | zero => intro _; simpa using hDK
    | succ m ih =>
      intro hm
      rw [← Nat.add_assoc, st_diff f t hlen (a + K + m) (by omega), ih (by omega), he _ (by omega)]
      unfold e
      rw [if_neg (by omega), Nat.xor_zero, show m + 1 + K = (m + K) + 1 by omega]
      rfl
  have hend := hD2 (8 * f.length - (a + K)) (by omega)
  have e0 : a + K + (8 * f.length - (a + K)) = 8 * f.length := by omega
  rw [e0, st_end, ← hlen, st_end, hc, Nat.xor_self] at hend
  exact stepN_inj _ _ (by omega) hend.symm

/- One bit turned; those of v turned, from a on. -/
def flip (l : List UInt8) (p : Nat) : List UInt8 := l.set (p / 8) (UInt8.ofNat ((l.getD (p / 8) 0).toNat ^^^ 2 ^ (p % 8)))
def flips (l : List UInt8) (a v : Nat) : Nat → List UInt8
  | 0 => l
  | i + 1 => if v / 2 ^ i % 2 = 1 then flip (flips l a v i) (a + i) else flips l a v i
theorem flip_length (l : List UInt8) (p : Nat) : (flip l p).length = l.length := by simp [flip]
theorem flips_length (l : List UInt8) (a v : Nat) : ∀ i, (flips l a v i).length = l.length
  | 0 => rfl
  | i + 1 => by
    simp only [flips]; split
    · rw [flip_length, flips_length l a v i]
    · exact flips_length l a v i

theorem bit_xor (x s r : Nat) : (x ^^^ 2 ^ s) / 2 ^ r % 2 = (x / 2 ^ r % 2) ^^^ (if r = s then 1 else 0) := by
  have h1 := Nat.toNat_testBit (x ^^^ 2 ^ s) r
  have h2 := Nat.toNat_testBit x r
  rw [← h1, ← h2, Nat.testBit_xor, Nat.testBit_two_pow]
  by_cases h : r = s
  · subst h; simp; cases x.testBit r <;> rfl
  · have h' : ¬ s = r := fun e => h e.symm
    simp [h, h']

theorem bitAt_flip (l : List UInt8) (p j : Nat) (hp : p < 8 * l.length) : bitAt (flip l p) j = bitAt l j ^^^ (if j = p then 1 else 0) := by
  unfold bitAt flip
  by_cases hq : j / 8 = p / 8
  · have hget : (l.set (p / 8) (UInt8.ofNat ((l.getD (p / 8) 0).toNat ^^^ 2 ^ (p % 8)))).getD (j / 8) 0 = UInt8.ofNat ((l.getD (p / 8) 0).toNat ^^^ 2 ^ (p % 8)) := by
      rw [hq]
      simp [List.getD_eq_getElem?_getD, List.getElem?_set_self (show p / 8 < l.length by omega)]
    have hb := (l.getD (p / 8) 0).toNat_lt
    have hlt : (l.getD (p / 8) 0).toNat ^^^ 2 ^ (p % 8) < 2 ^ 8 := Nat.xor_lt_two_pow hb (Nat.pow_lt_pow_right (by omega) (by omega))
    have hn : (UInt8.ofNat ((l.getD (p / 8) 0).toNat ^^^ 2 ^ (p % 8))).toNat = (l.getD (p / 8) 0).toNat ^^^ 2 ^ (p % 8) := by
      rw [UInt8.toNat_ofNat']; exact Nat.mod_eq_of_lt hlt
    rw [hget, hn, bit_xor, hq]
    congr 1
    by_cases h : j = p
    · subst h; simp
    · rw [if_neg h, if_neg (by omega)]
  · have hget : (l.set (p / 8) (UInt8.ofNat ((l.getD (p / 8) 0).toNat ^^^ 2 ^ (p % 8)))).getD (j / 8) 0 = l.getD (j / 8) 0 := by
      simp [List.getD_eq_getElem?_getD, List.getElem?_set_ne (fun h => hq h.symm)]
    rw [hget, if_neg (by intro h; subst h; exact hq rfl), Nat.xor_zero]

theorem bitAt_flips (l : List UInt8) (a v : Nat) : ∀ (K : Nat), a + K ≤ 8 * l.length → ∀ j, bitAt (flips l a v K) j = bitAt l j ^^^ e a K v j
  | 0, _, j => by
    unfold e; rw [if_neg (by omega), Nat.xor_zero]; rfl
  | K + 1, hK, j => by
    have ih := bitAt_flips l a v K (by omega) j
    have hsplit : e a (K + 1) v j = e a K v j ^^^ (if j = a + K then v / 2 ^ K % 2 else 0) := by
      unfold e
      by_cases h : j = a + K
      · rw [if_pos (by omega), if_neg (by omega), if_pos h, Nat.zero_xor, h]
        congr 3
        omega
      · rw [if_neg h, Nat.xor_zero]
        by_cases h2 : a ≤ j ∧ j < a + K
        · rw [if_pos (by omega), if_pos h2]
        · rw [if_neg (by omega), if_neg h2]
    simp only [flips]
    split
    · rename_i h1
      rw [bitAt_flip _ _ _ (by rw [flips_length]; omega), ih, hsplit, Nat.xor_assoc, h1]
    · rename_i h1
      have h0 : v / 2 ^ K % 2 = 0 := by omega
      rw [ih, hsplit, h0]
      simp

theorem flips_none (l : List UInt8) (a v : Nat) : ∀ (K : Nat), v % 2 ^ K = 0 → flips l a v K = l
  | 0, _ => rfl
  | K + 1, h => by
    have h1 : v % 2 ^ K = 0 := by
      have := Nat.mod_mod_of_dvd v (Nat.pow_dvd_pow 2 (show K ≤ K + 1 by omega))
      rw [← this, h]; simp
    have h2 : v / 2 ^ K % 2 = 0 := by
      have := Nat.mod_mul_right_div_self v (2 ^ K) 2
      rw [← this, ← Nat.pow_succ, h]; simp
    simp only [flips]
    rw [if_neg (by omega)]
    exact flips_none l a v K h1

/- A list whose bits were turned within 32, and whose sum register ends the same, is the same list. -/
theorem burst (f : List UInt8) (a K v : Nat) (hK : K ≤ 32) (hM : a + K ≤ 8 * f.length) (hc : crc ones f = crc ones (flips f a v K)) : flips f a v K = f := by
  refine flips_none f a v K (burst_zero f (flips f a v K) (flips_length f a v K) a K v hK hM (fun j _ => ?_) hc)
  rw [bitAt_flips f a v K hM j, ← Nat.xor_assoc, Nat.xor_self, Nat.zero_xor]

theorem fed_low (r x : Nat) : ∀ k, k ≤ 8 → fed k r x = fed k r (x % 256)
  | 0, _ => rfl
  | k + 1, hk => by
    simp only [fed]
    rw [fed_low r x k (by omega)]
    congr 1
    have h1 := Nat.toNat_testBit (x % 256) k
    have h2 := Nat.toNat_testBit x k
    rw [← h1, ← h2]
    have : x % 256 = x % 2 ^ 8 := rfl
    rw [this, Nat.testBit_mod_two_pow]
    simp [show k < 8 by omega]
theorem feedB_step (r x : Nat) : feedB r (UInt8.ofNat (x % 256)) ^^^ (x / 256) = stepN 8 (r ^^^ x) := by
  rw [stepN_fed, fed_low r x 8 (Nat.le_refl _), ← fed_eight]
  have : (UInt8.ofNat (x % 256)).toNat = x % 256 := by simp
  rw [this]
end Go.Proofs.Ytnenegkgmkgfaaa.Cr

/- What the two functions that take a number answer: the same. -/
import Derived.Test.YtcbalhicaipmlaaGreatRWire3
namespace Go.Proofs.YtcbalhicaipmlaaGreat
open Go.RowKit
theorem wrap_id (x : Int) (h0 : 0 ≤ x) (h1 : x ≤ 9223372036854775807) : wrap64 x = x := by unfold wrap64; omega
theorem val_eq (m k b : Nat) (hm : m < 128 ^ k) (hk : k ≤ 8) : wrap64 ((m : Int) + wrap64 ((b : Int) % 128 * 2 ^ (7 * k))) = ((m + (b % 128) * 128 ^ k : Nat) : Int) := by
  have h1 := Nu.small_lt m k (b % 128) hm (by omega)
  have h2 := Nu.pow_le (k + 1) (by omega)
  have e : ((b : Int) % 128 * 2 ^ (7 * k)) = (((b % 128) * 128 ^ k : Nat) : Int) := by
    rw [Int.natCast_mul, Int.natCast_pow, Int.pow_mul]; rfl
  generalize (b % 128) * 128 ^ k = X at *
  rw [e, wrap_id (X : Int) (by omega) (by omega), ← Int.natCast_add, wrap_id _ (by omega) (by omega)]
theorem ret_three {a b : Int} {s t : List UInt8} {u v : Value} (h : a = b) (g : s = t) (f : u = v) : Ending.returned (.tuple #[.int .i64 a, .string ⟨s.toArray⟩, u]) = .returned (.tuple #[.int .i64 b, .string ⟨t.toArray⟩, v]) := by rw [h, g, f]
theorem cut_end (l : List UInt8) (k : Nat) : (⟨l.toArray⟩ : ByteArray).extract k l.length = ⟨(l.drop k).toArray⟩ := by
  rw [cutx, List.take_of_length_le (by simp)]
set_option maxHeartbeats 800000 in
set_option maxRecDepth 100000 in
theorem take_calls (l : List UInt8) (hl : l.length ≤ 1000000) (w : World) :
    Calls Tryz.prog 126 #[.string ⟨l.toArray⟩] w fun e w' => e = .returned (.tuple #[.int .i64 (Nu.take l).1, .string ⟨(Nu.take l).2.1.toArray⟩, errV (Nu.take l).2.2]) ∧ Below w.heap.size w w' := by
  go_enter Tryz.func126, Tryz.ntmps126
  go_wp2_with fail
  go_loop [5, 9] (fun a i => ∃ (k m : Nat), k ≤ l.length ∧ k ≤ 9 ∧ a = .int .i64 m ∧ i = .int .i64 k ∧ m ≤ 9223372036854775807 ∧ Hid (m < 128 ^ k) ∧ Hid (Nu.takeF k m (l.drop k) = Nu.take l)) (fun _ i => l.length - (intOf i).toNat)
  case atStart => exact ⟨0, 0, Nat.zero_le _, by omega, rfl, rfl, by omega, by show 0 < 128 ^ 0; simp, rfl⟩
  case round =>
    obtain ⟨k, m, hk, hk9, rfl, rfl, hm, HM, HT⟩ := hrel
    by_cases hlt : k < l.length
    · by_cases h9 : k = 9
      · have HE : Hid (Nu.take l = (0, [], 1)) := by show _ = _; rw [← HT.out, Nu.at_nine l k m hlt h9]
        have g9 : ((k : Int) == 9) = true := by rw [beq_iff_eq]; omega
        clear HT HM
        go_wp2
        go_ret3
        rw [HE.out]
        exact ⟨rfl, Below.refl _ _⟩
      · have hk8 : k ≤ 8 := by omega
        have g9 : ((k : Int) == 9) = false := by rw [beq_eq_false_iff_ne]; omega
        have HV : Hid (wrap64 ((m : Int) + wrap64 ((l[k].toNat : Int) % 128 * 2 ^ (7 * k))) = ((m + (l[k].toNat % 128) * 128 ^ k : Nat) : Int)) := val_eq m k l[k].toNat HM.out hk8
        have hb256 := l[k].toNat_lt
        have hidx : k < (⟨l.toArray⟩ : ByteArray).size := by show k < l.toArray.size; simpa using hlt
        have hpow := Nu.pow_le (k + 1) (by omega)
        by_cases hb : 128 ≤ l[k].toNat
        · have HN : Hid (Nu.takeF (k + 1) (m + (l[k].toNat - 128) * 128 ^ k) (l.drop (k + 1)) = Nu.take l) := by
            show _ = _; rw [← HT.out, Nu.at_big l k m hlt hk8 hb]
          have HL : Hid (m + (l[k].toNat - 128) * 128 ^ k < 128 ^ (k + 1)) := Nu.big_lt m k _ hb256 HM.out hb
          have HB : Hid (m + (l[k].toNat % 128) * 128 ^ k = m + (l[k].toNat - 128) * 128 ^ k) := by
            show _ = _; rw [show l[k].toNat % 128 = l[k].toNat - 128 by omega]
          have hle : m + (l[k].toNat - 128) * 128 ^ k ≤ 9223372036854775807 := by have := HL.out; omega
          have HLE : Hid (m + (l[k].toNat - 128) * 128 ^ k ≤ 9223372036854775807) := hle
          have hbb : (128 : Int) ≤ (((⟨l.toArray⟩ : ByteArray)[k]'hidx).toNat : Int) := Int.ofNat_le.2 hb
          clear HT HM hpow hle
          go_wp2
          go_round
          case rel => exact ⟨k + 1, _, by omega, by omega, congrArg (Value.int .i64) (by rw [← HB.out]; exact HV.out), by go_num, HLE, HL, HN⟩
          case measure => simp [intOf]; omega
        · have hb7 : (((⟨l.toArray⟩ : ByteArray)[k]'hidx).toNat : Int) < 128 := Int.ofNat_lt.2 (Nat.lt_of_not_le hb)
          by_cases hz : l[k].toNat = 0 ∧ 0 < k
          · have HE : Hid (Nu.take l = (0, [], 7)) := by show _ = _; rw [← HT.out, Nu.at_form l k m hlt hk8 hz.1 hz.2]
            have hz1 : ((((⟨l.toArray⟩ : ByteArray)[k]'hidx).toNat : Int) == 0) = true := by rw [beq_iff_eq]; exact congrArg Int.ofNat hz.1
            have hz2 := hz.2
            clear HT HM hz
            go_wp2
            go_ret3
            rw [HE.out]
            exact ⟨rfl, Below.refl _ _⟩
          · have HE : Hid (Nu.take l = (m + l[k].toNat * 128 ^ k, l.drop (k + 1), 0)) := by show _ = _; rw [← HT.out, Nu.at_last l k m hlt hk8 (by omega) hz]
            have HW : Hid (wrap64 ((m : Int) + wrap64 ((l[k].toNat : Int) % 128 * 2 ^ (7 * k))) = ((m + l[k].toNat * 128 ^ k : Nat) : Int)) := by
              show _ = _
              rw [HV.out, show l[k].toNat % 128 = l[k].toNat by omega]
            clear HT HV
            by_cases h0 : l[k].toNat = 0
            · have hk0 : k = 0 := by omega
              subst hk0
              have hm0 : m = 0 := by have := HM.out; simp at this; exact this
              subst hm0
              have HQ : Hid (Nu.take l = (0, l.drop 1, 0)) := by show _ = _; rw [HE.out, h0]
              clear HE HW HM
              go_wp2_with fail
              refine (freshS_calls ((⟨l.toArray⟩ : ByteArray).extract 1 l.length) _ (Nat.le_trans (size_cut _ _ _) (by omega))).mono ?_
              rintro e w1 ⟨rfl, hb1⟩
              go_wp2
              go_ret3
              rw [HQ.out, cut_end]
              exact ⟨rfl, hb1⟩
            · have hz1 : ((((⟨l.toArray⟩ : ByteArray)[k]'hidx).toNat : Int) == 0) = false := by rw [beq_eq_false_iff_ne]; intro h; exact h0 (Int.ofNat.inj h)
              clear hz h0 hpow HM
              go_wp2_with fail
              refine (freshS_calls ((⟨l.toArray⟩ : ByteArray).extract (k + 1) l.length) _ (Nat.le_trans (size_cut _ _ _) (by omega))).mono ?_
              rintro e w1 ⟨rfl, hb1⟩
              go_wp2
              go_ret3
              rw [HE.out, cut_end]
              exact ⟨ret_three HW.out rfl rfl, hb1⟩
    · have HE : Hid (Nu.take l = (0, [], 4)) := by show _ = _; rw [← HT.out, Nu.at_end l k m hlt]
      clear HT HM
      go_wp2
      go_ret3
      rw [HE.out]
      exact ⟨rfl, Below.refl _ _⟩
theorem worth_eq (m k b : Nat) (hm : m < 128 ^ k) (hk : k ≤ 8) (hb : 128 ≤ b) (hb2 : b < 256) :
    wrap64 ((m : Int) + wrap64 (((128 ^ k : Nat) : Int) * ((b : Int) - 128))) = ((m + (b - 128) * 128 ^ k : Nat) : Int) := by
  have h1 := Nu.big_lt m k b hb2 hm hb
  have h2 := Nu.pow_le (k + 1) (by omega)
  have e : (((128 ^ k : Nat) : Int) * ((b : Int) - 128)) = (((b - 128) * 128 ^ k : Nat) : Int) := by
    have e0 : ((b : Int) - 128) = ((b - 128 : Nat) : Int) := by omega
    rw [e0, Nat.mul_comm, Int.natCast_mul]
  generalize (b - 128) * 128 ^ k = X at *
  rw [e, wrap_id (X : Int) (by omega) (by omega), ← Int.natCast_add, wrap_id _ (by omega) (by omega)]
theorem worth_last (m k b : Nat) (hm : m < 128 ^ k) (hk : k ≤ 8) (hb2 : b < 128) :
    wrap64 ((m : Int) + wrap64 (((128 ^ k : Nat) : Int) * (b : Int))) = ((m + b * 128 ^ k : Nat) : Int) := by
  have h1 := Nu.small_lt m k b hm hb2
  have h2 := Nu.pow_le (k + 1) (by omega)
  have e : (((128 ^ k : Nat) : Int) * (b : Int)) = ((b * 128 ^ k : Nat) : Int) := by
    rw [Nat.mul_comm, Int.natCast_mul]
  generalize b * 128 ^ k = X at *
  rw [e, wrap_id (X : Int) (by omega) (by omega), ← Int.natCast_add, wrap_id _ (by omega) (by omega)]
set_option maxHeartbeats 800000 in
set_option maxRecDepth 100000 in
theorem refTake_calls (l : List UInt8) (hl : l.length ≤ 1000000) (w : World) :
    Calls Tryz.prog 98 #[.string ⟨l.toArray⟩] w fun e w' => e = .returned (.tuple #[.int .i64 (Nu.take l).1, .string ⟨(Nu.take l).2.1.toArray⟩, .int .i64 (Nu.take l).2.2]) ∧ Below w.heap.size w w' := by
  go_enter Tryz.func98, Tryz.ntmps98
  go_wp2_with fail
  go_loop [5, 6, 7] (fun a t i => ∃ (k m q : Nat), k ≤ l.length ∧ k ≤ 9 ∧ a = .int .i64 m ∧ t = .int .i64 q ∧ i = .int .i64 k ∧ m ≤ 9223372036854775807 ∧ q ≤ 72057594037927936 ∧ Hid (k ≤ 8 → q = 128 ^ k) ∧ Hid (m < 128 ^ k) ∧ Hid (Nu.takeF k m (l.drop k) = Nu.take l)) (fun _ _ i => l.length - (intOf i).toNat)
  case atStart => exact ⟨0, 0, 1, Nat.zero_le _, by omega, rfl, rfl, rfl, by omega, by omega, fun _ => rfl, by show 0 < 128 ^ 0; simp, rfl⟩
  case round =>
    obtain ⟨k, m, q, hk, hk9, rfl, rfl, rfl, hm, hq, HQ, HM, HT⟩ := hrel
    by_cases hlt : k < l.length
    · by_cases h9 : k = 9
      · have HE : Hid (Nu.take l = (0, [], 1)) := by show _ = _; rw [← HT.out, Nu.at_nine l k m hlt h9]
        have g9 : (8 : Int) < (k : Int) := by omega
        clear HT HM HQ
        go_wp2
        go_ret3
        rw [HE.out]
        exact ⟨rfl, Below.refl _ _⟩
      · have hk8 : k ≤ 8 := by omega
        have g9 : ¬ (8 : Int) < (k : Int) := by omega
        have HK : Hid (q = 128 ^ k) := HQ.out hk8
        have hb256 := l[k].toNat_lt
        have hidx : k < (⟨l.toArray⟩ : ByteArray).size := by show k < l.toArray.size; simpa using hlt
        have hb255 : (((⟨l.toArray⟩ : ByteArray)[k]'hidx).toNat : Int) ≤ 255 := Int.ofNat_le.2 (by omega : l[k].toNat ≤ 255)
        have hpow := Nu.pow_le (k + 1) (by omega)
        by_cases hb : 128 ≤ l[k].toNat
        · have hbb : (128 : Int) ≤ (((⟨l.toArray⟩ : ByteArray)[k]'hidx).toNat : Int) := Int.ofNat_le.2 hb
          have HN : Hid (Nu.takeF (k + 1) (m + (l[k].toNat - 128) * 128 ^ k) (l.drop (k + 1)) = Nu.take l) := by
            show _ = _; rw [← HT.out, Nu.at_big l k m hlt hk8 hb]
          have HL : Hid (m + (l[k].toNat - 128) * 128 ^ k < 128 ^ (k + 1)) := Nu.big_lt m k _ hb256 HM.out hb
          have HLE : Hid (m + (l[k].toNat - 128) * 128 ^ k ≤ 9223372036854775807) := by have := HL.out; show _ ≤ _; omega
          have HV : Hid (wrap64 ((m : Int) + wrap64 ((q : Int) * ((l[k].toNat : Int) - 128))) = ((m + (l[k].toNat - 128) * 128 ^ k : Nat) : Int)) := by
            show _ = _
            rw [HK.out]; exact worth_eq m k _ HM.out hk8 hb hb256
          by_cases h8 : k < 8
          · have hq7 : q ≤ 562949953421312 := by
              have h7 : (128 : Nat) ^ k ≤ 128 ^ 7 := Nat.pow_le_pow_right (by omega) (by omega)
              rw [HK.out]; simpa using h7
            have HK2 : Hid (q * 128 = 128 ^ (k + 1)) := by show _ = _; rw [Nat.pow_succ, HK.out]
            clear HT HM hpow HK HQ
            go_wp2
            go_round
            case rel => exact ⟨k + 1, _, q * 128, by omega, by omega, congrArg (Value.int .i64) HV.out, by go_num, by go_num, HLE, by omega, fun _ => HK2.out, HL, HN⟩
            case measure => simp [intOf]; omega
          · clear HT HM hpow HK HQ
            go_wp2
            go_round
            case rel => exact ⟨k + 1, _, q, by omega, by omega, congrArg (Value.int .i64) HV.out, rfl, by go_num, HLE, hq, fun h => by omega, HL, HN⟩
            case measure => simp [intOf]; omega
        · have hb7 : (((⟨l.toArray⟩ : ByteArray)[k]'hidx).toNat : Int) < 128 := Int.ofNat_lt.2 (Nat.lt_of_not_le hb)
          by_cases hz : l[k].toNat = 0 ∧ 0 < k
          · have HE : Hid (Nu.take l = (0, [], 7)) := by show _ = _; rw [← HT.out, Nu.at_form l k m hlt hk8 hz.1 hz.2]
            have hz1 : ((((⟨l.toArray⟩ : ByteArray)[k]'hidx).toNat : Int) == 0) = true := by rw [beq_iff_eq]; exact congrArg Int.ofNat hz.1
            have hz2 := hz.2
            clear HT HM hz HK HQ hpow
            go_wp2
            go_ret3
            rw [HE.out]
            exact ⟨rfl, Below.refl _ _⟩
          · have HE : Hid (Nu.take l = (m + l[k].toNat * 128 ^ k, l.drop (k + 1), 0)) := by show _ = _; rw [← HT.out, Nu.at_last l k m hlt hk8 (by omega) hz]
            have HW : Hid (wrap64 ((m : Int) + wrap64 ((q : Int) * (l[k].toNat : Int))) = ((m + l[k].toNat * 128 ^ k : Nat) : Int)) := by
              show _ = _
              rw [HK.out]; exact worth_last m k _ HM.out hk8 (by omega)
            clear HT hpow
            by_cases h0 : l[k].toNat = 0
            · have hk0 : k = 0 := by omega
              subst hk0
              have hm0 : m = 0 := by have := HM.out; simp at this; exact this
              subst hm0
              have HQ2 : Hid (Nu.take l = (0, l.drop 1, 0)) := by show _ = _; rw [HE.out, h0]
              clear HE HW HM HK HQ
              go_wp2_with fail
              go_quiet (fail)
              go_wp2
              go_ret3
              rw [HQ2.out, cut_end]
              exact ⟨rfl, below_drewN (Below.refl _ _) _⟩
            · have hz1 : ((((⟨l.toArray⟩ : ByteArray)[k]'hidx).toNat : Int) == 0) = false := by rw [beq_eq_false_iff_ne]; intro h; exact h0 (Int.ofNat.inj h)
              clear hz h0 HM HK HQ
              go_wp2_with fail
              go_quiet (fail)
              go_wp2
              go_ret3
              rw [HE.out, cut_end]
              exact ⟨ret_three HW.out rfl rfl, below_drewN (Below.refl _ _) _⟩
    · have HE : Hid (Nu.take l = (0, [], 4)) := by show _ = _; rw [← HT.out, Nu.at_end l k m hlt]
      clear HT HM
      go_wp2
      go_ret3
      rw [HE.out]
      exact ⟨rfl, Below.refl _ _⟩
end Go.Proofs.YtcbalhicaipmlaaGreat

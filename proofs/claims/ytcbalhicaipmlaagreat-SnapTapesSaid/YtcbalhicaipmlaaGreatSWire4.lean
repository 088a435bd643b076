/- What the two functions that write a number answer: the same bytes. -/
import Derived.Maps.AppendAt
import Derived.Test.YtcbalhicaipmlaaGreatSRefQ
import Derived.Test.YtcbalhicaipmlaaGreatSSums
namespace Go.Proofs.YtcbalhicaipmlaaGreat
open Go.RowKit
theorem conv_owned (W : World) (base : Nat) (v : Value) (l : List UInt8) (hne : 0 < l.length) (h : W.ownsRow base 5 1 v l.length (Lib.byteCells l)) :
    (convert 93 9 v).run Tryz.prog W = .ok (.string ⟨l.toArray⟩) W := by
  have hc := fun (g : Nat) (hg : v.ownBlock = some g) => h.cells hg
  rcases h.2 with ⟨_, h0⟩ | ⟨g, cap, cur, rfl, _⟩
  · omega
  · exact conv_bytes W g l.length cap l rfl (fun j hj => by
      have := hc g rfl j (.int .u8 (l[j].toNat : Int)) (by simp [Lib.byteCells, hj])
      by_cases h0 : j = 0
      · subst h0; simpa [Addr.add] using this
      · simpa [Addr.add, h0] using this)
theorem grow_step {w wr w' : World} {e : TypeId} {v : Value} {n : Nat} {xs : List Value} (hbw : Below w.heap.size w wr) (hown : wr.ownsRow w.heap.size e 1 v n xs) (o : Obj) (hg : (wr.alloc o).grownBy w' v.ownBlock) : Below w.heap.size w w' :=
  (hbw.alloc hbw.size o).grown hg (by have := hbw.size; simp; omega) (fun k hk => (hown.lt k hk).1)
theorem byte_snoc (acc : List UInt8) (x : Int) (b : UInt8) (h : x = (b.toNat : Int)) : Lib.byteCells acc ++ [Value.int .u8 x] = Lib.byteCells (acc ++ [b]) := by
  rw [Lib.byteCells_append, h]; rfl
theorem oneCell_byte (x : Int) : ∀ u ∈ [Value.int .u8 x], u.oneCell' = true := by
  intro u hu; simp at hu; subst hu; rfl
theorem big_byte (m : Nat) : ((m : Int) % 128 + 128) = ((UInt8.ofNat (128 + m % 128)).toNat : Int) := by
  have : (UInt8.ofNat (128 + m % 128)).toNat = 128 + m % 128 := by simp; omega
  rw [this]; omega
theorem small_byte (m : Nat) (h : m < 128) : (m : Int) = ((UInt8.ofNat m).toNat : Int) := by
  have : (UInt8.ofNat m).toNat = m := by simp; omega
  rw [this]
theorem num_next {n m f : Nat} {acc : List UInt8} (hge : 128 ≤ m) (HM : Hid (m < 128 ^ (f + 1))) (HA : Hid (acc ++ Nu.numF f m = Nu.num n)) :
    ∃ f', f = f' + 1 ∧ m / 128 < 128 ^ (f' + 1) ∧ (acc ++ [UInt8.ofNat (128 + m % 128)]) ++ Nu.numF f' (m / 128) = Nu.num n := by
  cases f with
  | zero => have := HM.out; simp at this; omega
  | succ f' =>
    refine ⟨f', rfl, ?_, ?_⟩
    · have := HM.out
      rw [Nat.div_lt_iff_lt_mul (by omega)]; rw [Nat.pow_succ] at this; exact this
    · rw [← HA.out, Nu.numF_big f' m hge]; simp
theorem num_last {n m f : Nat} {acc : List UInt8} (hlt : m < 128) (HA : Hid (acc ++ Nu.numF f m = Nu.num n)) : acc ++ [UInt8.ofNat m] = Nu.num n := by
  rw [← HA.out, Nu.numF_small f m hlt]
set_option maxHeartbeats 800000 in
set_option maxRecDepth 100000 in
theorem num_calls (n : Nat) (hn : n ≤ 9223372036854775807) (w : World) :
    Calls Tryz.prog 127 #[.int .i64 n] w fun e w' => e = .returned (.tuple #[.string ⟨(Nu.num n).toArray⟩, .nilIface]) ∧ Below w.heap.size w w' := by
  obtain ⟨i0, hi, hz0, hz1, hz2⟩ := info_parts info_u8
  go_enter Tryz.func127, Tryz.ntmps127
  go_wp2_with fail
  go_loopw [0, 4] (fun a b wr => ∃ (m f : Nat) (acc : List UInt8), a = .int .i64 m ∧ m ≤ 9223372036854775807 ∧ acc.length + f = 8 ∧ wr.ownsRow w.heap.size 5 1 b acc.length (Lib.byteCells acc) ∧ Hid (m < 128 ^ (f + 1)) ∧ Hid (acc ++ Nu.numF f m = Nu.num n) ∧ Below w.heap.size w wr) (fun a _ _ => (intOf a).toNat)
  case atStart => exact ⟨n, 8, [], rfl, hn, rfl, World.ownsRow_nil _ _ _ _, by show n < 128 ^ 9; omega, rfl, Below.refl _ _⟩
  case round =>
    obtain ⟨m, f, acc, rfl, hm, hlen, hown, HM, HA, hbw⟩ := hrel
    have hz := hbw.size
    by_cases hge : 128 ≤ m
    · obtain ⟨f', hf, hlt', hA'⟩ := num_next hge HM HA
      have HM' : Hid (m / 128 < 128 ^ (f' + 1)) := hlt'
      have HA' : Hid ((acc ++ [UInt8.ofNat (128 + m % 128)]) ++ Nu.numF f' (m / 128) = Nu.num n) := hA'
      have hlen' : acc.length + 1 + f' = 8 := by omega
      clear hlt' hA' hf HM HA
      go_wp2_with (first | (at_builtin; refine wpList_append_own _ rfl _ _ 93 rfl w.heap.size 5 i0 (.int .u8 0) 1 1 Tryz.underlying93 hi hz0 hz1 hz2 rfl (by decide) _ _ _ rfl (hown.alloc _) ⟨wr.heap.size, 0, none⟩ 1 1 [.int .u8 ((m : Int) % 128 + 128)] rfl rfl (cell_one_new _ _ _) (oneCell_byte _) ?c3 ?c4 ?c5 ?_) | go_in)
      case c3 => unfold maxLen; omega
      case c4 => omega
      case c5 => simp; omega
      intro v' w1 hown' hgrow _
      have hb1 := grow_step hbw hown _ hgrow
      rw [byte_snoc _ _ _ (big_byte m)] at hown'
      clear hgrow hown hbw
      go_wp2
      go_roundw
      case rel => exact ⟨m / 128, f', acc ++ [UInt8.ofNat (128 + m % 128)], by go_num, by omega, by simp; omega, by simpa using hown', HM', HA', hb1⟩
      case measure => simp [intOf]; omega
    · have HE : Hid (acc ++ [UInt8.ofNat m] = Nu.num n) := num_last (by omega) HA
      clear HA HM
      go_wp2_with (first | (at_builtin; refine wpList_append_own _ rfl _ _ 93 rfl w.heap.size 5 i0 (.int .u8 0) 1 1 Tryz.underlying93 hi hz0 hz1 hz2 rfl (by decide) _ _ _ rfl (hown.alloc _) ⟨wr.heap.size, 0, none⟩ 1 1 [.int .u8 (m : Int)] rfl rfl (cell_one_new _ _ _) (oneCell_byte _) ?c3 ?c4 ?c5 ?_) | go_in)
      case c3 => unfold maxLen; omega
      case c4 => omega
      case c5 => simp; omega
      intro v' w1 hown' hgrow _
      have hb1 := grow_step hbw hown _ hgrow
      rw [byte_snoc _ _ _ (small_byte m (by omega))] at hown'
      have hcv := conv_owned w1 w.heap.size v' (acc ++ [UInt8.ofNat m]) (by simp) (by simpa using hown')
      clear hgrow hown hbw hown'
      go_wp2
      go_ret2
      exact ⟨ret_two HE.out rfl, hb1⟩
theorem big_byte2 (m : Nat) : (128 + (m : Int) % 128) = ((UInt8.ofNat (128 + m % 128)).toNat : Int) := by
  rw [← big_byte m]; omega
set_option maxHeartbeats 800000 in
set_option maxRecDepth 100000 in
theorem refNum_calls (n : Nat) (hn : n ≤ 9223372036854775807) (w : World) :
    Calls Tryz.prog 83 #[.int .i64 n] w fun e w' => e = .returned (.string ⟨(Nu.num n).toArray⟩) ∧ Below w.heap.size w w' := by
  obtain ⟨i0, hi, hz0, hz1, hz2⟩ := info_parts info_u8
  go_enter Tryz.func83, Tryz.ntmps83
  go_wp2_with fail
  go_loopw [0, 3] (fun a b wr => ∃ (m f : Nat) (acc : List UInt8), a = .int .i64 m ∧ m ≤ 9223372036854775807 ∧ acc.length + f = 8 ∧ wr.ownsRow w.heap.size 5 1 b acc.length (Lib.byteCells acc) ∧ Hid (m < 128 ^ (f + 1)) ∧ Hid (acc ++ Nu.numF f m = Nu.num n) ∧ Below w.heap.size w wr) (fun a _ _ => (intOf a).toNat)
  case atStart => exact ⟨n, 8, [], rfl, hn, rfl, World.ownsRow_nil _ _ _ _, by show n < 128 ^ 9; omega, rfl, Below.refl _ _⟩
  case round =>
    obtain ⟨m, f, acc, rfl, hm, hlen, hown, HM, HA, hbw⟩ := hrel
    have hz := hbw.size
    by_cases hge : 128 ≤ m
    · obtain ⟨f', hf, hlt', hA'⟩ := num_next hge HM HA
      have HM' : Hid (m / 128 < 128 ^ (f' + 1)) := hlt'
      have HA' : Hid ((acc ++ [UInt8.ofNat (128 + m % 128)]) ++ Nu.numF f' (m / 128) = Nu.num n) := hA'
      have hlen' : acc.length + 1 + f' = 8 := by omega
      clear hlt' hA' hf HM HA
      go_wp2_with (first | (at_builtin; refine wpList_append_own _ rfl _ _ 93 rfl w.heap.size 5 i0 (.int .u8 0) 1 1 Tryz.underlying93 hi hz0 hz1 hz2 rfl (by decide) _ _ _ rfl (hown.alloc _) ⟨wr.heap.size, 0, none⟩ 1 1 [.int .u8 (128 + (m : Int) % 128)] rfl rfl (cell_one_new _ _ _) (oneCell_byte _) ?c3 ?c4 ?c5 ?_) | go_in)
      case c3 => unfold maxLen; omega
      case c4 => omega
      case c5 => simp; omega
      intro v' w1 hown' hgrow _
      have hb1 := grow_step hbw hown _ hgrow
      rw [byte_snoc _ _ _ (big_byte2 m)] at hown'
      clear hgrow hown hbw
      go_wp2
      go_roundw
      case rel => exact ⟨m / 128, f', acc ++ [UInt8.ofNat (128 + m % 128)], by go_num, by omega, by simp; omega, by simpa using hown', HM', HA', hb1⟩
      case measure => simp [intOf]; omega
    · have HE : Hid (acc ++ [UInt8.ofNat m] = Nu.num n) := num_last (by omega) HA
      clear HA HM
      go_wp2_with (first | (at_builtin; refine wpList_append_own _ rfl _ _ 93 rfl w.heap.size 5 i0 (.int .u8 0) 1 1 Tryz.underlying93 hi hz0 hz1 hz2 rfl (by decide) _ _ _ rfl (hown.alloc _) ⟨wr.heap.size, 0, none⟩ 1 1 [.int .u8 (m : Int)] rfl rfl (cell_one_new _ _ _) (oneCell_byte _) ?c3 ?c4 ?c5 ?_) | go_in)
      case c3 => unfold maxLen; omega
      case c4 => omega
      case c5 => simp; omega
      intro v' w1 hown' hgrow _
      have hb1 := grow_step hbw hown _ hgrow
      rw [byte_snoc _ _ _ (small_byte m (by omega))] at hown'
      have hcv := conv_owned w1 w.heap.size v' (acc ++ [UInt8.ofNat m]) (by simp) (by simpa using hown')
      clear hgrow hown hbw hown'
      go_wp2
      go_ret
      exact ⟨ret_str HE.out, hb1⟩
end Go.Proofs.YtcbalhicaipmlaaGreat
namespace Go.Proofs.YtcbalhicaipmlaaGreat
open Go.RowKit
theorem wrap_id (x : Int) (h0 : 0 ≤ x) (h1 : x ≤ 9223372036854775807) : wrap64 x = x := by unfold wrap64; omega
theorem val_eq (m k b : Nat) (hm : m < 128 ^ k) (hk : k ≤ 8) : wrap64 ((m : Int) + wrap64 ((b : Int) % 128 * 2 ^ (7 * k))) = ((m + (b % 128) * 128 ^ k : Nat) : Int) := by
  have h1 := Nu.small_lt m k (b % 128) hm (by omega)
  have h2 := Nu.pow_le (k + 1) (by omega)
  have e : ((b : Int) % 128 * 2 ^ (7 * k)) = (((b % 128) * 128 ^ k : Nat) : Int) := by
    rw [Int.natCast_mul, Int.natCast_pow, Int.pow_mul]; rfl
  generalize (b % 128) * 128 ^ k = X at *
  rw [e, wrap_id (X : Int) (by omega) (by omega), ← Int.natCast_add, wrap_id _ (by omega) (by omega)]
theorem ret_three {a b : Int} {s t : List UInt8} {u v : Value} (h : a = b) (g : s = t) (f : u = v) : Ending.returned (.tuple #[.int .i64 a, .string ⟨s.toArray⟩, u]) = .returned (.tuple #[.int .i64 b, .string ⟨t.toArray⟩, v]) := by rw [h, g, f]
theorem cut_end (l : List UInt8) (k : Nat) : (⟨l.toArray⟩ : ByteArray).extract k l.length = ⟨(l.drop k).toArray⟩ := by
  rw [cutx, List.take_of_length_le (by simp)]
set_option maxHeartbeats 800000 in
set_option maxRecDepth 100000 in
theorem take_calls (l : List UInt8) (hl : l.length ≤ 1000000) (w : World) :
    Calls Tryz.prog 126 #[.string ⟨l.toArray⟩] w fun e w' => e = .returned (.tuple #[.int .i64 (Nu.take l).1, .string ⟨(Nu.take l).2.1.toArray⟩, errV (Nu.take l).2.2]) ∧ Below w.heap.size w w' := by
  go_enter Tryz.func126, Tryz.ntmps126
  go_wp2_with fail
  go_loop [5, 9] (fun a i => ∃ (k m : Nat), k ≤ l.length ∧ k ≤ 9 ∧ a = .int .i64 m ∧ i = .int .i64 k ∧ m ≤ 9223372036854775807 ∧ Hid (m < 128 ^ k) ∧ Hid (Nu.takeF k m (l.drop k) = Nu.take l)) (fun _ i => l.length - (intOf i).toNat)
  case atStart => exact ⟨0, 0, Nat.zero_le _, by omega, rfl, rfl, by omega, by show 0 < 128 ^ 0; simp, rfl⟩
  case round =>
    obtain ⟨k, m, hk, hk9, rfl, rfl, hm, HM, HT⟩ := hrel
    by_cases hlt : k < l.length
    · by_cases h9 : k = 9
      · have HE : Hid (Nu.take l = (0, [], 1)) := by show _ = _; rw [← HT.out, Nu.at_nine l k m hlt h9]
        have g9 : ((k : Int) == 9) = true := by rw [beq_iff_eq]; omega
        clear HT HM
        go_wp2
        go_ret3
        rw [HE.out]
        exact ⟨rfl, Below.refl _ _⟩
      · have hk8 : k ≤ 8 := by omega
        have g9 : ((k : Int) == 9) = false := by rw [beq_eq_false_iff_ne]; omega
        have HV : Hid (wrap64 ((m : Int) + wrap64 ((l[k].toNat : Int) % 128 * 2 ^ (7 * k))) = ((m + (l[k].toNat % 128) * 128 ^ k : Nat) : Int)) := val_eq m k l[k].toNat HM.out hk8
        have hb256 := l[k].toNat_lt
        have hidx : k < (⟨l.toArray⟩ : ByteArray).size := by show k < l.toArray.size; simpa using hlt
        have hpow := Nu.pow_le (k + 1) (by omega)
        by_cases hb : 128 ≤ l[k].toNat
        · have HN : Hid (Nu.takeF (k + 1) (m + (l[k].toNat - 128) * 128 ^ k) (l.drop (k + 1)) = Nu.take l) := by
            show _ = _; rw [← HT.out, Nu.at_big l k m hlt hk8 hb]
          have HL : Hid (m + (l[k].toNat - 128) * 128 ^ k < 128 ^ (k + 1)) := Nu.big_lt m k _ hb256 HM.out hb
          have HB : Hid (m + (l[k].toNat % 128) * 128 ^ k = m + (l[k].toNat - 128) * 128 ^ k) := by
            show _ = _; rw [show l[k].toNat % 128 = l[k].toNat - 128 by omega]
          have hle : m + (l[k].toNat - 128) * 128 ^ k ≤ 9223372036854775807 := by have := HL.out; omega
          have HLE : Hid (m + (l[k].toNat - 128) * 128 ^ k ≤ 9223372036854775807) := hle
          have hbb : (128 : Int) ≤ (((⟨l.toArray⟩ : ByteArray)[k]'hidx).toNat : Int) := Int.ofNat_le.2 hb
          clear HT HM hpow hle
          go_wp2
          go_round
          case rel => exact ⟨k + 1, _, by omega, by omega, congrArg (Value.int .i64) (by rw [← HB.out]; exact HV.out), by go_num, HLE, HL, HN⟩
          case measure => simp [intOf]; omega
        · have hb7 : (((⟨l.toArray⟩ : ByteArray)[k]'hidx).toNat : Int) < 128 := Int.ofNat_lt.2 (Nat.lt_of_not_le hb)
          by_cases hz : l[k].toNat = 0 ∧ 0 < k
          · have HE : Hid (Nu.take l = (0, [], 7)) := by show _ = _; rw [← HT.out, Nu.at_form l k m hlt hk8 hz.1 hz.2]
            have hz1 : ((((⟨l.toArray⟩ : ByteArray)[k]'hidx).toNat : Int) == 0) = true := by rw [beq_iff_eq]; exact congrArg Int.ofNat hz.1
            have hz2 := hz.2
            clear HT HM hz
            go_wp2
            go_ret3
            rw [HE.out]
            exact ⟨rfl, Below.refl _ _⟩
          · have HE : Hid (Nu.take l = (m + l[k].toNat * 128 ^ k, l.drop (k + 1), 0)) := by show _ = _; rw [← HT.out, Nu.at_last l k m hlt hk8 (by omega) hz]
            have HW : Hid (wrap64 ((m : Int) + wrap64 ((l[k].toNat : Int) % 128 * 2 ^ (7 * k))) = ((m + l[k].toNat * 128 ^ k : Nat) : Int)) := by
              show _ = _
              rw [HV.out, show l[k].toNat % 128 = l[k].toNat by omega]
            clear HT HV
            by_cases h0 : l[k].toNat = 0
            · have hk0 : k = 0 := by omega
              subst hk0
              have hm0 : m = 0 := by have := HM.out; simp at this; exact this
              subst hm0
              have HQ : Hid (Nu.take l = (0, l.drop 1, 0)) := by show _ = _; rw [HE.out, h0]
              clear HE HW HM
              go_wp2_with fail
              refine (freshS_calls ((⟨l.toArray⟩ : ByteArray).extract 1 l.length) _ (Nat.le_trans (size_cut _ _ _) (by omega))).mono ?_
              rintro e w1 ⟨rfl, hb1⟩
              go_wp2
              go_ret3
              rw [HQ.out, cut_end]
              exact ⟨rfl, hb1⟩
            · have hz1 : ((((⟨l.toArray⟩ : ByteArray)[k]'hidx).toNat : Int) == 0) = false := by rw [beq_eq_false_iff_ne]; intro h; exact h0 (Int.ofNat.inj h)
              clear hz h0 hpow HM
              go_wp2_with fail
              refine (freshS_calls ((⟨l.toArray⟩ : ByteArray).extract (k + 1) l.length) _ (Nat.le_trans (size_cut _ _ _) (by omega))).mono ?_
              rintro e w1 ⟨rfl, hb1⟩
              go_wp2
              go_ret3
              rw [HE.out, cut_end]
              exact ⟨ret_three HW.out rfl rfl, hb1⟩
    · have HE : Hid (Nu.take l = (0, [], 4)) := by show _ = _; rw [← HT.out, Nu.at_end l k m hlt]
      clear HT HM
      go_wp2
      go_ret3
      rw [HE.out]
      exact ⟨rfl, Below.refl _ _⟩
end Go.Proofs.YtcbalhicaipmlaaGreat

/- The walk of TopWire, its other ways. -/
import Derived.Test.YtnenegkgmkgfaaaWire8
namespace Go.Proofs.Ytnenegkgmkgfaaa
open Go.RowKit

set_option maxHeartbeats 4000000 in
set_option maxRecDepth 100000 in
theorem topWire_ok (n : Nat) (l : List UInt8) (b : UInt8) (a v : Nat) (hn : n ≤ 9223372036854775807) (hl : l.length ≤ 300) (ha : a ≤ 9223372036854775807) (hv : v < 2 ^ 32) (hc : (Nu.take l).2.2 = 0) (w : World) :
    Calls Try.prog 5 #[.int .i64 n, .string ⟨l.toArray⟩, .int .u8 (b.toNat : Int), .int .i64 a, .int .u32 v] w fun e w' => e = .returned (.bool true) ∧ Below w.heap.size w w' := by
  have hof : Hid (openE b (frameL b l) = 0 ∧ openB b (frameL b l) = l) := open_frame b l
  have hfl := frameL_length b l
  have htn : Hid (Nu.take (Nu.num n ++ l) = (n, l, 0)) := Nu.take_of_num n (by omega) l
  have hnl := Nu.num_length n
  have htc := take_code l
  go_enter Try.func5, Try.ntmps5
  go_wp2_with fail
  refine (num_calls n hn _).mono ?_
  rintro e w1 ⟨rfl, hb1⟩
  go_wp2_with fail
  simp only [cat]
  refine (take_calls (Nu.num n ++ l) (by simp; omega) _).mono ?_
  rintro e w2 ⟨rfl, hb2⟩
  rw [htn.out]
  simp only [errV_zero]
  go_wp2_with fail
  refine (take_calls l (by omega) _).mono ?_
  rintro e w3 ⟨rfl, hb3⟩
  generalize hT : Nu.take l = T at *
  obtain ⟨y, r, c⟩ := T
  have hc0 : c = 0 := hc
  subst hc0
  have hok := Nu.take_ok l y r hT
  have HY : Hid (Nu.num y ++ r = l) := hok.1
  have hy : y ≤ 9223372036854775807 := by have := hok.2; omega
  have hq0 : (Nu.num y ++ r == l) = true := by simpa using HY.out
  have hyl := Nu.num_length y
  have hrl : r.length ≤ 300 := by
    have := congrArg List.length HY.out
    simp at this; omega
  clear hok hc
  simp only [errV_zero]
  go_wp2_with fail
  refine (num_calls y hy _).mono ?_
  rintro e w3b ⟨rfl, hb3b⟩
  have hcat : (((⟨(Nu.num y).toArray⟩ : ByteArray) ++ ⟨r.toArray⟩).toList == l) = true := by rw [cat, bytes_toList]; exact hq0
  go_wp2_with fail
  refine (frame_calls b l (by omega) _).mono ?_
  rintro e w4 ⟨rfl, hb4⟩
  go_wp2_with fail
  refine (open_calls b (frameL b l) (by omega) _).mono ?_
  rintro e w5 ⟨rfl, hb5⟩
  rw [hof.out.1, hof.out.2]
  simp only [errV_zero]
  clear hof htn
  generalize hF : frameL b l = F at *
  obtain ⟨cap, w6, hcv, hb6, hg6, hrow⟩ := conv_to w5 F
  have HR : Hid (RowB w6 w5.heap.size F) := hrow
  have HFL : Hid (F.length = l.length + 8) := hfl
  have hF1 : F.length ≤ 308 := by omega
  have hF2 : 8 ≤ F.length := by omega
  have hF3 : (8 * (F.length : Int)) ≠ 0 := by omega
  obtain ⟨p, hp⟩ : ∃ p, p = a % (8 * F.length) := ⟨_, rfl⟩
  have hp1 : p < 8 * F.length := by rw [hp]; exact Nat.mod_lt _ (by omega)
  have hp2 : (a : Int) % (8 * (F.length : Int)) = (p : Int) := by rw [hp]; simp
  have HF : Hid (frameL b l = F) := hF
  clear hp hrow hfl hF hT htc hnl hyl hrl hcat hq0 HY
  go_wp2_with fail
  rw [hp2]
  clear hp2 hcv hF3
  have hb05 : Below w.heap.size w w5 := after (after (after (after (after hb1 hb2) hb3) hb3b) hb4) hb5
  have hb06 : Below w.heap.size w w6 := after hb05 hb6
  have hg05 : w.heap.size ≤ w5.heap.size := hb05.size
  clear hb05
  generalize w5.heap.size = g at *
  have HB6 : Hid ((Below w.heap.size w w6 ∧ w.heap.size ≤ g) ∧ g < w6.heap.size) := ⟨⟨hb06, hg05⟩, hg6⟩
  clear hb06 hg05 hg6 hb6 hb1 hb2 hb3 hb3b hb4 hb5
  go_loopw [22] (fun i wr => ∃ k : Nat, i = .int .i64 k ∧ k ≤ 32 ∧ p + k ≤ 8 * F.length ∧ Hid (RowB wr g (Cr.flips F p v k)) ∧ Hid ((Below w.heap.size w wr ∧ w.heap.size ≤ g) ∧ g < wr.heap.size)) (fun i _ => 32 - (intOf i).toNat)
  case atStart => exact ⟨0, rfl, by omega, by omega, HR, HB6⟩
  case round =>
    obtain ⟨k, rfl, hk, hpk, HRk, HBk⟩ := hrel
    by_cases hk1 : k < 32
    · by_cases hk2 : p + k < 8 * F.length
      · have hq : (p + k) / 8 < F.length := by omega
        have HT : Hid ((Cr.flips F p v k).length = F.length) := Cr.flips_length F p v k
        have hrw := HRk.out.at ((p + k) / 8) (by rw [HT.out]; exact hq)
        obtain ⟨x, hx⟩ : ∃ x, x = (Cr.flips F p v k).getD ((p + k) / 8) 0 := ⟨_, rfl⟩
        rw [← hx] at hrw
        obtain ⟨hcell, hfro⟩ := hrw
        have HX : Hid (x = (Cr.flips F p v k).getD ((p + k) / 8) 0) := hx
        clear hx
        have hxb := x.toNat_lt
        by_cases hbit : v / 2 ^ k % 2 = 1
        · have hb : (bits .and .u32 ((v : Int) / 2 ^ k) 1 == 1) = true := by rw [turn_bit v k hv, hbit]; rfl
          have HN : Hid (RowB (wr.setCell ⟨g, (p + k) / 8, none⟩ (.int .u8 (bits .xor .u8 (x.toNat : Int) ((2 : Int) ^ ((p + k) % 8) % 256)))).drew g (Cr.flips F p v (k + 1))) := by
            show RowB _ _ _
            rw [turn_byte x _ (by omega), flips_on F p v k hbit, ← HX.out]
            exact rowB_store HRk.out (by rw [HT.out]; exact hq) _
          have HBN : Hid ((Below w.heap.size w (wr.setCell ⟨g, (p + k) / 8, none⟩ (.int .u8 (bits .xor .u8 (x.toNat : Int) ((2 : Int) ^ ((p + k) % 8) % 256)))).drew ∧ w.heap.size ≤ g) ∧ g < (wr.setCell ⟨g, (p + k) / 8, none⟩ (.int .u8 (bits .xor .u8 (x.toNat : Int) ((2 : Int) ^ ((p + k) % 8) % 256)))).drew.heap.size) :=
            ⟨⟨(HBk.out.1.1.setCell HBk.out.1.2 _).drew, HBk.out.1.2⟩, by have := HBk.out.2; simpa using this⟩
          clear hbit HRk HBk HX HT
          go_wp2_with fail
          go_region
          go_wp2
          go_roundw
          case rel => exact ⟨k + 1, by go_num, by omega, by omega, HN, HBN⟩
          case measure => simp [intOf]; omega
        · have hb : (bits .and .u32 ((v : Int) / 2 ^ k) 1 == 1) = false := by rw [turn_bit v k hv, beq_eq_false_iff_ne]; omega
          have HN : Hid (RowB wr g (Cr.flips F p v (k + 1))) := by
            show RowB _ _ _
            rw [flips_off F p v k hbit]; exact HRk.out
          clear hbit HRk HX HT hcell hfro
          go_wp2
          go_roundw
          case rel => exact ⟨k + 1, by go_num, by omega, by omega, HN, HBk⟩
          case measure => simp [intOf]; omega
      · have hdone : ¬ ((p : Int) + (k : Int) < 8 * (F.length : Int)) := by omega
        have hlt32 : (k : Int) < 32 := by omega
        obtain ⟨T, hT⟩ : ∃ T, T = Cr.flips F p v k := ⟨_, rfl⟩
        have hTl : Hid (T.length = F.length) := by show _ = _; rw [hT]; exact Cr.flips_length F p v k
        have hTn : T.length ≤ 308 := by rw [hTl.out]; exact hF1
        have HO : Hid (openE b T = 0 ↔ T = F) := by
          show _ ↔ _
          rw [hT, ← HF.out]
          exact open_turned b l p k v hk (by rw [HF.out]; exact hpk)
        rw [← hT] at HRk
        clear hT hpk
        have hcv := conv_row (cap := cap) HRk.out hTl.out
        by_cases hTF : T = F
        · have HO0 : Hid (openE b T = 0) := HO.out.2 hTF
          have hq : (T == F) = true := by simpa using hTF
          clear HO hTF
          go_wp2_with fail
          refine (open_calls b T (by omega) _).mono ?_
          rintro e w7 ⟨rfl, hb7⟩
          rw [HO0.out, errV_zero]
          clear hcv
          have hcv2 : ∀ nn, (convert 53 9 (.slice (some ⟨g, 0, none⟩) F.length cap)).run Try.prog (w7.drewN nn) = .ok (.string ⟨T.toArray⟩) (w7.drewN nn) := fun nn => conv_row (rowB_drewN (rowB_below HRk.out hb7 HBk.out.2) nn) hTl.out
          go_wp2_with fail
          go_quiet (fail)
          go_wp2
          go_ret
          exact ⟨rfl, below_drewN (after HBk.out.1.1 hb7) _⟩
        · have HO0 : Hid (openE b T ≠ 0) := fun h => hTF (HO.out.1 h)
          have hq : (T == F) = false := by simpa using hTF
          clear HO hTF
          go_wp2_with fail
          refine (open_calls b T (by omega) _).mono ?_
          rintro e w7 ⟨rfl, hb7⟩
          have eV : errV (openE b T) = .iface 56 (.int .i64 (openE b T)) := by unfold errV; rw [if_neg HO0.out]
          rw [eV]
          clear eV hcv
          have hcv2 : ∀ nn, (convert 53 9 (.slice (some ⟨g, 0, none⟩) F.length cap)).run Try.prog (w7.drewN nn) = .ok (.string ⟨T.toArray⟩) (w7.drewN nn) := fun nn => conv_row (rowB_drewN (rowB_below HRk.out hb7 HBk.out.2) nn) hTl.out
          go_wp2_with fail
          go_quiet (fail)
          go_wp2
          go_ret
          exact ⟨rfl, below_drewN (after HBk.out.1.1 hb7) _⟩
    · have hlt32 : ¬ (k : Int) < 32 := by omega
      obtain ⟨T, hT⟩ : ∃ T, T = Cr.flips F p v k := ⟨_, rfl⟩
      have hTl : Hid (T.length = F.length) := by show _ = _; rw [hT]; exact Cr.flips_length F p v k
      have hTn : T.length ≤ 308 := by rw [hTl.out]; exact hF1
      have HO : Hid (openE b T = 0 ↔ T = F) := by
        show _ ↔ _
        rw [hT, ← HF.out]
        exact open_turned b l p k v hk (by rw [HF.out]; exact hpk)
      rw [← hT] at HRk
      clear hT hpk
      have hcv := conv_row (cap := cap) HRk.out hTl.out
      by_cases hTF : T = F
      · have HO0 : Hid (openE b T = 0) := HO.out.2 hTF
        have hq : (T == F) = true := by simpa using hTF
        clear HO hTF
        go_wp2_with fail
        refine (open_calls b T (by omega) _).mono ?_
        rintro e w7 ⟨rfl, hb7⟩
        rw [HO0.out, errV_zero]
        clear hcv
        have hcv2 : ∀ nn, (convert 53 9 (.slice (some ⟨g, 0, none⟩) F.length cap)).run Try.prog (w7.drewN nn) = .ok (.string ⟨T.toArray⟩) (w7.drewN nn) := fun nn => conv_row (rowB_drewN (rowB_below HRk.out hb7 HBk.out.2) nn) hTl.out
        go_wp2_with fail
        go_quiet (fail)
        go_wp2
        go_ret
        exact ⟨rfl, below_drewN (after HBk.out.1.1 hb7) _⟩
      · have HO0 : Hid (openE b T ≠ 0) := fun h => hTF (HO.out.1 h)
        have hq : (T == F) = false := by simpa using hTF
        clear HO hTF
        go_wp2_with fail
        refine (open_calls b T (by omega) _).mono ?_
        rintro e w7 ⟨rfl, hb7⟩
        have eV : errV (openE b T) = .iface 56 (.int .i64 (openE b T)) := by unfold errV; rw [if_neg HO0.out]
        rw [eV]
        clear eV hcv
        have hcv2 : ∀ nn, (convert 53 9 (.slice (some ⟨g, 0, none⟩) F.length cap)).run Try.prog (w7.drewN nn) = .ok (.string ⟨T.toArray⟩) (w7.drewN nn) := fun nn => conv_row (rowB_drewN (rowB_below HRk.out hb7 HBk.out.2) nn) hTl.out
        go_wp2_with fail
        go_quiet (fail)
        go_wp2
        go_ret
        exact ⟨rfl, below_drewN (after HBk.out.1.1 hb7) _⟩

set_option maxHeartbeats 800000 in
theorem topWire_neg (n : Int) (s : ByteArray) (k a v : Int) (hn : n < 0) (w : World) :
    Calls Try.prog 5 #[.int .i64 n, .string s, .int .u8 k, .int .i64 a, .int .u32 v] w fun e w' => e = .returned (.bool true) ∧ Below w.heap.size w w' := by
  have e1 : errV 1 = .iface 56 (.int .i64 1) := rfl
  go_enter Try.func5, Try.ntmps5
  go_wp2_with fail
  refine (num_neg_calls n hn _).mono ?_
  rintro e w1 ⟨rfl, rfl⟩
  rw [e1]
  clear e1
  go_wp2
  go_ret
  exact ⟨rfl, Below.refl _ _⟩

set_option maxHeartbeats 800000 in
set_option maxRecDepth 100000 in
theorem topWire_long (n : Nat) (s : ByteArray) (k a v : Int) (hn : n ≤ 9223372036854775807) (h : 300 < s.size) (w : World) :
    Calls Try.prog 5 #[.int .i64 n, .string s, .int .u8 k, .int .i64 a, .int .u32 v] w fun e w' => e = .returned (.bool true) ∧ Below w.heap.size w w' := by
  have h' : (300 : Int) < (s.size : Int) := by omega
  go_enter Try.func5, Try.ntmps5
  go_wp2_with fail
  refine (num_calls n hn _).mono ?_
  rintro e w1 ⟨rfl, hb1⟩
  go_wp2
  go_ret
  exact ⟨rfl, hb1⟩

set_option maxHeartbeats 800000 in
set_option maxRecDepth 100000 in
theorem topWire_at (n : Nat) (s : ByteArray) (k a v : Int) (hn : n ≤ 9223372036854775807) (h : ¬ 300 < s.size) (ha : a < 0) (w : World) :
    Calls Try.prog 5 #[.int .i64 n, .string s, .int .u8 k, .int .i64 a, .int .u32 v] w fun e w' => e = .returned (.bool true) ∧ Below w.heap.size w w' := by
  have h' : ¬ (300 : Int) < (s.size : Int) := by omega
  go_enter Try.func5, Try.ntmps5
  go_wp2_with fail
  refine (num_calls n hn _).mono ?_
  rintro e w1 ⟨rfl, hb1⟩
  go_wp2
  go_ret
  exact ⟨rfl, hb1⟩
end Go.Proofs.Ytnenegkgmkgfaaa

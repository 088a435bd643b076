/- The walk of TopWire. -/
import Derived.Test.YtnenegkgmkgfaaaWire7
import Derived.BigRegion
namespace Go.Proofs.Ytnenegkgmkgfaaa
open Go.RowKit
theorem errV_zero : errV 0 = .nilIface := rfl

def RowB (w : World) (g : Nat) (F : List UInt8) : Prop := ∀ j (hj : j < F.length), w.cell? ⟨g, j, none⟩ = some (.int .u8 (F[j].toNat : Int)) ∧ w.frozen? ⟨g, j, none⟩ = false

theorem RowB.at {w : World} {g : Nat} {L : List UInt8} (h : RowB w g L) (q : Nat) (hq : q < L.length) : w.cell? ⟨g, q, none⟩ = some (.int .u8 ((L.getD q 0).toNat : Int)) ∧ w.frozen? ⟨g, q, none⟩ = false := by
  have e : L.getD q 0 = L[q] := by simp [List.getD_eq_getElem?_getD, hq]
  rw [e]; exact h q hq

theorem conv_to (W : World) (F : List UInt8) : ∃ cap w6, (convert 9 53 (.string ⟨F.toArray⟩)).run Try.prog W = .ok (.slice (some ⟨W.heap.size, 0, none⟩) F.length cap) w6 ∧ Below W.heap.size W w6 ∧ W.heap.size < w6.heap.size ∧ RowB w6 W.heap.size F := by
  have h := run_bytes_of_string (P := Try.prog) W 9 53 5 ⟨F.toArray⟩ Try.underlying9 Try.underlying53 Try.underlying5
  have hs : (⟨F.toArray⟩ : ByteArray).size = F.length := by show F.toArray.size = _; simp
  rw [hs] at h
  refine ⟨_, _, h, ?_, ?_, ?_⟩
  · exact ((Below.refl _ W).drew).alloc (by simp) _
  · simp
  · intro j hj
    have hsz : j < (bytesRow ⟨F.toArray⟩ (grownCap W F.length 0 5)).size := by
      simp [bytesRow, hs]; omega
    have e : W.drew.heap.size = W.heap.size := by simp
    constructor
    · rw [← e, World.cell?_alloc_mark]
      unfold bytesRow
      rw [Array.getElem?_append_left (by simpa using hj)]
      simp [hj]
    · rw [← e, World.frozen?_alloc_mark]
      simp
      omega


theorem rowB_store {w : World} {g q : Nat} {L : List UInt8} (h : RowB w g L) (hq : q < L.length) (y : UInt8) : RowB (w.setCell ⟨g, q, none⟩ (.int .u8 (y.toNat : Int))).drew g (L.set q y) := by
  intro j hj
  have hj' : j < L.length := by simpa using hj
  constructor
  · show (w.setCell ⟨g, q, none⟩ (.int .u8 (y.toNat : Int))).cell? ⟨g, j, none⟩ = _
    by_cases e : q = j
    · subst e
      rw [World.cell?_setCell_same' w _ _ (by rw [(h q hq).1]; rfl)]
      simp
    · rw [World.cell?_setCell_other w _ _ _ (by intro h2; exact e (by injection h2)), (h j hj').1]
      simp [List.getElem_set_ne e]
  · show (w.setCell ⟨g, q, none⟩ (.int .u8 (y.toNat : Int))).frozen? ⟨g, j, none⟩ = _
    rw [World.frozen?_setCell]
    exact (h j hj').2
theorem turn_byte (x : UInt8) (s : Nat) (hs : s < 8) : bits .xor .u8 (x.toNat : Int) ((2 : Int) ^ s % 256) = ((UInt8.ofNat (x.toNat ^^^ 2 ^ s)).toNat : Int) := by
  have hx := x.toNat_lt
  have hp : (2 : Nat) ^ s < 2 ^ 8 := Nat.pow_lt_pow_right (by omega) hs
  have hlt : x.toNat ^^^ 2 ^ s < 2 ^ 8 := Nat.xor_lt_two_pow hx hp
  have e : ((2 : Int) ^ s % 256) = ((2 ^ s : Nat) : Int) := by
    have e1 : ((2 : Int) ^ s) = ((2 ^ s : Nat) : Int) := by simp
    rw [e1]; exact Int.emod_eq_of_lt (Int.natCast_nonneg _) (Int.ofNat_lt.2 hp)
  rw [e, u8_xor_nat x.toNat (2 ^ s) (by omega) (by omega), UInt8.toNat_ofNat', Nat.mod_eq_of_lt hlt]
theorem turn_bit (v k : Nat) (hv : v < 2 ^ 32) : bits .and .u32 ((v : Int) / 2 ^ k) 1 = ((v / 2 ^ k % 2 : Nat) : Int) := by
  have h1 : (1 : Int) = ((1 : Nat) : Int) := rfl
  have hd : v / 2 ^ k ≤ v := Nat.div_le_self _ _
  have e0 : ((v : Int) / 2 ^ k) = ((v / 2 ^ k : Nat) : Int) := by simp
  rw [e0, h1, u32_and_nat (v / 2 ^ k) 1 (by omega) (by omega), Nat.and_one_is_mod]
theorem flips_on (F : List UInt8) (p v k : Nat) (h : v / 2 ^ k % 2 = 1) : Cr.flips F p v (k + 1) = (Cr.flips F p v k).set ((p + k) / 8) (UInt8.ofNat (((Cr.flips F p v k).getD ((p + k) / 8) 0).toNat ^^^ 2 ^ ((p + k) % 8))) := by
  simp only [Cr.flips]; rw [if_pos h]; rfl
theorem flips_off (F : List UInt8) (p v k : Nat) (h : ¬ v / 2 ^ k % 2 = 1) : Cr.flips F p v (k + 1) = Cr.flips F p v k := by
  simp only [Cr.flips]; rw [if_neg h]
theorem conv_row {w : World} {g cap n : Nat} {L : List UInt8} (h : RowB w g L) (hn : L.length = n) : (convert 53 9 (.slice (some ⟨g, 0, none⟩) n cap)).run Try.prog w = .ok (.string ⟨L.toArray⟩) w :=
  conv_bytes w g n cap L hn (fun j hj => (h j hj).1)
theorem rowB_below {w w' : World} {g : Nat} {L : List UInt8} (h : RowB w g L) (hb : Below w.heap.size w w') (hg : g < w.heap.size) : RowB w' g L := by
  intro j hj
  exact ⟨(hb.cell (p := ⟨g, j, none⟩) hg).trans (h j hj).1, (hb.frozen (p := ⟨g, j, none⟩) hg).trans (h j hj).2⟩
theorem rowB_drewN {w : World} {g : Nat} {L : List UInt8} (h : RowB w g L) (n : Nat) : RowB (w.drewN n) g L := fun j hj => h j hj

set_option maxHeartbeats 4000000 in
set_option maxRecDepth 100000 in
theorem topWire_err (n : Nat) (l : List UInt8) (b : UInt8) (a v : Nat) (hn : n ≤ 9223372036854775807) (hl : l.length ≤ 300) (ha : a ≤ 9223372036854775807) (hv : v < 2 ^ 32) (hc : (Nu.take l).2.2 ≠ 0) (w : World) :
    Calls Try.prog 5 #[.int .i64 n, .string ⟨l.toArray⟩, .int .u8 (b.toNat : Int), .int .i64 a, .int .u32 v] w fun e w' => e = .returned (.bool true) ∧ Below w.heap.size w w' := by
  have hof : Hid (openE b (frameL b l) = 0 ∧ openB b (frameL b l) = l) := open_frame b l
  have hfl := frameL_length b l
  have htn : Hid (Nu.take (Nu.num n ++ l) = (n, l, 0)) := Nu.take_of_num n (by omega) l
  have hnl := Nu.num_length n
  have htc := take_code l
  go_enter Try.func5, Try.ntmps5
  go_wp2_with fail
  refine (num_calls n hn _).mono ?_
  rintro e w1 ⟨rfl, hb1⟩
  go_wp2_with fail
  simp only [cat]
  refine (take_calls (Nu.num n ++ l) (by simp; omega) _).mono ?_
  rintro e w2 ⟨rfl, hb2⟩
  rw [htn.out]
  simp only [errV_zero]
  go_wp2_with fail
  refine (take_calls l (by omega) _).mono ?_
  rintro e w3 ⟨rfl, hb3⟩
  generalize hT : Nu.take l = T at *
  obtain ⟨y, r, c⟩ := T
  have hc0 : c ≠ 0 := hc
  have eV : errV c = .iface 56 (.int .i64 c) := by unfold errV; rw [if_neg hc0]
  simp only [eV]
  clear eV
  go_wp2_with fail
  refine (frame_calls b l (by omega) _).mono ?_
  rintro e w4 ⟨rfl, hb4⟩
  go_wp2_with fail
  refine (open_calls b (frameL b l) (by omega) _).mono ?_
  rintro e w5 ⟨rfl, hb5⟩
  rw [hof.out.1, hof.out.2]
  simp only [errV_zero]
  clear hof htn
  generalize hF : frameL b l = F at *
  obtain ⟨cap, w6, hcv, hb6, hg6, hrow⟩ := conv_to w5 F
  have HR : Hid (RowB w6 w5.heap.size F) := hrow
  have HFL : Hid (F.length = l.length + 8) := hfl
  have hF1 : F.length ≤ 308 := by omega
  have hF2 : 8 ≤ F.length := by omega
  have hF3 : (8 * (F.length : Int)) ≠ 0 := by omega
  obtain ⟨p, hp⟩ : ∃ p, p = a % (8 * F.length) := ⟨_, rfl⟩
  have hp1 : p < 8 * F.length := by rw [hp]; exact Nat.mod_lt _ (by omega)
  have hp2 : (a : Int) % (8 * (F.length : Int)) = (p : Int) := by rw [hp]; simp
  have HF : Hid (frameL b l = F) := hF
  clear hp hrow hfl hF hT hc htc hnl
  go_wp2_with fail
  rw [hp2]
  clear hp2 hcv hF3
  have hb05 : Below w.heap.size w w5 := after (after (after (after hb1 hb2) hb3) hb4) hb5
  have hb06 : Below w.heap.size w w6 := after hb05 hb6
  have hg05 : w.heap.size ≤ w5.heap.size := hb05.size
  clear hb05
  generalize w5.heap.size = g at *
  have HB6 : Hid ((Below w.heap.size w w6 ∧ w.heap.size ≤ g) ∧ g < w6.heap.size) := ⟨⟨hb06, hg05⟩, hg6⟩
  clear hb06 hg05 hg6 hb6 hb1 hb2 hb3 hb4 hb5
  go_loopw [22] (fun i wr => ∃ k : Nat, i = .int .i64 k ∧ k ≤ 32 ∧ p + k ≤ 8 * F.length ∧ Hid (RowB wr g (Cr.flips F p v k)) ∧ Hid ((Below w.heap.size w wr ∧ w.heap.size ≤ g) ∧ g < wr.heap.size)) (fun i _ => 32 - (intOf i).toNat)
  case atStart => exact ⟨0, rfl, by omega, by omega, HR, HB6⟩
  case round =>
    obtain ⟨k, rfl, hk, hpk, HRk, HBk⟩ := hrel
    by_cases hk1 : k < 32
    · by_cases hk2 : p + k < 8 * F.length
      · have hq : (p + k) / 8 < F.length := by omega
        have HT : Hid ((Cr.flips F p v k).length = F.length) := Cr.flips_length F p v k
        have hrw := HRk.out.at ((p + k) / 8) (by rw [HT.out]; exact hq)
        obtain ⟨x, hx⟩ : ∃ x, x = (Cr.flips F p v k).getD ((p + k) / 8) 0 := ⟨_, rfl⟩
        rw [← hx] at hrw
        obtain ⟨hcell, hfro⟩ := hrw
        have HX : Hid (x = (Cr.flips F p v k).getD ((p + k) / 8) 0) := hx
        clear hx
        have hxb := x.toNat_lt
        by_cases hbit : v / 2 ^ k % 2 = 1
        · have hb : (bits .and .u32 ((v : Int) / 2 ^ k) 1 == 1) = true := by rw [turn_bit v k hv, hbit]; rfl
          have HN : Hid (RowB (wr.setCell ⟨g, (p + k) / 8, none⟩ (.int .u8 (bits .xor .u8 (x.toNat : Int) ((2 : Int) ^ ((p + k) % 8) % 256)))).drew g (Cr.flips F p v (k + 1))) := by
            show RowB _ _ _
            rw [turn_byte x _ (by omega), flips_on F p v k hbit, ← HX.out]
            exact rowB_store HRk.out (by rw [HT.out]; exact hq) _
          have HBN : Hid ((Below w.heap.size w (wr.setCell ⟨g, (p + k) / 8, none⟩ (.int .u8 (bits .xor .u8 (x.toNat : Int) ((2 : Int) ^ ((p + k) % 8) % 256)))).drew ∧ w.heap.size ≤ g) ∧ g < (wr.setCell ⟨g, (p + k) / 8, none⟩ (.int .u8 (bits .xor .u8 (x.toNat : Int) ((2 : Int) ^ ((p + k) % 8) % 256)))).drew.heap.size) :=
            ⟨⟨(HBk.out.1.1.setCell HBk.out.1.2 _).drew, HBk.out.1.2⟩, by have := HBk.out.2; simpa using this⟩
          clear hbit HRk HBk HX HT
          go_wp2_with fail
          go_region
          go_wp2
          go_roundw
          case rel => exact ⟨k + 1, by go_num, by omega, by omega, HN, HBN⟩
          case measure => simp [intOf]; omega
        · have hb : (bits .and .u32 ((v : Int) / 2 ^ k) 1 == 1) = false := by rw [turn_bit v k hv, beq_eq_false_iff_ne]; omega
          have HN : Hid (RowB wr g (Cr.flips F p v (k + 1))) := by
            show RowB _ _ _
            rw [flips_off F p v k hbit]; exact HRk.out
          clear hbit HRk HX HT hcell hfro
          go_wp2
          go_roundw
          case rel => exact ⟨k + 1, by go_num, by omega, by omega, HN, HBk⟩
          case measure => simp [intOf]; omega
      · have hdone : ¬ ((p : Int) + (k : Int) < 8 * (F.length : Int)) := by omega
        have hlt32 : (k : Int) < 32 := by omega
        obtain ⟨T, hT⟩ : ∃ T, T = Cr.flips F p v k := ⟨_, rfl⟩
        have hTl : Hid (T.length = F.length) := by show _ = _; rw [hT]; exact Cr.flips_length F p v k
        have hTn : T.length ≤ 308 := by rw [hTl.out]; exact hF1
        have HO : Hid (openE b T = 0 ↔ T = F) := by
          show _ ↔ _
          rw [hT, ← HF.out]
          exact open_turned b l p k v hk (by rw [HF.out]; exact hpk)
        rw [← hT] at HRk
        clear hT hpk
        have hcv := conv_row (cap := cap) HRk.out hTl.out
        by_cases hTF : T = F
        · have HO0 : Hid (openE b T = 0) := HO.out.2 hTF
          have hq : (T == F) = true := by simpa using hTF
          clear HO hTF
          go_wp2_with fail
          refine (open_calls b T (by omega) _).mono ?_
          rintro e w7 ⟨rfl, hb7⟩
          rw [HO0.out, errV_zero]
          clear hcv
          have hcv2 : ∀ nn, (convert 53 9 (.slice (some ⟨g, 0, none⟩) F.length cap)).run Try.prog (w7.drewN nn) = .ok (.string ⟨T.toArray⟩) (w7.drewN nn) := fun nn => conv_row (rowB_drewN (rowB_below HRk.out hb7 HBk.out.2) nn) hTl.out
          go_wp2_with fail
          go_quiet (fail)
          go_wp2
          go_ret
          exact ⟨rfl, below_drewN (after HBk.out.1.1 hb7) _⟩
        · have HO0 : Hid (openE b T ≠ 0) := fun h => hTF (HO.out.1 h)
          have hq : (T == F) = false := by simpa using hTF
          clear HO hTF
          go_wp2_with fail
          refine (open_calls b T (by omega) _).mono ?_
          rintro e w7 ⟨rfl, hb7⟩
          have eV : errV (openE b T) = .iface 56 (.int .i64 (openE b T)) := by unfold errV; rw [if_neg HO0.out]
          rw [eV]
          clear eV hcv
          have hcv2 : ∀ nn, (convert 53 9 (.slice (some ⟨g, 0, none⟩) F.length cap)).run Try.prog (w7.drewN nn) = .ok (.string ⟨T.toArray⟩) (w7.drewN nn) := fun nn => conv_row (rowB_drewN (rowB_below HRk.out hb7 HBk.out.2) nn) hTl.out
          go_wp2_with fail
          go_quiet (fail)
          go_wp2
          go_ret
          exact ⟨rfl, below_drewN (after HBk.out.1.1 hb7) _⟩
    · have hlt32 : ¬ (k : Int) < 32 := by omega
      obtain ⟨T, hT⟩ : ∃ T, T = Cr.flips F p v k := ⟨_, rfl⟩
      have hTl : Hid (T.length = F.length) := by show _ = _; rw [hT]; exact Cr.flips_length F p v k
      have hTn : T.length ≤ 308 := by rw [hTl.out]; exact hF1
      have HO : Hid (openE b T = 0 ↔ T = F) := by
        show _ ↔ _
        rw [hT, ← HF.out]
        exact open_turned b l p k v hk (by rw [HF.out]; exact hpk)
      rw [← hT] at HRk
      clear hT hpk
      have hcv := conv_row (cap := cap) HRk.out hTl.out
      by_cases hTF : T = F
      · have HO0 : Hid (openE b T = 0) := HO.out.2 hTF
        have hq : (T == F) = true := by simpa using hTF
        clear HO hTF
        go_wp2_with fail
        refine (open_calls b T (by omega) _).mono ?_
        rintro e w7 ⟨rfl, hb7⟩
        rw [HO0.out, errV_zero]
        clear hcv
        have hcv2 : ∀ nn, (convert 53 9 (.slice (some ⟨g, 0, none⟩) F.length cap)).run Try.prog (w7.drewN nn) = .ok (.string ⟨T.toArray⟩) (w7.drewN nn) := fun nn => conv_row (rowB_drewN (rowB_below HRk.out hb7 HBk.out.2) nn) hTl.out
        go_wp2_with fail
        go_quiet (fail)
        go_wp2
        go_ret
        exact ⟨rfl, below_drewN (after HBk.out.1.1 hb7) _⟩
      · have HO0 : Hid (openE b T ≠ 0) := fun h => hTF (HO.out.1 h)
        have hq : (T == F) = false := by simpa using hTF
        clear HO hTF
        go_wp2_with fail
        refine (open_calls b T (by omega) _).mono ?_
        rintro e w7 ⟨rfl, hb7⟩
        have eV : errV (openE b T) = .iface 56 (.int .i64 (openE b T)) := by unfold errV; rw [if_neg HO0.out]
        rw [eV]
        clear eV hcv
        have hcv2 : ∀ nn, (convert 53 9 (.slice (some ⟨g, 0, none⟩) F.length cap)).run Try.prog (w7.drewN nn) = .ok (.string ⟨T.toArray⟩) (w7.drewN nn) := fun nn => conv_row (rowB_drewN (rowB_below HRk.out hb7 HBk.out.2) nn) hTl.out
        go_wp2_with fail
        go_quiet (fail)
        go_wp2
        go_ret
        exact ⟨rfl, below_drewN (after HBk.out.1.1 hb7) _⟩
end Go.Proofs.Ytnenegkgmkgfaaa

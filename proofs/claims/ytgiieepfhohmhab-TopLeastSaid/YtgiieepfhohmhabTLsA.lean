/- Package least: where two plays part, by halves. -/
import Derived.Test.YtgiieepfhohmhabProg
import Derived.WalkKit
import Derived.WalkLawsBesides
import Derived.WalkSpells
import Derived.Handy
import Derived.Below
import Derived.OwnWalk
import Derived.Shelf.Abstract
namespace Go.Proofs.Ytgiieepfhohmhab
open Go.RowKit
def hv (k : Nat) : Nat := if k ≤ 1 then 0 else hv ((k + 1) / 2) + 1
termination_by k
decreasing_by omega
theorem hv_small {k : Nat} (h : k ≤ 1) : hv k = 0 := by rw [hv, if_pos h]
theorem hv_big {k : Nat} (h : ¬ k ≤ 1) : hv k = hv ((k + 1) / 2) + 1 := by rw [hv, if_neg h]
theorem hv_mono : ∀ (n b a : Nat), b ≤ n → a ≤ b → hv a ≤ hv b
  | 0, b, a, hb, ha => by
    rw [hv_small (show a ≤ 1 by omega)]
    exact Nat.zero_le _
  | n + 1, b, a, hb, ha => by
    by_cases h : a ≤ 1
    · rw [hv_small h]
      exact Nat.zero_le _
    · rw [hv_big h, hv_big (show ¬ b ≤ 1 by omega)]
      have := hv_mono n ((b + 1) / 2) ((a + 1) / 2) (by omega) (by omega)
      omega
theorem hv_le {a b : Nat} (h : a ≤ b) : hv a ≤ hv b := hv_mono b b a (Nat.le_refl _) h
theorem hv_half {d e : Nat} (hd : 1 < d) (he : e ≤ (d + 1) / 2) : hv e + 1 ≤ hv d := by
  rw [hv_big (show ¬ d ≤ 1 by omega)]
  have := hv_le he
  omega
structure FindOk (n : Int) (L : Int → Bool) (a : Int) (k : Nat) (f : Bool) : Prop where
  none : n < 1 → a = 0 ∧ k = 0 ∧ f = false
  last : 1 ≤ n → L (n - 1) = false → a = 0 ∧ k = 1 ∧ f = false
  hit : 1 ≤ n → L (n - 1) = true → f = true ∧ (0 ≤ a ∧ a < n) ∧ L a = true ∧ (0 < a → L (a - 1) = false) ∧ 1 ≤ k ∧ k ≤ hv n.toNat + 1
theorem hidL {p : Prop} (h : p) : Hid p := h
theorem wrapI (z : Int) (h : -2000 ≤ z ∧ z ≤ 2000) : IntKind.i64.wrap z = z := IntWalk.i64_in _ ⟨by omega, by omega⟩
def FindP (n : Int) (L : Int → Bool) (I : Nat → World → Prop) (e : Ending) (w : World) : Prop := ∃ (a : Int) (k : Nat) (f : Bool), e = .returned (.tuple #[.int .i64 a, .int .i64 k, .bool f]) ∧ FindOk n L a k f ∧ I k w
theorem func_some (g : Nat) (lb : Array Value) (w : World) : (binOp .eql 27 (.func (.func g) #[] lb) .nilFunc).run Try.prog w = .ok (.bool false) w := by kernel_rfl
set_option maxRecDepth 100000 in
set_option maxHeartbeats 4000000 in
theorem find_calls (g : Nat) (lb : Array Value) (eg : ∀ args w, (callFunc g args).run Try.prog w = .ok (.enter g args) w) (n : Int) (L : Int → Bool) (I : Nat → World → Prop) (w : World) (hn : -900 ≤ n ∧ n ≤ 900) (h0 : I 0 w)
    (hp : ∀ (k : Nat) (W : World) (i : Int), k ≤ 1000 → 0 ≤ i → i < n → I k W → Calls Try.prog g (#[.int .i64 i] ++ lb) W fun e w' => e = .returned (.bool (L i)) ∧ I (k + 1) w') :
    Calls Try.prog 6 #[.int .i64 n, .func (.func g) #[] lb] w (FindP n L I) := by
  have HP := hidL hp
  have H0 := hidL h0
  clear hp h0
  by_cases h1 : n < 1
  · go_enter Try.func6, Try.ntmps6
    go_wp2
    go_ret3
    exact ⟨0, 0, false, rfl, ⟨fun _ => ⟨rfl, rfl, rfl⟩, fun h => absurd h (by omega), fun h => absurd h (by omega)⟩, H0.out⟩
  have hnil := func_some g lb
  have w1 : IntKind.i64.wrap (n - 1) = n - 1 := wrapI _ (by omega)
  cases hL : L (n - 1) with
  | false =>
    have HC := HP.out 0 w (n - 1) (by omega) (by omega) (by omega) H0.out
    rw [hL] at HC
    have HC := hidL HC
    go_enter Try.func6, Try.ntmps6
    go_wp2_with fail
    refine HC.out.mono ?_
    clear HC
    rintro e w2 ⟨rfl, hI⟩
    have HI := hidL hI
    clear hI
    go_wp2
    go_ret3
    exact ⟨0, 1, false, rfl, ⟨fun h => absurd h (by omega), fun _ _ => ⟨rfl, rfl, rfl⟩, fun _ h => by rw [hL] at h; cases h⟩, HI.out⟩
  | true =>
    have HC := HP.out 0 w (n - 1) (by omega) (by omega) (by omega) H0.out
    rw [hL] at HC
    have HC := hidL HC
    go_enter Try.func6, Try.ntmps6
    go_wp2_with fail
    refine HC.out.mono ?_
    clear HC
    rintro e w2 ⟨rfl, hI⟩
    have HI := hidL hI
    clear hI
    have HL := hidL hL
    clear hL
    go_wp2
    go_loopw [5, 7, 8] (fun sa ss so wr => ∃ (k : Nat) (lo hi : Int), sa = .int .i64 k ∧ ss = .int .i64 lo ∧ so = .int .i64 hi ∧ Hid ((-1 ≤ lo ∧ lo < hi ∧ hi < n) ∧ L hi = true ∧ (0 ≤ lo → L lo = false) ∧ 1 ≤ k ∧ hv (hi - lo).toNat + k ≤ hv n.toNat + 1) ∧ Hid (I k wr)) (fun _ ss so _ => (intOf so - intOf ss).toNat)
    case atStart => exact ⟨1, -1, n - 1, rfl, rfl, rfl, ⟨⟨by omega, by omega, by omega⟩, HL.out, fun h => absurd h (by omega), Nat.le_refl _, by rw [show (n - 1 - -1).toNat = n.toNat by omega]; exact Nat.le_refl _⟩, HI⟩
    case round =>
      clear HI
      obtain ⟨k, lo, hi, rfl, rfl, rfl, HR, HI⟩ := hrel
      obtain ⟨⟨b1, b2, b3⟩, hLh, hLl, hk1, hk⟩ := HR.out
      have hkb : k ≤ 1000 := by
        have e1 : ∀ m j : Nat, m ≤ j → hv m ≤ j := fun m => by
          induction m using Nat.strongRecOn with
          | ind m ih =>
            intro j hj
            by_cases hm : m ≤ 1
            · rw [hv_small hm]; exact Nat.zero_le _
            · rw [hv_big hm]
              have := ih ((m + 1) / 2) (by omega) (j - 1) (by omega)
              omega
        have := e1 n.toNat 900 (by omega)
        omega
      have w2' : IntKind.i64.wrap (hi - lo) = hi - lo := wrapI _ (by omega)
      by_cases hd : 1 < hi - lo
      · have hq : (hi - lo).tdiv 2 = (hi - lo) / 2 := Int.tdiv_eq_ediv_of_nonneg (by omega)
        have hqw : IntKind.i64.wrap ((hi - lo) / 2) = (hi - lo) / 2 := wrapI _ (by omega)
        obtain ⟨m, hm⟩ : ∃ m, lo + (hi - lo) / 2 = m := ⟨_, rfl⟩
        have hmw : IntKind.i64.wrap (lo + (hi - lo) / 2) = m := by rw [hm]; exact wrapI _ (by omega)
        have hkw : IntKind.i64.wrap ((k : Int) + 1) = ((k + 1 : Nat) : Int) := by rw [wrapI _ (by omega)]; omega
        have HC := HP.out k wr m hkb (by omega) (by omega) HI.out
        have HC := hidL HC
        cases hLm : L m with
        | true =>
          rw [hLm] at HC
          have HR2 : Hid ((-1 ≤ lo ∧ lo < m ∧ m < n) ∧ L m = true ∧ (0 ≤ lo → L lo = false) ∧ 1 ≤ k + 1 ∧ hv (m - lo).toNat + (k + 1) ≤ hv n.toNat + 1) :=
            ⟨⟨b1, by omega, by omega⟩, hLm, hLl, by omega, by
              have := @hv_half (hi - lo).toNat (m - lo).toNat (by omega) (by omega)
              omega⟩
          clear HR hLh hLl hk hk1 hLm
          go_wp2_with fail
          refine HC.out.mono ?_
          rintro e w3 ⟨rfl, hI3⟩
          have HI3 := hidL hI3
          clear HC HI hI3
          go_wp2
          go_roundw
          case rel => exact ⟨k + 1, lo, m, by go_num, rfl, rfl, HR2, HI3⟩
          case measure => simp [intOf]; omega
        | false =>
          rw [hLm] at HC
          have HR2 : Hid ((-1 ≤ m ∧ m < hi ∧ hi < n) ∧ L hi = true ∧ (0 ≤ m → L m = false) ∧ 1 ≤ k + 1 ∧ hv (hi - m).toNat + (k + 1) ≤ hv n.toNat + 1) :=
            ⟨⟨by omega, by omega, by omega⟩, hLh, fun _ => hLm, by omega, by
              have := @hv_half (hi - lo).toNat (hi - m).toNat (by omega) (by omega)
              omega⟩
          clear HR hLh hLl hk hk1 hLm
          go_wp2_with fail
          refine HC.out.mono ?_
          rintro e w3 ⟨rfl, hI3⟩
          have HI3 := hidL hI3
          clear HC HI hI3
          go_wp2
          go_roundw
          case rel => exact ⟨k + 1, m, hi, by go_num, rfl, rfl, HR2, HI3⟩
          case measure => simp [intOf]; omega
      · have hd' : ¬ 1 < hi - lo := hd
        have hlo : lo = hi - 1 := by omega
        have HF : Hid (FindOk n L hi k true) := ⟨fun h => absurd h (by omega), fun _ h => absurd (HL.out.symm.trans h) (by simp), fun _ _ => ⟨rfl, ⟨by omega, b3⟩, hLh, fun h => (by rw [hlo] at hLl; exact hLl (by omega)), hk1, by omega⟩⟩
        clear HR hLh hLl hk hk1 hlo
        go_wp2
        go_ret3
        exact ⟨hi, k, true, rfl, HF.out, HI.out⟩
end Go.Proofs.Ytgiieepfhohmhab

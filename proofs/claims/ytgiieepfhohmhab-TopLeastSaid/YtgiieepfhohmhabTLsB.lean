/- Package least: the first place at which two lists of marks differ. -/
import Derived.Deep.QuietTactic
import Derived.BigQuiet
import Derived.Test.YtgiieepfhohmhabTLsA
namespace Go.Proofs.Ytgiieepfhohmhab
open Go.RowKit
def zAt (l : List Int) (j : Nat) : Int := l.getD j 0
def Marks (w : World) (a : Option Addr) (zs : List Int) : Prop := zs = [] ∨ ∃ b o, a = some ⟨b, o, none⟩ ∧ ∀ i, i < zs.length → w.cell? ⟨b, o + i, none⟩ = some (.int .u64 (zAt zs i))
theorem Marks.below {w W : World} {a : Option Addr} {zs : List Int} (h : Marks w a zs) (hb : Below w.heap.size w W) : Marks W a zs := by
  rcases h with h | ⟨b, o, e, hc⟩
  · exact Or.inl h
  · exact Or.inr ⟨b, o, e, fun i hi => (hb.cell (World.block_lt_of_cell? w _ (hc i hi))).trans (hc i hi)⟩
theorem Marks.at {w : World} {a : Option Addr} {zs : List Int} (h : Marks w a zs) {i : Nat} (hi : i < zs.length) : ∃ b o, a = some ⟨b, o, none⟩ ∧ w.cell? ⟨b, o + i, none⟩ = some (.int .u64 (zAt zs i)) := by
  rcases h with rfl | ⟨b, o, e, hc⟩
  · simp at hi
  · exact ⟨b, o, e, hc i hi⟩
def fstK : List Int → List Int → Nat
  | x :: xs, y :: ys => if x = y then fstK xs ys + 1 else 0
  | [], _ => 0
  | _ :: _, [] => 0
theorem fstK_is : ∀ (xs ys : List Int) (k : Nat), k ≤ xs.length → k ≤ ys.length → (∀ j, j < k → zAt xs j = zAt ys j) → (k < xs.length → k < ys.length → zAt xs k ≠ zAt ys k) → fstK xs ys = k
  | [], ys, k, h1, h2, _, _ => by simp at h1; rw [h1]; rfl
  | x :: xs, [], k, h1, h2, _, _ => by simp at h2; rw [h2]; rfl
  | x :: xs, y :: ys, 0, h1, h2, he, hd => by
    have := hd (by simp) (by simp)
    unfold fstK
    rw [if_neg (by simpa [zAt] using this)]
  | x :: xs, y :: ys, k + 1, h1, h2, he, hd => by
    have h0 := he 0 (by omega)
    have hr := fstK_is xs ys k (by simpa using h1) (by simpa using h2) (fun j hj => by simpa [zAt] using he (j + 1) (by omega)) (fun a b => by simpa [zAt] using hd (by simpa using a) (by simpa using b))
    unfold fstK
    rw [if_pos (by simpa [zAt] using h0), hr]
theorem fstK_le : ∀ (xs ys : List Int), fstK xs ys ≤ xs.length ∧ fstK xs ys ≤ ys.length
  | [], ys => by simp [fstK]
  | x :: xs, [] => by simp [fstK]
  | x :: xs, y :: ys => by
    have := fstK_le xs ys
    unfold fstK
    split <;> simp <;> omega
def someK (xs ys : List Int) : Bool := decide (fstK xs ys < xs.length ∨ fstK xs ys < ys.length)
theorem belowL_drewN {B : Nat} {a w : World} (h : Below B a w) (n : Nat) : Below B a (w.drewN n) := ⟨h.os, h.tape, h.output, h.size, h.block⟩
set_option maxRecDepth 100000 in
set_option maxHeartbeats 4000000 in
theorem first_calls (xs ys : List Int) (xa ya : Option Addr) (xc yc : Nat) (w : World) (hx : xs.length ≤ 1000) (hy : ys.length ≤ 1000) (hX : Marks w xa xs) (hY : Marks w ya ys) :
    Calls Try.prog 8 #[.slice xa xs.length xc, .slice ya ys.length yc] w fun e w' => e = .returned (.tuple #[.int .i64 (fstK xs ys), .bool (someK xs ys)]) ∧ Below w.heap.size w w' := by
  have HX := hidL hX
  have HY := hidL hY
  clear hX hY
  rcases Nat.lt_or_ge ys.length xs.length with h | h
  all_goals
    go_enter Try.func8, Try.ntmps8
    go_wp2
    go_loopw [14] (fun i wr => ∃ k : Nat, (k ≤ xs.length ∧ k ≤ ys.length) ∧ i = .int .i64 k ∧ Hid (∀ j, j < k → zAt xs j = zAt ys j) ∧ Hid (Below w.heap.size w wr)) (fun i _ => xs.length - (intOf i).toNat)
    case atStart => exact ⟨0, ⟨Nat.zero_le _, Nat.zero_le _⟩, rfl, fun j hj => absurd hj (Nat.not_lt_zero _), Below.refl _ w⟩
    case round =>
      obtain ⟨k, ⟨hk1, hk2⟩, rfl, HE, HB⟩ := hrel
      by_cases hk : k < xs.length ∧ k < ys.length
      · obtain ⟨hkx, hky⟩ := hk
        have zx : (k : Int) < (xs.length : Int) := by omega
        have zy : (k : Int) < (ys.length : Int) := by omega
        obtain ⟨b, o, rfl, lx⟩ := (HX.out.below HB.out).at hkx
        obtain ⟨b', o', rfl, ly⟩ := (HY.out.below HB.out).at hky
        by_cases he : zAt xs k = zAt ys k
        · have hbe : (zAt xs k != zAt ys k) = false := by rw [he]; simp
          have HN : Hid (∀ j, j < k + 1 → zAt xs j = zAt ys j) := fun j hj => by
            by_cases e : j = k
            · rw [e]; exact he
            · exact HE.out j (by omega)
          clear he
          go_wp2_with fail
          go_quiet (fail)
          go_wp2
          go_roundw
          case rel => exact ⟨k + 1, ⟨by omega, by omega⟩, by go_num, HN, belowL_drewN HB.out _⟩
          case measure => simp [intOf]; omega
        · have hbe : (zAt xs k != zAt ys k) = true := by simpa using he
          have HF := hidL (fstK_is xs ys k hk1 hk2 HE.out (fun _ _ => he))
          have HS : Hid (someK xs ys = true) := by
            show _ = _
            unfold someK
            rw [HF.out]
            exact decide_eq_true (Or.inl hkx)
          clear he
          go_wp2_with fail
          go_quiet (fail)
          go_wp2
          go_ret2
          exact ⟨by rw [HF.out, HS.out]; rfl, belowL_drewN HB.out _⟩
      · have HF := hidL (fstK_is xs ys k hk1 hk2 HE.out (fun a b => absurd ⟨a, b⟩ hk))
        have HS : Hid (someK xs ys = ((xs.length : Int) != (ys.length : Int))) := by
          show _ = _
          unfold someK
          rw [HF.out, Bool.eq_iff_iff, decide_eq_true_iff, bne_iff_ne]
          omega
        have hz : ¬ ((k : Int) < (xs.length : Int) ∧ (k : Int) < (ys.length : Int)) := by omega
        first
          | (have hkz : ¬ (k : Int) < (ys.length : Int) := by omega
             have hke : (k : Int) = (ys.length : Int) := by omega
             clear hk hz
             go_wp2
             go_ret2
             exact ⟨by rw [HF.out, HS.out, hke]; rfl, HB.out⟩)
          | (have hkz : ¬ (k : Int) < (xs.length : Int) := by omega
             have hke : (k : Int) = (xs.length : Int) := by omega
             clear hk hz
             go_wp2
             go_ret2
             exact ⟨by rw [HF.out, HS.out, hke]; rfl, HB.out⟩)
end Go.Proofs.Ytgiieepfhohmhab

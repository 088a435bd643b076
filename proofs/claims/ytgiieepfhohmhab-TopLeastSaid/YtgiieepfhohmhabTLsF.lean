/- Package least: First, which only reads. -/
import Derived.Test.YtgiieepfhohmhabTLsB
namespace Go.Proofs.Ytgiieepfhohmhab
open Go.RowKit
set_option maxRecDepth 100000 in
set_option maxHeartbeats 4000000 in
theorem firstQ_calls (xs ys : List Int) (xa ya : Option Addr) (xc yc : Nat) (w : World) (hx : xs.length ≤ 1000) (hy : ys.length ≤ 1000) (hX : Marks w xa xs) (hY : Marks w ya ys) :
    Calls Try.prog 8 #[.slice xa xs.length xc, .slice ya ys.length yc] w fun e w' => e = .returned (.tuple #[.int .i64 (fstK xs ys), .bool (someK xs ys)]) ∧ ∃ m, w' = w.drewN m := by
  have HX := hidL hX
  have HY := hidL hY
  clear hX hY
  rcases Nat.lt_or_ge ys.length xs.length with h | h
  all_goals
    go_enter Try.func8, Try.ntmps8
    go_wp2
    go_loopw [14] (fun i wr => ∃ k : Nat, (k ≤ xs.length ∧ k ≤ ys.length) ∧ i = .int .i64 k ∧ Hid (∀ j, j < k → zAt xs j = zAt ys j) ∧ Hid (∃ m, wr = w.drewN m)) (fun i _ => xs.length - (intOf i).toNat)
    case atStart => exact ⟨0, ⟨Nat.zero_le _, Nat.zero_le _⟩, rfl, fun j hj => absurd hj (Nat.not_lt_zero _), ⟨0, rfl⟩⟩
    case round =>
      obtain ⟨k, ⟨hk1, hk2⟩, rfl, HE, HQ⟩ := hrel
      have HB : Hid (Below w.heap.size w wr) := by
        obtain ⟨m, hm⟩ := HQ.out
        rw [hm]
        exact belowL_drewN (Below.refl _ _) _
      have HD : Hid (∀ j, ∃ m, wr.drewN j = w.drewN m) := fun j => by
        obtain ⟨m, hm⟩ := HQ.out
        exact ⟨m + j, by rw [hm, World.drewN_drewN]⟩
      by_cases hk : k < xs.length ∧ k < ys.length
      · obtain ⟨hkx, hky⟩ := hk
        have zx : (k : Int) < (xs.length : Int) := by omega
        have zy : (k : Int) < (ys.length : Int) := by omega
        obtain ⟨b, o, rfl, lx⟩ := (HX.out.below HB.out).at hkx
        obtain ⟨b', o', rfl, ly⟩ := (HY.out.below HB.out).at hky
        by_cases he : zAt xs k = zAt ys k
        · have hbe : (zAt xs k != zAt ys k) = false := by rw [he]; simp
          have HN : Hid (∀ j, j < k + 1 → zAt xs j = zAt ys j) := fun j hj => by
            by_cases e : j = k
            · rw [e]; exact he
            · exact HE.out j (by omega)
          clear he
          go_wp2_with fail
          go_quiet (fail)
          go_wp2
          go_roundw
          case rel => exact ⟨k + 1, ⟨by omega, by omega⟩, by go_num, HN, HD.out _⟩
          case measure => simp [intOf]; omega
        · have hbe : (zAt xs k != zAt ys k) = true := by simpa using he
          have HF := hidL (fstK_is xs ys k hk1 hk2 HE.out (fun _ _ => he))
          have HS : Hid (someK xs ys = true) := by
            show _ = _
            unfold someK
            rw [HF.out]
            exact decide_eq_true (Or.inl hkx)
          clear he
          go_wp2_with fail
          go_quiet (fail)
          go_wp2
          go_ret2
          exact ⟨by rw [HF.out, HS.out]; rfl, HD.out _⟩
      · have HF := hidL (fstK_is xs ys k hk1 hk2 HE.out (fun a b => absurd ⟨a, b⟩ hk))
        have HS : Hid (someK xs ys = ((xs.length : Int) != (ys.length : Int))) := by
          show _ = _
          unfold someK
          rw [HF.out, Bool.eq_iff_iff, decide_eq_true_iff, bne_iff_ne]
          omega
        have hz : ¬ ((k : Int) < (xs.length : Int) ∧ (k : Int) < (ys.length : Int)) := by omega
        first
          | (have hkz : ¬ (k : Int) < (ys.length : Int) := by omega
             have hke : (k : Int) = (ys.length : Int) := by omega
             clear hk hz
             go_wp2
             go_ret2
             exact ⟨by rw [HF.out, HS.out, hke]; rfl, HQ.out⟩)
          | (have hkz : ¬ (k : Int) < (xs.length : Int) := by omega
             have hke : (k : Int) = (xs.length : Int) := by omega
             clear hk hz
             go_wp2
             go_ret2
             exact ⟨by rw [HF.out, HS.out, hke]; rfl, HQ.out⟩)
end Go.Proofs.Ytgiieepfhohmhab

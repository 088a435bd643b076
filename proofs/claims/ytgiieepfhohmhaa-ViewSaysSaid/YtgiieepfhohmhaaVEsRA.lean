/- ElderSays: rows of commands that grow; a play, whole. -/
import Derived.ChangeKeysEq
import Derived.Test.YtgiieepfhohmhaaVSt
import Derived.Test.YtgiieepfhohmhaaVRefQ
import Derived.Test.YtgiieepfhohmhaaVEsBA
namespace Go.Proofs.Ytgiieepfhohmhaa
open Go.RowKit Go.Maps
theorem same_true (c : Nat) (hc : c ≤ 3) (w : World) : Calls Try.prog 15 #[errV c, .int .i64 c] w fun e w' => e = .returned (.bool true) ∧ w' = w := by
  have h := same_calls c c (by omega) (by omega) w
  rw [decide_eq_true rfl] at h
  exact h
end Go.Proofs.Ytgiieepfhohmhaa
namespace Go.Proofs.Ytgiieepfhohmhaa
open Go.RowKit Go.Maps
end Go.Proofs.Ytgiieepfhohmhaa
namespace Go.Proofs.Ytgiieepfhohmhaa
open Go.RowKit Go.Maps
def mixZ (h n : Int) : Int := (bits .xor .u64 h (n % 18446744073709551616) * 1099511628211) % 18446744073709551616
def mixL (h : Int) (zs : List Int) : Int := zs.foldl mixZ h
theorem mixL_next (h : Int) {zs : List Int} {k : Nat} (hk : k < zs.length) : mixZ (mixL h (zs.take k)) (fld zs k) = mixL h (zs.take (k + 1)) := by
  unfold mixL
  have e : fld zs k = zs[k] := by unfold fld; rw [List.getD_eq_getElem?_getD, List.getElem?_eq_getElem hk]; rfl
  rw [List.take_succ_eq_append_getElem hk, List.foldl_append, e]
  rfl
set_option maxRecDepth 100000 in
set_option maxHeartbeats 1000000 in
theorem mix_calls (h : Int) (zs : List Int) (na : Option Addr) (nc : Nat) (w : World) (hn : Nums w na zs) (hl : zs.length ≤ 100000) :
    Calls Try.prog 117 #[.int .u64 h, .slice na zs.length nc] w fun e w' => e = .returned (.int .u64 (mixL h zs)) ∧ w' = w := by
  have HN := hid hn
  clear hn
  go_enter Try.func117, Try.ntmps117
  go_wp2_with fail
  go_loopw [0, 9] (fun x i wr => ∃ k : Nat, k ≤ zs.length ∧ x = .int .u64 (mixL h (zs.take k)) ∧ i = .int .i64 k ∧ wr = w) (fun _ i _ => zs.length - (intOf i).toNat)
  case atStart => exact ⟨0, Nat.zero_le _, rfl, rfl, rfl⟩
  case round =>
    obtain ⟨k, hk, rfl, rfl, rfl⟩ := hrel
    by_cases hlt : k < zs.length
    · have hltz : (k : Int) < (zs.length : Int) := by omega
      obtain ⟨b, o, rfl, hc⟩ := HN.out.at hlt
      have HX := hid (mixL_next h hlt)
      go_wp2
      go_roundw
      case rel => exact ⟨k + 1, by omega, by rw [← HX.out]; rfl, by go_num, trivial⟩
      case measure => simp [intOf]; omega
    · have hltz : ¬ (k : Int) < (zs.length : Int) := by omega
      have e : zs.take k = zs := List.take_of_length_le (by omega)
      rw [e]
      go_wp2
      go_ret
      exact ⟨rfl, rfl⟩
end Go.Proofs.Ytgiieepfhohmhaa

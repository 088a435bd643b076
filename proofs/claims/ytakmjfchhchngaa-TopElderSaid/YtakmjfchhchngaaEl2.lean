/- The first record of which something holds: the program's way to look for it. -/
import Derived.Test.YtakmjfchhchngaaEl1
namespace Go.Proofs.Ytakmjfchhchngaa
open Go.RowKit

theorem hid {p : Prop} (h : p) : Hid p := h

set_option maxHeartbeats 2000000 in
theorem indexFunc_calls (g : Nat) (lb : Array Value) (eg : ∀ args w, (callFunc g args).run Try.prog w = .ok (.enter g args) w) (p : List Int → Bool) (es : List (List Int)) (ea : Option Addr) (c : Nat) (w : World)
    (hn : es.length ≤ 1000) (hrow : Recs w ea 10 es)
    (hp : ∀ (W : World) (u : List Int), Below w.heap.size w W → Calls Try.prog g (#[entV u] ++ lb) W fun e w' => e = .returned (.bool (p u)) ∧ Below w.heap.size w w') :
    Calls Try.prog 109 #[.slice ea es.length c, .func (.func g) #[] lb] w fun e w' => e = .returned (.int .i64 (idxZ p es)) ∧ Below w.heap.size w w' := by
  have HR : Hid (Recs w ea 10 es) := hrow
  clear hrow
  go_enter Try.func109, Try.ntmps109
  go_wp2
  go_loopg [5, 8] es.length (fun gg _ s8 wr => ∃ kk : Nat, kk ≤ es.length ∧ es.length - kk ≤ gg ∧ s8 = .int .i64 kk ∧ Hid (Below w.heap.size w wr) ∧ Hid (∀ j, j < kk → p (rec es j) = false))
  case atStart => exact ⟨0, Nat.zero_le _, by omega, rfl, Below.refl _ w, fun j hj => absurd hj (Nat.not_lt_zero _)⟩
  case round =>
    obtain ⟨kk, hkk, hg, rfl, BW, A⟩ := hrel
    by_cases hlt : kk < es.length
    · have hltz : (kk : Int) < (es.length : Int) := by omega
      obtain ⟨b, o, rfl, hb, l0, l1, l2, l3, l4, l5, l6, l7, l8, l9⟩ := (HR.out.below BW.out).ten hlt
      have hcall := hp wr (rec es kk) BW.out
      clear hp HR hb
      generalize hy : rec es kk = y at l0 l1 l2 l3 l4 l5 l6 l7 l8 l9 hcall
      have B : Hid (rec es kk = y) := hy
      clear hy
      cases hq : p y with
      | true =>
        rw [hq] at hcall
        have HC := hid hcall
        clear hcall
        go_wp2_with fail
        refine HC.out.mono ?_
        clear HC
        rintro e w' ⟨rfl, hb0⟩
        have hb' := hid hb0
        clear hb0 l0 l1 l2 l3 l4 l5 l6 l7 l8 l9
        go_wp2
        go_ret
        exact ⟨retI (idxZ_some hlt A.out (by rw [B.out]; exact hq)).symm, hb'.out⟩
      | false =>
        rw [hq] at hcall
        have HC := hid hcall
        clear hcall
        go_wp2_with fail
        refine HC.out.mono ?_
        clear HC
        rintro e w' ⟨rfl, hb0⟩
        have hb' := hid hb0
        clear hb0 l0 l1 l2 l3 l4 l5 l6 l7 l8 l9
        go_wp2
        go_roundg (es.length - (kk + 1))
        case measure => omega
        case rel =>
          refine ⟨kk + 1, by omega, by omega, by go_num, hb', (show Hid _ from fun j hj => ?_)⟩
          by_cases e : j = kk
          · rw [e, B.out]; exact hq
          · exact A.out j (by omega)
    · have hltz : ¬ (kk : Int) < (es.length : Int) := by omega
      clear hp
      go_wp2
      go_ret
      exact ⟨retI (idxZ_none (fun i hi => A.out i (by omega))).symm, BW.out⟩
end Go.Proofs.Ytakmjfchhchngaa

/- The reference's game: who has a number, who stands somewhere, its bounds. -/
import Derived.Test.YtakmjfchhchngaaRecs
namespace Go.Proofs.Ytakmjfchhchngaa
open Go.RowKit

theorem retI {k : IntKind} {a b : Int} (h : a = b) : Ending.returned (.int k a) = .returned (.int k b) := by rw [h]
theorem retB {a b : Bool} (h : a = b) : Ending.returned (.bool a) = .returned (.bool b) := by rw [h]

set_option maxHeartbeats 400000 in
theorem who_calls (p uc : Nat) (ua : Option Addr) (us : List (List Int)) (id : Int) (w : World) (hn : us.length ≤ 1000)
    (hU : w.cell? ⟨p, 6, none⟩ = some (.slice ua us.length uc)) (hrow : Recs w ua 11 us) :
    Calls Try.prog 73 #[.pointer (some ⟨p, 0, none⟩), .int .i64 id] w fun e w' => e = .returned (.int .i64 (whoZ id us)) ∧ w' = w := by
  have HR : Hid (Recs w ua 11 us) := hrow
  clear hrow
  go_enter Try.func73, Try.ntmps73
  go_wp2_with fail
  go_loop [5] (fun i => ∃ k : Nat, k ≤ us.length ∧ i = .int .i64 k ∧ Hid (∀ i, i < k → fld (rec us i) 0 ≠ id)) (fun i => us.length - (intOf i).toNat)
  case atStart => exact ⟨0, by omega, rfl, fun i hi => by omega⟩
  case round =>
    obtain ⟨k, hk, rfl, HN⟩ := hrel
    by_cases hlt : k < us.length
    · obtain ⟨b, o, rfl, hc⟩ := HR.out.at hlt
      have hc0 : w.cell? ⟨b, o + k * 11, none⟩ = some (.int .i64 (fld (rec us k) 0)) := hc 0 (by omega)
      clear hc
      have hlt' : (k : Int) < (us.length : Int) := by omega
      by_cases he : fld (rec us k) 0 = id
      · have hb : (fld (rec us k) 0 == id) = true := by simpa using he
        have HE : Hid (whoZ id us = k) := whoZ_some hlt HN.out he
        clear he
        go_wp2
        go_ret
        exact ⟨retI HE.out.symm, rfl⟩
      · have hb : (fld (rec us k) 0 == id) = false := by simpa using he
        have HN2 : Hid (∀ i, i < k + 1 → fld (rec us i) 0 ≠ id) := fun i hi => by
          by_cases e : i = k
          · rw [e]; exact he
          · exact HN.out i (by omega)
        clear he HN
        go_wp2
        go_round
        case rel => exact ⟨k + 1, by omega, by go_num, HN2⟩
        case measure => simp [intOf]; omega
    · have HE : Hid (whoZ id us = -1) := whoZ_none fun i hi => HN.out i (by omega)
      clear HN
      go_wp2
      go_ret
      exact ⟨retI HE.out.symm, rfl⟩

set_option maxHeartbeats 800000 in
theorem stands_calls (p uc : Nat) (ua : Option Addr) (us : List (List Int)) (x y : Int) (w : World) (hn : us.length ≤ 1000)
    (hU : w.cell? ⟨p, 6, none⟩ = some (.slice ua us.length uc)) (hrow : Recs w ua 11 us) :
    Calls Try.prog 111 #[.pointer (some ⟨p, 0, none⟩), .int .i64 x, .int .i64 y] w fun e w' => e = .returned (.bool (standsB x y us)) ∧ w' = w := by
  have HR : Hid (Recs w ua 11 us) := hrow
  clear hrow
  go_enter Try.func111, Try.ntmps111
  go_wp2_with fail
  go_loop [7] (fun i => ∃ k : Nat, k ≤ us.length ∧ i = .int .i64 k ∧ Hid (∀ i, i < k → ¬ (fld (rec us i) 3 = x ∧ fld (rec us i) 4 = y))) (fun i => us.length - (intOf i).toNat)
  case atStart => exact ⟨0, by omega, rfl, fun i hi => by omega⟩
  case round =>
    obtain ⟨k, hk, rfl, HN⟩ := hrel
    by_cases hlt : k < us.length
    · obtain ⟨b, o, rfl, hc⟩ := HR.out.at hlt
      have hc3 : w.cell? ⟨b, o + k * 11 + 3, none⟩ = some (.int .i64 (fld (rec us k) 3)) := hc 3 (by omega)
      have hc4 : w.cell? ⟨b, o + k * 11 + 4, none⟩ = some (.int .i64 (fld (rec us k) 4)) := hc 4 (by omega)
      clear hc
      have hlt' : (k : Int) < (us.length : Int) := by omega
      by_cases hx : fld (rec us k) 3 = x
      · have hbx : (fld (rec us k) 3 == x) = true := by simpa using hx
        by_cases hy : fld (rec us k) 4 = y
        · have hby : (fld (rec us k) 4 == y) = true := by simpa using hy
          have HE : Hid (standsB x y us = true) := standsB_true hlt hx hy
          clear hx hy
          go_wp2
          go_ret
          exact ⟨retB HE.out.symm, rfl⟩
        · have hby : (fld (rec us k) 4 == y) = false := by simpa using hy
          have HN2 : Hid (∀ i, i < k + 1 → ¬ (fld (rec us i) 3 = x ∧ fld (rec us i) 4 = y)) := fun i hi => by
            by_cases e : i = k
            · rw [e]; exact fun h => hy h.2
            · exact HN.out i (by omega)
          clear hx hy HN
          go_wp2
          go_round
          case rel => exact ⟨k + 1, by omega, by go_num, HN2⟩
          case measure => simp [intOf]; omega
      · have hbx : (fld (rec us k) 3 == x) = false := by simpa using hx
        have HN2 : Hid (∀ i, i < k + 1 → ¬ (fld (rec us i) 3 = x ∧ fld (rec us i) 4 = y)) := fun i hi => by
          by_cases e : i = k
          · rw [e]; exact fun h => hx h.1
          · exact HN.out i (by omega)
        clear hx HN
        go_wp2
        go_round
        case rel => exact ⟨k + 1, by omega, by go_num, HN2⟩
        case measure => simp [intOf]; omega
    · have HE : Hid (standsB x y us = false) := standsB_false fun i hi => HN.out i (by omega)
      clear HN
      go_wp2
      go_ret
      exact ⟨retB HE.out.symm, rfl⟩

/- The greatest number of who is there, and the most gold, of either game. -/
def topZ (nw : Bool) : Int := if nw then 2000 else 200
def richZ (nw : Bool) : Int := if nw then 1000 else 40
theorem topZ_bd (nw : Bool) : 200 ≤ topZ nw ∧ topZ nw ≤ 2000 := by cases nw <;> decide
theorem richZ_bd (nw : Bool) : 40 ≤ richZ nw ∧ richZ nw ≤ 1000 := by cases nw <;> decide

set_option maxHeartbeats 400000 in
theorem bounds_calls (p : Nat) (nw : Bool) (w : World) (h0 : w.cell? ⟨p, 0, none⟩ = some (.bool nw)) :
    Calls Try.prog 84 #[.pointer (some ⟨p, 0, none⟩)] w fun e w' => e = .returned (.tuple #[.int .i64 (topZ nw), .int .i64 (richZ nw)]) ∧ w' = w := by
  cases nw
  · go_enter Try.func84, Try.ntmps84
    go_wp2
    go_ret2
    exact ⟨rfl, rfl⟩
  · go_enter Try.func84, Try.ntmps84
    go_wp2
    go_ret2
    exact ⟨rfl, rfl⟩
end Go.Proofs.Ytakmjfchhchngaa

/- Records of whole numbers (units, commands, views) as lists of lists, and how rows of them lie in memory. -/
import Derived.Test.YtgiieepfhohmhaaProg
import Derived.WalkKit
import Derived.WalkLawsBesides
import Derived.WalkSpells
import Derived.Handy
import Derived.Below
import Derived.Deep.RegionWith
import Derived.Deep.QuietTactic
import Derived.BigQuiet
import Derived.BigRegion
namespace Go.Proofs.Ytgiieepfhohmhaa
open Go.RowKit
def fld (r : List Int) (j : Nat) : Int := r.getD j 0
def rec (rs : List (List Int)) (i : Nat) : List Int := rs.getD i []
def Recs (w : World) (a : Option Addr) (k : Nat) (rs : List (List Int)) : Prop :=
  rs = [] ∨ ∃ b o, a = some ⟨b, o, none⟩ ∧ ∀ i, i < rs.length → ∀ j, j < k → w.cell? ⟨b, o + i * k + j, none⟩ = some (.int .i64 (fld (rec rs i) j))
def Nums (w : World) (a : Option Addr) (zs : List Int) : Prop :=
  zs = [] ∨ ∃ b o, a = some ⟨b, o, none⟩ ∧ ∀ i, i < zs.length → w.cell? ⟨b, o + i, none⟩ = some (.int .i64 (fld zs i))
theorem Recs.at {w : World} {a : Option Addr} {k : Nat} {rs : List (List Int)} (h : Recs w a k rs) {i : Nat} (hi : i < rs.length) :
    ∃ b o, a = some ⟨b, o, none⟩ ∧ ∀ j, j < k → w.cell? ⟨b, o + i * k + j, none⟩ = some (.int .i64 (fld (rec rs i) j)) := by
  rcases h with rfl | ⟨b, o, e, hc⟩
  · simp at hi
  · exact ⟨b, o, e, hc i hi⟩
theorem Nums.at {w : World} {a : Option Addr} {zs : List Int} (h : Nums w a zs) {i : Nat} (hi : i < zs.length) :
    ∃ b o, a = some ⟨b, o, none⟩ ∧ w.cell? ⟨b, o + i, none⟩ = some (.int .i64 (fld zs i)) := by
  rcases h with rfl | ⟨b, o, e, hc⟩
  · simp at hi
  · exact ⟨b, o, e, hc i hi⟩
theorem Recs.drewN {w : World} {a : Option Addr} {k : Nat} {rs : List (List Int)} (h : Recs w a k rs) (n : Nat) : Recs (w.drewN n) a k rs := h
theorem Nums.drewN {w : World} {a : Option Addr} {zs : List Int} (h : Nums w a zs) (n : Nat) : Nums (w.drewN n) a zs := h
def whoZ (id : Int) (rs : List (List Int)) : Int :=
  match rs.findIdx? (fun r => fld r 0 == id) with
  | some i => i
  | none => -1
theorem whoZ_some {id : Int} {rs : List (List Int)} {k : Nat} (hk : k < rs.length) (hn : ∀ i, i < k → fld (rec rs i) 0 ≠ id) (he : fld (rec rs k) 0 = id) : whoZ id rs = k := by
  have h : rs.findIdx? (fun r => fld r 0 == id) = some k := by
    rw [List.findIdx?_eq_some_iff_getElem]
    refine ⟨hk, ?_, fun j hj => ?_⟩
    · have : rec rs k = rs[k] := by simp [rec, List.getD_eq_getElem?_getD, hk]
      rw [this] at he
      simpa using he
    · have hj2 : j < rs.length := by omega
      have : rec rs j = rs[j] := by simp [rec, List.getD_eq_getElem?_getD, hj2]
      have h2 := hn j hj
      rw [this] at h2
      simpa using h2
  unfold whoZ
  rw [h]
theorem whoZ_none {id : Int} {rs : List (List Int)} (hn : ∀ i, i < rs.length → fld (rec rs i) 0 ≠ id) : whoZ id rs = -1 := by
  have h : rs.findIdx? (fun r => fld r 0 == id) = none := by
    rw [List.findIdx?_eq_none_iff]
    intro r hr
    obtain ⟨i, hi, rfl⟩ := List.mem_iff_getElem.1 hr
    have : rec rs i = rs[i] := by simp [rec, List.getD_eq_getElem?_getD, hi]
    have h2 := hn i hi
    rw [this] at h2
    simpa using h2
  unfold whoZ
  rw [h]
end Go.Proofs.Ytgiieepfhohmhaa
namespace Go.Proofs.Ytgiieepfhohmhaa
open Go.RowKit
theorem retI {k : IntKind} {a b : Int} (h : a = b) : Ending.returned (.int k a) = .returned (.int k b) := by rw [h]
theorem retB {a b : Bool} (h : a = b) : Ending.returned (.bool a) = .returned (.bool b) := by rw [h]
set_option maxHeartbeats 400000 in
theorem who_calls (p uc : Nat) (ua : Option Addr) (us : List (List Int)) (id : Int) (w : World) (hn : us.length ≤ 1000)
    (hU : w.cell? ⟨p, 6, none⟩ = some (.slice ua us.length uc)) (hrow : Recs w ua 11 us) :
    Calls Try.prog 87 #[.pointer (some ⟨p, 0, none⟩), .int .i64 id] w fun e w' => e = .returned (.int .i64 (whoZ id us)) ∧ w' = w := by
  have HR : Hid (Recs w ua 11 us) := hrow
  clear hrow
  go_enter Try.func87, Try.ntmps87
  go_wp2_with fail
  go_loop [5] (fun i => ∃ k : Nat, k ≤ us.length ∧ i = .int .i64 k ∧ Hid (∀ i, i < k → fld (rec us i) 0 ≠ id)) (fun i => us.length - (intOf i).toNat)
  case atStart => exact ⟨0, by omega, rfl, fun i hi => by omega⟩
  case round =>
    obtain ⟨k, hk, rfl, HN⟩ := hrel
    by_cases hlt : k < us.length
    · obtain ⟨b, o, rfl, hc⟩ := HR.out.at hlt
      have hc0 : w.cell? ⟨b, o + k * 11, none⟩ = some (.int .i64 (fld (rec us k) 0)) := hc 0 (by omega)
      clear hc
      have hlt' : (k : Int) < (us.length : Int) := by omega
      by_cases he : fld (rec us k) 0 = id
      · have hb : (fld (rec us k) 0 == id) = true := by simpa using he
        have HE : Hid (whoZ id us = k) := whoZ_some hlt HN.out he
        clear he
        go_wp2
        go_ret
        exact ⟨retI HE.out.symm, rfl⟩
      · have hb : (fld (rec us k) 0 == id) = false := by simpa using he
        have HN2 : Hid (∀ i, i < k + 1 → fld (rec us i) 0 ≠ id) := fun i hi => by
          by_cases e : i = k
          · rw [e]; exact he
          · exact HN.out i (by omega)
        clear he HN
        go_wp2
        go_round
        case rel => exact ⟨k + 1, by omega, by go_num, HN2⟩
        case measure => simp [intOf]; omega
    · have HE : Hid (whoZ id us = -1) := whoZ_none fun i hi => HN.out i (by omega)
      clear HN
      go_wp2
      go_ret
      exact ⟨retI HE.out.symm, rfl⟩
def topZ (nw : Bool) : Int := if nw then 2000 else 200
def richZ (nw : Bool) : Int := if nw then 1000 else 40
theorem topZ_bd (nw : Bool) : 200 ≤ topZ nw ∧ topZ nw ≤ 2000 := by cases nw <;> decide
set_option maxHeartbeats 400000 in
theorem bounds_calls (p : Nat) (nw : Bool) (w : World) (h0 : w.cell? ⟨p, 0, none⟩ = some (.bool nw)) :
    Calls Try.prog 98 #[.pointer (some ⟨p, 0, none⟩)] w fun e w' => e = .returned (.tuple #[.int .i64 (topZ nw), .int .i64 (richZ nw)]) ∧ w' = w := by
  cases nw
  · go_enter Try.func98, Try.ntmps98
    go_wp2
    go_ret2
    exact ⟨rfl, rfl⟩
  · go_enter Try.func98, Try.ntmps98
    go_wp2
    go_ret2
    exact ⟨rfl, rfl⟩
end Go.Proofs.Ytgiieepfhohmhaa

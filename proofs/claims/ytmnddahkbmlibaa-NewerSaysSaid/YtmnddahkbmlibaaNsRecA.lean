/- Records of whole numbers (units, commands, views) as lists of lists, and how rows of them lie in memory. -/
import Derived.Test.YtmnddahkbmlibaaProg
import Derived.WalkKit
import Derived.WalkLawsBesides
import Derived.WalkSpells
import Derived.Handy
import Derived.Below
import Derived.Deep.RegionWith
import Derived.Deep.QuietTactic
import Derived.BigQuiet
import Derived.BigRegion
import Derived.Deep.LoopGhost
import Derived.Shelf.Abstract
import Derived.Deep.DeepCutAuto
import Derived.Maps.OwnOps
import Derived.Maps.Views
import Derived.Test.YtmnddahkbmlibaaNsRulA
namespace Go.Proofs.Ytmnddahkbmlibaa
open Go.RowKit
def fld (r : List Int) (j : Nat) : Int := r.getD j 0
def rec (rs : List (List Int)) (i : Nat) : List Int := rs.getD i []
def Recs (w : World) (a : Option Addr) (k : Nat) (rs : List (List Int)) : Prop :=
  rs = [] ∨ ∃ b o, a = some ⟨b, o, none⟩ ∧ ∀ i, i < rs.length → ∀ j, j < k → w.cell? ⟨b, o + i * k + j, none⟩ = some (.int .i64 (fld (rec rs i) j))
def Nums (w : World) (a : Option Addr) (zs : List Int) : Prop :=
  zs = [] ∨ ∃ b o, a = some ⟨b, o, none⟩ ∧ ∀ i, i < zs.length → w.cell? ⟨b, o + i, none⟩ = some (.int .i64 (fld zs i))
theorem Recs.at {w : World} {a : Option Addr} {k : Nat} {rs : List (List Int)} (h : Recs w a k rs) {i : Nat} (hi : i < rs.length) :
    ∃ b o, a = some ⟨b, o, none⟩ ∧ ∀ j, j < k → w.cell? ⟨b, o + i * k + j, none⟩ = some (.int .i64 (fld (rec rs i) j)) := by
  rcases h with rfl | ⟨b, o, e, hc⟩
  · simp at hi
  · exact ⟨b, o, e, hc i hi⟩
theorem Nums.at {w : World} {a : Option Addr} {zs : List Int} (h : Nums w a zs) {i : Nat} (hi : i < zs.length) :
    ∃ b o, a = some ⟨b, o, none⟩ ∧ w.cell? ⟨b, o + i, none⟩ = some (.int .i64 (fld zs i)) := by
  rcases h with rfl | ⟨b, o, e, hc⟩
  · simp at hi
  · exact ⟨b, o, e, hc i hi⟩
theorem Recs.drewN {w : World} {a : Option Addr} {k : Nat} {rs : List (List Int)} (h : Recs w a k rs) (n : Nat) : Recs (w.drewN n) a k rs := h
theorem Nums.drewN {w : World} {a : Option Addr} {zs : List Int} (h : Nums w a zs) (n : Nat) : Nums (w.drewN n) a zs := h
def whoZ (id : Int) (rs : List (List Int)) : Int :=
  match rs.findIdx? (fun r => fld r 0 == id) with
  | some i => i
  | none => -1
theorem whoZ_some {id : Int} {rs : List (List Int)} {k : Nat} (hk : k < rs.length) (hn : ∀ i, i < k → fld (rec rs i) 0 ≠ id) (he : fld (rec rs k) 0 = id) : whoZ id rs = k := by
  have h : rs.findIdx? (fun r => fld r 0 == id) = some k := by
    rw [List.findIdx?_eq_some_iff_getElem]
    refine ⟨hk, ?_, fun j hj => ?_⟩
    · have : rec rs k = rs[k] := by simp [rec, List.getD_eq_getElem?_getD, hk]
      rw [this] at he
      simpa using he
    · have hj2 : j < rs.length := by omega
      have : rec rs j = rs[j] := by simp [rec, List.getD_eq_getElem?_getD, hj2]
      have h2 := hn j hj
      rw [this] at h2
      simpa using h2
  unfold whoZ
  rw [h]
theorem whoZ_none {id : Int} {rs : List (List Int)} (hn : ∀ i, i < rs.length → fld (rec rs i) 0 ≠ id) : whoZ id rs = -1 := by
  have h : rs.findIdx? (fun r => fld r 0 == id) = none := by
    rw [List.findIdx?_eq_none_iff]
    intro r hr
    obtain ⟨i, hi, rfl⟩ := List.mem_iff_getElem.1 hr
    have : rec rs i = rs[i] := by simp [rec, List.getD_eq_getElem?_getD, hi]
    have h2 := hn i hi
    rw [this] at h2
    simpa using h2
  unfold whoZ
  rw [h]
def standsB (x y : Int) (rs : List (List Int)) : Bool := rs.any fun r => fld r 3 == x && fld r 4 == y
theorem standsB_true {x y : Int} {rs : List (List Int)} {k : Nat} (hk : k < rs.length) (hx : fld (rec rs k) 3 = x) (hy : fld (rec rs k) 4 = y) : standsB x y rs = true := by
  have : rec rs k = rs[k] := by simp [rec, List.getD_eq_getElem?_getD, hk]
  rw [this] at hx hy
  unfold standsB
  rw [List.any_eq_true]
  exact ⟨rs[k], List.getElem_mem hk, by simp [hx, hy]⟩
theorem standsB_false {x y : Int} {rs : List (List Int)} (h : ∀ i, i < rs.length → ¬ (fld (rec rs i) 3 = x ∧ fld (rec rs i) 4 = y)) : standsB x y rs = false := by
  unfold standsB
  rw [List.any_eq_false]
  intro r hr
  obtain ⟨i, hi, rfl⟩ := List.mem_iff_getElem.1 hr
  have : rec rs i = rs[i] := by simp [rec, List.getD_eq_getElem?_getD, hi]
  have h2 := h i hi
  rw [this] at h2
  simpa using h2
end Go.Proofs.Ytmnddahkbmlibaa
namespace Go.Proofs.Ytmnddahkbmlibaa
open Go.RowKit
theorem retI {k : IntKind} {a b : Int} (h : a = b) : Ending.returned (.int k a) = .returned (.int k b) := by rw [h]
theorem retB {a b : Bool} (h : a = b) : Ending.returned (.bool a) = .returned (.bool b) := by rw [h]
set_option maxHeartbeats 400000 in
theorem who_calls (p uc : Nat) (ua : Option Addr) (us : List (List Int)) (id : Int) (w : World) (hn : us.length ≤ 1000)
    (hU : w.cell? ⟨p, 6, none⟩ = some (.slice ua us.length uc)) (hrow : Recs w ua 11 us) :
    Calls Try.prog 90 #[.pointer (some ⟨p, 0, none⟩), .int .i64 id] w fun e w' => e = .returned (.int .i64 (whoZ id us)) ∧ w' = w := by
  have HR : Hid (Recs w ua 11 us) := hrow
  clear hrow
  go_enter Try.func90, Try.ntmps90
  go_wp2_with fail
  go_loop [5] (fun i => ∃ k : Nat, k ≤ us.length ∧ i = .int .i64 k ∧ Hid (∀ i, i < k → fld (rec us i) 0 ≠ id)) (fun i => us.length - (intOf i).toNat)
  case atStart => exact ⟨0, by omega, rfl, fun i hi => by omega⟩
  case round =>
    obtain ⟨k, hk, rfl, HN⟩ := hrel
    by_cases hlt : k < us.length
    · obtain ⟨b, o, rfl, hc⟩ := HR.out.at hlt
      have hc0 : w.cell? ⟨b, o + k * 11, none⟩ = some (.int .i64 (fld (rec us k) 0)) := hc 0 (by omega)
      clear hc
      have hlt' : (k : Int) < (us.length : Int) := by omega
      by_cases he : fld (rec us k) 0 = id
      · have hb : (fld (rec us k) 0 == id) = true := by simpa using he
        have HE : Hid (whoZ id us = k) := whoZ_some hlt HN.out he
        clear he
        go_wp2
        go_ret
        exact ⟨retI HE.out.symm, rfl⟩
      · have hb : (fld (rec us k) 0 == id) = false := by simpa using he
        have HN2 : Hid (∀ i, i < k + 1 → fld (rec us i) 0 ≠ id) := fun i hi => by
          by_cases e : i = k
          · rw [e]; exact he
          · exact HN.out i (by omega)
        clear he HN
        go_wp2
        go_round
        case rel => exact ⟨k + 1, by omega, by go_num, HN2⟩
        case measure => simp [intOf]; omega
    · have HE : Hid (whoZ id us = -1) := whoZ_none fun i hi => HN.out i (by omega)
      clear HN
      go_wp2
      go_ret
      exact ⟨retI HE.out.symm, rfl⟩
set_option maxHeartbeats 800000 in
theorem stands_calls (p uc : Nat) (ua : Option Addr) (us : List (List Int)) (x y : Int) (w : World) (hn : us.length ≤ 1000)
    (hU : w.cell? ⟨p, 6, none⟩ = some (.slice ua us.length uc)) (hrow : Recs w ua 11 us) :
    Calls Try.prog 141 #[.pointer (some ⟨p, 0, none⟩), .int .i64 x, .int .i64 y] w fun e w' => e = .returned (.bool (standsB x y us)) ∧ w' = w := by
  have HR : Hid (Recs w ua 11 us) := hrow
  clear hrow
  go_enter Try.func141, Try.ntmps141
  go_wp2_with fail
  go_loop [7] (fun i => ∃ k : Nat, k ≤ us.length ∧ i = .int .i64 k ∧ Hid (∀ i, i < k → ¬ (fld (rec us i) 3 = x ∧ fld (rec us i) 4 = y))) (fun i => us.length - (intOf i).toNat)
  case atStart => exact ⟨0, by omega, rfl, fun i hi => by omega⟩
  case round =>
    obtain ⟨k, hk, rfl, HN⟩ := hrel
    by_cases hlt : k < us.length
    · obtain ⟨b, o, rfl, hc⟩ := HR.out.at hlt
      have hc3 : w.cell? ⟨b, o + k * 11 + 3, none⟩ = some (.int .i64 (fld (rec us k) 3)) := hc 3 (by omega)
      have hc4 : w.cell? ⟨b, o + k * 11 + 4, none⟩ = some (.int .i64 (fld (rec us k) 4)) := hc 4 (by omega)
      clear hc
      have hlt' : (k : Int) < (us.length : Int) := by omega
      by_cases hx : fld (rec us k) 3 = x
      · have hbx : (fld (rec us k) 3 == x) = true := by simpa using hx
        by_cases hy : fld (rec us k) 4 = y
        · have hby : (fld (rec us k) 4 == y) = true := by simpa using hy
          have HE : Hid (standsB x y us = true) := standsB_true hlt hx hy
          clear hx hy
          go_wp2
          go_ret
          exact ⟨retB HE.out.symm, rfl⟩
        · have hby : (fld (rec us k) 4 == y) = false := by simpa using hy
          have HN2 : Hid (∀ i, i < k + 1 → ¬ (fld (rec us i) 3 = x ∧ fld (rec us i) 4 = y)) := fun i hi => by
            by_cases e : i = k
            · rw [e]; exact fun h => hy h.2
            · exact HN.out i (by omega)
          clear hx hy HN
          go_wp2
          go_round
          case rel => exact ⟨k + 1, by omega, by go_num, HN2⟩
          case measure => simp [intOf]; omega
      · have hbx : (fld (rec us k) 3 == x) = false := by simpa using hx
        have HN2 : Hid (∀ i, i < k + 1 → ¬ (fld (rec us i) 3 = x ∧ fld (rec us i) 4 = y)) := fun i hi => by
          by_cases e : i = k
          · rw [e]; exact fun h => hx h.1
          · exact HN.out i (by omega)
        clear hx HN
        go_wp2
        go_round
        case rel => exact ⟨k + 1, by omega, by go_num, HN2⟩
        case measure => simp [intOf]; omega
    · have HE : Hid (standsB x y us = false) := standsB_false fun i hi => HN.out i (by omega)
      clear HN
      go_wp2
      go_ret
      exact ⟨retB HE.out.symm, rfl⟩
def topZ (nw : Bool) : Int := if nw then 2000 else 200
def richZ (nw : Bool) : Int := if nw then 1000 else 40
theorem topZ_bd (nw : Bool) : 200 ≤ topZ nw ∧ topZ nw ≤ 2000 := by cases nw <;> decide
theorem richZ_bd (nw : Bool) : 40 ≤ richZ nw ∧ richZ nw ≤ 1000 := by cases nw <;> decide
set_option maxHeartbeats 400000 in
theorem bounds_calls (p : Nat) (nw : Bool) (w : World) (h0 : w.cell? ⟨p, 0, none⟩ = some (.bool nw)) :
    Calls Try.prog 101 #[.pointer (some ⟨p, 0, none⟩)] w fun e w' => e = .returned (.tuple #[.int .i64 (topZ nw), .int .i64 (richZ nw)]) ∧ w' = w := by
  cases nw
  · go_enter Try.func101, Try.ntmps101
    go_wp2
    go_ret2
    exact ⟨rfl, rfl⟩
  · go_enter Try.func101, Try.ntmps101
    go_wp2
    go_ret2
    exact ⟨rfl, rfl⟩
end Go.Proofs.Ytmnddahkbmlibaa
namespace Go.Proofs.Ytmnddahkbmlibaa
open Go.RowKit
abbrev entC (u : List Int) : Array Value := #[.int .i64 (fld u 0), .int .i64 (fld u 1), .int .i64 (fld u 2), .int .i64 (fld u 3), .int .i64 (fld u 4), .int .i64 (fld u 5), .int .i64 (fld u 6), .int .i64 (fld u 7), .int .i64 (fld u 8), .int .i64 (fld u 9)]
theorem Recs.below {w W : World} {a : Option Addr} {k : Nat} {rs : List (List Int)} (h : Recs w a k rs) (hb : Below w.heap.size w W) : Recs W a k rs := by
  rcases h with h | ⟨b, o, e, hc⟩
  · exact Or.inl h
  · exact Or.inr ⟨b, o, e, fun i hi j hj => (hb.cell (World.block_lt_of_cell? w _ (hc i hi j hj))).trans (hc i hi j hj)⟩
theorem Nums.below {w W : World} {a : Option Addr} {zs : List Int} (h : Nums w a zs) (hb : Below w.heap.size w W) : Nums W a zs := by
  rcases h with h | ⟨b, o, e, hc⟩
  · exact Or.inl h
  · exact Or.inr ⟨b, o, e, fun i hi => (hb.cell (World.block_lt_of_cell? w _ (hc i hi))).trans (hc i hi)⟩
def idxZ (p : List Int → Bool) (rs : List (List Int)) : Int :=
  match rs.findIdx? p with
  | some i => i
  | none => -1
theorem rec_at {rs : List (List Int)} {i : Nat} (h : i < rs.length) : rec rs i = rs[i] := by simp [rec, List.getD_eq_getElem?_getD, h]
theorem idxZ_some {p : List Int → Bool} {rs : List (List Int)} {k : Nat} (hk : k < rs.length) (hn : ∀ i, i < k → p (rec rs i) = false) (he : p (rec rs k) = true) : idxZ p rs = k := by
  have h : rs.findIdx? p = some k := by
    rw [List.findIdx?_eq_some_iff_getElem]
    refine ⟨hk, by rw [← rec_at hk]; exact he, fun j hj => ?_⟩
    have h2 := hn j hj
    rw [rec_at (by omega)] at h2
    simp [h2]
  unfold idxZ
  rw [h]
theorem idxZ_none {p : List Int → Bool} {rs : List (List Int)} (hn : ∀ i, i < rs.length → p (rec rs i) = false) : idxZ p rs = -1 := by
  have h : rs.findIdx? p = none := by
    rw [List.findIdx?_eq_none_iff]
    intro r hr
    obtain ⟨i, hi, rfl⟩ := List.mem_iff_getElem.1 hr
    have h2 := hn i hi
    rw [rec_at hi] at h2
    exact h2
  unfold idxZ
  rw [h]
theorem idxZ_bd (p : List Int → Bool) (rs : List (List Int)) : -1 ≤ idxZ p rs ∧ idxZ p rs < rs.length := by
  unfold idxZ
  cases h : rs.findIdx? p with
  | none => simp only; omega
  | some i =>
    rw [List.findIdx?_eq_some_iff_getElem] at h
    obtain ⟨hi, _⟩ := h
    simp only; omega
theorem idxZ_at {p : List Int → Bool} {rs : List (List Int)} (h : 0 ≤ idxZ p rs) : (idxZ p rs).toNat < rs.length ∧ p (rec rs (idxZ p rs).toNat) = true := by
  unfold idxZ at h ⊢
  cases hf : rs.findIdx? p with
  | none => rw [hf] at h; simp at h
  | some i =>
    rw [List.findIdx?_eq_some_iff_getElem] at hf
    obtain ⟨hi, hp, _⟩ := hf
    refine ⟨by simpa using hi, ?_⟩
    simpa [rec_at hi] using hp
end Go.Proofs.Ytmnddahkbmlibaa
namespace Go.Proofs.Ytmnddahkbmlibaa
open Go.RowKit
theorem hid {p : Prop} (h : p) : Hid p := h
end Go.Proofs.Ytmnddahkbmlibaa
namespace Go.Proofs.Ytmnddahkbmlibaa
open Go.RowKit
def isId (id : Int) (r : List Int) : Bool := fld r 0 == id
def isAt (x y : Int) (r : List Int) : Bool := fld r 3 == x && fld r 4 == y
end Go.Proofs.Ytmnddahkbmlibaa
namespace Go.Proofs.Ytmnddahkbmlibaa
open Go.RowKit
def inZ (n a b : Int) : Bool := decide (a ≤ n ∧ n ≤ b)
def ownerE (u : List Int) : Bool := if fld u 2 = 4 then fld u 1 == 2 else inZ (fld u 1) 0 1
def targetE (u : List Int) : Bool := (fld u 6 == 2 || fld u 6 == 3) == decide (0 < fld u 9)
end Go.Proofs.Ytmnddahkbmlibaa
namespace Go.Proofs.Ytmnddahkbmlibaa
open Go.RowKit
theorem field_rule2 (a b c d f g : Value) (w : World) : (Instr.field 41 (.agg #[a, b, c, d, f, g]) 2).run Try.prog w = .ok c w := by kernel_rfl
theorem field_rule3 (a b c d f g : Value) (w : World) : (Instr.field 41 (.agg #[a, b, c, d, f, g]) 3).run Try.prog w = .ok d w := by kernel_rfl
theorem field_rule4 (a b c d f g : Value) (w : World) : (Instr.field 41 (.agg #[a, b, c, d, f, g]) 4).run Try.prog w = .ok f w := by kernel_rfl
theorem field_rule5 (a b c d f g : Value) (w : World) : (Instr.field 41 (.agg #[a, b, c, d, f, g]) 5).run Try.prog w = .ok g w := by kernel_rfl
end Go.Proofs.Ytmnddahkbmlibaa
namespace Go.Proofs.Ytmnddahkbmlibaa
open Go.RowKit
end Go.Proofs.Ytmnddahkbmlibaa
namespace Go.Proofs.Ytmnddahkbmlibaa
open Go.RowKit
def errV (c : Nat) : Value := if c = 0 then .nilIface else .iface 131 (.int .i64 c)
theorem assert_errno (c : Int) (w : World) : (Instr.typeAssert (.iface 131 (.int .i64 c)) 24 131 true).run Try.prog w = .ok (.tuple #[.int .i64 c, .bool true]) w := by kernel_rfl
set_option maxRecDepth 100000 in
set_option maxHeartbeats 400000 in
theorem same_calls (c f : Nat) (hf : f ≤ 1000) (hc : c ≤ 1000) (w : World) :
    Calls Try.prog 15 #[errV c, .int .i64 f] w fun e w' => e = .returned (.bool (decide (c = f))) ∧ w' = w := by
  by_cases h0 : c = 0
  · subst h0
    by_cases hf0 : f = 0
    · subst hf0
      simp only [errV, if_true, decide_true]
      go_enter Try.func15, Try.ntmps15
      go_wp2
      go_ret
      exact ⟨rfl, rfl⟩
    · have e : decide (0 = f) = false := by simp; omega
      have h1 : ((f : Int) == 0) = false := by rw [beq_eq_false_iff_ne]; omega
      rw [e]
      simp only [errV, if_true]
      clear e
      go_enter Try.func15, Try.ntmps15
      go_wp2
      go_ret
      exact ⟨rfl, rfl⟩
  · simp only [errV, if_neg h0]
    have hta := assert_errno (c : Int) w
    by_cases hf0 : f = 0
    · subst hf0
      have e : decide (c = 0) = false := by simp [h0]
      rw [e]
      clear e
      go_enter Try.func15, Try.ntmps15
      go_wp2
      go_ret
      exact ⟨rfl, rfl⟩
    · have hp : (0 : Int) < (f : Int) := by omega
      by_cases hcf : c = f
      · subst hcf
        have e : decide (c = c) = true := by simp
        rw [e]
        clear e
        go_enter Try.func15, Try.ntmps15
        go_wp2
        go_ret
        exact ⟨rfl, rfl⟩
      · have e : decide (c = f) = false := by simp [hcf]
        have h1 : ((c : Int) == (f : Int)) = false := by rw [beq_eq_false_iff_ne]; omega
        rw [e]
        clear e
        go_enter Try.func15, Try.ntmps15
        go_wp2
        go_ret
        exact ⟨rfl, rfl⟩
end Go.Proofs.Ytmnddahkbmlibaa
namespace Go.Proofs.Ytmnddahkbmlibaa
open Go.RowKit
theorem gold_at0 (a b : Value) (w : World) : (Instr.index 56 (.agg #[a, b]) (.int .i64 0)).run Try.prog w = .ok a w := by kernel_rfl
theorem gold_at1 (a b : Value) (w : World) : (Instr.index 56 (.agg #[a, b]) (.int .i64 1)).run Try.prog w = .ok b w := by kernel_rfl
theorem errV_0 : errV 0 = .nilIface := rfl
theorem retE {v : Value} {c d : Nat} (h : c = d) (hv : v = errV c) : Ending.returned v = .returned (errV d) := by rw [hv, h]
end Go.Proofs.Ytmnddahkbmlibaa
namespace Go.Proofs.Ytmnddahkbmlibaa
open Go.RowKit
theorem rec_take {rs : List (List Int)} {n i : Nat} (h : i < n) : rec (rs.take n) i = rec rs i := by
  simp [rec, List.getD_eq_getElem?_getD, h]
theorem Recs.take {w : World} {a : Option Addr} {k : Nat} {rs : List (List Int)} (h : Recs w a k rs) (n : Nat) : Recs w a k (rs.take n) := by
  rcases h with h | ⟨b, o, e, hc⟩
  · exact Or.inl (by rw [h]; simp)
  · refine Or.inr ⟨b, o, e, fun i hi j hj => ?_⟩
    rw [List.length_take] at hi
    rw [rec_take (by omega)]
    exact hc i (by omega) j hj
theorem below_drewN {B : Nat} {a w : World} (h : Below B a w) (n : Nat) : Below B a (w.drewN n) := ⟨h.os, h.tape, h.output, h.size, h.block⟩
theorem below_of_drewN {B : Nat} {a w : World} {n : Nat} (h : Below B (a.drewN n) w) : Below B a w := ⟨h.os, h.tape, h.output, h.size, h.block⟩
end Go.Proofs.Ytmnddahkbmlibaa
namespace Go.Proofs.Ytmnddahkbmlibaa
open Go.RowKit Go.Maps
end Go.Proofs.Ytmnddahkbmlibaa
namespace Go.Proofs.Ytmnddahkbmlibaa
open Go.RowKit Go.Maps
def idsE (es : List (List Int)) : List Int := es.map (fun r => fld r 0)
theorem ids_take {es : List (List Int)} {k : Nat} (h : k < es.length) : idsE (es.take (k + 1)) = idsE (es.take k) ++ [fld (rec es k) 0] := by
  unfold idsE
  rw [List.take_add_one, rec_at h, List.map_append]
  simp [h]
theorem nums_take {l : List Int} {k : Nat} (h : k < l.length) : l.take (k + 1) = l.take k ++ [fld l k] := by
  rw [List.take_add_one]
  simp [fld, List.getD_eq_getElem?_getD, h]
end Go.Proofs.Ytmnddahkbmlibaa
namespace Go.Proofs.Ytmnddahkbmlibaa
open Go.RowKit Go.Maps
def firstE (n : Nat) (f : Nat → Nat) : Nat :=
  match (List.range n).find? (fun i => f i != 0) with
  | some i => f i
  | none => 0
theorem firstE_some {n : Nat} {f : Nat → Nat} {k : Nat} (hk : k < n) (hn : ∀ i, i < k → f i = 0) (he : f k ≠ 0) : firstE n f = f k := by
  have h : (List.range n).find? (fun i => f i != 0) = some k := by
    rw [List.find?_range_eq_some]
    refine ⟨by simpa using he, by simpa using hk, fun j hj => by simpa using hn j hj⟩
  unfold firstE
  rw [h]
theorem firstE_none {n : Nat} {f : Nat → Nat} (hn : ∀ i, i < n → f i = 0) : firstE n f = 0 := by
  have h : (List.range n).find? (fun i => f i != 0) = none := by
    rw [List.find?_eq_none]
    intro i hi
    have := hn i (by simpa using hi)
    simpa using this
  unfold firstE
  rw [h]
end Go.Proofs.Ytmnddahkbmlibaa

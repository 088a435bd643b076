/- Package elder of the program: records of ten numbers; who is at a place, who has a number. -/
import Derived.Deep.LoopGhost
import Derived.Shelf.Abstract
import Derived.Deep.DeepCutAuto
import Derived.Test.YtmnddahkbmlibaaProg
import Derived.WalkKit
import Derived.WalkLawsBesides
import Derived.WalkSpells
import Derived.Handy
import Derived.Below
import Derived.Deep.RegionWith
import Derived.Deep.QuietTactic
import Derived.BigQuiet
import Derived.Test.YtmnddahkbmlibaaTnRulA
import Derived.Test.YtmnddahkbmlibaaTnRecA
namespace Go.Proofs.Ytmnddahkbmlibaa
open Go.RowKit
theorem Recs.below {w W : World} {a : Option Addr} {k : Nat} {rs : List (List Int)} (h : Recs w a k rs) (hb : Below w.heap.size w W) : Recs W a k rs := by
  rcases h with h | ⟨b, o, e, hc⟩
  · exact Or.inl h
  · exact Or.inr ⟨b, o, e, fun i hi j hj => (hb.cell (World.block_lt_of_cell? w _ (hc i hi j hj))).trans (hc i hi j hj)⟩
def idxZ (p : List Int → Bool) (rs : List (List Int)) : Int :=
  match rs.findIdx? p with
  | some i => i
  | none => -1
theorem rec_at {rs : List (List Int)} {i : Nat} (h : i < rs.length) : rec rs i = rs[i] := by simp [rec, List.getD_eq_getElem?_getD, h]
theorem idxZ_some {p : List Int → Bool} {rs : List (List Int)} {k : Nat} (hk : k < rs.length) (hn : ∀ i, i < k → p (rec rs i) = false) (he : p (rec rs k) = true) : idxZ p rs = k := by
  have h : rs.findIdx? p = some k := by
    rw [List.findIdx?_eq_some_iff_getElem]
    refine ⟨hk, by rw [← rec_at hk]; exact he, fun j hj => ?_⟩
    have h2 := hn j hj
    rw [rec_at (by omega)] at h2
    simp [h2]
  unfold idxZ
  rw [h]
theorem idxZ_none {p : List Int → Bool} {rs : List (List Int)} (hn : ∀ i, i < rs.length → p (rec rs i) = false) : idxZ p rs = -1 := by
  have h : rs.findIdx? p = none := by
    rw [List.findIdx?_eq_none_iff]
    intro r hr
    obtain ⟨i, hi, rfl⟩ := List.mem_iff_getElem.1 hr
    have h2 := hn i hi
    rw [rec_at hi] at h2
    exact h2
  unfold idxZ
  rw [h]
theorem idxZ_bd (p : List Int → Bool) (rs : List (List Int)) : -1 ≤ idxZ p rs ∧ idxZ p rs < rs.length := by
  unfold idxZ
  cases h : rs.findIdx? p with
  | none => simp only; omega
  | some i =>
    rw [List.findIdx?_eq_some_iff_getElem] at h
    obtain ⟨hi, _⟩ := h
    simp only; omega
theorem idxZ_at {p : List Int → Bool} {rs : List (List Int)} (h : 0 ≤ idxZ p rs) : (idxZ p rs).toNat < rs.length ∧ p (rec rs (idxZ p rs).toNat) = true := by
  unfold idxZ at h ⊢
  cases hf : rs.findIdx? p with
  | none => rw [hf] at h; simp at h
  | some i =>
    rw [List.findIdx?_eq_some_iff_getElem] at hf
    obtain ⟨hi, hp, _⟩ := hf
    refine ⟨by simpa using hi, ?_⟩
    simpa [rec_at hi] using hp
end Go.Proofs.Ytmnddahkbmlibaa
namespace Go.Proofs.Ytmnddahkbmlibaa
open Go.RowKit
theorem hid {p : Prop} (h : p) : Hid p := h
end Go.Proofs.Ytmnddahkbmlibaa
namespace Go.Proofs.Ytmnddahkbmlibaa
open Go.RowKit
def isId (id : Int) (r : List Int) : Bool := fld r 0 == id
def isAt (x y : Int) (r : List Int) : Bool := fld r 3 == x && fld r 4 == y
end Go.Proofs.Ytmnddahkbmlibaa
namespace Go.Proofs.Ytmnddahkbmlibaa
open Go.RowKit
def inZ (n a b : Int) : Bool := decide (a ≤ n ∧ n ≤ b)
def ownerE (u : List Int) : Bool := if fld u 2 = 4 then fld u 1 == 2 else inZ (fld u 1) 0 1
def targetE (u : List Int) : Bool := (fld u 6 == 2 || fld u 6 == 3) == decide (0 < fld u 9)
end Go.Proofs.Ytmnddahkbmlibaa
namespace Go.Proofs.Ytmnddahkbmlibaa
open Go.RowKit
theorem field_rule2 (a b c d f g : Value) (w : World) : (Instr.field 41 (.agg #[a, b, c, d, f, g]) 2).run Try.prog w = .ok c w := by kernel_rfl
theorem field_rule3 (a b c d f g : Value) (w : World) : (Instr.field 41 (.agg #[a, b, c, d, f, g]) 3).run Try.prog w = .ok d w := by kernel_rfl
theorem field_rule4 (a b c d f g : Value) (w : World) : (Instr.field 41 (.agg #[a, b, c, d, f, g]) 4).run Try.prog w = .ok f w := by kernel_rfl
theorem field_rule5 (a b c d f g : Value) (w : World) : (Instr.field 41 (.agg #[a, b, c, d, f, g]) 5).run Try.prog w = .ok g w := by kernel_rfl
end Go.Proofs.Ytmnddahkbmlibaa
namespace Go.Proofs.Ytmnddahkbmlibaa
open Go.RowKit
end Go.Proofs.Ytmnddahkbmlibaa
namespace Go.Proofs.Ytmnddahkbmlibaa
open Go.RowKit
def errV (c : Nat) : Value := if c = 0 then .nilIface else .iface 131 (.int .i64 c)
end Go.Proofs.Ytmnddahkbmlibaa
namespace Go.Proofs.Ytmnddahkbmlibaa
open Go.RowKit
theorem gold_at0 (a b : Value) (w : World) : (Instr.index 56 (.agg #[a, b]) (.int .i64 0)).run Try.prog w = .ok a w := by kernel_rfl
theorem gold_at1 (a b : Value) (w : World) : (Instr.index 56 (.agg #[a, b]) (.int .i64 1)).run Try.prog w = .ok b w := by kernel_rfl
theorem errV_0 : errV 0 = .nilIface := rfl
theorem retE {v : Value} {c d : Nat} (h : c = d) (hv : v = errV c) : Ending.returned v = .returned (errV d) := by rw [hv, h]
end Go.Proofs.Ytmnddahkbmlibaa

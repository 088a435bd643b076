/- Records of whole numbers (units, commands, views) as lists of lists, and how rows of them lie in memory. -/
import Derived.Test.YtakmjfchhchngaaProg
import Derived.WalkKit
import Derived.WalkLawsBesides
import Derived.WalkSpells
import Derived.Handy
import Derived.Below
import Derived.Deep.RegionWith
import Derived.Deep.QuietTactic
import Derived.BigQuiet
import Derived.BigRegion
namespace Go.Proofs.Ytakmjfchhchngaa
open Go.RowKit

/- Field j of a record; the record at a place of a list. -/
def fld (r : List Int) (j : Nat) : Int := r.getD j 0
def rec (rs : List (List Int)) (i : Nat) : List Int := rs.getD i []

/- A slice whose elements are records of k numbers: the cells of each. -/
def Recs (w : World) (a : Option Addr) (k : Nat) (rs : List (List Int)) : Prop :=
  rs = [] ∨ ∃ b o, a = some ⟨b, o, none⟩ ∧ ∀ i, i < rs.length → ∀ j, j < k → w.cell? ⟨b, o + i * k + j, none⟩ = some (.int .i64 (fld (rec rs i) j))
/- A slice of numbers. -/
def Nums (w : World) (a : Option Addr) (zs : List Int) : Prop :=
  zs = [] ∨ ∃ b o, a = some ⟨b, o, none⟩ ∧ ∀ i, i < zs.length → w.cell? ⟨b, o + i, none⟩ = some (.int .i64 (fld zs i))

theorem Recs.at {w : World} {a : Option Addr} {k : Nat} {rs : List (List Int)} (h : Recs w a k rs) {i : Nat} (hi : i < rs.length) :
    ∃ b o, a = some ⟨b, o, none⟩ ∧ ∀ j, j < k → w.cell? ⟨b, o + i * k + j, none⟩ = some (.int .i64 (fld (rec rs i) j)) := by
  rcases h with rfl | ⟨b, o, e, hc⟩
  · simp at hi
  · exact ⟨b, o, e, hc i hi⟩
theorem Nums.at {w : World} {a : Option Addr} {zs : List Int} (h : Nums w a zs) {i : Nat} (hi : i < zs.length) :
    ∃ b o, a = some ⟨b, o, none⟩ ∧ w.cell? ⟨b, o + i, none⟩ = some (.int .i64 (fld zs i)) := by
  rcases h with rfl | ⟨b, o, e, hc⟩
  · simp at hi
  · exact ⟨b, o, e, hc i hi⟩
theorem Recs.drewN {w : World} {a : Option Addr} {k : Nat} {rs : List (List Int)} (h : Recs w a k rs) (n : Nat) : Recs (w.drewN n) a k rs := h
theorem Nums.drewN {w : World} {a : Option Addr} {zs : List Int} (h : Nums w a zs) (n : Nat) : Nums (w.drewN n) a zs := h

/- Where a record with this number in field 0 stands: its place, or -1. -/
def whoZ (id : Int) (rs : List (List Int)) : Int :=
  match rs.findIdx? (fun r => fld r 0 == id) with
  | some i => i
  | none => -1
theorem whoZ_some {id : Int} {rs : List (List Int)} {k : Nat} (hk : k < rs.length) (hn : ∀ i, i < k → fld (rec rs i) 0 ≠ id) (he : fld (rec rs k) 0 = id) : whoZ id rs = k := by
  have h : rs.findIdx? (fun r => fld r 0 == id) = some k := by
    rw [List.findIdx?_eq_some_iff_getElem]
    refine ⟨hk, ?_, fun j hj => ?_⟩
    · have : rec rs k = rs[k] := by simp [rec, List.getD_eq_getElem?_getD, hk]
      rw [this] at he
      simpa using he
    · have hj2 : j < rs.length := by omega
      have : rec rs j = rs[j] := by simp [rec, List.getD_eq_getElem?_getD, hj2]
      have h2 := hn j hj
      rw [this] at h2
      simpa using h2
  unfold whoZ
  rw [h]
theorem whoZ_none {id : Int} {rs : List (List Int)} (hn : ∀ i, i < rs.length → fld (rec rs i) 0 ≠ id) : whoZ id rs = -1 := by
  have h : rs.findIdx? (fun r => fld r 0 == id) = none := by
    rw [List.findIdx?_eq_none_iff]
    intro r hr
    obtain ⟨i, hi, rfl⟩ := List.mem_iff_getElem.1 hr
    have : rec rs i = rs[i] := by simp [rec, List.getD_eq_getElem?_getD, hi]
    have h2 := hn i hi
    rw [this] at h2
    simpa using h2
  unfold whoZ
  rw [h]

/- Does somebody stand there? Fields 3 and 4. -/
def standsB (x y : Int) (rs : List (List Int)) : Bool := rs.any fun r => fld r 3 == x && fld r 4 == y
theorem standsB_true {x y : Int} {rs : List (List Int)} {k : Nat} (hk : k < rs.length) (hx : fld (rec rs k) 3 = x) (hy : fld (rec rs k) 4 = y) : standsB x y rs = true := by
  have : rec rs k = rs[k] := by simp [rec, List.getD_eq_getElem?_getD, hk]
  rw [this] at hx hy
  unfold standsB
  rw [List.any_eq_true]
  exact ⟨rs[k], List.getElem_mem hk, by simp [hx, hy]⟩
theorem standsB_false {x y : Int} {rs : List (List Int)} (h : ∀ i, i < rs.length → ¬ (fld (rec rs i) 3 = x ∧ fld (rec rs i) 4 = y)) : standsB x y rs = false := by
  unfold standsB
  rw [List.any_eq_false]
  intro r hr
  obtain ⟨i, hi, rfl⟩ := List.mem_iff_getElem.1 hr
  have : rec rs i = rs[i] := by simp [rec, List.getD_eq_getElem?_getD, hi]
  have h2 := h i hi
  rw [this] at h2
  simpa using h2
end Go.Proofs.Ytakmjfchhchngaa

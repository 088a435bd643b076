/- What comes in as data: rows of records, of numbers, and a state. -/
import Derived.ProofKit
import Derived.OpenShut
import Derived.Deep.Slices
import Derived.Carry
import Derived.Deep.DeepCutAuto
import Derived.Test.YtmnddahkbmlibaaTnRecA
import Derived.Test.YtmnddahkbmlibaaTnRefBA
import Derived.Test.YtmnddahkbmlibaaTnRefEA
import Derived.Test.YtmnddahkbmlibaaTnGiA
import Derived.Test.YtmnddahkbmlibaaTnOkA
import Derived.Test.YtmnddahkbmlibaaTnRefMA
import Derived.Test.YtmnddahkbmlibaaTnRefN
import Derived.Test.YtmnddahkbmlibaaTnSw
namespace Go.Proofs.Ytmnddahkbmlibaa
open Go.ChangeShapes Go.WideShapes Go.ChangeAt Go.RowKit Go.Deep
section
variable {H : Type} {enc : TypeId × Value → H} {w : World} {base : Nat} {spare : Nat → Bool} {held : Bool}
theorem cells_at {a : Addr} {n : Nat} {cs : List Value} (h : w.cells? base a n = some cs) : cs.length = n ∧ ∀ j, j < n → w.cell? (a.add j) = cs[j]? := by
  unfold World.cells? at h
  split at h
  · have hl := mapM_some_length h
    rw [List.length_range] at hl
    exact ⟨hl, fun j hj => mapM_some_get h j j (by simp [hj])⟩
  · cases h
theorem int_cells : Try.prog.cellsOf 3 = 1 := by kernel_rfl
theorem ints_struct {t : TypeId} {fs : Array Field} {k : Nat} (ht : Try.prog.underlying t = some (.struct fs)) (hfs : fs.toList.map (fun f => (f.type, f.offset)) = (List.range k).map (fun i => (3, i))) {n : Nat} {cs : List Value} {x : DataW H × List MemPlace}
    (h : DataW.trod enc Try.prog w base spare held n t cs = some x) : ∀ i, i < k → ∃ z, cs[i]? = some (.int .i64 z) ∧ (Lit.int .i64 z).wf = true := by
  intro i hi
  obtain ⟨xs, m, _, _, _, hlen, hf⟩ := DataW.trod_struct ht h
  have hg : (fs.toList.map (fun f => (f.type, f.offset)))[i]? = some (3, i) := by
    rw [hfs]
    simp [hi]
  rw [List.getElem?_map] at hg
  cases hfi : fs.toList[i]? with
  | none => rw [hfi] at hg; cases hg
  | some f =>
    rw [hfi] at hg
    simp only [Option.map_some, Option.some.injEq, Prod.mk.injEq] at hg
    have h1 := hf i f (by rw [← Array.getElem?_toList]; exact hfi)
    rw [hg.1, hg.2, int_cells] at h1
    have hxi : i < xs.length := by
      rw [hlen, ← Array.length_toList]
      exact (List.getElem?_eq_some_iff.1 hfi).1
    rw [List.getElem?_eq_getElem hxi] at h1
    obtain ⟨z, hz, _, hw⟩ := DataW.trod_int Try.underlying3 h1
    refine ⟨z, ?_, hw⟩
    have h0 : ((cs.drop i).take 1)[0]? = some (.int .i64 z) := by rw [hz]; rfl
    rw [List.getElem?_take, if_pos (by omega), List.getElem?_drop, Nat.add_zero] at h0
    exact h0
def numAt (w : World) (b o : Nat) : Int := match w.cell? ⟨b, o, none⟩ with | some (.int _ z) => z | _ => 0
def recsAt (w : World) (b o k n : Nat) : List (List Int) := (List.range n).map fun i => (List.range k).map fun j => numAt w b (o + i * k + j)
theorem recsAt_length (w : World) (b o k n : Nat) : (recsAt w b o k n).length = n := by simp [recsAt]
theorem recsAt_fld {w : World} {b o k n i j : Nat} (hi : i < n) (hj : j < k) : fld (rec (recsAt w b o k n) i) j = numAt w b (o + i * k + j) := by
  simp [fld, rec, recsAt, List.getD_eq_getElem?_getD, hi, hj]
theorem numAt_eq {w : World} {b o : Nat} {k : IntKind} {z : Int} (h : w.cell? ⟨b, o, none⟩ = some (.int k z)) : numAt w b o = z := by unfold numAt; rw [h]
theorem open_recs {t e : TypeId} {fs : Array Field} {k : Nat} (hk : 0 < k) (ht : Try.prog.underlying t = some (.slice e)) (he : Try.prog.underlying e = some (.struct fs)) (ce : Try.prog.cellsOf e = k) (hfs : fs.toList.map (fun f => (f.type, f.offset)) = (List.range k).map (fun i => (3, i)))
    {fuel : Nat} {v : Value} {x : DataW H × List MemPlace} (h : DataW.trod enc Try.prog w base spare held fuel t [v] = some x) :
    ∃ (a : Option Addr) (c : Nat) (rs : List (List Int)), v = .slice a rs.length c ∧ Recs w a k rs ∧ (a = none → c = 0) ∧ rs.length ≤ c ∧ ∀ i, i < rs.length → ∀ j, j < k → (Lit.int .i64 (fld (rec rs i) j)).wf = true := by
  rcases open_slice ht h with ⟨hc, _⟩ | ⟨a, len, cap, m, n, D, Pl, hc, _, hl, _, hm, _, hx⟩
  · simp only [List.cons.injEq, and_true] at hc
    exact ⟨none, 0, [], hc, Or.inl rfl, fun _ => rfl, Nat.le_refl _, fun i hi => absurd hi (Nat.not_lt_zero _)⟩
  · simp only [List.cons.injEq, and_true] at hc
    have hlm : len ≤ m := by rw [hm]; split <;> omega
    have hcell : ∀ i, i < len → ∀ j, j < k → ∃ z, w.cell? (a.add (i * k + j)) = some (.int .i64 z) ∧ (Lit.int .i64 z).wf = true := by
      intro i hi j hj
      obtain ⟨cs', h1, h2⟩ := hx i (by omega)
      rw [ce] at h1
      obtain ⟨z, hz, hw⟩ := ints_struct he hfs h2 j hj
      refine ⟨z, ?_, hw⟩
      have := (cells_at h1).2 j hj
      rw [hz] at this
      rw [← this, Addr.add_add]
    by_cases h0 : len = 0
    · subst h0
      exact ⟨some a, cap, [], hc, Or.inl rfl, (fun x => by cases x), Nat.zero_le _, fun i hi => absurd hi (Nat.not_lt_zero _)⟩
    · obtain ⟨b, off, spot⟩ := a
      obtain ⟨z0, hz0, _⟩ := hcell 0 (by omega) 0 hk
      have hspot : spot = none := by simpa [Addr.add] using World.cell?_spot hz0
      subst hspot
      have hcell2 : ∀ i, i < len → ∀ j, j < k → ∃ z, w.cell? ⟨b, off + i * k + j, none⟩ = some (.int .i64 z) ∧ (Lit.int .i64 z).wf = true := by
        intro i hi j hj
        obtain ⟨z, hz, hw⟩ := hcell i hi j hj
        rw [add_plain, ← Nat.add_assoc] at hz
        exact ⟨z, hz, hw⟩
      refine ⟨some ⟨b, off, none⟩, cap, recsAt w b off k len, ?_, Or.inr ⟨b, off, rfl, ?_⟩, (fun x => by cases x), ?_, ?_⟩
      · rw [recsAt_length]
        exact hc
      · intro i hi j hj
        rw [recsAt_length] at hi
        obtain ⟨z, hz, _⟩ := hcell2 i hi j hj
        rw [hz, recsAt_fld hi hj, numAt_eq hz]
      · rw [recsAt_length]
        exact hl
      · intro i hi j hj
        rw [recsAt_length] at hi
        obtain ⟨z, hz, hw⟩ := hcell2 i hi j hj
        rw [recsAt_fld hi hj, numAt_eq hz]
        exact hw
theorem gold_cellsOf : Try.prog.cellsOf 56 = 2 := by kernel_rfl
end
end Go.Proofs.Ytmnddahkbmlibaa
namespace Go.Proofs.Ytmnddahkbmlibaa
open Go.ChangeShapes Go.WideShapes Go.ChangeAt Go.RowKit Go.Deep
section
variable {H : Type} {enc : TypeId × Value → H} {w : World} {base : Nat} {spare : Nat → Bool} {held : Bool}
end
end Go.Proofs.Ytmnddahkbmlibaa

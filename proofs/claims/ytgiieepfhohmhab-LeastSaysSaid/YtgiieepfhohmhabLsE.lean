/- What comes in as data: a slice of marks, a slice of yes and no. -/
import Derived.Test.YtgiieepfhohmhabLsD
import Derived.ProofKit
import Derived.OpenShut
import Derived.Deep.Slices
import Derived.Carry
namespace Go.Proofs.Ytgiieepfhohmhab
open Go.ChangeShapes Go.WideShapes Go.ChangeAt Go.RowKit Go.Deep

section
variable {H : Type} {enc : TypeId × Value → H} {w : World} {base : Nat} {spare : Nat → Bool} {held : Bool}

theorem cellsL_at {a : Addr} {n : Nat} {cs : List Value} (h : w.cells? base a n = some cs) : cs.length = n ∧ ∀ j, j < n → w.cell? (a.add j) = cs[j]? := by
  unfold World.cells? at h
  split at h
  · have hl := mapM_some_length h
    rw [List.length_range] at hl
    exact ⟨hl, fun j hj => mapM_some_get h j j (by simp [hj])⟩
  · cases h
theorem u64_cells : Try.prog.cellsOf 30 = 1 := by kernel_rfl
theorem bool_cells : Try.prog.cellsOf 4 = 1 := by kernel_rfl
def markAt (w : World) (b o : Nat) : Int := match w.cell? ⟨b, o, none⟩ with | some (.int _ z) => z | _ => 0
theorem markAt_eq {w : World} {b o : Nat} {k : IntKind} {z : Int} (h : w.cell? ⟨b, o, none⟩ = some (.int k z)) : markAt w b o = z := by unfold markAt; rw [h]
def boolAt (w : World) (b o : Nat) : Bool := match w.cell? ⟨b, o, none⟩ with | some (.bool z) => z | _ => false
theorem boolAt_eq {w : World} {b o : Nat} {z : Bool} (h : w.cell? ⟨b, o, none⟩ = some (.bool z)) : boolAt w b o = z := by unfold boolAt; rw [h]

theorem open_marks {fuel : Nat} {v : Value} {x : DataW H × List MemPlace} (h : DataW.trod enc Try.prog w base spare held fuel 23 [v] = some x) :
    ∃ (a : Option Addr) (c : Nat) (zs : List Int), v = .slice a zs.length c ∧ Marks w a zs := by
  rcases open_slice Try.underlying23 h with ⟨hc, _⟩ | ⟨a, len, cap, m, n, D, Pl, hc, _, hl, _, hm, _, hx⟩
  · simp only [List.cons.injEq, and_true] at hc
    exact ⟨none, 0, [], hc, Or.inl rfl⟩
  · simp only [List.cons.injEq, and_true] at hc
    have hlm : len ≤ m := by rw [hm]; split <;> omega
    have hcell : ∀ i, i < len → ∃ z, w.cell? (a.add i) = some (.int .u64 z) := by
      intro i hi
      obtain ⟨cs', h1, h2⟩ := hx i (by omega)
      rw [u64_cells, Nat.mul_one] at h1
      obtain ⟨z, hz, _, hw⟩ := DataW.trod_int Try.underlying30 h2
      refine ⟨z, ?_⟩
      have := (cellsL_at h1).2 0 (by omega)
      rw [hz] at this
      rw [Addr.add_add, Nat.add_zero] at this
      exact this
    by_cases h0 : len = 0
    · subst h0
      exact ⟨some a, cap, [], hc, Or.inl rfl⟩
    · obtain ⟨b, off, spot⟩ := a
      obtain ⟨z0, hz0⟩ := hcell 0 (by omega)
      have hspot : spot = none := by simpa [Addr.add] using World.cell?_spot hz0
      subst hspot
      refine ⟨some ⟨b, off, none⟩, cap, (List.range len).map fun i => markAt w b (off + i), ?_, Or.inr ⟨b, off, rfl, ?_⟩⟩
      · simp only [List.length_map, List.length_range]
        exact hc
      · intro i hi
        simp only [List.length_map, List.length_range] at hi
        obtain ⟨z, hz⟩ := hcell i hi
        rw [add_plain] at hz
        have hfl : zAt ((List.range len).map fun i => markAt w b (off + i)) i = markAt w b (off + i) := by simp [zAt, List.getD_eq_getElem?_getD, hi]
        rw [hz, hfl, markAt_eq hz]

theorem open_bools {fuel : Nat} {v : Value} {x : DataW H × List MemPlace} (h : DataW.trod enc Try.prog w base spare held fuel 22 [v] = some x) :
    ∃ (a : Option Addr) (c : Nat) (zs : List Bool), v = .slice a zs.length c ∧ Bools w a zs := by
  rcases open_slice Try.underlying22 h with ⟨hc, _⟩ | ⟨a, len, cap, m, n, D, Pl, hc, _, hl, _, hm, _, hx⟩
  · simp only [List.cons.injEq, and_true] at hc
    exact ⟨none, 0, [], hc, Or.inl rfl⟩
  · simp only [List.cons.injEq, and_true] at hc
    have hlm : len ≤ m := by rw [hm]; split <;> omega
    have hcell : ∀ i, i < len → ∃ z, w.cell? (a.add i) = some (.bool z) := by
      intro i hi
      obtain ⟨cs', h1, h2⟩ := hx i (by omega)
      rw [bool_cells, Nat.mul_one] at h1
      obtain ⟨z, hz, _⟩ := DataW.trod_bool Try.underlying4 h2
      refine ⟨z, ?_⟩
      have := (cellsL_at h1).2 0 (by omega)
      rw [hz] at this
      rw [Addr.add_add, Nat.add_zero] at this
      exact this
    by_cases h0 : len = 0
    · subst h0
      exact ⟨some a, cap, [], hc, Or.inl rfl⟩
    · obtain ⟨b, off, spot⟩ := a
      obtain ⟨z0, hz0⟩ := hcell 0 (by omega)
      have hspot : spot = none := by simpa [Addr.add] using World.cell?_spot hz0
      subst hspot
      refine ⟨some ⟨b, off, none⟩, cap, (List.range len).map fun i => boolAt w b (off + i), ?_, Or.inr ⟨b, off, rfl, ?_⟩⟩
      · simp only [List.length_map, List.length_range]
        exact hc
      · intro i hi
        simp only [List.length_map, List.length_range] at hi
        obtain ⟨z, hz⟩ := hcell i hi
        rw [add_plain] at hz
        have hfl : bAt ((List.range len).map fun i => boolAt w b (off + i)) i = boolAt w b (off + i) := by simp [bAt, List.getD_eq_getElem?_getD, hi]
        rw [hz, hfl, boolAt_eq hz]
end

theorem leastAll_calls (l : List Bool) (xs ys : List Int) (la xa ya : Option Addr) (lc xc yc : Nat) (w : World) (hL : Bools w la l) (hX : Marks w xa xs) (hY : Marks w ya ys) :
    Calls Try.prog 3 #[.slice la l.length lc, .slice xa xs.length xc, .slice ya ys.length yc] w fun e w' => e = .returned (.bool true) ∧ Below w.heap.size w w' := by
  by_cases h : 300 < l.length ∨ 100 < xs.length ∨ 100 < ys.length
  · exact least_long l xs ys la xa ya lc xc yc w h
  · exact least_calls l xs ys la xa ya lc xc yc w (by omega) (by omega) (by omega) hL hX hY
end Go.Proofs.Ytgiieepfhohmhab

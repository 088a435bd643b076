/- What comes in as data: a state of the newer game; a list of lists of orders; a reel. -/
import Derived.Test.YtgiieepfhohmhaaVInN
import Derived.Test.YtgiieepfhohmhaaVRdA
import Derived.Test.YtgiieepfhohmhaaVVwO
namespace Go.Proofs.Ytgiieepfhohmhaa
open Go.ChangeShapes Go.WideShapes Go.ChangeAt Go.RowKit Go.Deep
section
variable {H : Type} {enc : TypeId × Value → H} {w : World} {base : Nat} {spare : Nat → Bool} {held : Bool}
theorem newer_cellsOf : Try.prog.cellsOf 90 = 5 := by kernel_rfl
theorem units_cellsOf : Try.prog.cellsOf 88 = 1 := by kernel_rfl
theorem unit_cellsOf : Try.prog.cellsOf 110 = 11 := by kernel_rfl
theorem five_of {l : List Value} (h : l.length = 5) : ∃ c0 c1 c2 c3 c4, l = [c0, c1, c2, c3, c4] := by
  match l, h with
  | [c0, c1, c2, c3, c4], _ => exact ⟨c0, c1, c2, c3, c4, rfl⟩
set_option maxRecDepth 100000 in
theorem open_newer {fuel : Nat} {cs : Array Value} {x : DataW H × List MemPlace} (h : DataW.trod enc Try.prog w base spare held fuel 90 cs.toList = some x) :
    ∃ (s : St) (ua : Option Addr) (uc : Nat), cs = newerC s.t s.g0 s.g1 s.nx (.slice ua s.es.length uc) ∧ InW w s ua uc := by
  obtain ⟨xs, m, _, _, hl, hlen, hf⟩ := DataW.trod_struct Try.underlying90 h
  rw [newer_cellsOf] at hl
  obtain ⟨l⟩ := cs
  simp only at hl hf
  obtain ⟨c0, c1, c2, c3, c4, rfl⟩ := five_of hl
  have hget : ∀ i, i < 4 → ∃ y, xs[i]? = some y := fun i hi => ⟨xs[i]'(by rw [hlen]; exact hi), List.getElem?_eq_getElem _⟩
  obtain ⟨y0, e0⟩ := hget 0 (by omega)
  obtain ⟨y1, e1⟩ := hget 1 (by omega)
  obtain ⟨y2, e2⟩ := hget 2 (by omega)
  obtain ⟨y3, e3⟩ := hget 3 (by omega)
  have h0 : DataW.trod enc Try.prog w base spare held m 3 (List.take (Try.prog.cellsOf 3) [c0, c1, c2, c3, c4]) = some y0 := (hf 0 _ rfl).trans e0
  have h1 : DataW.trod enc Try.prog w base spare held m 56 (List.take (Try.prog.cellsOf 56) [c1, c2, c3, c4]) = some y1 := (hf 1 _ rfl).trans e1
  have h2 : DataW.trod enc Try.prog w base spare held m 3 (List.take (Try.prog.cellsOf 3) [c3, c4]) = some y2 := (hf 2 _ rfl).trans e2
  have h4 : DataW.trod enc Try.prog w base spare held m 88 (List.take (Try.prog.cellsOf 88) [c4]) = some y3 := (hf 3 _ rfl).trans e3
  rw [int_cells] at h0 h2
  rw [gold_cellsOf] at h1
  rw [units_cellsOf] at h4
  obtain ⟨t, ht, _, _⟩ := DataW.trod_int Try.underlying3 h0
  obtain ⟨nx, hn, _, _⟩ := DataW.trod_int Try.underlying3 h2
  obtain ⟨xs2, m2, _, _, _, hl2, hg⟩ := DataW.trod_array Try.underlying56 h1
  have hg0 : DataW.trod enc Try.prog w base spare held m2 3 (List.take (Try.prog.cellsOf 3) [c1, c2]) = some (xs2[0]'(by omega)) := (hg 0 (by omega)).trans (List.getElem?_eq_getElem _)
  have hg1 : DataW.trod enc Try.prog w base spare held m2 3 (List.take (Try.prog.cellsOf 3) (List.drop (1 * Try.prog.cellsOf 3) [c1, c2])) = some (xs2[1]'(by omega)) := (hg 1 (by omega)).trans (List.getElem?_eq_getElem _)
  rw [int_cells] at hg0 hg1
  obtain ⟨g0, hgo0, _, _⟩ := DataW.trod_int Try.underlying3 hg0
  obtain ⟨g1, hgo1, _, _⟩ := DataW.trod_int Try.underlying3 hg1
  have h4' : DataW.trod enc Try.prog w base spare held m 88 [c4] = some y3 := h4
  obtain ⟨ea, ec, es, rfl, hrecs, hen, hcap, _⟩ := open_recs (k := 11) (by omega) Try.underlying88 Try.underlying110 unit_cellsOf (by kernel_rfl) h4'
  simp only [List.take_succ_cons, List.take_zero, List.cons.injEq, and_true, Nat.one_mul, List.drop_succ_cons, List.drop_zero] at ht hn hgo0 hgo1
  subst ht hn hgo0 hgo1
  exact ⟨⟨t, g0, g1, nx, [], es, []⟩, ea, ec, rfl, hen, hcap, hrecs, rfl, rfl⟩
end
end Go.Proofs.Ytgiieepfhohmhaa
namespace Go.Proofs.Ytgiieepfhohmhaa
open Go.ChangeShapes Go.WideShapes Go.ChangeAt Go.RowKit Go.Deep
section
variable {H : Type} {enc : TypeId × Value → H} {w : World} {base : Nat} {spare : Nat → Bool} {held : Bool}
theorem view_cellsOf : Try.prog.cellsOf 115 = 4 := by kernel_rfl
theorem seens_cellsOf : Try.prog.cellsOf 113 = 1 := by kernel_rfl
theorem seen_cellsOf : Try.prog.cellsOf 171 = 10 := by kernel_rfl
theorem four_of {l : List Value} (h : l.length = 4) : ∃ c0 c1 c2 c3, l = [c0, c1, c2, c3] := by
  match l, h with
  | [c0, c1, c2, c3], _ => exact ⟨c0, c1, c2, c3, rfl⟩
set_option maxRecDepth 100000 in
theorem open_view {fuel : Nat} {cs : Array Value} {x : DataW H × List MemPlace} (h : DataW.trod enc Try.prog w base spare held fuel 115 cs.toList = some x) :
    ∃ (v : Vw) (a : Option Addr) (c : Nat), cs = viewC v.t v.g0 v.g1 (.slice a v.ss.length c) ∧ Recs w a 10 v.ss := by
  obtain ⟨xs, m, _, _, hl, hlen, hf⟩ := DataW.trod_struct Try.underlying115 h
  rw [view_cellsOf] at hl
  obtain ⟨l⟩ := cs
  simp only at hl hf
  obtain ⟨c0, c1, c2, c3, rfl⟩ := four_of hl
  have hget : ∀ i, i < 3 → ∃ y, xs[i]? = some y := fun i hi => ⟨xs[i]'(by rw [hlen]; exact hi), List.getElem?_eq_getElem _⟩
  obtain ⟨y0, e0⟩ := hget 0 (by omega)
  obtain ⟨y1, e1⟩ := hget 1 (by omega)
  obtain ⟨y2, e2⟩ := hget 2 (by omega)
  have h0 : DataW.trod enc Try.prog w base spare held m 3 (List.take (Try.prog.cellsOf 3) [c0, c1, c2, c3]) = some y0 := (hf 0 _ rfl).trans e0
  have h1 : DataW.trod enc Try.prog w base spare held m 56 (List.take (Try.prog.cellsOf 56) [c1, c2, c3]) = some y1 := (hf 1 _ rfl).trans e1
  have h2 : DataW.trod enc Try.prog w base spare held m 113 (List.take (Try.prog.cellsOf 113) [c3]) = some y2 := (hf 2 _ rfl).trans e2
  rw [int_cells] at h0
  rw [gold_cellsOf] at h1
  rw [seens_cellsOf] at h2
  obtain ⟨t, ht, _, _⟩ := DataW.trod_int Try.underlying3 h0
  obtain ⟨xs2, m2, _, _, _, hl2, hg⟩ := DataW.trod_array Try.underlying56 h1
  have hg0 : DataW.trod enc Try.prog w base spare held m2 3 (List.take (Try.prog.cellsOf 3) [c1, c2]) = some (xs2[0]'(by omega)) := (hg 0 (by omega)).trans (List.getElem?_eq_getElem _)
  have hg1 : DataW.trod enc Try.prog w base spare held m2 3 (List.take (Try.prog.cellsOf 3) (List.drop (1 * Try.prog.cellsOf 3) [c1, c2])) = some (xs2[1]'(by omega)) := (hg 1 (by omega)).trans (List.getElem?_eq_getElem _)
  rw [int_cells] at hg0 hg1
  obtain ⟨g0, hgo0, _, _⟩ := DataW.trod_int Try.underlying3 hg0
  obtain ⟨g1, hgo1, _, _⟩ := DataW.trod_int Try.underlying3 hg1
  have h2' : DataW.trod enc Try.prog w base spare held m 113 [c3] = some y2 := h2
  obtain ⟨ea, ec, es, rfl, hrecs, _, _, _⟩ := open_recs (k := 10) (by omega) Try.underlying113 Try.underlying171 seen_cellsOf (by kernel_rfl) h2'
  simp only [List.take_succ_cons, List.take_zero, List.cons.injEq, and_true, Nat.one_mul, List.drop_succ_cons, List.drop_zero] at ht hgo0 hgo1
  subst ht hgo0 hgo1
  exact ⟨⟨t, g0, g1, es⟩, ea, ec, rfl, hrecs⟩
end
end Go.Proofs.Ytgiieepfhohmhaa

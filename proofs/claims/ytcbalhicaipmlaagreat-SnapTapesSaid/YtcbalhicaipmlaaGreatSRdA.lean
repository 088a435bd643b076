/- What comes in as data: rows of records, of numbers, and a state. -/
import Derived.ProofKit
import Derived.OpenShut
import Derived.Deep.Slices
import Derived.Carry
import Derived.Test.YtcbalhicaipmlaaGreatSRulA
import Derived.Test.YtcbalhicaipmlaaGreatSNwK
import Derived.Test.YtcbalhicaipmlaaGreatSRefQ
namespace Go.Proofs.YtcbalhicaipmlaaGreat
open Go.ChangeShapes Go.WideShapes Go.ChangeAt Go.RowKit Go.Deep
section
variable {H : Type} {enc : TypeId × Value → H} {w : World} {base : Nat} {spare : Nat → Bool} {held : Bool}
theorem cells_at {a : Addr} {n : Nat} {cs : List Value} (h : w.cells? base a n = some cs) : cs.length = n ∧ ∀ j, j < n → w.cell? (a.add j) = cs[j]? := by
  unfold World.cells? at h
  split at h
  · have hl := mapM_some_length h
    rw [List.length_range] at hl
    exact ⟨hl, fun j hj => mapM_some_get h j j (by simp [hj])⟩
  · cases h
theorem int_cells : Tryz.prog.cellsOf 3 = 1 := by kernel_rfl
theorem ints_struct {t : TypeId} {fs : Array Field} {k : Nat} (ht : Tryz.prog.underlying t = some (.struct fs)) (hfs : fs.toList.map (fun f => (f.type, f.offset)) = (List.range k).map (fun i => (3, i))) {n : Nat} {cs : List Value} {x : DataW H × List MemPlace}
    (h : DataW.trod enc Tryz.prog w base spare held n t cs = some x) : ∀ i, i < k → ∃ z, cs[i]? = some (.int .i64 z) ∧ (Lit.int .i64 z).wf = true := by
  intro i hi
  obtain ⟨xs, m, _, _, _, hlen, hf⟩ := DataW.trod_struct ht h
  have hg : (fs.toList.map (fun f => (f.type, f.offset)))[i]? = some (3, i) := by
    rw [hfs]
    simp [hi]
  rw [List.getElem?_map] at hg
  cases hfi : fs.toList[i]? with
  | none => rw [hfi] at hg; cases hg
  | some f =>
    rw [hfi] at hg
    simp only [Option.map_some, Option.some.injEq, Prod.mk.injEq] at hg
    have h1 := hf i f (by rw [← Array.getElem?_toList]; exact hfi)
    rw [hg.1, hg.2, int_cells] at h1
    have hxi : i < xs.length := by
      rw [hlen, ← Array.length_toList]
      exact (List.getElem?_eq_some_iff.1 hfi).1
    rw [List.getElem?_eq_getElem hxi] at h1
    obtain ⟨z, hz, _, hw⟩ := DataW.trod_int Tryz.underlying3 h1
    refine ⟨z, ?_, hw⟩
    have h0 : ((cs.drop i).take 1)[0]? = some (.int .i64 z) := by rw [hz]; rfl
    rw [List.getElem?_take, if_pos (by omega), List.getElem?_drop, Nat.add_zero] at h0
    exact h0
def numAt (w : World) (b o : Nat) : Int := match w.cell? ⟨b, o, none⟩ with | some (.int _ z) => z | _ => 0
def recsAt (w : World) (b o k n : Nat) : List (List Int) := (List.range n).map fun i => (List.range k).map fun j => numAt w b (o + i * k + j)
theorem recsAt_length (w : World) (b o k n : Nat) : (recsAt w b o k n).length = n := by simp [recsAt]
theorem recsAt_fld {w : World} {b o k n i j : Nat} (hi : i < n) (hj : j < k) : fld (rec (recsAt w b o k n) i) j = numAt w b (o + i * k + j) := by
  simp [fld, rec, recsAt, List.getD_eq_getElem?_getD, hi, hj]
theorem numAt_eq {w : World} {b o : Nat} {k : IntKind} {z : Int} (h : w.cell? ⟨b, o, none⟩ = some (.int k z)) : numAt w b o = z := by unfold numAt; rw [h]
theorem open_recs {t e : TypeId} {fs : Array Field} {k : Nat} (hk : 0 < k) (ht : Tryz.prog.underlying t = some (.slice e)) (he : Tryz.prog.underlying e = some (.struct fs)) (ce : Tryz.prog.cellsOf e = k) (hfs : fs.toList.map (fun f => (f.type, f.offset)) = (List.range k).map (fun i => (3, i)))
    {fuel : Nat} {v : Value} {x : DataW H × List MemPlace} (h : DataW.trod enc Tryz.prog w base spare held fuel t [v] = some x) :
    ∃ (a : Option Addr) (c : Nat) (rs : List (List Int)), v = .slice a rs.length c ∧ Recs w a k rs ∧ (a = none → c = 0) ∧ rs.length ≤ c ∧ ∀ i, i < rs.length → ∀ j, j < k → (Lit.int .i64 (fld (rec rs i) j)).wf = true := by
  rcases open_slice ht h with ⟨hc, _⟩ | ⟨a, len, cap, m, n, D, Pl, hc, _, hl, _, hm, _, hx⟩
  · simp only [List.cons.injEq, and_true] at hc
    exact ⟨none, 0, [], hc, Or.inl rfl, fun _ => rfl, Nat.le_refl _, fun i hi => absurd hi (Nat.not_lt_zero _)⟩
  · simp only [List.cons.injEq, and_true] at hc
    have hlm : len ≤ m := by rw [hm]; split <;> omega
    have hcell : ∀ i, i < len → ∀ j, j < k → ∃ z, w.cell? (a.add (i * k + j)) = some (.int .i64 z) ∧ (Lit.int .i64 z).wf = true := by
      intro i hi j hj
      obtain ⟨cs', h1, h2⟩ := hx i (by omega)
      rw [ce] at h1
      obtain ⟨z, hz, hw⟩ := ints_struct he hfs h2 j hj
      refine ⟨z, ?_, hw⟩
      have := (cells_at h1).2 j hj
      rw [hz] at this
      rw [← this, Addr.add_add]
    by_cases h0 : len = 0
    · subst h0
      exact ⟨some a, cap, [], hc, Or.inl rfl, (fun x => by cases x), Nat.zero_le _, fun i hi => absurd hi (Nat.not_lt_zero _)⟩
    · obtain ⟨b, off, spot⟩ := a
      obtain ⟨z0, hz0, _⟩ := hcell 0 (by omega) 0 hk
      have hspot : spot = none := by simpa [Addr.add] using World.cell?_spot hz0
      subst hspot
      have hcell2 : ∀ i, i < len → ∀ j, j < k → ∃ z, w.cell? ⟨b, off + i * k + j, none⟩ = some (.int .i64 z) ∧ (Lit.int .i64 z).wf = true := by
        intro i hi j hj
        obtain ⟨z, hz, hw⟩ := hcell i hi j hj
        rw [add_plain, ← Nat.add_assoc] at hz
        exact ⟨z, hz, hw⟩
      refine ⟨some ⟨b, off, none⟩, cap, recsAt w b off k len, ?_, Or.inr ⟨b, off, rfl, ?_⟩, (fun x => by cases x), ?_, ?_⟩
      · rw [recsAt_length]
        exact hc
      · intro i hi j hj
        rw [recsAt_length] at hi
        obtain ⟨z, hz, _⟩ := hcell2 i hi j hj
        rw [hz, recsAt_fld hi hj, numAt_eq hz]
      · rw [recsAt_length]
        exact hl
      · intro i hi j hj
        rw [recsAt_length] at hi
        obtain ⟨z, hz, hw⟩ := hcell2 i hi j hj
        rw [recsAt_fld hi hj, numAt_eq hz]
        exact hw
theorem open_nums {fuel : Nat} {v : Value} {x : DataW H × List MemPlace} (h : DataW.trod enc Tryz.prog w base spare held fuel 23 [v] = some x) :
    ∃ (a : Option Addr) (c : Nat) (zs : List Int), v = .slice a zs.length c ∧ Nums w a zs ∧ (a = none → c = 0) ∧ zs.length ≤ c ∧ ∀ i, i < zs.length → (Lit.int .i64 (fld zs i)).wf = true := by
  rcases open_slice Tryz.underlying23 h with ⟨hc, _⟩ | ⟨a, len, cap, m, n, D, Pl, hc, _, hl, _, hm, _, hx⟩
  · simp only [List.cons.injEq, and_true] at hc
    exact ⟨none, 0, [], hc, Or.inl rfl, fun _ => rfl, Nat.le_refl _, fun i hi => absurd hi (Nat.not_lt_zero _)⟩
  · simp only [List.cons.injEq, and_true] at hc
    have hlm : len ≤ m := by rw [hm]; split <;> omega
    have hcell : ∀ i, i < len → ∃ z, w.cell? (a.add i) = some (.int .i64 z) ∧ (Lit.int .i64 z).wf = true := by
      intro i hi
      obtain ⟨cs', h1, h2⟩ := hx i (by omega)
      rw [int_cells, Nat.mul_one] at h1
      obtain ⟨z, hz, _, hw⟩ := DataW.trod_int Tryz.underlying3 h2
      refine ⟨z, ?_, hw⟩
      have := (cells_at h1).2 0 (by omega)
      rw [hz] at this
      rw [Addr.add_add, Nat.add_zero] at this
      exact this
    by_cases h0 : len = 0
    · subst h0
      exact ⟨some a, cap, [], hc, Or.inl rfl, (fun x => by cases x), Nat.zero_le _, fun i hi => absurd hi (Nat.not_lt_zero _)⟩
    · obtain ⟨b, off, spot⟩ := a
      obtain ⟨z0, hz0, _⟩ := hcell 0 (by omega)
      have hspot : spot = none := by simpa [Addr.add] using World.cell?_spot hz0
      subst hspot
      have hcell2 : ∀ i, i < len → ∃ z, w.cell? ⟨b, off + i, none⟩ = some (.int .i64 z) ∧ (Lit.int .i64 z).wf = true := by
        intro i hi
        obtain ⟨z, hz, hw⟩ := hcell i hi
        rw [add_plain] at hz
        exact ⟨z, hz, hw⟩
      have hfl : ∀ i, i < len → fld ((List.range len).map fun i => numAt w b (off + i)) i = numAt w b (off + i) := fun i hi => by simp [fld, List.getD_eq_getElem?_getD, hi]
      refine ⟨some ⟨b, off, none⟩, cap, (List.range len).map fun i => numAt w b (off + i), ?_, Or.inr ⟨b, off, rfl, ?_⟩, (fun x => by cases x), ?_, ?_⟩
      · simp only [List.length_map, List.length_range]
        exact hc
      · intro i hi
        simp only [List.length_map, List.length_range] at hi
        obtain ⟨z, hz, _⟩ := hcell2 i hi
        rw [hz, hfl i hi, numAt_eq hz]
      · simp only [List.length_map, List.length_range]
        exact hl
      · intro i hi
        simp only [List.length_map, List.length_range] at hi
        obtain ⟨z, hz, hw⟩ := hcell2 i hi
        rw [hfl i hi, numAt_eq hz]
        exact hw
theorem elder_cellsOf : Tryz.prog.cellsOf 26 = 6 := by kernel_rfl
theorem gold_cellsOf : Tryz.prog.cellsOf 22 = 2 := by kernel_rfl
theorem free_cellsOf : Tryz.prog.cellsOf 23 = 1 := by kernel_rfl
theorem ents_cellsOf : Tryz.prog.cellsOf 24 = 1 := by kernel_rfl
theorem cmds_cellsOf : Tryz.prog.cellsOf 76 = 1 := by kernel_rfl
theorem ent_cellsOf : Tryz.prog.cellsOf 119 = 10 := by kernel_rfl
theorem cmd_cellsOf : Tryz.prog.cellsOf 85 = 7 := by kernel_rfl
theorem six_of {l : List Value} (h : l.length = 6) : ∃ c0 c1 c2 c3 c4 c5, l = [c0, c1, c2, c3, c4, c5] := by
  match l, h with
  | [c0, c1, c2, c3, c4, c5], _ => exact ⟨c0, c1, c2, c3, c4, c5, rfl⟩
set_option maxRecDepth 100000 in
theorem open_elder {fuel : Nat} {cs : Array Value} {x : DataW H × List MemPlace} (h : DataW.trod enc Tryz.prog w base spare held fuel 26 cs.toList = some x) :
    ∃ (s : St) (fa ea : Option Addr) (fc ec : Nat), cs = #[.int .i64 s.t, .int .i64 s.g0, .int .i64 s.g1, .int .i64 s.nx, .slice fa s.free.length fc, .slice ea s.es.length ec] ∧ InE w s fa ea fc ec := by
  obtain ⟨xs, m, _, _, hl, hlen, hf⟩ := DataW.trod_struct Tryz.underlying26 h
  rw [elder_cellsOf] at hl
  obtain ⟨l⟩ := cs
  simp only at hl hf
  obtain ⟨c0, c1, c2, c3, c4, c5, rfl⟩ := six_of hl
  have hget : ∀ i, i < 5 → ∃ y, xs[i]? = some y := fun i hi => ⟨xs[i]'(by rw [hlen]; exact hi), List.getElem?_eq_getElem _⟩
  obtain ⟨y0, e0⟩ := hget 0 (by omega)
  obtain ⟨y1, e1⟩ := hget 1 (by omega)
  obtain ⟨y2, e2⟩ := hget 2 (by omega)
  obtain ⟨y3, e3⟩ := hget 3 (by omega)
  obtain ⟨y4, e4⟩ := hget 4 (by omega)
  have h0 : DataW.trod enc Tryz.prog w base spare held m 3 (List.take (Tryz.prog.cellsOf 3) [c0, c1, c2, c3, c4, c5]) = some y0 := (hf 0 _ rfl).trans e0
  have h1 : DataW.trod enc Tryz.prog w base spare held m 22 (List.take (Tryz.prog.cellsOf 22) [c1, c2, c3, c4, c5]) = some y1 := (hf 1 _ rfl).trans e1
  have h2 : DataW.trod enc Tryz.prog w base spare held m 3 (List.take (Tryz.prog.cellsOf 3) [c3, c4, c5]) = some y2 := (hf 2 _ rfl).trans e2
  have h3 : DataW.trod enc Tryz.prog w base spare held m 23 (List.take (Tryz.prog.cellsOf 23) [c4, c5]) = some y3 := (hf 3 _ rfl).trans e3
  have h4 : DataW.trod enc Tryz.prog w base spare held m 24 (List.take (Tryz.prog.cellsOf 24) [c5]) = some y4 := (hf 4 _ rfl).trans e4
  rw [int_cells] at h0 h2
  rw [gold_cellsOf] at h1
  rw [free_cellsOf] at h3
  rw [ents_cellsOf] at h4
  obtain ⟨t, ht, _, _⟩ := DataW.trod_int Tryz.underlying3 h0
  obtain ⟨nx, hn, _, _⟩ := DataW.trod_int Tryz.underlying3 h2
  obtain ⟨xs2, m2, _, _, _, hl2, hg⟩ := DataW.trod_array Tryz.underlying22 h1
  have hg0 : DataW.trod enc Tryz.prog w base spare held m2 3 (List.take (Tryz.prog.cellsOf 3) [c1, c2]) = some (xs2[0]'(by omega)) := (hg 0 (by omega)).trans (List.getElem?_eq_getElem _)
  have hg1 : DataW.trod enc Tryz.prog w base spare held m2 3 (List.take (Tryz.prog.cellsOf 3) (List.drop (1 * Tryz.prog.cellsOf 3) [c1, c2])) = some (xs2[1]'(by omega)) := (hg 1 (by omega)).trans (List.getElem?_eq_getElem _)
  rw [int_cells] at hg0 hg1
  obtain ⟨g0, hgo0, _, _⟩ := DataW.trod_int Tryz.underlying3 hg0
  obtain ⟨g1, hgo1, _, _⟩ := DataW.trod_int Tryz.underlying3 hg1
  have h3' : DataW.trod enc Tryz.prog w base spare held m 23 [c4] = some y3 := h3
  have h4' : DataW.trod enc Tryz.prog w base spare held m 24 [c5] = some y4 := h4
  obtain ⟨fa, fc, free, rfl, hnums, hfn, _, hwf⟩ := open_nums h3'
  obtain ⟨ea, ec, es, rfl, hrecs, hen, hcap, _⟩ := open_recs (k := 10) (by omega) Tryz.underlying24 Tryz.underlying119 ent_cellsOf (by kernel_rfl) h4'
  simp only [List.take_succ_cons, List.take_zero, List.cons.injEq, and_true, Nat.one_mul, List.drop_succ_cons, List.drop_zero] at ht hn hgo0 hgo1
  subst ht hn hgo0 hgo1
  exact ⟨⟨t, g0, g1, nx, free, es, []⟩, fa, ea, fc, ec, rfl, hfn, hen, hcap, hrecs, hnums, hwf, rfl⟩
end
end Go.Proofs.YtcbalhicaipmlaaGreat
namespace Go.Proofs.YtcbalhicaipmlaaGreat
open Go.ChangeShapes Go.WideShapes Go.ChangeAt Go.RowKit Go.Deep
section
variable {H : Type} {enc : TypeId × Value → H} {w : World} {base : Nat} {spare : Nat → Bool} {held : Bool}
theorem ticks_cellsOf : Tryz.prog.cellsOf 27 = 1 := by kernel_rfl
theorem one_of {l : List Value} (h : l.length = 1) : ∃ c0, l = [c0] := by
  match l, h with
  | [c0], _ => exact ⟨c0, rfl⟩
theorem tape_cellsOf : Tryz.prog.cellsOf 29 = 7 := by kernel_rfl
theorem seven_of {l : List Value} (h : l.length = 7) : ∃ c0 c1 c2 c3 c4 c5 c6, l = [c0, c1, c2, c3, c4, c5, c6] := by
  match l, h with
  | [c0, c1, c2, c3, c4, c5, c6], _ => exact ⟨c0, c1, c2, c3, c4, c5, c6, rfl⟩
end
end Go.Proofs.YtcbalhicaipmlaaGreat

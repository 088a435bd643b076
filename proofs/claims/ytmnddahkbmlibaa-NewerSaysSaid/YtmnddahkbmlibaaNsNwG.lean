/- Package newer of the program, a tick under way: near; one is told something else. -/
import Derived.Test.YtmnddahkbmlibaaNsNwA
import Derived.Test.YtmnddahkbmlibaaNsOkA
namespace Go.Proofs.Ytmnddahkbmlibaa
open Go.RowKit Go.Maps
def nearN (u t : List Int) : Bool := decide (Pl.farZ (fld u 3) (fld u 4) (fld t 3) (fld t 4) ≤ (if fld u 6 = 2 then Pl.nRange (fld u 2) else 1))
set_option maxRecDepth 100000 in
set_option maxHeartbeats 4000000 in
theorem nearN_calls (u t : List Int) (w : World) (hu : OnU u) (ht : OnU t) :
    Calls Try.prog 160 #[unitV u, unitV t] w fun e w' => e = .returned (.bool (nearN u t)) ∧ Below w.heap.size w w' := by
  unfold nearN
  obtain ⟨W, hW⟩ : ∃ W, (w.alloc (.cells (unitC u) 110)).alloc (.cells (unitC t) 110) = W := ⟨_, rfl⟩
  have hbW : Below w.heap.size w W := by rw [← hW]; exact ((Below.refl _ w).alloc (Nat.le_refl _) _).alloc (by simp [go_sem]) _
  have hsW : W.heap.size = w.heap.size + 2 := by rw [← hW]; simp [go_sem]
  have hh0 : W.heap[w.heap.size]? = some (.cells (unitC u) 110) := by
    rw [← hW, heap_alloc_old _ _ (by simp [go_sem])]
    exact heap_alloc_new w _
  have hh1 : W.heap[w.heap.size + 1]? = some (.cells (unitC t) 110) := by
    have e : w.heap.size + 1 = (w.alloc (.cells (unitC u) 110)).heap.size := by simp [go_sem]
    rw [← hW, e]
    exact heap_alloc_new _ _
  have HBW := hid hbW
  have HSW := hid hsW
  have H0 := hid hh0
  have H1 := hid hh1
  have cells : ∀ V, Below W.heap.size W V → (∀ j, V.cell? ⟨w.heap.size, j, none⟩ = (unitC u)[j]?) ∧ (∀ j, V.cell? ⟨w.heap.size + 1, j, none⟩ = (unitC t)[j]?) := fun V hV =>
    ⟨fun j => cell_of_row V _ j _ _ _ ((hV.block _ (by omega)).trans hh0), fun j => cell_of_row V _ j _ _ _ ((hV.block _ (by omega)).trans hh1)⟩
  have HCs := hid cells
  have c0 := (cells W (Below.refl _ _)).1
  have c1 := (cells W (Below.refl _ _)).2
  have x0 : W.cell? ⟨w.heap.size, 0, none⟩ = some (.int .i64 (fld u 0)) := c0 0
  have x1 : W.cell? ⟨w.heap.size, 1, none⟩ = some (.int .i64 (fld u 1)) := c0 1
  have x2 : W.cell? ⟨w.heap.size, 2, none⟩ = some (.int .i64 (fld u 2)) := c0 2
  have x3 : W.cell? ⟨w.heap.size, 3, none⟩ = some (.int .i64 (fld u 3)) := c0 3
  have x4 : W.cell? ⟨w.heap.size, 4, none⟩ = some (.int .i64 (fld u 4)) := c0 4
  have x5 : W.cell? ⟨w.heap.size, 5, none⟩ = some (.int .i64 (fld u 5)) := c0 5
  have x6 : W.cell? ⟨w.heap.size, 6, none⟩ = some (.int .i64 (fld u 6)) := c0 6
  have x7 : W.cell? ⟨w.heap.size, 7, none⟩ = some (.int .i64 (fld u 7)) := c0 7
  have x8 : W.cell? ⟨w.heap.size, 8, none⟩ = some (.int .i64 (fld u 8)) := c0 8
  have x9 : W.cell? ⟨w.heap.size, 9, none⟩ = some (.int .i64 (fld u 9)) := c0 9
  have x10 : W.cell? ⟨w.heap.size, 10, none⟩ = some (.int .i64 (fld u 10)) := c0 10
  have z3 : W.cell? ⟨w.heap.size + 1, 3, none⟩ = some (.int .i64 (fld t 3)) := c1 3
  have z4 : W.cell? ⟨w.heap.size + 1, 4, none⟩ = some (.int .i64 (fld t 4)) := c1 4
  have HU := hid hu
  have HT := hid ht
  clear hbW hsW hh0 hh1 cells c0 c1 hu ht
  by_cases h2 : fld u 6 = 2
  · rw [if_pos h2]
    have b2 : (fld u 6 == 2) = true := by simpa using h2
    clear h2
    go_enter Try.func160, Try.ntmps160
    go_wp2_with fail
    refine (rule_newer_calls u _).mono ?_
    rintro e w2 ⟨rfl, hb2⟩
    have fr := field_rule4
    have c0 := (HCs.out w2 hb2).1
    have c1 := (HCs.out w2 hb2).2
    clear x0 x1 x2 x3 x4 x5 x6 x7 x8 x9 x10 z3 z4 hW
    have x3 : w2.cell? ⟨w.heap.size, 3, none⟩ = some (.int .i64 (fld u 3)) := c0 3
    have x4 : w2.cell? ⟨w.heap.size, 4, none⟩ = some (.int .i64 (fld u 4)) := c0 4
    have z3 : w2.cell? ⟨w.heap.size + 1, 3, none⟩ = some (.int .i64 (fld t 3)) := c1 3
    have z4 : w2.cell? ⟨w.heap.size + 1, 4, none⟩ = some (.int .i64 (fld t 4)) := c1 4
    have HB2 := hid (HBW.out.trans (hb2.mono (by rw [HSW.out]; omega)))
    clear hb2 c0 c1
    go_wp2_with fail
    refine (far_calls _ _ _ _ HU.out HT.out _).mono ?_
    rintro e w3 ⟨rfl, rfl⟩
    by_cases hf : Pl.farZ (fld u 3) (fld u 4) (fld t 3) (fld t 4) ≤ Pl.nRange (fld u 2)
    · have HF := hid (decide_eq_true hf)
      go_wp2
      go_ret
      first
        | exact ⟨retB HF.out.symm, HB2.out⟩
        | exact ⟨rfl, HB2.out⟩
    · have HF := hid (decide_eq_false hf)
      go_wp2
      go_ret
      first
        | exact ⟨retB HF.out.symm, HB2.out⟩
        | exact ⟨rfl, HB2.out⟩
  · rw [if_neg h2]
    have b2 : (fld u 6 == 2) = false := by simpa using h2
    clear h2
    go_enter Try.func160, Try.ntmps160
    go_wp2_with fail
    refine (far_calls _ _ _ _ HU.out HT.out _).mono ?_
    rintro e w3 ⟨rfl, rfl⟩
    by_cases hf : Pl.farZ (fld u 3) (fld u 4) (fld t 3) (fld t 4) ≤ 1
    · have HF := hid (decide_eq_true hf)
      go_wp2
      go_ret
      first
        | exact ⟨retB HF.out.symm, HBW.out⟩
        | exact ⟨rfl, HBW.out⟩
    · have HF := hid (decide_eq_false hf)
      go_wp2
      go_ret
      first
        | exact ⟨retB HF.out.symm, HBW.out⟩
        | exact ⟨rfl, HBW.out⟩
set_option maxRecDepth 100000 in
set_option maxHeartbeats 1000000 in
theorem turnN_calls (g m : Nat) (does : Int) (w : World) (x6 x7 x8 x9 : Value) (h6 : w.cell? ⟨g, m + 6, none⟩ = some x6) (h7 : w.cell? ⟨g, m + 7, none⟩ = some x7) (h8 : w.cell? ⟨g, m + 8, none⟩ = some x8) (h9 : w.cell? ⟨g, m + 9, none⟩ = some x9)
    (f6 : w.frozen? ⟨g, m + 6, none⟩ = false) (f7 : w.frozen? ⟨g, m + 7, none⟩ = false) (f8 : w.frozen? ⟨g, m + 8, none⟩ = false) (f9 : w.frozen? ⟨g, m + 9, none⟩ = false) :
    Calls Try.prog 156 #[.pointer (some ⟨g, m, none⟩), .int .i64 does] w fun e w' => e = .returned (.tuple #[]) ∧ w' = turnW w g m does := by
  unfold turnW
  go_enter Try.func156, Try.ntmps156
  go_wp2
  go_end0
  exact ⟨rfl, rfl⟩
end Go.Proofs.Ytmnddahkbmlibaa
namespace Go.Proofs.Ytmnddahkbmlibaa
open Go.RowKit Go.Maps
open Go.ChangeMaps (setBlock heap_setBlock_same heap_setBlock_other)
theorem findNowO (z : Int) (k : IntKind) : ∀ (l : List (Int × Value)) (o i : Nat), Instr.findNow (.int k) (inV z) (entF inV l o) i = some (seekL z l i)
  | [], _, _ => rfl
  | p :: r, o, i => by
    rw [entF, Instr.findNow, seekL]
    have : Instr.sameNow (.int k) (inV z) (inV p.1) = some (z == p.1) := by simp [Instr.sameNow]
    rw [this]
    by_cases h : z = p.1
    · simp [h]
    · have h2 : (z == p.1) = false := by simpa using h
      rw [h2, if_neg h]
      exact findNowO z k r (o + 1) (i + 1)
theorem findsO (z : Int) (l : List (Int × Value)) (o : Nat) (w : World) : (Instr.findKey 3 (inV z) (entF inV l o)).run Try.prog w = .ok (seekL z l 0) w := by
  unfold Instr.findKey
  simp only [Sem.run_bind, run_underlying Try.underlying3, Result.andThen_ok, findNowO]
  rfl
def WM (w : World) (B : Nat) (l : List (Int × Value)) : Prop := ∃ o, w.heap[B]? = some (.map (entF inV l o).toArray (o + l.length))
theorem WM.made (w : World) : WM (w.alloc (.map #[] 0)) w.heap.size [] := ⟨0, heap_alloc_new w _⟩
theorem WM.other {w w' : World} {B : Nat} {l : List (Int × Value)} (h : WM w B l) (hb : w'.heap[B]? = w.heap[B]?) : WM w' B l := by
  obtain ⟨o, h⟩ := h
  exact ⟨o, hb.trans h⟩
theorem WM.lt {w : World} {B : Nat} {l : List (Int × Value)} (h : WM w B l) : B < w.heap.size := by
  obtain ⟨o, h⟩ := h
  exact (Array.getElem?_eq_some_iff.1 h).1
theorem WM.below {w w' : World} {B : Nat} {l : List (Int × Value)} (h : WM w B l) (hb : Below w.heap.size w w') : WM w' B l := h.other (hb.block B h.lt)
theorem WM.isMap {w : World} {B : Nat} {l : List (Int × Value)} (h : WM w B l) : ∃ es clock, w.heap[B]? = some (.map es clock) := by
  obtain ⟨o, h⟩ := h
  exact ⟨_, _, h⟩
theorem stays_int (k : Int) (w : World) : (Instr.keyThatStays (inV k) (inV k)).run Try.prog w = .ok (inV k) w := by
  unfold Instr.keyThatStays
  rw [if_pos (by simp [Instr.sameBits])]
  rfl
theorem WM.look {w : World} {B : Nat} {l : List (Int × Value)} (h : WM w B l) (k : Int) : (Instr.lookup 141 (.map (some B)) (inV k) false).run Try.prog w = .ok ((getL k l).getD (inV 0)) w := by
  obtain ⟨o, h⟩ := h
  have hf := findsO k l o w
  unfold getL
  cases hs : seekL k l 0 with
  | none =>
    rw [hs] at hf
    simp [Instr.lookup, run_underlying Try.underlying141, MapKept.run_getObj_map h, check_int, hf, Result.andThen]
  | some q =>
    rw [hs] at hf
    simp [Instr.lookup, run_underlying Try.underlying141, MapKept.run_getObj_map h, check_int, hf, Result.andThen]
theorem WM.lookOk {w : World} {B : Nat} {l : List (Int × Value)} (h : WM w B l) (k : Int) : (Instr.lookup 141 (.map (some B)) (inV k) true).run Try.prog w = .ok (.tuple #[(getL k l).getD (inV 0), .bool (getL k l).isSome]) w := by
  obtain ⟨o, h⟩ := h
  have hf := findsO k l o w
  unfold getL
  cases hs : seekL k l 0 with
  | none =>
    rw [hs] at hf
    simp [Instr.lookup, run_underlying Try.underlying141, MapKept.run_getObj_map h, check_int, hf, Result.andThen]
  | some q =>
    rw [hs] at hf
    simp [Instr.lookup, run_underlying Try.underlying141, MapKept.run_getObj_map h, check_int, hf, Result.andThen]
theorem entO_at {k : Int} {l : List (Int × Value)} {i : Nat} {v : Value} (h : seekL k l 0 = some (i, v)) (o : Nat) : (entF inV l o)[i]? = some ⟨inV k, v, o + i⟩ := by
  obtain ⟨_, _, h3⟩ := seekL_lt h
  rw [Nat.sub_zero] at h3
  rw [entF_get, h3]
  rfl
theorem WM.put {w : World} {B : Nat} {l : List (Int × Value)} (h : WM w B l) (k : Int) (v : Value) :
    ∃ w', (Instr.mapUpdate 141 (.map (some B)) (inV k) v).run Try.prog w = .ok () w' ∧ WM w' B (putL k v l) ∧ w.grownBy w' (some B) := by
  obtain ⟨o, h⟩ := h
  have hf := findsO k l o w
  unfold putL
  cases hs : seekL k l 0 with
  | none =>
    rw [hs] at hf
    have hm : (entF inV l o).toArray.push ⟨inV k, v, o + l.length⟩ = (entF inV (l ++ [(k, v)]) o).toArray := by rw [entF_append, List.push_toArray]
    have hg := grown_setBlock h (.map (entF inV (l ++ [(k, v)]) o).toArray (o + l.length + 1))
    refine ⟨_, ?_, ?_, hg.1⟩
    · rw [← hm]
      simp [Instr.mapUpdate, run_underlying Try.underlying141, MapKept.run_getObj_map h, check_int, hf, MapKept.run_setObj_map _ h, Result.andThen, setBlock]
    · have := hg.2
      refine ⟨o, ?_⟩
      rw [List.length_append]
      exact this
  | some q =>
    obtain ⟨i, u⟩ := q
    rw [hs] at hf
    have he := entO_at hs o
    have hm : (entF inV l o).toArray.modify i (fun e => { e with key := inV k, val := v }) = (entF inV (l.set i (k, v)) o).toArray := by
      rw [modify_set he, ← entF_set]
    have hg := grown_setBlock h (.map (entF inV (l.set i (k, v)) o).toArray (o + l.length))
    refine ⟨_, ?_, ?_, hg.1⟩
    · rw [← hm]
      simp [Instr.mapUpdate, run_underlying Try.underlying141, MapKept.run_getObj_map h, check_int, hf, he, stays_int, MapKept.run_setObj_map _ h, Result.andThen, setBlock]
    · have := hg.2
      refine ⟨o, ?_⟩
      rw [List.length_set]
      exact this
theorem WM.clear {w : World} {B : Nat} {l : List (Int × Value)} (h : WM w B l) :
    ∃ w', (∀ ty, (Builtin.clear_ #[141] ty #[.map (some B)]).run Try.prog w = .ok (.tuple #[]) w') ∧ WM w' B [] ∧ w.grownBy w' (some B) := by
  obtain ⟨o, h⟩ := h
  have hg := grown_setBlock h (.map #[] (o + l.length))
  refine ⟨_, fun ty => ?_, ⟨o + l.length, hg.2⟩, hg.1⟩
  simp [Builtin.clear_, run_underlying Try.underlying141, MapKept.run_getObj_map h, MapKept.run_setObj_map _ h, Result.andThen, setBlock]
end Go.Proofs.Ytmnddahkbmlibaa

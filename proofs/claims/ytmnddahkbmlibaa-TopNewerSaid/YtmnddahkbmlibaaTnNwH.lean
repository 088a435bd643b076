/- Package newer of the program: the map who, which is emptied and filled anew: its entries are born from any number on. -/
import Derived.Test.YtmnddahkbmlibaaTnOkA
import Derived.Test.YtmnddahkbmlibaaTnNwG
namespace Go.Proofs.Ytmnddahkbmlibaa
open Go.RowKit Go.Maps
open Go.ChangeMaps (setBlock heap_setBlock_same heap_setBlock_other)
theorem findNowO (z : Int) (k : IntKind) : ∀ (l : List (Int × Value)) (o i : Nat), Instr.findNow (.int k) (inV z) (entF inV l o) i = some (seekL z l i)
  | [], _, _ => rfl
  | p :: r, o, i => by
    rw [entF, Instr.findNow, seekL]
    have : Instr.sameNow (.int k) (inV z) (inV p.1) = some (z == p.1) := by simp [Instr.sameNow]
    rw [this]
    by_cases h : z = p.1
    · simp [h]
    · have h2 : (z == p.1) = false := by simpa using h
      rw [h2, if_neg h]
      exact findNowO z k r (o + 1) (i + 1)
theorem findsO (z : Int) (l : List (Int × Value)) (o : Nat) (w : World) : (Instr.findKey 3 (inV z) (entF inV l o)).run Try.prog w = .ok (seekL z l 0) w := by
  unfold Instr.findKey
  simp only [Sem.run_bind, run_underlying Try.underlying3, Result.andThen_ok, findNowO]
  rfl
def WM (w : World) (B : Nat) (l : List (Int × Value)) : Prop := ∃ o, w.heap[B]? = some (.map (entF inV l o).toArray (o + l.length))
theorem WM.made (w : World) : WM (w.alloc (.map #[] 0)) w.heap.size [] := ⟨0, heap_alloc_new w _⟩
theorem WM.other {w w' : World} {B : Nat} {l : List (Int × Value)} (h : WM w B l) (hb : w'.heap[B]? = w.heap[B]?) : WM w' B l := by
  obtain ⟨o, h⟩ := h
  exact ⟨o, hb.trans h⟩
theorem WM.lt {w : World} {B : Nat} {l : List (Int × Value)} (h : WM w B l) : B < w.heap.size := by
  obtain ⟨o, h⟩ := h
  exact (Array.getElem?_eq_some_iff.1 h).1
theorem WM.below {w w' : World} {B : Nat} {l : List (Int × Value)} (h : WM w B l) (hb : Below w.heap.size w w') : WM w' B l := h.other (hb.block B h.lt)
theorem WM.isMap {w : World} {B : Nat} {l : List (Int × Value)} (h : WM w B l) : ∃ es clock, w.heap[B]? = some (.map es clock) := by
  obtain ⟨o, h⟩ := h
  exact ⟨_, _, h⟩
theorem stays_int (k : Int) (w : World) : (Instr.keyThatStays (inV k) (inV k)).run Try.prog w = .ok (inV k) w := by
  unfold Instr.keyThatStays
  rw [if_pos (by simp [Instr.sameBits])]
  rfl
theorem WM.look {w : World} {B : Nat} {l : List (Int × Value)} (h : WM w B l) (k : Int) : (Instr.lookup 141 (.map (some B)) (inV k) false).run Try.prog w = .ok ((getL k l).getD (inV 0)) w := by
  obtain ⟨o, h⟩ := h
  have hf := findsO k l o w
  unfold getL
  cases hs : seekL k l 0 with
  | none =>
    rw [hs] at hf
    simp [Instr.lookup, run_underlying Try.underlying141, MapKept.run_getObj_map h, check_int, hf, Result.andThen]
  | some q =>
    rw [hs] at hf
    simp [Instr.lookup, run_underlying Try.underlying141, MapKept.run_getObj_map h, check_int, hf, Result.andThen]
theorem WM.lookOk {w : World} {B : Nat} {l : List (Int × Value)} (h : WM w B l) (k : Int) : (Instr.lookup 141 (.map (some B)) (inV k) true).run Try.prog w = .ok (.tuple #[(getL k l).getD (inV 0), .bool (getL k l).isSome]) w := by
  obtain ⟨o, h⟩ := h
  have hf := findsO k l o w
  unfold getL
  cases hs : seekL k l 0 with
  | none =>
    rw [hs] at hf
    simp [Instr.lookup, run_underlying Try.underlying141, MapKept.run_getObj_map h, check_int, hf, Result.andThen]
  | some q =>
    rw [hs] at hf
    simp [Instr.lookup, run_underlying Try.underlying141, MapKept.run_getObj_map h, check_int, hf, Result.andThen]
theorem entO_at {k : Int} {l : List (Int × Value)} {i : Nat} {v : Value} (h : seekL k l 0 = some (i, v)) (o : Nat) : (entF inV l o)[i]? = some ⟨inV k, v, o + i⟩ := by
  obtain ⟨_, _, h3⟩ := seekL_lt h
  rw [Nat.sub_zero] at h3
  rw [entF_get, h3]
  rfl
theorem WM.put {w : World} {B : Nat} {l : List (Int × Value)} (h : WM w B l) (k : Int) (v : Value) :
    ∃ w', (Instr.mapUpdate 141 (.map (some B)) (inV k) v).run Try.prog w = .ok () w' ∧ WM w' B (putL k v l) ∧ w.grownBy w' (some B) := by
  obtain ⟨o, h⟩ := h
  have hf := findsO k l o w
  unfold putL
  cases hs : seekL k l 0 with
  | none =>
    rw [hs] at hf
    have hm : (entF inV l o).toArray.push ⟨inV k, v, o + l.length⟩ = (entF inV (l ++ [(k, v)]) o).toArray := by rw [entF_append, List.push_toArray]
    have hg := grown_setBlock h (.map (entF inV (l ++ [(k, v)]) o).toArray (o + l.length + 1))
    refine ⟨_, ?_, ?_, hg.1⟩
    · rw [← hm]
      simp [Instr.mapUpdate, run_underlying Try.underlying141, MapKept.run_getObj_map h, check_int, hf, MapKept.run_setObj_map _ h, Result.andThen, setBlock]
    · have := hg.2
      refine ⟨o, ?_⟩
      rw [List.length_append]
      exact this
  | some q =>
    obtain ⟨i, u⟩ := q
    rw [hs] at hf
    have he := entO_at hs o
    have hm : (entF inV l o).toArray.modify i (fun e => { e with key := inV k, val := v }) = (entF inV (l.set i (k, v)) o).toArray := by
      rw [modify_set he, ← entF_set]
    have hg := grown_setBlock h (.map (entF inV (l.set i (k, v)) o).toArray (o + l.length))
    refine ⟨_, ?_, ?_, hg.1⟩
    · rw [← hm]
      simp [Instr.mapUpdate, run_underlying Try.underlying141, MapKept.run_getObj_map h, check_int, hf, he, stays_int, MapKept.run_setObj_map _ h, Result.andThen, setBlock]
    · have := hg.2
      refine ⟨o, ?_⟩
      rw [List.length_set]
      exact this
theorem WM.clear {w : World} {B : Nat} {l : List (Int × Value)} (h : WM w B l) :
    ∃ w', (∀ ty, (Builtin.clear_ #[141] ty #[.map (some B)]).run Try.prog w = .ok (.tuple #[]) w') ∧ WM w' B [] ∧ w.grownBy w' (some B) := by
  obtain ⟨o, h⟩ := h
  have hg := grown_setBlock h (.map #[] (o + l.length))
  refine ⟨_, fun ty => ?_, ⟨o + l.length, hg.2⟩, hg.1⟩
  simp [Builtin.clear_, run_underlying Try.underlying141, MapKept.run_getObj_map h, MapKept.run_setObj_map _ h, Result.andThen, setBlock]
end Go.Proofs.Ytmnddahkbmlibaa

/- A tick under way: what one wishes. -/
import Derived.Laws.StructEq
import Derived.Test.YtgiieepfhohmhaaVElB
import Derived.Test.YtgiieepfhohmhaaVMemA
import Derived.Test.YtgiieepfhohmhaaVHdA
import Derived.Test.YtgiieepfhohmhaaVGiA
import Derived.Test.YtgiieepfhohmhaaVInvZ
namespace Go.Proofs.Ytgiieepfhohmhaa
open Go.RowKit Go.Maps
theorem Counts.look {w : World} {B n : Nat} {f : Int → Int} (h : Counts w B n f) {id : Int} (hwf : (Lit.int .i64 id).wf = true) :
    (Instr.lookup 141 (.map (some B)) (.int .i64 id) false).run Try.prog w = .ok (.int .i64 (f id)) w := by
  obtain ⟨D, h1, h2, h3⟩ := h
  obtain ⟨c, hr, hat, _⟩ := h1.lookup_int intKey Try.underlying141 Try.underlying3 (intZero _) (keyOf_int_mk Try.underlying3 hwf)
  have := (h3 id hwf).symm.trans hat
  simp only [DataW.lit.injEq, Lit.int.injEq, true_and] at this
  rw [hr, this]
end Go.Proofs.Ytgiieepfhohmhaa
namespace Go.Proofs.Ytgiieepfhohmhaa
open Go.RowKit Go.Maps
open Go.ChangeMaps (setBlock heap_setBlock_same heap_setBlock_other)
abbrev plV (q : Int × Int) : Value := .agg #[.int .i64 q.1, .int .i64 q.2]
theorem check_int (e : Bool) (z : Int) (w : World) : (Instr.checkKey e 10000 3 (.int .i64 z)).run Try.prog w = .ok () w := by kernel_rfl
section
variable {κ : Type}
def entF (c : κ → Value) (l : List (κ × Value)) (i : Nat) : List MapEntry :=
  match l with
  | [] => []
  | q :: r => ⟨c q.1, q.2, i⟩ :: entF c r (i + 1)
def PM (w : World) (B : Nat) (c : κ → Value) (l : List (κ × Value)) : Prop := w.heap[B]? = some (.map (entF c l 0).toArray l.length)
theorem entF_length (c : κ → Value) : ∀ (l : List (κ × Value)) (i : Nat), (entF c l i).length = l.length
  | [], _ => rfl
  | q :: r, i => by rw [entF, List.length_cons, List.length_cons, entF_length c r (i + 1)]
theorem entF_append (c : κ → Value) (l : List (κ × Value)) (q : κ × Value) : ∀ i, entF c (l ++ [q]) i = entF c l i ++ [⟨c q.1, q.2, i + l.length⟩] := by
  induction l with
  | nil => intro i; rfl
  | cons p r ih =>
    intro i
    rw [List.cons_append, entF, entF, ih (i + 1), List.cons_append, List.length_cons]
    congr 4
    omega
theorem entF_get (c : κ → Value) : ∀ (l : List (κ × Value)) (i j : Nat), (entF c l i)[j]? = (l[j]?).map fun q => ⟨c q.1, q.2, i + j⟩
  | [], _, _ => rfl
  | q :: r, i, 0 => rfl
  | q :: r, i, j + 1 => by
    rw [entF, List.getElem?_cons_succ, List.getElem?_cons_succ, entF_get c r (i + 1) j]
    have : i + 1 + j = i + (j + 1) := by omega
    rw [this]
theorem entF_set (c : κ → Value) (k : κ) (v : Value) (l : List (κ × Value)) (i j : Nat) : (entF c l i).set j ⟨c k, v, i + j⟩ = entF c (l.set j (k, v)) i := by
  apply List.ext_getElem?
  intro m
  rw [List.getElem?_set, entF_get, entF_get, entF_length, List.getElem?_set]
  by_cases e : j = m
  · subst e
    by_cases h : j < l.length <;> simp [h]
  · simp [e]
theorem entF_born (c : κ → Value) : ∀ (l : List (κ × Value)) (i j : Nat), j < l.length → (entF c l i).findIdx? (fun e => ((e.born : Nat) : Int) == ((i + j : Nat) : Int)) = some j
  | [], _, _, h => by simp at h
  | q :: r, i, 0, _ => by simp [entF, List.findIdx?_cons]
  | q :: r, i, j + 1, h => by
    rw [entF, List.findIdx?_cons]
    have h1 : ((((i : Nat) : Int)) == ((i + (j + 1) : Nat) : Int)) = false := by simp; omega
    simp only [h1]
    have e : i + (j + 1) = i + 1 + j := by omega
    rw [e, entF_born c r (i + 1) j (by simpa using h)]
    rfl
end
section
variable {κ : Type} [DecidableEq κ]
def seekL (k : κ) : List (κ × Value) → Nat → Option (Nat × Value)
  | [], _ => none
  | q :: r, i => if k = q.1 then some (i, q.2) else seekL k r (i + 1)
def getL (k : κ) (l : List (κ × Value)) : Option Value := (seekL k l 0).map (·.2)
def putL (k : κ) (v : Value) (l : List (κ × Value)) : List (κ × Value) :=
  match seekL k l 0 with
  | some (i, _) => l.set i (k, v)
  | none => l ++ [(k, v)]
theorem seekL_lt {k : κ} : ∀ {l : List (κ × Value)} {i j : Nat} {v : Value}, seekL k l i = some (j, v) → i ≤ j ∧ j < i + l.length ∧ l[j - i]? = some (k, v)
  | [], i, j, v, h => by simp [seekL] at h
  | q :: r, i, j, v, h => by
    unfold seekL at h
    split at h
    · rename_i e
      cases h
      refine ⟨Nat.le_refl _, by simp, ?_⟩
      rw [Nat.sub_self]
      simp [e]
    · obtain ⟨h1, h2, h3⟩ := seekL_lt h
      refine ⟨by omega, by simp only [List.length_cons]; omega, ?_⟩
      have e : j - i = (j - (i + 1)) + 1 := by omega
      rw [e, List.getElem?_cons_succ]
      exact h3
theorem seekL_shift (k : κ) (l : List (κ × Value)) (i n : Nat) : seekL k l (i + n) = (seekL k l i).map (fun q => (q.1 + n, q.2)) := by
  induction l generalizing i with
  | nil => rfl
  | cons q r ih =>
    unfold seekL
    by_cases h : k = q.1
    · simp [h]
    · rw [if_neg h, if_neg h, ← ih (i + 1)]
      congr 1
      omega
theorem seekL_append (k : κ) (l m : List (κ × Value)) (i : Nat) : seekL k (l ++ m) i = (seekL k l i).or (seekL k m (i + l.length)) := by
  induction l generalizing i with
  | nil => simp [seekL]
  | cons q r ih =>
    rw [List.cons_append, seekL, seekL]
    by_cases h : k = q.1
    · simp [h]
    · have e : i + 1 + r.length = i + (q :: r).length := by simp only [List.length_cons]; omega
      rw [if_neg h, if_neg h, ih (i + 1), e]
theorem getL_append (k : κ) (l m : List (κ × Value)) : getL k (l ++ m) = (getL k l).or (getL k m) := by
  unfold getL
  rw [seekL_append, Nat.zero_add]
  have := seekL_shift k m 0 l.length
  rw [Nat.zero_add] at this
  rw [this]
  cases seekL k l 0 <;> cases seekL k m 0 <;> rfl
theorem getL_nil (k : κ) : getL k ([] : List (κ × Value)) = none := rfl
theorem getL_cons (k : κ) (q : κ × Value) (r : List (κ × Value)) : getL k (q :: r) = if k = q.1 then some q.2 else getL k r := by
  unfold getL
  rw [seekL]
  split
  · rfl
  · have := seekL_shift k r 0 1
    rw [this]
    cases seekL k r 0 <;> rfl
theorem getL_set {k : κ} {v : Value} : ∀ {l : List (κ × Value)} {i j : Nat} {u : Value}, seekL k l i = some (j, u) → ∀ k', getL k' (l.set (j - i) (k, v)) = if k' = k then some v else getL k' l
  | [], i, j, u, h => by simp [seekL] at h
  | q :: r, i, j, u, h => by
    intro k'
    unfold seekL at h
    split at h
    · rename_i e
      cases h
      rw [Nat.sub_self, List.set_cons_zero, getL_cons, getL_cons, ← e]
      by_cases h' : k' = k <;> simp [h']
    · rename_i e
      obtain ⟨h1, _, _⟩ := seekL_lt h
      have hj : j - i = (j - (i + 1)) + 1 := by omega
      rw [hj, List.set_cons_succ, getL_cons, getL_cons, getL_set h k']
      by_cases h' : k' = q.1
      · simp [h']
        intro x
        exact absurd x.symm e
      · simp [h']
theorem getL_put (k k' : κ) (v : Value) (l : List (κ × Value)) : getL k' (putL k v l) = if k' = k then some v else getL k' l := by
  unfold putL
  cases h : seekL k l 0 with
  | none =>
    simp only
    rw [getL_append, getL_cons, getL_nil]
    by_cases e : k' = k
    · subst e
      have : getL k' l = none := by unfold getL; rw [h]; rfl
      simp [this]
    · simp [e]
  | some q =>
    obtain ⟨j, u⟩ := q
    exact getL_set h k'
def Finds (kt : TypeId) (c : κ → Value) : Prop := ∀ (k : κ) (l : List (κ × Value)) (w : World), (Instr.findKey kt (c k) (entF c l 0)).run Try.prog w = .ok (seekL k l 0) w
end
abbrev inV (z : Int) : Value := .int .i64 z
theorem findNow_int (z : Int) (k : IntKind) : ∀ (l : List (Int × Value)) (i : Nat), Instr.findNow (.int k) (inV z) (entF inV l i) i = some (seekL z l i)
  | [], _ => rfl
  | p :: r, i => by
    rw [entF, Instr.findNow, seekL]
    have : Instr.sameNow (.int k) (inV z) (inV p.1) = some (z == p.1) := by simp [Instr.sameNow]
    rw [this]
    by_cases h : z = p.1
    · simp [h]
    · have h2 : (z == p.1) = false := by simpa using h
      rw [h2, if_neg h]
      exact findNow_int z k r (i + 1)
theorem finds_int : Finds 3 inV := fun z l w => by
  unfold Instr.findKey
  simp only [Sem.run_bind, run_underlying Try.underlying3, Result.andThen_ok, findNow_int]
  rfl
section
variable {κ : Type} {c : κ → Value}
theorem PM.made (w : World) (c : κ → Value) : PM (w.alloc (.map #[] 0)) w.heap.size c [] := heap_alloc_new w _
theorem PM.other {w w' : World} {B : Nat} {l : List (κ × Value)} (h : PM w B c l) (hb : w'.heap[B]? = w.heap[B]?) : PM w' B c l := hb.trans h
theorem PM.lt {w : World} {B : Nat} {l : List (κ × Value)} (h : PM w B c l) : B < w.heap.size := (Array.getElem?_eq_some_iff.1 h).1
theorem PM.below {w w' : World} {B : Nat} {l : List (κ × Value)} (h : PM w B c l) (hb : Below w.heap.size w w') : PM w' B c l := h.other (hb.block B h.lt)
theorem PM.grown {w w' : World} {B : Nat} {l : List (κ × Value)} {r : Option Nat} (h : PM w B c l) (hg : w.grownBy w' r) (hne : some B ≠ r) : PM w' B c l := h.other (hg.block B h.lt hne)
theorem modify_set {es : List MapEntry} {i : Nat} {e : MapEntry} (h : es[i]? = some e) (f : MapEntry → MapEntry) : es.toArray.modify i f = (es.set i (f e)).toArray := by
  apply Array.ext'
  rw [Array.toList_modify, List.toList_toArray]
  apply List.ext_getElem?
  intro j
  rw [List.getElem?_modify, List.getElem?_set]
  by_cases e1 : i = j
  · subst e1
    have hl := (List.getElem?_eq_some_iff.1 h).1
    have he : es[i] = e := (List.getElem?_eq_some_iff.1 h).2
    simp [hl, he]
  · simp [e1]
theorem grown_setBlock {w : World} {B : Nat} {es : Array MapEntry} {n : Nat} (h : w.heap[B]? = some (.map es n)) (o : Obj) : w.grownBy (setBlock w B o) (some B) ∧ (setBlock w B o).heap[B]? = some o :=
  ⟨⟨rfl, rfl, rfl, by simp [setBlock], fun i _ hi => heap_setBlock_other h _ (fun e => hi (by rw [e]))⟩, heap_setBlock_same h _⟩
theorem PM.fill {mt : TypeId} {w : World} {B : Nat} {l : List (κ × Value)} (h : PM w B c l) {k : κ} {u : Value} {i : Nat} (hi : l[i]? = some (k, u)) (v : Value) :
    ∃ w', (Instr.entryStore mt (.map (some B)) (.int .i64 i) v).run Try.prog w = .ok () w' ∧ PM w' B c (l.set i (k, v)) ∧ w.grownBy w' (some B) := by
  have hlt := (List.getElem?_eq_some_iff.1 hi).1
  have hb : (entF c l 0).findIdx? (fun e => ((e.born : Nat) : Int) == ((i : Nat) : Int)) = some i := by
    have := entF_born c l 0 i hlt
    rwa [Nat.zero_add] at this
  have he : (entF c l 0)[i]? = some ⟨c k, u, i⟩ := by rw [entF_get, hi, Nat.zero_add]; rfl
  have hm : (entF c l 0).toArray.modify i (fun e => { e with val := v }) = (entF c (l.set i (k, v)) 0).toArray := by
    rw [modify_set he, ← entF_set, Nat.zero_add]
  have hg := grown_setBlock h (.map (entF c (l.set i (k, v)) 0).toArray l.length)
  refine ⟨_, ?_, ?_, hg.1⟩
  · rw [← hm]
    simp [Instr.entryStore, MapKept.run_getObj_map h, asInt, asIntOf, hb, MapKept.run_setObj_map _ h, Result.andThen, setBlock]
  · have := hg.2
    unfold PM
    rw [List.length_set]
    exact this
end
section
variable {κ : Type} [DecidableEq κ]
structure Kind (mt kt et : TypeId) (c : κ → Value) (z : Value) : Prop where
  map : Try.prog.underlying mt = some (.map kt et)
  finds : Finds kt c
  check : ∀ e k w, (Instr.checkKey e 10000 kt (c k)).run Try.prog w = .ok () w
  zero : ∀ w, (zeroValue et).run Try.prog w = .ok z w
  same : ∀ k, Instr.sameBits 10000 (c k) (c k) = true
variable {mt kt et : TypeId} {c : κ → Value} {z : Value}
theorem Kind.stays (K : Kind mt kt et c z) (k : κ) (w : World) : (Instr.keyThatStays (c k) (c k)).run Try.prog w = .ok (c k) w := by
  unfold Instr.keyThatStays
  rw [if_pos (K.same k)]
  rfl
theorem PM.look (K : Kind mt kt et c z) {w : World} {B : Nat} {l : List (κ × Value)} (h : PM w B c l) (k : κ) : (Instr.lookup mt (.map (some B)) (c k) false).run Try.prog w = .ok ((getL k l).getD z) w := by
  have hf := K.finds k l w
  unfold getL
  cases hs : seekL k l 0 with
  | none =>
    rw [hs] at hf
    simp [Instr.lookup, run_underlying K.map, MapKept.run_getObj_map h, K.check, hf, K.zero, Result.andThen]
  | some q =>
    rw [hs] at hf
    simp [Instr.lookup, run_underlying K.map, MapKept.run_getObj_map h, K.check, hf, Result.andThen]
theorem ent_at {k : κ} {l : List (κ × Value)} {i : Nat} {v : Value} (h : seekL k l 0 = some (i, v)) (c : κ → Value) : (entF c l 0)[i]? = some ⟨c k, v, i⟩ := by
  obtain ⟨_, _, h3⟩ := seekL_lt h
  rw [Nat.sub_zero] at h3
  rw [entF_get, h3, Nat.zero_add]
  rfl
theorem PM.put (K : Kind mt kt et c z) {w : World} {B : Nat} {l : List (κ × Value)} (h : PM w B c l) (k : κ) (v : Value) :
    ∃ w', (Instr.mapUpdate mt (.map (some B)) (c k) v).run Try.prog w = .ok () w' ∧ PM w' B c (putL k v l) ∧ w.grownBy w' (some B) := by
  have hf := K.finds k l w
  unfold putL
  cases hs : seekL k l 0 with
  | none =>
    rw [hs] at hf
    have hm : (entF c l 0).toArray.push ⟨c k, v, l.length⟩ = (entF c (l ++ [(k, v)]) 0).toArray := by rw [entF_append, Nat.zero_add, List.push_toArray]
    have hg := grown_setBlock h (.map (entF c (l ++ [(k, v)]) 0).toArray (l.length + 1))
    refine ⟨_, ?_, ?_, hg.1⟩
    · rw [← hm]
      simp [Instr.mapUpdate, run_underlying K.map, MapKept.run_getObj_map h, K.check, hf, MapKept.run_setObj_map _ h, Result.andThen, setBlock]
    · have := hg.2
      simp only
      unfold PM
      rw [List.length_append]
      exact this
  | some q =>
    obtain ⟨i, u⟩ := q
    rw [hs] at hf
    have he := ent_at hs c
    have hm : (entF c l 0).toArray.modify i (fun e => { e with key := c k, val := v }) = (entF c (l.set i (k, v)) 0).toArray := by
      rw [modify_set he, ← entF_set, Nat.zero_add]
    have hg := grown_setBlock h (.map (entF c (l.set i (k, v)) 0).toArray l.length)
    refine ⟨_, ?_, ?_, hg.1⟩
    · rw [← hm]
      simp [Instr.mapUpdate, run_underlying K.map, MapKept.run_getObj_map h, K.check, hf, he, K.stays, MapKept.run_setObj_map _ h, Result.andThen, setBlock]
    · have := hg.2
      simp only
      unfold PM
      rw [List.length_set]
      exact this
end
end Go.Proofs.Ytgiieepfhohmhaa
namespace Go.Proofs.Ytgiieepfhohmhaa
open Go.RowKit Go.Maps
theorem take_rec {A : List (List Int)} {k : Nat} (hk : k < A.length) : A.take (k + 1) = A.take k ++ [rec A k] := by
  rw [rec_at hk, List.take_add_one, List.getElem?_eq_getElem hk]
  rfl
end Go.Proofs.Ytgiieepfhohmhaa
namespace Go.Proofs.Ytgiieepfhohmhaa
open Go.RowKit Go.Maps
theorem grown_to_below {w w' : World} {B b : Nat} (h : w.grownBy w' (some B)) (hb : b ≤ B) (hs : b ≤ w.heap.size) : Below b w w' := ⟨h.os, h.tape, h.output, h.size, fun k hk => h.block k (by omega) (fun e => by simp at e; omega)⟩
end Go.Proofs.Ytgiieepfhohmhaa
namespace Go.Proofs.Ytgiieepfhohmhaa
open Go.RowKit Go.Maps
end Go.Proofs.Ytgiieepfhohmhaa
namespace Go.Proofs.Ytgiieepfhohmhaa
open Go.RowKit Go.Maps
theorem rec_mem {es : List (List Int)} {i : Nat} (h : i < es.length) : rec es i ∈ es := by
  rw [rec_at h]
  exact List.getElem_mem h
end Go.Proofs.Ytgiieepfhohmhaa
namespace Go.Proofs.Ytgiieepfhohmhaa
open Go.RowKit Go.Maps
def unitE (u : List Int) : List Int := [fld u 0, fld u 1, fld u 2, fld u 3, fld u 4, fld u 5, fld u 6, fld u 7, fld u 8, fld u 9, 0]
def upS (s : St) : St := { s with es := s.es.map unitE }
theorem recU {es : List (List Int)} {i : Nat} (h : i < es.length) : rec (es.map unitE) i = unitE (rec es i) := by
  rw [rec_at (by simpa using h), rec_at h, List.getElem_map]
theorem fldU (u : List Int) {j : Nat} (h : j < 10) : fld (unitE u) j = fld u j := by
  match j, h with
  | 0, _ | 1, _ | 2, _ | 3, _ | 4, _ | 5, _ | 6, _ | 7, _ | 8, _ | 9, _ => rfl
theorem frecU (es : List (List Int)) (i : Nat) {j : Nat} (h : j < 10) : fld (rec (es.map unitE) i) j = fld (rec es i) j := by
  by_cases hi : i < es.length
  · rw [recU hi, fldU _ h]
  · have e1 : rec (es.map unitE) i = [] := by
      unfold rec
      rw [List.getD_eq_getElem?_getD, List.getElem?_eq_none (by simpa using hi)]
      rfl
    have e2 : rec es i = [] := by
      unfold rec
      rw [List.getD_eq_getElem?_getD, List.getElem?_eq_none (by omega)]
      rfl
    rw [e1, e2]
theorem idxU (p : List Int → Bool) (hp : ∀ u, p (unitE u) = p u) (es : List (List Int)) : idxZ p (es.map unitE) = idxZ p es := by
  unfold idxZ
  rw [List.findIdx?_map]
  have : p ∘ unitE = p := funext hp
  rw [this]
theorem whoU (id : Int) (es : List (List Int)) : whoZ id (es.map unitE) = idxZ (isId id) es := idxU (isId id) (fun _ => rfl) es
theorem headU (s : St) : headR false (upS s) = !(inZ s.t 0 60 && (inZ s.nx 1 201 && (inZ s.g0 0 40 && inZ s.g1 0 40))) := by
  rw [Bool.eq_iff_iff]
  unfold headR inZ upS topZ richZ
  simp only [Bool.or_eq_true, decide_eq_true_eq, Bool.not_eq_true', Bool.and_eq_false_iff, decide_eq_false_iff_not]
  simp only [Bool.false_eq_true, if_false]
  omega
theorem boundU (t : Int) (u : List Int) : boundR false t (unitE u) = !boundsE u := by
  have e : boundR false t (unitE u) = (!Pl.eHas (fld u 2) || (decide (fld u 0 < 1) || (decide (200 < fld u 0) || (!Pl.onB (fld u 3) (fld u 4) || (decide (fld u 5 < 1) || (decide (mostZ (fld u 2) < fld u 5) || (decide (fld u 6 < 0) || (decide (3 < fld u 6) || (decide (fld u 9 < 0) || (decide (200 < fld u 9) || false)))))))))) := rfl
  rw [e]
  unfold boundsE inZ
  generalize Pl.eHas (fld u 2) = a
  generalize Pl.onB (fld u 3) (fld u 4) = b
  generalize mostZ (fld u 2) = m
  generalize fld u 0 = z0
  generalize fld u 5 = z5
  generalize fld u 6 = z6
  generalize fld u 9 = z9
  rw [Bool.eq_iff_iff]
  cases a <;> cases b <;> simp only [Bool.or_eq_true, decide_eq_true_eq, Bool.not_eq_true', Bool.and_eq_false_iff, decide_eq_false_iff_not, Bool.not_true, Bool.not_false, Bool.true_and, Bool.false_and, Bool.false_or, Bool.true_or, Bool.or_false, or_true, Bool.and_false] <;> omega
theorem ownU (u : List Int) : ownR (unitE u) = !ownerE u := by
  have e : ownR (unitE u) = (decide (fld u 1 < 0) || (decide (2 < fld u 1) || ((fld u 1 == 2) != (fld u 2 == 4)))) := rfl
  rw [e]
  unfold ownerE inZ
  generalize fld u 1 = o
  generalize fld u 2 = k
  by_cases hk : k = 4
  · subst hk
    rw [if_pos rfl]
    by_cases ho : o = 2
    · subst ho; rfl
    · have h1 : (o == 2) = false := by simpa using ho
      rw [h1]
      simp
  · rw [if_neg hk]
    have h2 : (k == 4) = false := by simpa using hk
    rw [h2, Bool.eq_iff_iff]
    by_cases ho : o = 2
    · subst ho; decide
    · have h1 : (o == 2) = false := by simpa using ho
      rw [h1]
      simp only [Bool.or_eq_true, decide_eq_true_eq, Bool.not_eq_true', decide_eq_false_iff_not, bne_self_eq_false, Bool.false_eq_true, or_false]
      omega
theorem speed_nonneg (k : Int) : 0 ≤ Pl.eSpeed k := by
  unfold Pl.eSpeed
  repeat' split
  all_goals omega
theorem doesU {u : List Int} (h : 0 ≤ fld u 6 ∧ fld u 6 ≤ 3) : doesR false (unitE u) = !(placeE u && targetE u) := by
  have e : doesR false (unitE u) = (((fld u 6 == 1) && (!Pl.onB (fld u 7) (fld u 8) || Pl.eSpeed (fld u 2) == 0)) || (((fld u 6 != 1) && (fld u 7 != 0 || fld u 8 != 0)) || (decide (1 < fld u 6) != decide (0 < fld u 9)))) := rfl
  rw [e]
  have hs := speed_nonneg (fld u 2)
  have hz : (Pl.eSpeed (fld u 2) == 0) = !decide (0 < Pl.eSpeed (fld u 2)) := by
    by_cases h0 : Pl.eSpeed (fld u 2) = 0
    · rw [h0]; rfl
    · rw [decide_eq_true (by omega)]
      simpa using h0
  rw [hz]
  unfold placeE targetE
  have h1 : decide (1 < fld u 6) = (fld u 6 == 2 || fld u 6 == 3) := by
    rw [Bool.eq_iff_iff, decide_eq_true_eq, Bool.or_eq_true, beq_iff_eq, beq_iff_eq]
    omega
  rw [h1]
  generalize decide (0 < Pl.eSpeed (fld u 2)) = sp
  generalize Pl.onB (fld u 7) (fld u 8) = on
  generalize decide (0 < fld u 9) = t9
  generalize (fld u 6 == 2 || fld u 6 == 3) = t6
  by_cases h6 : fld u 6 = 1
  · rw [if_pos h6, h6]
    cases sp <;> cases on <;> cases t9 <;> cases t6 <;> rfl
  · rw [if_neg h6]
    have : (fld u 6 == 1) = false := by simpa using h6
    rw [bne, this]
    rw [bne, bne]
    generalize (fld u 7 == 0) = a
    generalize (fld u 8 == 0) = b
    cases a <;> cases b <;> cases t9 <;> cases t6 <;> rfl
theorem placeU (es : List (List Int)) {i : Nat} (hi : i < es.length) : placeR (es.map unitE) i = decide (0 ≤ idxZ (isAt (fld (rec es i) 3) (fld (rec es i) 4)) (es.take i)) := by
  rw [Bool.eq_iff_iff, decide_eq_true_eq]
  unfold placeR
  rw [List.any_eq_true]
  constructor
  · rintro ⟨k, hk, hs⟩
    rw [List.mem_range] at hk
    unfold sameR at hs
    rw [frecU es k (by omega), frecU es i (by omega), frecU es k (by omega), frecU es i (by omega)] at hs
    by_cases hz : idxZ (isAt (fld (rec es i) 3) (fld (rec es i) 4)) (es.take i) < 0
    · have := idxZ_neg_iff.1 hz k (by rw [List.length_take]; omega)
      rw [rec_take hk] at this
      unfold isAt at this
      rw [this] at hs
      cases hs
    · omega
  · intro h
    obtain ⟨hk, hp⟩ := idxZ_at h
    rw [List.length_take] at hk
    have hlt : (idxZ (isAt (fld (rec es i) 3) (fld (rec es i) 4)) (es.take i)).toNat < i := by omega
    refine ⟨_, List.mem_range.2 hlt, ?_⟩
    rw [rec_take hlt] at hp
    unfold sameR
    rw [frecU es _ (by omega), frecU es i (by omega), frecU es _ (by omega), frecU es i (by omega)]
    exact hp
theorem oneAtU (s : St) {i : Nat} (hi : i < s.es.length) : oneAtR false (upS s) i = (entE s.nx s.es i : Nat) := by
  have hr : rec (upS s).es i = unitE (rec s.es i) := recU hi
  have ho : orderR (upS s) i = (decide (s.nx ≤ fld (rec s.es i) 0) || (decide (0 < (i : Int)) && decide (fld (rec s.es i) 0 ≤ fld (rec s.es (i - 1)) 0))) := by
    unfold orderR upS
    rw [frecU s.es i (by omega), frecU s.es (i - 1) (by omega)]
  have hp : placeR (upS s).es i = _ := placeU s.es hi
  unfold oneAtR entE
  rw [hr, ho, hp]
  unfold oneR shapeR
  rw [boundU, ownU]
  cases hb : boundsE (rec s.es i) with
  | false => simp
  | true =>
    have hb6 := (boundsE_true hb).2.2.2.2
    rw [doesU (by omega)]
    cases hw : ownerE (rec s.es i) <;> cases hpl : placeE (rec s.es i) <;> cases htg : targetE (rec s.es i) <;> try (simp; done)
    simp only [Bool.not_true, Bool.false_eq_true, if_false, if_true, Bool.and_true, and_true, Int.lt_irrefl, Bool.or_eq_true, Bool.and_eq_true, decide_eq_true_eq]
    by_cases h1 : (0 < i ∧ fld (rec s.es i) 0 ≤ fld (rec s.es (i - 1)) 0) ∨ s.nx ≤ fld (rec s.es i) 0
    · rw [if_pos h1, if_pos (by omega)]
      rfl
    · rw [if_neg h1, if_neg (by omega)]
      split <;> rfl
theorem find_congr {α : Type} {p q : α → Bool} : ∀ (l : List α), (∀ x ∈ l, p x = q x) → l.find? p = l.find? q
  | [], _ => rfl
  | x :: l, h => by
    rw [List.find?_cons, List.find?_cons, h x (by simp), find_congr l (fun y hy => h y (by simp [hy]))]
theorem firstE_congr {n : Nat} {f g : Nat → Nat} (h : ∀ i, i < n → f i = g i) : firstE n f = firstE n g := by
  unfold firstE
  have e : (List.range n).find? (fun i => f i != 0) = (List.range n).find? (fun i => g i != 0) := by
    refine find_congr _ fun i hi => ?_
    rw [h i (by simpa using hi)]
  rw [e]
  cases hf : (List.range n).find? (fun i => g i != 0) with
  | none => rfl
  | some k =>
    have := List.mem_of_find?_eq_some hf
    exact h k (by simpa using this)
theorem firstU (s : St) : firstR false (upS s) = firstE s.es.length (entE s.nx s.es) := by
  unfold firstR
  have hl : (upS s).es.length = s.es.length := by unfold upS; simp
  rw [hl]
  refine firstE_congr fun i hi => ?_
  rw [oneAtU s hi]
  rfl
theorem mayU (u t : List Int) : mayZ false (unitE u) (unitE t) = if mineE u t = true then 3 else if fightE u t = true then 2 else 0 := by
  have e : mayZ false (unitE u) (unitE t) = if fld t 2 = 4 ∧ 0 < Pl.eLoad (fld u 2) then 3 else if fld t 2 ≠ 4 ∧ fld t 1 ≠ fld u 1 ∧ 0 < Pl.eHarm (fld u 2) then 2 else 0 := rfl
  rw [e]
  unfold mineE fightE
  simp only [Bool.and_eq_true, beq_iff_eq, decide_eq_true_eq, bne_iff_ne]
theorem mine_fight {u t : List Int} (h : mineE u t = true) : fightE u t = false := by
  unfold mineE at h
  rw [Bool.and_eq_true, beq_iff_eq] at h
  unfold fightE
  rw [h.1]
  rfl
theorem may_is {d : Int} (hd : d = 2 ∨ d = 3) (u t : List Int) : mayZ false (unitE u) (unitE t) = d ↔ mayE d u t = true := by
  rw [mayU]
  rcases hd with rfl | rfl
  · have e : mayE 2 u t = fightE u t := by unfold mayE; rw [if_neg (by decide)]
    rw [e]
    cases hm : mineE u t with
    | true => rw [mine_fight hm]; decide
    | false => cases fightE u t <;> decide
  · have e : mayE 3 u t = mineE u t := by unfold mayE; rw [if_pos rfl]
    rw [e]
    cases hm : mineE u t with
    | true => simp
    | false => cases fightE u t <;> decide
theorem aimE_may (es : List (List Int)) (u : List Int) (d t : Int) : aimE es u d t = (decide (0 ≤ idxZ (isId t) es) && mayE d u (rec es (idxZ (isId t) es).toNat)) := by
  unfold aimE mayE
  by_cases h : idxZ (isId t) es < 0
  · rw [if_pos h, decide_eq_false (by omega)]; rfl
  · rw [if_neg h, decide_eq_true (by omega), Bool.true_and]
theorem aimBadU {es : List (List Int)} {i : Nat} (hi : i < es.length) (hb : boundsE (rec es i) = true) (ht : targetE (rec es i) = true) : aimBadR false (es.map unitE) i = false ↔ aimOkE es i := by
  have h9 := (boundsE_true hb).2.2.2.2.2
  unfold aimBadR aimOkE
  rw [recU hi, fldU _ (by omega), fldU _ (by omega), whoU, aimE_may]
  by_cases h0 : fld (rec es i) 9 = 0
  · rw [h0]; simp
  · rw [decide_eq_true h0, Bool.true_and]
    have hp : 0 < fld (rec es i) 9 := by omega
    have hd : fld (rec es i) 6 = 2 ∨ fld (rec es i) 6 = 3 := by
      unfold targetE at ht
      rw [decide_eq_true hp] at ht
      have : (fld (rec es i) 6 == 2 || fld (rec es i) 6 == 3) = true := by simpa using ht
      rw [Bool.or_eq_true, beq_iff_eq, beq_iff_eq] at this
      exact this
    by_cases hw : idxZ (isId (fld (rec es i) 9)) es < 0
    · rw [decide_eq_true hw, decide_eq_false (show ¬ 0 ≤ idxZ (isId (fld (rec es i) 9)) es by omega)]
      simp [hp]
    · rw [decide_eq_false hw, decide_eq_true (show 0 ≤ idxZ (isId (fld (rec es i) 9)) es by omega), Bool.false_or, Bool.true_and, recU (idxZ_at (by omega)).1, bne_eq_false_iff_eq, may_is hd]
      exact ⟨fun h _ => h, fun h => h hp⟩
theorem ups_of {es : List (List Int)} {nx : Int} (hz : ∀ i, i < es.length → entE nx es i = 0) : ∀ i j, i < j → j < es.length → fld (rec es i) 0 < fld (rec es j) 0 := by
  have hup1 : ∀ i, i + 1 < es.length → fld (rec es i) 0 < fld (rec es (i + 1)) 0 := fun i hi => (entE_zero (hz (i + 1) hi)).2.2.2.2.1 (by omega)
  have hup : ∀ d i, i + d + 1 < es.length → fld (rec es i) 0 < fld (rec es (i + d + 1)) 0 := by
    intro d
    induction d with
    | zero => exact fun i hi => hup1 i hi
    | succ d ih =>
      intro i hi
      have h1 := ih i (by omega)
      have h2 := hup1 (i + d + 1) (by omega)
      have e : i + (d + 1) + 1 = i + d + 1 + 1 := by omega
      rw [e]
      omega
  intro i j hij hj
  have h := hup (j - i - 1) i (by omega)
  have e : i + (j - i - 1) + 1 = j := by omega
  rw [e] at h
  exact h
theorem count_ids {es : List (List Int)} (hup : ∀ i j, i < j → j < es.length → fld (rec es i) 0 < fld (rec es j) 0) (id : Int) : (idsE es).count id = if 0 ≤ idxZ (isId id) es then 1 else 0 := by
  have hnd : (idsE es).Nodup := by
    unfold idsE
    rw [List.Nodup, List.pairwise_map]
    have := (all_pair (R := fun a b => fld a 0 < fld b 0)).1 hup
    exact this.imp fun h e => by omega
  by_cases h : 0 ≤ idxZ (isId id) es
  · rw [if_pos h]
    obtain ⟨hk, hp⟩ := idxZ_at h
    have hm : id ∈ idsE es := mem_ids.2 ⟨_, hk, eq_of_beq hp⟩
    have h1 := List.nodup_iff_count.1 hnd id
    have h2 := List.count_pos_iff.2 hm
    omega
  · rw [if_neg h]
    refine List.count_eq_zero_of_not_mem fun hm => ?_
    obtain ⟨k, hk, he⟩ := mem_ids.1 hm
    have := idxZ_neg_iff.1 (show idxZ (isId id) es < 0 by omega) k hk
    unfold isId at this
    rw [he] at this
    simp at this
theorem freeU {s : St} (hup : ∀ i j, i < j → j < s.es.length → fld (rec s.es i) 0 < fld (rec s.es j) 0) : freeR (upS s) = (freeE s.nx s.es s.free : Nat) := by
  have hc : ∀ id, cntR (upS s) id = ((idsE s.es ++ s.free).count id : Nat) := by
    intro id
    have e : cntR (upS s) id = (s.free.count id : Int) + (if 0 ≤ whoZ id (s.es.map unitE) then 1 else 0) := rfl
    rw [e, whoU, List.count_append, count_ids hup]
    split <;> omega
  have hf : freeR (upS s) = if ∀ j, j < (s.nx - 1).toNat → cntR (upS s) ((j : Int) + 1) = 1 then (if (s.free.length : Int) + ((s.es.map unitE).length : Int) = s.nx - 1 then 0 else 3) else 3 := rfl
  rw [hf, List.length_map]
  unfold freeE
  have hiff : (∀ j, j < (s.nx - 1).toNat → cntR (upS s) ((j : Int) + 1) = 1) ↔ ∀ j, j < (s.nx - 1).toNat → (idsE s.es ++ s.free).count ((j : Int) + 1) = 1 := by
    constructor
    · intro h j hj
      have := h j hj
      rw [hc] at this
      omega
    · intro h j hj
      rw [hc, h j hj]
      rfl
  by_cases h1 : ∀ j, j < (s.nx - 1).toNat → (idsE s.es ++ s.free).count ((j : Int) + 1) = 1
  · rw [if_pos (hiff.2 h1), if_pos h1]
    by_cases h2 : (s.es.length : Int) + (s.free.length : Int) = s.nx - 1
    · rw [if_pos (by omega), if_pos h2]; rfl
    · rw [if_neg (by omega), if_neg h2]; rfl
  · rw [if_neg (fun h => h1 (hiff.1 h)), if_neg h1]
    split <;> rfl
theorem faultU (s : St) : faultR false (upS s) = (checkE s.t s.g0 s.g1 s.nx s.free s.es : Nat) := by
  have hm : manyR (upS s) = decide (20 < s.es.length ∨ 200 < s.free.length) := by
    have e : manyR (upS s) = (decide (20 < ((s.es.map unitE).length : Int)) || decide (200 < (s.free.length : Int))) := rfl
    rw [e, List.length_map, Bool.eq_iff_iff]
    simp only [Bool.or_eq_true, decide_eq_true_eq]
    omega
  unfold faultR checkE
  rw [headU, hm]
  have hst : stateE s.t s.g0 s.g1 s.nx s.free.length s.es.length = if (inZ s.t 0 60 && (inZ s.nx 1 201 && (inZ s.g0 0 40 && inZ s.g1 0 40))) = true then (if 20 < s.es.length ∨ 200 < s.free.length then 2 else 0) else 1 := by
    unfold stateE
    cases inZ s.t 0 60 <;> cases inZ s.nx 1 201 <;> cases inZ s.g0 0 40 <;> cases inZ s.g1 0 40 <;> simp
  rw [hst]
  cases hh : (inZ s.t 0 60 && (inZ s.nx 1 201 && (inZ s.g0 0 40 && inZ s.g1 0 40))) with
  | false => simp
  | true =>
    by_cases hmm : 20 < s.es.length ∨ 200 < s.free.length
    · rw [decide_eq_true hmm]
      simp [hmm]
    · rw [decide_eq_false hmm]
      simp only [Bool.not_true, Bool.false_eq_true, if_false, if_true, hmm]
      unfold tailR
      rw [firstU]
      by_cases hf : firstE s.es.length (entE s.nx s.es) = 0
      · rw [if_pos hf, if_pos hf]
        have hz := firstE_zero hf
        have hiff : (∀ i, i < (upS s).es.length → aimBadR false (upS s).es i = false) ↔ ∀ i, i < s.es.length → aimOkE s.es i := by
          have hl : (upS s).es.length = s.es.length := by unfold upS; simp
          rw [hl]
          constructor
          · intro h i hi
            exact (aimBadU hi (entE_zero (hz i hi)).1 (entE_zero (hz i hi)).2.2.2.1).1 (h i hi)
          · intro h i hi
            exact (aimBadU hi (entE_zero (hz i hi)).1 (entE_zero (hz i hi)).2.2.2.1).2 (h i hi)
        by_cases ha : ∀ i, i < s.es.length → aimOkE s.es i
        · rw [if_pos (hiff.2 ha), if_pos ha]
          simp only [Bool.false_eq_true, if_false]
          exact freeU (ups_of hz)
        · rw [if_neg (fun h => ha (hiff.1 h)), if_neg ha]
          rfl
      · rw [if_neg hf, if_neg hf]
end Go.Proofs.Ytgiieepfhohmhaa
